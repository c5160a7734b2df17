/-
  Rules as texts: the words of a line read as a rule, a text's rules, or the first fault. Plain mathematics: no program is named here.
  Plain mathematics of ternary headers as lists of bytes, and of the two words in which the program keeps a set of places. No program is named here.
  The program's walk over all nodes of an expression, where what is done with each may write memory of its own.
  The document's spans of any expression that may be, and its Match.
-/
import Derived.Test.YtnmmfbhmfcabhaaGreatDoorZChainAnd
import Derived.Test.YtnmmfbhmfcabhaaGreatDoorXAddAnd
import Derived.Test.YtnmmfbhmfcabhaaGreatDoorWBuildAnd
import Derived.Lib.SlicesCompact
namespace Go.Proofs.YtnmmfbhmfcabhaaGreatDoor
open Go.RowKit

theorem spans_any (r : Rx) {ps : Whos} (hn : ps.length ≤ 30) : Rx.all nodeB r = true → r.nodes ≤ 1000 → SpanC r ps := by
  induction r using Rx.ind with
  | h r ih =>
    intro hb hm
    obtain ⟨h1, h2⟩ := (Rx.all_iff _ _).1 hb
    have hk := r.nodes_kids
    have hl := length_le r.kids
    have IH : ∀ k ∈ r.kids, SpanC k ps := fun k hkm => ih k hkm (h2 k hkm) (by have := nodesL_mem hkm; omega)
    have hnb := h1
    unfold nodeB at hnb
    by_cases o1 : r.op = 1 ∨ r.op = 2
    · exact spans_leaf (by omega) hn
    rw [if_neg o1] at hnb
    by_cases o3 : r.op = 3
    · exact spans_leaf (by omega) hn
    rw [if_neg o3] at hnb
    by_cases o4 : r.op = 4
    · exact spans_seq o4 (by omega) hn IH
    rw [if_neg o4] at hnb
    by_cases o5 : r.op = 5
    · exact spans_alt o5 (by omega) hn IH
    rw [if_neg o5] at hnb
    by_cases o6 : r.op = 6 ∨ r.op = 7 ∨ r.op = 8
    · rw [if_pos o6, Bool.and_eq_true, decide_eq_true_eq] at hnb
      rcases o6 with o | o | o
      · exact spans_star o hnb.2 hn IH
      · exact spans_plus o hnb.2 hn IH
      · exact spans_opt o hnb.2 hn IH
    · rw [if_neg o6] at hnb; cases hnb

set_option maxRecDepth 20000 in
set_option maxHeartbeats 2000000 in
theorem RMatch_any {w : World} {v vp : Value} {r : Rx} {ps : Whos} (hS : RxS w v r.kids) (hF : r.Fit) (hP : PathAt w vp ps) (hn : ps.length ≤ 30) :
    Calls Tryz.prog 20 #[.agg #[.int .i64 r.op, .string (tx r.name), v], vp] w fun e w' => e = .returned (.tuple #[.bool (if chkN r = 0 then matchB r ps else false), .int .i64 (chkN r)]) ∧ Below w.heap.size w w' := by
  have HCK := hid (fun (W : World) (hb : Below w.heap.size w W) => RCheck_any (r := r) (hS.on hb) hF)
  have HSP := hid (fun (hc : chkN r = 0) (W : World) (hb : Below w.heap.size w W) => spans_any r hn (chk_zero hc).1 (chk_zero hc).2 W _ _ (hS.on hb) (hP.on hb))
  unfold SpanPost at HSP
  have HMT := hid (fun (hc : chkN r = 0) (f : Nat → Nat → Bool) (h : TabOf f r.L ps) => (by
    rw [Bool.eq_iff_iff, h 0 ps.length (Nat.zero_le _) (Nat.le_refl _), matchB_iff (chk_zero hc).1]
    unfold spn
    rw [segP_all]
    exact ⟨fun h => h.2, fun h => ⟨Nat.zero_le _, h⟩⟩ : f 0 ps.length = matchB r ps))
  obtain ⟨ao, cap, rfl, -⟩ := hS.at
  obtain ⟨po, pc, rfl⟩ := hP.cut
  obtain ⟨n, hnn⟩ : ∃ n, n = ps.length := ⟨_, rfl⟩
  rw [← hnn] at HSP HMT hn ⊢
  have HB0 := hid (boxed.start w r (.slice ao r.kids.length cap))
  obtain ⟨kn, hkn⟩ : ∃ kn, kn = r.kids.length := ⟨_, rfl⟩
  rw [← hkn] at HCK HSP HB0 ⊢
  obtain ⟨c, hc⟩ : ∃ c, c = chkN r := ⟨_, rfl⟩
  have hcl : c ≤ 1000 := by rw [hc]; unfold chkN; split <;> (try split) <;> (try split) <;> omega
  obtain ⟨mb, hmb⟩ : ∃ mb, mb = matchB r ps := ⟨_, rfl⟩
  rw [← hc] at HCK HSP HMT
  rw [← hc, ← hmb]
  rw [← hmb] at HMT
  clear hS hF hP hnn hkn hc hmb
  by_cases h0 : c = 0
  · subst h0
    rw [if_pos rfl]
    have HS2 := hid (HSP.out rfl)
    have HM2 := hid (HMT.out rfl)
    clear HSP HMT
    go_enter Tryz.func20, Tryz.ntmps20
    go_wp2_with fail
    refine (HCK.out _ HB0.out.low).mono ?_
    rintro en w1 ⟨rfl, hb1⟩
    have B1 := hid (HB0.out.on hb1)
    obtain ⟨c0, c1, c2⟩ := B1.out.cells
    clear hb1
    go_wp2_with fail
    refine (HS2.out w1 B1.out.low).mono ?_
    rintro en w2 ⟨f, OF, g, cap2, rws, rfl, T2, L2⟩
    have B2 := hid (B1.out.on L2.out)
    have hn0 : (0 : Int) < (n : Int) + 1 := by omega
    have hnn0 : (0 : Int) ≤ (n : Int) := by omega
    have hnn1 : (n : Int) < (n : Int) + 1 := by omega
    have o0 := T2.out.cell 0 (by omega)
    have o1 := T2.out.at (i := 0) (j := n) (by omega) (by omega)
    rw [HM2.out f OF] at o1
    obtain ⟨x3, hx3⟩ : ∃ x3, x3 = rws 0 := ⟨_, rfl⟩
    rw [← hx3] at o0 o1
    clear OF hx3 T2 L2 c0 c1 c2
    go_wp2
    exact bodyPost_ret (v := .tuple #[.bool mb, .int .i64 0]) (by simp [results, Tryz.results20, go_sem]) rfl ⟨rfl, B2.out.low⟩
  · have hcI : ((c : Int) == 0) = false := by rw [beq_eq_false_iff_ne]; omega
    rw [if_neg h0]
    clear HSP HMT h0
    go_enter Tryz.func20, Tryz.ntmps20
    go_wp2_with fail
    refine (HCK.out _ HB0.out.low).mono ?_
    rintro en w1 ⟨rfl, hb1⟩
    have B1 := hid (HB0.out.on hb1)
    clear hb1
    go_wp2
    exact bodyPost_ret (v := .tuple #[.bool false, .int .i64 c]) (by simp [results, Tryz.results20, go_sem]) rfl ⟨rfl, B1.out.low⟩
end Go.Proofs.YtnmmfbhmfcabhaaGreatDoor
namespace Go.Proofs.YtnmmfbhmfcabhaaGreatDoor
open Go.RowKit Go.Shelf
attribute [local go_sem] Oper.semAt_some

/-- What lay in a world stays, and so do all expressions' own boxes. -/
structure KW (w0 A B : World) : Prop where
  size : A.heap.size ≤ B.heap.size
  low : ∀ b, b < w0.heap.size → b < A.heap.size → B.heap[b]? = A.heap[b]?
  regs : ∀ (b : Nat) (cs : Array Value) (fr : Nat × Nat), A.heap[b]? = some (.cells cs 25 fr) → B.heap[b]? = some (.cells cs 25 fr)
theorem KW.refl (w0 A : World) : KW w0 A A := ⟨Nat.le_refl _, fun _ _ _ => rfl, fun _ _ _ h => h⟩
theorem KW.trans {w0 A B C : World} (h : KW w0 A B) (k : KW w0 B C) : KW w0 A C := ⟨Nat.le_trans h.size k.size, fun b h0 hA => (k.low b h0 (Nat.lt_of_lt_of_le hA h.size)).trans (h.low b h0 hA), fun b cs fr q => k.regs b cs fr (h.regs b cs fr q)⟩
theorem KW.of_below {w0 A B : World} (h : Below A.heap.size A B) : KW w0 A B := ⟨h.size, fun b _ hA => h.block b hA, fun b _ _ q => (h.block b (lt_of_block q)).trans q⟩
theorem kW_b (w0 W : World) (l : Nat) (o o' : Obj) (hl : w0.heap.size ≤ l) (h : W.heap[l]? = some o) (hc : o.isCells = false) : KW w0 W (W.putObj l o') := by
  refine ⟨(grownBy_putObj' W l o').size, fun b hb hA => ?_, fun b cs fr q => ?_⟩
  · exact (grownBy_putObj' W l o').block b hA (fun e => by injection e with e; omega)
  · rw [(grownBy_putObj' W l o').block b (lt_of_block q) (fun e => by
      injection e with e
      subst e
      rw [h] at q
      injection q with q
      rw [q] at hc
      cases hc)]
    exact q
theorem KW.cell {w0 B : World} (h : KW w0 w0 B) {p : Addr} {v : Value} (hp : w0.cell? p = some v) : B.cell? p = some v := by
  have hb : p.block < w0.heap.size := World.block_lt_of_cell? w0 _ hp
  exact (World.cell?_of_block (h.low _ hb hb)).trans hp

/-- A node that may be, of an expression that lies in w0. -/
abbrev NxB (w0 : World) : Type := { x : Rx × Value // RxS w0 x.2 x.1.kids ∧ x.1.kids.length ≤ 1000000 ∧ nodeB x.1 = true }
abbrev nxEB {w0 : World} (x : NxB w0) : Array Value := #[.agg #[.int .i64 x.1.1.op, .string (tx x.1.1.name), x.1.2]]
abbrev nxRB {w0 : World} (l : List (NxB w0)) : List Rx := l.map fun x => x.1.1

set_option maxRecDepth 100000 in
set_option maxHeartbeats 2000000 in
theorem walkW_in {w0 : World} {l N B : Nat} {J Jx : List (NxB w0) → World → Prop} (hJ : AbidesFrom B J)
    (hY : ∀ m pre (x : NxB w0) W, J pre W → pre.length < N → YieldAt Fence.wide m Tryz.prog l (nxEB x) W fun e W' => (e = .returned (.bool true) ∧ J (pre ++ [x]) W' ∧ KW w0 W W') ∨ (e = .returned (.bool false) ∧ Jx (pre ++ [x]) W')) (r : Rx) :
    ∀ (n : Nat) (v : Value) (pre : List (NxB w0)) (W : World), RxS w0 v r.kids → r.nodes ≤ 1000000 → Rx.all nodeB r = true → KW w0 w0 W → J pre W → pre.length + r.nodes ≤ N →
      CallsIn Fence.wide n Tryz.prog 81 #[.agg #[.int .i64 r.op, .string (tx r.name), v], .func (.yield l) #[] #[]] W fun e W' =>
        (e = .returned (.bool true) ∧ ∃ L : List (NxB w0), nxRB L = r.pre ∧ J (pre ++ L) W' ∧ KW w0 W W') ∨ (e = .returned (.bool false) ∧ ∃ q : List (NxB w0), nxRB q <+: r.pre ∧ Jx (pre ++ q) W') := by
  induction r using Rx.ind with
  | h r ih =>
    intro n v pre W hS hn hF hK hJ0 hN
    have hnk := r.nodes_kids
    have hlk := length_le r.kids
    have hnp := r.nodes_pos
    obtain ⟨x, hx⟩ : ∃ x : NxB w0, x = ⟨(r, v), hS, (by show r.kids.length ≤ _; omega), ((Rx.all_iff _ _).1 hF).1⟩ := ⟨⟨(r, v), hS, (by show r.kids.length ≤ _; omega), ((Rx.all_iff _ _).1 hF).1⟩, rfl⟩
    have hx1 : x.1 = (r, v) := by rw [hx]
    have HPE := hid r.pre_eq
    obtain ⟨ao, cap, rfl, hat⟩ := hS.at
    have HAT := hid hat
    obtain ⟨m, hm⟩ : ∃ m, m = r.kids.length := ⟨_, rfl⟩
    have HM := hid hm
    rw [← hm] at hx1 ⊢
    have hYx := hY (n - 1) pre x (W.alloc (rxo r.op r.name (.slice ao m cap))) (new_abides hJ _ hJ0) (by omega)
    rw [show nxEB x = #[.agg #[.int .i64 r.op, .string (tx r.name), .slice ao m cap]] by unfold nxEB; rw [hx1]] at hYx
    have HX1 := hid hx1
    have HIH := hid (fun (k : Rx) (hk : k ∈ r.kids) (u : Value) (pr : List (NxB w0)) (V : World) (hu : RxS w0 u k.kids) (hV : KW w0 w0 V) (hj : J pr V) (hl : pr.length + k.nodes ≤ N) => ih k hk (n - 1) u pr V hu (by have := nodesL_mem hk; omega) (((Rx.all_iff _ _).1 hF).2 _ hk) hV hj hl)
    have HK0 := hid (show KW w0 W (W.alloc (rxo r.op r.name (.slice ao m cap))) from KW.of_below (w0 := w0) ((Below.refl _ _).alloc (Nat.le_refl _) _))
    have HKW := hid hK
    have HJ := hid hJ
    have HBX := hid (new_0 W (rxo r.op r.name (.slice ao m cap)))
    have hmb : m ≤ 1000000 := by omega
    obtain ⟨op, hop⟩ : ∃ op, op = r.op := ⟨_, rfl⟩
    obtain ⟨nm, hnm⟩ : ∃ nm, nm = r.name := ⟨_, rfl⟩
    rw [← hop, ← hnm] at hYx HK0 HBX ⊢
    obtain ⟨fn, tmps, assign, body, hy, hR⟩ := hYx.mono (R' := fun e W' => (e = .returned (.bool true) ∧ W'.cell? ⟨W.heap.size, 2, none⟩ = some (.slice ao m cap) ∧ Hid (J (pre ++ [x]) W' ∧ KW w0 (W.alloc (rxo op nm (.slice ao m cap))) W')) ∨ (e = .returned (.bool false) ∧ Hid (Jx (pre ++ [x]) W'))) (fun e W' h => by
      rcases h with ⟨rfl, q⟩ | ⟨rfl, q⟩
      · exact Or.inl ⟨rfl, by rw [cell_at (q.2.regs _ _ _ HBX.out)]; rfl, q⟩
      · exact Or.inr ⟨rfl, q⟩)
    clear hY ih hS hat hm hx hx1 hYx hop hnm hJ hK hJ0 hnp hF hn hlk
    have hdd : ∀ k : Nat, (Fence.wide.depth.isSome = true → 1 ≤ k) := fun k h => by cases h
    refine callsIn_of_wp Tryz.func81 rfl trivial ?_ rfl
    simp only [Tryz.ntmps81, List.size_toArray, List.length_cons, List.length_nil, Nat.reduceAdd, Nat.reduceSub, Array.replicate_succ, Array.replicate_zero, List.push_toArray, List.append_toArray, List.nil_append, List.cons_append]
    gi_wp2_with (first | (refine ⟨hdd _, ?_⟩; refine hR.mono ?_; clear hR; rintro e W2 (⟨rfl, d2, HE⟩ | ⟨rfl, HE⟩)))
    rotate_left
    · go_ret
      exact .inr ⟨rfl, [x], by show [x.1.1] <+: r.pre; rw [HX1.out, HPE.out]; exact ⟨_, rfl⟩, HE.out⟩
    · have HJ2 := hid HE.out.1
      have HK2 := hid HE.out.2
      clear HE
      gi_loopw [14] (fun i wr => ∃ (j : Nat) (L : List (NxB w0)), j ≤ m ∧ i = .int .i64 j ∧ Hid (nxRB L = r :: preL (r.kids.take j) ∧ J (pre ++ L) wr ∧ KW w0 W wr)) (fun i _ => m - (intOf i).toNat)
      case atStart => exact ⟨0, [x], Nat.zero_le _, rfl, by show [x.1.1] = _; rw [HX1.out]; simp [preL], HJ2.out, HK0.out.trans HK2.out⟩
      case round =>
        clear d2
        obtain ⟨j, L, hj, rfl, HI⟩ := hrel
        by_cases hlt : j < m
        · obtain ⟨k, hk⟩ : ∃ k, r.kids[j]? = some k := ⟨r.kids[j]'(by rw [← HM.out]; exact hlt), List.getElem?_eq_getElem _⟩
          obtain ⟨g, o, rfl, hg, hcell⟩ : ∃ g o, ao = some ⟨g, o, none⟩ ∧ g < w0.heap.size ∧ ∀ (i : Nat) (k : Rx), r.kids[i]? = some k → ∃ u un uc, w0.cell? ⟨g, o + i * 3, none⟩ = some (.int .i64 k.op) ∧ w0.cell? ⟨g, o + i * 3 + 1, none⟩ = some (.string (tx k.name)) ∧ w0.cell? ⟨g, o + i * 3 + 2, none⟩ = some (.slice u un uc) ∧ un = k.kids.length ∧ RxS w0 (.slice u un uc) k.kids := by
            rcases HAT.out with e | h
            · rw [e] at hk; simp at hk
            · exact h
          obtain ⟨u, un, uc, a0, a1, a2, -, hr⟩ := hcell j k hk
          have HKV := hid (HKW.out.trans HI.out.2.2)
          have k0 := HKV.out.cell a0
          have k1 := HKV.out.cell a1
          have k2 := HKV.out.cell a2
          have HTK := hid (take_snocR hk)
          have hkI : (j : Int) < (m : Int) := by omega
          have hk0 : (0 : Int) ≤ (j : Int) := by omega
          have HLL := hid (show (pre ++ L).length + k.nodes ≤ N by
            have e1 : L.length = 1 + nodesL (r.kids.take j) := by
              have := congrArg List.length HI.out.1
              rw [List.length_map, List.length_cons, preL_len] at this
              omega
            have e2 := nodesL_take (ks := r.kids) (j + 1)
            rw [HTK.out, nodesL_snoc] at e2
            rw [List.length_append]
            omega)
          have HC := hid (fun (ob : Obj) => (HIH.out k (List.mem_of_getElem? hk) (.slice u un uc) (pre ++ L) (wr.alloc ob) hr (HKV.out.trans (KW.of_below (w0 := w0) ((Below.refl _ _).alloc (Nat.le_refl _) _))) (new_abides HJ.out _ HI.out.2.1) HLL.out).mono (R' := fun e W' => (e = .returned (.bool true) ∧ Hid (∃ L' : List (NxB w0), nxRB L' = k.pre ∧ J (pre ++ L ++ L') W' ∧ KW w0 (wr.alloc ob) W')) ∨ (e = .returned (.bool false) ∧ Hid (∃ q : List (NxB w0), nxRB q <+: k.pre ∧ Jx (pre ++ L ++ q) W'))) (fun e W' h => h.imp (fun ⟨h1, h2⟩ => ⟨h1, h2⟩) (fun ⟨h1, h2⟩ => ⟨h1, h2⟩)))
          clear hk a0 a1 a2 hr hcell HLL
          gi_wp2_with (refine ⟨trivial, hdd _, ?_⟩; refine (HC.out _).mono ?_; rintro e W3 (⟨rfl, HE⟩ | ⟨rfl, HE⟩))
          rotate_left
          · go_ret
            obtain ⟨q, hq, hjx⟩ := HE.out
            refine .inr ⟨rfl, L ++ q, ?_, by rw [← List.append_assoc]; exact hjx⟩
            have e1 : nxRB (L ++ q) = r :: (preL (r.kids.take j) ++ nxRB q) := by rw [show nxRB (L ++ q) = nxRB L ++ nxRB q from List.map_append .., HI.out.1]; rfl
            rw [e1, HPE.out]
            have e2 : preL (r.kids.take (j + 1)) = preL (r.kids.take j) ++ k.pre := by rw [HTK.out, preL_snoc]
            have e3 := preL_take r.kids (j + 1)
            rw [e2] at e3
            exact List.prefix_cons_inj r |>.2 (((List.prefix_append_right_inj _).2 hq).trans e3)
          · obtain ⟨L', hL', hj3, hk3⟩ := HE.out
            have HNX := hid (show nxRB (L ++ L') = r :: preL (r.kids.take (j + 1)) ∧ J (pre ++ (L ++ L')) W3 ∧ KW w0 W W3 from ⟨by rw [show nxRB (L ++ L') = nxRB L ++ nxRB L' from List.map_append .., HI.out.1, hL', HTK.out, preL_snoc]; rfl, by rw [← List.append_assoc]; exact hj3, HI.out.2.2.trans ((KW.of_below (w0 := w0) ((Below.refl _ _).alloc (Nat.le_refl _) _)).trans hk3)⟩)
            clear HE hL' hj3 hk3
            go_roundw
            case rel => exact ⟨j + 1, L ++ L', by omega, by simp, HNX⟩
            case measure => simp [intOf]; omega
        · have hkI : ¬ ((j : Int) < (m : Int)) := by omega
          have HE := hid (show r.kids.take j = r.kids from List.take_of_length_le (by have := HM.out; omega))
          gi_wp2
          go_ret
          exact .inl ⟨rfl, L, by rw [HI.out.1, HE.out, HPE.out]; rfl, HI.out.2.1, HI.out.2.2⟩
set_option maxRecDepth 100000 in
set_option maxHeartbeats 2000000 in
theorem nodesW_stops {w0 : World} {n bt : Nat} {r : Rx} {v : Value} (w : World) (hS : RxS w0 v r.kids) (hn : r.nodes ≤ 1000000) (hF : Rx.all nodeB r = true) (hK : KW w0 w0 w) (hb : w.heap[bt]? = some (rxo r.op r.name v)) :
    SeqStopsK Fence.wide n Tryz.prog 80 #[.pointer (some ⟨bt, 0, none⟩)] (fun x : NxB w0 => nxEB x) (KW w0) (fun xs => nxRB xs = r.pre) (fun pre => nxRB pre <+: r.pre) r.nodes w := fun l J Jx W hW hJ hJx hY h0 => by
  have hb' := (hW.block bt (lt_of_block hb)).trans hb
  have c0 : W.cell? ⟨bt, 0, none⟩ = some (.int .i64 r.op) := by rw [cell_at hb']; rfl
  have c1 : W.cell? ⟨bt, 1, none⟩ = some (.string (tx r.name)) := by rw [cell_at hb']; rfl
  have c2 : W.cell? ⟨bt, 2, none⟩ = some v := by rw [cell_at hb']; rfl
  have hp := walkW_in hJ (fun m pre x W hj hl => yield_deep (hY pre x W hj hl)) r (n - 1) v [] W hS hn hF (hK.trans (KW.of_below (w0 := w0) hW)) h0 (by simp)
  have hdd : ∀ k : Nat, (Fence.wide.depth.isSome = true → 1 ≤ k) := fun k h => by cases h
  obtain ⟨ao, cap, rfl, -⟩ := hS.at
  clear hb' hY hJx h0 hS hb
  refine callsIn_of_wp Tryz.func80 rfl trivial ?_ rfl
  simp only [Tryz.ntmps80, List.size_toArray, List.length_cons, List.length_nil, Nat.reduceAdd, Nat.reduceSub, Array.replicate_succ, Array.replicate_zero, List.push_toArray, List.append_toArray, List.nil_append, List.cons_append]
  gi_wp2_with (refine ⟨trivial, hdd _, ?_⟩; refine hp.mono ?_; clear hp; rintro e W1 (⟨rfl, L, hL, hJ1, -⟩ | ⟨rfl, q, hq, hx⟩))
  · go_end0
    exact ⟨⟨_, rfl⟩, .inl ⟨L, hL, by simpa using hJ1⟩⟩
  · go_end0
    exact ⟨⟨_, rfl⟩, .inr ⟨q, hq, by simpa using hx⟩⟩
end Go.Proofs.YtnmmfbhmfcabhaaGreatDoor
namespace Go.Proofs.YtnmmfbhmfcabhaaGreatDoor.Cub
namespace Cu

/-- The word whose bit i (i < n) is p i. -/
def word (p : Nat → Bool) : Nat → Nat
  | 0 => 0
  | n + 1 => word p n ||| (if p n then 2 ^ n else 0)

theorem testBit_word (p : Nat → Bool) (n i : Nat) : (word p n).testBit i = (decide (i < n) && p i) := by
  induction n with
  | zero => simp [word]
  | succ n ih =>
    rw [word, Nat.testBit_or, ih]
    by_cases hp : p n
    · rw [if_pos hp, Nat.testBit_two_pow]
      by_cases e : n = i
      · subst e; simp [hp]
      · have : (i < n + 1) ↔ i < n := by omega
        simp [e, this]
    · rw [if_neg hp]
      by_cases e : i = n
      · subst e; simp [hp]
      · have : (i < n + 1) ↔ i < n := by omega
        simp [this]

theorem word_lt (p : Nat → Bool) (n : Nat) : word p n < 2 ^ n := by
  refine Nat.lt_pow_two_of_testBit _ fun i hi => ?_
  rw [testBit_word]
  simp; omega

theorem word_eq {p : Nat → Bool} {x : Nat} (n : Nat) (hx : x < 2 ^ n) (h : ∀ i, i < n → x.testBit i = p i) : x = word p n := by
  refine Nat.eq_of_testBit_eq fun i => ?_
  rw [testBit_word]
  by_cases hi : i < n
  · simp [hi, h i hi]
  · have : x.testBit i = false := Nat.testBit_lt_two_pow (Nat.lt_of_lt_of_le hx (Nat.pow_le_pow_right (by omega) (by omega)))
    simp [hi, this]

/-- Word k of a set of places. -/
def wd (p : Nat → Bool) (k : Nat) : Nat := word (fun i => p (64 * k + i)) 64
theorem wd_lt (p : Nat → Bool) (k : Nat) : wd p k < 18446744073709551616 := word_lt _ 64
theorem testBit_wd (p : Nat → Bool) (k i : Nat) : (wd p k).testBit i = (decide (i < 64) && p (64 * k + i)) := testBit_word _ _ _
theorem wd_eq {p : Nat → Bool} {x k : Nat} (hx : x < 18446744073709551616) (h : ∀ i, i < 64 → x.testBit i = p (64 * k + i)) : x = wd p k :=
  word_eq 64 hx h
theorem wd_congr {p q : Nat → Bool} {k : Nat} (h : ∀ i, i < 64 → p (64 * k + i) = q (64 * k + i)) : wd p k = wd q k :=
  wd_eq (wd_lt _ _) fun i hi => by rw [testBit_wd]; simp [hi, h i hi]

theorem or_lt {a b : Nat} (ha : a < 18446744073709551616) (hb : b < 18446744073709551616) : a ||| b < 18446744073709551616 := Nat.or_lt_two_pow (n := 64) ha hb
theorem and_lt {a b : Nat} (ha : a < 18446744073709551616) : a &&& b < 18446744073709551616 := Nat.lt_of_le_of_lt Nat.and_le_left ha
theorem xor_lt {a b : Nat} (ha : a < 18446744073709551616) (hb : b < 18446744073709551616) : a ^^^ b < 18446744073709551616 := Nat.xor_lt_two_pow (n := 64) ha hb
theorem pow_lt {i : Nat} (hi : i < 64) : 2 ^ i < 18446744073709551616 := Nat.pow_lt_pow_right (a := 2) (by omega) hi

/-- Is the place fixed? is it 1? (behind the end: free) -/
def fixAt (l : List UInt8) (i : Nat) : Bool := l[i]? == some 48 || l[i]? == some 49
def oneAt (l : List UInt8) (i : Nat) : Bool := l[i]? == some 49

/-- A byte of a cube; a cube. -/
def sym (c : UInt8) : Bool := c == 48 || c == 49 || c == 120
def right (l : List UInt8) : Bool := l.all sym && decide (1 ≤ l.length) && decide (l.length ≤ 128)

/-- Two words, bit by bit: is the and of them nought? -/
theorem and_ne_zero {x y : Nat} : (x &&& y = 0) ↔ ∀ i, (x.testBit i && y.testBit i) = false := by
  constructor
  · intro h i
    have := congrArg (fun z => z.testBit i) h
    simpa [Nat.testBit_and] using this
  · intro h
    refine Nat.eq_of_testBit_eq fun i => ?_
    rw [Nat.testBit_and, h i]; simp

/-- One bit more of a word. -/
def updw (p : Nat → Bool) (j : Nat) : Nat → Bool := fun i => p i || decide (i = j)
theorem wd_upd_same (p : Nat → Bool) (j : Nat) : wd p (j / 64) ||| 2 ^ (j % 64) = wd (updw p j) (j / 64) := by
  refine wd_eq (or_lt (wd_lt _ _) (pow_lt (by omega))) fun i hi => ?_
  rw [Nat.testBit_or, testBit_wd, Nat.testBit_two_pow]
  simp only [hi, updw, decide_true, Bool.true_and]
  congr 1
  apply decide_eq_decide.2
  omega
theorem wd_upd_other (p : Nat → Bool) (j k : Nat) (h : k ≠ j / 64) : wd (updw p j) k = wd p k := by
  refine wd_congr fun i hi => ?_
  have : ¬ (64 * k + i = j) := by omega
  simp [updw, this]

/-- One bit more, if that is said. -/
def setOne (q : Nat → Bool) (j : Nat) (one : Bool) : Nat → Bool := fun i => q i || (one && decide (i = j))

theorem get_snoc (l : List UInt8) (c : UInt8) (i : Nat) : (l ++ [c])[i]? = if i = l.length then some c else l[i]? := by
  by_cases h : i < l.length
  · rw [List.getElem?_append_left h, if_neg (by omega)]
  · rw [List.getElem?_append_right (by omega)]
    by_cases e : i = l.length
    · subst e; simp
    · rw [if_neg e, List.getElem?_eq_none (by simp; omega), List.getElem?_eq_none (by omega)]

theorem fixAt_end (l : List UInt8) : fixAt l l.length = false := by simp [fixAt]
theorem oneAt_end (l : List UInt8) : oneAt l l.length = false := by simp [oneAt]
theorem fixAt_snoc (l : List UInt8) (c : UInt8) (h : c = 48 ∨ c = 49) : fixAt (l ++ [c]) = updw (fixAt l) l.length := by
  funext i
  simp only [fixAt, updw, get_snoc]
  by_cases e : i = l.length
  · rw [if_pos e]; rcases h with rfl | rfl <;> simp [e]
  · rw [if_neg e]; simp [e]
theorem oneAt_snoc (l : List UInt8) (c : UInt8) : oneAt (l ++ [c]) = setOne (oneAt l) l.length (c == 49) := by
  funext i
  simp only [oneAt, setOne, get_snoc]
  by_cases e : i = l.length
  · rw [if_pos e]; simp [e]
  · rw [if_neg e]; simp [e]
theorem fixAt_snoc_x (l : List UInt8) : fixAt (l ++ [120]) = fixAt l := by
  funext i
  simp only [fixAt, get_snoc]
  by_cases e : i = l.length
  · rw [if_pos e]; subst e; simp
  · rw [if_neg e]
theorem oneAt_snoc_x (l : List UInt8) : oneAt (l ++ [120]) = oneAt l := by
  rw [oneAt_snoc]; funext i; simp [setOne]
theorem sym_cases {c : UInt8} (h : sym c = true) : c = 48 ∨ c = 49 ∨ c = 120 := by
  simp only [sym, Bool.or_eq_true, beq_iff_eq] at h
  rcases h with (h | h) | h <;> simp [h]

/-- Do two cubes meet? what they have in common; does the one lie inside the other? -/
def meetsB (a b : List UInt8) : Bool := (List.zip a b).all fun x => x.1 == x.2 || x.1 == 120 || x.2 == 120
def meetL (a b : List UInt8) : List UInt8 := List.zipWith (fun x y => if x == 120 then y else x) a b
def insideB (a b : List UInt8) : Bool := (List.zip a b).all fun x => x.1 == x.2 || x.2 == 120

theorem zip_all {a b : List UInt8} (h : a.length = b.length) (f : UInt8 × UInt8 → Bool) : (List.zip a b).all f = true ↔ ∀ i (hi : i < a.length), f (a[i], b[i]'(h ▸ hi)) = true := by
  rw [List.all_eq_true]
  constructor
  · intro H i hi
    refine H _ ?_
    have hz : i < (List.zip a b).length := by simp [← h, hi]
    have := List.getElem_mem hz
    simpa using this
  · intro H x hx
    obtain ⟨i, hi, rfl⟩ := List.getElem_of_mem hx
    have hi' : i < a.length := by simp at hi; omega
    simpa using H i hi'

theorem right_all {l : List UInt8} (h : right l = true) : l.all sym = true ∧ 1 ≤ l.length ∧ l.length ≤ 128 := by
  simp only [right, Bool.and_eq_true, decide_eq_true_eq] at h
  exact ⟨h.1.1, h.1.2, h.2⟩
theorem sym_at {l : List UInt8} (h : l.all sym = true) (i : Nat) (hi : i < l.length) : l[i] = 48 ∨ l[i] = 49 ∨ l[i] = 120 :=
  sym_cases (List.all_eq_true.1 h _ (List.getElem_mem hi))

theorem fixAt_lt {l : List UInt8} {i : Nat} (hi : i < l.length) : fixAt l i = (l[i] == 48 || l[i] == 49) := by
  simp [fixAt, List.getElem?_eq_getElem hi]
theorem oneAt_lt {l : List UInt8} {i : Nat} (hi : i < l.length) : oneAt l i = (l[i] == 49) := by
  simp [oneAt, List.getElem?_eq_getElem hi]
theorem fixAt_ge {l : List UInt8} {i : Nat} (hi : l.length ≤ i) : fixAt l i = false := by
  simp [fixAt, List.getElem?_eq_none hi]
theorem oneAt_ge {l : List UInt8} {i : Nat} (hi : l.length ≤ i) : oneAt l i = false := by
  simp [oneAt, List.getElem?_eq_none hi]

/-- Two cubes part at place i. -/
def partAt (a b : List UInt8) (i : Nat) : Bool := (oneAt a i != oneAt b i) && fixAt a i && fixAt b i
theorem meetsB_iff {a b : List UInt8} (ha : a.all sym = true) (hb : b.all sym = true) (h : a.length = b.length) : meetsB a b = true ↔ ∀ i, partAt a b i = false := by
  unfold meetsB
  rw [zip_all h]
  constructor
  · intro H i
    by_cases hi : i < a.length
    · have h1 := H i hi
      have hi' : i < b.length := h ▸ hi
      unfold partAt
      rw [fixAt_lt hi, fixAt_lt hi', oneAt_lt hi, oneAt_lt hi']
      rcases sym_at ha i hi with e | e | e <;> rcases sym_at hb i hi' with f | f | f <;> simp [e, f] at h1 ⊢
    · unfold partAt; rw [fixAt_ge (by omega)]; simp
  · intro H i hi
    have h1 := H i
    have hi' : i < b.length := h ▸ hi
    unfold partAt at h1
    rw [fixAt_lt hi, fixAt_lt hi', oneAt_lt hi, oneAt_lt hi'] at h1
    rcases sym_at ha i hi with e | e | e <;> rcases sym_at hb i hi' with f | f | f <;> simp [e, f] at h1 ⊢

/-- The one lies outside of the other at place i. -/
def outAt (a b : List UInt8) (i : Nat) : Bool := fixAt b i && (!fixAt a i || (oneAt a i != oneAt b i))
theorem insideB_iff {a b : List UInt8} (ha : a.all sym = true) (hb : b.all sym = true) (h : a.length = b.length) : insideB a b = true ↔ ∀ i, outAt a b i = false := by
  unfold insideB
  rw [zip_all h]
  constructor
  · intro H i
    by_cases hi : i < a.length
    · have h1 := H i hi
      have hi' : i < b.length := h ▸ hi
      unfold outAt
      rw [fixAt_lt hi, fixAt_lt hi', oneAt_lt hi, oneAt_lt hi']
      rcases sym_at ha i hi with e | e | e <;> rcases sym_at hb i hi' with f | f | f <;> simp [e, f] at h1 ⊢
    · unfold outAt; rw [fixAt_ge (l := b) (by omega)]; simp
  · intro H i hi
    have h1 := H i
    have hi' : i < b.length := h ▸ hi
    unfold outAt at h1
    rw [fixAt_lt hi, fixAt_lt hi', oneAt_lt hi, oneAt_lt hi'] at h1
    rcases sym_at ha i hi with e | e | e <;> rcases sym_at hb i hi' with f | f | f <;> simp [e, f] at h1 ⊢

theorem meetL_length {a b : List UInt8} (h : a.length = b.length) : (meetL a b).length = a.length := by simp [meetL, h]
theorem meetL_at {a b : List UInt8} (h : a.length = b.length) (i : Nat) (hi : i < a.length) : (meetL a b)[i]'(by rw [meetL_length h]; exact hi) = if a[i] == 120 then b[i]'(h ▸ hi) else a[i] := by
  simp [meetL]
theorem meetL_sym {a b : List UInt8} (ha : a.all sym = true) (hb : b.all sym = true) (h : a.length = b.length) : (meetL a b).all sym = true := by
  rw [List.all_eq_true]
  intro x hx
  obtain ⟨i, hi, rfl⟩ := List.getElem_of_mem hx
  have hi' : i < a.length := by rw [meetL_length h] at hi; exact hi
  rw [meetL_at h i hi']
  split
  · exact List.all_eq_true.1 hb _ (List.getElem_mem _)
  · exact List.all_eq_true.1 ha _ (List.getElem_mem _)
theorem meetL_right {a b : List UInt8} (ha : right a = true) (hb : right b = true) (h : a.length = b.length) : right (meetL a b) = true := by
  obtain ⟨h1, h2, h3⟩ := right_all ha
  obtain ⟨k1, _, _⟩ := right_all hb
  simp only [right, Bool.and_eq_true, decide_eq_true_eq]
  exact ⟨⟨meetL_sym h1 k1 h, by rw [meetL_length h]; exact h2⟩, by rw [meetL_length h]; exact h3⟩
theorem fixAt_meetL {a b : List UInt8} (ha : a.all sym = true) (hb : b.all sym = true) (h : a.length = b.length) (i : Nat) : fixAt (meetL a b) i = (fixAt a i || fixAt b i) := by
  by_cases hi : i < a.length
  · have hi' : i < b.length := h ▸ hi
    rw [fixAt_lt (by rw [meetL_length h]; exact hi), fixAt_lt hi, fixAt_lt hi', meetL_at h i hi]
    rcases sym_at ha i hi with e | e | e <;> rcases sym_at hb i hi' with f | f | f <;> simp [e, f]
  · rw [fixAt_ge (by rw [meetL_length h]; omega), fixAt_ge (by omega), fixAt_ge (l := b) (by omega)]; rfl
theorem oneAt_meetL {a b : List UInt8} (ha : a.all sym = true) (hb : b.all sym = true) (h : a.length = b.length) (hm : meetsB a b = true) (i : Nat) : oneAt (meetL a b) i = (oneAt a i || oneAt b i) := by
  by_cases hi : i < a.length
  · have hi' : i < b.length := h ▸ hi
    have hp := (meetsB_iff ha hb h).1 hm i
    unfold partAt at hp
    rw [fixAt_lt hi, fixAt_lt hi', oneAt_lt hi, oneAt_lt hi'] at hp
    rw [oneAt_lt (by rw [meetL_length h]; exact hi), oneAt_lt hi, oneAt_lt hi', meetL_at h i hi]
    rcases sym_at ha i hi with e | e | e <;> rcases sym_at hb i hi' with f | f | f <;> simp [e, f] at hp ⊢
  · rw [oneAt_ge (by rw [meetL_length h]; omega), oneAt_ge (by omega), oneAt_ge (l := b) (by omega)]; rfl

end Cu
end Go.Proofs.YtnmmfbhmfcabhaaGreatDoor.Cub
namespace Go.Proofs.YtnmmfbhmfcabhaaGreatDoor
namespace Ru
open Wo (Wd)

/-- A fault: its line, its column, the error. -/
abbrev Ft := Nat × Nat × Nat
def ft (w : Wd) (e : Nat) : Ft := (w.2.1, w.2.2, e)
/-- What stands behind a line's words. -/
def endW (l : List Wd) : Wd := match l.getLast? with
  | some w => ([], w.2.1, w.2.2 + w.1.length)
  | none => ([], 0, 0)
/-- The word that comes: the line's end, where there is none. -/
def nx (e : Wd) : List Wd → Wd
  | [] => e
  | w :: _ => w
@[simp] theorem nx_nil (e : Wd) : nx e [] = e := rfl
@[simp] theorem nx_cons (e w : Wd) (l : List Wd) : nx e (w :: l) = w := rfl
theorem endW_text (l : List Wd) : (endW l).1 = [] := by
  unfold endW; split <;> rfl

/-- A text put among others, in order. -/
def ins : List (List UInt8) → List UInt8 → List (List UInt8)
  | [], s => [s]
  | a :: t, s => if s < a then s :: a :: t else a :: ins t s
def put (l : List (List UInt8)) (s : List UInt8) : List (List UInt8) := if s ∈ l then l else ins l s
/-- Texts in order, each once. -/
def nrm (l : List (List UInt8)) : List (List UInt8) := l.foldl put []

abbrev Rise (l : List (List UInt8)) : Prop := l.Pairwise (· < ·)

theorem lt_ne {a b : List UInt8} (h : a ≤ b) (hne : a ≠ b) : a < b := Decidable.byContradiction fun q => hne (List.le_antisymm h (List.not_lt.1 q))
theorem lt_or {a b : List UInt8} (h : ¬ a < b) : b < a ∨ a = b := by
  rcases List.le_total a b with h1 | h1
  · by_cases e : a = b
    · exact Or.inr e
    · exact absurd (lt_ne h1 e) h
  · by_cases e : a = b
    · exact Or.inr e
    · exact Or.inl (lt_ne h1 (fun q => e q.symm))

theorem mem_ins (l : List (List UInt8)) (s x : List UInt8) : x ∈ ins l s ↔ x = s ∨ x ∈ l := by
  induction l with
  | nil => simp [ins]
  | cons a t ih =>
    unfold ins
    split
    · simp
    · simp only [List.mem_cons, ih]
      constructor
      · rintro (h | h | h)
        · exact Or.inr (Or.inl h)
        · exact Or.inl h
        · exact Or.inr (Or.inr h)
      · rintro (h | h | h)
        · exact Or.inr (Or.inl h)
        · exact Or.inl h
        · exact Or.inr (Or.inr h)
theorem rise_ins {l : List (List UInt8)} {s : List UInt8} (h : Rise l) (hs : s ∉ l) : Rise (ins l s) := by
  induction l with
  | nil => simp [ins, Rise]
  | cons a t ih =>
    have h1 := List.pairwise_cons.1 h
    unfold ins
    split
    · rename_i hlt
      refine List.pairwise_cons.2 ⟨fun b hb => ?_, h⟩
      rcases List.mem_cons.1 hb with rfl | hb
      · exact hlt
      · exact List.lt_trans hlt (h1.1 b hb)
    · rename_i hlt
      refine List.pairwise_cons.2 ⟨fun b hb => ?_, ih h1.2 (fun q => hs (List.mem_cons_of_mem _ q))⟩
      rcases (mem_ins t s b).1 hb with rfl | hb
      · rcases lt_or hlt with h | h
        · exact h
        · exact absurd (h ▸ List.mem_cons_self) hs
      · exact h1.1 b hb
theorem mem_put (l : List (List UInt8)) (s x : List UInt8) : x ∈ put l s ↔ x = s ∨ x ∈ l := by
  unfold put
  split
  · rename_i h
    constructor
    · exact Or.inr
    · rintro (rfl | h1)
      · exact h
      · exact h1
  · exact mem_ins l s x
theorem rise_put {l : List (List UInt8)} {s : List UInt8} (h : Rise l) : Rise (put l s) := by
  unfold put
  split
  · exact h
  · rename_i hs; exact rise_ins h hs
theorem foldl_put (l : List (List UInt8)) : ∀ acc, Rise acc → Rise (l.foldl put acc) ∧ ∀ x, x ∈ l.foldl put acc ↔ x ∈ acc ∨ x ∈ l := by
  induction l with
  | nil => intro acc h; exact ⟨h, fun x => by simp⟩
  | cons a t ih =>
    intro acc h
    obtain ⟨h1, h2⟩ := ih (put acc a) (rise_put h)
    refine ⟨h1, fun x => ?_⟩
    show x ∈ t.foldl put (put acc a) ↔ _
    rw [h2, mem_put, List.mem_cons]
    constructor
    · rintro ((h | h) | h)
      · exact Or.inr (Or.inl h)
      · exact Or.inl h
      · exact Or.inr (Or.inr h)
    · rintro (h | h | h)
      · exact Or.inl (Or.inr h)
      · exact Or.inl (Or.inl h)
      · exact Or.inr h
theorem rise_nrm (l : List (List UInt8)) : Rise (nrm l) := (foldl_put l [] List.Pairwise.nil).1
theorem mem_nrm (l : List (List UInt8)) (x : List UInt8) : x ∈ nrm l ↔ x ∈ l := by
  have := (foldl_put l [] List.Pairwise.nil).2 x
  unfold nrm
  simpa using this
theorem nrm_snoc (l : List (List UInt8)) (s : List UInt8) : nrm (l ++ [s]) = put (nrm l) s := by simp [nrm]
/-- Rising rows of the same texts are the same. -/
theorem rise_unique {a b : List (List UInt8)} (ha : Rise a) (hb : Rise b) (h : ∀ x, x ∈ a ↔ x ∈ b) : a = b := by
  induction a generalizing b with
  | nil =>
    cases b with
    | nil => rfl
    | cons y t => exact absurd ((h y).2 List.mem_cons_self) (by simp)
  | cons x s ih =>
    cases b with
    | nil => exact absurd ((h x).1 List.mem_cons_self) (by simp)
    | cons y t =>
      have hx := List.pairwise_cons.1 ha
      have hy := List.pairwise_cons.1 hb
      have e : x = y := by
        rcases List.mem_cons.1 ((h x).1 List.mem_cons_self) with e | e
        · exact e
        · rcases List.mem_cons.1 ((h y).2 List.mem_cons_self) with e2 | e2
          · exact e2.symm
          · exact absurd (List.lt_trans (hy.1 x e) (hx.1 y e2)) (List.lt_irrefl _)
      subst e
      congr 1
      refine ih hx.2 hy.2 fun z => ?_
      constructor
      · intro hz
        rcases List.mem_cons.1 ((h z).1 (List.mem_cons_of_mem _ hz)) with e | e
        · subst e; exact absurd (hx.1 z hz) (List.lt_irrefl _)
        · exact e
      · intro hz
        rcases List.mem_cons.1 ((h z).2 (List.mem_cons_of_mem _ hz)) with e | e
        · subst e; exact absurd (hy.1 z hz) (List.lt_irrefl _)
        · exact e

theorem upTo_succ (d : Array (List UInt8)) (m : Nat) : Lib.compactUpTo d (m + 1) = Lib.compactUpTo d m ++ (if Lib.keeps d m then [d[m]!] else []) := by
  unfold Lib.compactUpTo
  rw [List.range_succ, List.filter_append, List.map_append]
  congr 1
  simp only [List.filter_cons, List.filter_nil]
  split <;> rfl
/-- A row in order, put together: it rises, and has the same texts. -/
theorem compact_rise {z : List (List UInt8)} (h : z.Pairwise (· ≤ ·)) : Rise (Lib.compact z) ∧ ∀ x, x ∈ Lib.compact z ↔ x ∈ z := by
  have key : ∀ m, m ≤ z.length → Rise (Lib.compactUpTo z.toArray m) ∧ (∀ x, x ∈ Lib.compactUpTo z.toArray m ↔ x ∈ z.take m) ∧ (∀ x, x ∈ Lib.compactUpTo z.toArray m → 0 < m → x ≤ z.toArray[m - 1]!) := by
    intro m
    induction m with
    | zero => intro _; exact ⟨List.Pairwise.nil, fun x => by simp [Lib.compactUpTo], fun x _ h0 => absurd h0 (Nat.lt_irrefl 0)⟩
    | succ m ih =>
      intro hm
      obtain ⟨h1, h2, h3⟩ := ih (by omega)
      have hget : z.toArray[m]! = z[m] := by simp [show m < z.length by omega]
      have htake : z.take (m + 1) = z.take m ++ [z[m]] := by rw [List.take_succ_eq_append_getElem (by omega)]
      have hle : ∀ x ∈ z.take m, x ≤ z[m] := fun x hx => by
        obtain ⟨j, hj, rfl⟩ := List.getElem_of_mem hx
        simp only [List.length_take] at hj
        rw [List.getElem_take]
        exact List.pairwise_iff_getElem.1 h j m (by omega) (by omega) (by omega)
      rw [upTo_succ]
      have hlast : ∀ x, x ∈ Lib.compactUpTo z.toArray m → x ≤ z[m] := fun x hx => hle x ((h2 x).1 hx)
      rw [hget]
      cases hk : Lib.keeps z.toArray m with
      | true =>
        simp only [if_true]
        refine ⟨?_, fun x => ?_, fun x hx _ => ?_⟩
        · refine List.pairwise_append.2 ⟨h1, by simp, fun a ha b hb => ?_⟩
          rw [List.mem_singleton] at hb
          subst hb
          refine lt_ne (hlast a ha) (fun e => ?_)
          have hm0 : 0 < m := by
            rcases Nat.eq_zero_or_pos m with e0 | h0
            · subst e0; simp [Lib.compactUpTo] at ha
            · exact h0
          have hp : z.toArray[m - 1]! = z[m - 1] := by simp [show m - 1 < z.length by omega]
          have h4 := h3 a ha hm0
          rw [hp] at h4
          have h5 : z[m - 1] ≤ z[m] := List.pairwise_iff_getElem.1 h (m - 1) m (by omega) (by omega) (by omega)
          have e2 : z[m] = z[m - 1] := List.le_antisymm (e ▸ h4) h5
          have : Lib.keeps z.toArray m = false := Lib.keeps_neg hm0 (by rw [hget, hp]; exact e2)
          rw [hk] at this; exact absurd this (by decide)
        · rw [List.mem_append, h2, htake, List.mem_append]
        · show x ≤ z.toArray[m + 1 - 1]!
          rw [Nat.add_sub_cancel, hget]
          rcases List.mem_append.1 hx with hx | hx
          · exact hlast x hx
          · rw [List.mem_singleton.1 hx]; exact List.le_refl _
      | false =>
        simp only [Bool.false_eq_true, if_false, List.append_nil]
        refine ⟨h1, fun x => ?_, fun x hx _ => ?_⟩
        · rw [h2, htake, List.mem_append]
          constructor
          · exact Or.inl
          · rintro (h | h)
            · exact h
            · rw [List.mem_singleton] at h
              have hm0 : 0 < m := by
                rcases Nat.eq_zero_or_pos m with e0 | h0
                · subst e0; rw [Lib.keeps_lt_one _ 0 (by omega)] at hk; exact absurd hk (by decide)
                · exact h0
              have hp : z.toArray[m - 1]! = z[m - 1] := by simp [show m - 1 < z.length by omega]
              have e2 : z[m] = z[m - 1] := by
                by_cases e : z[m] = z[m - 1]
                · exact e
                · have : Lib.keeps z.toArray m = true := Lib.keeps_pos (by rw [hget, hp]; exact e)
                  rw [hk] at this; exact absurd this (by decide)
              rw [h, e2]
              have : z[m - 1] = (z.take m)[m - 1]'(by simp; omega) := by rw [List.getElem_take]
              rw [this]; exact List.getElem_mem _
        · show x ≤ z.toArray[m + 1 - 1]!
          rw [Nat.add_sub_cancel, hget]
          exact hlast x hx
  obtain ⟨h1, h2, _⟩ := key z.length (Nat.le_refl _)
  exact ⟨h1, fun x => by rw [show Lib.compact z = Lib.compactUpTo z.toArray z.length from rfl, h2, List.take_length]⟩
theorem compact_sort (l : List (List UInt8)) : Lib.compact (l.mergeSort fun x y => decide (x ≤ y)) = nrm l := by
  have hs : (l.mergeSort fun x y => decide (x ≤ y)).Pairwise (· ≤ ·) := by
    have := List.pairwise_mergeSort (le := fun x y => decide (x ≤ y)) (fun a b c h1 h2 => by simp at h1 h2 ⊢; exact List.le_trans h1 h2) (fun a b => by simp; exact List.le_total a b) l
    exact this.imp (fun h => by simpa using h)
  obtain ⟨h1, h2⟩ := compact_rise hs
  refine rise_unique h1 (rise_nrm l) fun x => ?_
  rw [h2, mem_nrm]
  exact (List.mergeSort_perm l _).mem_iff

/-- The ports behind a ( : the ) , the names, what is left; or a fault. -/
def pts (e : Wd) : List Wd → List (List UInt8) → Except Ft (Wd × List (List UInt8) × List Wd)
  | [], _ => .error (ft e 31)
  | [w], _ => if Wo.nameB w.1 = false then .error (ft w 31) else .error (ft e 51)
  | w :: v :: t, acc => if Wo.nameB w.1 = false then .error (ft w 31) else if v.1 = [44] then pts e t (acc ++ [w.1]) else if v.1 = [41] then .ok (v, acc ++ [w.1], t) else .error (ft v 51)
/-- The same behind a name, at the word that comes. -/
def ptsW (e v : Wd) (t : List Wd) (acc : List (List UInt8)) : Except Ft (Wd × List (List UInt8) × List Wd) :=
  if v.1 = [44] then pts e t acc else if v.1 = [41] then .ok (v, acc, t) else .error (ft v 51)
theorem pts_eq {e : Wd} (he : e.1 = []) (l : List Wd) (acc : List (List UInt8)) :
    pts e l acc = if Wo.nameB (nx e l).1 = false then .error (ft (nx e l) 31) else ptsW e (nx e l.tail) l.tail.tail (acc ++ [(nx e l).1]) := by
  match l with
  | [] => simp [pts, he, Wo.nameB]
  | [w] =>
    show (if Wo.nameB w.1 = false then Except.error (ft w 31) else Except.error (ft e 51)) = if Wo.nameB w.1 = false then .error (ft w 31) else ptsW e e [] (acc ++ [w.1])
    by_cases h : Wo.nameB w.1 = false
    · rw [if_pos h, if_pos h]
    · rw [if_neg h, if_neg h]
      simp [ptsW, he]
  | w :: v :: t =>
    rw [pts]
    rfl

/-- The number of an action's first word. -/
def kindN (s : List UInt8) : Nat :=
  if s = [100, 114, 111, 112] then 1 else if s = [100, 101, 108, 105, 118, 101, 114] then 2 else if s = [97, 108, 108] then 3 else if s = [97, 110, 121] then 4 else 0
theorem kindN_le (s : List UInt8) : kindN s ≤ 4 := by
  unfold kindN; repeat' split
  all_goals omega
structure Rl where
  prio : Nat
  mat : List UInt8
  kind : Nat
  ports : List (List UInt8)

/-- The ports with their brackets: what is between them in order, each once, and what is left. -/
def prt (e : Wd) (l : List Wd) : Except Ft (List (List UInt8) × List Wd) :=
  if (nx e l).1 ≠ [40] then .error (ft (nx e l) 51)
  else match pts e l.tail [] with
    | .error f => .error f
    | .ok (v, acc, t) => if 64 < (nrm acc).length then .error (ft v 3) else .ok (nrm acc, t)
def act (e : Wd) (l : List Wd) : Except Ft (Nat × List (List UInt8) × List Wd) :=
  if kindN (nx e l).1 = 0 then .error (ft (nx e l) 51)
  else if kindN (nx e l).1 ≤ 2 then .ok (kindN (nx e l).1, [], l.tail)
  else match prt e l.tail with
    | .error f => .error f
    | .ok (ps, t) => .ok (kindN (nx e l).1, ps, t)
def ruleT : List UInt8 := [114, 117, 108, 101]
def rul (width : Nat) (l : List Wd) : Except Ft Rl :=
  if (nx (endW l) l).1 ≠ ruleT then .error (ft (nx (endW l) l) 50)
  else if Wo.numB (nx (endW l) l.tail).1 = false then .error (ft (nx (endW l) l.tail) 32)
  else if Cub.Cu.right (nx (endW l) l.tail.tail).1 = false then .error (ft (nx (endW l) l.tail.tail) 10)
  else if (nx (endW l) l.tail.tail).1.length ≠ width then .error (ft (nx (endW l) l.tail.tail) 11)
  else match act (endW l) l.tail.tail.tail with
    | .error f => .error f
    | .ok (k, ps, t) => if (nx (endW l) t).1 ≠ [] then .error (ft (nx (endW l) t) 50) else .ok ⟨Wo.numV (nx (endW l) l.tail).1, (nx (endW l) l.tail.tail).1, k, ps⟩
def same (x y : Rl) : Bool := decide (x.prio = y.prio ∧ x.mat = y.mat)
def rds (width : Nat) : List (List Wd) → List Rl → Except Ft (List Rl)
  | [], acc => .ok acc
  | l :: r, acc => match rul width l with
    | .error f => .error f
    | .ok x => if acc.any (fun y => same y x) then .error (ft (nx (endW l) l) 52)
      else if 4096 ≤ acc.length then .error (ft (nx (endW l) l) 3) else rds width r (acc ++ [x])
/-- A text's rules, or its first fault. -/
def prs (s : List UInt8) (width : Int) : Except Ft (List Rl) :=
  if width < 1 ∨ 128 < width then .error (0, 0, 1)
  else if Wo.err s ≠ 0 then .error (Wo.faultL s, Wo.faultC s, Wo.err s)
  else rds width.toNat (Wo.read s) []
end Ru
end Go.Proofs.YtnmmfbhmfcabhaaGreatDoor
