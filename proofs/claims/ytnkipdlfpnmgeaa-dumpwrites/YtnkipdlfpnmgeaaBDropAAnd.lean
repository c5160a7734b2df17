/-
  Cube where there may be no room.
  ite where there may be no room: the two halves, the node, what is known then.
  answer where there may be no room.
  answer's deferred call where there was no room: what was made goes again.
  drop: the walk.
-/
import Derived.Test.YtnkipdlfpnmgeaaBFoldAnd
import Derived.Test.YtnkipdlfpnmgeaaBIteAnd
import Derived.Test.YtnkipdlfpnmgeaaBTellAnd
import Derived.Deep.RegionHeld2
import Derived.Test.YtnkipdlfpnmgeaaWordsAnd
namespace Go.Proofs.Ytnkipdlfpnmgeaa
open Go.RowKit Go.Maps
open Bd (Nd)

/-- delete, as one step of a region that draws. -/
theorem step_delete {P : Program} {ops : Array Oper} {o : Oper} {a : Act} {w : World} {K : Act → World → Prop} {Q : Exit → Act → World → Prop} {E : Prop}
    (hg : o.guard = none) (m x : Operand) (t k : TypeId) (hop : o.op = Op.call { callee := Callee.builtin Builtin.delete, args := #[m, x], argTypes := #[t, k] }) (b : Nat) (key : Value) (w' : World) (hm : a.eval m = .map (some b)) (hx : a.eval x = key)
    (hrun : (Builtin.delete_ #[t, k] o.type #[.map (some b), key]).run P w = .ok (.tuple #[]) w') (hK : K (a.put o.dst (.tuple #[])) w') :
    if Region.wanted o (yielded ops a.tmps) = true then Oper.wp P o a w K Q else E := by
  have hw : Region.wanted o (yielded ops a.tmps) = true := by simp [Region.wanted, hg]
  rw [if_pos hw]
  unfold Oper.wp
  simp [execOp, hop, resolve, invoke, builtin, hm, hx, hrun, Result.andThen]
  exact hK

set_option maxHeartbeats 2000000 in
theorem drop_any {w : World} {y : Lay} {s : St} (hT : Tab w y s) (mark : Nat) (hm : mark ≤ s.L.length) (hr : ∀ n, n ∈ s.roots → n < mark + 2) :
    Calls Try.prog 72 #[.pointer (some ⟨y.tb, 3, none⟩), i6 mark] w fun e w' => e = .returned (.tuple #[]) ∧ ∃ y', Tab w' y' { s with L := s.L.take mark } ∧ Moves noX w y w' y' := by
  have HT := keep hT
  have HR := keep hr
  have HM := keep hm
  obtain ⟨ao, cap, hls⟩ := hT.list_slice
  have HLS := keep hls
  have c3 := hT.cell3
  rw [hls] at c3
  have hsl := hT.small
  have G0 : Hid (Gap w w y s.L mark 0) := by
    obtain ⟨f, hf, ha⟩ := hT.nodes
    exact ⟨⟨f, by rw [Nat.sub_zero]; exact hf, AtGap.start ha mark⟩, rfl, rfl, rfl, Nat.le_refl _, fun _ _ _ => rfl⟩
  have hcap : s.L.length ≤ cap ∧ (ao = none → s.L.length = 0 ∧ cap = 0) ∧ (∀ a, ao = some a → ∃ g, a = ⟨g, 0, none⟩) := by
    have hl := hT.list
    rw [hls] at hl
    rcases hl.2 with ⟨h1, h2⟩ | ⟨g, c, cur, h1, h2, h3, h4, h5, h6, h7⟩
    · injection h1 with e1 e2 e3
      exact ⟨by omega, fun _ => ⟨h2, by omega⟩, fun a ha => by rw [e1] at ha; cases ha⟩
    · injection h1 with e1 e2 e3
      exact ⟨by omega, (fun h => by rw [e1] at h; cases h), fun a ha => ⟨g, by rw [e1] at ha; cases ha; rfl⟩⟩
  obtain ⟨hc1, hc2, hc3⟩ := hcap
  obtain ⟨n, hn⟩ : ∃ n, n = s.L.length := ⟨_, rfl⟩
  have HN := keep hn
  rw [← hn] at c3 hc1 hc2 hm hsl
  have ltb := hT.lt y.own_tb
  have hmI : (mark : Int) ≤ (n : Int) := by omega
  have hm0 : (0 : Int) ≤ (mark : Int) := by omega
  have hcI : (n : Int) ≤ (cap : Int) := by omega
  have hnI : (n : Int) ≤ 1073741824 := by omega
  clear hT hr hls hn hsl
  obtain ⟨q, hq⟩ : ∃ q, q = n - mark := ⟨_, rfl⟩
  have HQ := keep hq
  have hqI : (q : Int) ≤ 1073741824 := by omega
  have HCC := keep (And.intro hc1 (And.intro hc2 hc3))
  clear hc1 hc2 hc3
  have fin : ∀ wr, Gap w wr y s.L mark q → wr.cell? ⟨y.tb, 3, none⟩ = some (.slice ao n cap) ∧ wr.frozen? ⟨y.tb, 3, none⟩ = false ∧ Hid (∃ y', Tab (wr.setCell ⟨y.tb, 3, none⟩ (.slice ao mark cap)) y' { s with L := s.L.take mark } ∧ Moves noX w y (wr.setCell ⟨y.tb, 3, none⟩ (.slice ao mark cap)) y') := by
    intro wr hG
    have hb := hG.block y.tb ltb (fun e => HT.out.apart.1 e.symm)
    refine ⟨by rw [World.cell?_of_block hb]; exact c3, by rw [World.frozen?_of_block hb]; exact not_frozen HT.out.cells, ?_⟩
    rw [HQ.out, HN.out] at hG
    exact ⟨_, drop_tab HT.out HM.out HR.out hG ao cap HLS.out⟩
  have FIN := keep fin
  clear fin
  cases ao with
  | none =>
    obtain ⟨h1, h2⟩ := HCC.out.2.1 rfl
    have h3 : mark = 0 := by omega
    have h4 : q = 0 := by omega
    subst h1
    subst h2
    subst h3
    clear hq HQ
    subst h4
    clear hmI hm0 hcI hnI hqI hm
    obtain ⟨r3, r4, R⟩ := FIN.out w G0.out
    go_enter Try.func72, Try.ntmps72
    go_wp2
    refine wp_loop_rounds 1 ?_
    rw [rounds_succ]
    go_wp2
    go_end0
    exact ⟨rfl, R.out⟩
  | some a =>
    obtain ⟨g, rfl⟩ := HCC.out.2.2 a rfl
    go_enter Try.func72, Try.ntmps72
    go_wp2
    all_goals (
      rw [← hq]
      clear hq
      try (
        have hcm : mark = cap := by omega
        subst hcm)
      go_loopw [13] (fun i wr => ∃ k : Nat, k ≤ q ∧ i = .int .i64 k ∧ Hid (Gap w wr y s.L mark k)) (fun i _ => q - (intOf i).toNat)
      case atStart => exact ⟨0, Nat.zero_le _, rfl, G0⟩
      case round =>
        obtain ⟨k, hk, rfl, H⟩ := hrel
        by_cases hlt : k < q
        · first
          | (exfalso; have h1 := HQ.out; have h2 := HCC.out.1; omega)
          | (
              have hqn := HQ.out
              have hnn := HN.out
              obtain ⟨x, hx⟩ : ∃ x, s.L[mark + k]? = some x := ⟨s.L[mark + k]'(by omega), List.getElem?_eq_getElem _⟩
              have hlr := HT.out.list
              rw [HLS.out, ← hnn] at hlr
              have hap := HT.out.apart
              have hgo : y.ls.ownBlock = some g := by rw [HLS.out]; rfl
              have hgl := HT.out.lt (y.own_ls hgo)
              have hadd : ∀ j, (⟨g, 0, none⟩ : Addr).add j = ⟨g, j, none⟩ := by intro j; unfold Addr.add; split <;> simp_all
              obtain ⟨f0, f1, f2⟩ := flat_at hx
              have d0 := hlr.cells (g := g) rfl _ _ f0
              have d1 := hlr.cells (g := g) rfl _ _ f1
              have d2 := hlr.cells (g := g) rfl _ _ f2
              rw [hadd] at d0 d1 d2
              have hgb := H.out.block g hgl (fun e => hap.2.2.2.2.1 (by rw [← e]; exact hgo))
              rw [← World.cell?_of_block hgb] at d0 d1 d2
              rw [show (mark + k) * 3 = mark * 3 + k * 3 by omega] at d0 d1 d2
              obtain ⟨f, hf, ha⟩ := H.out.nodes
              have hok := HT.out.okay
              have hfit := hok.fit _ _ hx
              obtain ⟨kl, hkl⟩ := key_node (a := x.1) (b := x.2.1) (c := x.2.2) (by have := hok.few; omega) (by omega) (by omega)
              obtain ⟨w2, hrun, hput, hg2⟩ := MapOf.drop_run (w := (wr.alloc (.cells #[i6 x.1, i6 x.2.1, i6 x.2.2] 62)).drew) (hf.same (heap_alloc_old wr _ hf.lt)) kNode Try.underlying74 hkl 0
              have NEXT : Hid (Gap w w2 y s.L mark (k + 1)) := by
                obtain ⟨f', hf'⟩ := upd_exists f (ndV x) none
                have hfx : f (ndV x) = some ((mark + k + 2 : Nat) : Int) := (ha x).1 _ hx (Or.inr (Nat.le_refl _))
                have hm2 := hput f' hf'
                have e5 : (f (.agg #[i6 x.1, i6 x.2.1, i6 x.2.2])).isSome = true := by
                  show (f (ndV x)).isSome = true
                  rw [hfx]; rfl
                rw [e5] at hm2
                have z2 : wr.heap.size + 1 ≤ w2.heap.size := by have := hg2.size; simpa using this
                refine ⟨⟨f', ?_, ha.next hok.nd hx hf'⟩, hg2.os.trans H.out.os, hg2.tape.trans H.out.tape, hg2.output.trans H.out.output, by have := H.out.size; omega, fun j hj hne => ?_⟩
                · rw [Nat.sub_add_eq]; exact hm2
                · have := H.out.size
                  rw [hg2.block j (by show j < (wr.alloc _).heap.size; simp; omega) (by simpa using hne)]
                  show (wr.alloc _).heap[j]? = _
                  rw [heap_alloc_old wr _ (show j < wr.heap.size by omega)]
                  exact H.out.block j hj hne
              have hb4 := H.out.block y.tb ltb (fun e => hap.1 e.symm)
              have e4 : wr.cell? ⟨y.tb, 4, none⟩ = some (.map (some y.mb)) := by rw [World.cell?_of_block hb4]; exact HT.out.cell4
              have hrun' : (Builtin.delete_ #[74, 62] 0 #[.map (some y.mb), .agg #[.int .i64 x.1, .int .i64 x.2.1, .int .i64 x.2.2]]).run Try.prog (wr.alloc (.cells #[.int .i64 x.1, .int .i64 x.2.1, .int .i64 x.2.2] 62)).drew = .ok (.tuple #[]) w2 := hrun
              have ltw : y.tb < wr.heap.size := by have := H.out.size; omega
              have e4a : ∀ o, (wr.alloc o).cell? ⟨y.tb, 4, none⟩ = some (.map (some y.mb)) := fun o => by rw [World.cell?_of_block (heap_alloc_old wr o ltw)]; exact e4
              have hkI : (k : Int) < (q : Int) := by omega
              have hk0 : (0 : Int) ≤ (k : Int) := by omega
              have HLT := keep hlt
              clear hx hlr hap hgo hgl hadd f0 f1 f2 hgb hf ha hok hfit hkl hrun hput hg2 hb4 hqn hnn H
              simp only [i6] at d0 d1 d2
              have HRUN := keep hrun'
              clear hrun'
              go_wp2
              go_region_law (refine step_delete rfl (.tmp 20) (.tmp 21) 74 62 rfl y.mb _ w2 rfl rfl HRUN.out ?_)
              all_goals
                go_wp2
                go_roundw
                case rel => exact ⟨k + 1, by have := HLT.out; omega, by go_num, NEXT.out⟩
                case measure => have := HLT.out; simp [intOf]; omega)
        · have hkq : k = q := by omega
          subst hkq
          obtain ⟨r3, r4, R⟩ := FIN.out wr H.out
          clear H
          go_wp2
          go_end0
          exact ⟨rfl, R.out⟩)
end Go.Proofs.Ytnkipdlfpnmgeaa
namespace Go.Proofs.Ytnkipdlfpnmgeaa
open Go.RowKit Go.Maps
open Bd (Nd)

/-- The panic where there was no room, caught. -/
abbrev noRoomOver : List PanicEntry := [{ v := .iface 30 (.int .i64 20), recovered := true }]

set_option maxHeartbeats 2000000 in
theorem ans_catch {w : World} {y : Lay} {s : St} (hT : Tab w y s) (mark : Nat) (hm : mark ≤ s.L.length) (hr : ∀ n, n ∈ s.roots → n < mark + 2) (B : Nat) (hA : AnsAt w B (.pointer (some ⟨y.tb, 0, none⟩))) (hy : ∀ k, y.own k → k < B ∨ B + 3 ≤ k) (mb : Nat) (hmb : w.heap[mb]? = some (.cells #[.int .i64 mark] 3 (0, 0))) (hmo : ¬ y.own mb) :
    CallsD Try.prog 71 #[.pointer (some ⟨B, 0, none⟩), .pointer (some ⟨mb, 0, none⟩), .pointer (some ⟨B + 1, 0, none⟩), .pointer (some ⟨B + 1 + 1, 0, none⟩)] (.panicking noRoom) w fun e u' w' => e = .returned (.tuple #[]) ∧ u' = .panicking noRoomOver ∧
      w'.cell? ⟨B + 1, 0, none⟩ = some (.int .i64 0) ∧ w'.cell? ⟨B + 1 + 1, 0, none⟩ = some (.int .i64 20) ∧ ∃ y', Tab w' y' { s with L := s.L.take mark } ∧ Moves (fun k => k = B + 1 ∨ k = B + 1 + 1) w y w' y' := by
  have c0 : w.cell? ⟨B, 0, none⟩ = some (.pointer (some ⟨y.tb, 0, none⟩)) := by rw [cell_at hA.b0]; rfl
  have cm : w.cell? ⟨mb, 0, none⟩ = some (.int .i64 mark) := by rw [cell_at hmb]; rfl
  have HD : Hid (Calls Try.prog 72 #[.pointer (some ⟨y.tb, 3, none⟩), i6 mark] w.drew fun e w1 => e = .returned (.tuple #[]) ∧ w1.cell? ⟨B + 1, 0, none⟩ = some (.int .i64 0) ∧ w1.frozen? ⟨B + 1, 0, none⟩ = false ∧ w1.cell? ⟨B + 1 + 1, 0, none⟩ = some (.int .i64 0) ∧ w1.frozen? ⟨B + 1 + 1, 0, none⟩ = false ∧ w1.cell? ⟨B, 0, none⟩ = some (.pointer (some ⟨y.tb, 0, none⟩)) ∧ w1.cell? ⟨mb, 0, none⟩ = some (.int .i64 mark) ∧
      Hid (((w1.setCell ⟨B + 1, 0, none⟩ (.int .i64 0)).setCell ⟨B + 1 + 1, 0, none⟩ (.int .i64 20)).cell? ⟨B + 1, 0, none⟩ = some (.int .i64 0) ∧ ((w1.setCell ⟨B + 1, 0, none⟩ (.int .i64 0)).setCell ⟨B + 1 + 1, 0, none⟩ (.int .i64 20)).cell? ⟨B + 1 + 1, 0, none⟩ = some (.int .i64 20) ∧
        ∃ y', Tab ((w1.setCell ⟨B + 1, 0, none⟩ (.int .i64 0)).setCell ⟨B + 1 + 1, 0, none⟩ (.int .i64 20)) y' { s with L := s.L.take mark } ∧ Moves (fun k => k = B + 1 ∨ k = B + 1 + 1) w y ((w1.setCell ⟨B + 1, 0, none⟩ (.int .i64 0)).setCell ⟨B + 1 + 1, 0, none⟩ (.int .i64 20)) y')) := by
    refine (drop_any (hT.below (Below.refl _ _).drew) mark hm hr).mono ?_
    rintro e w1 ⟨rfl, y1, t1, m1'⟩
    have m1 : Moves noX w y w1 y1 := (moves_below y (Below.refl _ _).drew).trans m1'
    have hA1 := hA.moves m1 hy
    have hy1 := own_between (_w0 := w) m1 (by have := block_lt hA.b2; omega) hy
    have k1 : w1.cell? ⟨B + 1, 0, none⟩ = some (.int .i64 0) := by rw [cell_at hA1.b1]; rfl
    have k2 : w1.cell? ⟨B + 1 + 1, 0, none⟩ = some (.int .i64 0) := by rw [cell_at hA1.b2]; rfl
    refine ⟨rfl, k1, not_frozen hA1.b1, k2, not_frozen hA1.b2, by rw [cell_at hA1.b0]; rfl, ?_, ?_⟩
    · rw [World.cell?_of_block (m1.block mb (block_lt hmb) hmo (fun h => h)), cell_at hmb]; rfl
    have hset : ∀ k, k ≠ B + 1 → k ≠ B + 1 + 1 → ((w1.setCell ⟨B + 1, 0, none⟩ (.int .i64 0)).setCell ⟨B + 1 + 1, 0, none⟩ (.int .i64 20)).heap[k]? = w1.heap[k]? := by
      intro k h1 h2
      rw [set_other _ (show k ≠ B + 1 + 1 from h2), set_other _ (show k ≠ B + 1 from h1)]
    refine ⟨?_, ?_, y1, ?_, ?_⟩
    · rw [World.cell?_setCell_other _ _ _ _ (by simp)]; exact World.cell?_setCell_same _ _ _ k1
    · refine World.cell?_setCell_same _ _ _ (u := .int .i64 0) ?_
      rw [World.cell?_setCell_other _ _ _ _ (by simp)]; exact k2
    · refine t1.same fun k hk => ?_
      rcases hy1 k hk with h | h
      · exact hset k (by omega) (by omega)
      · exact hset k (by omega) (by omega)
    · refine ⟨m1.tb, m1.own, m1.os, m1.tape, m1.output, by have := m1.size; simpa using this, ?_⟩
      intro k hk hn hx
      rw [hset k (fun h => hx (Or.inl h)) (fun h => hx (Or.inr h))]
      exact m1.block k hk hn (fun h => h)
  clear hT hm hr hA hy hmb hmo
  refine callsD_of_wpS Try.func71 rfl fun c₀ cs hu => ?_
  apply wpS_seq
  apply wpS_region
  simp [wpOpsS, go_sem, recoverD, hu, Try.ntmps71, Exit.thenS]
  refine wpS_cond (t := true) (by simp [Act.eval, Array.replicate]) ?_
  simp only [if_true]
  have e7 : ∀ p0 p1 p2 p3 x z : Value, (#[p0, p1, p2, p3] ++ ((Array.replicate 7 undef).setIfInBounds 0 x).setIfInBounds 1 z : Array Value) = #[p0, p1, p2, p3, x, z, undef, undef, undef, undef, undef] := fun _ _ _ _ _ _ => rfl
  rw [e7]
  clear e7
  refine wpS_of_wp ?_
  go_wp2_with fail
  go_region_held2 (fun w' => w'.cell? ⟨B, 0, none⟩ = some (.pointer (some ⟨y.tb, 0, none⟩)) ∧ w'.cell? ⟨mb, 0, none⟩ = some (.int .i64 mark)) (first | (go_keep; done) | exact ⟨u5, u6⟩) (first | (go_at_call 72; refine HD.out.mono ?_; rintro e w1 ⟨rfl, u1, u2, u3, u4, u5, u6, HQ⟩))
  go_wp2_with fail
  exact ⟨rfl, _, rfl, .tuple #[], by simp [results, Try.results71, go_sem], rfl, rfl, HQ.out⟩
end Go.Proofs.Ytnkipdlfpnmgeaa
namespace Go.Proofs.Ytnkipdlfpnmgeaa
open Go.RowKit Go.Maps
open Bd (Nd)

/-- What a call that tells a ref leaves, where there was room. -/
structure ToldL {bits M : Nat} (A : Bd.Fam bits M) (w : World) (y : Lay) (s : St) (w' : World) (r : Nat) (f : Bd.Fn) : Prop where
  ex : ∃ N t y' m, Tab w' y' { s with L := s.L ++ N, roots := s.roots ++ t } ∧ Bd.Within A (s.L ++ N) ∧ ({ s with L := s.L ++ N, roots := s.roots ++ t } : St).node? r = some m ∧ m < (s.L ++ N).length + 2 ∧ Bd.den (s.L ++ N) m = f ∧ Moves noX w y w' y' ∧ Adds s t r ∧ (s.L ++ N).length ≤ s.limit
/-- What it leaves where there was none: the table as it was; and nodes that it would have had, more than there may be. -/
structure FullT {bits M : Nat} (A : Bd.Fam bits M) (w : World) (y : Lay) (s : St) (w' : World) : Prop where
  ex : ∃ y', Tab w' y' s ∧ Moves noX w y w' y' ∧ ∃ N, Bd.Okay s.bits (s.L ++ N) ∧ Bd.Within A (s.L ++ N) ∧ s.limit ≤ (s.L ++ N).length ∧ ∃ k g, A.F k g ∧ g ≠ Bd.ff ∧ g ≠ Bd.tt ∧ ∀ i, i < (s.L ++ N).length → Bd.den (s.L ++ N) (i + 2) ≠ g

/-- What follows how. -/
theorem ans_restL {M : Nat} {w : World} {y : Lay} {s : St} (A : Bd.Fam s.bits M) (hT : Tab w y s) (h2 : 2 ≤ s.first) (hsm : s.roots.length + 1 ≤ 1073741824) (hL : s.L.length ≤ s.limit) {W w2 : World} (hBW : Below w.heap.size w W) (hA : AnsAt W w.heap.size (.pointer (some ⟨y.tb, 0, none⟩))) {r : Nat} {f : Bd.Fn} (hG : GrewL noX A W y s s.limit w2 r f) :
    w2.cell? ⟨w.heap.size, 0, none⟩ = some (.pointer (some ⟨y.tb, 0, none⟩)) ∧ w2.cell? ⟨y.tb, 6, none⟩ = some (.int .i64 s.limit) ∧ (∃ ao len cap, w2.cell? ⟨y.tb, 3, none⟩ = some (.slice ao len cap) ∧ len ≤ s.limit) ∧
    Hid (∀ n, Calls Try.prog 73 #[.pointer (some ⟨y.tb, 0, none⟩), i6 r] (w2.drewN n) fun e w3 => ∃ ref, e = .returned (i6 ref) ∧ w3.cell? ⟨w.heap.size + 1, 0, none⟩ = some (.int .i64 0) ∧ w3.frozen? ⟨w.heap.size + 1, 0, none⟩ = false ∧ w3.cell? ⟨w.heap.size + 1 + 1, 0, none⟩ = some (.int .i64 0) ∧ w3.frozen? ⟨w.heap.size + 1 + 1, 0, none⟩ = false ∧
      Hid (ToldL A w y s ((w3.setCell ⟨w.heap.size + 1, 0, none⟩ (i6 ref)).setCell ⟨w.heap.size + 1 + 1, 0, none⟩ (.int .i64 0)) ref f)) := by
  obtain ⟨N, y2, t2, wi2, hr2, d2, m2, g2⟩ := hG.ex
  have hy : ∀ k, y.own k → k < w.heap.size ∨ w.heap.size + 3 ≤ k := fun k hk => Or.inl (hT.lt hk)
  have l2 := block_lt hA.b2
  have hA2 := hA.moves m2 hy
  have hy2 := own_between (_w0 := w) m2 (by omega) hy
  have hmt := m2.tb
  refine ⟨by rw [cell_at hA2.b0]; rfl, ?_, ?_, ?_⟩
  · rw [← hmt, cell_at t2.cells]; rfl
  · obtain ⟨ao, cap, hls⟩ := t2.list_slice
    refine ⟨ao, (s.L ++ N).length, cap, ?_, by omega⟩
    rw [← hmt, t2.cell3, hls]
  · intro n
    have hbn : Below w2.heap.size w2 (w2.drewN n) := belowN (Below.refl _ _) n
    rw [← hmt]
    refine (tell_any (t2.below hbn) h2 r hr2 hsm).mono ?_
    rintro e w3 ⟨ref, rfl, ⟨y3, t, t3, m3, hnd, htl⟩⟩
    have hA3 : AnsAt w3 w.heap.size (.pointer (some ⟨y.tb, 0, none⟩)) := AnsAt.moves (w := w2.drewN n) ⟨hA2.b0, hA2.b1, hA2.b2⟩ m3 hy2
    have hy3 := own_between (_w0 := w) m3 (by show w.heap.size + 3 ≤ w2.heap.size; have := m2.size; omega) hy2
    refine ⟨ref, rfl, by rw [cell_at hA3.b1]; rfl, not_frozen hA3.b1, by rw [cell_at hA3.b2]; rfl, not_frozen hA3.b2, ?_⟩
    have hset : ∀ k, k ≠ w.heap.size + 1 → k ≠ w.heap.size + 1 + 1 → ((w3.setCell ⟨w.heap.size + 1, 0, none⟩ (i6 ref)).setCell ⟨w.heap.size + 1 + 1, 0, none⟩ (.int .i64 0)).heap[k]? = w3.heap[k]? := by
      intro k h1 h2
      rw [set_other _ (show k ≠ w.heap.size + 1 + 1 from h2), set_other _ (show k ≠ w.heap.size + 1 from h1)]
    have t4 := t3.same (w' := (w3.setCell ⟨w.heap.size + 1, 0, none⟩ (i6 ref)).setCell ⟨w.heap.size + 1 + 1, 0, none⟩ (.int .i64 0)) fun k hk => by
      rcases hy3 k hk with h | h
      · exact hset k (by omega) (by omega)
      · exact hset k (by omega) (by omega)
    refine ⟨N, t, y3, r, t4, wi2, hnd, hr2, d2, ?_, htl, by omega⟩
    have mA := ((moves_below (X := noX) y hBW).trans m2).trans ((moves_below (X := noX) y2 hbn).trans m3)
    refine ⟨mA.tb, mA.own, mA.os, mA.tape, mA.output, by have := mA.size; simpa using this, ?_⟩
    intro k hk hn hx
    rw [hset k (by omega) (by omega)]
    exact mA.block k hk hn hx

/-- What follows how, where there was no room. -/
theorem ans_full {M : Nat} {w : World} {y : Lay} {s : St} (A : Bd.Fam s.bits M) (hT : Tab w y s) {W w2 : World} (hBW : Below w.heap.size w W) (hA : AnsAt W w.heap.size (.pointer (some ⟨y.tb, 0, none⟩))) (mb : Nat) (hmb : W.heap[mb]? = some (.cells #[.int .i64 s.L.length] 3 (0, 0))) (hmw : w.heap.size ≤ mb) (hF : Full noX A W y s s.limit w2) :
    CallsD Try.prog 71 #[.pointer (some ⟨w.heap.size, 0, none⟩), .pointer (some ⟨mb, 0, none⟩), .pointer (some ⟨w.heap.size + 1, 0, none⟩), .pointer (some ⟨w.heap.size + 1 + 1, 0, none⟩)] (.panicking noRoom) w2 fun e u' w' => e = .returned (.tuple #[]) ∧ u' = .panicking noRoomOver ∧
      w'.cell? ⟨w.heap.size + 1, 0, none⟩ = some (.int .i64 0) ∧ w'.cell? ⟨w.heap.size + 1 + 1, 0, none⟩ = some (.int .i64 20) ∧ Hid (FullT A w y s w') := by
  obtain ⟨N, y2, t2, wi2, m2, g2, hno⟩ := hF.ex
  have hy : ∀ k, y.own k → k < w.heap.size ∨ w.heap.size + 3 ≤ k := fun k hk => Or.inl (hT.lt hk)
  have l2 := block_lt hA.b2
  have hA2 := hA.moves m2 hy
  have hy2 := own_between (_w0 := w) m2 (by omega) hy
  have hnm : ¬ y.own mb := fun ho => by have := hT.lt ho; omega
  have hm2 := (m2.block mb (block_lt hmb) hnm (fun h => h)).trans hmb
  have hnm2 := m2.not_own (block_lt hmb) hnm
  have ht : (s.L ++ N).take s.L.length = s.L := List.take_left
  rw [← m2.tb] at hA2
  refine (ans_catch t2 s.L.length (by show s.L.length ≤ (s.L ++ N).length; rw [List.length_append]; omega) (fun n hn => (hT.valid.2 n hn).2) w.heap.size hA2 hy2 mb hm2 hnm2).mono ?_
  rintro e u' w' ⟨rfl, rfl, k1, k2, y3, t3, m3⟩
  have t3' : Tab w' y3 { s with L := (s.L ++ N).take s.L.length } := t3
  rw [ht] at t3'
  refine ⟨rfl, rfl, k1, k2, y3, t3', ?_, N, t2.okay, wi2, g2, hno⟩
  have mA := ((moves_below (X := noX) y hBW).trans m2)
  have mB := (mA.more (X' := fun k => k = w.heap.size + 1 ∨ k = w.heap.size + 1 + 1) (fun _ h => h.elim)).trans m3
  refine ⟨mB.tb, mB.own, mB.os, mB.tape, mB.output, mB.size, fun k hk hn _ => mB.block k hk hn (fun h => ?_)⟩
  omega

set_option maxHeartbeats 4000000 in
theorem answer_two {M : Nat} {w : World} {y : Lay} {s : St} (A : Bd.Fam s.bits M) (hT : Tab w y s) (h2 : 2 ≤ s.first) (hsm : s.roots.length + 1 ≤ 1073741824) (hL : s.L.length ≤ s.limit) (v : Value) (ls ns : List Nat) (hR : RefsAt w v ls) (hn : ls.length ≤ 1000000) (hN : NodesOf s ls ns)
    (fh : FuncId) (hent : ∀ args w, (callFunc fh args).run Try.prog w = .ok (.enter fh args) w) (caps : Array Value) (f : Bd.Fn)
    (hhow : ∀ w1 g, Below w.heap.size w w1 → NodesAt w1 g ns → w.heap.size ≤ g → Calls Try.prog fh (#[.slice (some ⟨g, 0, none⟩) ls.length ls.length] ++ caps) w1 fun e w2 => (∃ r, e = .returned (i6 r) ∧ GrewL noX A w1 y s s.limit w2 r f) ∨ (e = .panicked noRoom ∧ Full noX A w1 y s s.limit w2)) :
    Calls Try.prog 45 #[.pointer (some ⟨y.tb, 0, none⟩), v, .func (.func fh) #[] caps] w fun e w' => (∃ r, e = .returned (.tuple #[i6 r, .int .i64 0]) ∧ ToldL A w y s w' r f) ∨ (e = .returned (.tuple #[i6 0, .int .i64 20]) ∧ FullT A w y s w') := by
  have hmf : ∀ (fn : Fn) (first cap : Array Value) (w : World), (Instr.makeFunc fn first cap).run Try.prog w = .ok (.func fn first cap) w := fun _ _ _ _ => rfl
  have HT := keep hT
  have HR := keep hR
  have HN := keep hN
  have HH := keep hhow
  have ltb := hT.lt y.own_tb
  clear hT hR hN hhow
  go_enter_defers Try.func45, Try.ntmps45
  have B0 : Hid (Below w.heap.size w (((w.alloc (.cells #[.pointer (some ⟨y.tb, 0, none⟩)] 23)).alloc (.cells #[.int .i64 0] 25)).alloc (.cells #[.int .i64 0] 30))) :=
    (((Below.refl _ _).alloc (Nat.le_refl _) _).alloc (by simp) _).alloc (by simp <;> omega) _
  obtain ⟨lao, lcap, hls⟩ := HT.out.list_slice
  have A0 : Hid (AnsAt (((w.alloc (.cells #[.pointer (some ⟨y.tb, 0, none⟩)] 23)).alloc (.cells #[.int .i64 0] 25)).alloc (.cells #[.int .i64 0] 30)) w.heap.size (.pointer (some ⟨y.tb, 0, none⟩))) := by
    have e1 : (w.alloc (.cells #[.pointer (some ⟨y.tb, 0, none⟩)] 23)).heap.size = w.heap.size + 1 := by simp
    have e2 : ((w.alloc (.cells #[.pointer (some ⟨y.tb, 0, none⟩)] 23)).alloc (.cells #[.int .i64 0] 25)).heap.size = w.heap.size + 1 + 1 := by simp
    refine ⟨?_, ?_, ?_⟩
    · rw [heap_alloc_old _ _ (by omega), heap_alloc_old _ _ (by omega)]; exact heap_alloc_new w _
    · rw [heap_alloc_old _ _ (by omega), ← e1]; exact heap_alloc_new _ _
    · rw [← e2]; exact heap_alloc_new _ _
  have LAY1 : Hid (∀ w1, Below (((w.alloc (.cells #[.pointer (some ⟨y.tb, 0, none⟩)] 23)).alloc (.cells #[.int .i64 0] 25)).alloc (.cells #[.int .i64 0] 30)).heap.size (((w.alloc (.cells #[.pointer (some ⟨y.tb, 0, none⟩)] 23)).alloc (.cells #[.int .i64 0] 25)).alloc (.cells #[.int .i64 0] 30)) w1 →
      w1.cell? ⟨w.heap.size, 0, none⟩ = some (.pointer (some ⟨y.tb, 0, none⟩)) ∧ w1.cell? ⟨y.tb, 3, none⟩ = some (.slice lao s.L.length lcap)) := by
    intro w1 hb1
    refine ⟨?_, ?_⟩
    · rw [hb1.cell (by show w.heap.size < _; simp <;> omega), cell_at A0.out.b0]; rfl
    · have h := (HT.out.below B0.out).below hb1
      rw [h.cell3, hls]
  have HF := keep (find_ok (HT.out.below B0.out) h2 v ls ns (HR.out.below B0.out) hn HN.out)
  have e0 : (((w.alloc (.cells #[.pointer (some ⟨y.tb, 0, none⟩)] 23)).alloc (.cells #[.int .i64 0] 25)).alloc (.cells #[.int .i64 0] 30)).heap.size = w.heap.size + 1 + 1 + 1 := by simp
  have HOW : Hid (∀ w1, Below (((w.alloc (.cells #[.pointer (some ⟨y.tb, 0, none⟩)] 23)).alloc (.cells #[.int .i64 0] 25)).alloc (.cells #[.int .i64 0] 30)).heap.size (((w.alloc (.cells #[.pointer (some ⟨y.tb, 0, none⟩)] 23)).alloc (.cells #[.int .i64 0] 25)).alloc (.cells #[.int .i64 0] 30)) w1 →
      (∃ cs, w1.heap[w.heap.size + 1 + 1 + 1]? = some (.cells cs 3 (0, 0)) ∧ cs.size = ls.length ∧ ∀ (i m : Nat), ns[i]? = some m → cs[i]? = some (i6 m)) → Calls Try.prog fh (#[.slice (some ⟨w.heap.size + 1 + 1 + 1, 0, none⟩) ls.length ls.length] ++ caps) (w1.alloc (.cells #[.int .i64 s.L.length] 3)) fun e w2 => (∃ r, e = .returned (i6 r) ∧
        w2.cell? ⟨w.heap.size, 0, none⟩ = some (.pointer (some ⟨y.tb, 0, none⟩)) ∧ w2.cell? ⟨y.tb, 6, none⟩ = some (.int .i64 s.limit) ∧ (∃ ao len cap, w2.cell? ⟨y.tb, 3, none⟩ = some (.slice ao len cap) ∧ len ≤ s.limit) ∧
    Hid (∀ n, Calls Try.prog 73 #[.pointer (some ⟨y.tb, 0, none⟩), i6 r] (w2.drewN n) fun e w3 => ∃ ref, e = .returned (i6 ref) ∧ w3.cell? ⟨w.heap.size + 1, 0, none⟩ = some (.int .i64 0) ∧ w3.frozen? ⟨w.heap.size + 1, 0, none⟩ = false ∧ w3.cell? ⟨w.heap.size + 1 + 1, 0, none⟩ = some (.int .i64 0) ∧ w3.frozen? ⟨w.heap.size + 1 + 1, 0, none⟩ = false ∧
      Hid (ToldL A w y s ((w3.setCell ⟨w.heap.size + 1, 0, none⟩ (i6 ref)).setCell ⟨w.heap.size + 1 + 1, 0, none⟩ (.int .i64 0)) ref f))) ∨ (e = .panicked noRoom ∧ Hid (CallsD Try.prog 71 #[.pointer (some ⟨w.heap.size, 0, none⟩), .pointer (some ⟨w1.heap.size, 0, none⟩), .pointer (some ⟨w.heap.size + 1, 0, none⟩), .pointer (some ⟨w.heap.size + 1 + 1, 0, none⟩)] (.panicking noRoom) w2 fun e u' w' => e = .returned (.tuple #[]) ∧ u' = .panicking noRoomOver ∧
      w'.cell? ⟨w.heap.size + 1, 0, none⟩ = some (.int .i64 0) ∧ w'.cell? ⟨w.heap.size + 1 + 1, 0, none⟩ = some (.int .i64 20) ∧ Hid (FullT A w y s w')))) := by
    intro w1 hb1 hcs
    obtain ⟨o, ho⟩ : ∃ o, o = Obj.cells #[.int .i64 s.L.length] 3 (0, 0) := ⟨_, rfl⟩
    rw [← ho]
    have hb01 : Below w.heap.size w w1 := B0.out.trans (hb1.mono B0.out.size)
    have hbo : Below w.heap.size w (w1.alloc o) := hb01.alloc hb01.size o
    obtain ⟨cs, c1, c2, c3⟩ := hcs
    have hold : ∀ k, k < w1.heap.size → (w1.alloc o).heap[k]? = w1.heap[k]? := fun k hk => heap_alloc_old w1 o hk
    have hAA : AnsAt (w1.alloc o) w.heap.size (.pointer (some ⟨y.tb, 0, none⟩)) := by
      have z := hb1.size
      rw [e0] at z
      refine ⟨?_, ?_, ?_⟩
      · rw [hold _ (by omega), hb1.block _ (by rw [e0]; omega)]; exact A0.out.b0
      · rw [hold _ (by omega), hb1.block _ (by rw [e0]; omega)]; exact A0.out.b1
      · rw [hold _ (by omega), hb1.block _ (by rw [e0]; omega)]; exact A0.out.b2
    refine (HH.out (w1.alloc o) (w.heap.size + 1 + 1 + 1) hbo ⟨cs, (hold _ (block_lt c1)).trans c1, by rw [c2, HN.out.1], c3⟩ (by omega)).mono ?_
    rintro e w2 (⟨r, rfl, hG⟩ | ⟨rfl, hF⟩)
    · exact Or.inl ⟨r, rfl, ans_restL A HT.out h2 hsm hL hbo hAA hG⟩
    · exact Or.inr ⟨rfl, ans_full A HT.out hbo hAA w1.heap.size (by rw [ho]; exact heap_alloc_new w1 _) hb01.size hF⟩
  go_wp2_with (first | (go_at_call 34; refine (made_ok (HT.out.below B0.out)).mono ?_; rintro e w' ⟨rfl, rfl⟩) | (go_at_call 64; refine HF.out.mono ?_; rintro e w1 ⟨rfl, hcs, hb1⟩; obtain ⟨k0, k3⟩ := LAY1.out w1 hb1; rw [e0] at hcs; have HW1 := keep (HOW.out w1 hb1 hcs); clear hcs hb1) | (refine HW1.out.mono ?_; rintro e w2 (⟨r, rfl, p0, p6, ⟨ao2, len2, cap2, p3, hll⟩, HTELL⟩ | ⟨rfl, HCA⟩); rotate_left; (refine leaves_cons (f := 71) (args := #[.pointer (some ⟨w.heap.size, 0, none⟩), .pointer (some ⟨w1.heap.size, 0, none⟩), .pointer (some ⟨w.heap.size + 1, 0, none⟩), .pointer (some ⟨w.heap.size + 1 + 1, 0, none⟩)]) (by simp) (by simp [go_sem]) ?_; refine HCA.out.mono ?_; rintro e u' w'' ⟨rfl, rfl, z1, z2, HFT⟩; refine ⟨.tuple #[i6 0, .int .i64 20], ?_, Or.inr ⟨rfl, HFT.out⟩⟩; simp [results, Try.results45, go_sem, z1, z2])))
  have hnd : decide (s.limit < len2) = false := by simp; omega
  have hndI : ¬ ((s.limit : Int) < (len2 : Int)) := by omega
  go_quiet (fail)
  go_wp2_with (first | (go_at_call 73; refine (HTELL.out _).mono ?_; rintro e w3 ⟨ref, rfl, u1, u2, u3, u4, HTOLD⟩))
  refine leaves_cons (f := 71) (args := #[.pointer (some ⟨w.heap.size, 0, none⟩), .pointer (some ⟨w1.heap.size, 0, none⟩), .pointer (some ⟨w.heap.size + 1, 0, none⟩), .pointer (some ⟨w.heap.size + 1 + 1, 0, none⟩)]) (by simp) (by simp [go_sem]) ?_
  refine (ans_idle _ _ _ _ _).mono ?_
  rintro e u' w'' ⟨rfl, rfl, rfl⟩
  refine ⟨.tuple #[i6 ref, .int .i64 0], ?_, Or.inl ⟨ref, rfl, HTOLD.out⟩⟩
  simp [results, Try.results45, go_sem, u1, u3]
end Go.Proofs.Ytnkipdlfpnmgeaa
namespace Go.Proofs.Ytnkipdlfpnmgeaa
open Go.RowKit Go.Maps
open Bd (Nd)

/-- What ite leaves, where there was room. -/
structure IteL {bits M : Nat} (A : Bd.Fam bits M) (w : World) (y : Lay) (s : St) (room kb : Nat) (w' : World) (r : Nat) (f : Bd.Fn) : Prop where
  ex : ∃ N y', Tab w' y' { s with L := s.L ++ N } ∧ Bd.Within A (s.L ++ N) ∧ r < (s.L ++ N).length + 2 ∧ Bd.den (s.L ++ N) r = f ∧ Moves (fun k => k = kb) w y w' y' ∧ (s.L ++ N).length ≤ max s.L.length room ∧
    ∃ sz kf, MapOf Try.prog 99 3 w' kb sz kf ∧ KnownOk (s.L ++ N) kf

theorem IteL.same {bits M : Nat} {A : Bd.Fam bits M} {w w' : World} {y : Lay} {s : St} {room kb r : Nat} {f : Bd.Fn} (hT : Tab w y s) (hW : Bd.Within A s.L) {sz : Nat} {kf : Value → Option Int} (hM : MapOf Try.prog 99 3 w kb sz kf) (hK : KnownOk s.L kf)
    (hr : r < s.L.length + 2) (hf : Bd.den s.L r = f) (hb : Below w.heap.size w w') : IteL A w y s room kb w' r f := by
  refine ⟨[], y, ?_, ?_, ?_, ?_, moves_below y hb, ?_, sz, kf, hM.same (hb.block _ hM.lt), ?_⟩
  · rw [List.append_nil]; exact hT.below hb
  · rw [List.append_nil]; exact hW
  · rw [List.append_nil]; exact hr
  · rw [List.append_nil]; exact hf
  · rw [List.append_nil]; omega
  · rw [List.append_nil]; exact hK

set_option maxHeartbeats 2000000 in
theorem ite_hitL {M : Nat} {w : World} {y : Lay} {s : St} (A : Bd.Fam s.bits M) (hT : Tab w y s) (hW : Bd.Within A s.L) (sb room kb : Nat) (hS : StepAt w sb y.tb room kb) (sz : Nat) (kf : Value → Option Int) (hM : MapOf Try.prog 99 3 w kb sz kf) (hK : KnownOk s.L kf)
    (a b c : Nat) (ha : a < s.L.length + 2) (hb : b < s.L.length + 2) (hc : c < s.L.length + 2) (ha2 : 2 ≤ a) (hbc : b ≠ c) (hq : ¬ (b = 1 ∧ c = 0)) (v : Int) (hv : kf (arV a b c) = some v) :
    Calls Try.prog 76 #[.pointer (some ⟨sb, 0, none⟩), .agg #[i6 a, i6 b, i6 c]] w fun e w' => ∃ r, e = .returned (i6 r) ∧ IteL A w y s room kb w' r (Bd.iteF (Bd.den s.L a) (Bd.den s.L b) (Bd.den s.L c)) := by
  have hsm := hT.small.1
  obtain ⟨kl, hkl⟩ := key_arr (a := a) (b := b) (c := c) (by omega) (by omega) (by omega)
  obtain ⟨a', b', c', r, e1, rfl, h1, h2, h3, h4, h5⟩ := hK _ kl v hkl hv
  obtain ⟨rfl, rfl, rfl⟩ := arV_inj e1
  have HR : Hid (∀ w', Below w.heap.size w w' → IteL A w y s room kb w' r (Bd.iteF (Bd.den s.L a) (Bd.den s.L b) (Bd.den s.L c))) := fun w' hb => IteL.same hT hW hM hK h4 h5 hb
  have hlook : ∀ n o, (Instr.lookup 131 (.map (some kb)) (.agg #[.int .i64 a, .int .i64 b, .int .i64 c]) true).run Try.prog ((w.alloc o).drewN n) = .ok (.tuple #[.int .i64 r, .bool true]) ((w.alloc o).drewN n) := by
    intro n o
    have := MapOf.look (w := (w.alloc o).drewN n) (hM.same ((boxedN w o n).block _ hM.lt)) kArr Try.underlying131 Try.underlying3 (zero_int _) hkl
    have hv' : kf (.agg #[i6 a, i6 b, i6 c]) = some (r : Int) := hv
    rw [hv'] at this
    exact this
  have s2 : ∀ n o, ((w.alloc o).drewN n).cell? ⟨sb, 2, none⟩ = some (.map (some kb)) := by
    intro n o
    have h1 : ((w.alloc o).drewN n).heap[sb]? = w.heap[sb]? := (boxedN w o n).block sb (block_lt hS)
    rw [World.cell?_of_block h1, cell_at hS]; rfl
  have a1 : ((a : Int) == 1) = false := int_ne (b := 1) (by omega)
  have a0 : ((a : Int) == 0) = false := int_ne (b := 0) (by omega)
  have bc := int_ne hbc
  clear hT hW hM hK hS hv h1 h2 h3 h4 h5 e1 hkl ha hb hc
  by_cases hb1 : b = 1
  · have hc0 : ((c : Int) == 0) = false := int_ne (b := 0) (fun e => hq ⟨hb1, e⟩)
    have hb1' : ((b : Int) == 1) = true := int_eq (b := 1) hb1
    clear hq hb1 hbc
    go_enter Try.func76, Try.ntmps76
    go_wp2_with fail
    go_quiet (fail)
    go_wp2_with fail
    go_quiet (fail)
    go_wp2_with fail
    go_ret
    exact ⟨r, rfl, HR.out _ (by first | exact boxedN _ _ _ | (rw [World.drewN_drewN]; exact boxedN _ _ _))⟩
  · have hb1' : ((b : Int) == 1) = false := int_ne (b := 1) hb1
    clear hq hb1 hbc
    go_enter Try.func76, Try.ntmps76
    go_wp2_with fail
    go_quiet (fail)
    go_wp2_with fail
    go_quiet (fail)
    go_wp2_with fail
    go_ret
    exact ⟨r, rfl, HR.out _ (by first | exact boxedN _ _ _ | (rw [World.drewN_drewN]; exact boxedN _ _ _))⟩
/-- ite: a number, or no room. -/
def iteSpec2 (n : Nat) : Prop := ∀ {M : Nat} (s : St) (A : Bd.Fam s.bits M) (w : World) (y : Lay) (sb room kb sz : Nat) (kf : Value → Option Int) (a b c kk : Nat), Tab w y s → Bd.Within A s.L → StepAt w sb y.tb room kb → ¬ y.own sb → ¬ y.own kb →
  room ≤ 1073741824 → s.bits * M ≤ 1048576 → MapOf Try.prog 99 3 w kb sz kf → KnownOk s.L kf → a < s.L.length + 2 → b < s.L.length + 2 → c < s.L.length + 2 →
  kk ≤ Bd.bitOf s.L a → kk ≤ Bd.bitOf s.L b → kk ≤ Bd.bitOf s.L c → A.F kk (Bd.iteF (Bd.den s.L a) (Bd.den s.L b) (Bd.den s.L c)) → 128 - kk ≤ n →
  Calls Try.prog 76 #[.pointer (some ⟨sb, 0, none⟩), .agg #[i6 a, i6 b, i6 c]] w fun e w' => (∃ r, e = .returned (i6 r) ∧ IteL A w y s room kb w' r (Bd.iteF (Bd.den s.L a) (Bd.den s.L b) (Bd.den s.L c))) ∨ (e = .panicked noRoom ∧ Full (fun k => k = kb) A w y s room w')

theorem full_at {X : Nat → Prop} {bits M : Nat} {A : Bd.Fam bits M} {w W w' : World} {y : Lay} {s : St} {room : Nat} (hm : Moves X w y W y) (h : Full X A W y s room w') : Full X A w y s room w' := by
  obtain ⟨N, y2, h1, h2, h3, h4⟩ := h.ex
  exact ⟨N, y2, h1, h2, hm.trans h3, h4⟩

theorem ite_three2 {n M : Nat} (ih : iteSpec2 n) {w : World} {y : Lay} {s : St} (A : Bd.Fam s.bits M) (hT : Tab w y s) (hW : Bd.Within A s.L) (sb room kb : Nat) (hS : StepAt w sb y.tb room kb) (hns : ¬ y.own sb) (hnk : ¬ y.own kb) (hr3 : room ≤ 1073741824) (hbM : s.bits * M ≤ 1048576)
    (sz : Nat) (kf : Value → Option Int) (hM : MapOf Try.prog 99 3 w kb sz kf) (hK : KnownOk s.L kf) (a b c kk k : Nat) (ha : a < s.L.length + 2) (hb : b < s.L.length + 2) (hc : c < s.L.length + 2)
    (hkk : kk ≤ k) (hka : k ≤ Bd.bitOf s.L a) (hkb : k ≤ Bd.bitOf s.L b) (hkc : k ≤ Bd.bitOf s.L c) (hkbits : k < s.bits) (hF : A.F kk (Bd.iteF (Bd.den s.L a) (Bd.den s.L b) (Bd.den s.L c))) (hn : 128 - kk ≤ n + 1)
    (W : World) (hBW : Below w.heap.size w W) (h3 : Three W w.heap.size (v3 a b c) (v3 (Bd.loOf s.L a k) (Bd.loOf s.L b k) (Bd.loOf s.L c k)) (v3 (Bd.hiOf s.L a k) (Bd.hiOf s.L b k) (Bd.hiOf s.L c k))) :
    Calls Try.prog 76 #[.pointer (some ⟨sb, 0, none⟩), .agg #[i6 (Bd.loOf s.L a k), i6 (Bd.loOf s.L b k), i6 (Bd.loOf s.L c k)]] W fun e w1 => (∃ r1, e = .returned (i6 r1) ∧ Three w1 w.heap.size (v3 a b c) (v3 (Bd.loOf s.L a k) (Bd.loOf s.L b k) (Bd.loOf s.L c k)) (v3 (Bd.hiOf s.L a k) (Bd.hiOf s.L b k) (Bd.hiOf s.L c k)) ∧
      Hid (Calls Try.prog 76 #[.pointer (some ⟨sb, 0, none⟩), .agg #[i6 (Bd.hiOf s.L a k), i6 (Bd.hiOf s.L b k), i6 (Bd.hiOf s.L c k)]] w1 fun e w2 => (∃ r2, e = .returned (i6 r2) ∧ Three w2 w.heap.size (v3 a b c) (v3 (Bd.loOf s.L a k) (Bd.loOf s.L b k) (Bd.loOf s.L c k)) (v3 (Bd.hiOf s.L a k) (Bd.hiOf s.L b k) (Bd.hiOf s.L c k)) ∧
        Hid (Calls Try.prog 74 #[.pointer (some ⟨sb, 0, none⟩), i6 k, i6 r1, i6 r2] w2 fun e w3 => (∃ r, e = .returned (i6 r) ∧ Three w3 w.heap.size (v3 a b c) (v3 (Bd.loOf s.L a k) (Bd.loOf s.L b k) (Bd.loOf s.L c k)) (v3 (Bd.hiOf s.L a k) (Bd.hiOf s.L b k) (Bd.hiOf s.L c k)) ∧
          w3.cell? ⟨sb, 2, none⟩ = some (.map (some kb)) ∧ ∃ w4, (Instr.mapUpdate 131 (.map (some kb)) (.agg #[.int .i64 a, .int .i64 b, .int .i64 c]) (.int .i64 r)).run Try.prog w3.drew = .ok () w4 ∧
            Hid (IteL A w y s room kb w4 r (Bd.iteF (Bd.den s.L a) (Bd.den s.L b) (Bd.den s.L c)))) ∨ (e = .panicked noRoom ∧ Hid (Full (fun k => k = kb) A w y s room w3)))) ∨ (e = .panicked noRoom ∧ Hid (Full (fun k => k = kb) A w y s room w2)))) ∨ (e = .panicked noRoom ∧ Hid (Full (fun k => k = kb) A w y s room w1)) := by
  have hf128 := hT.okay.few
  have hk128 : k < 128 := by omega
  have lsb := block_lt hS
  have lkb := hM.lt
  have hTW := hT.below hBW
  have l2 := block_lt h3.b2
  have hy3 : ∀ j, y.own j → j < w.heap.size ∨ w.heap.size + 3 ≤ j := fun j hj => Or.inl (hT.lt hj)
  have hX3 : ∀ j, j = kb → j < w.heap.size := fun j hj => by omega
  obtain ⟨a1, a2⟩ := Bd.lo_lt hT.okay ha hk128
  obtain ⟨b1, b2⟩ := Bd.lo_lt hT.okay hb hk128
  obtain ⟨c1, c2⟩ := Bd.lo_lt hT.okay hc hk128
  obtain ⟨a3, a4⟩ := Bd.bit_half hT.okay ha hk128 hka
  obtain ⟨b3, b4⟩ := Bd.bit_half hT.okay hb hk128 hkb
  obtain ⟨c3, c4⟩ := Bd.bit_half hT.okay hc hk128 hkc
  obtain ⟨a5, a6⟩ := Bd.den_half hT.okay ha hk128 hka
  obtain ⟨b5, b6⟩ := Bd.den_half hT.okay hb hk128 hkb
  obtain ⟨c5, c6⟩ := Bd.den_half hT.okay hc hk128 hkc
  have hFrom : Bd.From k (Bd.iteF (Bd.den s.L a) (Bd.den s.L b) (Bd.den s.L c)) := Bd.from_iteF ((Bd.from_den hT.okay a ha).mono hka) ((Bd.from_den hT.okay b hb).mono hkb) ((Bd.from_den hT.okay c hc).mono hkc)
  have hFk := A.skip hF hFrom hkk (by omega)
  have hF0 := A.go k _ false hkbits hFk
  have hF1 := A.go k _ true hkbits hFk
  rw [Bd.cof_iteF, ← a5, ← b5, ← c5] at hF0
  rw [Bd.cof_iteF, ← a6, ← b6, ← c6] at hF1
  have hSW : StepAt W sb y.tb room kb := (hBW.block sb lsb).trans hS
  refine (ih s A W y sb room kb sz kf _ _ _ (k + 1) hTW hW hSW hns hnk hr3 hbM (hM.same (hBW.block _ lkb)) hK a1 b1 c1 a3 b3 c3 hF0 (by omega)).mono ?_
  have M1 : Moves (fun k => k = kb) w y W y := moves_below y hBW
  rintro e w1 (⟨r1, rfl, ⟨N1, y1, t1, wi1, hr1, d1, m1, g1, sz1, kf1, k1, ko1⟩⟩ | ⟨rfl, hfu⟩)
  rotate_left
  · exact Or.inr ⟨rfl, full_at M1 hfu⟩
  have h31 := h3.moves m1 hy3 hX3
  refine Or.inl ⟨r1, rfl, h31, ?_⟩
  have l1len : (s.L ++ N1).length = s.L.length + N1.length := List.length_append
  have hns1 := m1.not_own (Nat.lt_of_lt_of_le lsb hBW.size) hns
  have hnk1 := m1.not_own (Nat.lt_of_lt_of_le lkb hBW.size) hnk
  have hS1 : StepAt w1 sb y1.tb room kb := by
    rw [m1.tb]
    refine (m1.block sb (Nat.lt_of_lt_of_le lsb hBW.size) hns (fun e => ?_)).trans hSW
    subst e
    obtain ⟨es, cc, hm⟩ := map_block hM
    rw [hS] at hm
    cases hm
  have hF1' : A.F (k + 1) (Bd.iteF (Bd.den (s.L ++ N1) (Bd.hiOf s.L a k)) (Bd.den (s.L ++ N1) (Bd.hiOf s.L b k)) (Bd.den (s.L ++ N1) (Bd.hiOf s.L c k))) := by
    rw [Bd.den_append_old _ _ a2, Bd.den_append_old _ _ b2, Bd.den_append_old _ _ c2]; exact hF1
  refine (ih { s with L := s.L ++ N1 } A w1 y1 sb room kb sz1 kf1 (Bd.hiOf s.L a k) (Bd.hiOf s.L b k) (Bd.hiOf s.L c k) (k + 1) t1 wi1 hS1 hns1 hnk1 hr3 hbM k1 ko1 (by show _ < (s.L ++ N1).length + 2; omega) (by show _ < (s.L ++ N1).length + 2; omega) (by show _ < (s.L ++ N1).length + 2; omega)
    (by show _ ≤ Bd.bitOf (s.L ++ N1) _; rw [Bd.bitOf_old _ _ a2]; exact a4) (by show _ ≤ Bd.bitOf (s.L ++ N1) _; rw [Bd.bitOf_old _ _ b2]; exact b4) (by show _ ≤ Bd.bitOf (s.L ++ N1) _; rw [Bd.bitOf_old _ _ c2]; exact c4) hF1' (by omega)).mono ?_
  rintro e w2 (⟨r2, rfl, ⟨N2, y2, t2, wi2, hr2, d2, m2, g2, sz2, kf2, k2, ko2⟩⟩ | ⟨rfl, hfu⟩)
  rotate_left
  · exact Or.inr ⟨rfl, Full.chain (N1 := N1) (M1.trans m1) hfu⟩
  have g2' : (s.L ++ N1 ++ N2).length ≤ max (s.L ++ N1).length room := g2
  have t2' : Tab w2 y2 { s with L := s.L ++ N1 ++ N2 } := t2
  have wi2' : Bd.Within A (s.L ++ N1 ++ N2) := wi2
  have d2' : Bd.den (s.L ++ N1 ++ N2) r2 = _ := d2
  have hr2' : r2 < (s.L ++ N1 ++ N2).length + 2 := hr2
  have ko2' : KnownOk (s.L ++ N1 ++ N2) kf2 := ko2
  clear t2 wi2 d2 hr2 ko2
  have hX1 : w.heap.size + 3 ≤ w1.heap.size := by have := m1.size; omega
  have h32 := h31.moves m2 (own_between (_w0 := w) m1 (by omega) hy3) hX3
  refine Or.inl ⟨r2, rfl, h32, ?_⟩
  have lW1 : sb < w1.heap.size := by have := m1.size; have := hBW.size; omega
  have lK1 : kb < w1.heap.size := by have := m1.size; have := hBW.size; omega
  have hns2 := m2.not_own lW1 hns1
  have hnk2 := m2.not_own lK1 hnk1
  have hS2 : StepAt w2 sb y2.tb room kb := by
    rw [m2.tb]
    refine (m2.block sb lW1 hns1 (fun e => ?_)).trans hS1
    subst e
    obtain ⟨es, cc, hm⟩ := map_block hM
    rw [hS] at hm
    cases hm
  have l2len : (s.L ++ N1 ++ N2).length = s.L.length + N1.length + N2.length := by rw [List.length_append, List.length_append]
  have dr1 : Bd.den (s.L ++ N1 ++ N2) r1 = Bd.cof (Bd.iteF (Bd.den s.L a) (Bd.den s.L b) (Bd.den s.L c)) k false := by
    rw [Bd.den_append_old _ _ hr1, d1, Bd.cof_iteF, a5, b5, c5]
  have dr2 : Bd.den (s.L ++ N1 ++ N2) r2 = Bd.cof (Bd.iteF (Bd.den s.L a) (Bd.den s.L b) (Bd.den s.L c)) k true := by
    rw [d2', Bd.cof_iteF, ← a6, ← b6, ← c6]
    show Bd.iteF (Bd.den (s.L ++ N1) _) (Bd.den (s.L ++ N1) _) (Bd.den (s.L ++ N1) _) = _
    rw [Bd.den_append_old _ _ a2, Bd.den_append_old _ _ b2, Bd.den_append_old _ _ c2]
  have hr1' : r1 < (s.L ++ N1 ++ N2).length + 2 := by omega
  have hmux : Bd.mux k (Bd.den (s.L ++ N1 ++ N2) r1) (Bd.den (s.L ++ N1 ++ N2) r2) = Bd.iteF (Bd.den s.L a) (Bd.den s.L b) (Bd.den s.L c) := by rw [dr1, dr2, Bd.mux_cof]
  refine (node_two (s := { s with L := s.L ++ N1 ++ N2 }) A t2' wi2' sb room kb hS2 hns2 hr3 k r1 r2 hkbits hr1' hr2' ?_ ?_ ?_).mono ?_
  · have := Bd.bit_ge t2'.okay (r := r1) (k := k + 1) hr1' (by show Bd.From (k + 1) (Bd.den (s.L ++ N1 ++ N2) r1); rw [dr1]; exact Bd.from_cof hFrom _) (by omega)
    exact this
  · have := Bd.bit_ge t2'.okay (r := r2) (k := k + 1) hr2' (by show Bd.From (k + 1) (Bd.den (s.L ++ N1 ++ N2) r2); rw [dr2]; exact Bd.from_cof hFrom _) (by omega)
    exact this
  · show A.F k (Bd.mux k (Bd.den (s.L ++ N1 ++ N2) r1) (Bd.den (s.L ++ N1 ++ N2) r2))
    rw [hmux]; exact hFk
  · rintro e w3 (⟨r, rfl, ⟨N3, y3, t3, wi3, hr3', d3, m3, g3⟩⟩ | ⟨rfl, hfu⟩)
    rotate_left
    · have hfu' : Full (fun k => k = kb) (s := { s with L := s.L ++ N1 ++ N2 }) A w2 y2 room w3 := Full.more (X := noX) (s := { s with L := s.L ++ N1 ++ N2 }) hfu (fun _ h => h.elim)
      exact Or.inr ⟨rfl, Full.chain (N1 := N1) (M1.trans m1) (Full.chain (s := { s with L := s.L ++ N1 }) (N1 := N2) m2 hfu')⟩
    have g3' : (s.L ++ N1 ++ N2 ++ N3).length ≤ max (s.L ++ N1 ++ N2).length room := g3
    have t3' : Tab w3 y3 { s with L := s.L ++ N1 ++ N2 ++ N3 } := t3
    have wi3' : Bd.Within A (s.L ++ N1 ++ N2 ++ N3) := wi3
    have hr3'' : r < (s.L ++ N1 ++ N2 ++ N3).length + 2 := hr3'
    have d3' : Bd.den (s.L ++ N1 ++ N2 ++ N3) r = Bd.iteF (Bd.den s.L a) (Bd.den s.L b) (Bd.den s.L c) := by rw [← hmux]; exact d3
    clear t3 wi3 hr3' d3
    have lW2 : sb < w2.heap.size := by have := m2.size; omega
    have lK2 : kb < w2.heap.size := by have := m2.size; omega
    have hX2 : w.heap.size + 3 ≤ w2.heap.size := by have := m2.size; omega
    have hown2 := own_between (_w0 := w) m2 (by omega) (own_between (_w0 := w) m1 (by omega) hy3)
    have h33 := h32.moves m3 hown2 (fun j hj => hj.elim)
    refine Or.inl ⟨r, rfl, h33, ?_, ?_⟩
    · have h := m3.block sb lW2 hns2 (fun h => h)
      rw [World.cell?_of_block h, cell_at hS2]; rfl
    · have l3len : (s.L ++ N1 ++ N2 ++ N3).length = (s.L ++ N1 ++ N2).length + N3.length := List.length_append
      have hfew := wi3'.few t3'.okay
      have hk3 : MapOf Try.prog 99 3 w3 kb sz2 kf2 := k2.same (m3.block kb lK2 hnk2 (fun h => h))
      have ko3 : KnownOk (s.L ++ N1 ++ N2 ++ N3) kf2 := ko2'.grow N3
      obtain ⟨kl, hkl⟩ := key_arr (a := a) (b := b) (c := c) (by have := t3'.small.1; have : (s.L ++ N1 ++ N2 ++ N3).length ≤ 1073741824 := this; omega) (by have := t3'.small.1; have : (s.L ++ N1 ++ N2 ++ N3).length ≤ 1073741824 := this; omega) (by have := t3'.small.1; have : (s.L ++ N1 ++ N2 ++ N3).length ≤ 1073741824 := this; omega)
      obtain ⟨w4, hrun, hput, hg⟩ := MapOf.put_run (w := w3.drew) (hk3.same rfl) kArr Try.underlying131 Try.underlying3 (known_few hk3 ko3 (by omega)) hkl (c := (r : Int)) (wf64 (by have := t3'.small.1; have : (s.L ++ N1 ++ N2 ++ N3).length ≤ 1073741824 := this; omega))
      refine ⟨w4, hrun, ?_⟩
      obtain ⟨kf', hu⟩ := upd_exists kf2 (arV a b c) (some (r : Int))
      have hm4 := hput kf' hu
      have lK3 : kb < w3.heap.size := by have := m3.size; omega
      have hnk3 := m3.not_own lK2 hnk2
      have m4 : Moves (fun k => k = kb) w3 y3 w4 y3 := ⟨rfl, fun _ h => Or.inl h, hg.os, hg.tape, hg.output, hg.size, fun j hj _ hx => hg.block j hj (fun e => hx (by cases e; rfl))⟩
      have t4 : Tab w4 y3 { s with L := s.L ++ N1 ++ N2 ++ N3 } := t3'.same fun j hj => hg.block j (t3'.lt hj) (fun e => by cases e; exact hnk3 hj)
      have MA := (M1.trans m1).trans (m2.trans ((m3.more (fun _ h => h.elim)).trans m4))
      refine ⟨N1 ++ (N2 ++ N3), y3, ?_, ?_, ?_, ?_, MA, ?_, _, kf', hm4, ?_⟩
      · rw [← List.append_assoc, ← List.append_assoc]; exact t4
      · rw [← List.append_assoc, ← List.append_assoc]; exact wi3'
      · rw [← List.append_assoc, ← List.append_assoc]; exact hr3''
      · rw [← List.append_assoc, ← List.append_assoc]; exact d3'
      · rw [← List.append_assoc, ← List.append_assoc]; omega
      · rw [← List.append_assoc, ← List.append_assoc]
        refine ko3.put (by omega) (by omega) (by omega) hr3'' ?_ hu
        have e3 : ∀ x, x < s.L.length + 2 → Bd.den (s.L ++ N1 ++ N2 ++ N3) x = Bd.den s.L x := by
          intro x hx
          rw [Bd.den_append_old _ _ (by omega), Bd.den_append_old _ _ (by omega), Bd.den_append_old _ _ hx]
        rw [d3', e3 a ha, e3 b hb, e3 c hc]
end Go.Proofs.Ytnkipdlfpnmgeaa
namespace Go.Proofs.Ytnkipdlfpnmgeaa
open Go.RowKit Go.Maps
open Bd (Nd)

set_option maxHeartbeats 4000000 in
theorem cube_how2 {M : Nat} {w : World} {y : Lay} {s : St} (A : Bd.Fam s.bits M) (hT : Tab w y s) (hW : Bd.Within A s.L) (B : Nat) (t : ByteArray) (h0 : w.heap[B]? = some (.cells #[.pointer (some ⟨y.tb, 0, none⟩)] 23 (0, 0))) (h1 : w.heap[B + 1]? = some (.cells #[.string t] 9 (0, 0)))
    (hy : ¬ y.own B ∧ ¬ y.own (B + 1)) (ht : t.size = s.bits) (hF : A.F 0 (suf t 0)) (nv : Value) :
    Calls Try.prog 46 #[nv, .pointer (some ⟨B, 0, none⟩), .pointer (some ⟨B + 1, 0, none⟩)] w fun e w' => (∃ r, e = .returned (i6 r) ∧ GrewL noX A w y s s.limit w' r (suf t 0)) ∨ (e = .panicked noRoom ∧ Full noX A w y s s.limit w') := by
  have c0 : w.cell? ⟨B, 0, none⟩ = some (.pointer (some ⟨y.tb, 0, none⟩)) := by rw [cell_at h0]; rfl
  have c1 : w.cell? ⟨B + 1, 0, none⟩ = some (.string t) := by rw [cell_at h1]; rfl
  have c6 : w.cell? ⟨y.tb, 6, none⟩ = some (.int .i64 s.limit) := by rw [cell_at hT.cells]; rfl
  have hsl := hT.small
  have HC : Hid (Calls Try.prog 47 #[.pointer (some ⟨y.tb, 3, none⟩), .int .i64 s.limit] w.drew fun e w1 => e = .returned (.pointer (some ⟨w.heap.size + 1, 0, none⟩)) ∧ w1.cell? ⟨B, 0, none⟩ = some (.pointer (some ⟨y.tb, 0, none⟩)) ∧ w1.cell? ⟨B + 1, 0, none⟩ = some (.string t) ∧ w1.cell? ⟨y.tb, 6, none⟩ = some (.int .i64 s.limit) ∧
      Hid (Calls Try.prog 48 #[.pointer (some ⟨w.heap.size + 1, 0, none⟩), .string t] w1 fun e w2 => (∃ r, e = .returned (i6 r) ∧ w2.cell? ⟨B, 0, none⟩ = some (.pointer (some ⟨y.tb, 0, none⟩)) ∧ w2.cell? ⟨B + 1, 0, none⟩ = some (.string t) ∧ w2.cell? ⟨y.tb, 6, none⟩ = some (.int .i64 s.limit) ∧ Hid (GrewL noX A w y s s.limit w2 r (suf t 0))) ∨ (e = .panicked noRoom ∧ Hid (Full noX A w y s s.limit w2)))) := by
    refine (step_any w.drew y.tb s.limit).mono ?_
    rintro e w1 ⟨rfl, rfl⟩
    obtain ⟨s1, s2, s3⟩ := step_new w.drew y.tb s.limit
    have s3' : Below w.heap.size w _ := (Below.refl w.heap.size w).drew.trans s3
    have lB := block_lt h0
    have lB1 := block_lt h1
    have ltb := hT.lt y.own_tb
    refine ⟨rfl, by rw [s3'.cell (by exact lB)]; exact c0, by rw [s3'.cell (by exact lB1)]; exact c1, by rw [s3'.cell (by exact ltb)]; exact c6, ?_⟩
    have hT1 := hT.below s3'
    have hns : ¬ y.own (w.heap.size + 1) := fun ho => by have := hT.lt ho; omega
    refine (cube_two A hT1 hW (w.heap.size + 1) s.limit w.heap.size s1 hns (by omega) t ht hF).mono ?_
    rintro e w2 (⟨r, rfl, hG⟩ | ⟨rfl, hF⟩)
    rotate_left
    · exact Or.inr ⟨rfl, full_at (moves_below y s3') hF⟩
    obtain ⟨N, y2, t2, wi2, hr2, d2, m2, g2⟩ := hG.ex
    have z := s3'.size
    have b0 := m2.block B (by omega) hy.1 (fun h => h)
    have b1 := m2.block (B + 1) (by omega) hy.2 (fun h => h)
    refine Or.inl ⟨r, rfl, ?_, ?_, ?_, N, y2, t2, wi2, hr2, d2, (moves_below y s3').trans m2, g2⟩
    · rw [World.cell?_of_block b0, s3'.cell (by exact lB)]; exact c0
    · rw [World.cell?_of_block b1, s3'.cell (by exact lB1)]; exact c1
    · rw [← m2.tb, cell_at t2.cells]; rfl
  clear hT hW h0 h1 hy ht hF
  go_enter Try.func46, Try.ntmps46
  go_wp2_with fail
  go_region_held2 (fun w' => w'.cell? ⟨B, 0, none⟩ = some (.pointer (some ⟨y.tb, 0, none⟩)) ∧ w'.cell? ⟨B + 1, 0, none⟩ = some (.string t) ∧ w'.cell? ⟨y.tb, 6, none⟩ = some (.int .i64 s.limit)) (first | (go_keep; done) | exact ⟨q1, q2, q3⟩ | exact ⟨p1, p2, p3⟩) (first | (go_at_call 48; refine HC2.out.mono ?_; rintro e w2 (⟨r, rfl, q1, q2, q3, HG⟩ | ⟨rfl, hF'⟩); rotate_left; (exact ⟨rfl, Or.inr ⟨rfl, hF'.out⟩⟩)) | (go_at_call 47; refine HC.out.mono ?_; rintro e w1 ⟨rfl, p1, p2, p3, HC2⟩))
  go_wp2_with fail
  go_ret
  exact Or.inl ⟨r, rfl, HG.out⟩
set_option maxHeartbeats 4000000 in
theorem Cube_two {M : Nat} {w : World} {y : Lay} {s : St} (A : Bd.Fam s.bits M) (hT : Tab w y s) (hW : Bd.Within A s.L) (h2 : 2 ≤ s.first) (hsm : s.roots.length + 1 ≤ 1073741824) (hL : s.L.length ≤ s.limit) (t : ByteArray) (ht : t.size = s.bits) (hr : Cu.right t.data.toList = true) (hF : A.F 0 (suf t 0)) :
    Calls Try.prog 22 #[.pointer (some ⟨y.tb, 0, none⟩), .string t] w fun e w' => (∃ r, e = .returned (.tuple #[i6 r, .int .i64 0]) ∧ ToldL A w y s w' r (suf t 0)) ∨ (e = .returned (.tuple #[i6 0, .int .i64 20]) ∧ FullT A w y s w') := by
  have hmf : ∀ (fn : Fn) (first cap : Array Value) (w : World), (Instr.makeFunc fn first cap).run Try.prog w = .ok (.func fn first cap) w := fun _ _ _ _ => rfl
  have ltb := hT.lt y.own_tb
  obtain ⟨x0, x1, xb, xs⟩ := box2 w (.cells #[.pointer (some ⟨y.tb, 0, none⟩)] 23) (.cells #[.string t] 9)
  have hTa := hT.below xb
  have hck := check_any t ((w.alloc (.cells #[.pointer (some ⟨y.tb, 0, none⟩)] 23)).alloc (.cells #[.string t] 9)).drew
  have e0 : chkE t = 0 := if_pos hr
  rw [e0] at hck
  have HCK : Hid (Calls Try.prog 44 #[.string t] ((w.alloc (.cells #[.pointer (some ⟨y.tb, 0, none⟩)] 23)).alloc (.cells #[.string t] 9)).drew fun e w1 => e = .returned (.int .i64 0) ∧ w1.cell? ⟨w.heap.size, 0, none⟩ = some (.pointer (some ⟨y.tb, 0, none⟩)) ∧ w1.cell? ⟨w.heap.size + 1, 0, none⟩ = some (.string t) ∧ w1.cell? ⟨y.tb, 5, none⟩ = some (.int .i64 s.bits) ∧
      Hid (Calls Try.prog 45 #[.pointer (some ⟨y.tb, 0, none⟩), .slice none 0 0, .func (.func 46) #[] #[.pointer (some ⟨w.heap.size, 0, none⟩), .pointer (some ⟨w.heap.size + 1, 0, none⟩)]] w1 fun e w' => (∃ r, e = .returned (.tuple #[i6 r, .int .i64 0]) ∧ Hid (ToldL A w y s w' r (suf t 0))) ∨ (e = .returned (.tuple #[i6 0, .int .i64 20]) ∧ Hid (FullT A w y s w')))) := by
    refine hck.mono ?_
    rintro e w1 ⟨rfl, hb1⟩
    have hb1' : Below (w.heap.size + 2) ((w.alloc (.cells #[.pointer (some ⟨y.tb, 0, none⟩)] 23)).alloc (.cells #[.string t] 9)) w1 := by
      rw [← xs]; exact ⟨hb1.os, hb1.tape, hb1.output, hb1.size, hb1.block⟩
    have y0 : w1.heap[w.heap.size]? = _ := (hb1'.block _ (by omega)).trans x0
    have y1 : w1.heap[w.heap.size + 1]? = _ := (hb1'.block _ (by omega)).trans x1
    have hbw : Below w.heap.size w w1 := xb.trans (hb1'.mono (by omega))
    have hT1 := hT.below hbw
    refine ⟨rfl, by rw [cell_at y0]; rfl, by rw [cell_at y1]; rfl, by rw [cell_at hT1.cells]; rfl, ?_⟩
    refine (answer_two A hT1 h2 hsm hL (.slice none 0 0) [] [] ⟨none, 0, rfl, fun i r h => by simp at h⟩ (by simp) ⟨rfl, fun i r h => by simp at h⟩ 46 enter_Cube #[.pointer (some ⟨w.heap.size, 0, none⟩), .pointer (some ⟨w.heap.size + 1, 0, none⟩)] (suf t 0) ?_).mono ?_
    · intro w2 g hb2 _ _
      have hb2' : Below w1.heap.size w1 w2 := hb2
      have z1 := block_lt y0
      have z2 := block_lt y1
      exact cube_how2 A (hT1.below hb2') hW w.heap.size t ((hb2'.block _ z1).trans y0) ((hb2'.block _ z2).trans y1) ⟨fun ho => by have := hT.lt ho; omega, fun ho => by have := hT.lt ho; omega⟩ ht hF _
    · rintro e w' (⟨r, rfl, ⟨N, tt, y', m, q1, q2, q3, q4, q5, q6, q7, q8⟩⟩ | ⟨rfl, ⟨y', q1, q2, q3⟩⟩)
      · exact Or.inl ⟨r, rfl, N, tt, y', m, q1, q2, q3, q4, q5, (moves_below y hbw).trans q6, q7, q8⟩
      · exact Or.inr ⟨rfl, y', q1, (moves_below y hbw).trans q2, q3⟩
  have c5 : ((w.alloc (.cells #[.pointer (some ⟨y.tb, 0, none⟩)] 23)).alloc (.cells #[.string t] 9)).cell? ⟨y.tb, 5, none⟩ = some (.int .i64 s.bits) := by rw [cell_at hTa.cells]; rfl
  have HTA := keep hTa
  have hne : ((t.size : Int) != (s.bits : Int)) = false := by rw [ht]; simp
  clear hT hW h2 hsm hL hF hr hck hTa x0 x1 xb xs e0 ht
  go_enter Try.func22, Try.ntmps22
  go_wp2_with (first | (go_at_call 34; refine (made_ok HTA.out).mono ?_; rintro e w' ⟨rfl, rfl⟩))
  go_region_held3 (fun w' => w'.cell? ⟨w.heap.size, 0, none⟩ = some (.pointer (some ⟨y.tb, 0, none⟩)) ∧ w'.cell? ⟨w.heap.size + 1, 0, none⟩ = some (.string t) ∧ w'.cell? ⟨y.tb, 5, none⟩ = some (.int .i64 s.bits)) (first | (go_keep; done) | exact ⟨q1, q2, q3⟩) (first | (go_at_call 44; refine HCK.out.mono ?_; rintro e w1 ⟨rfl, q1, q2, q3, HANS⟩))
  go_wp2_with (first | (go_at_call 45; refine HANS.out.mono ?_; rintro e w' (⟨r, rfl, HT⟩ | ⟨rfl, HT⟩)))
  · go_wp2_with fail
    go_ret2
    exact Or.inl ⟨r, rfl, HT.out⟩
  · go_wp2_with fail
    go_ret2
    exact Or.inr ⟨rfl, HT.out⟩
end Go.Proofs.Ytnkipdlfpnmgeaa
