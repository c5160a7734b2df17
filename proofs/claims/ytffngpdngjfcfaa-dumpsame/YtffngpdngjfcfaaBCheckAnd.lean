/-
  drop: the walk.
  drop: all nodes but the first ones go.
  Make: the function of a right list.
  build: the node of a list.
  check: a right list is one.
-/
import Derived.Test.YtffngpdngjfcfaaBNobodyAnd
import Derived.Test.YtffngpdngjfcfaaBIteAnd
import Derived.Test.YtffngpdngjfcfaaReadAnd
namespace Go.Proofs.Ytffngpdngjfcfaa
open Go.RowKit Go.Maps
open Bd (Nd)

theorem make_hint (w : World) (n : Int) : (Instr.makeMap 47 (some (.int .i64 n))).run Try.prog w = .ok (.map (some w.heap.size)) (w.alloc (.map #[] 0)) := by kernel_rfl

/-- The nodes that are there so far. -/
def There (w : World) (b k : Nat) (l : List Nd) : Prop := ∃ sz f, sz ≤ k ∧ MapOf Try.prog 82 3 w b sz f ∧ ∀ x, x ∉ l → f (ndV x) = none
theorem There.lt {w : World} {b k : Nat} {l : List Nd} (h : There w b k l) : b < w.heap.size := by
  obtain ⟨sz, f, _, h, _⟩ := h
  exact h.lt
theorem There.same {w w' : World} {b k : Nat} {l : List Nd} (h : There w b k l) (hb : w'.heap[b]? = w.heap[b]?) : There w' b k l := by
  obtain ⟨sz, f, h0, h1, h2⟩ := h
  exact ⟨sz, f, h0, h1.same hb, h2⟩
theorem There.look {w : World} {b k : Nat} {l : List Nd} (h : There w b k l) {x : Nd} (hx : x ∉ l) (h0 : x.1 < 9223372036854775808) (h1 : x.2.1 < 9223372036854775808) (h2 : x.2.2 < 9223372036854775808) :
    (Instr.lookup 47 (.map (some b)) (.agg #[.int .i64 x.1, .int .i64 x.2.1, .int .i64 x.2.2]) true).run Try.prog w = .ok (.tuple #[.int .i64 0, .bool false]) w := by
  obtain ⟨sz, f, _, hf, hn⟩ := h
  obtain ⟨kl, hkl⟩ := key_node (a := x.1) (b := x.2.1) (c := x.2.2) h0 h1 h2
  have := MapOf.look hf kNode Try.underlying47 Try.underlying3 (zero_int _) hkl
  have e : f (.agg #[i6 x.1, i6 x.2.1, i6 x.2.2]) = none := hn x hx
  rw [e] at this
  exact this
theorem There.put {w : World} {b k : Nat} {l : List Nd} (h : There w b k l) {x : Nd} (hk : k ≤ 1073741826) (c : Nat) (hc : c < 9223372036854775808) (h0 : x.1 < 9223372036854775808) (h1 : x.2.1 < 9223372036854775808) (h2 : x.2.2 < 9223372036854775808) :
    ∃ w', (Instr.mapUpdate 47 (.map (some b)) (.agg #[.int .i64 x.1, .int .i64 x.2.1, .int .i64 x.2.2]) (.int .i64 c)).run Try.prog w = .ok () w' ∧ There w' b (k + 1) (l ++ [x]) ∧ w.grownBy w' (some b) := by
  obtain ⟨sz, f, hs, hf, hn⟩ := h
  obtain ⟨kl, hkl⟩ := key_node (a := x.1) (b := x.2.1) (c := x.2.2) h0 h1 h2
  obtain ⟨w', hrun, hput, hg⟩ := MapOf.put_run hf kNode Try.underlying47 Try.underlying3 (by unfold maxLen; omega) hkl (c := (c : Int)) (wf64 hc)
  obtain ⟨f', hf'⟩ := upd_exists f (ndV x) (some (c : Int))
  refine ⟨w', hrun, ⟨_, f', ?_, hput f' hf', fun z hz => ?_⟩, hg⟩
  · split <;> omega
  · rw [List.mem_append] at hz
    rw [hf'.2 _ (fun e => hz (Or.inr (by rw [ndV_inj e]; simp)))]
    exact hn z (fun h => hz (Or.inl h))

theorem kid_of {w : World} {g cap : Nat} {Q : List Nd} (h : NodesIn w (.slice (some ⟨g, 0, none⟩) Q.length cap) Q) {b to i : Nat} (ht : to < i + 2) (hi : i ≤ Q.length) (hb : b < Bd.bitOf Q to) : Kid w g Q.length b to := by
  rcases Nat.lt_or_ge to 2 with h2 | h2
  · exact Or.inl h2
  · have hc : to - 2 < Q.length := by omega
    have hx : Q[to - 2]? = some Q[to - 2] := List.getElem?_eq_getElem hc
    obtain ⟨g', cap', e, hcells⟩ := h
    cases e
    have hbt := Bd.bitOf_at hx
    rw [show to - 2 + 2 = to by omega] at hbt
    exact Or.inr ⟨to - 2, Q[to - 2].1, by omega, hc, (hcells _ _ hx).1, by omega⟩

set_option maxRecDepth 4000 in
set_option maxHeartbeats 400000 in
theorem check_ok {w : World} {lv : Value} {Q : List Nd} {bits : Nat} (hlist : w.ownsRow 0 82 3 lv Q.length (flat Q)) (hR : Right bits Q) (hlen : Q.length ≤ 1073741824) :
    Calls Try.prog 64 #[lv, .int .i64 bits] w fun e w' => e = .returned (.tuple #[.int .i64 0, .bool true]) ∧ Below w.heap.size w w' := by
  obtain ⟨ao, cp, rfl⟩ : ∃ ao cp, lv = .slice ao Q.length cp := by
    rcases hlist.2 with ⟨h1, h2⟩ | ⟨g, cp, cur, h1, _⟩
    · exact ⟨none, 0, by rw [h1, h2]⟩
    · exact ⟨_, _, h1⟩
  have HL := keep hlist
  have HR := keep hR
  obtain ⟨n, hn⟩ : ∃ n, n = Q.length := ⟨_, rfl⟩
  have HN := keep hn
  rw [← hn] at hlen HL ⊢
  have hlenI : (n : Int) ≤ 1073741824 := by omega
  have hmk : ∀ w : World, (Instr.makeMap 47 (some (.int .i64 (n : Int)))).run Try.prog w = .ok (.map (some w.heap.size)) (w.alloc (.map #[] 0)) := fun w => make_hint w (n : Int)
  have HB0 : Hid (Below w.heap.size w (w.alloc (.map #[] 0))) := (Below.refl _ _).alloc (Nat.le_refl _) _
  have HT0 : Hid (There (w.alloc (.map #[] 0)) w.heap.size 0 []) := ⟨0, fun _ => none, Nat.le_refl _, MapOf.new Try.prog 82 3 w, fun _ _ => rfl⟩
  clear hlist hR hn hlen
  go_enter Try.func64, Try.ntmps64
  go_wp2
  go_loopw [16] (fun i wr => ∃ k : Nat, k ≤ n ∧ i = .int .i64 k ∧ Hid (There wr w.heap.size k (Q.take k) ∧ Below w.heap.size w wr)) (fun i _ => n - (intOf i).toNat)
  case atStart => exact ⟨0, Nat.zero_le _, rfl, HT0.out, HB0.out⟩
  case round =>
    clear HB0 HT0
    obtain ⟨k, hk, rfl, H⟩ := hrel
    by_cases hlt : k < n
    · obtain ⟨x, hx⟩ : ∃ x, Q[k]? = some x := ⟨Q[k]'(by rw [← HN.out]; exact hlt), List.getElem?_eq_getElem _⟩
      obtain ⟨f1, f2, f3, f4, f5, f6⟩ := HR.out.okay.fit k x hx
      have h128 := HR.out.okay.few
      have hxn : x ∉ Q.take k := by
        intro hm
        obtain ⟨j, hj, e⟩ := List.mem_iff_getElem.1 hm
        rw [List.length_take] at hj
        rw [List.getElem_take] at e
        have hkQ := Bd.getElem?_lt hx
        rw [List.getElem?_eq_getElem hkQ] at hx
        have := (List.getElem_inj (h₀ := by omega) (h₁ := hkQ) HR.out.okay.nd).1 (e.trans (Option.some.inj hx).symm)
        omega
      have hB := H.out.2
      have hrow : wr.ownsRow 0 82 3 (.slice ao n cp) n (flat Q) := row_same HL.out fun g hg => hB.block g (HL.out.lt g hg).2
      have hNI : NodesIn wr (.slice ao n cp) Q := nodesIn_of (by rw [← HN.out]; exact hrow) (by have := HN.out; omega)
      obtain ⟨g, cap', e, hcells⟩ := hNI
      have ea : ao = some ⟨g, 0, none⟩ := by cases e; rfl
      have ec : cp = cap' := by cases e; rfl
      subst ea
      subst ec
      obtain ⟨d0, d1, d2⟩ := hcells k x hx
      have hgl : g < w.heap.size := (HL.out.lt g rfl).2
      have hgr : g < wr.heap.size := by have := hB.size; omega
      have hwb : Below wr.heap.size wr (wr.alloc (.cells #[.int .i64 x.1, .int .i64 x.2.1, .int .i64 x.2.2] 82)) := (Below.refl _ _).alloc (Nat.le_refl _) _
      have hTh := H.out.1.same (hwb.block _ H.out.1.lt)
      have hlook := hTh.look hxn (by omega) (by omega) (by omega)
      have hNI2 : NodesIn (wr.alloc (.cells #[.int .i64 x.1, .int .i64 x.2.1, .int .i64 x.2.2] 82)) (.slice (some ⟨g, 0, none⟩) Q.length cp) Q := ⟨g, cp, rfl, fun i y hy => by
        obtain ⟨q0, q1, q2⟩ := hcells i y hy
        rw [hwb.cell (p := ⟨g, i * 3, none⟩) hgr, hwb.cell (p := ⟨g, i * 3 + 1, none⟩) hgr, hwb.cell (p := ⟨g, i * 3 + 2, none⟩) hgr]
        exact ⟨q0, q1, q2⟩⟩
      have HF : Hid (Calls Try.prog 91 #[.slice (some ⟨g, 0, none⟩) n cp, .int .i64 k, .int .i64 bits] (wr.alloc (.cells #[.int .i64 x.1, .int .i64 x.2.1, .int .i64 x.2.2] 82)) fun e w2 => e = .returned (.bool true) ∧ w2.cell? ⟨wr.heap.size, 0, none⟩ = some (.int .i64 x.1) ∧ w2.cell? ⟨wr.heap.size, 1, none⟩ = some (.int .i64 x.2.1) ∧ w2.cell? ⟨wr.heap.size, 2, none⟩ = some (.int .i64 x.2.2) ∧
          ∃ w3, (Instr.mapUpdate 47 (.map (some w.heap.size)) (.agg #[.int .i64 x.1, .int .i64 x.2.1, .int .i64 x.2.2]) (.int .i64 k)).run Try.prog w2 = .ok () w3 ∧ Hid (There w3 w.heap.size (k + 1) (Q.take (k + 1)) ∧ Below w.heap.size w w3)) := by
        have kl := kid_of hNI2 f1 (by have := HN.out; omega) f5
        have kh := kid_of hNI2 f2 (by have := HN.out; omega) f6
        rw [← HN.out] at kl kh
        refine (fits_ok _ g cp n k bits x (by simp; omega) hlt (by omega) (by rw [hwb.cell (p := ⟨g, k * 3, none⟩) hgr]; exact d0) (by rw [hwb.cell (p := ⟨g, k * 3 + 1, none⟩) hgr]; exact d1) (by rw [hwb.cell (p := ⟨g, k * 3 + 2, none⟩) hgr]; exact d2) f4 f3 f1 f2 kl kh).mono ?_
        rintro e w2 ⟨rfl, hb2⟩
        have hbx : w2.heap[wr.heap.size]? = _ := (hb2.block wr.heap.size (by simp)).trans (heap_alloc_new wr _)
        obtain ⟨w3, hrun, hth, hg3⟩ := (hTh.same (hb2.block _ hTh.lt)).put (x := x) (by omega) k (by omega) (by omega) (by omega) (by omega)
        refine ⟨rfl, by rw [cell_at hbx]; rfl, by rw [cell_at hbx]; rfl, by rw [cell_at hbx]; rfl, w3, hrun, by rw [take_succ_get hx]; exact hth, ?_⟩
        have h2 : Below w.heap.size w w2 := hB.trans ((hwb.trans (hb2.mono hwb.size)).mono hB.size)
        exact ⟨hg3.os.trans h2.os, hg3.tape.trans h2.tape, hg3.output.trans h2.output, Nat.le_trans h2.size hg3.size, fun j hj => (hg3.block j (Nat.lt_of_lt_of_le hj h2.size) (by simp; omega)).trans (h2.block j hj)⟩
      have hkI : (0 : Int) ≤ (k : Int) := by omega
      have hkI2 : (k : Int) < (n : Int) := by omega
      clear H hB hrow hcells hwb hTh hNI2 f1 f2 f3 f4 f5 f6 hxn hx hgl hgr e h128
      obtain ⟨x0, x1, x2⟩ := x
      simp only at d0 d1 d2 hlook HF
      go_wp2_with fail
      refine HF.out.mono ?_
      rintro e w2 ⟨rfl, b0, b1, b2, w3, hrun, HD⟩
      clear HF hlook d0 d1 d2
      go_wp2
      go_roundw
      case rel => exact ⟨k + 1, by omega, by go_num, HD.out⟩
      case measure => simp [intOf]; omega
    · have hkn : k = n := by omega
      have hrow : wr.ownsRow 0 82 3 (.slice ao n cp) n (flat Q) := row_same HL.out fun g hg => H.out.2.block g (HL.out.lt g hg).2
      have HO : Hid (Calls Try.prog 92 #[.slice ao n cp] wr fun e w' => e = .returned (.bool true) ∧ Below w.heap.size w w') := by
        refine (inOrder_ok (lv := .slice ao n cp) (by rw [← HN.out]; exact hrow) HR.out (by have := HN.out; omega)).mono ?_
        rintro e w' ⟨rfl, hb⟩
        exact ⟨rfl, H.out.2.trans (hb.mono H.out.2.size)⟩
      subst hkn
      clear H hrow hlt
      go_wp2_with fail
      refine HO.out.mono ?_
      rintro e w' ⟨rfl, hb⟩
      have HB := keep hb
      clear hb HO
      go_wp2
      go_ret2
      exact ⟨rfl, HB.out⟩
end Go.Proofs.Ytffngpdngjfcfaa
namespace Go.Proofs.Ytffngpdngjfcfaa
open Go.RowKit Go.Maps
open Bd (Nd)

/-- The function of a list: that of its last node; of no nodes, none. -/
def lastF (Q : List Nd) : Bd.Fn := if Q.length = 0 then Bd.ff else Bd.den Q (Q.length + 1)

/-- build on its way: the numbers of the first nodes. -/
structure Builds {bits M : Nat} (A : Bd.Fam bits M) (w : World) (y : Lay) (s : St) (Q : List Nd) (k : Nat) (wr : World) (g cap : Nat) (ms : List Nat) (y1 : Lay) (N : List Nd) : Prop where
  tab : Tab wr y1 { s with L := s.L ++ N }
  within : Bd.Within A (s.L ++ N)
  moves : Moves noX w y wr y1
  row : wr.ownsRow 0 3 1 (.slice (some ⟨g, 0, none⟩) (k + 2) cap) (k + 2) (nums ms)
  far : w.heap.size ≤ g
  free : ¬ y1.own g
  len : ms.length = k + 2
  den : ∀ (j m : Nat), ms[j]? = some m → m < (s.L ++ N).length + 2 ∧ Bd.den (s.L ++ N) m = Bd.den Q j

theorem Builds.cell {bits M : Nat} {A : Bd.Fam bits M} {w : World} {y : Lay} {s : St} {Q : List Nd} {k : Nat} {wr : World} {g cap : Nat} {ms : List Nat} {y1 : Lay} {N : List Nd} (h : Builds A w y s Q k wr g cap ms y1 N) {j m : Nat} (hj : ms[j]? = some m) : wr.cell? ⟨g, j, none⟩ = some (.int .i64 m) := by
  have hadd : ∀ j, (⟨g, 0, none⟩ : Addr).add j = ⟨g, j, none⟩ := by intro j; unfold Addr.add; split <;> simp_all
  have hc := h.row.cells (g := g) rfl j (i6 m) (by unfold nums; rw [List.getElem?_map, hj]; rfl)
  rw [hadd] at hc
  exact hc

theorem run_twos (n : Nat) (hn : n ≤ 1073741824) (w : World) : ∃ W0, (Instr.makeSlice 42 (.int .i64 2) (.int .i64 ((n : Int) + 2))).run Try.prog w = .ok (.slice (some ⟨w.heap.size, 0, none⟩) 2 (n + 2)) W0 ∧ W0 = w.alloc (.cells (zeros (n + 2)) 3) := by
  obtain ⟨i, hi, hz0, hz1, hz2⟩ := info_parts Try.infoInt
  have := run_make (P := Try.prog) w 42 3 i (.int .i64 0) Try.underlying42 hi hz0 .i64 .i64 2 ((n : Int) + 2) (by omega) (by omega) (by rw [hz2]; omega) (by omega)
  rw [this, hz1, Nat.mul_one, show ((n : Int) + 2).toNat = n + 2 by omega]
  exact ⟨_, rfl, rfl⟩

theorem builds_new {bits M : Nat} {A : Bd.Fam bits M} {w : World} {y : Lay} {s : St} (Q : List Nd) (hT : Tab w y s) (hW : Bd.Within A s.L) (n : Nat) (hn : n ≤ 1073741824) :
    Builds A w y s Q 0 ((w.alloc (.cells (zeros (n + 2)) 3)).setCell ⟨w.heap.size, 1, none⟩ (.int .i64 1)) w.heap.size (n + 2) [0, 1] y [] := by
  have x0 := heap_alloc_new w (.cells (zeros (n + 2)) 3)
  have x1 := set_block (o := 1) (.int .i64 1) x0
  have hb : Below w.heap.size w ((w.alloc (.cells (zeros (n + 2)) 3)).setCell ⟨w.heap.size, 1, none⟩ (.int .i64 1)) := ((Below.refl _ _).alloc (Nat.le_refl _) _).setCell (Nat.le_refl _) _
  refine ⟨by rw [List.append_nil]; exact hT.below hb, by rw [List.append_nil]; exact hW, moves_below y hb, ?_, Nat.le_refl _, fun ho => by have := hT.lt ho; omega, rfl, fun j m hj => ?_⟩
  · refine ⟨rfl, Or.inr ⟨w.heap.size, n + 2, _, rfl, Nat.zero_le _, x1, by omega, by unfold maxLen; omega, by simp [zeros_size], ?_⟩⟩
    have e : (zeros (n + 2)).toList = .int .i64 0 :: .int .i64 0 :: List.replicate n (.int .i64 0) := by
      unfold zeros
      rw [toList_madeCells_one]
      rfl
    rw [Array.toList_setIfInBounds, e]
    rfl
  · rw [List.append_nil]
    match j, hj with
    | 0, hj => simp at hj; subst hj; exact ⟨by omega, by rw [Bd.den_zero, Bd.den_zero]⟩
    | 1, hj => simp at hj; subst hj; exact ⟨by omega, by rw [Bd.den_one, Bd.den_one]⟩
    | (j + 2), hj => simp at hj

/-- append where there is room. -/
theorem room_row {w : World} {g k cap : Nat} {cur : Array Value} {xs : List Value} (hg : w.heap[g]? = some (.cells cur 3 (0, 0))) (hsz : cur.size = cap) (hk : k < cap) (hcap : cap ≤ maxLen) (ht : cur.toList.take k = xs) (r : Value) :
    (w.setCells g (0 + k * 1) [r]).heap[g]? = some (.cells (cur.setIfInBounds k r) 3 (0, 0)) ∧ w.grownBy (w.setCells g (0 + k * 1) [r]) (some g) ∧ (w.setCells g (0 + k * 1) [r]).ownsRow 0 3 1 (.slice (some ⟨g, 0, none⟩) (k + 1) cap) (k + 1) (xs ++ [r]) := by
  have e : w.setCells g (0 + k * 1) [r] = w.setCell ⟨g, k, none⟩ r := by rw [Nat.zero_add, Nat.mul_one]; rfl
  rw [e]
  have h1 := set_block (o := k) r hg
  have hxl : xs.length = k := by rw [← ht, List.length_take, Array.length_toList]; omega
  refine ⟨h1, ⟨rfl, rfl, rfl, by rw [show (w.setCell ⟨g, k, none⟩ r).heap.size = w.heap.size from by simp]; exact Nat.le_refl _, fun j hj hne => set_other r (fun e => hne (by rw [e]))⟩, ?_⟩
  refine ⟨by simp [hxl], Or.inr ⟨g, cap, _, rfl, Nat.zero_le _, h1, by omega, hcap, by simp [hsz], ?_⟩⟩
  rw [Array.toList_setIfInBounds, Nat.mul_one]
  apply List.ext_getElem?
  intro i
  rcases Nat.lt_trichotomy i k with hi | hi | hi
  · rw [List.getElem?_take_of_lt (by omega), List.getElem?_set_ne (by omega), List.getElem?_append_left (by omega), ← ht, List.getElem?_take_of_lt hi]
  · subst hi
    rw [List.getElem?_take_of_lt (by omega), List.getElem?_set_self (by rw [Array.length_toList]; omega), List.getElem?_append_right (by omega), hxl]
    simp
  · rw [List.getElem?_eq_none (by rw [List.length_take]; omega), List.getElem?_eq_none (by simp; omega)]

/-- One node more. -/
theorem builds_node {M : Nat} {w : World} {y : Lay} {s : St} {A : Bd.Fam s.bits M} {Q : List Nd} {k : Nat} {wr : World} {g cap : Nat} {ms : List Nat} {y1 : Lay} {N : List Nd} (h : Builds A w y s Q k wr g cap ms y1 N) (sb room kb : Nat) (hS : StepAt w sb y.tb room kb) (hns : ¬ y.own sb) (hroom : s.bits * M ≤ room) (hr3 : room ≤ 1073741824)
    (hQ : Bd.Okay s.bits Q) (hF : Bd.Within A Q) {x : Nd} (hx : Q[k]? = some x) : ∃ lo hi, ms[x.2.1]? = some lo ∧ ms[x.2.2]? = some hi ∧ ∀ o : Obj, Calls Try.prog 86 #[.pointer (some ⟨sb, 0, none⟩), .int .i64 x.1, .int .i64 lo, .int .i64 hi] (wr.alloc o).drew fun e w3 => ∃ r : Nat, e = .returned (.int .i64 r) ∧
      w3.heap[wr.heap.size]? = some o ∧ w3.heap[g]? = wr.heap[g]? ∧ wr.heap.size < w3.heap.size ∧ w3.ownsRow 0 3 1 (.slice (some ⟨g, 0, none⟩) (k + 2) cap) (k + 2) (nums ms) ∧
      ∀ (o2 : Obj) (w4 : World) (g4 cap4 : Nat), w4.ownsRow 0 3 1 (.slice (some ⟨g4, 0, none⟩) (k + 2 + 1) cap4) (k + 2 + 1) (nums ms ++ [.int .i64 r]) → (w3.alloc o2).grownBy w4 (some g) → (some g = some g4 ∨ g4 = w3.heap.size + 1) → ∃ ms' y' N', Builds A w y s Q (k + 1) w4 g4 cap4 ms' y' N' := by
  obtain ⟨f1, f2, f3, f4, f5, f6⟩ := hQ.fit k x hx
  have hl := h.len
  have g1 : ms[x.2.1]? = some (ms[x.2.1]'(by omega)) := List.getElem?_eq_getElem _
  have g2 : ms[x.2.2]? = some (ms[x.2.2]'(by omega)) := List.getElem?_eq_getElem _
  refine ⟨_, _, g1, g2, fun o => ?_⟩
  obtain ⟨a1, a2⟩ := h.den _ _ g1
  obtain ⟨b1, b2⟩ := h.den _ _ g2
  generalize ms[x.2.1] = lo at *
  generalize ms[x.2.2] = hi at *
  have hbw : Below wr.heap.size wr (wr.alloc o).drew := ((Below.refl _ _).alloc (Nat.le_refl _) o).drew
  have hT1 := h.tab.below hbw
  have lsb := block_lt hS
  have hns1 := h.moves.not_own lsb hns
  have hsz := h.moves.size
  have hS1 : StepAt (wr.alloc o).drew sb y1.tb room kb := by
    rw [h.moves.tb]
    exact (hbw.block sb (by omega)).trans ((h.moves.block sb lsb hns (fun h => h)).trans hS)
  have hkQ := Bd.getElem?_lt hx
  have hb1 : x.1 < Bd.bitOf (s.L ++ N) lo := Bd.bit_ge (k := x.1 + 1) hT1.okay a1 (by show Bd.From _ (Bd.den (s.L ++ N) lo); rw [a2]; exact (Bd.from_den hQ _ (by omega)).mono f5) (by have := hQ.few; omega)
  have hb2 : x.1 < Bd.bitOf (s.L ++ N) hi := Bd.bit_ge (k := x.1 + 1) hT1.okay b1 (by show Bd.From _ (Bd.den (s.L ++ N) hi); rw [b2]; exact (Bd.from_den hQ _ (by omega)).mono f6) (by have := hQ.few; omega)
  have hden : Bd.mux x.1 (Bd.den (s.L ++ N) lo) (Bd.den (s.L ++ N) hi) = Bd.den Q (k + 2) := by rw [a2, b2]; exact (Bd.den_at hQ hx).symm
  refine (node_any (s := { s with L := s.L ++ N }) A hT1 h.within sb room kb hS1 hns1 hroom hr3 x.1 lo hi f4 a1 b1 hb1 hb2 (by show A.F _ (Bd.mux x.1 (Bd.den (s.L ++ N) lo) (Bd.den (s.L ++ N) hi)); rw [hden]; exact hF k x hx)).mono ?_
  rintro e w3 ⟨r, rfl, hG⟩
  obtain ⟨N2, y2, t2, wi2, hr2, d2, m2⟩ := hG.ex
  have hgl : g < wr.heap.size := (h.row.lt g rfl).2
  have hgn : ¬ y2.own g := fun ho => by
    rcases m2.own g ho with e | e
    · exact h.free e
    · simp at e; omega
  have k0 : w3.heap[wr.heap.size]? = some o := (m2.block _ (by simp) (fun ho => by have := h.tab.lt ho; omega) (fun h => h)).trans (heap_alloc_new wr o)
  have k1 : w3.heap[g]? = wr.heap[g]? := (m2.block _ (by simp; omega) h.free (fun h => h)).trans (hbw.block g hgl)
  refine ⟨r, rfl, k0, k1, block_lt k0, row_same h.row fun q hq => by cases hq; exact k1, ?_⟩
  intro o2 w4 g4 cap4 hown hgr hat
  have z3 : wr.heap.size < w3.heap.size := block_lt k0
  have z4 : w3.heap.size + 1 ≤ w4.heap.size := by have := hgr.size; simpa using this
  have old : ∀ j, j < w3.heap.size → j ≠ g → w4.heap[j]? = w3.heap[j]? := by
    intro j hj hne
    rw [hgr.block j (by simp; omega) (fun e => hne (by cases e; rfl))]
    exact heap_alloc_old w3 o2 hj
  have t2' : Tab w3 y2 { s with L := s.L ++ (N ++ N2) } := by rw [← List.append_assoc]; exact t2
  have t4 : Tab w4 y2 { s with L := s.L ++ (N ++ N2) } := t2'.same fun j hj => old j (t2'.lt hj) (fun e => hgn (e ▸ hj))
  have m3 : Moves noX w y w3 y2 := (h.moves.trans (moves_below y1 hbw)).trans m2
  refine ⟨ms ++ [r], y2, N ++ N2, t4, by rw [← List.append_assoc]; exact wi2, ?_, ?_, ?_, ?_, by simp [hl], fun j m hj => ?_⟩
  · exact ⟨m3.tb, m3.own, hgr.os.trans m3.os, hgr.tape.trans m3.tape, hgr.output.trans m3.output, by have := m3.size; omega, fun j hj hn hX => (old j (by have := m3.size; omega) (by have := h.far; omega)).trans (m3.block j hj hn hX)⟩
  · rw [nums_snoc]; exact hown
  · rcases hat with e | e
    · cases e; exact h.far
    · have := h.far; omega
  · rcases hat with e | e
    · cases e; exact hgn
    · intro ho; have := t2'.lt ho; omega
  · rw [← List.append_assoc]
    have hll : (s.L ++ N ++ N2).length = (s.L ++ N).length + N2.length := List.length_append
    rcases Nat.lt_or_ge j (k + 2) with hj2 | hj2
    · rw [List.getElem?_append_left (by omega)] at hj
      obtain ⟨c1, c2⟩ := h.den j m hj
      exact ⟨by omega, by rw [Bd.den_append_old _ _ c1]; exact c2⟩
    · rw [List.getElem?_append_right (by omega), hl] at hj
      have h0 : j - (k + 2) = 0 := by have := Bd.getElem?_lt hj; simp at this; exact this
      rw [h0] at hj
      simp at hj
      subst hj
      have hjk : j = k + 2 := by omega
      subst hjk
      exact ⟨hr2, d2.trans hden⟩

set_option maxRecDepth 4000 in
set_option maxHeartbeats 4000000 in
theorem build_any {M : Nat} {w : World} {y : Lay} {s : St} (A : Bd.Fam s.bits M) (hT : Tab w y s) (hW : Bd.Within A s.L) (sb room kb : Nat) (hS : StepAt w sb y.tb room kb) (hns : ¬ y.own sb) (hroom : s.bits * M ≤ room) (hr3 : room ≤ 1073741824)
    (Q : List Nd) (lv : Value) (hl : w.ownsRow 0 82 3 lv Q.length (flat Q)) (hdis : ∀ k, lv.ownBlock = some k → ¬ y.own k) (hQ : Bd.Okay s.bits Q) (hlen : Q.length ≤ 1073741824) (hF : Bd.Within A Q) :
    Calls Try.prog 66 #[.pointer (some ⟨sb, 0, none⟩), lv] w fun e w' => ∃ r : Nat, e = .returned (.int .i64 r) ∧ Grew noX A w y s w' r (lastF Q) := by
  obtain ⟨ao, cp, rfl⟩ : ∃ ao cp, lv = .slice ao Q.length cp := by
    rcases hl.2 with ⟨h1, h2⟩ | ⟨g, cp, cur, h1, _⟩
    · exact ⟨none, 0, by rw [h1, h2]⟩
    · exact ⟨_, _, h1⟩
  have HL := keep hl
  obtain ⟨n, hn⟩ : ∃ n, n = Q.length := ⟨_, rfl⟩
  have HN := keep hn
  rw [← hn] at hlen HL hdis ⊢
  obtain ⟨W0, hmk, hW0⟩ := run_twos n hlen w
  have x0 := heap_alloc_new w (.cells (zeros (n + 2)) 3)
  have c1 : W0.cell? ⟨w.heap.size, 1, none⟩ = some (.int .i64 0) := by
    rw [hW0, cell_at x0]
    unfold zeros
    rw [← Array.getElem?_toList, toList_madeCells_one]
    rfl
  have z1 : W0.frozen? ⟨w.heap.size, 1, none⟩ = false := by rw [hW0]; exact not_frozen x0
  have HB0 : Hid (Builds A w y s Q 0 (W0.setCell ⟨w.heap.size, 1, none⟩ (.int .i64 1)) w.heap.size (n + 2) [0, 1] y []) := by rw [hW0]; exact builds_new Q hT hW n hlen
  have HST : Hid (∀ (k : Nat) (wr : World) (g cap : Nat) (ms : List Nat) (y1 : Lay) (N : List Nd), Builds A w y s Q k wr g cap ms y1 N → ∀ x, Q[k]? = some x → ∃ lo hi, ms[x.2.1]? = some lo ∧ ms[x.2.2]? = some hi ∧ ∀ o : Obj, Calls Try.prog 86 #[.pointer (some ⟨sb, 0, none⟩), .int .i64 x.1, .int .i64 lo, .int .i64 hi] (wr.alloc o).drew fun e w3 => ∃ r : Nat, e = .returned (.int .i64 r) ∧
      w3.heap[wr.heap.size]? = some o ∧ w3.heap[g]? = wr.heap[g]? ∧ wr.heap.size < w3.heap.size ∧ w3.ownsRow 0 3 1 (.slice (some ⟨g, 0, none⟩) (k + 2) cap) (k + 2) (nums ms) ∧
      ∀ (o2 : Obj) (w4 : World) (g4 cap4 : Nat), w4.ownsRow 0 3 1 (.slice (some ⟨g4, 0, none⟩) (k + 2 + 1) cap4) (k + 2 + 1) (nums ms ++ [.int .i64 r]) → (w3.alloc o2).grownBy w4 (some g) → (some g = some g4 ∨ g4 = w3.heap.size + 1) → ∃ ms' y' N', Builds A w y s Q (k + 1) w4 g4 cap4 ms' y' N') := fun k wr g cap ms y1 N h x hx => builds_node h sb room kb hS hns hroom hr3 hQ hF hx
  have HQ := keep hQ
  have HD := keep hdis
  have hlenI : (n : Int) ≤ 1073741824 := by omega
  obtain ⟨i0, hi, hz0, hz1, hz2⟩ := info_parts Try.infoInt
  have HI := keep hi
  have HZ0 := keep hz0
  have HZ1 := keep hz1
  have HZ2 := keep hz2
  clear hT hW hS hns hroom hr3 hl hdis hQ hF hn hW0 x0 hi hz0 hz1 hz2
  go_enter Try.func66, Try.ntmps66
  go_wp2
  clear hmk c1 z1
  go_loopw [5, 16] (fun v i wr => ∃ k g : Nat, k ≤ n ∧ v = .slice (some ⟨g, 0, none⟩) (k + 2) (n + 2) ∧ i = .int .i64 k ∧ Hid (∃ ms y1 N, Builds A w y s Q k wr g (n + 2) ms y1 N)) (fun _ i _ => n - (intOf i).toNat)
  case atStart => exact ⟨0, w.heap.size, Nat.zero_le _, rfl, rfl, _, _, _, HB0.out⟩
  case round =>
    clear HB0
    obtain ⟨k, g, hk, rfl, rfl, H⟩ := hrel
    obtain ⟨ms, y1, N, hB⟩ := H.out
    by_cases hlt : k < n
    · obtain ⟨x, hx⟩ : ∃ x, Q[k]? = some x := ⟨Q[k]'(by rw [← HN.out]; exact hlt), List.getElem?_eq_getElem _⟩
      obtain ⟨f1, f2, f3, f4, f5, f6⟩ := HQ.out.fit k x hx
      obtain ⟨lo, hi, m1, m2, hcall⟩ := HST.out k wr g (n + 2) ms y1 N hB x hx
      have hgl : g < wr.heap.size := (hB.row.lt g rfl).2
      have cl := hB.cell m1
      have ch := hB.cell m2
      have cla : ∀ o, (wr.alloc o).cell? ⟨g, x.2.1, none⟩ = some (.int .i64 lo) := fun o => by rw [World.cell?_of_block (heap_alloc_old wr o hgl)]; exact cl
      have cha : ∀ o, (wr.alloc o).cell? ⟨g, x.2.2, none⟩ = some (.int .i64 hi) := fun o => by rw [World.cell?_of_block (heap_alloc_old wr o hgl)]; exact ch
      have hrow : wr.ownsRow 0 82 3 (.slice ao n cp) n (flat Q) := row_same HL.out fun q hq => hB.moves.block q (HL.out.lt q hq).2 (HD.out q hq) (fun h => h)
      have hNI : NodesIn wr (.slice ao n cp) Q := nodesIn_of (by rw [← HN.out]; exact hrow) (by have := HN.out; omega)
      obtain ⟨gl, cp', e, hcells⟩ := hNI
      have ea : ao = some ⟨gl, 0, none⟩ := by cases e; rfl
      subst ea
      obtain ⟨d0, d1, d2⟩ := hcells k x hx
      have HC := keep (hcall (.cells #[.int .i64 x.1, .int .i64 x.2.1, .int .i64 x.2.2] 82))
      have hkI : (0 : Int) ≤ (k : Int) := by omega
      have hkI2 : (k : Int) < (n : Int) := by omega
      have l1 : (x.2.1 : Int) < (k : Int) + 2 := by omega
      have l2 : (x.2.2 : Int) < (k : Int) + 2 := by omega
      have l1' : x.2.1 < k + 2 := by omega
      have l2' : x.2.2 < k + 2 := by omega
      obtain ⟨x0, x1, x2⟩ := x
      simp only at d0 d1 d2 cl ch cla cha l1 l2 l1' l2' HC
      have HCE : Hid (Calls Try.prog 86 #[.pointer (some ⟨sb, 0, none⟩), .int .i64 x0, .int .i64 lo, .int .i64 hi] (wr.alloc (.cells #[.int .i64 x0, .int .i64 x1, .int .i64 x2] 82)).drew fun e w3 => ∃ r : Nat, e = .returned (.int .i64 r) ∧ (w3.cell? ⟨wr.heap.size, 0, none⟩ = some (.int .i64 x0) ∧ w3.cell? ⟨wr.heap.size, 1, none⟩ = some (.int .i64 x1) ∧ w3.cell? ⟨wr.heap.size, 2, none⟩ = some (.int .i64 x2) ∧ w3.cell? ⟨g, x1, none⟩ = some (.int .i64 lo) ∧ w3.cell? ⟨g, x2, none⟩ = some (.int .i64 hi)) ∧
          (∀ o, (w3.alloc o).cell? ⟨wr.heap.size, 0, none⟩ = some (.int .i64 x0) ∧ (w3.alloc o).cell? ⟨wr.heap.size, 1, none⟩ = some (.int .i64 x1) ∧ (w3.alloc o).cell? ⟨wr.heap.size, 2, none⟩ = some (.int .i64 x2) ∧ (w3.alloc o).cell? ⟨g, x1, none⟩ = some (.int .i64 lo) ∧ (w3.alloc o).cell? ⟨g, x2, none⟩ = some (.int .i64 hi)) ∧
          (∀ o j, j < 1 → ((w3.alloc o).cell? ⟨g, 0 + (k + 2) * 1 + j, none⟩).isSome = true ∧ (w3.alloc o).frozen? ⟨g, 0 + (k + 2) * 1 + j, none⟩ = false) ∧
          Hid (∀ o2 : Obj, (∃ ms' y' N', Builds A w y s Q (k + 1) ((w3.alloc o2).setCells g (0 + (k + 2) * 1) [.int .i64 r]) g (n + 2) ms' y' N') ∧
            (((w3.alloc o2).setCells g (0 + (k + 2) * 1) [.int .i64 r]).cell? ⟨wr.heap.size, 0, none⟩ = some (.int .i64 x0) ∧ ((w3.alloc o2).setCells g (0 + (k + 2) * 1) [.int .i64 r]).cell? ⟨wr.heap.size, 1, none⟩ = some (.int .i64 x1) ∧ ((w3.alloc o2).setCells g (0 + (k + 2) * 1) [.int .i64 r]).cell? ⟨wr.heap.size, 2, none⟩ = some (.int .i64 x2) ∧ ((w3.alloc o2).setCells g (0 + (k + 2) * 1) [.int .i64 r]).cell? ⟨g, x1, none⟩ = some (.int .i64 lo) ∧ ((w3.alloc o2).setCells g (0 + (k + 2) * 1) [.int .i64 r]).cell? ⟨g, x2, none⟩ = some (.int .i64 hi)))) := by
        refine HC.out.mono ?_
        rintro e w3 ⟨r, rfl, k0, k1, kz, kr, kf⟩
        have five : ∀ w' : World, w'.heap[wr.heap.size]? = w3.heap[wr.heap.size]? → w'.heap[g]? = w3.heap[g]? → w'.cell? ⟨wr.heap.size, 0, none⟩ = some (.int .i64 x0) ∧ w'.cell? ⟨wr.heap.size, 1, none⟩ = some (.int .i64 x1) ∧ w'.cell? ⟨wr.heap.size, 2, none⟩ = some (.int .i64 x2) ∧ w'.cell? ⟨g, x1, none⟩ = some (.int .i64 lo) ∧ w'.cell? ⟨g, x2, none⟩ = some (.int .i64 hi) := by
          intro w' e1 e2
          have e1' := e1.trans k0
          exact ⟨by rw [cell_at e1']; rfl, by rw [cell_at e1']; rfl, by rw [cell_at e1']; rfl, by rw [World.cell?_of_block (e2.trans k1)]; exact cl, by rw [World.cell?_of_block (e2.trans k1)]; exact ch⟩
        obtain ⟨cur, hcur, hcs, hct⟩ : ∃ cur, wr.heap[g]? = some (.cells cur 3 (0, 0)) ∧ cur.size = n + 2 ∧ cur.toList.take (k + 2) = nums ms := by
          rcases hB.row.2 with ⟨e, _⟩ | ⟨g', cap', cur, e, _, h1, _, _, h2, h3⟩
          · cases e
          · cases e; exact ⟨cur, h1, by omega, by rw [Nat.mul_one] at h3; exact h3⟩
        have hga : ∀ o, (w3.alloc o).heap[g]? = some (.cells cur 3 (0, 0)) := fun o => (heap_alloc_old w3 o (by omega)).trans (k1.trans hcur)
        refine ⟨r, rfl, five w3 rfl rfl, fun o => five _ (heap_alloc_old w3 o (by omega)) (heap_alloc_old w3 o (by omega)), fun o j hj => ?_, fun o2 => ?_⟩
        · have hj0 : j = 0 := by omega
          subst hj0
          refine ⟨?_, not_frozen (hga o)⟩
          rw [cell_at (hga o), Array.getElem?_eq_getElem (by omega)]
          rfl
        · obtain ⟨r1, r2, r3⟩ := room_row (hga o2) hcs (by omega) (by unfold maxLen; omega) hct (.int .i64 r)
          refine ⟨kf o2 _ g (n + 2) r3 r2 (Or.inl rfl), ?_⟩
          have hb : ((w3.alloc o2).setCells g (0 + (k + 2) * 1) [.int .i64 r]).heap[wr.heap.size]? = some _ := (r2.block wr.heap.size (by simp; omega) (fun e => by cases e; omega)).trans ((heap_alloc_old w3 o2 (by omega)).trans k0)
          have cl' := cl
          have ch' := ch
          rw [cell_at hcur] at cl' ch'
          exact ⟨by rw [cell_at hb]; rfl, by rw [cell_at hb]; rfl, by rw [cell_at hb]; rfl, by rw [cell_at r1, Array.getElem?_setIfInBounds_ne (by omega)]; exact cl', by rw [cell_at r1, Array.getElem?_setIfInBounds_ne (by omega)]; exact ch'⟩
      clear HC hcall hB H hrow hcells e f1 f2 f3 f4 f5 f6 hx m1 m2 hgl cl ch
      go_wp2_with fail
      go_region_held3 (fun w' => w'.cell? ⟨wr.heap.size, 0, none⟩ = some (.int .i64 x0) ∧ w'.cell? ⟨wr.heap.size, 1, none⟩ = some (.int .i64 x1) ∧ w'.cell? ⟨wr.heap.size, 2, none⟩ = some (.int .i64 x2) ∧ w'.cell? ⟨g, x1, none⟩ = some (.int .i64 lo) ∧ w'.cell? ⟨g, x2, none⟩ = some (.int .i64 hi)) (first | (go_keep; done) | exact S4 | exact S3 _ | exact S2) (first | (refine step_append_room rfl (.tmp 20) (.tmp 35) 42 rfl 3 i0 1 Try.underlying42 HI.out HZ1.out g 0 (k + 2) (n + 2) rfl ⟨w3.heap.size, 0, none⟩ 1 1 [.int .i64 r] rfl rfl (World.news_of_block (heap_alloc_new w3 _)) (by simp [Value.oneCell']) (by omega) (by exact HSP _) ?_; obtain ⟨HB4, S4⟩ := HF3.out (.cells #[.int .i64 r] 3)) | (go_at_call 86; refine HCE.out.mono ?_; rintro e w3 ⟨r, rfl, S2, S3, HSP, HF3⟩))
      go_wp2
      go_roundw
      case rel => exact ⟨k + 1, g, by omega, rfl, by go_num, (by have h := HB4; rw [Nat.zero_add, Nat.mul_one] at h; exact h)⟩
      case measure => simp [intOf]; omega
    · have hkn : k = n := by omega
      subst hkn
      obtain ⟨m, hm⟩ : ∃ m, ms[k + 1]? = some m := ⟨ms[k + 1]'(by rw [hB.len]; omega), List.getElem?_eq_getElem _⟩
      have cm := hB.cell hm
      obtain ⟨d1, d2⟩ := hB.den _ _ hm
      by_cases h0 : k = 0
      · have HG : Hid (Grew noX A w y s wr 0 (lastF Q)) := ⟨N, y1, hB.tab, hB.within, by omega, by unfold lastF; rw [if_pos (by rw [← HN.out]; exact h0)]; exact Bd.den_zero _, hB.moves⟩
        subst h0
        clear hB H cm d1 d2 hm hlt
        go_wp2
        go_ret
        exact ⟨0, rfl, HG.out⟩
      · have HG : Hid (Grew noX A w y s wr m (lastF Q)) := ⟨N, y1, hB.tab, hB.within, d1, by unfold lastF; rw [if_neg (by rw [← HN.out]; exact h0), ← HN.out]; exact d2, hB.moves⟩
        have hk0 : ((k : Int) == 0) = false := by rw [beq_eq_false_iff_ne]; omega
        clear hB H d1 d2 hm hlt
        go_wp2
        go_ret
        exact ⟨m, rfl, HG.out⟩
end Go.Proofs.Ytffngpdngjfcfaa
namespace Go.Proofs.Ytffngpdngjfcfaa
open Go.RowKit Go.Maps
open Bd (Nd)

set_option maxHeartbeats 4000000 in
theorem make_how {M : Nat} {w : World} {y : Lay} {s : St} (A : Bd.Fam s.bits M) (hT : Tab w y s) (hW : Bd.Within A s.L) (hlim : s.bits * M ≤ s.limit) (B : Nat) (Q : List Nd) (lv : Value) (h0 : w.heap[B]? = some (.cells #[.pointer (some ⟨y.tb, 0, none⟩)] 23 (0, 0))) (h1 : w.heap[B + 1]? = some (.cells #[lv] 46 (0, 0)))
    (hy : ¬ y.own B ∧ ¬ y.own (B + 1)) (hl : w.ownsRow 0 82 3 lv Q.length (flat Q)) (hdis : ∀ k, lv.ownBlock = some k → ¬ y.own k) (hQ : Bd.Okay s.bits Q) (hlen : Q.length ≤ 1073741824) (hF : Bd.Within A Q) (nv : Value) :
    Calls Try.prog 65 #[nv, .pointer (some ⟨B, 0, none⟩), .pointer (some ⟨B + 1, 0, none⟩)] w fun e w' => ∃ r, e = .returned (i6 r) ∧ Grew noX A w y s w' r (lastF Q) := by
  have c0 : w.cell? ⟨B, 0, none⟩ = some (.pointer (some ⟨y.tb, 0, none⟩)) := by rw [cell_at h0]; rfl
  have c1 : w.cell? ⟨B + 1, 0, none⟩ = some lv := by rw [cell_at h1]; rfl
  have c6 : w.cell? ⟨y.tb, 6, none⟩ = some (.int .i64 s.limit) := by rw [cell_at hT.cells]; rfl
  have hsl := hT.small
  have HC : Hid (Calls Try.prog 52 #[.pointer (some ⟨y.tb, 3, none⟩), .int .i64 s.limit] w.drew fun e w1 => e = .returned (.pointer (some ⟨w.heap.size + 1, 0, none⟩)) ∧ w1.cell? ⟨B, 0, none⟩ = some (.pointer (some ⟨y.tb, 0, none⟩)) ∧ w1.cell? ⟨B + 1, 0, none⟩ = some lv ∧ w1.cell? ⟨y.tb, 6, none⟩ = some (.int .i64 s.limit) ∧
      Hid (Calls Try.prog 66 #[.pointer (some ⟨w.heap.size + 1, 0, none⟩), lv] w1 fun e w2 => ∃ r : Nat, e = .returned (.int .i64 r) ∧ w2.cell? ⟨B, 0, none⟩ = some (.pointer (some ⟨y.tb, 0, none⟩)) ∧ w2.cell? ⟨B + 1, 0, none⟩ = some lv ∧ w2.cell? ⟨y.tb, 6, none⟩ = some (.int .i64 s.limit) ∧ Hid (Grew noX A w y s w2 r (lastF Q)))) := by
    refine (step_any w.drew y.tb s.limit).mono ?_
    rintro e w1 ⟨rfl, rfl⟩
    obtain ⟨s1, s2, s3⟩ := step_new w.drew y.tb s.limit
    have s3' : Below w.heap.size w _ := (Below.refl w.heap.size w).drew.trans s3
    have lB := block_lt h0
    have lB1 := block_lt h1
    have ltb := hT.lt y.own_tb
    refine ⟨rfl, by rw [s3'.cell (by exact lB)]; exact c0, by rw [s3'.cell (by exact lB1)]; exact c1, by rw [s3'.cell (by exact ltb)]; exact c6, ?_⟩
    have hT1 := hT.below s3'
    have hns : ¬ y.own (w.heap.size + 1) := fun ho => by have := hT.lt ho; omega
    refine (build_any A hT1 hW (w.heap.size + 1) s.limit w.heap.size s1 hns hlim (by omega) Q lv (row_same hl fun g hg => s3'.block g (hl.lt g hg).2) hdis hQ hlen hF).mono ?_
    rintro e w2 ⟨r, rfl, hG⟩
    obtain ⟨N, y2, t2, wi2, hr2, d2, m2⟩ := hG.ex
    have z := s3'.size
    have b0 := m2.block B (by omega) hy.1 (fun h => h)
    have b1 := m2.block (B + 1) (by omega) hy.2 (fun h => h)
    refine ⟨r, rfl, ?_, ?_, ?_, N, y2, t2, wi2, hr2, d2, (moves_below y s3').trans m2⟩
    · rw [World.cell?_of_block b0, s3'.cell (by exact lB)]; exact c0
    · rw [World.cell?_of_block b1, s3'.cell (by exact lB1)]; exact c1
    · rw [← m2.tb, cell_at t2.cells]; rfl
  clear hT hW hlim h0 h1 hy hl hdis hQ hF
  go_enter Try.func65, Try.ntmps65
  go_wp2_with fail
  go_region_held3 (fun w' => w'.cell? ⟨B, 0, none⟩ = some (.pointer (some ⟨y.tb, 0, none⟩)) ∧ w'.cell? ⟨B + 1, 0, none⟩ = some lv ∧ w'.cell? ⟨y.tb, 6, none⟩ = some (.int .i64 s.limit)) (first | (go_keep; done) | exact ⟨q1, q2, q3⟩ | exact ⟨p1, p2, p3⟩) (first | (go_at_call 66; refine HC2.out.mono ?_; rintro e w2 ⟨r, rfl, q1, q2, q3, HG⟩) | (go_at_call 52; refine HC.out.mono ?_; rintro e w1 ⟨rfl, p1, p2, p3, HC2⟩))
  go_wp2_with fail
  go_ret
  exact ⟨r, rfl, HG.out⟩

theorem enter_Make : ∀ args w, (callFunc 65 args).run Try.prog w = .ok (.enter 65 args) w := fun args w => by kernel_rfl

set_option maxHeartbeats 4000000 in
theorem Make_ok {M : Nat} {w : World} {y : Lay} {s : St} (A : Bd.Fam s.bits M) (hT : Tab w y s) (hW : Bd.Within A s.L) (h2 : 2 ≤ s.first) (hsm : s.roots.length + 1 ≤ 1073741824) (hlim : s.bits * M ≤ s.limit) (Q : List Nd) (lv : Value) (hl : w.ownsRow 0 82 3 lv Q.length (flat Q)) (hdis : ∀ k, lv.ownBlock = some k → ¬ y.own k) (hR : Right s.bits Q) (hlen : Q.length ≤ 1073741824) (hF : Bd.Within A Q) :
    Calls Try.prog 28 #[.pointer (some ⟨y.tb, 0, none⟩), lv] w fun e w' => ∃ r, e = .returned (.tuple #[i6 r, .int .i64 0, .int .i64 0]) ∧ Told A w y s w' r (lastF Q) := by
  have hmf : ∀ (fn : Fn) (first cap : Array Value) (w : World), (Instr.makeFunc fn first cap).run Try.prog w = .ok (.func fn first cap) w := fun _ _ _ _ => rfl
  have ltb := hT.lt y.own_tb
  obtain ⟨ao, cp, hlv⟩ : ∃ ao cp, lv = .slice ao Q.length cp := by
    rcases hl.2 with ⟨h1, h2⟩ | ⟨g, cp, cur, h1, _⟩
    · exact ⟨none, 0, by rw [h1, h2]⟩
    · exact ⟨_, _, h1⟩
  obtain ⟨n, hn⟩ : ∃ n, n = Q.length := ⟨_, rfl⟩
  rw [← hn] at hlv
  obtain ⟨x0, x1, xb, xs⟩ := box2 w (.cells #[.pointer (some ⟨y.tb, 0, none⟩)] 23) (.cells #[lv] 46)
  have hTa := hT.below xb
  have hla : ((w.alloc (.cells #[.pointer (some ⟨y.tb, 0, none⟩)] 23)).alloc (.cells #[lv] 46)).drew.ownsRow 0 82 3 lv Q.length (flat Q) := row_same hl fun g hg => xb.block g (hl.lt g hg).2
  have hck := check_ok hla hR hlen
  have HCK : Hid (Calls Try.prog 64 #[lv, .int .i64 s.bits] ((w.alloc (.cells #[.pointer (some ⟨y.tb, 0, none⟩)] 23)).alloc (.cells #[lv] 46)).drew fun e w1 => e = .returned (.tuple #[.int .i64 0, .bool true]) ∧ w1.cell? ⟨w.heap.size, 0, none⟩ = some (.pointer (some ⟨y.tb, 0, none⟩)) ∧ w1.cell? ⟨w.heap.size + 1, 0, none⟩ = some lv ∧ w1.cell? ⟨y.tb, 5, none⟩ = some (.int .i64 s.bits) ∧
      Hid (Calls Try.prog 45 #[.pointer (some ⟨y.tb, 0, none⟩), .slice none 0 0, .func (.func 65) #[] #[.pointer (some ⟨w.heap.size, 0, none⟩), .pointer (some ⟨w.heap.size + 1, 0, none⟩)]] w1 fun e w' => ∃ r, e = .returned (.tuple #[i6 r, .int .i64 0]) ∧ Hid (Told A w y s w' r (lastF Q)))) := by
    refine hck.mono ?_
    rintro e w1 ⟨rfl, hb1⟩
    have hb1' : Below (w.heap.size + 2) ((w.alloc (.cells #[.pointer (some ⟨y.tb, 0, none⟩)] 23)).alloc (.cells #[lv] 46)) w1 := by
      rw [← xs]; exact ⟨hb1.os, hb1.tape, hb1.output, hb1.size, hb1.block⟩
    have y0 : w1.heap[w.heap.size]? = _ := (hb1'.block _ (by omega)).trans x0
    have y1 : w1.heap[w.heap.size + 1]? = _ := (hb1'.block _ (by omega)).trans x1
    have hbw : Below w.heap.size w w1 := xb.trans (hb1'.mono (by omega))
    have hT1 := hT.below hbw
    refine ⟨rfl, by rw [cell_at y0]; rfl, by rw [cell_at y1]; rfl, by rw [cell_at hT1.cells]; rfl, ?_⟩
    refine (answer_ok A hT1 h2 hsm hlim (.slice none 0 0) [] [] ⟨none, 0, rfl, fun i r h => by simp at h⟩ (by simp) ⟨rfl, fun i r h => by simp at h⟩ 65 enter_Make #[.pointer (some ⟨w.heap.size, 0, none⟩), .pointer (some ⟨w.heap.size + 1, 0, none⟩)] (lastF Q) ?_).mono ?_
    · intro w2 g hb2 _ _
      have hb2' : Below w1.heap.size w1 w2 := hb2
      have z1 := block_lt y0
      have z2 := block_lt y1
      have hbw2 : Below w.heap.size w w2 := hbw.trans (hb2'.mono hbw.size)
      exact make_how A (hT1.below hb2') hW hlim w.heap.size Q lv ((hb2'.block _ z1).trans y0) ((hb2'.block _ z2).trans y1) ⟨fun ho => by have := hT.lt ho; omega, fun ho => by have := hT.lt ho; omega⟩ (row_same hl fun g hg => hbw2.block g (hl.lt g hg).2) hdis hR.okay hlen hF _
    · rintro e w' ⟨r, rfl, ⟨N, tt, y', m, q1, q2, q3, q4, q5, q6, q7⟩⟩
      exact ⟨r, rfl, N, tt, y', m, q1, q2, q3, q4, q5, (moves_below y hbw).trans q6, q7⟩
  have c5 : ((w.alloc (.cells #[.pointer (some ⟨y.tb, 0, none⟩)] 23)).alloc (.cells #[lv] 46)).cell? ⟨y.tb, 5, none⟩ = some (.int .i64 s.bits) := by rw [cell_at hTa.cells]; rfl
  have HTA := keep hTa
  clear hT hW h2 hsm hlim hF hR hck hTa x0 x1 xb xs hl hla hdis hlen hn
  subst hlv
  go_enter Try.func28, Try.ntmps28
  go_wp2_with (first | (go_at_call 57; refine (made_ok HTA.out).mono ?_; rintro e w' ⟨rfl, rfl⟩))
  go_region_held3 (fun w' => w'.cell? ⟨w.heap.size, 0, none⟩ = some (.pointer (some ⟨y.tb, 0, none⟩)) ∧ w'.cell? ⟨w.heap.size + 1, 0, none⟩ = some (.slice ao n cp) ∧ w'.cell? ⟨y.tb, 5, none⟩ = some (.int .i64 s.bits)) (first | (go_keep; done) | exact ⟨q1, q2, q3⟩) (first | (go_at_call 64; refine HCK.out.mono ?_; rintro e w1 ⟨rfl, q1, q2, q3, HANS⟩))
  go_wp2_with (first | (go_at_call 45; refine HANS.out.mono ?_; rintro e w' ⟨r, rfl, HT⟩))
  go_ret3
  exact ⟨r, rfl, HT.out⟩
end Go.Proofs.Ytffngpdngjfcfaa
namespace Go.Proofs.Ytffngpdngjfcfaa
open Go.RowKit Go.Maps
open Bd (Nd)

theorem MapOf.drop_run {P : Program} {k e t : TypeId} {w : World} {b sz : Nat} {f : Value → Option Int} (h : MapOf P k e w b sz f) (K : Keyed P k) (ht : P.underlying t = some (.map k e)) {key : Value} {kl : Lit} (hkey : keyOf P k key = some kl) (ty : TypeId) :
    ∃ w', (Builtin.delete_ #[t, k] ty #[.map (some b), key]).run P w = .ok (.tuple #[]) w' ∧ (∀ f', Upd f key none f' → MapOf P k e w' b (if (f key).isSome then sz - 1 else sz) f') ∧ w.grownBy w' (some b) := by
  obtain ⟨D, h1, h2, h3⟩ := h
  obtain ⟨w', hrun, h4, h5⟩ := h1.drop K ht hkey ty
  refine ⟨w', hrun, fun f' hf' => ?_, h5.grown⟩
  have hs : Maps.size (D.del kl) = if (f key).isSome then sz - 1 else sz := by
    have := Maps.size_del (k := kl) (h1.tidy K)
    rw [(h3 key kl hkey).1, h2] at this
    split at this
    · rename_i hh; rw [if_pos hh]; omega
    · rename_i hh; rw [if_neg hh]; omega
  refine ⟨D.del kl, ?_, hs, ?_⟩
  · have := owns_tight h4
    rw [hs] at this
    exact this
  · intro key' kl' hk'
    by_cases e1 : key' = key
    · subst e1
      have : kl' = kl := by rw [hkey] at hk'; cases hk'; rfl
      subst this
      rw [hf'.1]
      exact ⟨by rw [Maps.has_del_same]; rfl, fun c' hc' => by cases hc'⟩
    · have hne : kl' ≠ kl := fun e2 => e1 (K.inj hk' (by rw [e2]; exact hkey))
      rw [hf'.2 _ e1, Maps.has_del_other hne, Maps.atKey_del_other hne]
      exact h3 key' kl' hk'

/-- The map of a list from which k nodes behind the first ones are gone. -/
def AtGap (L : List Nd) (mark k : Nat) (f : Value → Option Int) : Prop := ∀ x : Nd, (∀ i, L[i]? = some x → (i < mark ∨ mark + k ≤ i) → f (ndV x) = some ((i + 2 : Nat) : Int)) ∧ ((x ∉ L ∨ ∃ i, L[i]? = some x ∧ mark ≤ i ∧ i < mark + k) → f (ndV x) = none)
theorem AtGap.start {L : List Nd} {f : Value → Option Int} (h : AtMap L f) (mark : Nat) : AtGap L mark 0 f := fun x => ⟨fun i hi _ => (h x).1 i hi, fun hx => by
  rcases hx with hx | ⟨i, _, h1, h2⟩
  · exact (h x).2 hx
  · omega⟩
theorem AtGap.done {L : List Nd} {f : Value → Option Int} {mark : Nat} (_hnd : L.Nodup) (h : AtGap L mark (L.length - mark) f) : AtMap (L.take mark) f := by
  intro x
  refine ⟨fun i hi => ?_, fun hx => ?_⟩
  · have hl := Bd.getElem?_lt hi
    rw [List.length_take] at hl
    rw [List.getElem?_take_of_lt (by omega)] at hi
    exact (h x).1 i hi (Or.inl (by omega))
  · refine (h x).2 ?_
    by_cases hm : x ∈ L
    · obtain ⟨i, hi, e⟩ := List.mem_iff_getElem.1 hm
      have hi' : L[i]? = some x := by rw [List.getElem?_eq_getElem hi, e]
      rcases Nat.lt_or_ge i mark with h1 | h1
      · exfalso
        apply hx
        exact List.mem_iff_getElem.2 ⟨i, by rw [List.length_take]; omega, by rw [List.getElem_take]; exact e⟩
      · exact Or.inr ⟨i, hi', h1, by omega⟩
    · exact Or.inl hm
theorem nd_inj {x z : Nd} (h : ndV x = ndV z) : x = z := by
  unfold ndV at h
  simp [i6] at h
  obtain ⟨a, b, c⟩ := h
  exact Prod.ext (by omega) (Prod.ext (by omega) (by omega))
theorem AtGap.next {L : List Nd} {f f' : Value → Option Int} {mark k : Nat} {x : Nd} (hnd : L.Nodup) (h : AtGap L mark k f) (hx : L[mark + k]? = some x) (hu : Upd f (ndV x) none f') : AtGap L mark (k + 1) f' := by
  intro z
  by_cases e : z = x
  · subst e
    refine ⟨fun i hi hc => ?_, fun _ => hu.1⟩
    have hi1 := Bd.getElem?_lt hi
    have hi2 := Bd.getElem?_lt hx
    rw [List.getElem?_eq_getElem hi1] at hi
    rw [List.getElem?_eq_getElem hi2] at hx
    have : L[i] = L[mark + k] := by rw [Option.some.inj hi, Option.some.inj hx]
    have := (List.getElem_inj (h₀ := hi1) (h₁ := hi2) hnd).1 this
    omega
  · have hne : ndV z ≠ ndV x := fun e2 => e (nd_inj e2)
    rw [hu.2 _ hne]
    refine ⟨fun i hi hc => (h z).1 i hi (by
      rcases hc with hc | hc
      · exact Or.inl hc
      · exact Or.inr (by omega)), fun hz => (h z).2 ?_⟩
    rcases hz with hz | ⟨i, hi, h1, h2⟩
    · exact Or.inl hz
    · refine Or.inr ⟨i, hi, h1, ?_⟩
      rcases Nat.lt_or_ge i (mark + k) with h3 | h3
      · exact h3
      · have : i = mark + k := by omega
        subst this
        rw [hx] at hi
        cases hi
        exact absurd rfl e

/-- What drop has left when k nodes are gone. -/
structure Gap (w wr : World) (y : Lay) (L : List Nd) (mark k : Nat) : Prop where
  nodes : ∃ f, MapOf Try.prog 82 3 wr y.mb (L.length - k) f ∧ AtGap L mark k f
  os : wr.os = w.os
  tape : wr.tape = w.tape
  output : wr.output = w.output
  size : w.heap.size ≤ wr.heap.size
  block : ∀ j, j < w.heap.size → j ≠ y.mb → wr.heap[j]? = w.heap[j]?

theorem drop_tab {w wr : World} {y : Lay} {s : St} {mark : Nat} (hT : Tab w y s) (hm : mark ≤ s.L.length) (hr : ∀ n, n ∈ s.roots → n < mark + 2) (hG : Gap w wr y s.L mark (s.L.length - mark)) (ao : Option Addr) (cap : Nat) (hls : y.ls = .slice ao s.L.length cap) :
    Tab (wr.setCell ⟨y.tb, 3, none⟩ (.slice ao mark cap)) { y with ls := .slice ao mark cap } { s with L := s.L.take mark } ∧ Moves noX w y (wr.setCell ⟨y.tb, 3, none⟩ (.slice ao mark cap)) { y with ls := .slice ao mark cap } := by
  obtain ⟨a1, a2, a3, a4, a5, a6, a7, a8, a9⟩ := hT.apart
  have hlen : (s.L.take mark).length = mark := by rw [List.length_take]; omega
  have ltb := hT.lt y.own_tb
  have hown : (Value.slice ao mark cap).ownBlock = y.ls.ownBlock := by rw [hls]; cases ao <;> rfl
  have hcells : wr.heap[y.tb]? = _ := (hG.block y.tb ltb (fun e => a1 e.symm)).trans hT.cells
  have hset := set_block (o := 3) (.slice ao mark cap) hcells
  obtain ⟨f, hf, ha⟩ := hG.nodes
  obtain ⟨fr, hfr, hrr⟩ := hT.refs
  refine ⟨{ cells := ?_, list := ?_, roots := ?_, nodes := ⟨f, ?_, ha.done hT.okay.nd⟩, refs := ⟨fr, ?_, hrr⟩, two := hT.two, okay := okay_take hT.okay mark, small := ?_, valid := ⟨hT.valid.1, fun n hn => ?_⟩ }, ?_⟩
  · rw [hset]; rfl
  · show World.ownsRow _ 0 82 3 (.slice ao mark cap) (s.L.take mark).length (flat (s.L.take mark))
    have hl := hT.list
    rw [hls] at hl
    have htr : w.ownsRow 0 82 3 (.slice ao mark cap) mark (flat (s.L.take mark)) := by
      refine ⟨by rw [flat_length, hlen], ?_⟩
      rcases hl.2 with ⟨h1, h2⟩ | ⟨g, c, cur, h1, h2, h3, h4, h5, h6, h7⟩
      · injection h1 with e1 e2 e3
        subst e1
        subst e3
        have : mark = 0 := by omega
        rw [this]
        exact Or.inl ⟨rfl, rfl⟩
      · injection h1 with e1 e2 e3
        subst e1
        subst e3
        refine Or.inr ⟨g, cap, cur, rfl, h2, h3, by omega, h5, h6, ?_⟩
        have e : flat s.L = flat (s.L.take mark) ++ flat (s.L.drop mark) := by
          unfold flat
          rw [← List.flatMap_append, List.take_append_drop]
        have e2 : cur.toList.take (mark * 3) = (cur.toList.take (s.L.length * 3)).take (mark * 3) := by rw [List.take_take, Nat.min_eq_left (by omega)]
        rw [e2, h7, e, List.take_left' (by rw [flat_length, hlen])]
    rw [hlen]
    refine row_same htr fun g hg => ?_
    rw [hown] at hg
    rw [set_other _ (show g ≠ y.tb from fun e => a3 (by rw [← e]; exact hg))]
    exact hG.block g (hT.lt (y.own_ls hg)) (fun e => a5 (by rw [← e]; exact hg))
  · refine row_same hT.roots fun g hg => ?_
    rw [set_other _ (show g ≠ y.tb from fun e => a4 (by rw [← e]; exact hg))]
    exact hG.block g (hT.lt (y.own_rs hg)) (fun e => a6 (by rw [← e]; exact hg))
  · show MapOf _ _ _ _ y.mb (s.L.take mark).length f
    rw [hlen]
    have e : s.L.length - (s.L.length - mark) = mark := by omega
    rw [e] at hf
    exact hf.same (set_other _ a1)
  · refine hfr.same ?_
    rw [set_other _ a2]
    exact hG.block y.rm hfr.lt (fun e => hT.two e.symm)
  · have := hT.small
    refine ⟨?_, this.2.1, this.2.2.1, this.2.2.2.1, this.2.2.2.2⟩
    show (s.L.take mark).length ≤ _
    omega
  · have := hT.valid.2 n hn
    exact ⟨this.1, by show n < (s.L.take mark).length + 2; rw [hlen]; exact hr n hn⟩
  · refine ⟨rfl, ?_, hG.os, hG.tape, hG.output, by simpa using hG.size, ?_⟩
    · intro k hk
      rcases hk with h | h | h | h | h
      · exact Or.inl (Or.inl h)
      · exact Or.inl (Or.inr (Or.inl h))
      · exact Or.inl (Or.inr (Or.inr (Or.inl h)))
      · exact Or.inl (y.own_ls (by rw [← hown]; exact h))
      · exact Or.inl (y.own_rs h)
    · intro k hk hn _
      rw [set_other _ (fun e => hn (Or.inl e))]
      exact hG.block k hk (fun e => hn (Or.inr (Or.inl e)))
end Go.Proofs.Ytffngpdngjfcfaa
namespace Go.Proofs.Ytffngpdngjfcfaa
open Go.RowKit Go.Maps
open Bd (Nd)

/-- delete, as one step of a region that draws. -/
theorem step_delete {P : Program} {ops : Array Oper} {o : Oper} {a : Act} {w : World} {K : Act → World → Prop} {Q : Exit → Act → World → Prop} {E : Prop}
    (hg : o.guard = none) (m x : Operand) (t k : TypeId) (hop : o.op = Op.call { callee := Callee.builtin Builtin.delete, args := #[m, x], argTypes := #[t, k] }) (b : Nat) (key : Value) (w' : World) (hm : a.eval m = .map (some b)) (hx : a.eval x = key)
    (hrun : (Builtin.delete_ #[t, k] o.type #[.map (some b), key]).run P w = .ok (.tuple #[]) w') (hK : K (a.put o.dst (.tuple #[])) w') :
    if Region.wanted o (yielded ops a.tmps) = true then Oper.wp P o a w K Q else E := by
  have hw : Region.wanted o (yielded ops a.tmps) = true := by simp [Region.wanted, hg]
  rw [if_pos hw]
  unfold Oper.wp
  simp [execOp, hop, resolve, invoke, builtin, hm, hx, hrun, Result.andThen]
  exact hK

set_option maxHeartbeats 2000000 in
theorem drop_any {w : World} {y : Lay} {s : St} (hT : Tab w y s) (mark : Nat) (hm : mark ≤ s.L.length) (hr : ∀ n, n ∈ s.roots → n < mark + 2) :
    Calls Try.prog 81 #[.pointer (some ⟨y.tb, 3, none⟩), i6 mark] w fun e w' => e = .returned (.tuple #[]) ∧ ∃ y', Tab w' y' { s with L := s.L.take mark } ∧ Moves noX w y w' y' := by
  have HT := keep hT
  have HR := keep hr
  have HM := keep hm
  obtain ⟨ao, cap, hls⟩ := hT.list_slice
  have HLS := keep hls
  have c3 := hT.cell3
  rw [hls] at c3
  have hsl := hT.small
  have G0 : Hid (Gap w w y s.L mark 0) := by
    obtain ⟨f, hf, ha⟩ := hT.nodes
    exact ⟨⟨f, by rw [Nat.sub_zero]; exact hf, AtGap.start ha mark⟩, rfl, rfl, rfl, Nat.le_refl _, fun _ _ _ => rfl⟩
  have hcap : s.L.length ≤ cap ∧ (ao = none → s.L.length = 0 ∧ cap = 0) ∧ (∀ a, ao = some a → ∃ g, a = ⟨g, 0, none⟩) := by
    have hl := hT.list
    rw [hls] at hl
    rcases hl.2 with ⟨h1, h2⟩ | ⟨g, c, cur, h1, h2, h3, h4, h5, h6, h7⟩
    · injection h1 with e1 e2 e3
      exact ⟨by omega, fun _ => ⟨h2, by omega⟩, fun a ha => by rw [e1] at ha; cases ha⟩
    · injection h1 with e1 e2 e3
      exact ⟨by omega, (fun h => by rw [e1] at h; cases h), fun a ha => ⟨g, by rw [e1] at ha; cases ha; rfl⟩⟩
  obtain ⟨hc1, hc2, hc3⟩ := hcap
  obtain ⟨n, hn⟩ : ∃ n, n = s.L.length := ⟨_, rfl⟩
  have HN := keep hn
  rw [← hn] at c3 hc1 hc2 hm hsl
  have ltb := hT.lt y.own_tb
  have hmI : (mark : Int) ≤ (n : Int) := by omega
  have hm0 : (0 : Int) ≤ (mark : Int) := by omega
  have hcI : (n : Int) ≤ (cap : Int) := by omega
  have hnI : (n : Int) ≤ 1073741824 := by omega
  clear hT hr hls hn hsl
  obtain ⟨q, hq⟩ : ∃ q, q = n - mark := ⟨_, rfl⟩
  have HQ := keep hq
  have hqI : (q : Int) ≤ 1073741824 := by omega
  have HCC := keep (And.intro hc1 (And.intro hc2 hc3))
  clear hc1 hc2 hc3
  have fin : ∀ wr, Gap w wr y s.L mark q → wr.cell? ⟨y.tb, 3, none⟩ = some (.slice ao n cap) ∧ wr.frozen? ⟨y.tb, 3, none⟩ = false ∧ Hid (∃ y', Tab (wr.setCell ⟨y.tb, 3, none⟩ (.slice ao mark cap)) y' { s with L := s.L.take mark } ∧ Moves noX w y (wr.setCell ⟨y.tb, 3, none⟩ (.slice ao mark cap)) y') := by
    intro wr hG
    have hb := hG.block y.tb ltb (fun e => HT.out.apart.1 e.symm)
    refine ⟨by rw [World.cell?_of_block hb]; exact c3, by rw [World.frozen?_of_block hb]; exact not_frozen HT.out.cells, ?_⟩
    rw [HQ.out, HN.out] at hG
    exact ⟨_, drop_tab HT.out HM.out HR.out hG ao cap HLS.out⟩
  have FIN := keep fin
  clear fin
  cases ao with
  | none =>
    obtain ⟨h1, h2⟩ := HCC.out.2.1 rfl
    have h3 : mark = 0 := by omega
    have h4 : q = 0 := by omega
    subst h1
    subst h2
    subst h3
    clear hq HQ
    subst h4
    clear hmI hm0 hcI hnI hqI hm
    obtain ⟨r3, r4, R⟩ := FIN.out w G0.out
    go_enter Try.func81, Try.ntmps81
    go_wp2
    refine wp_loop_rounds 1 ?_
    rw [rounds_succ]
    go_wp2
    go_end0
    exact ⟨rfl, R.out⟩
  | some a =>
    obtain ⟨g, rfl⟩ := HCC.out.2.2 a rfl
    go_enter Try.func81, Try.ntmps81
    go_wp2
    all_goals (
      rw [← hq]
      clear hq
      try (
        have hcm : mark = cap := by omega
        subst hcm)
      go_loopw [13] (fun i wr => ∃ k : Nat, k ≤ q ∧ i = .int .i64 k ∧ Hid (Gap w wr y s.L mark k)) (fun i _ => q - (intOf i).toNat)
      case atStart => exact ⟨0, Nat.zero_le _, rfl, G0⟩
      case round =>
        obtain ⟨k, hk, rfl, H⟩ := hrel
        by_cases hlt : k < q
        · first
          | (exfalso; have h1 := HQ.out; have h2 := HCC.out.1; omega)
          | (
              have hqn := HQ.out
              have hnn := HN.out
              obtain ⟨x, hx⟩ : ∃ x, s.L[mark + k]? = some x := ⟨s.L[mark + k]'(by omega), List.getElem?_eq_getElem _⟩
              have hlr := HT.out.list
              rw [HLS.out, ← hnn] at hlr
              have hap := HT.out.apart
              have hgo : y.ls.ownBlock = some g := by rw [HLS.out]; rfl
              have hgl := HT.out.lt (y.own_ls hgo)
              have hadd : ∀ j, (⟨g, 0, none⟩ : Addr).add j = ⟨g, j, none⟩ := by intro j; unfold Addr.add; split <;> simp_all
              obtain ⟨f0, f1, f2⟩ := flat_at hx
              have d0 := hlr.cells (g := g) rfl _ _ f0
              have d1 := hlr.cells (g := g) rfl _ _ f1
              have d2 := hlr.cells (g := g) rfl _ _ f2
              rw [hadd] at d0 d1 d2
              have hgb := H.out.block g hgl (fun e => hap.2.2.2.2.1 (by rw [← e]; exact hgo))
              rw [← World.cell?_of_block hgb] at d0 d1 d2
              rw [show (mark + k) * 3 = mark * 3 + k * 3 by omega] at d0 d1 d2
              obtain ⟨f, hf, ha⟩ := H.out.nodes
              have hok := HT.out.okay
              have hfit := hok.fit _ _ hx
              obtain ⟨kl, hkl⟩ := key_node (a := x.1) (b := x.2.1) (c := x.2.2) (by have := hok.few; omega) (by omega) (by omega)
              obtain ⟨w2, hrun, hput, hg2⟩ := MapOf.drop_run (w := (wr.alloc (.cells #[i6 x.1, i6 x.2.1, i6 x.2.2] 82)).drew) (hf.same (heap_alloc_old wr _ hf.lt)) kNode Try.underlying47 hkl 0
              have NEXT : Hid (Gap w w2 y s.L mark (k + 1)) := by
                obtain ⟨f', hf'⟩ := upd_exists f (ndV x) none
                have hfx : f (ndV x) = some ((mark + k + 2 : Nat) : Int) := (ha x).1 _ hx (Or.inr (Nat.le_refl _))
                have hm2 := hput f' hf'
                have e5 : (f (.agg #[i6 x.1, i6 x.2.1, i6 x.2.2])).isSome = true := by
                  show (f (ndV x)).isSome = true
                  rw [hfx]; rfl
                rw [e5] at hm2
                have z2 : wr.heap.size + 1 ≤ w2.heap.size := by have := hg2.size; simpa using this
                refine ⟨⟨f', ?_, ha.next hok.nd hx hf'⟩, hg2.os.trans H.out.os, hg2.tape.trans H.out.tape, hg2.output.trans H.out.output, by have := H.out.size; omega, fun j hj hne => ?_⟩
                · rw [Nat.sub_add_eq]; exact hm2
                · have := H.out.size
                  rw [hg2.block j (by show j < (wr.alloc _).heap.size; simp; omega) (by simpa using hne)]
                  show (wr.alloc _).heap[j]? = _
                  rw [heap_alloc_old wr _ (show j < wr.heap.size by omega)]
                  exact H.out.block j hj hne
              have hb4 := H.out.block y.tb ltb (fun e => hap.1 e.symm)
              have e4 : wr.cell? ⟨y.tb, 4, none⟩ = some (.map (some y.mb)) := by rw [World.cell?_of_block hb4]; exact HT.out.cell4
              have hrun' : (Builtin.delete_ #[47, 82] 0 #[.map (some y.mb), .agg #[.int .i64 x.1, .int .i64 x.2.1, .int .i64 x.2.2]]).run Try.prog (wr.alloc (.cells #[.int .i64 x.1, .int .i64 x.2.1, .int .i64 x.2.2] 82)).drew = .ok (.tuple #[]) w2 := hrun
              have ltw : y.tb < wr.heap.size := by have := H.out.size; omega
              have e4a : ∀ o, (wr.alloc o).cell? ⟨y.tb, 4, none⟩ = some (.map (some y.mb)) := fun o => by rw [World.cell?_of_block (heap_alloc_old wr o ltw)]; exact e4
              have hkI : (k : Int) < (q : Int) := by omega
              have hk0 : (0 : Int) ≤ (k : Int) := by omega
              have HLT := keep hlt
              clear hx hlr hap hgo hgl hadd f0 f1 f2 hgb hf ha hok hfit hkl hrun hput hg2 hb4 hqn hnn H
              simp only [i6] at d0 d1 d2
              have HRUN := keep hrun'
              clear hrun'
              go_wp2
              go_region_law (refine step_delete rfl (.tmp 20) (.tmp 21) 47 82 rfl y.mb _ w2 rfl rfl HRUN.out ?_)
              all_goals
                go_wp2
                go_roundw
                case rel => exact ⟨k + 1, by have := HLT.out; omega, by go_num, NEXT.out⟩
                case measure => have := HLT.out; simp [intOf]; omega)
        · have hkq : k = q := by omega
          subst hkq
          obtain ⟨r3, r4, R⟩ := FIN.out wr H.out
          clear H
          go_wp2
          go_end0
          exact ⟨rfl, R.out⟩)
end Go.Proofs.Ytffngpdngjfcfaa
