/-
  Proved: for every change and every header text the law FibNobody answers true (a table that New did not make, none or empty, refuses all: each method answers ErrNil, and its width, its length and its rules are none), and leaves its arguments as they were. Conditions: the tables of Go's library and of the program start as the program's text lays them (the card's tie); none on the change or the text.
  The law FibNobody: of any change and any text it answers true.
  awake: two rules that are known.
  A table that nobody made: each method answers ErrNil, or nothing.
-/
import Derived.Test.YtbfiggghpflioaaGreatDoorVTryAAnd
import Derived.Test.YtbfiggghpflioaaGreatDoorRows
import Derived.Test.YtbfiggghpflioaaGreatDoorCards
import Derived.Test.YtbfiggghpflioaaGreatDoorTie
import Derived.WalkKit
import Derived.ProofKit
import Derived.OpenShut
import Derived.ShutString
import Derived.Lay
import Derived.LaidOnce
import Derived.SevenTiedAt
import Derived.LaidSub
import Derived.MakeChecks
namespace Go.Proofs.YtbfiggghpflioaaGreatDoor
open Go.RowKit

/-- No table, or one that New did not make. -/
def NobodyF (w : World) (p : Value) : Prop := p = .pointer none ∨ ∃ g, p = .pointer (some ⟨g, 0, none⟩) ∧ w.cell? ⟨g, 2, none⟩ = some (.pointer none)
theorem NobodyF.on {w w' : World} {p : Value} (h : NobodyF w p) (hb : Below w.heap.size w w') : NobodyF w' p := by
  rcases h with h | ⟨g, h, hc⟩
  · exact Or.inl h
  · exact Or.inr ⟨g, h, by rw [hb.cell (World.block_lt_of_cell? w _ hc)]; exact hc⟩
theorem made_not {w : World} {p : Value} (h : NobodyF w p) : Calls Tryz.prog 34 #[p] w fun e w' => e = .returned (.bool false) ∧ w' = w := by
  rcases h with rfl | ⟨g, rfl, hc⟩
  · exact made_nil
  · exact made_no hc
theorem NobodyF.form {w : World} {p : Value} (h : NobodyF w p) : ∃ a, p = .pointer a := by
  rcases h with rfl | ⟨g, rfl, _⟩
  · exact ⟨_, rfl⟩
  · exact ⟨_, rfl⟩
set_option maxRecDepth 4000 in
set_option maxHeartbeats 1000000 in
theorem Do_not {w : World} {p : Value} {ao : Option Addr} {n c : Nat} (h : NobodyF w p) : Calls Tryz.prog 11 #[p, .slice ao n c] w fun e w' => e = .returned (.tuple #[.int .i64 0, .int .i64 4]) ∧ Below w.heap.size w w' := by
  have HM := hid (made_not h)
  obtain ⟨a, rfl⟩ := h.form
  clear h
  go_enter Tryz.func11, Tryz.ntmps11
  go_wp2_with fail
  refine HM.out.mono ?_
  rintro en w1 ⟨rfl, hw⟩
  subst hw
  go_wp2
  refine bodyPost_ret (v := .tuple #[.int .i64 0, .int .i64 4]) (by simp [results, Tryz.results11, go_sem]) rfl ⟨rfl, Below.refl _ _⟩
set_option maxRecDepth 4000 in
set_option maxHeartbeats 1000000 in
theorem Undo_not {w : World} {p : Value} {ao : Option Addr} {n c : Nat} (h : NobodyF w p) : Calls Tryz.prog 17 #[p, .slice ao n c] w fun e w' => e = .returned (.tuple #[.slice none 0 0, .int .i64 0, .int .i64 4]) ∧ Below w.heap.size w w' := by
  have HM := hid (made_not h)
  obtain ⟨a, rfl⟩ := h.form
  clear h
  go_enter Tryz.func17, Tryz.ntmps17
  go_wp2_with fail
  refine HM.out.mono ?_
  rintro en w1 ⟨rfl, hw⟩
  subst hw
  go_wp2
  refine bodyPost_ret (v := .tuple #[.slice none 0 0, .int .i64 0, .int .i64 4]) (by simp [results, Tryz.results17, go_sem]) rfl ⟨rfl, Below.refl _ _⟩
set_option maxRecDepth 4000 in
set_option maxHeartbeats 1000000 in
theorem Meets_not {w : World} {p : Value} {s : ByteArray} (h : NobodyF w p) : Calls Tryz.prog 13 #[p, .string s] w fun e w' => e = .returned (.tuple #[noR, .bool false, .int .i64 4]) ∧ Below w.heap.size w w' := by
  have HB0 := hid (show Below w.heap.size w (w.alloc (rob 0 (tx []) 0 (.slice none 0 0))) from (Below.refl _ _).alloc (Nat.le_refl _) _)
  have HM := hid (made_not (h.on HB0.out))
  have HR := hid (new_0 w (rob 0 (tx []) 0 (.slice none 0 0)))
  obtain ⟨a, rfl⟩ := h.form
  obtain ⟨r0, r1, r2, r3, f0, f1, f2, f3⟩ := rob_cells HR.out
  have HBF := hid ((((HB0.out.setCell (p := ⟨w.heap.size, 0, none⟩) (Nat.le_refl _) (.int .i64 0)).setCell (p := ⟨w.heap.size, 1, none⟩) (Nat.le_refl _) (.string (tx []))).setCell (p := ⟨w.heap.size, 2, none⟩) (Nat.le_refl _) (.int .i64 0)).setCell (p := ⟨w.heap.size, 3, none⟩) (Nat.le_refl _) (.slice none 0 0))
  clear h
  go_enter Tryz.func13, Tryz.ntmps13
  go_wp2_with fail
  refine HM.out.mono ?_
  rintro en w1 ⟨rfl, hw⟩
  subst hw
  go_wp2
  refine bodyPost_ret (v := .tuple #[noR, .bool false, .int .i64 4]) (by simp [results, Tryz.results13, go_sem]) rfl ?_
  first | exact ⟨rfl, HBF.out⟩ | exact ⟨rfl, HB0.out⟩
set_option maxRecDepth 4000 in
set_option maxHeartbeats 1000000 in
theorem Lookup_not {w : World} {p : Value} {s : ByteArray} (h : NobodyF w p) : Calls Tryz.prog 12 #[p, .string s] w fun e w' => e = .returned (.tuple #[.agg #[.int .i64 0, .slice none 0 0], .int .i64 4]) ∧ Below w.heap.size w w' := by
  have HB0 := hid (show Below w.heap.size w (w.alloc (aob 0 (.slice none 0 0))) from (Below.refl _ _).alloc (Nat.le_refl _) _)
  have HA0 := hid (new_0 w (aob 0 (.slice none 0 0)))
  have HM := hid (Meets_not (s := s) (h.on HB0.out))
  obtain ⟨a, rfl⟩ := h.form
  clear h
  go_enter Tryz.func12, Tryz.ntmps12
  go_wp2_with fail
  refine HM.out.mono ?_
  rintro en w2 ⟨rfl, hb2⟩
  have B2 := hid (below_2 HB0.out hb2)
  have hA2 := below_block hb2 HA0.out (lt_of_block HA0.out)
  have a0 : ∀ o, (w2.alloc o).cell? ⟨w.heap.size, 0, none⟩ = some (.int .i64 0) := fun o => by rw [cell_at (new_old _ o hA2)]; rfl
  have a1 : ∀ o, (w2.alloc o).cell? ⟨w.heap.size, 1, none⟩ = some (.slice none 0 0) := fun o => by rw [cell_at (new_old _ o hA2)]; rfl
  have g0 : ∀ o, (w2.alloc o).frozen? ⟨w.heap.size, 0, none⟩ = false := fun o => free_of (new_old _ o hA2)
  have g1 : ∀ o, (w2.alloc o).frozen? ⟨w.heap.size, 1, none⟩ = false := fun o => free_of (new_old _ o hA2)
  have hA3 := block_set (o := 1) (.slice none 0 0) (block_set (o := 0) (.int .i64 0) (new_old _ (rob 0 (tx []) 0 (.slice none 0 0)) hA2))
  have n0 := cell_at (o := 0) hA3
  have n1 := cell_at (o := 1) hA3
  simp at n0 n1
  have HBF := hid (((B2.out.alloc B2.out.size (rob 0 (tx []) 0 (.slice none 0 0))).setCell (p := ⟨w.heap.size, 0, none⟩) (Nat.le_refl _) (.int .i64 0)).setCell (p := ⟨w.heap.size, 1, none⟩) (Nat.le_refl _) (.slice none 0 0))
  clear hb2 hA2 hA3
  go_wp2
  refine bodyPost_ret (v := .tuple #[.agg #[.int .i64 0, .slice none 0 0], .int .i64 4]) (by simp [results, Tryz.results12, go_sem, n0, n1]) rfl ⟨rfl, HBF.out⟩
set_option maxRecDepth 4000 in
set_option maxHeartbeats 1000000 in
theorem Dead_not {w : World} {p : Value} (h : NobodyF w p) : Calls Tryz.prog 14 #[p] w fun e w' => e = .returned (.tuple #[.slice none 0 0, .int .i64 4]) ∧ Below w.heap.size w w' := by
  have HM := hid (made_not h)
  obtain ⟨a, rfl⟩ := h.form
  clear h
  go_enter Tryz.func14, Tryz.ntmps14
  go_wp2_with fail
  refine HM.out.mono ?_
  rintro en w1 ⟨rfl, hw⟩
  subst hw
  go_wp2
  refine bodyPost_ret (v := .tuple #[.slice none 0 0, .int .i64 4]) (by simp [results, Tryz.results14, go_sem]) rfl ⟨rfl, Below.refl _ _⟩
set_option maxRecDepth 4000 in
set_option maxHeartbeats 1000000 in
theorem Text_not {w : World} {p : Value} (h : NobodyF w p) : Calls Tryz.prog 15 #[p] w fun e w' => e = .returned (.tuple #[.string (tx []), .int .i64 4]) ∧ Below w.heap.size w w' := by
  have HM := hid (made_not h)
  obtain ⟨a, rfl⟩ := h.form
  clear h
  go_enter Tryz.func15, Tryz.ntmps15
  go_wp2_with fail
  refine HM.out.mono ?_
  rintro en w1 ⟨rfl, hw⟩
  subst hw
  go_wp2
  refine bodyPost_ret (v := .tuple #[.string (tx []), .int .i64 4]) (by simp [results, Tryz.results15, go_sem]) rfl ⟨rfl, Below.refl _ _⟩
set_option maxRecDepth 4000 in
set_option maxHeartbeats 1000000 in
theorem Load_not {w : World} {p : Value} {s : ByteArray} (h : NobodyF w p) : Calls Tryz.prog 16 #[p, .string s] w fun e w' => e = .returned (.tuple #[.int .i64 0, .int .i64 0, .int .i64 4]) ∧ Below w.heap.size w w' := by
  have HM := hid (made_not h)
  obtain ⟨a, rfl⟩ := h.form
  clear h
  go_enter Tryz.func16, Tryz.ntmps16
  go_wp2_with fail
  refine HM.out.mono ?_
  rintro en w1 ⟨rfl, hw⟩
  subst hw
  go_wp2
  refine bodyPost_ret (v := .tuple #[.int .i64 0, .int .i64 0, .int .i64 4]) (by simp [results, Tryz.results16, go_sem]) rfl ⟨rfl, Below.refl _ _⟩
set_option maxRecDepth 4000 in
set_option maxHeartbeats 1000000 in
theorem Width_not {w : World} {p : Value} (h : NobodyF w p) : Calls Tryz.prog 18 #[p] w fun e w' => e = .returned (.int .i64 0) ∧ Below w.heap.size w w' := by
  have HM := hid (made_not h)
  obtain ⟨a, rfl⟩ := h.form
  clear h
  go_enter Tryz.func18, Tryz.ntmps18
  go_wp2_with fail
  refine HM.out.mono ?_
  rintro en w1 ⟨rfl, hw⟩
  subst hw
  go_wp2
  go_ret
  exact ⟨rfl, Below.refl _ _⟩
set_option maxRecDepth 4000 in
set_option maxHeartbeats 1000000 in
theorem Len_not {w : World} {p : Value} (h : NobodyF w p) : Calls Tryz.prog 19 #[p] w fun e w' => e = .returned (.int .i64 0) ∧ Below w.heap.size w w' := by
  have HM := hid (made_not h)
  obtain ⟨a, rfl⟩ := h.form
  clear h
  go_enter Tryz.func19, Tryz.ntmps19
  go_wp2_with fail
  refine HM.out.mono ?_
  rintro en w1 ⟨rfl, hw⟩
  subst hw
  go_wp2
  go_ret
  exact ⟨rfl, Below.refl _ _⟩
set_option maxRecDepth 4000 in
set_option maxHeartbeats 1000000 in
theorem Rules_not {w : World} {p : Value} (h : NobodyF w p) : Calls Tryz.prog 20 #[p] w fun e w' => e = .returned (.slice none 0 0) ∧ Below w.heap.size w w' := by
  have HM := hid (made_not h)
  obtain ⟨a, rfl⟩ := h.form
  clear h
  go_enter Tryz.func20, Tryz.ntmps20
  go_wp2_with fail
  refine HM.out.mono ?_
  rintro en w1 ⟨rfl, hw⟩
  subst hw
  go_wp2
  go_ret
  exact ⟨rfl, Below.refl _ _⟩
end Go.Proofs.YtbfiggghpflioaaGreatDoor
namespace Go.Proofs.YtbfiggghpflioaaGreatDoor
open Go.RowKit

/-- The two rules. -/
def awA : Raw := ⟨5, [49, 120], 3, [[112]]⟩
def awB : Raw := ⟨9, [49, 49], 2, []⟩
theorem aw_run : runN 2 [] [(1, awA), (1, awB)] 0 = .ok [awB, awA] := by kernel_rfl
theorem aw_h1 : headB 2 [49, 49] = true := by kernel_rfl
theorem aw_h2 : headB 2 [49, 48] = true := by kernel_rfl
theorem aw_h3 : headB 2 [48, 48] = true := by kernel_rfl
theorem aw_m1 : metN [awB, awA] [49, 49] = 0 := by kernel_rfl
theorem aw_m2 : metN [awB, awA] [49, 48] = 1 := by kernel_rfl
theorem aw_m3 : metN [awB, awA] [48, 48] = -1 := by kernel_rfl
/-- The changes as a row. -/
abbrev awCs (g1 : Nat) : List (Int × Raw × Value) := [(1, awA, .slice (some ⟨g1, 0, none⟩) 1 1), (1, awB, .slice none 0 0)]
theorem aw_view {w1 X : World} (hX : X = (w1.alloc (.cells #[.string (tx [112])] 9)).alloc (.cells #[.int .i64 1, .int .i64 5, .string (tx [49, 120]), .int .i64 3, .slice (some ⟨w1.heap.size, 0, none⟩) 1 1, .int .i64 1, .int .i64 9, .string (tx [49, 49]), .int .i64 2, .slice none 0 0] 35)) : ChView X (w1.heap.size + 1) 0 (awCs w1.heap.size) := by
  have h1 : X.heap[w1.heap.size + 1]? = some (.cells #[.int .i64 1, .int .i64 5, .string (tx [49, 120]), .int .i64 3, .slice (some ⟨w1.heap.size, 0, none⟩) 1 1, .int .i64 1, .int .i64 9, .string (tx [49, 49]), .int .i64 2, .slice none 0 0] 35) := by rw [hX]; exact new_1 _ _ _
  have h0 : X.heap[w1.heap.size]? = some (.cells #[.string (tx [112])] 9) := by rw [hX]; exact new_old _ _ (new_0 _ _)
  refine ⟨lt_of_block h1, fun i u hi => ?_, fun u hu => ?_⟩
  · have hlt : i < 2 := (List.getElem?_eq_some_iff.1 hi).1
    have h2 : i = 0 ∨ i = 1 := by omega
    rcases h2 with rfl | rfl
    · have : (1, awA, Value.slice (some ⟨w1.heap.size, 0, none⟩) 1 1) = u := by simpa using hi
      subst this
      refine ⟨?_, ?_, ?_, ?_, ?_⟩ <;> · rw [cell_at h1]; rfl
    · have : (1, awB, Value.slice none 0 0) = u := by simpa using hi
      subst this
      refine ⟨?_, ?_, ?_, ?_, ?_⟩ <;> · rw [cell_at h1]; rfl
  · simp only [awCs, List.mem_cons, List.not_mem_nil, or_false] at hu
    rcases hu with rfl | rfl
    · refine ⟨⟨some ⟨w1.heap.size, 0, none⟩, 1, rfl, Or.inr ⟨w1.heap.size, 0, rfl, lt_of_block h0, fun i hi => ?_⟩⟩, fun p hp => ?_⟩
      · have : i = 0 := by have : i < 1 := hi; omega
        subst this
        rw [cell_at h0]; rfl
      · have : p = [112] := by simpa [awA] using hp
        rw [this]; unfold maxLen; simp
    · exact ⟨Txs.nil _ _ _, fun p hp => by simp [awB] at hp⟩

set_option maxRecDepth 20000 in
set_option maxHeartbeats 4000000 in
theorem fawake (w : World) : Calls Tryz.prog 21 #[] w fun e w' => e = .returned (.bool true) ∧ Below w.heap.size w w' := by
  have HNW := hid (New_good (W := 2) (w := w) (by decide))
  have hpn : ∀ (W : World) (a : Addr), (binOp .eql 36 (.pointer (some a)) (.pointer none)).run Tryz.prog W = .ok (.bool false) W := fun W a => by
    have h : ∀ d : Nat, (Op.equalIn (d + 1) 36 (.pointer (some a)) (.pointer none)).run Tryz.prog W = .ok false W := fun d => by
      simp [Op.equalIn, run_underlying Tryz.underlying36, sizeOf, typeInfo]
    simp only [binOp]
    simp [Op.equal, Op.maxDepth, h 9999]
  go_enter Tryz.func21, Tryz.ntmps21
  go_wp2_with fail
  refine HNW.out.mono ?_
  rintro en w1 ⟨rfl, h1⟩
  have HF1 := hid h1.out.1
  have B1 := hid h1.out.2
  clear h1
  obtain ⟨X, hX⟩ : ∃ X, X = (w1.alloc (.cells #[.string (tx [112])] 9)).alloc (.cells #[.int .i64 1, .int .i64 5, .string (tx [49, 120]), .int .i64 3, .slice (some ⟨w1.heap.size, 0, none⟩) 1 1, .int .i64 1, .int .i64 9, .string (tx [49, 49]), .int .i64 2, .slice none 0 0] 35) := ⟨_, rfl⟩
  have HBX := hid (show Below w1.heap.size w1 X by rw [hX]; exact ((Below.refl _ _).alloc (Nat.le_refl _) _).alloc (by simp) _)
  have HDO := hid (Do_any (cap := 2) (n := 2) (cs := awCs w1.heap.size) (HF1.out.on HBX.out) (Or.inr ⟨w1.heap.size + 1, 0, rfl, aw_view hX⟩) rfl (by decide))
  go_wp2_with fail
  rw [← hX]
  refine HDO.out.mono ?_
  rintro en w2 ⟨hg2, (⟨L', hr, rfl, hF2⟩ | ⟨i, er, hr, _, rfl, _⟩)⟩
  rotate_left
  · have : runN 2 [] [(1, awA), (1, awB)] 0 = .error (i, er) := hr
    rw [aw_run] at this
    cases this
  have hL : [awB, awA] = L' := by
    have : runN 2 [] [(1, awA), (1, awB)] 0 = .ok L' := hr
    rw [aw_run] at this
    injection this
  subst hL
  have HF2 := hid hF2
  have B2 := hid (show Below w.heap.size w w2 from (below_2 B1.out HBX.out).grown hg2 (below_2 B1.out HBX.out).size (fun b hb => by cases hb; exact Nat.le_refl _))
  clear hg2 hr hF2 hX
  have HL1 := hid (Lookup_any (h := [49, 49]) HF2.out)
  go_wp2_with fail
  refine HL1.out.mono ?_
  rintro en w3 ⟨hb3, (⟨hh, rfl⟩ | ⟨hh, hm, rfl⟩ | ⟨hh, j, r, ao, n, c, hj, hm, rfl, hp⟩)⟩
  · rw [aw_h1] at hh; cases hh
  · rw [aw_m1] at hm; exact absurd hm (by decide)
  have hj0 : j = 0 := by rw [aw_m1] at hm; omega
  subst hj0
  have hrr : awB = r := by simpa using hj
  subst hrr
  have HF3 := hid (HF2.out.on hb3)
  have B3 := hid (below_2 B2.out hb3)
  clear hb3 hh hj hm hp
  have HBa := hid (show Below w3.heap.size w3 (w3.alloc (aob 2 (.slice ao n c))) from (Below.refl _ _).alloc (Nat.le_refl _) _)
  have HA3 := hid (new_0 w3 (aob 2 (.slice ao n c)))
  have HL2 := hid (Lookup_any (h := [49, 48]) (HF3.out.on HBa.out))
  go_wp2_with fail
  refine HL2.out.mono ?_
  rintro en w4 ⟨hb4, (⟨hh, rfl⟩ | ⟨hh, hm, rfl⟩ | ⟨hh, j, r, ao4, n4, c4, hj, hm, rfl, hp⟩)⟩
  · rw [aw_h2] at hh; cases hh
  · rw [aw_m2] at hm; exact absurd hm (by decide)
  have hj0 : j = 1 := by rw [aw_m2] at hm; omega
  subst hj0
  have hrr : awA = r := by simpa using hj
  subst hrr
  have HF4 := hid ((HF3.out.on HBa.out).on hb4)
  have B4 := hid (below_2 (below_2 B3.out HBa.out) hb4)
  have HA4 := hid (below_block hb4 HA3.out (lt_of_block HA3.out))
  clear hb4 hh hj hm hp
  have HBb := hid (show Below w4.heap.size w4 (w4.alloc (aob 3 (.slice ao4 n4 c4))) from (Below.refl _ _).alloc (Nat.le_refl _) _)
  have HC4 := hid (new_0 w4 (aob 3 (.slice ao4 n4 c4)))
  have HL3 := hid (Lookup_any (h := [48, 48]) (HF4.out.on HBb.out))
  go_wp2_with fail
  refine HL3.out.mono ?_
  rintro en w5 ⟨hb5, (⟨hh, rfl⟩ | ⟨hh, hm, rfl⟩ | ⟨hh, j, r, ao5, n5, c5, hj, hm, rfl, hp⟩)⟩
  · rw [aw_h3] at hh; cases hh
  rotate_left
  · rw [aw_m3] at hm; omega
  have HF5 := hid ((HF4.out.on HBb.out).on hb5)
  have B5 := hid (below_2 (below_2 B4.out HBb.out) hb5)
  have HBc := hid (show Below w5.heap.size w5 (w5.alloc (aob 1 (.slice none 0 0))) from (Below.refl _ _).alloc (Nat.le_refl _) _)
  have HLN := hid (Len_any (HF5.out.on HBc.out))
  have hA5 := below_block HBc.out (below_block hb5 (below_block HBb.out HA4.out (lt_of_block HA4.out)) (by have := lt_of_block HA4.out; simp; omega)) (lt_of_block (below_block hb5 (below_block HBb.out HA4.out (lt_of_block HA4.out)) (by have := lt_of_block HA4.out; simp; omega)))
  have hC5 := below_block HBc.out (below_block hb5 HC4.out (lt_of_block HC4.out)) (lt_of_block (below_block hb5 HC4.out (lt_of_block HC4.out)))
  have x3 : (w5.alloc (aob 1 (.slice none 0 0))).cell? ⟨w3.heap.size, 0, none⟩ = some (.int .i64 2) := by rw [cell_at hA5]; rfl
  have x4 : (w5.alloc (aob 1 (.slice none 0 0))).cell? ⟨w4.heap.size, 0, none⟩ = some (.int .i64 3) := by rw [cell_at hC5]; rfl
  have x5 : (w5.alloc (aob 1 (.slice none 0 0))).cell? ⟨w5.heap.size, 0, none⟩ = some (.int .i64 1) := by rw [cell_at (new_0 w5 _)]; rfl
  have BF := hid (below_2 B5.out HBc.out)
  clear hb5 hh hm hA5 hC5
  go_wp2_with (go_at_call 19; refine HLN.out.mono ?_; rintro e w9 ⟨rfl, hw9⟩; subst hw9)
  go_ret
  exact ⟨rfl, BF.out⟩
end Go.Proofs.YtbfiggghpflioaaGreatDoor
namespace Go.Proofs.YtbfiggghpflioaaGreatDoor
open Go.RowKit

/-- A table that New did not make, and a change in block g, in a world that keeps what lay ahead of B. -/
structure NoF (B : Nat) (w0 w : World) (a : Option Addr) (g : Nat) (cs : Array Value) : Prop where
  below : Below B w0 w
  size : B ≤ w.heap.size
  nobody : NobodyF w (.pointer a)
  blk : w.heap[g]? = some (.cells cs 35)
theorem NoF.on {B : Nat} {w0 w w' : World} {a : Option Addr} {g : Nat} {cs : Array Value} (h : NoF B w0 w a g cs) (hb : Below w.heap.size w w') : NoF B w0 w' a g cs :=
  ⟨h.below.trans (hb.mono h.size), Nat.le_trans h.size hb.size, h.nobody.on hb, below_block hb h.blk (lt_of_block h.blk)⟩
theorem NoF.more {B : Nat} {w0 w : World} {a : Option Addr} {g : Nat} {cs : Array Value} (h : NoF B w0 w a g cs) (o : Obj) : NoF B w0 (w.alloc o) a g cs :=
  h.on ((Below.refl _ _).alloc (Nat.le_refl _) _)

/-- The two tables of the law, and the change. -/
def TwoF (w' : World) (g : Nat) (cs : Array Value) : Prop := (∀ k : Nat, k < 2 → ∃ a, w'.cell? ⟨g + 2, k, none⟩ = some (.pointer a) ∧ NobodyF w' (.pointer a)) ∧ w'.heap[g]? = some (.cells cs 35)
theorem TwoF.on {w w' : World} {g : Nat} {cs : Array Value} (h : TwoF w g cs) (hb : Below w.heap.size w w') : TwoF w' g cs := by
  refine ⟨fun k hk => ?_, below_block hb h.2 (lt_of_block h.2)⟩
  obtain ⟨a, hc, hn⟩ := h.1 k hk
  exact ⟨a, by rw [hb.cell (World.block_lt_of_cell? w _ hc)]; exact hc, hn.on hb⟩
theorem twoF_start (w : World) (cs : Array Value) : Below w.heap.size w (((w.alloc (.cells cs 35)).alloc (.cells #[.int .i64 0, .slice none 0 0, .pointer none] 40)).alloc (.cells #[.pointer none, .pointer (some ⟨w.heap.size + 1, 0, none⟩)] 36)) ∧
    w.heap.size ≤ (((w.alloc (.cells cs 35)).alloc (.cells #[.int .i64 0, .slice none 0 0, .pointer none] 40)).alloc (.cells #[.pointer none, .pointer (some ⟨w.heap.size + 1, 0, none⟩)] 36)).heap.size ∧
    TwoF (((w.alloc (.cells cs 35)).alloc (.cells #[.int .i64 0, .slice none 0 0, .pointer none] 40)).alloc (.cells #[.pointer none, .pointer (some ⟨w.heap.size + 1, 0, none⟩)] 36)) w.heap.size cs := by
  have e1 : (w.alloc (.cells cs 35)).heap.size = w.heap.size + 1 := by simp
  have e2 : ((w.alloc (.cells cs 35)).alloc (.cells #[.int .i64 0, .slice none 0 0, .pointer none] 40)).heap.size = w.heap.size + 2 := by simp
  have c0 := new_old _ (.cells #[.pointer none, .pointer (some ⟨w.heap.size + 1, 0, none⟩)] 36) (new_old _ (.cells #[.int .i64 0, .slice none 0 0, .pointer none] 40) (new_0 w (.cells cs 35)))
  have c1 := new_old _ (.cells #[.pointer none, .pointer (some ⟨w.heap.size + 1, 0, none⟩)] 36) (new_0 (w.alloc (.cells cs 35)) (.cells #[.int .i64 0, .slice none 0 0, .pointer none] 40))
  have c2 := new_0 ((w.alloc (.cells cs 35)).alloc (.cells #[.int .i64 0, .slice none 0 0, .pointer none] 40)) (.cells #[.pointer none, .pointer (some ⟨w.heap.size + 1, 0, none⟩)] 36)
  rw [e1] at c1
  rw [e2] at c2
  refine ⟨(((Below.refl _ _).alloc (Nat.le_refl _) _).alloc (by simp) _).alloc (by simp <;> omega) _, by simp <;> omega, fun k hk => ?_, c0⟩
  match k, hk with
  | 0, _ => exact ⟨none, by rw [cell_at c2]; rfl, Or.inl rfl⟩
  | 1, _ => exact ⟨some ⟨w.heap.size + 1, 0, none⟩, by rw [cell_at c2]; rfl, Or.inr ⟨w.heap.size + 1, rfl, by rw [cell_at c1]; rfl⟩⟩
  | (k + 2), h => omega

set_option maxRecDepth 8000 in
set_option maxHeartbeats 4000000 in
theorem fnobody_any (c0 c1 c2 c3 c4 : Value) (t : ByteArray) (w : World) : Calls Tryz.prog 4 #[.agg #[c0, c1, c2, c3, c4], .string t] w fun e w' => e = .returned (.bool true) ∧ Below w.heap.size w w' := by
  have HS := hid (twoF_start w #[c0, c1, c2, c3, c4])
  go_enter Tryz.func4, Tryz.ntmps4
  go_wp2
  go_loopw [30] (fun i wr => ∃ k : Nat, k ≤ 2 ∧ i = .int .i64 k ∧ Hid (Below w.heap.size w wr ∧ w.heap.size ≤ wr.heap.size ∧ TwoF wr w.heap.size #[c0, c1, c2, c3, c4])) (fun i _ => 2 - (intOf i).toNat)
  case atStart =>
    exact ⟨0, by omega, rfl, HS⟩
  case round =>
    clear HS
    obtain ⟨k, hk, rfl, H⟩ := hrel
    by_cases hlt : k < 2
    · have hkI : (0 : Int) ≤ (k : Int) := by omega
      have hkI2 : (k : Int) < 2 := by omega
      obtain ⟨a, hc, hn⟩ := H.out.2.2.1 k hlt
      have N0 : Hid (NoF wr.heap.size wr wr a w.heap.size #[c0, c1, c2, c3, c4]) := ⟨Below.refl _ _, Nat.le_refl _, hn, H.out.2.2.2⟩
      clear hn
      have k0 := cell_at (o := 0) N0.out.blk
      have k1 := cell_at (o := 1) N0.out.blk
      have k2 := cell_at (o := 2) N0.out.blk
      have k3 := cell_at (o := 3) N0.out.blk
      have k4 := cell_at (o := 4) N0.out.blk
      simp at k0 k1 k2 k3 k4
      go_wp2_with fail
      refine (Do_not (N0.out.more _).nobody).mono ?_
      rintro e w1 ⟨rfl, hb⟩
      have N1 := hid ((N0.out.more _).on hb)
      clear hb N0 k0 k1 k2 k3 k4 hc
      go_wp2_with fail
      refine (Lookup_not N1.out.nobody).mono ?_
      rintro e w2 ⟨rfl, hb⟩
      have N2 := hid (N1.out.on hb)
      clear hb N1
      go_wp2_with fail
      refine (Meets_not (N2.out.more _).nobody).mono ?_
      rintro e w3 ⟨rfl, hb⟩
      have N3 := hid ((N2.out.more _).on hb)
      clear hb N2
      go_wp2_with fail
      refine (Dead_not (N3.out.more _).nobody).mono ?_
      rintro e w4 ⟨rfl, hb⟩
      have N4 := hid ((N3.out.more _).on hb)
      clear hb N3
      go_wp2_with fail
      refine (Text_not N4.out.nobody).mono ?_
      rintro e w5 ⟨rfl, hb⟩
      have N5 := hid (N4.out.on hb)
      clear hb N4
      go_wp2_with fail
      refine (Load_not N5.out.nobody).mono ?_
      rintro e w6 ⟨rfl, hb⟩
      have N6 := hid (N5.out.on hb)
      clear hb N5
      have k0 := cell_at (o := 0) N6.out.blk
      have k1 := cell_at (o := 1) N6.out.blk
      have k2 := cell_at (o := 2) N6.out.blk
      have k3 := cell_at (o := 3) N6.out.blk
      have k4 := cell_at (o := 4) N6.out.blk
      simp at k0 k1 k2 k3 k4
      go_wp2_with fail
      refine (Undo_not (N6.out.more _).nobody).mono ?_
      rintro e w7 ⟨rfl, hb⟩
      have N7 := hid ((N6.out.more _).on hb)
      clear hb N6 k0 k1 k2 k3 k4
      go_wp2_with fail
      refine (Width_not N7.out.nobody).mono ?_
      rintro e w8 ⟨rfl, hb⟩
      have N8 := hid (N7.out.on hb)
      clear hb N7
      go_wp2_with fail
      refine (Len_not N8.out.nobody).mono ?_
      rintro e w9 ⟨rfl, hb⟩
      have N9 := hid (N8.out.on hb)
      clear hb N8
      go_wp2_with fail
      refine (Rules_not N9.out.nobody).mono ?_
      rintro e w10 ⟨rfl, hb⟩
      have N10 := hid (N9.out.on hb)
      clear hb N9
      go_wp2
      go_roundw
      case rel => exact ⟨k + 1, by omega, by go_num, H.out.1.trans (N10.out.below.mono H.out.2.1), Nat.le_trans H.out.2.1 N10.out.size, H.out.2.2.on N10.out.below⟩
      case measure => simp [intOf]; omega
    · have hkI : ¬ ((k : Int) < 2) := by omega
      go_wp2_with fail
      refine (fawake _).mono ?_
      rintro e w1 ⟨rfl, hb⟩
      have HB := hid (H.out.1.trans (hb.mono H.out.2.1))
      clear hb
      go_wp2
      go_ret
      exact ⟨rfl, HB.out⟩
end Go.Proofs.YtbfiggghpflioaaGreatDoor
namespace Go.Proofs.YtbfiggghpflioaaGreatDoor
open Go.ChangeShapes Go.WideShapes Go.ChangeAt Go.RowKit
open Go.ChangeMaps (open_string shut_string)

theorem VCNob.laidOut : laidOutB Tryz.prog = true := by kernel_rfl
theorem VCNob.own : ownKnob Tryz.prog.godebug = none := by kernel_rfl

theorem VCNob.struct {P : Program} {t : TypeId} (h : (match P.underlying t with | some (.struct _) => true | _ => false) = true) : ∃ fs, P.underlying t = some (.struct fs) := by
  split at h
  · exact ⟨_, ‹_›⟩
  · cases h
theorem VCNob.fields : ∃ fs, Tryz.prog.underlying 35 = some (.struct fs) := VCNob.struct (by kernel_rfl)
theorem VCNob.five : Tryz.prog.cellsOf 35 = 5 := by kernel_rfl
theorem VCNob.cells {cs : Array Value} (h : cs.size = 5) : ∃ c0 c1 c2 c3 c4, cs = #[c0, c1, c2, c3, c4] := by
  obtain ⟨l⟩ := cs
  match l, h with
  | [c0, c1, c2, c3, c4], _ => exact ⟨c0, c1, c2, c3, c4, rfl⟩
theorem VCNob.two {v0 v1 : Value} {args : Array Value} {l : List Value} (h : args.toList = v0 :: l) (h1 : l = v1 :: []) : args = #[v0, v1] := by
  subst h1
  obtain ⟨a⟩ := args
  simp only at h
  rw [h]

set_option maxRecDepth 100000 in
set_option maxHeartbeats 2000000 in
theorem VCNob.lifted (os : Os) (started : os.Started) (H : Type) (enc : TypeId × Value → H) :
    ReturnsInHanded {} Tryz.checked os 4 .any (fun w args => (Rows.fibNobodySpec.pre enc Tryz.prog Tryz.f4 [] false w args ∧ laidMetH Tryz.prog Rows.fibNobodyRow.laid w) ∧ sizedMet enc Tryz.prog Tryz.f4 (OpenSpec.ofChange Rows.fibNobodySpec) false w args)
      (Rows.fibNobodySpec.post enc Tryz.prog Tryz.f4 false true false false) := by
  refine returnsInHanded_of_change_and (C := Tryz.checked) (X := fun w _ => laidMetH Tryz.prog Rows.fibNobodyRow.laid w) (fun _ _ _ hh h => h.of_heap hh) VCNob.own started (by kernel_rfl) Tryz.func4
    (ChangeSpec.witness_shaped (enc := enc) (C := Tryz.checked) (os := os) (X := fun w _ => laidMetH Tryz.prog Rows.fibNobodyRow.laid w) false (World.laidAll Tryz.prog os Rows.fibNobodyRow.laid) #[.agg #[.int .i64 0, .int .i64 0, .string ByteArray.empty, .int .i64 0, .slice none 0 0], .string ByteArray.empty] 8 (World.laidAll_os _ _ _)
      (World.shaped_of_ZipB (by kernel_rfl) (by kernel_rfl)) (by kernel_rfl) (by kernel_rfl) (by kernel_rfl)
      (by rw [MakeChecks.laidMetH_plain _ _ _ (by kernel_rfl)]; exact laidMet_laidAll _ (by kernel_rfl) (by kernel_rfl))) ?_
  intro W base args ds gs before hval0 hW _ hsz hL _
  have hval : ∀ (j : Nat) t v, Tryz.f4.params[j]? = some t → args[j]? = some v → Value.okWide Tryz.prog W .any base t v := hval0
  have hW' := hW
  obtain ⟨p, q, hA0, hV, rfl, _, _⟩ := hW
  have hA : DataW.TrodAll enc Tryz.prog W 0 (fun _ => true) true Tryz.f4.params.toList args.toList ds p := hA0
  rw [Tryz.params4] at hA hval
  obtain ⟨v0, vs0, d0, ds0, p0, q0, hargs, rfl, rfl, h0, r0⟩ := trodAll_cons hA
  obtain ⟨v1, vs1, d1, ds1, p1, q1, hargs1, rfl, rfl, h1, r1⟩ := trodAll_cons r0
  obtain ⟨rfl, rfl, rfl⟩ := trodAll_nil r1
  obtain rfl := VCNob.two hargs hargs1
  obtain ⟨rfl, rfl⟩ := trodVars_none hV
  obtain ⟨fs, hfs⟩ := VCNob.fields
  obtain ⟨cs, rfl, hcs⟩ := okWide_struct hfs (hval 0 35 v0 rfl rfl)
  rw [VCNob.five] at hcs
  obtain ⟨c0, c1, c2, c3, c4, rfl⟩ := VCNob.cells hcs
  obtain ⟨a1, rfl, rfl, rfl, w1⟩ := open_string Tryz.underlying9 (hval 1 9 v1 rfl rfl) h1
  have k0 := h0
  have lt0 : ∀ x ∈ p0, x.block < W.heap.size := by obtain ⟨m, hm⟩ := k0; exact DataW.trod_lt m _ _ _ hm
  simp only [List.append_nil] at hW'
  refine (fnobody_any c0 c1 c2 c3 c4 a1 W).mono fun e W' ⟨he, hb⟩ => ?_
  subst he
  exact ⟨_, rfl, _, _, _, [], _, [], hW', trodAll_mk1 (shut_bool Tryz.underlying4 _), (trodAll_cons_mk (Below.trod VCNob.laidOut (by kernel_rfl) (of_decide_eq_true (by kernel_rfl)) k0 hb lt0) (trodAll_cons_mk (shut_string Tryz.underlying9 w1) trodAll_mk0)), rfl, hb.frame _, fun h => by cases h⟩

theorem VCNob.holds : Rows.FibNobodySaid :=
  OpenClaim.holds_of_wide 4 Tryz.f4 rfl rfl rfl rfl rfl rfl rfl ⟨rfl, rfl, rfl, rfl, rfl⟩ rfl rfl rfl rfl rfl (by kernel_rfl) Tryz.func4 (by kernel_rfl)
    (of_decide_eq_true (by kernel_rfl)) (by unfold Func.isWrapper; first | (rw [if_pos (by decide +kernel)]; kernel_rfl) | (rw [if_neg (by decide +kernel)]; exact ⟨rfl, rfl⟩))
    (fun os started H enc _ => VCNob.lifted os started H enc)

theorem FibNobody_holds : Rows.FibNobodyCardSaid :=
  Claim7.holds_tied_plain_at .later [] [.data, .data, .data, .data, .pinned] true (true, "b24efe9a34ea17b0dc790b5720145e5ad4100e736bf4d94688251970beb0bf8b") false VCNob.holds (fun _ h => by cases h) (by kernel_rfl) (fun _ h => by cases h) fibNobody_row_tie rfl ⟨rfl, rfl⟩ (by kernel_rfl) rfl
    (fun f fn hf hfn => by
      obtain rfl : f = 4 := Option.some.inj ((show Tryz.prog.funcNamed "milestone/milestonelaw06.FibNobody" = some 4 by kernel_rfl).symm.trans hf) |>.symm
      obtain rfl : fn = Tryz.f4 := (Option.some.inj (Tryz.func4.symm.trans hfn)).symm
      exact ⟨by kernel_rfl, fun j t ht => by
        rw [Tryz.params4] at ht
        have hm : t ∈ [35, 9] := by simpa using Array.mem_of_getElem? ht
        have hall : ([35, 9].all fun u => !Tryz.prog.wantsStandIn u) = true := by kernel_rfl
        exact (show Tryz.prog.wantsStandIn t = false by simpa using List.all_eq_true.1 hall t hm)⟩)
    (by kernel_rfl)
#print axioms FibNobody_holds
end Go.Proofs.YtbfiggghpflioaaGreatDoor
