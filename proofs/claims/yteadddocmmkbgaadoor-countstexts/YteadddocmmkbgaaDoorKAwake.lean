/-
  Counts: the law's own look that sums are known.
-/
import Derived.Test.YteadddocmmkbgaaDoorKText
import Derived.Test.YteadddocmmkbgaaDoorKFaceC
namespace Go.Proofs.YteadddocmmkbgaaDoor.Co
open Go.RowKit Go.Shelf

theorem cell_two (w : World) (u v : Value) (t : TypeId) : (w.alloc (.cells #[u, v] t)).cell? ⟨w.heap.size, 0, none⟩ = some u ∧ (w.alloc (.cells #[u, v] t)).cell? ⟨w.heap.size, 1, none⟩ = some v := by
  have h : (w.alloc (.cells #[u, v] t)).heap[w.heap.size]? = some (.cells #[u, v] t (0, 0)) := World.alloc_heap_new w _
  unfold World.cell?
  rw [h]
  exact ⟨rfl, rfl⟩
theorem two_is (w : World) (a b : Int) (t : TypeId) : IsIn (w.alloc (.cells #[.int .i64 a, .int .i64 b] t)) (some ⟨w.heap.size, 0, none⟩) [a, b] := by
  obtain ⟨h0, h1⟩ := cell_two w (.int .i64 a) (.int .i64 b) t
  refine Or.inr ⟨_, _, rfl, by simp, fun j hj => ?_⟩
  match j, hj with
  | 0, _ => exact h0
  | 1, _ => exact h1
theorem two_cs (w : World) (a b : Nat) (t : TypeId) : CsIn (w.alloc (.cells #[.int .u64 (a : Int), .int .u64 (b : Int)] t)) (some ⟨w.heap.size, 0, none⟩) [a, b] := by
  obtain ⟨h0, h1⟩ := cell_two w (.int .u64 (a : Int)) (.int .u64 (b : Int)) t
  refine Or.inr ⟨_, _, rfl, by simp, fun j hj => ?_⟩
  match j, hj with
  | 0, _ => exact h0
  | 1, _ => exact h1
theorem below_alloc (w : World) (o : Obj) : Below w.heap.size w (w.alloc o) := (Below.refl _ w).alloc (Nat.le_refl _) _

set_option maxRecDepth 100000 in
set_option maxHeartbeats 1000000 in
theorem kawake {w : World} (hP : PowTab w) : Calls Tryd.prog 14 #[] w fun e w' => e = .returned (.bool true) ∧ Below w.heap.size w w' := by
  have HP := hid hP
  clear hP
  have HA := hid (fun w' => Of_any (t := 2) (cap := 2) (n := 2) (l := [0, 1]) (by rfl) (by omega) (two_is w' 0 1 3) (by simp))
  have HB := hid (fun w' => Of_any (t := 2) (cap := 2) (n := 2) (l := [1, 2]) (by rfl) (by omega) (two_is w' 1 2 3) (by simp))
  have HS := hid (fun w' => Sum_any (t := 2) (cap := 2) (n := 2) (l := [3, 6]) (by rfl) (by omega) (two_cs w' 3 6 24) (by simp))
  have e1 : ofP 2 [0, 1] = (3, 0) := by decide +kernel
  have e2 : ofP 2 [1, 2] = (6, 0) := by decide +kernel
  have e3 : sumP 2 [3, 6] = (14, 0) := by decide +kernel
  have e4 : textP 2 14 = ([123, 49, 44, 50, 44, 62, 50, 125], 0) := by decide +kernel
  rw [e1] at HA
  rw [e2] at HB
  rw [e3] at HS
  go_enter Tryd.func14, Tryd.ntmps14
  go_wp2_with fail
  refine (HA.out _).mono ?_
  rintro e w1 ⟨rfl, hb1⟩
  have B1 := hid (below_tr (below_alloc _ _) hb1)
  clear hb1
  go_wp2_with fail
  refine (HB.out _).mono ?_
  rintro e w2 ⟨rfl, hb2⟩
  have B2 := hid (below_tr B1.out (below_tr (below_alloc _ _) hb2))
  clear hb2
  go_wp2_with fail
  refine (HS.out _).mono ?_
  rintro e w3 ⟨rfl, hb3⟩
  have B3 := hid (below_tr B2.out (below_tr (below_alloc _ _) hb3))
  clear hb3
  have HT := hid (Text_any (t := 2) (c := 14) (w := w3) (by omega) (HP.out.below B3.out))
  rw [e4] at HT
  go_wp2_with fail
  refine HT.out.mono ?_
  rintro e w4 ⟨rfl, hb4⟩
  have B4 := hid (below_tr B3.out hb4)
  clear hb4
  go_wp2
  go_ret
  exact ⟨rfl, B4.out⟩
end Go.Proofs.YteadddocmmkbgaaDoor.Co
