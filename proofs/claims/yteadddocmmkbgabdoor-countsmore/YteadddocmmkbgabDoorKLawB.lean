/-
  Counts: the laws' walks: Algebra.
-/
import Derived.Test.YteadddocmmkbgabDoorKAwake
import Derived.Test.YteadddocmmkbgabDoorKRef
namespace Go.Proofs.YteadddocmmkbgabDoor.Co
open Go.RowKit Go.Shelf

theorem chk_ok {m : Nat} {l : List Nat} (hm : m ≤ 62) (h : ∀ c ∈ l, mayB m c = true) : chkE (m : Int) l = 0 := by
  unfold chkE
  rw [if_neg (by omega), Int.toNat_natCast, if_pos (List.all_eq_true.2 h)]
theorem sumP_ok {m : Nat} {l : List Nat} (hm : m ≤ 62) (h : ∀ c ∈ l, mayB m c = true) : sumP (m : Int) l = (l.foldl (sumN m) 1, 0) := by
  unfold sumP
  rw [if_pos (chk_ok hm h)]
  rfl
theorem unionP_ok {m : Nat} {l : List Nat} (hm : m ≤ 62) (h : ∀ c ∈ l, mayB m c = true) (hl : l ≠ []) : unionP (m : Int) l = (orL l, 0) := by
  unfold unionP
  rw [if_pos (chk_ok hm h), if_neg hl]
theorem sumP2 {m a b : Nat} (hm : m ≤ 62) (ha : mayB m a = true) (hb : mayB m b = true) : sumP (m : Int) [a, b] = (sumN m a b, 0) := by
  rw [sumP_ok hm (by intro c hc; simp at hc; rcases hc with rfl | rfl <;> assumption)]
  show (sumN m (sumN m 1 a) b, _) = _
  rw [sumN_one (may_lt ha)]
theorem unionP2 {m a b : Nat} (hm : m ≤ 62) (ha : mayB m a = true) (hb : mayB m b = true) : unionP (m : Int) [a, b] = (a ||| b, 0) := by
  rw [unionP_ok hm (by intro c hc; simp at hc; rcases hc with rfl | rfl <;> assumption) (by simp)]
  show ((0 ||| a) ||| b, _) = _
  rw [Nat.zero_or]
theorem one_may (m : Nat) : mayB m 1 = true := by
  have : 2 ^ 1 ≤ 2 ^ (m + 2) := Nat.pow_le_pow_right (by omega) (by omega)
  simp [mayB]
theorem three_cs (w : World) (a b c : Nat) (t : TypeId) : CsIn (w.alloc (.cells #[.int .u64 (a : Int), .int .u64 (b : Int), .int .u64 (c : Int)] t)) (some ⟨w.heap.size, 0, none⟩) [a, b, c] := by
  have h : (w.alloc (.cells #[.int .u64 (a : Int), .int .u64 (b : Int), .int .u64 (c : Int)] t)).heap[w.heap.size]? = some (.cells #[.int .u64 (a : Int), .int .u64 (b : Int), .int .u64 (c : Int)] t (0, 0)) := World.alloc_heap_new w _
  refine Or.inr ⟨_, _, rfl, by simp, fun j hj => ?_⟩
  unfold World.cell?
  match j, hj with
  | 0, _ => rw [h]; rfl
  | 1, _ => rw [h]; rfl
  | 2, _ => rw [h]; rfl
/-- Sum and Union of two sets in a row of their own. -/
theorem Sum_two {t : Int} {a b x : Nat} {e0 : Int} (ha : a < 18446744073709551616) (hb : b < 18446744073709551616) (he : sumP t [a, b] = (x, e0)) (w : World) :
    Calls Tryd.prog 14 #[.int .i64 t, .slice (some ⟨w.heap.size, 0, none⟩) 2 2] (w.alloc (.cells #[.int .u64 (a : Int), .int .u64 (b : Int)] 23)) fun e w' => e = .returned (.tuple #[.int .u64 (x : Int), .int .i64 e0]) ∧ Below w.heap.size w w' := by
  have h := Sum_any (t := t) (cap := 2) (n := 2) (l := [a, b]) rfl (by omega) (two_cs w a b 23) (by intro c hc; simp at hc; rcases hc with rfl | rfl <;> assumption)
  rw [he] at h
  exact h.mono fun e w' ⟨h1, h2⟩ => ⟨h1, below_tr (below_alloc _ _) h2⟩
theorem Union_two {t : Int} {a b x : Nat} {e0 : Int} (ha : a < 18446744073709551616) (hb : b < 18446744073709551616) (he : unionP t [a, b] = (x, e0)) (w : World) :
    Calls Tryd.prog 7 #[.int .i64 t, .slice (some ⟨w.heap.size, 0, none⟩) 2 2] (w.alloc (.cells #[.int .u64 (a : Int), .int .u64 (b : Int)] 23)) fun e w' => e = .returned (.tuple #[.int .u64 (x : Int), .int .i64 e0]) ∧ Below w.heap.size w w' := by
  have h := Union_any (t := t) (cap := 2) (n := 2) (l := [a, b]) rfl (by omega) (two_cs w a b 23) (by intro c hc; simp at hc; rcases hc with rfl | rfl <;> assumption)
  rw [he] at h
  exact h.mono fun e w' ⟨h1, h2⟩ => ⟨h1, below_tr (below_alloc _ _) h2⟩

end Go.Proofs.YteadddocmmkbgabDoor.Co
