/-
  Which texts are cubes, how many bits are free, all headers: the program's and the document's own.
-/
import Derived.Test.YtenlmigdlibgeaaRBoth
import Derived.Test.YtenlmigdlibgeaaChkS
namespace Go.Proofs.Ytenlmigdlibgeaa
open Go.RowKit

/-- What Check answers. -/
def errC (c : ByteArray) : Int := if Cu.right c.data.toList = true then 0 else 10
def freeC (c : ByteArray) : Int := if Cu.right c.data.toList = true then (cnt c.data.toList : Int) else 0
theorem errC_ok {c : ByteArray} (h : Cu.right c.data.toList = true) : errC c = 0 := if_pos h
theorem errC_bad {c : ByteArray} (h : Cu.right c.data.toList = false) : errC c = 10 := if_neg (by rw [h]; simp)
theorem freeC_ok {c : ByteArray} (h : Cu.right c.data.toList = true) : freeC c = (cnt c.data.toList : Int) := if_pos h
theorem freeC_bad {c : ByteArray} (h : Cu.right c.data.toList = false) : freeC c = 0 := if_neg (by rw [h]; simp)

theorem one_cell (w : World) (c : ByteArray) : ∀ i, i < 1 → (w.alloc (.cells #[.string c] 9)).cell? ⟨w.heap.size, 0 + i, none⟩ = some (.string ((fun _ => c) i)) := by
  intro i hi
  have h := new_0 w (.cells #[.string c] 9)
  have : i = 0 := by omega
  subst this
  unfold World.cell?
  rw [h]; rfl

set_option maxHeartbeats 400000 in
theorem Check_any (c : ByteArray) (w : World) : Calls Try.prog 10 #[.string c] w fun e w' => e = .returned (.int .i64 (errC c)) ∧ Below w.heap.size w w' := by
  rcases bool_two (Cu.right c.data.toList) with h | h
  · rw [errC_bad h]
    have H := hid h
    clear h
    go_enter Try.func10, Try.ntmps10
    go_wp2_with fail
    refine (read_wrong (fun _ => c) 1 w.heap.size 0 1 (w.alloc (.cells #[.string c] 9)) (by simp) (one_cell w c) (by omega) (by omega) 0 (by omega) (fun i hi => absurd hi (Nat.not_lt_zero i)) H.out).mono ?_
    rintro e w1 ⟨rfl, hb1⟩
    go_wp2
    go_ret
    exact ⟨rfl, ((Below.refl _ _).alloc (Nat.le_refl _) _).trans (hb1.mono (by simp))⟩
  · rw [errC_ok h]
    have H := hid h
    clear h
    go_enter Try.func10, Try.ntmps10
    go_wp2_with fail
    refine (read_right (fun _ => c) 1 w.heap.size 0 1 (w.alloc (.cells #[.string c] 9)) (by simp) (one_cell w c) (by omega) (by omega) (fun _ _ => H.out) (fun _ _ => rfl)).mono ?_
    rintro e w1 ⟨rfl, _, hb1⟩
    go_wp2
    go_ret
    exact ⟨rfl, ((Below.refl _ _).alloc (Nat.le_refl _) _).trans (hb1.mono (by simp))⟩

set_option maxHeartbeats 400000 in
theorem Free_any (c : ByteArray) (w : World) : Calls Try.prog 4 #[.string c] w fun e w' => e = .returned (.tuple #[.int .i64 (freeC c), .int .i64 (errC c)]) ∧ Below w.heap.size w w' := by
  have q := Check_any c w
  rcases bool_two (Cu.right c.data.toList) with h | h
  · rw [errC_bad h] at q
    rw [errC_bad h, freeC_bad h]
    clear h
    go_enter Try.func4, Try.ntmps4
    go_wp2_with fail
    refine q.mono ?_
    clear q
    rintro e w1 ⟨rfl, hb1⟩
    go_wp2
    go_ret2
    exact ⟨rfl, hb1⟩
  · rw [errC_ok h] at q
    rw [errC_ok h, freeC_ok h]
    clear h
    go_enter Try.func4, Try.ntmps4
    go_wp2_with fail
    refine q.mono ?_
    clear q
    rintro e w1 ⟨rfl, hb1⟩
    go_wp2_with fail
    refine (Count_x c w1).mono ?_
    rintro e w2 ⟨rfl, rfl⟩
    go_wp2
    go_ret2
    exact ⟨rfl, hb1⟩

set_option maxHeartbeats 1000000 in
theorem RFree_any (c : ByteArray) (w : World) (hc : c.size ≤ maxLen) : Calls Try.prog 5 #[.string c] w fun e w' => e = .returned (.tuple #[.int .i64 (freeC c), .int .i64 (errC c)]) ∧ w' = w := by
  have q := Right_any c w hc
  rcases bool_two (Cu.right c.data.toList) with h | h
  · rw [h] at q
    rw [errC_bad h, freeC_bad h]
    clear h
    go_enter Try.func5, Try.ntmps5
    go_wp2_with fail
    refine q.mono ?_
    clear q
    rintro e w1 ⟨rfl, rfl⟩
    go_wp2
    go_ret2
    exact ⟨rfl, rfl⟩
  · rw [h] at q
    rw [errC_ok h, freeC_ok h]
    have hsz : c.size ≤ 128 := (Cu.right_all h).2.2
    clear h hc
    go_enter Try.func5, Try.ntmps5
    go_wp2_with fail
    refine q.mono ?_
    clear q
    rintro e w1 ⟨rfl, rfl⟩
    go_wp2
    go_loop [4, 5] (fun n i => ∃ k m : Nat, k ≤ c.size ∧ m ≤ k ∧ n = .int .i64 m ∧ i = .int .i64 k ∧ Hid (m = cnt (c.data.toList.take k))) (fun _ i => c.size - (intOf i).toNat)
    case atStart => exact ⟨0, 0, Nat.zero_le _, Nat.le_refl _, rfl, rfl, rfl⟩
    case round =>
      obtain ⟨k, m, hk, hm, rfl, rfl, HM⟩ := hrel
      by_cases hlt : k < c.size
      · have HS : Hid (c.data.toList.take (k + 1) = c.data.toList.take k ++ [c[k]]) := take_snoc c k hlt
        by_cases hx : c[k] = 120
        · have hcn : (c[k].toNat : Int) = 120 := by rw [hx]; rfl
          have HP : Hid (m + 1 = cnt (c.data.toList.take (k + 1))) := by show _ = _; rw [HS.out, cnt_snoc, ← HM.out, hx, if_pos rfl]
          clear hx
          go_wp2
          go_round
          case rel => exact ⟨k + 1, m + 1, by omega, by omega, by go_num, by go_num, HP⟩
          case measure => simp [intOf]; omega
        · have hcn : ((c[k].toNat : Int) == 120) = false := by
            rw [beq_eq_false_iff_ne]; intro h; exact hx (UInt8.toNat.inj (by simp; omega))
          have HP : Hid (m = cnt (c.data.toList.take (k + 1))) := by show _ = _; rw [HS.out, cnt_snoc, ← HM.out, if_neg hx, Nat.add_zero]
          clear hx
          go_wp2
          go_round
          case rel => exact ⟨k + 1, m, by omega, by omega, rfl, by go_num, HP⟩
          case measure => simp [intOf]; omega
      · have hkk : k = c.size := by omega
        subst hkk
        have HE : Hid (m = cnt c.data.toList) := by
          have := HM.out
          rw [List.take_of_length_le (by simp)] at this
          exact this
        go_wp2
        go_ret2
        exact ⟨by rw [← HE.out]; rfl, rfl⟩

/-- All headers of a width. -/
def everyC (n : Int) : ByteArray := if 1 ≤ n ∧ n ≤ 128 then ⟨(List.replicate n.toNat 120).toArray⟩ else ByteArray.empty
def errE (n : Int) : Int := if 1 ≤ n ∧ n ≤ 128 then 0 else 1

set_option maxHeartbeats 400000 in
theorem Every_any (n : Int) (w : World) : Calls Try.prog 8 #[.int .i64 n] w fun e w' => e = .returned (.tuple #[.string (everyC n), .int .i64 (errE n)]) ∧ Below w.heap.size w w' := by
  by_cases h1 : n < 1
  · have e1 : everyC n = ByteArray.empty := if_neg (by omega)
    have e2 : errE n = 1 := if_neg (by omega)
    rw [e1, e2]
    clear e1 e2
    go_enter Try.func8, Try.ntmps8
    go_wp2
    go_ret2
    exact ⟨rfl, Below.refl _ _⟩
  · by_cases h2 : 128 < n
    · have e1 : everyC n = ByteArray.empty := if_neg (by omega)
      have e2 : errE n = 1 := if_neg (by omega)
      rw [e1, e2]
      clear e1 e2
      go_enter Try.func8, Try.ntmps8
      go_wp2
      go_ret2
      exact ⟨rfl, Below.refl _ _⟩
    · obtain ⟨m, rfl⟩ : ∃ m : Nat, n = (m : Int) := ⟨n.toNat, by omega⟩
      have e1 : everyC (m : Int) = ⟨(List.replicate m 120).toArray⟩ := if_pos (by omega)
      have e2 : errE (m : Int) = 0 := if_pos (by omega)
      rw [e1, e2]
      clear e1 e2
      go_enter Try.func8, Try.ntmps8
      go_wp2_with fail
      refine (Repeat_x m w (by omega)).mono ?_
      rintro e w1 ⟨rfl, hb1⟩
      go_wp2
      go_ret2
      exact ⟨rfl, hb1⟩
end Go.Proofs.Ytenlmigdlibgeaa
