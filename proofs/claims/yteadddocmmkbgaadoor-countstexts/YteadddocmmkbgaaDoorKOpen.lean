/-
  Counts: numbers and sets that came in, as the contracts ask for them.
-/
import Derived.Test.YteadddocmmkbgaaDoorRows
import Derived.Test.YteadddocmmkbgaaDoorCards
import Derived.Test.YteadddocmmkbgaaDoorTie
import Derived.Test.YteadddocmmkbgaaDoorKAwake
import Derived.WalkKit
import Derived.ProofKit
import Derived.OpenShut
import Derived.ShutString
import Derived.Lay
import Derived.LaidOnce
import Derived.SevenTiedAt
import Derived.LaidSub
import Derived.MakeChecks
namespace Go.Proofs.YteadddocmmkbgaaDoor.Co
open Go.ChangeShapes Go.WideShapes Go.ChangeAt Go.RowKit

theorem laidOut : laidOutB Tryd.prog = true := by kernel_rfl
theorem own : ownKnob Tryd.prog.godebug = none := by kernel_rfl
/-- A row of numbers that came in. -/
theorem came_ints {H : Type} {enc : TypeId × Value → H} {W : World} {base fuel : Nat} {spare : Nat → Bool} {held : Bool} {a0 : Option Addr} {len cap : Nat} {x : DataW H × List MemPlace}
    (h : DataW.trod enc Tryd.prog W base spare held fuel 22 [.slice a0 len cap] = some x) :
    ∃ l : List Int, l.length = len ∧ len ≤ 9223372036854775807 ∧ IsIn W a0 l ∧ ∀ y ∈ l, y < 9223372036854775808 := by
  rcases open_ints Tryd.underlying22 Tryd.underlying3 (by kernel_rfl) h with ⟨hcs, _⟩ | ⟨a, l, c, zs, hcs, _, hle, hmx, hzs, _, hcell, hwf⟩
  · simp at hcs
    obtain ⟨rfl, rfl, rfl⟩ := hcs
    exact ⟨[], rfl, by omega, Or.inl rfl, by simp⟩
  · simp at hcs
    obtain ⟨rfl, rfl, rfl⟩ := hcs
    have hz : len ≤ zs.length := by rw [hzs]; split <;> omega
    refine ⟨zs.take len, by simp; omega, by simp [maxLen] at hmx; omega, ?_, fun y hy => ?_⟩
    · by_cases h0 : len = 0
      · left; subst h0; rfl
      · obtain ⟨b, off, rfl, hc⟩ := ints_at hcell (by omega)
        refine Or.inr ⟨b, off, rfl, ?_, fun j hj => ?_⟩
        · have := hc 0 (by omega)
          unfold World.cell? at this
          cases hh : W.heap[b]? with
          | none => simp [hh] at this
          | some o => exact (Array.getElem?_eq_some_iff.1 hh).1
        · rw [List.length_take] at hj
          rw [hc j (by omega), List.getD_eq_getElem?_getD, List.getD_eq_getElem?_getD, List.getElem?_take, if_pos (by omega)]
    · have := bounds_i64 (hwf y (List.mem_of_mem_take hy))
      omega
/-- A row of sets that came in. -/
theorem came_sets {H : Type} {enc : TypeId × Value → H} {W : World} {base fuel : Nat} {spare : Nat → Bool} {held : Bool} {a0 : Option Addr} {len cap : Nat} {x : DataW H × List MemPlace}
    (h : DataW.trod enc Tryd.prog W base spare held fuel 34 [.slice a0 len cap] = some x) :
    ∃ l : List Nat, l.length = len ∧ len ≤ 9223372036854775807 ∧ CsIn W a0 l ∧ ∀ y ∈ l, y < 18446744073709551616 := by
  rcases open_ints Tryd.underlying34 Tryd.underlying24 (by kernel_rfl) h with ⟨hcs, _⟩ | ⟨a, l, c, zs, hcs, _, hle, hmx, hzs, _, hcell, hwf⟩
  · simp at hcs
    obtain ⟨rfl, rfl, rfl⟩ := hcs
    exact ⟨[], rfl, by omega, Or.inl rfl, by simp⟩
  · simp at hcs
    obtain ⟨rfl, rfl, rfl⟩ := hcs
    have hz : len ≤ zs.length := by rw [hzs]; split <;> omega
    refine ⟨(zs.take len).map Int.toNat, by simp; omega, by simp [maxLen] at hmx; omega, ?_, fun y hy => ?_⟩
    · by_cases h0 : len = 0
      · left; subst h0; rfl
      · obtain ⟨b, off, rfl, hc⟩ := ints_at hcell (by omega)
        refine Or.inr ⟨b, off, rfl, ?_, fun j hj => ?_⟩
        · have := hc 0 (by omega)
          unfold World.cell? at this
          cases hh : W.heap[b]? with
          | none => simp [hh] at this
          | some o => exact (Array.getElem?_eq_some_iff.1 hh).1
        · rw [List.length_map, List.length_take] at hj
          have hjz : j < zs.length := by omega
          rw [hc j hjz, List.getD_eq_getElem?_getD, List.getD_eq_getElem?_getD, List.getElem?_map, List.getElem?_take, if_pos (by omega), List.getElem?_eq_getElem hjz]
          have := bounds_u64 (hwf zs[j] (List.getElem_mem hjz))
          show some (Value.int .u64 zs[j]) = some (Value.int .u64 (zs[j].toNat : Int))
          rw [Int.toNat_of_nonneg this.1]
    · obtain ⟨z, hz1, rfl⟩ := List.mem_map.1 hy
      have := bounds_u64 (hwf z (List.mem_of_mem_take hz1))
      omega
end Go.Proofs.YteadddocmmkbgaaDoor.Co
