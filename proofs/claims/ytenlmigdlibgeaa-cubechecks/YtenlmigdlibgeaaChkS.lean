/-
  strings.Count at one byte, strings.Repeat of one byte: the library's contracts, laid at this program.
-/
import Derived.Test.YtenlmigdlibgeaaRows
import Derived.Test.YtenlmigdlibgeaaChkL
import Derived.Lib.Agree
namespace Go.Proofs.Ytenlmigdlibgeaa
open Go.Shelf Go.RowKit

theorem Try.extraRepeat : Builder.Extra Try.prog Try.laysRepeat_ren := {
  sizeBuilder := by kernel_rfl
  liesBuilder := by kernel_rfl
  t5 := Try.laysRepeat.t5
  a5 := Try.laysRepeat.a5
  z5 := Try.laysRepeat.z5
  v5 := Try.laysRepeat.v5
  infoByte := by kernel_rfl
  cellsByte := by kernel_rfl
  sizeByte := by kernel_rfl
  neB5 := by decide }

theorem Try.fRepeat : Try.laysRepeat_ren.f 105 = 14 := by kernel_rfl

theorem Repeat_x (n : Nat) (w : World) (hn : n ≤ 128) :
    Calls Try.prog 14 #[.string ⟨#[120]⟩, .int .i64 n] w fun e w' => e = .returned (.string ⟨(List.replicate n 120).toArray⟩) ∧ Below w.heap.size w w' := by
  have h := Any.strings_Repeat Try.laysRepeat Try.extraRepeat ⟨#[120]⟩ n w (by omega) (by show 1 * n ≤ _; omega)
  rw [Try.fRepeat] at h
  refine h.mono fun e w' ⟨he, hw⟩ => ⟨?_, hw⟩
  rw [he]
  have e : Lib.repeatL (ByteArray.mk #[120]).data.toList n = List.replicate n 120 := by
    have := Lib.repeatL_replicate 120 1 n
    rw [Nat.mul_one] at this
    exact this
  rw [e]

theorem Try.fCount : Try.laysCount_ren.f 138 = 13 := by kernel_rfl

/-- How many are free. -/
def cnt (l : List UInt8) : Nat := l.count 120
theorem cnt_snoc (l : List UInt8) (x : UInt8) : cnt (l ++ [x]) = cnt l + if x = 120 then 1 else 0 := by
  unfold cnt
  rw [List.count_append, List.count_singleton]
  simp only [beq_iff_eq]

theorem Count_x (s : ByteArray) (w : World) :
    Calls Try.prog 13 #[.string s, .string ⟨#[120]⟩] w fun e w' => e = .returned (.int .i64 (cnt s.data.toList : Int)) ∧ w' = w := by
  have h := Any.strings_Count_one Try.laysCount s 120 w
  rw [Try.fCount] at h
  exact h
end Go.Proofs.Ytenlmigdlibgeaa
