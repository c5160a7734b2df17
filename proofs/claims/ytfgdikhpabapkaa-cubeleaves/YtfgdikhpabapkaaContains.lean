/-
  strings.Contains of a text and the one byte x.
-/
import Derived.Test.YtfgdikhpabapkaaLCuts
import Derived.Lib.Bytealg
import Derived.Lib.IndexAny
namespace Go.Proofs.Ytfgdikhpabapkaa
open Go.RowKit

theorem run_indexByte (s : ByteArray) (c : Int) (w : World) : (callFunc 50 #[.string s, .int .u8 c]).run Try.prog w = .ok (.value (.int .i64 (Lib.indexByte s.data.toList c.toNat.toUInt8))) w := by
  rw [run_callFunc_extern Try.func50 (by kernel_rfl) (by kernel_rfl) (by kernel_rfl) (e := Extern.BytealgIndexByte.indexByte) (by kernel_rfl), Lib.run_indexByteString]
  rfl

set_option maxHeartbeats 400000 in
theorem Contains_x (s : ByteArray) (w : World) :
    Calls Try.prog 34 #[.string s, .string ⟨#[120]⟩] w fun e w' => e = .returned (.bool (s.data.toList.contains 120)) ∧ w' = w := by
  rw [Lib.contains_iff_indexByte]
  have hx : ∀ w : World, (callFunc 50 #[.string s, .int .u8 (((⟨#[120]⟩ : ByteArray)[0]'(by decide)).toNat : Int)]).run Try.prog w = .ok (.value (.int .i64 (Lib.indexByte s.data.toList 120))) w := run_indexByte s 120
  by_cases he : [120] = s.toList
  · have hb : ([120] == s.toList) = true := by rw [← he]; rfl
    have hd : decide (0 ≤ Lib.indexByte s.data.toList 120) = true := by
      rw [ByteArray.toList_eq] at he
      rw [← he]; rfl
    rw [hd]
    clear he hd
    go_enter Try.func34, Try.ntmps34
    go_wp2
    go_ret
    exact ⟨rfl, rfl⟩
  · have hb : ([120] == s.toList) = false := beq_eq_false_iff_ne.2 he
    clear he
    go_enter Try.func34, Try.ntmps34
    go_wp2
    go_ret
    exact ⟨rfl, rfl⟩
end Go.Proofs.Ytfgdikhpabapkaa
