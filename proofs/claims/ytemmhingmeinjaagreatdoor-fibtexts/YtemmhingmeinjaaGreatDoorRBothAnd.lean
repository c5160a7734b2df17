/-
  strings.Contains of a text and the one byte x.
-/
import Derived.Test.YtemmhingmeinjaaGreatDoorCutWAnd
import Derived.Deep.AppendLies
import Derived.Deep.RegionLaw
import Derived.Lib.Bytealg
import Derived.Lib.IndexAny
namespace Go.Proofs.YtemmhingmeinjaaGreatDoor.Cub
open Go.RowKit

def bv (l : List UInt8) : List Value := l.map fun c => .int .u8 (c.toNat : Int)
end Go.Proofs.YtemmhingmeinjaaGreatDoor.Cub
namespace Go.Proofs.YtemmhingmeinjaaGreatDoor.Cub
open Go.RowKit
attribute [local go_sem ↓] Go.wp_at_zero Go.wp_at_succ

theorem hid {p : Prop} (h : p) : Hid p := h

def svs (ls : List (List UInt8)) : List Value := ls.map sv
theorem svs_snoc (ls : List (List UInt8)) (l : List UInt8) : svs (ls ++ [l]) = svs ls ++ [sv l] := by simp [svs]

end Go.Proofs.YtemmhingmeinjaaGreatDoor.Cub
namespace Go.Proofs.YtemmhingmeinjaaGreatDoor.Cub
open Go.RowKit

end Go.Proofs.YtemmhingmeinjaaGreatDoor.Cub
namespace Go.Proofs.YtemmhingmeinjaaGreatDoor.Cub
open Go.RowKit

end Go.Proofs.YtemmhingmeinjaaGreatDoor.Cub
namespace Go.Proofs.YtemmhingmeinjaaGreatDoor.Cub
open Go.RowKit

theorem run_indexByte (s : ByteArray) (c : Int) (w : World) : (callFunc 199 #[.string s, .int .u8 c]).run Tryz.prog w = .ok (.value (.int .i64 (Lib.indexByte s.data.toList c.toNat.toUInt8))) w := by
  rw [run_callFunc_extern Tryz.func199 (by kernel_rfl) (by kernel_rfl) (by kernel_rfl) (e := Extern.BytealgIndexByte.indexByte) (by kernel_rfl), Lib.run_indexByteString]
  rfl

set_option maxRecDepth 8000 in
set_option maxHeartbeats 400000 in
theorem Contains_x (s : ByteArray) (w : World) :
    Calls Tryz.prog 126 #[.string s, .string ⟨#[120]⟩] w fun e w' => e = .returned (.bool (s.data.toList.contains 120)) ∧ w' = w := by
  rw [Lib.contains_iff_indexByte]
  have hx : ∀ w : World, (callFunc 199 #[.string s, .int .u8 (((⟨#[120]⟩ : ByteArray)[0]'(by decide)).toNat : Int)]).run Tryz.prog w = .ok (.value (.int .i64 (Lib.indexByte s.data.toList 120))) w := run_indexByte s 120
  by_cases he : [120] = s.toList
  · have hb : ([120] == s.toList) = true := by rw [← he]; rfl
    have hd : decide (0 ≤ Lib.indexByte s.data.toList 120) = true := by
      rw [ByteArray.toList_eq] at he
      rw [← he]; rfl
    rw [hd]
    clear he hd
    go_enter Tryz.func126, Tryz.ntmps126
    go_wp2
    go_ret
    exact ⟨rfl, rfl⟩
  · have hb : ([120] == s.toList) = false := beq_eq_false_iff_ne.2 he
    clear he
    go_enter Tryz.func126, Tryz.ntmps126
    go_wp2
    go_ret
    exact ⟨rfl, rfl⟩
end Go.Proofs.YtemmhingmeinjaaGreatDoor.Cub
