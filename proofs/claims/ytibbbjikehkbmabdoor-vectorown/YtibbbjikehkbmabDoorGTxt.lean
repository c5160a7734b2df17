/-
  A stamp's text, where its numbers are small; strings.Join.
-/
import Derived.Test.YtibbbjikehkbmabDoorTLay
import Derived.Test.YtibbbjikehkbmabDoorGDev
namespace Go.Proofs.YtibbbjikehkbmabDoor.Ve
open Go.RowKit

abbrev txV (l : List UInt8) : ByteArray := ⟨l.toArray⟩
theorem Tryd.fSmall : Tryd.laysSmall_ren.f 283 = 64 := by kernel_rfl
theorem Tryd.fItoaS : Tryd.laysItoaS_ren.f 171 = 37 := by kernel_rfl
theorem Tryd.fJoin : Tryd.laysJoin_ren.f 156 = 27 := by kernel_rfl
theorem small_any (i : Nat) (hi : i < 100) (w : World) : Calls Tryd.prog 64 #[.int .i64 i] w fun e w' => e = .returned (.string (txV (Lib.decDigits i))) ∧ w' = w := by
  have h := Any.internal_strconv_small Tryd.laysSmall i hi w
  rw [Tryd.fSmall] at h
  exact h
theorem itoa_small (i : Nat) (hi : i < 100) (w : World) : Calls Tryd.prog 37 #[.int .i64 i] w fun e w' => e = .returned (.string (txV (Lib.decDigits i))) ∧ w' = w := by
  have h := Any.strconv_Itoa_small Tryd.laysItoaS i hi w
  rw [Tryd.fItoaS] at h
  exact h
theorem fmtI_small (u : Nat) (hu : u < 100) (w : World) : Calls Tryd.prog 50 #[.int .u64 u, .int .i64 10] w fun e w' => e = .returned (.string (txV (Lib.decDigits u))) ∧ w' = w := by
  have HS := hid (fun w => small_any u hu w)
  have huI : (u : Int) < 100 := by omega
  have hw : IntKind.i64.wrap (u : Int) = (u : Int) := by rw [IntKind.wrap_i64]; omega
  go_enter Tryd.func50, Tryd.ntmps50
  go_wp2_with (first | (go_at_call 64; refine (HS.out _).mono ?_; rintro e w' ⟨rfl, e'⟩; have ew := e'.symm; clear e'; subst ew))
  go_ret
  exact ⟨rfl, rfl⟩
theorem fmt_small (u : Nat) (hu : u < 100) (w : World) : Calls Tryd.prog 38 #[.int .u64 u, .int .i64 10] w fun e w' => e = .returned (.string (txV (Lib.decDigits u))) ∧ w' = w := by
  have HS := hid (fun w => fmtI_small u hu w)
  go_enter Tryd.func38, Tryd.ntmps38
  go_wp2_with (first | (go_at_call 50; refine (HS.out _).mono ?_; rintro e w' ⟨rfl, e'⟩; have ew := e'.symm; clear e'; subst ew))
  go_ret
  exact ⟨rfl, rfl⟩
/-- A stamp's text. -/
def stT (s : Nat × Nat) : List UInt8 := Lib.decDigits s.1 ++ 58 :: Lib.decDigits s.2
theorem txV_add (a b : List UInt8) : txV a ++ txV b = txV (a ++ b) := by
  apply ByteArray.ext
  rw [ByteArray.data_append]
  simp
theorem dec_two {n : Nat} (h : n < 100) : (Lib.decDigits n).length ≤ 2 := by
  have key : ∀ k : Fin 100, (Lib.decDigits k.1).length ≤ 2 := by decide +kernel
  exact key ⟨n, by omega⟩
set_option maxRecDepth 20000 in
set_option maxHeartbeats 2000000 in
theorem textOf_small (d u : Nat) (hd : d < 100) (hu : u < 100) (w : World) : Calls Tryd.prog 26 #[.agg #[.int .i64 d, .int .u64 u]] w fun e w' => e = .returned (.string (txV (stT (d, u)))) ∧ Below w.heap.size w w' := by
  have HI := hid (fun w => itoa_small d hd w)
  have HU := hid (fun w => fmt_small u hu w)
  have hl1 := dec_two hd
  have hl2 := dec_two hu
  go_enter Tryd.func26, Tryd.ntmps26
  go_wp2_with fail
  go_quiet (first | (go_at_call 37; exact Calls.quiet_of_same (HI.out _)) | (go_at_call 38; exact Calls.quiet_of_same (HU.out _)))
  go_wp2
  go_ret
  refine ⟨?_, below_drewN (below_al _ _)⟩
  show Ending.returned (.string (txV (Lib.decDigits d) ++ txV [58] ++ txV (Lib.decDigits u))) = _
  rw [txV_add, txV_add, List.append_assoc]
  rfl
end Go.Proofs.YtibbbjikehkbmabDoor.Ve
