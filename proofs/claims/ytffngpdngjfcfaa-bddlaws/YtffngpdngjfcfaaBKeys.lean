/-
  Keys of the maps of package bdd: nodes, three numbers in a row, numbers.
-/
import Derived.Test.YtffngpdngjfcfaaProg
import Derived.Test.YtffngpdngjfcfaaBMap
import Derived.DeepKeys5
namespace Go.Proofs.Ytffngpdngjfcfaa
open Go.RowKit Go.Maps

abbrev i6 (n : Nat) : Value := .int .i64 (n : Int)
theorem Try.laidOut : laidOutB Try.prog = true := by kernel_rfl
theorem kNode : Keyed Try.prog 82 := Keyed.of_law (deep_law_gate Try.laidOut (of_decide_eq_true (by kernel_rfl)) (of_decide_eq_true (by kernel_rfl)) (by kernel_rfl) (by kernel_rfl))
theorem kArr : Keyed Try.prog 91 := Keyed.of_law (deep_law_gate Try.laidOut (of_decide_eq_true (by kernel_rfl)) (of_decide_eq_true (by kernel_rfl)) (by kernel_rfl) (by kernel_rfl))
theorem kInt : Keyed Try.prog 3 := int_keyed Try.underlying3

theorem wf64 {n : Nat} (h : n < 9223372036854775808) : (Lit.int .i64 (n : Int)).wf = true := WalkArith.wf_i64 (by omega)

theorem lits_int (d : Nat) {n : Nat} (h : n < 9223372036854775808) : Try.prog.keyLits (d + 1) 3 [i6 n] = some [.int .i64 (n : Int)] := by
  unfold Program.keyLits
  simp [Try.underlying3, wf64 h]
theorem Try.types_pos : ∃ d, Try.prog.types.size = d + 1 := ⟨Try.prog.types.size - 1, by have : 0 < Try.prog.types.size := of_decide_eq_true (by kernel_rfl); omega⟩
theorem Try.cells_int : Try.prog.cellsOf 3 = 1 := by kernel_rfl
theorem Try.cells_node : Try.prog.cellsOf 82 = 3 := by kernel_rfl
theorem Try.cells_arr : Try.prog.cellsOf 91 = 3 := by kernel_rfl
theorem cells_agg3 (a b c : Value) : (Value.agg #[a, b, c]).cells.toList = [a, b, c] := rfl
theorem key_node {a b c : Nat} (ha : a < 9223372036854775808) (hb : b < 9223372036854775808) (hc : c < 9223372036854775808) : ∃ kl, keyOf Try.prog 82 (.agg #[i6 a, i6 b, i6 c]) = some kl := by
  have hf : (Value.agg #[i6 a, i6 b, i6 c]).formed Try.prog 82 = true := by kernel_rfl
  have hk : Try.prog.keyType 82 = true := by kernel_rfl
  obtain ⟨d, hd⟩ := Try.types_pos
  unfold keyOf
  simp only [Try.underlying82, hf, hk, Bool.and_self, if_true]
  unfold Program.keyLits
  have h1 := lits_int d ha
  have h2 := lits_int d hb
  have h3 := lits_int d hc
  simp [Try.underlying82, cells_agg3, Try.cells_node, Try.cells_int, hd, h1, h2, h3]
theorem key_arr {a b c : Nat} (ha : a < 9223372036854775808) (hb : b < 9223372036854775808) (hc : c < 9223372036854775808) : ∃ kl, keyOf Try.prog 91 (.agg #[i6 a, i6 b, i6 c]) = some kl := by
  have hf : (Value.agg #[i6 a, i6 b, i6 c]).formed Try.prog 91 = true := by kernel_rfl
  have hk : Try.prog.keyType 91 = true := by kernel_rfl
  obtain ⟨d, hd⟩ := Try.types_pos
  unfold keyOf
  simp only [Try.underlying91, hf, hk, Bool.and_self, if_true]
  unfold Program.keyLits
  have h1 := lits_int d ha
  have h2 := lits_int d hb
  have h3 := lits_int d hc
  simp [Try.underlying91, cells_agg3, Try.cells_arr, Try.cells_int, hd, h1, h2, h3, List.range_succ]
theorem key_int {a : Nat} (ha : a < 9223372036854775808) : ∃ kl, keyOf Try.prog 3 (i6 a) = some kl := ⟨_, keyOf_int_mk Try.underlying3 (wf64 ha)⟩
theorem zero_int (w : World) : (zeroValue 3).run Try.prog w = .ok (.int .i64 0) w := by kernel_rfl
theorem zero_ref (w : World) : (zeroValue 25).run Try.prog w = .ok (.int .i64 0) w := by kernel_rfl
end Go.Proofs.Ytffngpdngjfcfaa
