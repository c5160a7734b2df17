/-
  The reader of rules: a line's rule: the walk.
  The reader of rules: a line's rule.
  The reader of rules: an action's first word, the action.
  The reader of rules: the ports between brackets.
-/
import Derived.Test.YtipmlcdnfaobiaaGreatWRefSAnd
namespace Go.Proofs.YtipmlcdnfaobiaaGreat
open Go.RowKit
open Wo (Wd)

/-- What the ports come to, by what is still to be read. -/
def fin (r : Except Ru.Ft (Wd × List (List UInt8) × List Wd)) : Except Ru.Ft (List (List UInt8) × List Wd) := match r with
  | .error f => .error f
  | .ok (v, acc, t) => if 64 < (Ru.nrm acc).length then .error (Ru.ft v 3) else .ok (Ru.nrm acc, t)
section
variable {w wr : World} {rb g width : Nat} {l : List Wd} {e : Wd} {wb : Nat} {v : Value} {left : List Wd} {acc : List (List UInt8)} {x : Wd}
theorem svs_snoc (acc : List (List UInt8)) (nm : List UInt8) : svs (acc ++ [nm]) = svs acc ++ [.string (tx nm)] := by simp [svs]
theorem TxtAt.kept {w w' : World} {b : Nat} {zs : List (List UInt8)} (h : TxtAt w b zs) (he : w'.heap[b]? = w.heap[b]?) : TxtAt w' b zs := by
  obtain ⟨cs, h1, h2⟩ := h
  exact ⟨cs, he.trans h1, h2⟩
end

end Go.Proofs.YtipmlcdnfaobiaaGreat
namespace Go.Proofs.YtipmlcdnfaobiaaGreat
open Go.RowKit
open Wo (Wd)

set_option maxHeartbeats 400000 in
theorem portsOf_low (k : Nat) (h : k = 1 ∨ k = 2) (w : World) : Calls Tryz.prog 141 #[.int .i64 k] w fun e w' => e = .returned (.tuple #[.int .i64 0, .int .i64 0]) ∧ w' = w := by
  rcases h with rfl | rfl
  · go_enter Tryz.func141, Tryz.ntmps141
    go_wp2
    refine bodyPost_ret (v := .tuple #[.int .i64 0, .int .i64 0]) (by simp [results, Tryz.results141, go_sem]) rfl ⟨rfl, rfl⟩
  · go_enter Tryz.func141, Tryz.ntmps141
    go_wp2
    refine bodyPost_ret (v := .tuple #[.int .i64 0, .int .i64 0]) (by simp [results, Tryz.results141, go_sem]) rfl ⟨rfl, rfl⟩
set_option maxHeartbeats 400000 in
theorem portsOf_high (k : Nat) (h : k = 3 ∨ k = 4) (w : World) : Calls Tryz.prog 141 #[.int .i64 k] w fun e w' => e = .returned (.tuple #[.int .i64 1, .int .i64 64]) ∧ w' = w := by
  rcases h with rfl | rfl
  · go_enter Tryz.func141, Tryz.ntmps141
    go_wp2
    refine bodyPost_ret (v := .tuple #[.int .i64 1, .int .i64 64]) (by simp [results, Tryz.results141, go_sem]) rfl ⟨rfl, rfl⟩
  · go_enter Tryz.func141, Tryz.ntmps141
    go_wp2
    refine bodyPost_ret (v := .tuple #[.int .i64 1, .int .i64 64]) (by simp [results, Tryz.results141, go_sem]) rfl ⟨rfl, rfl⟩

/-- The ports of an action in memory. -/
def PortsV (w : World) (B : Nat) (v : Value) (ps : List (List UInt8)) : Prop := (ps = [] ∧ v = .slice none 0 0) ∨ ∃ b cap, v = .slice (some ⟨b, 0, none⟩) ps.length cap ∧ B ≤ b ∧ TxtAt w b ps
theorem PortsV.kept {w w' : World} {B : Nat} {v : Value} {ps : List (List UInt8)} (h : PortsV w B v ps) (hk : ∀ b cs, w.heap[b]? = some (.cells cs 9 (0, 0)) → B ≤ b → w'.heap[b]? = w.heap[b]?) : PortsV w' B v ps := by
  rcases h with h | ⟨b, cap, rfl, hb, cs, h1, h2⟩
  · exact Or.inl h
  · exact Or.inr ⟨b, cap, rfl, hb, cs, (hk b cs h1 hb).trans h1, h2⟩
theorem PortsV.form {w : World} {B : Nat} {v : Value} {ps : List (List UInt8)} (h : PortsV w B v ps) : ∃ ao n cap, v = .slice ao n cap := by
  rcases h with ⟨_, rfl⟩ | ⟨b, cap, rfl, _⟩
  · exact ⟨_, _, _, rfl⟩
  · exact ⟨_, _, _, rfl⟩
/-- An action in its block. -/
abbrev aob (k : Int) (v : Value) : Obj := .cells #[.int .i64 k, v] 42
end Go.Proofs.YtipmlcdnfaobiaaGreat
namespace Go.Proofs.YtipmlcdnfaobiaaGreat
open Go.RowKit
open Wo (Wd)

end Go.Proofs.YtipmlcdnfaobiaaGreat
namespace Go.Proofs.YtipmlcdnfaobiaaGreat
open Go.RowKit
open Wo (Wd)

/-- A rule in its block. -/
abbrev rob (p : Int) (m : ByteArray) (k : Int) (v : Value) : Obj := .cells #[.int .i64 p, .string m, .int .i64 k, v] 44
theorem PortsV.mono {w : World} {B B' : Nat} {v : Value} {ps : List (List UInt8)} (h : PortsV w B v ps) (hB : B' ≤ B) : PortsV w B' v ps := by
  rcases h with h | ⟨b, cap, rfl, hb, h⟩
  · exact Or.inl h
  · exact Or.inr ⟨b, cap, rfl, Nat.le_trans hB hb, h⟩
section
variable {width : Nat} {l : List Wd}
end
theorem rob_1 {w : World} {b : Nat} {p k : Int} {m : ByteArray} {v : Value} (h : w.heap[b]? = some (rob p m k v)) (p' : Int) : (w.setCell ⟨b, 0, none⟩ (.int .i64 p')).heap[b]? = some (rob p' m k v) := by rw [block_set (o := 0) _ h]; rfl
theorem rob_2 {w : World} {b : Nat} {p k : Int} {m : ByteArray} {v : Value} (h : w.heap[b]? = some (rob p m k v)) (m' : ByteArray) : (w.setCell ⟨b, 1, none⟩ (.string m')).heap[b]? = some (rob p m' k v) := by rw [block_set (o := 1) _ h]; rfl
theorem rob_3 {w : World} {b : Nat} {p k : Int} {m : ByteArray} {v : Value} (h : w.heap[b]? = some (rob p m k v)) (k' : Int) : (w.setCell ⟨b, 2, none⟩ (.int .i64 k')).heap[b]? = some (rob p m k' v) := by rw [block_set (o := 2) _ h]; rfl
theorem rob_4 {w : World} {b : Nat} {p k : Int} {m : ByteArray} {v : Value} (h : w.heap[b]? = some (rob p m k v)) (v' : Value) : (w.setCell ⟨b, 3, none⟩ v').heap[b]? = some (rob p m k v') := by rw [block_set (o := 3) _ h]; rfl
theorem rob_cells {w : World} {b : Nat} {p k : Int} {m : ByteArray} {v : Value} (h : w.heap[b]? = some (rob p m k v)) : w.cell? ⟨b, 0, none⟩ = some (.int .i64 p) ∧ w.cell? ⟨b, 1, none⟩ = some (.string m) ∧ w.cell? ⟨b, 2, none⟩ = some (.int .i64 k) ∧ w.cell? ⟨b, 3, none⟩ = some v ∧ w.frozen? ⟨b, 0, none⟩ = false ∧ w.frozen? ⟨b, 1, none⟩ = false ∧ w.frozen? ⟨b, 2, none⟩ = false ∧ w.frozen? ⟨b, 3, none⟩ = false :=
  ⟨by rw [cell_at h]; rfl, by rw [cell_at h]; rfl, by rw [cell_at h]; rfl, by rw [cell_at h]; rfl, free_of h, free_of h, free_of h, free_of h⟩
end Go.Proofs.YtipmlcdnfaobiaaGreat
