/-
  New: an empty table.
-/
import Derived.Test.YtffngpdngjfcfaaBCube
namespace Go.Proofs.Ytffngpdngjfcfaa
open Go.RowKit Go.Maps
open Bd (Nd)

theorem make_zero (w : World) : (Instr.makeMap 47 (some (.int .i64 0))).run Try.prog w = .ok (.map (some w.heap.size)) (w.alloc (.map #[] 0)) := by kernel_rfl

set_option maxHeartbeats 1000000 in
/-- put of nothing, where there is no map yet. -/
theorem put_nil (w : World) (tb : Nat) (c4 : w.cell? ⟨tb, 4, none⟩ = some (.map none)) (fz : w.frozen? ⟨tb, 4, none⟩ = false) :
    Calls Try.prog 40 #[.pointer (some ⟨tb, 3, none⟩), .slice none 0 0] w fun e w' => e = .returned (.tuple #[]) ∧ w' = (w.alloc (.map #[] 0)).setCell ⟨tb, 4, none⟩ (.map (some w.heap.size)) := by
  have qT : ∀ (w : World) (r : Option Nat), (binOp .eql 47 (.map r) (.map none)).run Try.prog w = .ok (.bool r.isNone) w := fun w r => run_eql_map_nil w _ _ _ r Try.underlying47
  have hmz := make_zero
  have ltb : tb < w.heap.size := World.block_lt_of_cell? w _ c4
  have c4a : ∀ o, (w.alloc o).cell? ⟨tb, 4, none⟩ = some (.map none) := fun o => by rw [World.cell?_of_block (heap_alloc_old w o ltb)]; exact c4
  have fza : ∀ o, (w.alloc o).frozen? ⟨tb, 4, none⟩ = false := fun o => by rw [World.frozen?_of_block (heap_alloc_old w o ltb)]; exact fz
  go_enter Try.func40, Try.ntmps40
  go_wp2
  go_loop [19] (fun i => i = .int .i64 0) (fun _ => 0)
  case atStart => rfl
  case round =>
    subst hrel
    go_wp2
    go_end0
    exact ⟨rfl, rfl⟩

theorem new_tab (w : World) (bits limit : Nat) (hb : 1 ≤ bits) (hb2 : bits ≤ 128) (hl : limit ≤ 1048576) :
    Tab (((w.alloc (.cells #[.int .i64 2, .slice none 0 0, .map (some (w.heap.size + 1)), .slice none 0 0, .map (some (w.heap.size + 1 + 1)), i6 bits, i6 limit, .pointer (some ⟨w.heap.size, 0, none⟩)] 51)).alloc (.map #[] 0)).alloc (.map #[] 0)).drew
      ⟨w.heap.size, w.heap.size + 1 + 1, w.heap.size + 1, .slice none 0 0, .slice none 0 0⟩ ⟨[], [], 2, bits, limit⟩ := by
  generalize ho : Obj.cells #[.int .i64 2, .slice none 0 0, .map (some (w.heap.size + 1)), .slice none 0 0, .map (some (w.heap.size + 1 + 1)), i6 bits, i6 limit, .pointer (some ⟨w.heap.size, 0, none⟩)] 51 = o
  have e1 : (w.alloc o).heap.size = w.heap.size + 1 := by simp
  have e2 : ((w.alloc o).alloc (.map #[] 0)).heap.size = w.heap.size + 1 + 1 := by simp
  have m1 := MapOf.new Try.prog 3 25 (w.alloc o)
  rw [e1] at m1
  have m2 := MapOf.new Try.prog 82 3 ((w.alloc o).alloc (.map #[] 0))
  rw [e2] at m2
  refine { cells := ?_, list := World.ownsRow_nil _ _ _ _, roots := World.ownsRow_nil _ _ _ _, nodes := ⟨fun _ => none, m2.same rfl, ?_⟩, refs := ⟨fun _ => none, m1.same ?_, ?_⟩, two := ?_, okay := Bd.Okay.nil hb2, small := ?_, valid := ?_ }
  · show (((w.alloc o).alloc (.map #[] 0)).alloc (.map #[] 0)).heap[w.heap.size]? = _
    rw [heap_alloc_old _ _ (by omega), heap_alloc_old _ _ (by omega), heap_alloc_new, ← ho]
    rfl
  · exact fun x => ⟨fun i h => by simp at h, fun _ => rfl⟩
  · show (((w.alloc o).alloc (.map #[] 0)).alloc (.map #[] 0)).heap[w.heap.size + 1]? = _
    rw [heap_alloc_old _ _ (by omega)]
  · exact fun x => ⟨fun i h => by simp at h, fun _ => rfl⟩
  · show w.heap.size + 1 + 1 ≠ w.heap.size + 1; omega
  · refine ⟨?_, ?_, ?_, hl, hb⟩
    · show 0 ≤ _; omega
    · show 0 ≤ _; omega
    · show 2 ≤ 1099511627776; omega
  · exact ⟨List.nodup_nil, fun n hn => by simp at hn⟩

set_option maxHeartbeats 2000000 in
theorem New_ok (w : World) (bits limit : Nat) (hb : 1 ≤ bits) (hb2 : bits ≤ 128) (hl : limit ≤ 1048576) :
    Calls Try.prog 13 #[i6 bits, i6 limit] w fun e w' => ∃ y, e = .returned (.tuple #[.pointer (some ⟨y.tb, 0, none⟩), .int .i64 0]) ∧ Tab w' y ⟨[], [], 2, bits, limit⟩ ∧ Below w.heap.size w w' ∧ (∀ k, y.own k → w.heap.size ≤ k) := by
  have h1 : ¬ ((bits : Int) < 1) := by omega
  have h2 : ¬ ((128 : Int) < (bits : Int)) := by omega
  have h3 : ¬ ((limit : Int) < 0) := by omega
  have h4 : ¬ ((1048576 : Int) < (limit : Int)) := by omega
  have hmm := @run_makeMap Try.prog
  have qT : ∀ (w : World) (r : Option Nat), (binOp .eql 47 (.map r) (.map none)).run Try.prog w = .ok (.bool r.isNone) w := fun w r => run_eql_map_nil w _ _ _ r Try.underlying47
  go_enter Try.func13, Try.ntmps13
  go_wp2
  go_region
  go_wp2
  go_end0
  go_wp2_with (first | (go_at_call 40; refine (put_nil _ w.heap.size (by go_simp) (by go_simp)).mono ?_; rintro e w1 ⟨rfl, rfl⟩))
  go_ret2
  refine ⟨⟨w.heap.size, w.heap.size + 1 + 1, w.heap.size + 1, .slice none 0 0, .slice none 0 0⟩, rfl, ?_, ?_, ?_⟩
  · exact new_tab w bits limit hb hb2 hl
  · exact ((((Below.refl _ _).alloc (Nat.le_refl _) _).alloc (by simp) _).alloc (by simp <;> omega) _).drew
  · intro k hk
    rcases hk with rfl | rfl | rfl | hk | hk
    · exact Nat.le_refl _
    · show w.heap.size ≤ w.heap.size + 1 + 1; omega
    · show w.heap.size ≤ w.heap.size + 1; omega
    · simp [Value.ownBlock] at hk
    · simp [Value.ownBlock] at hk
end Go.Proofs.Ytffngpdngjfcfaa
