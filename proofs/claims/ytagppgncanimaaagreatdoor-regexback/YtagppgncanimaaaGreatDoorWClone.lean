/-
  strings.Clone.
-/
import Derived.Test.YtagppgncanimaaaGreatDoorWMathAnd
namespace Go.Proofs.YtagppgncanimaaaGreatDoor
open Go.RowKit

theorem Tryz.infoU8 : (Tryz.prog.info? 5).map (fun i => (i.zero, i.size, i.bytes)) = some (some (.int .u8 0), 1, 1) := by kernel_rfl
theorem Tryz.sizeU8 : ∀ w, (Go.sizeOf 5).run Tryz.prog w = .ok 1 w := fun w => by kernel_rfl
theorem Tryz.cellsU8 : Tryz.prog.cellsOf 5 = 1 := by kernel_rfl

/-- The bytes of a text as cells. -/
abbrev cellsOf (s : ByteArray) : List Value := s.data.toList.map fun x => Value.int .u8 (x.toNat : Int)

set_option maxHeartbeats 1000000 in
theorem clone_any (s : ByteArray) (w : World) (h0 : 0 < s.size) (hs : s.size ≤ 1048576) :
    Calls Tryz.prog 100 #[.string s] w fun e w' => e = .returned (.string s) ∧ Below w.heap.size w w' := by
  have hmk := run_make_row' (P := Tryz.prog) 85 5 (.int .u8 0) 1 Tryz.underlying85 Tryz.infoU8 rfl .i64 .i64 s.size (by omega) (by omega)
  have hblk : (w.alloc (.cells (madeCells #[.int .u8 0] s.size) 5)).heap[w.heap.size]? = some (.cells (madeCells #[.int .u8 0] s.size) 5 (0, 0)) := new_0 _ _
  have hsome : ∀ j, j < s.size → ((w.alloc (.cells (madeCells #[.int .u8 0] s.size) 5)).cell? ⟨w.heap.size, 0 + j, none⟩).isSome = true := fun j hj => by
      obtain ⟨v, hv⟩ := cells_some hblk (x := 0 + j) (by rw [size_madeCells]; omega)
      rw [hv]; rfl
  have hcp : ∀ ty, _ := fun ty => run_copy_string (P := Tryz.prog) (w.alloc (.cells (madeCells #[.int .u8 0] s.size) 5)) 85 9 ty 5 w.heap.size 0 s.size s.size s Tryz.underlying85 Tryz.sizeU8 (Nat.le_refl _) hsome (fun j _ => free_of hblk)
  have hb2 := block_setCells (cellsOf s) 0 _ _ hblk
  have hus : ∀ ty, _ := fun ty => Lib.run_unsafeString_row (P := Tryz.prog) ((w.alloc (.cells (madeCells #[.int .u8 0] s.size) 5)).setCells w.heap.size 0 (cellsOf s)) 128 3 ty 5 Tryz.underlying128 Tryz.cellsU8 w.heap.size s.size
    (by rw [shape_at hb2, setAll_size, size_madeCells]) s.data.toList (fun e => by rw [Lib.size_eq, e] at h0; exact absurd h0 (by simp)) (by rw [list_size]; exact Nat.le_refl _) (by rw [list_size]; omega) (fun j x hx => by
      have hj : j < s.data.toList.length := (List.getElem?_eq_some_iff.1 hx).1
      have := World.cell?_setCells_in w.heap.size (cellsOf s) 0 (w.alloc (.cells (madeCells #[.int .u8 0] s.size) 5)) (fun i hi => hsome i (by simpa [list_size] using hi)) j (by simpa using hj)
      have ea : (⟨w.heap.size, 0, none⟩ : Addr).add j = ⟨w.heap.size, 0 + j, none⟩ := by simp [Addr.add]; intro h; exact h.symm
      rw [ea, this]
      congr 1
      have e : s.data.toList[j] = x := (List.getElem?_eq_some_iff.1 hx).2
      simp only [List.getElem_map, e])
  rw [list_size] at hus
  have hnz : ((s.size : Int) == 0) = false := by rw [beq_eq_false_iff_ne]; omega
  have hI : (0 : Int) < (s.size : Int) := by omega
  clear hsome hblk
  go_enter Tryz.func100, Tryz.ntmps100
  go_wp2
  go_ret
  exact ⟨rfl, Lib.below_freeze (below_setCells (Nat.le_refl _) _ _ _ ((Below.refl _ _).alloc (Nat.le_refl _) _)) (p := ⟨w.heap.size, 0, none⟩) (Nat.le_refl _) _⟩

set_option maxHeartbeats 400000 in
theorem Clone_any (s : ByteArray) (w : World) (h0 : 0 < s.size) (hs : s.size ≤ 1048576) :
    Calls Tryz.prog 71 #[.string s] w fun e w' => e = .returned (.string s) ∧ Below w.heap.size w w' := by
  go_enter Tryz.func71, Tryz.ntmps71
  go_wp2_with (go_at_call 100; refine (clone_any s _ h0 hs).mono ?_; rintro e w' ⟨rfl, hb⟩)
  go_ret
  exact ⟨rfl, hb⟩
end Go.Proofs.YtagppgncanimaaaGreatDoor
