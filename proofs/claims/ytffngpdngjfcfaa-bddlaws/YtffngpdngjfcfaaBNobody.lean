/-
  A table that New did not make: each method answers ErrNil.
-/
import Derived.Test.YtffngpdngjfcfaaBAns
namespace Go.Proofs.Ytffngpdngjfcfaa
open Go.RowKit Go.Maps

/-- No table, or one that New did not make. -/
def Nobody (w : World) (p : Value) : Prop := p = .pointer none ∨ ∃ g, p = .pointer (some ⟨g, 0, none⟩) ∧ w.cell? ⟨g, 7, none⟩ = some (.pointer none)
theorem Nobody.below {w w' : World} {p : Value} (h : Nobody w p) (hb : Below w.heap.size w w') : Nobody w' p := by
  rcases h with h | ⟨g, h, hc⟩
  · exact Or.inl h
  · exact Or.inr ⟨g, h, by rw [hb.cell (World.block_lt_of_cell? w _ hc)]; exact hc⟩
theorem eql_none (w : World) (a : Addr) : (binOp .eql 23 (.pointer none) (.pointer (some a))).run Try.prog w = .ok (.bool false) w := by
  have h : ∀ d : Nat, (Op.equalIn (d + 1) 23 (.pointer none) (.pointer (some a))).run Try.prog w = .ok false w := fun d => by
    simp [Op.equalIn, run_underlying Try.underlying23, sizeOf, typeInfo]
  simp only [binOp]
  simp [Op.equal, Op.maxDepth, h 9999]
theorem made_no {w : World} {p : Value} (h : Nobody w p) : Calls Try.prog 57 #[p] w fun e w' => e = .returned (.bool false) ∧ w' = w := by
  rcases h with rfl | ⟨g, rfl, c7⟩
  · go_enter Try.func57, Try.ntmps57
    go_wp2
    go_ret
    exact ⟨rfl, rfl⟩
  · have hq := eql_none w
    go_enter Try.func57, Try.ntmps57
    go_wp2
    go_ret
    exact ⟨rfl, rfl⟩

theorem Nobody.pointer {w : World} {p : Value} (h : Nobody w p) : ∃ a, p = .pointer a := by
  rcases h with h | ⟨g, h, _⟩
  · exact ⟨_, h⟩
  · exact ⟨_, h⟩

set_option maxHeartbeats 400000 in
theorem Bits_no {w : World} {p : Value} (h : Nobody w p) : Calls Try.prog 35 #[p] w fun e w' => e = .returned (.int .i64 0) ∧ w' = w := by
  have q := made_no h
  obtain ⟨a, rfl⟩ := h.pointer
  clear h
  go_enter Try.func35, Try.ntmps35
  go_wp2_with fail
  refine q.mono ?_
  rintro e w' ⟨rfl, rfl⟩
  go_wp2
  go_ret
  exact ⟨rfl, rfl⟩
set_option maxHeartbeats 400000 in
theorem Size_no {w : World} {p : Value} (h : Nobody w p) : Calls Try.prog 30 #[p] w fun e w' => e = .returned (.int .i64 0) ∧ w' = w := by
  have q := made_no h
  obtain ⟨a, rfl⟩ := h.pointer
  clear h
  go_enter Try.func30, Try.ntmps30
  go_wp2_with fail
  refine q.mono ?_
  rintro e w' ⟨rfl, rfl⟩
  go_wp2
  go_ret
  exact ⟨rfl, rfl⟩

set_option maxHeartbeats 400000 in
theorem Cube_no {w : World} {p : Value} (h : Nobody w p) (t : ByteArray) : Calls Try.prog 25 #[p, .string t] w fun e w' => ∃ r, e = .returned (.tuple #[r, .int .i64 4]) ∧ Below w.heap.size w w' := by
  have hb : Below w.heap.size w ((w.alloc (.cells #[p] 23)).alloc (.cells #[.string t] 9)) := ((Below.refl _ _).alloc (Nat.le_refl _) _).alloc (by simp) _
  have q := made_no (h.below hb)
  have HB := keep hb
  obtain ⟨a, rfl⟩ := h.pointer
  clear h hb
  go_enter Try.func25, Try.ntmps25
  go_wp2_with fail
  refine q.mono ?_
  rintro e w' ⟨rfl, rfl⟩
  go_wp2
  go_ret2
  exact ⟨_, rfl, HB.out⟩
set_option maxHeartbeats 400000 in
theorem Make_no {w : World} {p : Value} (h : Nobody w p) (ao : Option Addr) (len cap : Nat) : Calls Try.prog 28 #[p, .slice ao len cap] w fun e w' => ∃ r n, e = .returned (.tuple #[r, n, .int .i64 4]) ∧ Below w.heap.size w w' := by
  have hb : Below w.heap.size w ((w.alloc (.cells #[p] 23)).alloc (.cells #[.slice ao len cap] 46)) := ((Below.refl _ _).alloc (Nat.le_refl _) _).alloc (by simp) _
  have q := made_no (h.below hb)
  have HB := keep hb
  obtain ⟨a, rfl⟩ := h.pointer
  clear h hb
  go_enter Try.func28, Try.ntmps28
  go_wp2_with fail
  refine q.mono ?_
  rintro e w' ⟨rfl, rfl⟩
  go_wp2
  go_ret3
  exact ⟨_, _, rfl, HB.out⟩
set_option maxHeartbeats 400000 in
theorem root_no {w : World} {p : Value} (h : Nobody w p) (v : Value) : Calls Try.prog 41 #[p, v] w fun e w' => e = .returned (.tuple #[.int .i64 0, .int .i64 4]) ∧ w' = w := by
  have q := made_no h
  obtain ⟨a, rfl⟩ := h.pointer
  clear h
  go_enter Try.func41, Try.ntmps41
  go_wp2_with fail
  refine q.mono ?_
  rintro e w' ⟨rfl, rfl⟩
  go_wp2
  go_ret2
  exact ⟨rfl, rfl⟩

/-- What follows a root that none has. -/
def RootErr (w : World) (p v : Value) (err : Int) : Prop := Calls Try.prog 41 #[p, v] w fun e w' => e = .returned (.tuple #[.int .i64 0, .int .i64 err]) ∧ Below w.heap.size w w'
theorem root_err_no {w : World} {p : Value} (h : Nobody w p) (v : Value) : RootErr w p v 4 := (root_no h v).mono fun e w' ⟨h1, h2⟩ => ⟨h1, by rw [h2]; exact Below.refl _ _⟩

set_option maxHeartbeats 400000 in
theorem Has_err {w : World} {p : Value} {err : Int} (he : err = 4 ∨ err = 22) (r : Int) (h : RootErr w p (.int .i64 r) err) (t : ByteArray) : Calls Try.prog 14 #[p, .int .i64 r, .string t] w fun e w' => ∃ r, e = .returned (.tuple #[r, .int .i64 err]) ∧ Below w.heap.size w w' := by
  have hn : (err != 0) = true := by rcases he with rfl | rfl <;> rfl
  have H := keep h
  clear h
  go_enter Try.func14, Try.ntmps14
  go_wp2_with fail
  refine H.out.mono ?_
  rintro e w' ⟨rfl, hb⟩
  go_wp2
  go_ret2
  exact ⟨_, rfl, hb⟩
set_option maxHeartbeats 400000 in
theorem Any_err {w : World} {p : Value} {err : Int} (he : err = 4 ∨ err = 22) (r : Int) (h : RootErr w p (.int .i64 r) err) : Calls Try.prog 26 #[p, .int .i64 r] w fun e w' => ∃ r s, e = .returned (.tuple #[r, s, .int .i64 err]) ∧ Below w.heap.size w w' := by
  have hn : (err != 0) = true := by rcases he with rfl | rfl <;> rfl
  have H := keep h
  clear h
  go_enter Try.func26, Try.ntmps26
  go_wp2_with fail
  refine H.out.mono ?_
  rintro e w' ⟨rfl, hb⟩
  go_wp2
  go_ret3
  exact ⟨_, _, rfl, hb⟩
set_option maxHeartbeats 400000 in
theorem Cubes_err {w : World} {p : Value} {err : Int} (he : err = 4 ∨ err = 22) (r m : Int) (h : RootErr w p (.int .i64 r) err) : Calls Try.prog 24 #[p, .int .i64 r, .int .i64 m] w fun e w' => ∃ r, e = .returned (.tuple #[r, .int .i64 err]) ∧ Below w.heap.size w w' := by
  have hn : (err != 0) = true := by rcases he with rfl | rfl <;> rfl
  have H := keep h
  clear h
  go_enter Try.func24, Try.ntmps24
  go_wp2_with fail
  refine H.out.mono ?_
  rintro e w' ⟨rfl, hb⟩
  go_wp2
  go_ret2
  exact ⟨_, rfl, hb⟩
set_option maxHeartbeats 400000 in
theorem List_err {w : World} {p : Value} {err : Int} (he : err = 4 ∨ err = 22) (r : Int) (h : RootErr w p (.int .i64 r) err) : Calls Try.prog 27 #[p, .int .i64 r] w fun e w' => ∃ r, e = .returned (.tuple #[r, .int .i64 err]) ∧ Below w.heap.size w w' := by
  have hn : (err != 0) = true := by rcases he with rfl | rfl <;> rfl
  have H := keep h
  clear h
  go_enter Try.func27, Try.ntmps27
  go_wp2_with fail
  refine H.out.mono ?_
  rintro e w' ⟨rfl, hb⟩
  go_wp2
  go_ret2
  exact ⟨_, rfl, hb⟩
end Go.Proofs.Ytffngpdngjfcfaa
