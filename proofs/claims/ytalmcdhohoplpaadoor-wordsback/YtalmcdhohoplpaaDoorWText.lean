/-
  A text read line by line: read, and its deferred call that catches a fault.
-/
import Derived.Test.YtalmcdhohoplpaaDoorWRows
namespace Go.Proofs.YtalmcdhohoplpaaDoor
open Go.RowKit

theorem caught_not (r l p e : Addr) (w : World) :
    CallsD Tryd.prog 37 #[.pointer (some r), .pointer (some l), .pointer (some p), .pointer (some e)] .returning w fun x u' w' => x = .returned (.tuple #[]) ∧ u' = .returning ∧ w' = w := by
  refine callsD_of_wpS Tryd.func37 rfl fun c₀ cs hu => ?_
  apply wpS_seq
  apply wpS_region
  simp [wpOpsS, go_sem, recoverD, hu, Tryd.ntmps37, Exit.thenS]
  refine wpS_cond (t := false) (by simp [Act.eval, Array.replicate]) ?_
  simp only [Bool.false_eq_true, if_false]
  refine wpS_of_wp (wp_skip ?_)
  cases c₀
  simp_all [bodyPostS, results, Tryd.results37]

theorem caught (N n c : Nat) (u : List UInt8) (x y0 y1 z : Value) (pv : Value) (older : List PanicEntry) (w : World) (hr : Rd w (N + 3) n c u) (h0 : w.heap[N]? = some (.cells #[x] 22 (0, 0)))
    (h1 : w.heap[N + 1]? = some (.cells #[y0, y1] 49 (0, 0))) (h2 : w.heap[N + 2]? = some (.cells #[z] 23 (0, 0))) :
    CallsD Tryd.prog 37 #[.pointer (some ⟨N + 3, 0, none⟩), .pointer (some ⟨N, 0, none⟩), .pointer (some ⟨N + 1, 0, none⟩), .pointer (some ⟨N + 2, 0, none⟩)] (.panicking ({ v := .iface 23 pv, recovered := false } :: older)) w fun e u' w' =>
      e = .returned (.tuple #[]) ∧ u' = .panicking ({ v := .iface 23 pv, recovered := true } :: older) ∧
      w' = (((w.setCell ⟨N, 0, none⟩ (.slice none 0 0)).setCell ⟨N + 1, 0, none⟩ (.int .i64 n)).setCell ⟨N + 1, 1, none⟩ (.int .i64 c)).setCell ⟨N + 2, 0, none⟩ (.int .i64 30) := by
  obtain ⟨r0, r1, r2⟩ := hr.cells
  have a0 := cell_at (o := 0) h0
  have a1 := cell_at (o := 0) h1
  have a2 := cell_at (o := 1) h1
  have a3 := cell_at (o := 0) h2
  have f0 := free_of (o := 0) h0
  have f1 := free_of (o := 0) h1
  have f2 := free_of (o := 1) h1
  have f3 := free_of (o := 0) h2
  refine callsD_of_wpS Tryd.func37 rfl fun c₀ cs hu => ?_
  apply wpS_seq
  apply wpS_region
  simp [wpOpsS, go_sem, recoverD, hu, Tryd.ntmps37, Exit.thenS]
  refine wpS_cond (t := true) (by simp [Act.eval, Array.replicate]) ?_
  simp only [if_true]
  apply wpS_region
  simp [wpOpsS, go_sem, r0, r1, a0, a1, a2, a3, f0, f1, f2, f3, bodyPostS, results, Tryd.results37]
end Go.Proofs.YtalmcdhohoplpaaDoor
