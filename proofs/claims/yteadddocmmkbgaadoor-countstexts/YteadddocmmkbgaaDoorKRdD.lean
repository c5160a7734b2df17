/-
  Package counts: Read.
-/
import Derived.Test.YteadddocmmkbgaaDoorKRdC
import Derived.Test.YteadddocmmkbgaaDoorKFace
import Derived.Defers
import Derived.Recover
namespace Go.Proofs.YteadddocmmkbgaaDoor.Co
open Go.RowKit Go.Shelf

theorem kcaught_not (r c p f : Addr) (w : World) :
    CallsD Tryd.prog 44 #[.pointer (some r), .pointer (some c), .pointer (some p), .pointer (some f)] .returning w fun x u' w' => x = .returned (.tuple #[]) ∧ u' = .returning ∧ w' = w := by
  refine callsD_of_wpS Tryd.func44 rfl fun c₀ cs hu => ?_
  apply wpS_seq
  apply wpS_region
  simp [wpOpsS, go_sem, recoverD, hu, Tryd.ntmps44, Exit.thenS]
  refine wpS_cond (t := false) (by simp [Act.eval, Array.replicate]) ?_
  simp only [Bool.false_eq_true, if_false]
  refine wpS_of_wp (wp_skip ?_)
  cases c₀
  simp_all [bodyPostS, results, Tryd.results44]
theorem kcaught {rb n t p : Nat} {s : List UInt8} {x y z : Value} (w : World) (hr : RdAt w rb t s p) (h0 : Boxed w n 24 x) (h1 : Boxed w (n + 1) 3 y) (h2 : Boxed w (n + 1 + 1) 25 z) :
    CallsD Tryd.prog 44 #[.pointer (some ⟨rb, 0, none⟩), .pointer (some ⟨n, 0, none⟩), .pointer (some ⟨n + 1, 0, none⟩), .pointer (some ⟨n + 1 + 1, 0, none⟩)] (.panicking panT) w fun e u' w' =>
      e = .returned (.tuple #[]) ∧ u' = .panicking [{ v := .iface 25 (.int .i64 21), recovered := true }] ∧
      w' = ((w.setCell ⟨n, 0, none⟩ (.int .u64 0)).setCell ⟨n + 1, 0, none⟩ (.int .i64 (p : Int))).setCell ⟨n + 1 + 1, 0, none⟩ (.int .i64 21) := by
  obtain ⟨r0, r1, r2, _⟩ := hr.cells
  have a0 := h0.cell
  have a1 := h1.cell
  have a2 := h2.cell
  have f0 := h0.frozen
  have f1 := h1.frozen
  have f2 := h2.frozen
  refine callsD_of_wpS Tryd.func44 rfl fun c₀ cs hu => ?_
  apply wpS_seq
  apply wpS_region
  simp [wpOpsS, go_sem, recoverD, hu, Tryd.ntmps44, Exit.thenS]
  refine wpS_cond (t := true) (by simp [Act.eval, Array.replicate]) ?_
  simp only [if_true]
  apply wpS_region
  simp [wpOpsS, go_sem, r2, a0, a1, a2, f0, f1, f2, bodyPostS, results, Tryd.results44]

theorem readP_bad {t : Int} (s : List UInt8) (h : t < 0 ∨ 62 < t) : readP t s = (0, 0, 1) := by unfold readP; rw [if_pos h]
theorem readP_ok {m c : Nat} {s : List UInt8} (hm : m ≤ 62) (h : setR m s = .ok c) : readP (m : Int) s = (c, 0, 0) := by
  unfold readP
  rw [if_neg (by omega), Int.toNat_natCast, h]
theorem readP_err {m p : Nat} {s : List UInt8} (hm : m ≤ 62) (h : setR m s = .error p) : readP (m : Int) s = (0, (p : Int), 21) := by
  unfold readP
  rw [if_neg (by omega), Int.toNat_natCast, h]
set_option maxRecDepth 100000 in
set_option maxHeartbeats 4000000 in
theorem Read_any {t : Int} {s : List UInt8} {w : World} (hs : s.length ≤ 9223372036854775807) (hP : PowTab w) :
    Calls Tryd.prog 27 #[.int .i64 t, .string (tx s)] w fun e w' => e = .returned (.tuple #[.int .u64 ((readP t s).1 : Nat), .int .i64 (readP t s).2.1, .int .i64 (readP t s).2.2]) ∧ Below w.heap.size w w' := by
  have hmf : ∀ (fn : Fn) (first cap : Array Value) (w : World), (Instr.makeFunc fn first cap).run Tryd.prog w = .ok (.func fn first cap) w := fun _ _ _ _ => rfl
  obtain ⟨W0, hW0⟩ : ∃ W0, ((w.alloc (.cells #[.int .u64 0] 24)).alloc (.cells #[.int .i64 0] 3)).alloc (.cells #[.int .i64 0] 25) = W0 := ⟨_, rfl⟩
  have b0 : Boxed W0 w.heap.size 24 (.int .u64 0) := by rw [← hW0]; repeat (first | exact boxed_new (by simp) | refine Boxed.alloc ?_ _)
  have b1 : Boxed W0 (w.heap.size + 1) 3 (.int .i64 0) := by rw [← hW0]; repeat (first | exact boxed_new (by simp) | refine Boxed.alloc ?_ _)
  have b2 : Boxed W0 (w.heap.size + 1 + 1) 25 (.int .i64 0) := by rw [← hW0]; repeat (first | exact boxed_new (by simp) | refine Boxed.alloc ?_ _)
  have hB0 : Below w.heap.size w W0 := by
    rw [← hW0]
    exact (((Below.refl _ w).alloc (Nat.le_refl _) _).alloc (by simp) _).alloc (by simp; omega) _
  have HC := hid (Check_any (t := t) (ao := none) (l := []) (n := 0) (cap := 0) (w := W0) rfl (by omega) (Or.inl rfl) (by simp))
  go_enter_defers Tryd.func27, Tryd.ntmps27
  go_wp2_with fail
  refine HC.out.mono ?_
  rintro e W1 ⟨rfl, hb1⟩
  have hB1 := below_tr hB0 hb1
  have d0 := Boxed.on b0 hb1 b0.lt
  have d1 := Boxed.on b1 hb1 b1.lt
  have d2 := Boxed.on b2 hb1 b2.lt
  have hsz := Nat.lt_of_lt_of_le b2.lt hb1.size
  clear hW0 b0 b1 b2 hb1 hB0 HC
  have c0 := d0.cell
  have c1 := d1.cell
  have c2 := d2.cell
  have f0 := d0.frozen
  have f1 := d1.frozen
  have f2 := d2.frozen
  by_cases h0 : t < 0 ∨ 62 < t
  · have HR := hid (readP_bad s h0)
    rw [chkE_nil, if_pos h0]
    clear h0
    go_wp2_with fail
    obtain ⟨W2, hW2⟩ : ∃ W2, W1.setCell ⟨w.heap.size + 1 + 1, 0, none⟩ (.int .i64 1) = W2 := ⟨_, rfl⟩
    have e0 : Boxed W2 w.heap.size 24 (.int .u64 0) := by rw [← hW2]; exact d0.other (by omega) _
    have e1 : Boxed W2 (w.heap.size + 1) 3 (.int .i64 0) := by rw [← hW2]; exact d1.other (by omega) _
    have e2 : Boxed W2 (w.heap.size + 1 + 1) 25 (.int .i64 1) := by rw [← hW2]; exact d2.set _
    have hB2 : Below w.heap.size w W2 := by rw [← hW2]; exact hB1.setCell (p := ⟨w.heap.size + 1 + 1, 0, none⟩) (by simp; omega) _
    rw [hW2]
    clear hW2 d0 d1 d2 c0 c1 c2 f0 f1 f2
    have c0 := e0.cell
    have c1 := e1.cell
    have c2 := e2.cell
    have f0 := e0.frozen
    have f1 := e1.frozen
    have f2 := e2.frozen
    go_region
    all_goals go_wp2
    refine ⟨.tuple #[.int .u64 0, .int .i64 0, .int .i64 1], ?_, by rw [HR.out]; rfl, ?_⟩
    · simp [results, Tryd.results27, go_sem, c0, c1, c2]
    · exact (((hB2.setCell (p := ⟨w.heap.size, 0, none⟩) (by simp) _).setCell (p := ⟨w.heap.size + 1, 0, none⟩) (by simp) _).setCell (p := ⟨w.heap.size + 1 + 1, 0, none⟩) (by simp; omega) _).drew
  · rw [chkE_nil, if_neg h0]
    obtain ⟨m, rfl⟩ : ∃ m : Nat, t = (m : Int) := ⟨t.toNat, by omega⟩
    have hm : m ≤ 62 := by omega
    clear h0
    obtain ⟨W3, hW3⟩ : ∃ W3, (W1.setCell ⟨w.heap.size + 1 + 1, 0, none⟩ (.int .i64 0)).alloc (.cells #[.int .i64 (m : Int), .string (tx s), .int .i64 0] 71) = W3 := ⟨_, rfl⟩
    have z3 : (W1.setCell ⟨w.heap.size + 1 + 1, 0, none⟩ (.int .i64 0)).heap.size = W1.heap.size := by simp
    have e0 : Boxed W3 w.heap.size 24 (.int .u64 0) := by rw [← hW3]; exact (d0.other (by omega) _).alloc _
    have e1 : Boxed W3 (w.heap.size + 1) 3 (.int .i64 0) := by rw [← hW3]; exact (d1.other (by omega) _).alloc _
    have e2 : Boxed W3 (w.heap.size + 1 + 1) 25 (.int .i64 0) := by rw [← hW3]; exact (d2.set _).alloc _
    have hR3 : RdAt W3 W1.heap.size m s 0 := by
      rw [← hW3, ← z3]
      exact World.alloc_heap_new _ _
    have hB3 : Below w.heap.size w W3 := by
      rw [← hW3]
      exact (hB1.setCell (p := ⟨w.heap.size + 1 + 1, 0, none⟩) (by simp; omega) _).alloc (by rw [z3]; omega) _
    have HSET := hid (set_any hP hB3 (by omega) hR3 hs hm)
    have HB3 := hid hB3
    have HW3 := hid hW3
    clear d0 d1 d2 z3 hR3 hB3 hB1 hW3
    go_wp2_with fail
    rw [HW3.out]
    refine HSET.out.mono ?_
    rintro e W4 ⟨hg4, ⟨c, p, hc, hclt, rfl, hr4⟩ | ⟨p, hc, rfl, hr4⟩⟩
    · have k0 := e0.kept hg4 (fun e => by injection e; omega)
      have k1 := e1.kept hg4 (fun e => by injection e; omega)
      have k2 := e2.kept hg4 (fun e => by injection e; omega)
      have HB4 := hid (below_grown HB3.out (Nat.le_refl _) hg4 (by omega))
      have HR := hid (readP_ok hm hc)
      clear hg4 hr4 c0 c1 c2 f0 f1 f2
      have c0 := k0.cell
      have c1 := k1.cell
      have c2 := k2.cell
      have f0 := k0.frozen
      have f1 := k1.frozen
      have f2 := k2.frozen
      go_wp2_with fail
      refine leaves_cons (f := 44) (args := #[.pointer (some ⟨W1.heap.size, 0, none⟩), .pointer (some ⟨w.heap.size, 0, none⟩), .pointer (some ⟨w.heap.size + 1, 0, none⟩), .pointer (some ⟨w.heap.size + 1 + 1, 0, none⟩)]) (by simp) (by simp [go_sem]) ?_
      refine (kcaught_not _ _ _ _ _).mono ?_
      rintro e u' w'' ⟨rfl, rfl, rfl⟩
      refine ⟨.tuple #[.int .u64 (c : Int), .int .i64 0, .int .i64 0], ?_, by rw [HR.out], ?_⟩
      · simp [results, Tryd.results27, go_sem, c0, c1, c2]
      · exact ((HB4.out.setCell (p := ⟨w.heap.size, 0, none⟩) (by simp) _).setCell (p := ⟨w.heap.size + 1, 0, none⟩) (by simp) _).setCell (p := ⟨w.heap.size + 1 + 1, 0, none⟩) (by simp; omega) _
    · have k0 := e0.kept hg4 (fun e => by injection e; omega)
      have k1 := e1.kept hg4 (fun e => by injection e; omega)
      have k2 := e2.kept hg4 (fun e => by injection e; omega)
      have hB4 := below_grown HB3.out (Nat.le_refl _) hg4 (by omega)
      have HR := hid (readP_err hm hc)
      refine leaves_cons (f := 44) (args := #[.pointer (some ⟨W1.heap.size, 0, none⟩), .pointer (some ⟨w.heap.size, 0, none⟩), .pointer (some ⟨w.heap.size + 1, 0, none⟩), .pointer (some ⟨w.heap.size + 1 + 1, 0, none⟩)]) (by simp) (by simp [go_sem]) ?_
      refine (kcaught W4 hr4 k0 k1 k2).mono ?_
      rintro e u' w'' ⟨rfl, rfl, rfl⟩
      have g0 := grownBy_setCell' W4 w.heap.size (.int .u64 0)
      have j0 := k0.set (.int .u64 0)
      have j1 := (k1.kept g0 (fun e => by injection e; omega)).set (.int .i64 (p : Int))
      have g1 := grownBy_setCell' (W4.setCell ⟨w.heap.size, 0, none⟩ (.int .u64 0)) (w.heap.size + 1) (.int .i64 (p : Int))
      have j0 := j0.kept g1 (fun e => by injection e; omega)
      have j2 := ((k2.kept g0 (fun e => by injection e; omega)).kept g1 (fun e => by injection e; omega)).set (.int .i64 21)
      have g2 := grownBy_setCell' ((W4.setCell ⟨w.heap.size, 0, none⟩ (.int .u64 0)).setCell ⟨w.heap.size + 1, 0, none⟩ (.int .i64 (p : Int))) (w.heap.size + 1 + 1) (.int .i64 21)
      have j0 := (j0.kept g2 (fun e => by injection e; omega)).cell
      have j1 := (j1.kept g2 (fun e => by injection e; omega)).cell
      have j2 := j2.cell
      refine ⟨.tuple #[.int .u64 0, .int .i64 (p : Int), .int .i64 21], ?_, by rw [HR.out]; rfl, ?_⟩
      · simp [results, Tryd.results27, go_sem, j0, j1, j2]
      · exact ((hB4.setCell (p := ⟨w.heap.size, 0, none⟩) (by simp) _).setCell (p := ⟨w.heap.size + 1, 0, none⟩) (by simp) _).setCell (p := ⟨w.heap.size + 1 + 1, 0, none⟩) (by simp; omega) _
end Go.Proofs.YteadddocmmkbgaaDoor.Co
