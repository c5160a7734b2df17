/-
  A reader's next word.
-/
import Derived.Test.YtalmcdhohoplpaaDoorWSkip
namespace Go.Proofs.YtalmcdhohoplpaaDoor
open Go.RowKit

abbrev noByte : List PanicEntry := [{ v := .iface 23 (.int .i64 30), recovered := false }]
/-- A word as a value. -/
def wdV (x : Wo.Wd) : Value := .agg #[.string (tx x.1), .int .i64 x.2.1, .int .i64 x.2.2]

set_option maxHeartbeats 400000 in
theorem word_none (r n c : Nat) (s : List UInt8) (w : World) (h : Rd w r n c s) (hs : s.length ≤ 1048576) (hf : Wo.fst s = 0) :
    Calls Tryd.prog 48 #[.pointer (some ⟨r, 0, none⟩)] w fun e w' => e = .panicked noByte ∧ Below w.heap.size w w' := by
  have HR := hid h
  have c2 := h.cells.2.2
  have hlt := h.lt
  have q := fun w => first_any (tx s) w (by rw [tx_size]; unfold maxLen; omega)
  rw [show (tx s).data.toList = s from rfl, hf] at q
  clear h
  go_enter Tryd.func48, Tryd.ntmps48
  go_wp2_with (go_at_call 43; refine (q _).mono ?_; rintro e w1 ⟨rfl, rfl⟩)
  exact ⟨rfl, rfl, (Below.refl _ _).alloc (Nat.le_refl _) _⟩

theorem word_cells {W w2 : World} {r n c : Nat} {s : List UInt8} {a b d : Value} (R : Rd W r n c s) (hb : Below (W.alloc (.cells #[a, b, d] 45)).drew.heap.size (W.alloc (.cells #[a, b, d] 45)).drew w2) :
    (w2.cell? ⟨r, 0, none⟩ = some (.int .i64 n) ∧ w2.cell? ⟨r, 1, none⟩ = some (.int .i64 c) ∧ w2.cell? ⟨r, 2, none⟩ = some (.string (tx s))) ∧
    w2.cell? ⟨W.heap.size, 0, none⟩ = some a ∧ w2.cell? ⟨W.heap.size, 1, none⟩ = some b ∧ w2.cell? ⟨W.heap.size, 2, none⟩ = some d ∧
    w2.frozen? ⟨W.heap.size, 0, none⟩ = false ∧ w2.frozen? ⟨W.heap.size, 1, none⟩ = false ∧ w2.frozen? ⟨W.heap.size, 2, none⟩ = false := by
  have hb' := undrew hb
  have R1 : Rd (W.alloc (.cells #[a, b, d] 45)) r n c s := new_old _ _ R
  have hN := below_block hb' (new_0 W _) (by simp)
  exact ⟨(R1.below hb').cells, cell_at hN, cell_at hN, cell_at hN, free_of hN, free_of hN, free_of hN⟩

theorem pass_abs (r n c k : Nat) (s : List UInt8) (w : World) (h : Rd w r n c s) (hc : c + k ≤ 4194304) :
    Calls Tryd.prog 53 #[.pointer (some ⟨r, 0, none⟩), .int .i64 (k : Int)] w fun e w' => e = .returned (.tuple #[]) ∧ Rd w' r n (c + k) s ∧ (∀ b, b ≠ r → w'.heap[b]? = w.heap[b]?) ∧ w.grownBy w' (some r) := by
  refine (pass_any r n c k s w h hc).mono ?_
  rintro e w' ⟨rfl, rfl⟩
  exact ⟨rfl, h.setCol _, fun b hb => Below.heap_setCell _ _ _ _ hb, grown_cell _ _ _ _⟩

theorem word_end_rd {w3 : World} {r n c N : Nat} {s t : List UInt8} {k : Nat} {a b d : Value} (h : Rd w3 r n c s) (hN : N ≠ r) (he : (tx s).extract k (tx s).size = tx t) :
    Rd ((((w3.setCell ⟨r, 2, none⟩ (.string ((tx s).extract k s.length))).setCell ⟨N, 0, none⟩ a).setCell ⟨N, 1, none⟩ b).setCell ⟨N, 2, none⟩ d) r n c t := by
  rw [tx_size] at he
  rw [he]
  exact block_other _ (block_other _ (block_other _ (h.setRest t) (Ne.symm hN)) (Ne.symm hN)) (Ne.symm hN)
theorem word_end_grown {w X w3 : World} {r : Nat} {v a b d : Value} (hX : Below w.heap.size w X) (h3 : X.grownBy w3 (some r)) :
    w.grownBy ((((w3.setCell ⟨r, 2, none⟩ v).setCell ⟨w.heap.size, 0, none⟩ a).setCell ⟨w.heap.size, 1, none⟩ b).setCell ⟨w.heap.size, 2, none⟩ d) (some r) := by
  have g0 := grown_two (grown_two (grown_of_below (some r) hX) h3) (grown_cell w3 r 2 v)
  have k : ∀ (x : World) (o : Nat) (u : Value), w.grownBy x (some r) → w.grownBy (x.setCell ⟨w.heap.size, o, none⟩ u) (some r) := fun x o u h =>
    grown_through h (grown_cell x w.heap.size o u) (fun i hi _ e => by simp at e; omega)
  exact k _ _ _ (k _ _ _ (k _ _ _ g0))

/-- A reader's three cells. -/
def Three (w : World) (r n c : Nat) (s : List UInt8) : Prop := w.cell? ⟨r, 0, none⟩ = some (.int .i64 n) ∧ w.cell? ⟨r, 1, none⟩ = some (.int .i64 c) ∧ w.cell? ⟨r, 2, none⟩ = some (.string (tx s))
theorem three_store {w : World} {r n c g : Nat} {s : List UInt8} (h : Three w r n c s) (hne : r ≠ g) (a b d : Value) : Three (((w.setCell ⟨g, 0, none⟩ a).setCell ⟨g, 1, none⟩ b).setCell ⟨g, 2, none⟩ d) r n c s := by
  have e : ∀ o, (((w.setCell ⟨g, 0, none⟩ a).setCell ⟨g, 1, none⟩ b).setCell ⟨g, 2, none⟩ d).cell? ⟨r, o, none⟩ = w.cell? ⟨r, o, none⟩ := fun o => by
    rw [World.cell?_setCell_other _ _ _ _ (by simp), World.cell?_setCell_other _ _ _ _ (by simp), World.cell?_setCell_other _ _ _ _ (by simp)]
  exact ⟨(e 0).trans h.1, (e 1).trans h.2.1, (e 2).trans h.2.2⟩
theorem three_alloc {w : World} {r n c : Nat} {s : List UInt8} (h : Three w r n c s) (hlt : r < w.heap.size) (o : Obj) : Three (w.alloc o) r n c s := by
  have hb : Below w.heap.size w (w.alloc o) := (Below.refl _ _).alloc (Nat.le_refl _) _
  exact ⟨(hb.cell (p := ⟨r, 0, none⟩) hlt).trans h.1, (hb.cell (p := ⟨r, 1, none⟩) hlt).trans h.2.1, (hb.cell (p := ⟨r, 2, none⟩) hlt).trans h.2.2⟩

set_option maxHeartbeats 1000000 in
theorem word_some (r n c : Nat) (s : List UInt8) (w : World) (h : Rd w r n c s) (hs : s.length ≤ 1048576) (hc : c ≤ 1048577) (hf : Wo.fst s ≠ 0) :
    Calls Tryd.prog 48 #[.pointer (some ⟨r, 0, none⟩)] w fun e w' => e = .returned (wdV (s.take (Wo.fst s), n, c)) ∧ Rd w' r n (c + Wo.fst s) (s.drop (Wo.fst s)) ∧ w.grownBy w' (some r) := by
  obtain ⟨k, hk⟩ : ∃ k, k = Wo.fst s := ⟨_, rfl⟩
  have hle := Wo.fst_le s
  have q := fun w => first_any (tx s) w (by rw [tx_size]; unfold maxLen; omega)
  rw [show (tx s).data.toList = s from rfl] at q
  rw [← hk] at q hf hle ⊢
  have HK := hid hk
  have HR := hid h
  have c2 := h.cells.2.2
  have hk0 : ((k : Int) == 0) = false := by rw [beq_eq_false_iff_ne]; omega
  have hlt := h.lt
  clear h hk
  go_enter Tryd.func48, Tryd.ntmps48
  go_wp2_with (go_at_call 43; refine (q _).mono ?_; rintro e w1 ⟨rfl, rfl⟩)
  obtain ⟨W, hW⟩ : ∃ W, W = w.alloc (.cells #[.string ⟨#[]⟩, .int .i64 0, .int .i64 0] 45) := ⟨_, rfl⟩
  rw [← hW]
  have hbW : Below w.heap.size w W := by rw [hW]; exact (Below.refl _ _).alloc (Nat.le_refl _) _
  have RW := hid (HR.out.below hbW)
  have hWs : w.heap.size + 1 = W.heap.size := by rw [hW]; simp
  have HW := hid hW
  clear hW c2
  obtain ⟨d0, d1, d2⟩ := RW.out.cells
  have E1 := hid (show (tx s).extract 0 k = tx (s.take k) by rw [Lib.extract_eq]; simp)
  have E2 := hid (show (tx s).extract k (tx s).size = tx (s.drop k) by rw [Lib.extract_eq, tx_size, List.take_of_length_le (by simp)])
  have i1 : (0 : Int) ≤ (k : Int) := by omega
  have i2 : (k : Int) ≤ ((tx s).size : Int) := by rw [tx_size]; omega
  have hx0 : 0 < ((tx s).extract 0 k).size := by rw [E1.out, tx_size]; simp; omega
  have hx1 : ((tx s).extract 0 k).size ≤ 1048576 := by rw [E1.out, tx_size]; simp; omega
  have qA := (Clone_any ((tx s).extract 0 k) (W.alloc (.cells #[.string ⟨#[]⟩, .int .i64 0, .int .i64 0] 45)).drew hx0 hx1).mono (fun e w2 (h : _ ∧ _) => And.intro h.1 (And.intro (hid (undrew h.2)) (word_cells RW.out h.2)))
  have qB := (Clone_any ((tx s).extract 0 k) W.drew hx0 hx1).mono (fun e w2 (h : _ ∧ _) => And.intro h.1 (And.intro (hid (undrew h.2)) (And.intro (undrew h.2).size (Rd.cells (RW.out.below (undrew h.2))))))
  clear hx0 hx1
  go_region_held3 (fun w' => w'.cell? ⟨r, 0, none⟩ = some (.int .i64 n) ∧ w'.cell? ⟨r, 1, none⟩ = some (.int .i64 c) ∧ w'.cell? ⟨r, 2, none⟩ = some (.string (tx s))) (first | (go_keep; done) | exact hcx | exact three_store hcx (by omega) _ _ _ | exact three_alloc hcx (by omega) _ | exact three_store (three_alloc hcx (by omega) _) (by omega) _ _ _) (first | (go_at_call 54; refine qA.mono ?_; rintro e w2 ⟨rfl, hbA, hcx, n0, n1, n2, f0, f1, f2⟩) | (go_at_call 54; refine qB.mono ?_; rintro e w2 ⟨rfl, hbB, hsB, hcx⟩))
  · have hX := hid (show (w2.alloc (.cells #[.string ((tx s).extract 0 k), .int .i64 n, .int .i64 c] 45)).heap[w2.heap.size]? = _ from new_0 _ _)
    have hbW2 := (hbB.out.trans ((Below.refl _ _).alloc (by omega) (.cells #[.string ((tx s).extract 0 k), .int .i64 n, .int .i64 c] 45)) : Below W.heap.size W _)
    have RX := hid (RW.out.below hbW2)
    have hR := hid (below_block hbW2 (show W.heap[w.heap.size]? = _ by rw [HW.out]; exact new_0 _ _) (by omega))
    have HB := hid (hbW.trans (hbW2.mono (by omega)))
    clear hcx
    go_wp2_with fail
    refine (pass_abs r n c k s _ RX.out (by omega)).mono ?_
    rintro e w3 ⟨rfl, R3, hk3, hg3⟩
    obtain ⟨d30, d31, d32⟩ := R3.cells
    have f32 := R3.free 2
    have hn1 : w2.heap.size ≠ r := by omega
    have hn2 : w.heap.size ≠ r := by omega
    have hn3 : w2.heap.size ≠ w.heap.size := by omega
    have hX3 := (hk3 w2.heap.size hn1).trans hX.out
    have hR3 := (hk3 w.heap.size hn2).trans hR.out
    have x0 := cell_at (o := 0) hX3
    have x1 := cell_at (o := 1) hX3
    have x2 := cell_at (o := 2) hX3
    have y0 := cell_at (o := 0) hR3
    have y1 := cell_at (o := 1) hR3
    have y2 := cell_at (o := 2) hR3
    have z0 := free_of (o := 0) hR3
    have z1 := free_of (o := 1) hR3
    have z2 := free_of (o := 2) hR3
    have HG3 := hid hg3
    have HR3 := hid R3
    clear hX3 hR3 hk3 hg3 R3
    go_wp2
    refine bodyPost_ret (v := wdV (s.take k, n, c)) (by simp [results, Tryd.results48, go_sem, wdV, ← E1.out, y0, y1, y2]) rfl ⟨rfl, ?_, ?_⟩
    · exact word_end_rd HR3.out hn2 E2.out
    · exact word_end_grown HB.out HG3.out
  · have hX := hid (show (((w2.setCell ⟨W.heap.size, 0, none⟩ (.string ((tx s).extract 0 k))).setCell ⟨W.heap.size, 1, none⟩ (.int .i64 n)).setCell ⟨W.heap.size, 2, none⟩ (.int .i64 c)).heap[W.heap.size]? = some (.cells #[.string ((tx s).extract 0 k), .int .i64 n, .int .i64 c] 45 (0, 0)) from
        block_set _ (block_set _ (block_set _ (below_block hbA.out (new_0 W _) (by simp)))))
    have hbW2 : Below W.heap.size W (((w2.setCell ⟨W.heap.size, 0, none⟩ (.string ((tx s).extract 0 k))).setCell ⟨W.heap.size, 1, none⟩ (.int .i64 n)).setCell ⟨W.heap.size, 2, none⟩ (.int .i64 c)) :=
      (((((Below.refl _ _).alloc (Nat.le_refl _) _).trans (hbA.out.mono (by simp))).setCell (Nat.le_refl _) _).setCell (Nat.le_refl _) _).setCell (Nat.le_refl _) _
    have RX := hid (RW.out.below hbW2)
    have hR := hid (below_block hbW2 (show W.heap[w.heap.size]? = _ by rw [HW.out]; exact new_0 _ _) (by omega))
    have HB := hid (hbW.trans (hbW2.mono (by omega)))
    clear hcx n0 n1 n2 f0 f1 f2
    go_wp2_with fail
    refine (pass_abs r n c k s _ RX.out (by omega)).mono ?_
    rintro e w3 ⟨rfl, R3, hk3, hg3⟩
    obtain ⟨d30, d31, d32⟩ := R3.cells
    have f32 := R3.free 2
    have hn1 : W.heap.size ≠ r := by omega
    have hn2 : w.heap.size ≠ r := by omega
    have hn3 : W.heap.size ≠ w.heap.size := by omega
    have hX3 := (hk3 W.heap.size hn1).trans hX.out
    have hR3 := (hk3 w.heap.size hn2).trans hR.out
    have x0 := cell_at (o := 0) hX3
    have x1 := cell_at (o := 1) hX3
    have x2 := cell_at (o := 2) hX3
    have y0 := cell_at (o := 0) hR3
    have y1 := cell_at (o := 1) hR3
    have y2 := cell_at (o := 2) hR3
    have z0 := free_of (o := 0) hR3
    have z1 := free_of (o := 1) hR3
    have z2 := free_of (o := 2) hR3
    have HG3 := hid hg3
    have HR3 := hid R3
    clear hX3 hR3 hk3 hg3 R3
    go_wp2
    refine bodyPost_ret (v := wdV (s.take k, n, c)) (by simp [results, Tryd.results48, go_sem, wdV, ← E1.out, y0, y1, y2]) rfl ⟨rfl, ?_, ?_⟩
    · exact word_end_rd HR3.out hn2 E2.out
    · exact word_end_grown HB.out HG3.out
end Go.Proofs.YtalmcdhohoplpaaDoor
