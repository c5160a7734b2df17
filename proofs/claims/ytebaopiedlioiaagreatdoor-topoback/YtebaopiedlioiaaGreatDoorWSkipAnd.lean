/-
  Lines: the lines of a text that have words, or the place of its first fault.
  A text read line by line: the walk of read.
  A text read line by line: read, and its deferred call that catches a fault.
  Rows of lines in memory; what holds while a text is read line by line.
  A reader's line: the walk.
  A reader's line: its words, or the place of the first fault.
  A reader's next word.
  A reader: its place goes on (pass, nextLine), blanks are passed by (skip).
-/
import Derived.Test.YtebaopiedlioiaaGreatDoorUMathAnd
import Derived.Test.YtebaopiedlioiaaGreatDoorWLay
import Derived.Maps.AppendAt
import Derived.Deep.Onto
namespace Go.Proofs.YtebaopiedlioiaaGreatDoor
open Go.RowKit Go.Shelf

/-- A reader in memory: its line, its column, what of the line is not read yet. -/
def rdc (n c : Nat) (s : List UInt8) : Array Value := #[.int .i64 n, .int .i64 c, .string (tx s)]
def Rd (w : World) (r n c : Nat) (s : List UInt8) : Prop := w.heap[r]? = some (.cells (rdc n c s) 149 (0, 0))
theorem Rd.lt {w : World} {r n c : Nat} {s : List UInt8} (h : Rd w r n c s) : r < w.heap.size := lt_of_block h
theorem Rd.cells {w : World} {r n c : Nat} {s : List UInt8} (h : Rd w r n c s) :
    w.cell? ⟨r, 0, none⟩ = some (.int .i64 n) ∧ w.cell? ⟨r, 1, none⟩ = some (.int .i64 c) ∧ w.cell? ⟨r, 2, none⟩ = some (.string (tx s)) :=
  ⟨cell_at h, cell_at h, cell_at h⟩
theorem Rd.below {w w' : World} {r n c : Nat} {s : List UInt8} (h : Rd w r n c s) (hb : Below w.heap.size w w') : Rd w' r n c s := below_block hb h h.lt
theorem Rd.setCol {w : World} {r n c : Nat} {s : List UInt8} (h : Rd w r n c s) (k : Nat) : Rd (w.setCell ⟨r, 1, none⟩ (.int .i64 k)) r n k s := block_set _ h
theorem Rd.setLine {w : World} {r n c : Nat} {s : List UInt8} (h : Rd w r n c s) (k : Nat) : Rd (w.setCell ⟨r, 0, none⟩ (.int .i64 k)) r k c s := block_set _ h
theorem Rd.setRest {w : World} {r n c : Nat} {s : List UInt8} (h : Rd w r n c s) (t : List UInt8) : Rd (w.setCell ⟨r, 2, none⟩ (.string (tx t))) r n c t := block_set _ h
theorem Rd.free {w : World} {r n c : Nat} {s : List UInt8} (h : Rd w r n c s) (o : Nat) : w.frozen? ⟨r, o, none⟩ = false := free_of h
theorem grown_cell (w : World) (b o : Nat) (u : Value) : w.grownBy (w.setCell ⟨b, o, none⟩ u) (some b) :=
  ⟨rfl, rfl, rfl, by simp, fun k _ hne => Below.heap_setCell _ _ _ _ (fun e => hne (by simp [e]))⟩
theorem grown_two {a b c : World} {r : Option Nat} (h : a.grownBy b r) (k : b.grownBy c r) : a.grownBy c r :=
  ⟨k.os.trans h.os, k.tape.trans h.tape, k.output.trans h.output, Nat.le_trans h.size k.size, fun i hi hne => (k.block i (Nat.lt_of_lt_of_le hi h.size) hne).trans (h.block i hi hne)⟩
theorem grown_drewN {a b : World} {r : Option Nat} {n : Nat} (h : a.grownBy b r) : a.grownBy (b.drewN n) r := ⟨h.os, h.tape, h.output, h.size, h.block⟩
theorem grown_drew {a b : World} {r : Option Nat} (h : a.grownBy b r) : a.grownBy b.drew r := ⟨h.os, h.tape, h.output, h.size, h.block⟩
theorem Rd.drewN {w : World} {r n c m : Nat} {s : List UInt8} (h : Rd w r n c s) : Rd (w.drewN m) r n c s := h

set_option maxHeartbeats 400000 in
theorem pass_any (r n c k : Nat) (s : List UInt8) (w : World) (h : Rd w r n c s) (hc : c + k ≤ 4194304) :
    Calls Tryz.prog 160 #[.pointer (some ⟨r, 0, none⟩), .int .i64 (k : Int)] w fun e w' => e = .returned (.tuple #[]) ∧ w' = w.setCell ⟨r, 1, none⟩ (.int .i64 ((c + k : Nat) : Int)) := by
  have HR := hid h
  have c1 := h.cells.2.1
  have f1 := h.free 1
  clear h
  go_enter Tryz.func160, Tryz.ntmps160
  go_wp2
  go_end0
  exact ⟨rfl, by push_cast; rfl⟩

theorem pass_int (r n c : Nat) (x : Int) (k : Nat) (s : List UInt8) (w : World) (h : Rd w r n c s) (hc : c + k ≤ 4194304) (hx : x = (k : Int)) :
    Calls Tryz.prog 160 #[.pointer (some ⟨r, 0, none⟩), .int .i64 x] w fun e w' => e = .returned (.tuple #[]) ∧ w' = w.setCell ⟨r, 1, none⟩ (.int .i64 ((c + k : Nat) : Int)) := by
  subst hx; exact pass_any r n c k s w h hc

set_option maxHeartbeats 400000 in
theorem nextLine_any (r n c : Nat) (s : List UInt8) (w : World) (h : Rd w r n c s) (hn : n ≤ 4194304) :
    Calls Tryz.prog 126 #[.pointer (some ⟨r, 0, none⟩)] w fun e w' => e = .returned (.tuple #[]) ∧ Rd w' r (n + 1) 1 s ∧ w.grownBy w' (some r) := by
  have HR := hid h
  have c0 := h.cells.1
  have f0 := h.free 0
  have c1 := (h.setLine (n + 1)).cells.2.1
  have f1 := (h.setLine (n + 1)).free 1
  push_cast at c1 f1
  clear h
  go_enter Tryz.func126, Tryz.ntmps126
  go_wp2
  go_end0
  have R := (HR.out.setLine (n + 1)).setCol 1
  push_cast at R
  exact ⟨rfl, R, grown_two (grown_cell _ _ _ _) (grown_cell _ _ _ _)⟩

theorem Tryz.fTrim : Tryz.laysTrim_ren.f 161 = 159 := by kernel_rfl
theorem TrimLeft_blank (l : List UInt8) (w : World) :
    Calls Tryz.prog 159 #[.string (tx l), .string ⟨#[32, 9]⟩] w fun e w' => e = .returned (.string (tx (Wo.skp l))) ∧ Below w.heap.size w w' := by
  have h := Any.strings_TrimLeft_laid Tryz.laysTrim (by kernel_rfl) (tx l) ⟨#[32, 9]⟩ w (by decide) (ascii_of_all (by decide))
  rw [Tryz.fTrim] at h
  refine h.mono fun e w' ⟨he, hb⟩ => ⟨?_, hb⟩
  rw [he]
  have e : Lib.trimLeftS (tx l).data.toList (⟨#[32, 9]⟩ : ByteArray).data.toList = Wo.skp l := by
    unfold Lib.trimLeftS Wo.skp
    show List.dropWhile _ l = _
    congr 1
    funext a
    unfold Wo.blk
    show (a == 32 || (a == 9 || false)) = _
    rw [b_eq, b_eq, Bool.or_false]; rfl
  rw [e]

set_option maxHeartbeats 1000000 in
theorem skip_any (r n c : Nat) (s : List UInt8) (w : World) (h : Rd w r n c s) (hc : c + s.length ≤ 4194304) :
    Calls Tryz.prog 127 #[.pointer (some ⟨r, 0, none⟩)] w fun e w' => e = .returned (.tuple #[]) ∧ Rd w' r n (c + (s.length - (Wo.skp s).length)) (Wo.skp s) ∧ w.grownBy w' (some r) := by
  have HR := hid h
  have c2 := h.cells.2.2
  have hle := Wo.skp_le s
  clear h
  go_enter Tryz.func127, Tryz.ntmps127
  go_wp2_with (go_at_call 159; refine (TrimLeft_blank s _).mono ?_; rintro e w1 ⟨rfl, hb1⟩)
  have R1 := hid (HR.out.below hb1)
  have d2 := R1.out.cells.2.2
  go_region_held3 (fun w' => w'.cell? ⟨r, 2, none⟩ = some (.string (tx s))) (first | (go_keep; done) | exact hcx) (first | (go_at_call 160; refine (pass_int r n c _ (s.length - (Wo.skp s).length) s _ (by exact R1.out) (by omega) (by rw [IntKind.wrap_i64]; omega)).mono ?_; rintro e w2 ⟨rfl, rfl⟩; have hcx : (w1.drew.setCell ⟨r, 1, none⟩ (.int .i64 ((c + (s.length - (Wo.skp s).length) : Nat) : Int))).cell? ⟨r, 2, none⟩ = some (.string (tx s)) := (by exact (R1.out.setCol _).cells.2.2)))
  have R2 := R1.out.setCol (c + (s.length - (Wo.skp s).length))
  have f2 := R1.out.free 2
  go_wp2
  go_end0
  exact ⟨rfl, R2.setRest _, grown_two (grown_of_below _ hb1) (grown_drew (grown_two (grown_cell _ _ _ _) (grown_cell _ _ _ _)))⟩
end Go.Proofs.YtebaopiedlioiaaGreatDoor
namespace Go.Proofs.YtebaopiedlioiaaGreatDoor
open Go.RowKit

abbrev noByte : List PanicEntry := [{ v := .iface 26 (.int .i64 30), recovered := false }]
/-- A word as a value. -/
def wdV (x : Wo.Wd) : Value := .agg #[.string (tx x.1), .int .i64 x.2.1, .int .i64 x.2.2]

set_option maxHeartbeats 400000 in
theorem word_none (r n c : Nat) (s : List UInt8) (w : World) (h : Rd w r n c s) (hs : s.length ≤ 1048576) (hf : Wo.fst s = 0) :
    Calls Tryz.prog 128 #[.pointer (some ⟨r, 0, none⟩)] w fun e w' => e = .panicked noByte ∧ Below w.heap.size w w' := by
  have HR := hid h
  have c2 := h.cells.2.2
  have hlt := h.lt
  have q := fun w => first_any (tx s) w (by rw [tx_size]; unfold maxLen; omega)
  rw [show (tx s).data.toList = s from rfl, hf] at q
  clear h
  go_enter Tryz.func128, Tryz.ntmps128
  go_wp2_with (go_at_call 161; refine (q _).mono ?_; rintro e w1 ⟨rfl, rfl⟩)
  exact ⟨rfl, rfl, (Below.refl _ _).alloc (Nat.le_refl _) _⟩

theorem word_cells {W w2 : World} {r n c : Nat} {s : List UInt8} {a b d : Value} (R : Rd W r n c s) (hb : Below (W.alloc (.cells #[a, b, d] 74)).drew.heap.size (W.alloc (.cells #[a, b, d] 74)).drew w2) :
    (w2.cell? ⟨r, 0, none⟩ = some (.int .i64 n) ∧ w2.cell? ⟨r, 1, none⟩ = some (.int .i64 c) ∧ w2.cell? ⟨r, 2, none⟩ = some (.string (tx s))) ∧
    w2.cell? ⟨W.heap.size, 0, none⟩ = some a ∧ w2.cell? ⟨W.heap.size, 1, none⟩ = some b ∧ w2.cell? ⟨W.heap.size, 2, none⟩ = some d ∧
    w2.frozen? ⟨W.heap.size, 0, none⟩ = false ∧ w2.frozen? ⟨W.heap.size, 1, none⟩ = false ∧ w2.frozen? ⟨W.heap.size, 2, none⟩ = false := by
  have hb' := undrew hb
  have R1 : Rd (W.alloc (.cells #[a, b, d] 74)) r n c s := new_old _ _ R
  have hN := below_block hb' (new_0 W _) (by simp)
  exact ⟨(R1.below hb').cells, cell_at hN, cell_at hN, cell_at hN, free_of hN, free_of hN, free_of hN⟩

theorem pass_abs (r n c k : Nat) (s : List UInt8) (w : World) (h : Rd w r n c s) (hc : c + k ≤ 4194304) :
    Calls Tryz.prog 160 #[.pointer (some ⟨r, 0, none⟩), .int .i64 (k : Int)] w fun e w' => e = .returned (.tuple #[]) ∧ Rd w' r n (c + k) s ∧ (∀ b, b ≠ r → w'.heap[b]? = w.heap[b]?) ∧ w.grownBy w' (some r) := by
  refine (pass_any r n c k s w h hc).mono ?_
  rintro e w' ⟨rfl, rfl⟩
  exact ⟨rfl, h.setCol _, fun b hb => Below.heap_setCell _ _ _ _ hb, grown_cell _ _ _ _⟩

theorem word_end_rd {w3 : World} {r n c N : Nat} {s t : List UInt8} {k : Nat} {a b d : Value} (h : Rd w3 r n c s) (hN : N ≠ r) (he : (tx s).extract k (tx s).size = tx t) :
    Rd ((((w3.setCell ⟨r, 2, none⟩ (.string ((tx s).extract k s.length))).setCell ⟨N, 0, none⟩ a).setCell ⟨N, 1, none⟩ b).setCell ⟨N, 2, none⟩ d) r n c t := by
  rw [tx_size] at he
  rw [he]
  exact block_other _ (block_other _ (block_other _ (h.setRest t) (Ne.symm hN)) (Ne.symm hN)) (Ne.symm hN)
theorem word_end_grown {w X w3 : World} {r : Nat} {v a b d : Value} (hX : Below w.heap.size w X) (h3 : X.grownBy w3 (some r)) :
    w.grownBy ((((w3.setCell ⟨r, 2, none⟩ v).setCell ⟨w.heap.size, 0, none⟩ a).setCell ⟨w.heap.size, 1, none⟩ b).setCell ⟨w.heap.size, 2, none⟩ d) (some r) := by
  have g0 := grown_two (grown_two (grown_of_below (some r) hX) h3) (grown_cell w3 r 2 v)
  have k : ∀ (x : World) (o : Nat) (u : Value), w.grownBy x (some r) → w.grownBy (x.setCell ⟨w.heap.size, o, none⟩ u) (some r) := fun x o u h =>
    grown_through h (grown_cell x w.heap.size o u) (fun i hi _ e => by simp at e; omega)
  exact k _ _ _ (k _ _ _ (k _ _ _ g0))

/-- A reader's three cells. -/
def Three (w : World) (r n c : Nat) (s : List UInt8) : Prop := w.cell? ⟨r, 0, none⟩ = some (.int .i64 n) ∧ w.cell? ⟨r, 1, none⟩ = some (.int .i64 c) ∧ w.cell? ⟨r, 2, none⟩ = some (.string (tx s))
theorem three_store {w : World} {r n c g : Nat} {s : List UInt8} (h : Three w r n c s) (hne : r ≠ g) (a b d : Value) : Three (((w.setCell ⟨g, 0, none⟩ a).setCell ⟨g, 1, none⟩ b).setCell ⟨g, 2, none⟩ d) r n c s := by
  have e : ∀ o, (((w.setCell ⟨g, 0, none⟩ a).setCell ⟨g, 1, none⟩ b).setCell ⟨g, 2, none⟩ d).cell? ⟨r, o, none⟩ = w.cell? ⟨r, o, none⟩ := fun o => by
    rw [World.cell?_setCell_other _ _ _ _ (by simp), World.cell?_setCell_other _ _ _ _ (by simp), World.cell?_setCell_other _ _ _ _ (by simp)]
  exact ⟨(e 0).trans h.1, (e 1).trans h.2.1, (e 2).trans h.2.2⟩
theorem three_alloc {w : World} {r n c : Nat} {s : List UInt8} (h : Three w r n c s) (hlt : r < w.heap.size) (o : Obj) : Three (w.alloc o) r n c s := by
  have hb : Below w.heap.size w (w.alloc o) := (Below.refl _ _).alloc (Nat.le_refl _) _
  exact ⟨(hb.cell (p := ⟨r, 0, none⟩) hlt).trans h.1, (hb.cell (p := ⟨r, 1, none⟩) hlt).trans h.2.1, (hb.cell (p := ⟨r, 2, none⟩) hlt).trans h.2.2⟩

set_option maxHeartbeats 1000000 in
theorem word_some (r n c : Nat) (s : List UInt8) (w : World) (h : Rd w r n c s) (hs : s.length ≤ 1048576) (hc : c ≤ 1048577) (hf : Wo.fst s ≠ 0) :
    Calls Tryz.prog 128 #[.pointer (some ⟨r, 0, none⟩)] w fun e w' => e = .returned (wdV (s.take (Wo.fst s), n, c)) ∧ Rd w' r n (c + Wo.fst s) (s.drop (Wo.fst s)) ∧ w.grownBy w' (some r) := by
  obtain ⟨k, hk⟩ : ∃ k, k = Wo.fst s := ⟨_, rfl⟩
  have hle := Wo.fst_le s
  have q := fun w => first_any (tx s) w (by rw [tx_size]; unfold maxLen; omega)
  rw [show (tx s).data.toList = s from rfl] at q
  rw [← hk] at q hf hle ⊢
  have HK := hid hk
  have HR := hid h
  have c2 := h.cells.2.2
  have hk0 : ((k : Int) == 0) = false := by rw [beq_eq_false_iff_ne]; omega
  have hlt := h.lt
  clear h hk
  go_enter Tryz.func128, Tryz.ntmps128
  go_wp2_with (go_at_call 161; refine (q _).mono ?_; rintro e w1 ⟨rfl, rfl⟩)
  obtain ⟨W, hW⟩ : ∃ W, W = w.alloc (.cells #[.string ⟨#[]⟩, .int .i64 0, .int .i64 0] 74) := ⟨_, rfl⟩
  rw [← hW]
  have hbW : Below w.heap.size w W := by rw [hW]; exact (Below.refl _ _).alloc (Nat.le_refl _) _
  have RW := hid (HR.out.below hbW)
  have hWs : w.heap.size + 1 = W.heap.size := by rw [hW]; simp
  have HW := hid hW
  clear hW c2
  obtain ⟨d0, d1, d2⟩ := RW.out.cells
  have E1 := hid (show (tx s).extract 0 k = tx (s.take k) by rw [Lib.extract_eq]; simp)
  have E2 := hid (show (tx s).extract k (tx s).size = tx (s.drop k) by rw [Lib.extract_eq, tx_size, List.take_of_length_le (by simp)])
  have i1 : (0 : Int) ≤ (k : Int) := by omega
  have i2 : (k : Int) ≤ ((tx s).size : Int) := by rw [tx_size]; omega
  have hx0 : 0 < ((tx s).extract 0 k).size := by rw [E1.out, tx_size]; simp; omega
  have hx1 : ((tx s).extract 0 k).size ≤ 1048576 := by rw [E1.out, tx_size]; simp; omega
  have qA := (Clone_any ((tx s).extract 0 k) (W.alloc (.cells #[.string ⟨#[]⟩, .int .i64 0, .int .i64 0] 74)).drew hx0 hx1).mono (fun e w2 (h : _ ∧ _) => And.intro h.1 (And.intro (hid (undrew h.2)) (word_cells RW.out h.2)))
  have qB := (Clone_any ((tx s).extract 0 k) W.drew hx0 hx1).mono (fun e w2 (h : _ ∧ _) => And.intro h.1 (And.intro (hid (undrew h.2)) (And.intro (undrew h.2).size (Rd.cells (RW.out.below (undrew h.2))))))
  clear hx0 hx1
  go_region_held3 (fun w' => w'.cell? ⟨r, 0, none⟩ = some (.int .i64 n) ∧ w'.cell? ⟨r, 1, none⟩ = some (.int .i64 c) ∧ w'.cell? ⟨r, 2, none⟩ = some (.string (tx s))) (first | (go_keep; done) | exact hcx | exact three_store hcx (by omega) _ _ _ | exact three_alloc hcx (by omega) _ | exact three_store (three_alloc hcx (by omega) _) (by omega) _ _ _) (first | (go_at_call 49; refine qA.mono ?_; rintro e w2 ⟨rfl, hbA, hcx, n0, n1, n2, f0, f1, f2⟩) | (go_at_call 49; refine qB.mono ?_; rintro e w2 ⟨rfl, hbB, hsB, hcx⟩))
  · have hX := hid (show (w2.alloc (.cells #[.string ((tx s).extract 0 k), .int .i64 n, .int .i64 c] 74)).heap[w2.heap.size]? = _ from new_0 _ _)
    have hbW2 := (hbB.out.trans ((Below.refl _ _).alloc (by omega) (.cells #[.string ((tx s).extract 0 k), .int .i64 n, .int .i64 c] 74)) : Below W.heap.size W _)
    have RX := hid (RW.out.below hbW2)
    have hR := hid (below_block hbW2 (show W.heap[w.heap.size]? = _ by rw [HW.out]; exact new_0 _ _) (by omega))
    have HB := hid (hbW.trans (hbW2.mono (by omega)))
    clear hcx
    go_wp2_with fail
    refine (pass_abs r n c k s _ RX.out (by omega)).mono ?_
    rintro e w3 ⟨rfl, R3, hk3, hg3⟩
    obtain ⟨d30, d31, d32⟩ := R3.cells
    have f32 := R3.free 2
    have hn1 : w2.heap.size ≠ r := by omega
    have hn2 : w.heap.size ≠ r := by omega
    have hn3 : w2.heap.size ≠ w.heap.size := by omega
    have hX3 := (hk3 w2.heap.size hn1).trans hX.out
    have hR3 := (hk3 w.heap.size hn2).trans hR.out
    have x0 := cell_at (o := 0) hX3
    have x1 := cell_at (o := 1) hX3
    have x2 := cell_at (o := 2) hX3
    have y0 := cell_at (o := 0) hR3
    have y1 := cell_at (o := 1) hR3
    have y2 := cell_at (o := 2) hR3
    have z0 := free_of (o := 0) hR3
    have z1 := free_of (o := 1) hR3
    have z2 := free_of (o := 2) hR3
    have HG3 := hid hg3
    have HR3 := hid R3
    clear hX3 hR3 hk3 hg3 R3
    go_wp2
    refine bodyPost_ret (v := wdV (s.take k, n, c)) (by simp [results, Tryz.results128, go_sem, wdV, ← E1.out, y0, y1, y2]) rfl ⟨rfl, ?_, ?_⟩
    · exact word_end_rd HR3.out hn2 E2.out
    · exact word_end_grown HB.out HG3.out
  · have hX := hid (show (((w2.setCell ⟨W.heap.size, 0, none⟩ (.string ((tx s).extract 0 k))).setCell ⟨W.heap.size, 1, none⟩ (.int .i64 n)).setCell ⟨W.heap.size, 2, none⟩ (.int .i64 c)).heap[W.heap.size]? = some (.cells #[.string ((tx s).extract 0 k), .int .i64 n, .int .i64 c] 74 (0, 0)) from
        block_set _ (block_set _ (block_set _ (below_block hbA.out (new_0 W _) (by simp)))))
    have hbW2 : Below W.heap.size W (((w2.setCell ⟨W.heap.size, 0, none⟩ (.string ((tx s).extract 0 k))).setCell ⟨W.heap.size, 1, none⟩ (.int .i64 n)).setCell ⟨W.heap.size, 2, none⟩ (.int .i64 c)) :=
      (((((Below.refl _ _).alloc (Nat.le_refl _) _).trans (hbA.out.mono (by simp))).setCell (Nat.le_refl _) _).setCell (Nat.le_refl _) _).setCell (Nat.le_refl _) _
    have RX := hid (RW.out.below hbW2)
    have hR := hid (below_block hbW2 (show W.heap[w.heap.size]? = _ by rw [HW.out]; exact new_0 _ _) (by omega))
    have HB := hid (hbW.trans (hbW2.mono (by omega)))
    clear hcx n0 n1 n2 f0 f1 f2
    go_wp2_with fail
    refine (pass_abs r n c k s _ RX.out (by omega)).mono ?_
    rintro e w3 ⟨rfl, R3, hk3, hg3⟩
    obtain ⟨d30, d31, d32⟩ := R3.cells
    have f32 := R3.free 2
    have hn1 : W.heap.size ≠ r := by omega
    have hn2 : w.heap.size ≠ r := by omega
    have hn3 : W.heap.size ≠ w.heap.size := by omega
    have hX3 := (hk3 W.heap.size hn1).trans hX.out
    have hR3 := (hk3 w.heap.size hn2).trans hR.out
    have x0 := cell_at (o := 0) hX3
    have x1 := cell_at (o := 1) hX3
    have x2 := cell_at (o := 2) hX3
    have y0 := cell_at (o := 0) hR3
    have y1 := cell_at (o := 1) hR3
    have y2 := cell_at (o := 2) hR3
    have z0 := free_of (o := 0) hR3
    have z1 := free_of (o := 1) hR3
    have z2 := free_of (o := 2) hR3
    have HG3 := hid hg3
    have HR3 := hid R3
    clear hX3 hR3 hk3 hg3 R3
    go_wp2
    refine bodyPost_ret (v := wdV (s.take k, n, c)) (by simp [results, Tryz.results128, go_sem, wdV, ← E1.out, y0, y1, y2]) rfl ⟨rfl, ?_, ?_⟩
    · exact word_end_rd HR3.out hn2 E2.out
    · exact word_end_grown HB.out HG3.out
end Go.Proofs.YtebaopiedlioiaaGreatDoor
namespace Go.Proofs.YtebaopiedlioiaaGreatDoor
open Go.RowKit

theorem Tryz.infoWord : (Tryz.prog.info? 74).map (fun i => (i.zero, i.size, i.bytes)) = some (some (.agg #[.string ⟨#[]⟩, .int .i64 0, .int .i64 0]), 3, 32) := by kernel_rfl

theorem code_miss (l : List UInt8) (h : ∀ x ∈ l, x ≠ (35 : UInt8)) : Wo.code l = l := by
  induction l with
  | nil => rfl
  | cons a p ih =>
    have ha : a.toNat ≠ 35 := fun e => h a (by simp) (UInt8.toNat.inj e)
    rw [Wo.code_cons _ ha, ih (fun x hx => h x (List.mem_cons_of_mem _ hx))]
theorem code_hit (p t : List UInt8) (h : ∀ x ∈ p, x ≠ (35 : UInt8)) : Wo.code (p ++ 35 :: t) = p := by
  induction p with
  | nil => exact Wo.code_hash t rfl
  | cons a p ih =>
    have ha : a.toNat ≠ 35 := fun e => h a (by simp) (UInt8.toNat.inj e)
    show Wo.code (a :: (p ++ 35 :: t)) = _
    rw [Wo.code_cons _ ha, ih (fun x hx => h x (List.mem_cons_of_mem _ hx))]

theorem Cut_hash (l : List UInt8) (w : World) (hs : l.length ≤ 1048576) :
    Calls Tryz.prog 90 #[.string (tx l), .string ⟨#[35]⟩] w fun e w' => ∃ b2 b3, e = .returned (.tuple #[.string (tx (Wo.code l)), .string b2, .bool b3]) ∧ ∃ n, w' = w.drewN n := by
  rcases split_at l 35 with h | ⟨p, t, rfl, h⟩
  · rw [code_miss l h]
    refine (Cut_miss l 35 w h).mono ?_
    rintro e w' ⟨rfl, hn⟩
    exact ⟨_, _, rfl, hn⟩
  · rw [code_hit p t h]
    refine (Cut_hit p t 35 w h (by simp only [List.length_append, List.length_cons] at hs; unfold maxLen; omega)).mono ?_
    rintro e w' ⟨rfl, hn⟩
    exact ⟨_, _, rfl, hn⟩

/-- The cells of words one behind the other. -/
def wcl (x : Wo.Wd) : List Value := [.string (tx x.1), .int .i64 x.2.1, .int .i64 x.2.2]
def flatW (ws : List Wo.Wd) : List Value := ws.flatMap wcl
theorem flatW_snoc (ws : List Wo.Wd) (x : Wo.Wd) : flatW (ws ++ [x]) = flatW ws ++ wcl x := by simp [flatW]
theorem wds_snoc (n : Nat) (ws : List (List UInt8 × Nat)) (x : List UInt8 × Nat) : Wo.wds n (ws ++ [x]) = Wo.wds n ws ++ [(x.1, n, x.2)] := by simp [Wo.wds]

/-- What holds while a line is read. -/
structure WInv (w : World) (r n : Nat) (l : List UInt8) (v : Value) (ws : List (List UInt8 × Nat)) (c : Nat) (t : List UInt8) (wr : World) : Prop where
  rd : Rd wr r n c t
  own : wr.ownsRow w.heap.size 74 3 v ws.length (flatW (Wo.wds n ws))
  grown : w.grownBy wr (some r)
  old : r < w.heap.size
  tok : Wo.tk l 1 = (ws ++ (Wo.tk t c).1, (Wo.tk t c).2)
  clean : ∀ a ∈ t, a.toNat ≠ 35
  col : c + t.length ≤ l.length + 1
  cnt : ws.length + t.length ≤ l.length

section
variable {w : World} {r n : Nat} {l : List UInt8} {v : Value} {ws : List (List UInt8 × Nat)} {c : Nat} {t : List UInt8} {wr : World}
theorem WInv.ne (h : WInv w r n l v ws c t wr) : v.ownBlock ≠ some r := fun e => by have := (h.own.lt r e).1; have := h.old; omega
theorem WInv.skip (h : WInv w r n l v ws c t wr) {w1 : World} (hr : Rd w1 r n (c + (t.length - (Wo.skp t).length)) (Wo.skp t)) (hg : wr.grownBy w1 (some r)) :
    WInv w r n l v ws (c + (t.length - (Wo.skp t).length)) (Wo.skp t) w1 := {
  rd := hr
  own := h.own.kept hg (Or.inr h.ne)
  grown := grown_two h.grown hg
  old := h.old
  tok := by rw [h.tok, Wo.tk_skp t c]
  clean := fun a ha => h.clean a ((List.dropWhile_suffix _).mem ha)
  col := by have := h.col; have := Wo.skp_le t; omega
  cnt := by have := h.cnt; have := Wo.skp_le t; omega }
theorem WInv.fault (h : WInv w r n l v ws c t wr) {a : UInt8} {u : List UInt8} (ht : t = a :: u) (hb : Wo.blk a.toNat = false) (hf : Wo.fst t = 0) : (Wo.tk l 1).2 = some c := by
  subst ht
  rw [h.tok, Wo.tk_fault a u c (h.clean a (by simp)) hb hf]
theorem WInv.done (h : WInv w r n l v ws c [] wr) : (Wo.tk l 1).2 = none ∧ (Wo.tk l 1).1 = ws := by
  rw [h.tok, Wo.tk_nil]; simp
theorem WInv.word (h : WInv w r n l v ws c t wr) {a : UInt8} {u : List UInt8} (ht : t = a :: u) (hb : Wo.blk a.toNat = false) (hf : Wo.fst t ≠ 0) {w2 w3 : World} {v' : Value}
    (hr : Rd w2 r n (c + Wo.fst t) (t.drop (Wo.fst t))) (hg : wr.grownBy w2 (some r)) (hown : w3.ownsRow w.heap.size 74 3 v' (ws.length + 1) (flatW (Wo.wds n ws) ++ wcl (t.take (Wo.fst t), n, c)))
    {o : Obj} (hg3 : (w2.alloc o).grownBy w3 v.ownBlock) : WInv w r n l v' (ws ++ [(t.take (Wo.fst t), c)]) (c + Wo.fst t) (t.drop (Wo.fst t)) w3 := by
  have hle := Wo.fst_le t
  have h2 := hr.lt
  refine {
    rd := ?_
    own := ?_
    grown := ?_
    old := h.old
    tok := ?_
    clean := fun x hx => h.clean x (List.mem_of_mem_drop hx)
    col := by have := h.col; simp only [List.length_drop]; omega
    cnt := by have := h.cnt; simp only [List.length_drop, List.length_append, List.length_singleton]; omega }
  · have h3 : Rd (w2.alloc o) r n (c + Wo.fst t) (t.drop (Wo.fst t)) := new_old _ _ hr
    exact (hg3.block r h3.lt (fun e => h.ne e.symm)).trans h3
  · rw [wds_snoc, flatW_snoc, List.length_append, List.length_singleton]; exact hown
  · refine grown_through (grown_two h.grown hg) (s := v.ownBlock) ⟨hg3.os, hg3.tape, hg3.output, Nat.le_trans (by simp) hg3.size, fun i hi hne => ?_⟩ (fun i hi hne e => ?_)
    · rw [hg3.block i (by simp; omega) hne]
      exact Array.getElem?_push_lt .. |>.trans (Array.getElem?_eq_getElem hi).symm
    · have := (h.own.lt i e.symm).1; omega
  · subst ht
    rw [h.tok, Wo.tk_word a u c (h.clean a (by simp)) hb hf]
    simp
end
end Go.Proofs.YtebaopiedlioiaaGreatDoor
namespace Go.Proofs.YtebaopiedlioiaaGreatDoor
open Go.RowKit

/-- How much of the line is left. -/
def leftOf (w : World) (r : Nat) : Nat := match w.cell? ⟨r, 2, none⟩ with
  | some (.string b) => b.size
  | _ => 0
theorem Rd.left {w : World} {r n c : Nat} {s : List UInt8} (h : Rd w r n c s) : leftOf w r = s.length := by
  unfold leftOf; rw [h.cells.2.2]; exact tx_size s
theorem new_cells (w : World) (cs : Array Value) (t : TypeId) (g : Nat) (hg : g = w.heap.size) : ∀ j u, cs.toList[j]? = some u → (w.alloc (.cells cs t)).cell? ((⟨g, 0, none⟩ : Addr).add j) = some u := by
  intro j u hj
  subst hg
  have h := new_0 w (.cells cs t)
  have ea : (⟨w.heap.size, 0, none⟩ : Addr).add j = ⟨w.heap.size, j, none⟩ := by simp [Addr.add]; intro h; exact h.symm
  rw [ea]
  unfold World.cell?
  rw [h]
  simpa using hj

/-- What comes of a line: its words, or a panic at the first fault. -/
def LinePost (w : World) (r n : Nat) (l : List UInt8) (e : Ending) (w' : World) : Prop :=
  ∃ c t, Rd w' r n c t ∧ w.grownBy w' (some r) ∧ ((e = .panicked noByte ∧ (Wo.tk l 1).2 = some c) ∨
    (∃ v, e = .returned v ∧ (Wo.tk l 1).2 = none ∧ w'.ownsRow w.heap.size 74 3 v (Wo.tk l 1).1.length (flatW (Wo.wds n (Wo.tk l 1).1))))

set_option maxHeartbeats 2000000 in
theorem words_any (r n c : Nat) (s l : List UInt8) (w : World) (h : Rd w r n c s) (hl : l.length ≤ 1048576) (hn : n ≤ 4194304) :
    Calls Tryz.prog 91 #[.pointer (some ⟨r, 0, none⟩), .string (tx l)] w fun e w' => LinePost w r (n + 1) l e w' := by
  have HR := hid h
  have hlt := h.lt
  clear h
  obtain ⟨i0, hi, hz0, hz1, hz2⟩ := info_parts Tryz.infoWord
  have HI := hid hi
  have HZ0 := hid hz0
  have HZ1 := hid hz1
  have HZ2 := hid hz2
  clear hi hz0 hz1 hz2
  go_enter Tryz.func91, Tryz.ntmps91
  go_wp2_with fail
  refine (nextLine_any r n c s w HR.out hn).mono ?_
  rintro e w1 ⟨rfl, R1, hg1⟩
  have f12 := R1.free 2
  have HR1 := hid R1
  have HG1 := hid hg1
  obtain ⟨d10, d11, d12⟩ := R1.cells
  clear R1 hg1
  go_wp2_with fail
  refine (Cut_hash l _ hl).mono ?_
  rintro e w2 ⟨b2, b3, rfl, m, rfl⟩
  go_wp2_with fail
  have hcl : (Wo.code l).length ≤ l.length := (List.takeWhile_prefix _).length_le
  refine (skip_any r (n + 1) 1 (Wo.code l) _ (by exact HR1.out.setRest (Wo.code l)) (by omega)).mono ?_
  rintro e w3 ⟨rfl, R3, hg3⟩
  have I0 : WInv w r (n + 1) l (.slice none 0 0) [] 1 (Wo.code l) (w1.setCell ⟨r, 2, none⟩ (.string (tx (Wo.code l)))) := {
    rd := HR1.out.setRest _
    own := World.ownsRow_nil _ _ _ _
    grown := grown_two HG1.out (grown_cell _ _ _ _)
    old := hlt
    tok := by rw [Wo.tk_code]; simp
    clean := Wo.code_clean l
    col := by omega
    cnt := by simp; omega }
  have I1 := hid (I0.skip R3 ⟨hg3.os, hg3.tape, hg3.output, hg3.size, hg3.block⟩)
  have hh := hid (Wo.skp_head (Wo.code l))
  clear I0 R3 hg3 d10 d11 d12 f12
  go_wp2
  go_loopw [5] (fun v wr => ∃ ws c t, Hid (WInv w r (n + 1) l v ws c t wr) ∧ Hid (t = [] ∨ ∃ a u, t = a :: u ∧ Wo.blk a.toNat = false)) (fun _ wr => leftOf wr r)
  case atStart => exact ⟨_, _, _, I1, hh⟩
  case round =>
    obtain ⟨ws, c1, t, J, hq⟩ := hrel
    rcases hq.out with rfl | ⟨a, u, rfl, hb⟩
    · have e2 := J.out.rd.cells.2.2
      have hem : ((tx []).toList == []) = true := by rw [toList_nil, tx_size]; rfl
      go_wp2
      go_ret
      obtain ⟨k1, k2⟩ := J.out.done
      refine ⟨c1, [], J.out.rd, J.out.grown, Or.inr ⟨_, rfl, k1, ?_⟩⟩
      rw [k2]
      exact J.out.own
    · have e2 := J.out.rd.cells.2.2
      have hem : ((tx (a :: u)).toList == []) = false := by rw [toList_nil, tx_size]; rfl
      have hcl2 := J.out.col
      have hcn := J.out.cnt
      simp only [List.length_cons] at hcl2 hcn
      by_cases hf : Wo.fst (a :: u) = 0
      · have q := word_none r (n + 1) c1 (a :: u) wr J.out.rd (by simp only [List.length_cons]; omega) hf
        have HF := hid (J.out.fault rfl hb hf)
        clear hf
        go_wp2_with (go_at_call 128; refine q.mono ?_; rintro e w4 ⟨rfl, hb4⟩)
        exact ⟨rfl, c1, a :: u, J.out.rd.below hb4, grown_two J.out.grown (grown_of_below _ hb4), Or.inl ⟨rfl, HF.out⟩⟩
      · have q := word_some r (n + 1) c1 (a :: u) wr J.out.rd (by simp only [List.length_cons]; omega) (by omega) hf
        simp only [wdV] at q
        have HF := hid hf
        clear hf
        have hwr := J.out.grown.size
        go_wp2_with (first | (go_at_call 128; refine q.mono ?_; rintro e w4 ⟨rfl, R4, hg4⟩; have HR4 := hid R4; have HG4 := hid hg4; have OWN4 := hid (J.out.own.kept hg4 (Or.inr J.out.ne)); clear R4 hg4) | (at_builtin; refine wpList_append_own_at _ rfl _ _ 70 rfl w.heap.size 74 i0 (.agg #[.string ⟨#[]⟩, .int .i64 0, .int .i64 0]) 3 32 Tryz.underlying70 HI.out HZ0.out HZ1.out HZ2.out rfl (by decide) u5 ws.length (flatW (Wo.wds (n + 1) ws)) rfl (OWN4.out.alloc _) ⟨w4.heap.size, 0, none⟩ 1 1 (wcl ((a :: u).take (Wo.fst (a :: u)), n + 1, c1)) rfl rfl (new_cells _ #[.string (tx ((a :: u).take (Wo.fst (a :: u)))), .int .i64 ((n + 1 : Nat) : Int), .int .i64 (c1 : Int)] _ _ rfl) ?c2 ?c3 ?c4 ?c5 ?_))
        case c2 => simp [wcl, Value.oneCell']
        case c3 => unfold maxLen; omega
        case c4 => omega
        case c5 => have := HG4.out.size; simp; omega
        intro v' w5 hown5 hgrow5 _ _
        have J5 := hid (J.out.word rfl hb HF.out HR4.out HG4.out hown5 hgrow5)
        clear hown5 hgrow5
        have hc5 := J5.out.col
        go_wp2_with fail
        refine (skip_any r (n + 1) _ _ w5 J5.out.rd (by omega)).mono ?_
        rintro e w6 ⟨rfl, R6, hg6⟩
        have J6 := hid (J5.out.skip R6 hg6)
        clear R6 hg6
        go_wp2
        go_roundw
        case rel => exact ⟨_, _, _, J6, Wo.skp_head _⟩
        case measure =>
          rw [J6.out.rd.left, J.out.rd.left]
          have h1 := Wo.skp_le ((a :: u).drop (Wo.fst (a :: u)))
          have h2 := HF.out
          simp only [List.length_drop, List.length_cons] at h1 ⊢
          omega
end Go.Proofs.YtebaopiedlioiaaGreatDoor
namespace Go.Proofs.YtebaopiedlioiaaGreatDoor
open Go.RowKit

theorem Tryz.infoWords : (Tryz.prog.info? 70).map (fun i => (i.zero, i.size, i.bytes)) = some (some (.slice none 0 0), 1, 24) := by kernel_rfl

/-- A row that is owned lies in no block of another type. -/
theorem own_ne {w : World} {B : Nat} {e T : TypeId} {size : Nat} {v : Value} {n : Nat} {xs : List Value} {b : Nat} {cs : Array Value} {fr : Nat × Nat} (hown : w.ownsRow B e size v n xs) (hb : w.heap[b]? = some (.cells cs T fr)) (hTe : T ≠ e) : v.ownBlock ≠ some b := by
  rcases hown.2 with ⟨rfl, _⟩ | ⟨g, cap, cur, rfl, _, hg, _⟩
  · simp [Value.ownBlock]
  · intro h
    simp only [Value.ownBlock, Option.some.injEq] at h
    subst h
    rw [hg] at hb
    simp only [Option.some.injEq, Obj.cells.injEq] at hb
    exact hTe hb.2.1.symm
/-- Two rows of other elements lie apart. -/
theorem own_apart {w : World} {B B' : Nat} {e e' : TypeId} {size size' : Nat} {v v' : Value} {n n' : Nat} {xs xs' : List Value} (h : w.ownsRow B e size v n xs) (h' : w.ownsRow B' e' size' v' n' xs') (hee : e ≠ e') : v'.ownBlock = none ∨ v'.ownBlock ≠ v.ownBlock := by
  rcases h'.2 with ⟨rfl, _⟩ | ⟨g, cap, cur, rfl, _, hg, _⟩
  · left; rfl
  · right
    intro e
    exact own_ne h hg (Ne.symm hee) (e.symm.trans rfl)

/-- A row of lines: each line a row of words. -/
def LinesAt (w : World) (B : Nat) (v : Value) (ls : List (List Wo.Wd)) : Prop :=
  ∃ vs : List Value, w.ownsRow B 70 1 v ls.length vs ∧ vs.length = ls.length ∧ ∀ (i : Nat) (x : List Wo.Wd), ls[i]? = some x → ∃ u, vs[i]? = some u ∧ w.ownsRow B 74 3 u x.length (flatW x)
theorem LinesAt.nil (w : World) (B : Nat) : LinesAt w B (.slice none 0 0) [] := ⟨[], World.ownsRow_nil _ _ _ _, rfl, fun i x h => by simp at h⟩
theorem own_form {w : World} {B : Nat} {e : TypeId} {size : Nat} {v : Value} {n : Nat} {xs : List Value} (h : w.ownsRow B e size v n xs) : ∃ ao cap, v = .slice ao n cap := by
  rcases h.2 with ⟨rfl, rfl⟩ | ⟨g, cap, cur, rfl, _⟩
  · exact ⟨none, 0, rfl⟩
  · exact ⟨_, _, rfl⟩
theorem LinesAt.form {w : World} {B : Nat} {v : Value} {ls : List (List Wo.Wd)} (h : LinesAt w B v ls) : ∃ ao cap, v = .slice ao ls.length cap := by
  obtain ⟨vs, ho, _⟩ := h
  exact own_form ho
theorem words_ne : 70 ≠ 74 := by decide
theorem LinesAt.kept {w w' : World} {B : Nat} {v : Value} {ls : List (List Wo.Wd)} (h : LinesAt w B v ls) {b : Nat} {cs : Array Value} {T : TypeId} {fr : Nat × Nat} (hb : w.heap[b]? = some (.cells cs T fr)) (h1 : T ≠ 70) (h2 : T ≠ 74) (hg : w.grownBy w' (some b)) : LinesAt w' B v ls := by
  obtain ⟨vs, ho, hl, hi⟩ := h
  refine ⟨vs, ho.kept hg (Or.inr (own_ne ho hb h1)), hl, fun i x hx => ?_⟩
  obtain ⟨u, hu, hu2⟩ := hi i x hx
  exact ⟨u, hu, hu2.kept hg (Or.inr (own_ne hu2 hb h2))⟩
theorem LinesAt.below {w w' : World} {B : Nat} {v : Value} {ls : List (List Wo.Wd)} (h : LinesAt w B v ls) (hb : Below w.heap.size w w') : LinesAt w' B v ls := by
  obtain ⟨vs, ho, hl, hi⟩ := h
  have hk : ∀ {e size v n xs}, w.ownsRow B e size v n xs → w'.ownsRow B e size v n xs := fun h => h.kept (grown_of_below none hb) (by rename_i v _ _; cases v.ownBlock <;> simp)
  exact ⟨vs, hk ho, hl, fun i x hx => by obtain ⟨u, hu, hu2⟩ := hi i x hx; exact ⟨u, hu, hk hu2⟩⟩
theorem LinesAt.snoc {w w' : World} {B : Nat} {v v' : Value} {ls : List (List Wo.Wd)} {vs : List Value} (ho : w.ownsRow B 70 1 v ls.length vs) (hl : vs.length = ls.length)
    (hi : ∀ (i : Nat) (x : List Wo.Wd), ls[i]? = some x → ∃ u, vs[i]? = some u ∧ w.ownsRow B 74 3 u x.length (flatW x)) {u : Value} {x : List Wo.Wd} (hu : w.ownsRow B 74 3 u x.length (flatW x))
    (ho' : w'.ownsRow B 70 1 v' (ls.length + 1) (vs ++ [u])) (hg : w.grownBy w' v.ownBlock) : LinesAt w' B v' (ls ++ [x]) := by
  refine ⟨vs ++ [u], by rw [List.length_append, List.length_singleton]; exact ho', by simp [hl], fun i y hy => ?_⟩
  have hk : ∀ {u n xs}, w.ownsRow B 74 3 u n xs → w'.ownsRow B 74 3 u n xs := fun h => h.kept hg (own_apart ho h words_ne)
  by_cases hil : i < ls.length
  · rw [List.getElem?_append_left hil] at hy
    obtain ⟨q, hq, hq2⟩ := hi i y hy
    exact ⟨q, by rw [List.getElem?_append_left (by omega)]; exact hq, hk hq2⟩
  · have : i = ls.length := by
      have := (List.getElem?_eq_some_iff.1 hy).1
      simp at this; omega
    subst this
    simp at hy
    subst hy
    exact ⟨u, by rw [← hl]; simp, hk hu⟩

/-- What holds while a text is read: N is where the call's own blocks begin. -/
structure RInv (w : World) (s : List UInt8) (v : Value) (ls : List (List Wo.Wd)) (n : Nat) (t : List UInt8) (more : Bool) (wr : World) : Prop where
  l : wr.heap[w.heap.size]? = some (.cells #[v] 56 (0, 0))
  p : wr.heap[w.heap.size + 1]? = some (.cells #[.int .i64 0, .int .i64 0] 104 (0, 0))
  e : wr.heap[w.heap.size + 2]? = some (.cells #[.int .i64 0] 26 (0, 0))
  r : ∃ c u, Rd wr (w.heap.size + 3) n c u
  rows : LinesAt wr w.heap.size v ls
  below : Below w.heap.size w wr
  all : Wo.rd (Wo.lns s) 1 = (ls ++ (Wo.rd (if more then Wo.lns t else []) (n + 1)).1, (Wo.rd (if more then Wo.lns t else []) (n + 1)).2)
  len : n + t.length ≤ s.length + 1
  lenM : more = true → n + t.length ≤ s.length
  few : ls.length ≤ n

theorem below_grow {B r : Nat} {w w1 w2 : World} (h : Below B w w1) (g : w1.grownBy w2 (some r)) (h1 : B ≤ w1.heap.size) (h2 : B ≤ r) : Below B w w2 :=
  h.grown g h1 (fun k hk => by simp at hk; omega)
theorem block_grow {w w1 : World} {b r : Nat} {x : Obj} (h : w.heap[b]? = some x) (g : w.grownBy w1 (some r)) (hne : b ≠ r) : w1.heap[b]? = some x :=
  (g.block b (lt_of_block h) (fun e => hne (by simpa using e))).trans h

section
variable {w : World} {s : List UInt8} {v : Value} {ls : List (List Wo.Wd)} {n : Nat} {t : List UInt8} {more : Bool} {wr : World}
theorem RInv.fault (h : RInv w s v ls n t more wr) {line : List UInt8} {rest : List (List UInt8)} (hl : (if more then Wo.lns t else []) = line :: rest) {c : Nat} (hc : (Wo.tk line 1).2 = some c) : (Wo.rd (Wo.lns s) 1).2 = some (n + 1, c) := by
  rw [h.all, hl, Wo.rd_fault hc]
/-- A line without words. -/
theorem RInv.next0 (h : RInv w s v ls n t more wr) {line : List UInt8} {t' : List UInt8} {more' : Bool} (hl : (if more then Wo.lns t else []) = line :: (if more' then Wo.lns t' else [])) (h2 : (Wo.tk line 1).2 = none) (h1 : (Wo.tk line 1).1 = [])
    (hlen : n + 1 + t'.length ≤ s.length + 1) (hlenM : more' = true → n + 1 + t'.length ≤ s.length) {w1 : World} {c : Nat} {u : List UInt8} (hr : Rd w1 (w.heap.size + 3) (n + 1) c u) (hg : wr.grownBy w1 (some (w.heap.size + 3))) : RInv w s v ls (n + 1) t' more' w1 := {
  l := block_grow h.l hg (by omega)
  p := block_grow h.p hg (by omega)
  e := block_grow h.e hg (by omega)
  r := ⟨c, u, hr⟩
  rows := by obtain ⟨c0, u0, h0⟩ := h.r; exact h.rows.kept h0 (by decide) (by decide) hg
  below := below_grow h.below hg (Nat.le_of_lt (lt_of_block h.l)) (by omega)
  all := by rw [h.all, hl, Wo.rd_none h2 h1]
  len := hlen
  lenM := hlenM
  few := by have := h.few; omega }
/-- A line with words. -/
theorem RInv.next1 (h : RInv w s v ls n t more wr) {line : List UInt8} {t' : List UInt8} {more' : Bool} (hl : (if more then Wo.lns t else []) = line :: (if more' then Wo.lns t' else [])) (h2 : (Wo.tk line 1).2 = none) (h1 : (Wo.tk line 1).1 ≠ [])
    (hlen : n + 1 + t'.length ≤ s.length + 1) (hlenM : more' = true → n + 1 + t'.length ≤ s.length) {w1 w2 : World} {c : Nat} {u : List UInt8} (hr : Rd w1 (w.heap.size + 3) (n + 1) c u) (hg : wr.grownBy w1 (some (w.heap.size + 3)))
    {x v' : Value} (hx : w1.ownsRow w.heap.size 74 3 x (Wo.tk line 1).1.length (flatW (Wo.wds (n + 1) (Wo.tk line 1).1))) {vs : List Value} (hvs : w1.ownsRow w.heap.size 70 1 v ls.length vs) (hvl : vs.length = ls.length)
    (hvi : ∀ (i : Nat) (x : List Wo.Wd), ls[i]? = some x → ∃ u, vs[i]? = some u ∧ w1.ownsRow w.heap.size 74 3 u x.length (flatW x))
    {o : Obj} (ho : w2.ownsRow w.heap.size 70 1 v' (ls.length + 1) (vs ++ [x])) (hg2 : (w1.alloc o).grownBy w2 v.ownBlock) : RInv w s v' (ls ++ [Wo.wds (n + 1) (Wo.tk line 1).1]) (n + 1) t' more' (w2.setCell ⟨w.heap.size, 0, none⟩ v') := by
  have b1 := below_grow h.below hg (Nat.le_of_lt (lt_of_block h.l)) (by omega)
  have k0 := new_old w1 o (block_grow h.l hg (by omega))
  have k1 := new_old w1 o (block_grow h.p hg (by omega))
  have k2 := new_old w1 o (block_grow h.e hg (by omega))
  have k3 : (w1.alloc o).heap[w.heap.size + 3]? = _ := new_old w1 o hr
  have hva := hvs.alloc o
  have m0 := (hg2.block _ (lt_of_block k0) (fun e => own_ne hva k0 (by decide) e.symm)).trans k0
  have m1 := (hg2.block _ (lt_of_block k1) (fun e => own_ne hva k1 (by decide) e.symm)).trans k1
  have m2 := (hg2.block _ (lt_of_block k2) (fun e => own_ne hva k2 (by decide) e.symm)).trans k2
  have m3 := (hg2.block _ (lt_of_block k3) (fun e => own_ne hva k3 (by decide) e.symm)).trans k3
  have hlr : (Wo.wds (n + 1) (Wo.tk line 1).1).length = (Wo.tk line 1).1.length := by simp [Wo.wds]
  have hx' : (w1.alloc o).ownsRow w.heap.size 74 3 x (Wo.wds (n + 1) (Wo.tk line 1).1).length (flatW (Wo.wds (n + 1) (Wo.tk line 1).1)) := by rw [hlr]; exact hx.alloc o
  have hrows := LinesAt.snoc hva hvl (fun i y hy => by obtain ⟨q, hq, hq2⟩ := hvi i y hy; exact ⟨q, hq, hq2.alloc o⟩) hx' ho hg2
  exact {
    l := block_set _ m0
    p := block_other _ m1 (by omega)
    e := block_other _ m2 (by omega)
    r := ⟨c, u, block_other _ m3 (by omega)⟩
    rows := hrows.kept m0 (by decide) (by decide) (grown_cell _ _ _ _)
    below := by
      refine Below.setCell (p := ⟨w.heap.size, 0, none⟩) ?_ (Nat.le_refl w.heap.size) _
      have b2 : Below w.heap.size w (w1.alloc o) := b1.alloc b1.size _
      exact b2.grown hg2 b2.size (fun k hk => (hva.lt k hk).1)
    all := by rw [h.all, hl, Wo.rd_some h2 h1]; simp
    len := hlen
    lenM := hlenM
    few := by have := h.few; simp; omega }
end
end Go.Proofs.YtebaopiedlioiaaGreatDoor
namespace Go.Proofs.YtebaopiedlioiaaGreatDoor
open Go.RowKit

theorem caught_not (r l p e : Addr) (w : World) :
    CallsD Tryz.prog 89 #[.pointer (some r), .pointer (some l), .pointer (some p), .pointer (some e)] .returning w fun x u' w' => x = .returned (.tuple #[]) ∧ u' = .returning ∧ w' = w := by
  refine callsD_of_wpS Tryz.func89 rfl fun c₀ cs hu => ?_
  apply wpS_seq
  apply wpS_region
  simp [wpOpsS, go_sem, recoverD, hu, Tryz.ntmps89, Exit.thenS]
  refine wpS_cond (t := false) (by simp [Act.eval, Array.replicate]) ?_
  simp only [Bool.false_eq_true, if_false]
  refine wpS_of_wp (wp_skip ?_)
  cases c₀
  simp_all [bodyPostS, results, Tryz.results89]

theorem caught (N n c : Nat) (u : List UInt8) (x y0 y1 z : Value) (pv : Value) (older : List PanicEntry) (w : World) (hr : Rd w (N + 3) n c u) (h0 : w.heap[N]? = some (.cells #[x] 56 (0, 0)))
    (h1 : w.heap[N + 1]? = some (.cells #[y0, y1] 104 (0, 0))) (h2 : w.heap[N + 2]? = some (.cells #[z] 26 (0, 0))) :
    CallsD Tryz.prog 89 #[.pointer (some ⟨N + 3, 0, none⟩), .pointer (some ⟨N, 0, none⟩), .pointer (some ⟨N + 1, 0, none⟩), .pointer (some ⟨N + 2, 0, none⟩)] (.panicking ({ v := .iface 26 pv, recovered := false } :: older)) w fun e u' w' =>
      e = .returned (.tuple #[]) ∧ u' = .panicking ({ v := .iface 26 pv, recovered := true } :: older) ∧
      w' = (((w.setCell ⟨N, 0, none⟩ (.slice none 0 0)).setCell ⟨N + 1, 0, none⟩ (.int .i64 n)).setCell ⟨N + 1, 1, none⟩ (.int .i64 c)).setCell ⟨N + 2, 0, none⟩ (.int .i64 30) := by
  obtain ⟨r0, r1, r2⟩ := hr.cells
  have a0 := cell_at (o := 0) h0
  have a1 := cell_at (o := 0) h1
  have a2 := cell_at (o := 1) h1
  have a3 := cell_at (o := 0) h2
  have f0 := free_of (o := 0) h0
  have f1 := free_of (o := 0) h1
  have f2 := free_of (o := 1) h1
  have f3 := free_of (o := 0) h2
  refine callsD_of_wpS Tryz.func89 rfl fun c₀ cs hu => ?_
  apply wpS_seq
  apply wpS_region
  simp [wpOpsS, go_sem, recoverD, hu, Tryz.ntmps89, Exit.thenS]
  refine wpS_cond (t := true) (by simp [Act.eval, Array.replicate]) ?_
  simp only [if_true]
  apply wpS_region
  simp [wpOpsS, go_sem, r0, r1, a0, a1, a2, a3, f0, f1, f2, f3, bodyPostS, results, Tryz.results89]
end Go.Proofs.YtebaopiedlioiaaGreatDoor
namespace Go.Proofs.YtebaopiedlioiaaGreatDoor
open Go.RowKit

theorem Cut_line (t : List UInt8) (w : World) (hs : t.length ≤ 1048576) :
    Calls Tryz.prog 90 #[.string (tx t), .string ⟨#[10]⟩] w fun e w' => ∃ line t' more', e = .returned (.tuple #[.string (tx line), .string (tx t'), .bool more']) ∧ Hid (Wo.lns t = line :: (if more' then Wo.lns t' else [])) ∧
      (if more' then t'.length + 1 else 0) < t.length + 1 ∧ line.length ≤ t.length ∧ t'.length ≤ t.length ∧ (more' = true → t'.length + 1 ≤ t.length) ∧ ∃ n, w' = w.drewN n := by
  rcases split_at t 10 with h | ⟨p, q, rfl, h⟩
  · refine (Cut_miss t 10 w h).mono ?_
    rintro e w' ⟨rfl, hn⟩
    refine ⟨t, [], false, rfl, ?_, by simp, Nat.le_refl _, by simp, by simp, hn⟩
    exact Wo.lns_last t (fun a ha e => h a ha (UInt8.toNat.inj e))
  · refine (Cut_hit p q 10 w h (by simp only [List.length_append, List.length_cons] at hs; unfold maxLen; omega)).mono ?_
    rintro e w' ⟨rfl, hn⟩
    refine ⟨p, q, true, rfl, ?_, by simp; omega, by simp, by simp; omega, by simp, hn⟩
    exact Wo.lns_cut p q 10 (fun a ha e => h a ha (UInt8.toNat.inj e)) rfl

/-- What comes of a text. -/
def TextPost (w : World) (s : List UInt8) (e : Ending) (w' : World) : Prop :=
  Below w.heap.size w w' ∧ ((∃ n c, (Wo.rd (Wo.lns s) 1).2 = some (n, c) ∧ e = .returned (.tuple #[.slice none 0 0, .agg #[.int .i64 n, .int .i64 c], .int .i64 30])) ∨
    (∃ v, (Wo.rd (Wo.lns s) 1).2 = none ∧ e = .returned (.tuple #[v, .agg #[.int .i64 0, .int .i64 0], .int .i64 0]) ∧ LinesAt w' w.heap.size v (Wo.rd (Wo.lns s) 1).1))

theorem new_2 (w : World) (o0 o1 o2 : Obj) : (((w.alloc o0).alloc o1).alloc o2).heap[w.heap.size + 2]? = some o2 := by
  have := new_0 ((w.alloc o0).alloc o1) o2
  simp only [World.size_alloc] at this
  exact this
theorem new_3 (w : World) (o0 o1 o2 o3 : Obj) : ((((w.alloc o0).alloc o1).alloc o2).alloc o3).heap[w.heap.size + 3]? = some o3 := by
  have := new_0 (((w.alloc o0).alloc o1).alloc o2) o3
  simp only [World.size_alloc] at this
  exact this
theorem RInv.start (w : World) (s : List UInt8) : RInv w s (.slice none 0 0) [] 0 s true
    ((((w.alloc (.cells #[.slice none 0 0] 56)).alloc (.cells #[.int .i64 0, .int .i64 0] 104)).alloc (.cells #[.int .i64 0] 26)).alloc (.cells #[.int .i64 0, .int .i64 0, .string ⟨#[]⟩] 149)) := {
  l := new_old _ _ (new_old _ _ (new_old _ _ (new_0 _ _)))
  p := new_old _ _ (new_old _ _ (new_1 _ _ _))
  e := new_old _ _ (new_2 _ _ _ _)
  r := ⟨0, [], new_3 _ _ _ _ _⟩
  rows := LinesAt.nil _ _
  below := ((((Below.refl _ _).alloc (Nat.le_refl _) _).alloc (by simp) _).alloc (by simp; omega) _).alloc (by simp; omega) _
  all := by simp
  len := by omega
  lenM := fun _ => by omega
  few := by simp }

theorem RInv.finish {w : World} {s : List UInt8} {v : Value} {ls : List (List Wo.Wd)} {n : Nat} {t : List UInt8} {wr : World} (h : RInv w s v ls n t false wr) :
    TextPost w s (.returned (.tuple #[v, .agg #[.int .i64 0, .int .i64 0], .int .i64 0])) ((((wr.setCell ⟨w.heap.size, 0, none⟩ v).setCell ⟨w.heap.size + 1, 0, none⟩ (.int .i64 0)).setCell ⟨w.heap.size + 1, 1, none⟩ (.int .i64 0)).setCell ⟨w.heap.size + 1 + 1, 0, none⟩ (.int .i64 0)) := by
  have e : Wo.rd (Wo.lns s) 1 = (ls, none) := by rw [h.all]; simp [Wo.rd]
  have p1 := block_other (o := 0) v h.p (g := w.heap.size) (by omega)
  have p2 := block_set (o := 0) (.int .i64 0) p1
  have e1 := block_other (o := 1) (.int .i64 0) (block_other (o := 0) (.int .i64 0) (block_other (o := 0) v h.e (g := w.heap.size) (by omega)) (g := w.heap.size + 1) (by omega)) (g := w.heap.size + 1) (by omega)
  refine ⟨(((h.below.setCell (by simp) _).setCell (by simp) _).setCell (by simp) _).setCell (by simp; omega) _, Or.inr ⟨v, by rw [e], rfl, ?_⟩⟩
  rw [e]
  exact (((h.rows.kept h.l (by decide) (by decide) (grown_cell _ _ _ _)).kept p1 (by decide) (by decide) (grown_cell _ _ _ _)).kept p2 (by decide) (by decide) (grown_cell _ _ _ _)).kept e1 (by decide) (by decide) (grown_cell _ _ _ _)

theorem fault_cells {w : World} {N n c : Nat} {x y0 y1 z : Value} (h0 : w.heap[N]? = some (.cells #[x] 56 (0, 0))) (h1 : w.heap[N + 1]? = some (.cells #[y0, y1] 104 (0, 0))) (h2 : w.heap[N + 2]? = some (.cells #[z] 26 (0, 0))) :
    ((((w.setCell ⟨N, 0, none⟩ (.slice none 0 0)).setCell ⟨N + 1, 0, none⟩ (.int .i64 n)).setCell ⟨N + 1, 1, none⟩ (.int .i64 c)).setCell ⟨N + 2, 0, none⟩ (.int .i64 30)).cell? ⟨N, 0, none⟩ = some (.slice none 0 0) ∧
    ((((w.setCell ⟨N, 0, none⟩ (.slice none 0 0)).setCell ⟨N + 1, 0, none⟩ (.int .i64 n)).setCell ⟨N + 1, 1, none⟩ (.int .i64 c)).setCell ⟨N + 2, 0, none⟩ (.int .i64 30)).cell? ⟨N + 1, 0, none⟩ = some (.int .i64 n) ∧
    ((((w.setCell ⟨N, 0, none⟩ (.slice none 0 0)).setCell ⟨N + 1, 0, none⟩ (.int .i64 n)).setCell ⟨N + 1, 1, none⟩ (.int .i64 c)).setCell ⟨N + 2, 0, none⟩ (.int .i64 30)).cell? ⟨N + 1, 1, none⟩ = some (.int .i64 c) ∧
    ((((w.setCell ⟨N, 0, none⟩ (.slice none 0 0)).setCell ⟨N + 1, 0, none⟩ (.int .i64 n)).setCell ⟨N + 1, 1, none⟩ (.int .i64 c)).setCell ⟨N + 2, 0, none⟩ (.int .i64 30)).cell? ⟨N + 2, 0, none⟩ = some (.int .i64 30) := by
  have k0 := block_other (o := 0) (.int .i64 30) (block_other (o := 1) (.int .i64 c) (block_other (o := 0) (.int .i64 n) (block_set (o := 0) (.slice none 0 0) h0) (g := N + 1) (by omega)) (g := N + 1) (by omega)) (g := N + 2) (by omega)
  have k1 := block_other (o := 0) (.int .i64 30) (block_set (o := 1) (.int .i64 c) (block_set (o := 0) (.int .i64 n) (block_other (o := 0) (.slice none 0 0) h1 (g := N) (by omega)))) (g := N + 2) (by omega)
  have k2 := block_set (o := 0) (.int .i64 30) (block_other (o := 1) (.int .i64 c) (block_other (o := 0) (.int .i64 n) (block_other (o := 0) (.slice none 0 0) h2 (g := N) (by omega)) (g := N + 1) (by omega)) (g := N + 1) (by omega))
  exact ⟨cell_at k0, cell_at k1, cell_at k1, cell_at k2⟩

def leftM (a b : Value) : Nat := match a, b with
  | .string t, .bool true => t.size + 1
  | _, _ => 0

theorem kept_block {w w' : World} {o : Obj} {B : Nat} {e T : TypeId} {size : Nat} {v : Value} {n : Nat} {xs : List Value} {b : Nat} {cs : Array Value} {fr : Nat × Nat} (hg : (w.alloc o).grownBy w' v.ownBlock) (hown : w.ownsRow B e size v n xs) (hb : w.heap[b]? = some (.cells cs T fr)) (hTe : T ≠ e) : w'.heap[b]? = some (.cells cs T fr) := by
  have h1 := new_old w o hb
  exact (hg.block b (lt_of_block h1) (fun q => own_ne (hown.alloc o) h1 hTe q.symm)).trans h1
theorem left_less {t t' : List UInt8} {more' : Bool} (h : (if more' then t'.length + 1 else 0) < t.length + 1) : leftM (.string (tx t')) (.bool more') < leftM (.string (tx t)) (.bool true) := by
  cases more' with
  | false => show 0 < (tx t).size + 1; omega
  | true =>
    show (tx t').size + 1 < (tx t).size + 1
    rw [tx_size, tx_size]
    simpa using h

set_option maxRecDepth 4000 in
set_option maxHeartbeats 2000000 in
theorem read_any (s : List UInt8) (w : World) (hs : s.length ≤ 1048576) : Calls Tryz.prog 54 #[.string (tx s)] w fun e w' => TextPost w s e w' := by
  have hmf : ∀ (fn : Fn) (first cap : Array Value) (w : World), (Instr.makeFunc fn first cap).run Tryz.prog w = .ok (.func fn first cap) w := fun _ _ _ _ => rfl
  obtain ⟨i0, hi, hz0, hz1, hz2⟩ := info_parts Tryz.infoWords
  have HI := hid hi
  have HZ0 := hid hz0
  have HZ1 := hid hz1
  have HZ2 := hid hz2
  clear hi hz0 hz1 hz2
  go_enter_defers Tryz.func54, Tryz.ntmps54
  go_wp2
  go_loopw [0, 6] (fun a b wr => ∃ v ls n t more, a = .string (tx t) ∧ b = .bool more ∧ Hid (RInv w s v ls n t more wr)) (fun a b _ => leftM a b)
  case atStart =>
    exact ⟨.slice none 0 0, [], 0, s, true, rfl, rfl, RInv.start w s⟩
  case round =>
    obtain ⟨v, ls, n, t, more, rfl, rfl, J⟩ := hrel
    obtain ⟨ao, cap, rfl⟩ := J.out.rows.form
    have hlen := J.out.len
    have hfew := J.out.few
    have c0 := cell_at (o := 0) J.out.l
    have f0 := free_of (o := 0) J.out.l
    cases more with
    | false =>
      have c1 := cell_at (o := 0) J.out.p
      have c2 := cell_at (o := 1) J.out.p
      have c3 : wr.cell? ⟨w.heap.size + 1 + 1, 0, none⟩ = some (.int .i64 0) := cell_at (o := 0) J.out.e
      have f1 := free_of (o := 0) J.out.p
      have f2 := free_of (o := 1) J.out.p
      have f3 : wr.frozen? ⟨w.heap.size + 1 + 1, 0, none⟩ = false := free_of (o := 0) J.out.e
      go_wp2
      refine leaves_cons (f := 89) (args := #[.pointer (some ⟨w.heap.size + 3, 0, none⟩), .pointer (some ⟨w.heap.size, 0, none⟩), .pointer (some ⟨w.heap.size + 1, 0, none⟩), .pointer (some ⟨w.heap.size + 2, 0, none⟩)]) (by simp) (by simp [go_sem]) ?_
      refine (caught_not _ _ _ _ _).mono ?_
      rintro e u' w'' ⟨rfl, rfl, rfl⟩
      refine ⟨.tuple #[.slice ao ls.length cap, .agg #[.int .i64 0, .int .i64 0], .int .i64 0], ?_, ?_⟩
      · simp [results, Tryz.results54, go_sem, c0, c1, c2, c3]
      · exact J.out.finish
    | true =>
      have hlenM := J.out.lenM rfl
      obtain ⟨c, u, hR⟩ := J.out.r
      have HR := hid hR
      clear hR
      go_wp2_with fail
      refine (Cut_line t _ (by omega)).mono ?_
      rintro e w1 ⟨line, t', more', rfl, HL, hm, hll, htl, hmm, k, rfl⟩
      go_wp2_with fail
      refine (words_any (w.heap.size + 3) n c u line _ (by exact HR.out) (by omega) (by omega)).mono ?_
      rintro e w2 ⟨c2, u2, R2, hg2, hP⟩
      have HR2 := hid R2
      have HG2 := hid (show wr.grownBy w2 (some (w.heap.size + 3)) from ⟨hg2.os, hg2.tape, hg2.output, hg2.size, hg2.block⟩)
      clear R2 hg2
      rcases hP with ⟨rfl, hf⟩ | ⟨x, rfl, hno, hx⟩
      · have HF := hid (J.out.fault HL.out hf)
        clear hf
        have g0 := block_grow J.out.l HG2.out (by omega)
        have g1 := block_grow J.out.p HG2.out (by omega)
        have g2 := block_grow J.out.e HG2.out (by omega)
        have hbel := hid (below_grow J.out.below HG2.out (Nat.le_of_lt (lt_of_block J.out.l)) (by omega))
        go_wp2
        refine leaves_cons (f := 89) (args := #[.pointer (some ⟨w.heap.size + 3, 0, none⟩), .pointer (some ⟨w.heap.size, 0, none⟩), .pointer (some ⟨w.heap.size + 1, 0, none⟩), .pointer (some ⟨w.heap.size + 2, 0, none⟩)]) (by simp) (by simp [go_sem]) ?_
        refine (caught w.heap.size (n + 1) c2 u2 _ _ _ _ (.int .i64 30) [] w2 HR2.out g0 g1 g2).mono ?_
        rintro e u' w'' ⟨rfl, rfl, rfl⟩
        refine ⟨.tuple #[.slice none 0 0, .agg #[.int .i64 ((n + 1 : Nat) : Int), .int .i64 (c2 : Int)], .int .i64 30], ?_, ?_⟩
        · have q := fault_cells (n := n + 1) (c := c2) g0 g1 g2
          obtain ⟨F, hF⟩ : ∃ F, F = (((w2.setCell ⟨w.heap.size, 0, none⟩ (.slice none 0 0)).setCell ⟨w.heap.size + 1, 0, none⟩ (.int .i64 ((n + 1 : Nat) : Int))).setCell ⟨w.heap.size + 1, 1, none⟩ (.int .i64 (c2 : Int))).setCell ⟨w.heap.size + 2, 0, none⟩ (.int .i64 30) := ⟨_, rfl⟩
          rw [← hF] at q ⊢
          clear hF
          obtain ⟨q0, q1, q2, q3⟩ := q
          have q3' : F.cell? ⟨w.heap.size + 1 + 1, 0, none⟩ = some (.int .i64 30) := q3
          push_cast at q1
          simp [results, Tryz.results54, go_sem, q0, q1, q2, q3']
        · refine ⟨?_, Or.inl ⟨n + 1, c2, HF.out, rfl⟩⟩
          exact (((hbel.out.setCell (by simp) _).setCell (by simp) _).setCell (by simp) _).setCell (by simp) _
      · obtain ⟨a1, cap1, rfl⟩ := own_form hx
        have HX := hid hx
        have HNO := hid hno
        clear hx hno
        have d0 := cell_at (o := 0) (block_grow J.out.l HG2.out (by omega))
        have k0 := free_of (o := 0) (block_grow J.out.l HG2.out (by omega))
        by_cases hz : (Wo.tk line 1).1 = []
        · have hlz : ((Wo.tk line 1).1.length : Int) = 0 := by rw [hz]; rfl
          have J2 := hid (J.out.next0 HL.out HNO.out hz (by omega) (fun h => by have := hmm h; omega) HR2.out HG2.out)
          clear hz
          go_wp2
          go_roundw
          case rel => exact ⟨_, ls, n + 1, t', more', rfl, rfl, J2⟩
          case measure =>
            exact left_less hm
        · have hlz : (0 : Int) < ((Wo.tk line 1).1.length : Int) := by
            have : (Wo.tk line 1).1.length ≠ 0 := fun e => hz (List.length_eq_zero_iff.1 e)
            omega
          obtain ⟨vs, hvs, hvl, hvi⟩ : LinesAt w2 w.heap.size (.slice ao ls.length cap) ls := by obtain ⟨c0, u0, h0⟩ := J.out.r; exact J.out.rows.kept h0 (by decide) (by decide) HG2.out
          have HVS := hid hvs
          have HVL := hid hvl
          have HVI := hid hvi
          have HZ := hid hz
          clear hvs hvl hvi hz
          have hsz2 : w.heap.size ≤ w2.heap.size := Nat.le_trans J.out.below.size HG2.out.size
          go_wp2_with (first | (at_builtin; refine wpList_append_own_at _ rfl _ _ 56 rfl w.heap.size 70 i0 (.slice none 0 0) 1 24 Tryz.underlying56 HI.out HZ0.out HZ1.out HZ2.out rfl (by decide) (.slice ao ls.length cap) ls.length vs rfl (HVS.out.alloc _) ⟨w2.heap.size, 0, none⟩ 1 1 [.slice a1 (Wo.tk line 1).1.length cap1] rfl rfl (new_cells _ #[.slice a1 (Wo.tk line 1).1.length cap1] _ _ rfl) ?c2 ?c3 ?c4 ?c5 ?_))
          case c2 => simp [Value.oneCell']
          case c3 => unfold maxLen; omega
          case c4 => omega
          case c5 => simp; omega
          intro v' w3 hown3 hgrow3 _ _
          obtain ⟨a3, cap3, rfl⟩ := own_form hown3
          have J3 := hid (J.out.next1 HL.out HNO.out HZ.out (by omega) (fun h => by have := hmm h; omega) HR2.out HG2.out (HX.out.mono (show w.heap.size ≤ wr.heap.size from J.out.below.size)) HVS.out HVL.out HVI.out hown3 hgrow3)
          have hB3 := kept_block hgrow3 HVS.out (block_grow J.out.l HG2.out (by omega)) (by decide)
          have m0 := cell_at (o := 0) hB3
          have n0 := free_of (o := 0) hB3
          clear hB3
          clear hown3 hgrow3
          go_wp2
          go_roundw
          case rel => exact ⟨_, _, n + 1, t', more', rfl, rfl, J3⟩
          case measure => exact left_less hm
end Go.Proofs.YtebaopiedlioiaaGreatDoor
namespace Go.Proofs.YtebaopiedlioiaaGreatDoor
open Go.RowKit

theorem text_fault {s : List UInt8} {n c : Nat} (h : (Wo.rd (Wo.lns s) 1).2 = some (n, c)) : Wo.read s = [] ∧ Wo.faultL s = n ∧ Wo.faultC s = c ∧ Wo.err s = 30 := by
  unfold Wo.read Wo.faultL Wo.faultC Wo.err
  rw [h]; exact ⟨rfl, rfl, rfl, rfl⟩
theorem text_well {s : List UInt8} (h : (Wo.rd (Wo.lns s) 1).2 = none) : Wo.read s = (Wo.rd (Wo.lns s) 1).1 ∧ Wo.faultL s = 0 ∧ Wo.faultC s = 0 ∧ Wo.err s = 0 := by
  unfold Wo.read Wo.faultL Wo.faultC Wo.err
  rw [h]; exact ⟨rfl, rfl, rfl, rfl⟩

set_option maxHeartbeats 400000 in
theorem Lines_long (s : ByteArray) (w : World) (hs : 1048576 < s.size) :
    Calls Tryz.prog 27 #[.string s] w fun e w' => e = .returned (.tuple #[.slice none 0 0, .int .i64 0, .int .i64 0, .int .i64 2]) ∧ Below w.heap.size w w' := by
  have hI : (1048576 : Int) < (s.size : Int) := by omega
  go_enter Tryz.func27, Tryz.ntmps27
  go_wp2
  refine bodyPost_ret (v := .tuple #[.slice none 0 0, .int .i64 0, .int .i64 0, .int .i64 2]) (by simp [results, Tryz.results27, go_sem]) rfl ⟨rfl, Below.refl _ _⟩

/-- What read answers, in one form. -/
theorem read_all (s : List UInt8) (w : World) (hs : s.length ≤ 1048576) : Calls Tryz.prog 54 #[.string (tx s)] w fun e w' =>
    ∃ v, e = .returned (.tuple #[v, .agg #[.int .i64 (Wo.faultL s), .int .i64 (Wo.faultC s)], .int .i64 (Wo.err s)]) ∧ Hid (LinesAt w' w.heap.size v (Wo.read s)) ∧ Below w.heap.size w w' := by
  refine (read_any s w hs).mono ?_
  rintro e w' ⟨hb, ⟨n, c, hf, rfl⟩ | ⟨v, hf, rfl, hL⟩⟩
  · obtain ⟨e1, e2, e3, e4⟩ := text_fault hf
    rw [e1, e2, e3, e4]
    exact ⟨_, rfl, LinesAt.nil _ _, hb⟩
  · obtain ⟨e1, e2, e3, e4⟩ := text_well hf
    rw [e1, e2, e3, e4]
    exact ⟨_, rfl, hL, hb⟩

set_option maxHeartbeats 400000 in
theorem Lines_any (s : List UInt8) (w : World) (hs : s.length ≤ 1048576) : Calls Tryz.prog 27 #[.string (tx s)] w fun e w' =>
    ∃ v, e = .returned (.tuple #[v, .int .i64 (Wo.faultL s), .int .i64 (Wo.faultC s), .int .i64 (Wo.err s)]) ∧ Hid (LinesAt w' w.heap.size v (Wo.read s)) ∧ Below w.heap.size w w' := by
  have q := read_all s w hs
  obtain ⟨a, ha⟩ : ∃ a, a = Wo.faultL s := ⟨_, rfl⟩
  obtain ⟨b, hb⟩ : ∃ b, b = Wo.faultC s := ⟨_, rfl⟩
  obtain ⟨d, hd⟩ : ∃ d, d = Wo.err s := ⟨_, rfl⟩
  rw [← ha, ← hb, ← hd] at q ⊢
  clear ha hb hd
  have hI : ¬ (1048576 : Int) < (s.length : Int) := by omega
  go_enter Tryz.func27, Tryz.ntmps27
  go_wp2_with fail
  refine q.mono ?_
  clear q
  rintro e w1 ⟨v, rfl, HL, hb1⟩
  obtain ⟨ao, cap, rfl⟩ := HL.out.form
  go_wp2
  go_quiet (fail)
  go_wp2
  refine bodyPost_ret (v := .tuple #[.slice ao (Wo.read s).length cap, .int .i64 a, .int .i64 b, .int .i64 d]) (by simp [results, Tryz.results27, go_sem]) rfl ⟨_, rfl, ?_, ?_⟩
  · exact HL.out.below (below_drewN ((Below.refl _ _).alloc (Nat.le_refl _) _))
  · exact below_drewN (hb1.alloc hb1.size _)
end Go.Proofs.YtebaopiedlioiaaGreatDoor
