/-
  The parser as a machine: what a word makes of its state, and that the program's word does so.
  The parser's word, where no expression goes on with it, and the parentheses beyond fifty.
-/
import Derived.Test.YtagppgncanimaaaGreatDoorZAwakeAnd
namespace Go.Proofs.YtagppgncanimaaaGreatDoor
open Go.RowKit

/-- What a word leaves with which no expression goes on. -/
def BadPost (B : Nat) (w : World) (pb : Nat) (vw : Value) (a b : Nat) (G : List (List Rx × List Rx)) (en : Ending) (w' : World) : Prop := en = .panicked panX ∧ PS B w' pb vw a b G ∧ Below B w w'

set_option maxRecDepth 20000 in
set_option maxHeartbeats 2000000 in
theorem word_end_bad {B : Nat} {w : World} {pb : Nat} {vw : Value} {a b : Nat} {ts : List (List UInt8)} {Gi : List (List Rx × List Rx)} {A P : List Rx} (h : PS B w pb vw a b (Gi ++ [(A, P)])) (hW : WdAt w vw ts) (ht : ts[a]? = some [41]) (hl : ts.length ≤ 1000000) (hn : Gi.length ≤ 100000) (hbad : Gi = [] ∨ A ≠ [] ∧ P = []) :
    Calls Tryz.prog 91 #[.pointer (some ⟨pb, 0, none⟩)] w fun en w' => BadPost B w pb vw a b (Gi ++ [(A, P)]) en w' := by
  obtain ⟨c0, c1, hB, hpl⟩ := h.cells
  have ha : a < ts.length := (List.getElem?_eq_some_iff.1 ht).1
  have HX := hid (gnext_any hW c0 c1 ht (by omega))
  have HOP := hid (fun (W : World) (hb : Below w.heap.size w W) => (end_bad (h.below hb) hn hbad : Calls Tryz.prog 120 #[.pointer (some ⟨pb, 0, none⟩)] W fun e w' => e = .panicked panX ∧ Below W.heap.size W w'))
  have HF := hid (fun (W w2 : World) (hb : Below w.heap.size w W) (hb2 : Below W.heap.size W w2) => (by exact ⟨rfl, (h.below hb).below hb2, (hb.mono (by omega)).trans (hb2.mono (by have := hb.size; omega))⟩ : BadPost B w pb vw a b (Gi ++ [(A, P)]) (.panicked panX) w2))
  clear h hW ht c0 c1 hn hbad
  go_enter Tryz.func91, Tryz.ntmps91
  go_wp2_with fail
  refine HX.out.mono ?_
  rintro en w1 ⟨rfl, hb1⟩
  have B1 := hid hb1
  clear hb1
  go_wp2_with fail
  refine (HOP.out _ B1.out).mono ?_
  rintro en w2 ⟨rfl, hb2⟩
  exact ⟨rfl, HF.out _ _ B1.out hb2⟩

set_option maxRecDepth 20000 in
set_option maxHeartbeats 2000000 in
theorem word_div_bad {B : Nat} {w : World} {pb : Nat} {vw : Value} {a b : Nat} {ts : List (List UInt8)} {Gi : List (List Rx × List Rx)} {A : List Rx} (h : PS B w pb vw a b (Gi ++ [(A, [])])) (hW : WdAt w vw ts) (ht : ts[a]? = some [124]) (hl : ts.length ≤ 1000000) (hn : Gi.length ≤ 100000) :
    Calls Tryz.prog 91 #[.pointer (some ⟨pb, 0, none⟩)] w fun en w' => BadPost B w pb vw a b (Gi ++ [(A, [])]) en w' := by
  obtain ⟨c0, c1, hB, hpl⟩ := h.cells
  have ha : a < ts.length := (List.getElem?_eq_some_iff.1 ht).1
  have HX := hid (gnext_any hW c0 c1 ht (by omega))
  have HOP := hid (fun (W : World) (hb : Below w.heap.size w W) => (divide_bad (h.below hb) hn : Calls Tryz.prog 121 #[.pointer (some ⟨pb, 0, none⟩)] W fun e w' => e = .panicked panX ∧ Below W.heap.size W w'))
  have HF := hid (fun (W w2 : World) (hb : Below w.heap.size w W) (hb2 : Below W.heap.size W w2) => (by exact ⟨rfl, (h.below hb).below hb2, (hb.mono (by omega)).trans (hb2.mono (by have := hb.size; omega))⟩ : BadPost B w pb vw a b (Gi ++ [(A, [])]) (.panicked panX) w2))
  clear h hW ht c0 c1 hn
  go_enter Tryz.func91, Tryz.ntmps91
  go_wp2_with fail
  refine HX.out.mono ?_
  rintro en w1 ⟨rfl, hb1⟩
  have B1 := hid hb1
  clear hb1
  go_wp2_with fail
  refine (HOP.out _ B1.out).mono ?_
  rintro en w2 ⟨rfl, hb2⟩
  exact ⟨rfl, HF.out _ _ B1.out hb2⟩

set_option maxRecDepth 20000 in
set_option maxHeartbeats 2000000 in
theorem word_rep_bad6 {B : Nat} {w : World} {pb : Nat} {vw : Value} {a b : Nat} {ts : List (List UInt8)} {Gi : List (List Rx × List Rx)} {A : List Rx} (h : PS B w pb vw a b (Gi ++ [(A, [])])) (hW : WdAt w vw ts) (ht : ts[a]? = some [42]) (hl : ts.length ≤ 1000000) (hn : Gi.length ≤ 100000) :
    Calls Tryz.prog 91 #[.pointer (some ⟨pb, 0, none⟩)] w fun en w' => BadPost B w pb vw a b (Gi ++ [(A, [])]) en w' := by
  obtain ⟨c0, c1, hB, hpl⟩ := h.cells
  have ha : a < ts.length := (List.getElem?_eq_some_iff.1 ht).1
  have KO6 := hid (fun (W : World) => (kindOf_any (w := W) (o := 6) (by omega)).mono fun e w' h => (⟨h.1, h.2.symm⟩ : e = .returned (.int .i64 6) ∧ W = w'))
  rw [show sgn1 6 = [42] from rfl] at KO6
  have HX := hid (gnext_any hW c0 c1 ht (by omega))
  have HOP := hid (fun (W : World) (hb : Below w.heap.size w W) => (repeat_bad (h.below hb) hn : Calls Tryz.prog 122 #[.pointer (some ⟨pb, 0, none⟩), .int .i64 6] W fun e w' => e = .panicked panX ∧ Below W.heap.size W w'))
  have HF := hid (fun (W w2 : World) (hb : Below w.heap.size w W) (hb2 : Below W.heap.size W w2) => (by exact ⟨rfl, (h.below hb).below hb2, (hb.mono (by omega)).trans (hb2.mono (by have := hb.size; omega))⟩ : BadPost B w pb vw a b (Gi ++ [(A, [])]) (.panicked panX) w2))
  clear h hW ht c0 c1 hn
  go_enter Tryz.func91, Tryz.ntmps91
  go_wp2_with fail
  refine HX.out.mono ?_
  rintro en w1 ⟨rfl, hb1⟩
  have B1 := hid hb1
  clear hb1
  go_wp2_with fail
  refine (KO6.out _).mono ?_
  rintro en w2 ⟨rfl, rfl⟩
  go_wp2_with fail
  refine (HOP.out _ B1.out).mono ?_
  rintro en w2 ⟨rfl, hb2⟩
  exact ⟨rfl, HF.out _ _ B1.out hb2⟩

set_option maxRecDepth 20000 in
set_option maxHeartbeats 2000000 in
theorem word_rep_bad7 {B : Nat} {w : World} {pb : Nat} {vw : Value} {a b : Nat} {ts : List (List UInt8)} {Gi : List (List Rx × List Rx)} {A : List Rx} (h : PS B w pb vw a b (Gi ++ [(A, [])])) (hW : WdAt w vw ts) (ht : ts[a]? = some [43]) (hl : ts.length ≤ 1000000) (hn : Gi.length ≤ 100000) :
    Calls Tryz.prog 91 #[.pointer (some ⟨pb, 0, none⟩)] w fun en w' => BadPost B w pb vw a b (Gi ++ [(A, [])]) en w' := by
  obtain ⟨c0, c1, hB, hpl⟩ := h.cells
  have ha : a < ts.length := (List.getElem?_eq_some_iff.1 ht).1
  have KO7 := hid (fun (W : World) => (kindOf_any (w := W) (o := 7) (by omega)).mono fun e w' h => (⟨h.1, h.2.symm⟩ : e = .returned (.int .i64 7) ∧ W = w'))
  rw [show sgn1 7 = [43] from rfl] at KO7
  have HX := hid (gnext_any hW c0 c1 ht (by omega))
  have HOP := hid (fun (W : World) (hb : Below w.heap.size w W) => (repeat_bad (h.below hb) hn : Calls Tryz.prog 122 #[.pointer (some ⟨pb, 0, none⟩), .int .i64 7] W fun e w' => e = .panicked panX ∧ Below W.heap.size W w'))
  have HF := hid (fun (W w2 : World) (hb : Below w.heap.size w W) (hb2 : Below W.heap.size W w2) => (by exact ⟨rfl, (h.below hb).below hb2, (hb.mono (by omega)).trans (hb2.mono (by have := hb.size; omega))⟩ : BadPost B w pb vw a b (Gi ++ [(A, [])]) (.panicked panX) w2))
  clear h hW ht c0 c1 hn
  go_enter Tryz.func91, Tryz.ntmps91
  go_wp2_with fail
  refine HX.out.mono ?_
  rintro en w1 ⟨rfl, hb1⟩
  have B1 := hid hb1
  clear hb1
  go_wp2_with fail
  refine (KO7.out _).mono ?_
  rintro en w2 ⟨rfl, rfl⟩
  go_wp2_with fail
  refine (HOP.out _ B1.out).mono ?_
  rintro en w2 ⟨rfl, hb2⟩
  exact ⟨rfl, HF.out _ _ B1.out hb2⟩

set_option maxRecDepth 20000 in
set_option maxHeartbeats 2000000 in
theorem word_rep_bad8 {B : Nat} {w : World} {pb : Nat} {vw : Value} {a b : Nat} {ts : List (List UInt8)} {Gi : List (List Rx × List Rx)} {A : List Rx} (h : PS B w pb vw a b (Gi ++ [(A, [])])) (hW : WdAt w vw ts) (ht : ts[a]? = some [63]) (hl : ts.length ≤ 1000000) (hn : Gi.length ≤ 100000) :
    Calls Tryz.prog 91 #[.pointer (some ⟨pb, 0, none⟩)] w fun en w' => BadPost B w pb vw a b (Gi ++ [(A, [])]) en w' := by
  obtain ⟨c0, c1, hB, hpl⟩ := h.cells
  have ha : a < ts.length := (List.getElem?_eq_some_iff.1 ht).1
  have KO8 := hid (fun (W : World) => (kindOf_any (w := W) (o := 8) (by omega)).mono fun e w' h => (⟨h.1, h.2.symm⟩ : e = .returned (.int .i64 8) ∧ W = w'))
  rw [show sgn1 8 = [63] from rfl] at KO8
  have HX := hid (gnext_any hW c0 c1 ht (by omega))
  have HOP := hid (fun (W : World) (hb : Below w.heap.size w W) => (repeat_bad (h.below hb) hn : Calls Tryz.prog 122 #[.pointer (some ⟨pb, 0, none⟩), .int .i64 8] W fun e w' => e = .panicked panX ∧ Below W.heap.size W w'))
  have HF := hid (fun (W w2 : World) (hb : Below w.heap.size w W) (hb2 : Below W.heap.size W w2) => (by exact ⟨rfl, (h.below hb).below hb2, (hb.mono (by omega)).trans (hb2.mono (by have := hb.size; omega))⟩ : BadPost B w pb vw a b (Gi ++ [(A, [])]) (.panicked panX) w2))
  clear h hW ht c0 c1 hn
  go_enter Tryz.func91, Tryz.ntmps91
  go_wp2_with fail
  refine HX.out.mono ?_
  rintro en w1 ⟨rfl, hb1⟩
  have B1 := hid hb1
  clear hb1
  go_wp2_with fail
  refine (KO8.out _).mono ?_
  rintro en w2 ⟨rfl, rfl⟩
  go_wp2_with fail
  refine (HOP.out _ B1.out).mono ?_
  rintro en w2 ⟨rfl, hb2⟩
  exact ⟨rfl, HF.out _ _ B1.out hb2⟩

set_option maxRecDepth 20000 in
set_option maxHeartbeats 2000000 in
theorem word_dev_bad {B : Nat} {w : World} {pb : Nat} {vw : Value} {a b : Nat} {ts : List (List UInt8)} {Gi : List (List Rx × List Rx)} {A P : List Rx} {t : List UInt8} (h : PS B w pb vw a b (Gi ++ [(A, P)])) (hW : WdAt w vw ts) (ht : ts[a]? = some t) (hl : ts.length ≤ 1000000) (hN : Wo.nameB t = false) (htl : t.length ≤ 1048576) (hs : t ≠ [40] ∧ t ≠ [41] ∧ t ≠ [124] ∧ t ≠ [42] ∧ t ≠ [43] ∧ t ≠ [63] ∧ t ≠ [46] ∧ t ≠ [36]) :
    Calls Tryz.prog 91 #[.pointer (some ⟨pb, 0, none⟩)] w fun en w' => BadPost B w pb vw a b (Gi ++ [(A, P)]) en w' := by
  obtain ⟨c0, c1, hB, hpl⟩ := h.cells
  have ha : a < ts.length := (List.getElem?_eq_some_iff.1 ht).1
  have HX := hid (gnext_any hW c0 c1 ht (by omega))
  have HOP := hid (fun (W : World) (hb : Below w.heap.size w W) => (named_bad (hW.on hb) (h.below hb).cells.1 (h.below hb).cells.2.1 (by omega) (by rw [List.getD_eq_getElem?_getD, ht]; rfl) htl (by omega) hN : Calls Tryz.prog 126 #[.pointer (some ⟨pb, 0, none⟩), .int .i64 1] W fun e w' => e = .panicked panX ∧ Below W.heap.size W w'))
  have HF := hid (fun (W w2 : World) (hb : Below w.heap.size w W) (hb2 : Below W.heap.size W w2) => (by exact ⟨rfl, (h.below hb).below hb2, (hb.mono (by omega)).trans (hb2.mono (by have := hb.size; omega))⟩ : BadPost B w pb vw a b (Gi ++ [(A, P)]) (.panicked panX) w2))
  clear h hW ht c0 c1 hN htl
  obtain ⟨s1, s2, s3, s4, s5, s6, s7, s8⟩ := hs
  rw [← beq_eq_false_iff_ne] at s1 s2 s3 s4 s5 s6 s7 s8
  go_enter Tryz.func91, Tryz.ntmps91
  go_wp2_with fail
  refine HX.out.mono ?_
  rintro en w1 ⟨rfl, hb1⟩
  have B1 := hid hb1
  clear hb1
  go_wp2_with fail
  refine (HOP.out _ B1.out).mono ?_
  rintro en w2 ⟨rfl, hb2⟩
  exact ⟨rfl, HF.out _ _ B1.out hb2⟩

set_option maxRecDepth 20000 in
set_option maxHeartbeats 2000000 in
theorem word_class_bad {B : Nat} {w : World} {pb : Nat} {vw : Value} {a b : Nat} {ts : List (List UInt8)} {Gi : List (List Rx × List Rx)} {A P : List Rx} {t : List UInt8} (h : PS B w pb vw a b (Gi ++ [(A, P)])) (hW : WdAt w vw ts) (ht0 : ts[a]? = some [36]) (ht : ts.getD (a + 1) [] = t) (htl : t.length ≤ 1048576) (hN : Wo.nameB t = false) (hl : ts.length ≤ 1000000) (hWB : ∀ W, Below B w W → WdAt W vw ts) :
    Calls Tryz.prog 91 #[.pointer (some ⟨pb, 0, none⟩)] w fun en w' => BadPost B w pb vw (a + 1) b (Gi ++ [(A, P)]) en w' := by
  obtain ⟨c0, c1, hB, hpl⟩ := h.cells
  have ha : a < ts.length := (List.getElem?_eq_some_iff.1 ht0).1
  have HX := hid (gnext_any hW c0 c1 ht0 (by omega))
  have HP1 := hid (fun (W : World) (hb : Below w.heap.size w W) => (pass_step (w := w) (en := .returned (.tuple #[])) ⟨rfl, h.below hb, hb.mono (by omega)⟩ (by omega) : Calls Tryz.prog 125 #[.pointer (some ⟨pb, 0, none⟩)] W fun en w' => StPost B w pb vw (a + 1) b (Gi ++ [(A, P)]) en w'))
  have HNM := hid (fun (W : World) (en : Ending) (hst : StPost B w pb vw (a + 1) b (Gi ++ [(A, P)]) en W) => (by
    refine (named_bad (op := 2) (hWB W hst.2.2) hst.2.1.cells.1 hst.2.1.cells.2.1 (by omega) ht htl (by omega) hN).mono ?_
    rintro e w' ⟨rfl, hb'⟩
    exact ⟨rfl, hst.2.1.below hb', hst.2.2.trans (hb'.mono (by have := hst.2.2.size; omega))⟩ : Calls Tryz.prog 126 #[.pointer (some ⟨pb, 0, none⟩), .int .i64 2] W fun e w' => BadPost B w pb vw (a + 1) b (Gi ++ [(A, P)]) e w'))
  clear h hW ht ht0 c0 c1 hN hWB htl
  go_enter Tryz.func91, Tryz.ntmps91
  go_wp2_with fail
  refine HX.out.mono ?_
  rintro en w1 ⟨rfl, hb1⟩
  have B1 := hid hb1
  clear hb1
  go_wp2_with fail
  refine (HP1.out _ B1.out).mono ?_
  rintro en w2 hst
  obtain rfl : en = .returned (.tuple #[]) := hst.1
  have HN2 := hid (HNM.out _ _ hst)
  clear hst
  go_wp2_with fail
  refine HN2.out.mono ?_
  rintro en w3 hst
  obtain rfl : en = .panicked panX := hst.1
  exact ⟨rfl, hst⟩

set_option maxRecDepth 20000 in
set_option maxHeartbeats 2000000 in
theorem word_begin_on {B : Nat} {w : World} {pb : Nat} {vw : Value} {a b : Nat} {ts : List (List UInt8)} {G : List (List Rx × List Rx)} (h : PS B w pb vw a b (G)) (hW : WdAt w vw ts) (ht : ts[a]? = some [40]) (hl : ts.length ≤ 1000000) (hn : G.length ≤ 100000) (h50 : G.length = 51) (hb0 : b ≠ 0) :
    Calls Tryz.prog 91 #[.pointer (some ⟨pb, 0, none⟩)] w fun en w' => StPost B w pb vw (a + 1) b (G ++ [([], [])]) en w' := by
  obtain ⟨c0, c1, hB, hpl⟩ := h.cells
  have ha : a < ts.length := (List.getElem?_eq_some_iff.1 ht).1
  have HX := hid (gnext_any hW c0 c1 ht (by omega))
  have HOP := hid (fun (W : World) (hb : Below w.heap.size w W) => (begin_on (h.below hb) hn h50 hb0 : Calls Tryz.prog 119 #[.pointer (some ⟨pb, 0, none⟩)] W fun en w' => StPost B W pb vw a b (G ++ [([], [])]) en w'))
  have HPA := hid (fun (W w2 : World) (en : Ending) (hb : Below w.heap.size w W) (hst : StPost B W pb vw a b (G ++ [([], [])]) en w2) => (pass_step (w := w) (en := en) ⟨hst.1, hst.2.1, (hb.mono (by omega)).trans hst.2.2⟩ (by omega) : Calls Tryz.prog 125 #[.pointer (some ⟨pb, 0, none⟩)] w2 fun en w' => StPost B w pb vw (a + 1) b (G ++ [([], [])]) en w'))
  clear h hW ht c0 c1 hn h50
  go_enter Tryz.func91, Tryz.ntmps91
  go_wp2_with fail
  refine HX.out.mono ?_
  rintro en w1 ⟨rfl, hb1⟩
  have B1 := hid hb1
  clear hb1
  go_wp2_with fail
  refine (HOP.out _ B1.out).mono ?_
  rintro en w2 hst
  obtain rfl : en = .returned (.tuple #[]) := hst.1
  have HPP := hid (HPA.out _ _ _ B1.out hst)
  clear hst
  go_wp2_with fail
  refine HPP.out.mono ?_
  rintro en w3 hst
  obtain rfl : en = .returned (.tuple #[]) := hst.1
  have HST := hid hst
  clear hst
  go_wp2
  exact bodyPost_end (v := .tuple #[]) (by simp [results, Tryz.results91, go_sem]) rfl HST.out

set_option maxRecDepth 20000 in
set_option maxHeartbeats 2000000 in
theorem word_begin_first {B : Nat} {w : World} {pb : Nat} {vw : Value} {a : Nat} {ts : List (List UInt8)} {G : List (List Rx × List Rx)} (h : PS B w pb vw a 0 (G)) (hW : WdAt w vw ts) (ht : ts[a]? = some [40]) (hl : ts.length ≤ 1000000) (hn : G.length ≤ 100000) (h50 : G.length = 51) :
    Calls Tryz.prog 91 #[.pointer (some ⟨pb, 0, none⟩)] w fun en w' => StPost B w pb vw (a + 1) a (G ++ [([], [])]) en w' := by
  obtain ⟨c0, c1, hB, hpl⟩ := h.cells
  have ha : a < ts.length := (List.getElem?_eq_some_iff.1 ht).1
  have HX := hid (gnext_any hW c0 c1 ht (by omega))
  have HOP := hid (fun (W : World) (hb : Below w.heap.size w W) => (begin_first (h.below hb) hn h50 : Calls Tryz.prog 119 #[.pointer (some ⟨pb, 0, none⟩)] W fun en w' => StPost B W pb vw a a (G ++ [([], [])]) en w'))
  have HPA := hid (fun (W w2 : World) (en : Ending) (hb : Below w.heap.size w W) (hst : StPost B W pb vw a a (G ++ [([], [])]) en w2) => (pass_step (w := w) (en := en) ⟨hst.1, hst.2.1, (hb.mono (by omega)).trans hst.2.2⟩ (by omega) : Calls Tryz.prog 125 #[.pointer (some ⟨pb, 0, none⟩)] w2 fun en w' => StPost B w pb vw (a + 1) a (G ++ [([], [])]) en w'))
  clear h hW ht c0 c1 hn h50
  go_enter Tryz.func91, Tryz.ntmps91
  go_wp2_with fail
  refine HX.out.mono ?_
  rintro en w1 ⟨rfl, hb1⟩
  have B1 := hid hb1
  clear hb1
  go_wp2_with fail
  refine (HOP.out _ B1.out).mono ?_
  rintro en w2 hst
  obtain rfl : en = .returned (.tuple #[]) := hst.1
  have HPP := hid (HPA.out _ _ _ B1.out hst)
  clear hst
  go_wp2_with fail
  refine HPP.out.mono ?_
  rintro en w3 hst
  obtain rfl : en = .returned (.tuple #[]) := hst.1
  have HST := hid hst
  clear hst
  go_wp2
  exact bodyPost_end (v := .tuple #[]) (by simp [results, Tryz.results91, go_sem]) rfl HST.out

set_option maxRecDepth 20000 in
set_option maxHeartbeats 2000000 in
theorem word_end_deep {B : Nat} {w : World} {pb : Nat} {vw : Value} {a b : Nat} {ts : List (List UInt8)} {Gi : List (List Rx × List Rx)} {A0 P0 A P : List Rx} (h : PS B w pb vw a b (Gi ++ [(A0, P0)] ++ [(A, P)])) (hW : WdAt w vw ts) (ht : ts[a]? = some [41]) (hl : ts.length ≤ 1000000) (hn : 50 ≤ Gi.length) (hn2 : Gi.length ≤ 100000) (hp0 : P0.length ≤ 1000000) (hP : P ≠ [] ∨ A = [] ∧ P = []) (hnn : nodesL A + nodesL P ≤ 900000) :
    Calls Tryz.prog 91 #[.pointer (some ⟨pb, 0, none⟩)] w fun en w' => StPost B w pb vw (a + 1) b (Gi ++ [(A0, P0 ++ [.mk 4 [] []])]) en w' := by
  obtain ⟨c0, c1, hB, hpl⟩ := h.cells
  have ha : a < ts.length := (List.getElem?_eq_some_iff.1 ht).1
  have HX := hid (gnext_any hW c0 c1 ht (by omega))
  have HOP := hid (fun (W : World) (hb : Below w.heap.size w W) => (end_deep (h.below hb) hn hn2 hp0 hP hnn : Calls Tryz.prog 120 #[.pointer (some ⟨pb, 0, none⟩)] W fun en w' => StPost B W pb vw a b (Gi ++ [(A0, P0 ++ [.mk 4 [] []])]) en w'))
  have HPA := hid (fun (W w2 : World) (en : Ending) (hb : Below w.heap.size w W) (hst : StPost B W pb vw a b (Gi ++ [(A0, P0 ++ [.mk 4 [] []])]) en w2) => (pass_step (w := w) (en := en) ⟨hst.1, hst.2.1, (hb.mono (by omega)).trans hst.2.2⟩ (by omega) : Calls Tryz.prog 125 #[.pointer (some ⟨pb, 0, none⟩)] w2 fun en w' => StPost B w pb vw (a + 1) b (Gi ++ [(A0, P0 ++ [.mk 4 [] []])]) en w'))
  clear h hW ht c0 c1 hn hp0 hP hnn
  go_enter Tryz.func91, Tryz.ntmps91
  go_wp2_with fail
  refine HX.out.mono ?_
  rintro en w1 ⟨rfl, hb1⟩
  have B1 := hid hb1
  clear hb1
  go_wp2_with fail
  refine (HOP.out _ B1.out).mono ?_
  rintro en w2 hst
  obtain rfl : en = .returned (.tuple #[]) := hst.1
  have HPP := hid (HPA.out _ _ _ B1.out hst)
  clear hst
  go_wp2_with fail
  refine HPP.out.mono ?_
  rintro en w3 hst
  obtain rfl : en = .returned (.tuple #[]) := hst.1
  have HST := hid hst
  clear hst
  go_wp2
  exact bodyPost_end (v := .tuple #[]) (by simp [results, Tryz.results91, go_sem]) rfl HST.out

end Go.Proofs.YtagppgncanimaaaGreatDoor
namespace Go.Proofs.YtagppgncanimaaaGreatDoor
open Go.RowKit

abbrev GpX := List (List Rx × List Rx)
/-- What a word leaves: a state, or the place of the fault. -/
inductive Res where
  | go (a b : Nat) (G : GpX)
  | bad (a : Nat)
/-- A part behind those of the innermost group. -/
def popM (Gi : GpX) (r : Rx) : GpX := match Gi.getLast? with
  | none => []
  | some g => Gi.dropLast ++ [(g.1, g.2 ++ [r])]
/-- A sign behind the last part. -/
def repM (op : Int) (P : List Rx) : List Rx := match P.getLast? with
  | none => []
  | some r => P.dropLast ++ [.mk op [] [r]]
theorem popM_snoc (Gj : GpX) (A P : List Rx) (r : Rx) : popM (Gj ++ [(A, P)]) r = Gj ++ [(A, P ++ [r])] := by simp [popM]
theorem repM_snoc (op : Int) (P : List Rx) (r : Rx) : repM op (P ++ [r]) = P ++ [.mk op [] [r]] := by simp [repM]
/-- A word is read. -/
def stepL (ts : List (List UInt8)) (a b : Nat) (Gi : GpX) (A P : List Rx) : Res :=
  if ts.getD a [] = [40] then .go (a + 1) (if Gi.length = 50 ∧ b = 0 then a else b) (Gi ++ [(A, P)] ++ [([], [])])
  else if ts.getD a [] = [41] then (if (Gi.isEmpty || (!A.isEmpty && P.isEmpty)) = true then .bad a else .go (a + 1) b (popM Gi (if 50 < Gi.length then .mk 4 [] [] else wholeR A P)))
  else if ts.getD a [] = [124] then (if P.isEmpty = true then .bad a else .go (a + 1) b (Gi ++ [(A ++ [joinR 4 P], [])]))
  else if ts.getD a [] = [42] then (if P.isEmpty = true then .bad a else .go (a + 1) b (Gi ++ [(A, repM 6 P)]))
  else if ts.getD a [] = [43] then (if P.isEmpty = true then .bad a else .go (a + 1) b (Gi ++ [(A, repM 7 P)]))
  else if ts.getD a [] = [63] then (if P.isEmpty = true then .bad a else .go (a + 1) b (Gi ++ [(A, repM 8 P)]))
  else if ts.getD a [] = [46] then .go (a + 1) b (Gi ++ [(A, P ++ [.mk 3 [] []])])
  else if ts.getD a [] = [36] then (if Wo.nameB (ts.getD (a + 1) []) = true then .go (a + 2) b (Gi ++ [(A, P ++ [.mk 2 (ts.getD (a + 1) []) []])]) else .bad (a + 1))
  else if Wo.nameB (ts.getD a []) = true then .go (a + 1) b (Gi ++ [(A, P ++ [.mk 1 (ts.getD a []) []])]) else .bad a
/-- What the program's word leaves. -/
def StOut (B : Nat) (w : World) (pb : Nat) (vw : Value) (b : Nat) (G : GpX) (R : Res) (en : Ending) (w' : World) : Prop := match R with
  | .go a' b' G' => StPost B w pb vw a' b' G' en w'
  | .bad a' => BadPost B w pb vw a' b G en w'
/-- All nodes of the groups. -/
def nodesG (G : GpX) : Nat := (G.map fun g => nodesL g.1 + nodesL g.2).sum
theorem nodesG_snoc (G : GpX) (A P : List Rx) : nodesG (G ++ [(A, P)]) = nodesG G + (nodesL A + nodesL P) := by simp [nodesG]
theorem snoc_of {α : Type} {l : List α} (h : l ≠ []) : ∃ i x, l = i ++ [x] := ⟨l.dropLast, l.getLast h, (List.dropLast_concat_getLast h).symm⟩

theorem word_step {B : Nat} {w : World} {pb : Nat} {vw : Value} {a b : Nat} {ts : List (List UInt8)} {Gi : GpX} {A P : List Rx} (h : PS B w pb vw a b (Gi ++ [(A, P)])) (hWB : ∀ W, Below B w W → WdAt W vw ts) (ha : a < ts.length) (htl : ∀ t ∈ ts, t.length ≤ 1048576) (hl : ts.length ≤ 1000000) (hn : Gi.length ≤ 99999) (hnn : nodesG (Gi ++ [(A, P)]) ≤ 900000) :
    Calls Tryz.prog 91 #[.pointer (some ⟨pb, 0, none⟩)] w fun en w' => StOut B w pb vw b (Gi ++ [(A, P)]) (stepL ts a b Gi A P) en w' := by
  have hW := hWB w (Below.refl _ _)
  obtain ⟨t, ht⟩ : ∃ t, ts[a]? = some t := ⟨ts[a], List.getElem?_eq_getElem ha⟩
  have hg : ts.getD a [] = t := by rw [List.getD_eq_getElem?_getD, ht]; rfl
  have htn : t.length ≤ 1048576 := htl t (List.mem_of_getElem? ht)
  rw [nodesG_snoc] at hnn
  have hPl := length_le P
  have hAl := length_le A
  unfold stepL
  rw [hg]
  by_cases s1 : t = [40]
  · rw [if_pos s1]
    subst s1
    by_cases h5 : Gi.length = 50
    · by_cases hb : b = 0
      · subst hb
        rw [if_pos ⟨h5, rfl⟩]
        exact word_begin_first h hW ht hl (by simp; omega) (by simp; omega)
      · rw [if_neg (fun q => hb q.2)]
        exact word_begin_on h hW ht hl (by simp; omega) (by simp; omega) hb
    · rw [if_neg (fun q => h5 q.1)]
      exact word_begin h hW ht hl (by simp; omega) (by simp; omega)
  rw [if_neg s1]
  by_cases s2 : t = [41]
  · rw [if_pos s2]
    subst s2
    by_cases hc : (Gi.isEmpty || (!A.isEmpty && P.isEmpty)) = true
    · rw [if_pos hc]
      refine word_end_bad h hW ht hl (by omega) ?_
      rw [Bool.or_eq_true, Bool.and_eq_true] at hc
      rcases hc with hc | hc
      · exact Or.inl (by simpa using hc)
      · exact Or.inr (by simpa using hc)
    · rw [if_neg hc]
      have hne : Gi ≠ [] := fun e => hc (by rw [e]; rfl)
      have hAP : P ≠ [] ∨ A = [] ∧ P = [] := by
        by_cases hP : P = []
        · refine Or.inr ⟨?_, hP⟩
          cases A with
          | nil => rfl
          | cons x y => exact absurd (by rw [hP]; simp) hc
        · exact Or.inl hP
      obtain ⟨Gj, ⟨A0, P0⟩, rfl⟩ := snoc_of hne
      rw [popM_snoc]
      rw [nodesG_snoc] at hnn
      have hP0 := length_le P0
      by_cases h5 : 50 < (Gj ++ [(A0, P0)]).length
      · rw [if_pos h5]
        simp at h5 hn
        exact word_end_deep h hW ht hl (by omega) (by omega) (by omega) hAP (by omega)
      · rw [if_neg h5]
        simp at h5
        exact word_end h hW ht hl (by omega) (by omega) hAP (by omega)
  rw [if_neg s2]
  by_cases s3 : t = [124]
  · rw [if_pos s3]
    subst s3
    by_cases hP : P = []
    · subst hP
      exact word_div_bad h hW ht hl (by omega)
    · rw [if_neg (by simpa using hP)]
      exact word_div h hW ht hl (by omega) hP (by omega)
  rw [if_neg s3]
  by_cases s4 : t = [42]
  · rw [if_pos s4]
    subst s4
    by_cases hP : P = []
    · subst hP
      exact word_rep_bad6 h hW ht hl (by omega)
    · rw [if_neg (by simpa using hP)]
      obtain ⟨Pi, r, rfl⟩ := snoc_of hP
      rw [repM_snoc]
      exact word_rep h hW (Or.inl rfl) ht hl (by omega) (by simp at hPl; omega)
  rw [if_neg s4]
  by_cases s5 : t = [43]
  · rw [if_pos s5]
    subst s5
    by_cases hP : P = []
    · subst hP
      exact word_rep_bad7 h hW ht hl (by omega)
    · rw [if_neg (by simpa using hP)]
      obtain ⟨Pi, r, rfl⟩ := snoc_of hP
      rw [repM_snoc]
      exact word_rep h hW (Or.inr (Or.inl rfl)) ht hl (by omega) (by simp at hPl; omega)
  rw [if_neg s5]
  by_cases s6 : t = [63]
  · rw [if_pos s6]
    subst s6
    by_cases hP : P = []
    · subst hP
      exact word_rep_bad8 h hW ht hl (by omega)
    · rw [if_neg (by simpa using hP)]
      obtain ⟨Pi, r, rfl⟩ := snoc_of hP
      rw [repM_snoc]
      exact word_rep h hW (Or.inr (Or.inr rfl)) ht hl (by omega) (by simp at hPl; omega)
  rw [if_neg s6]
  by_cases s7 : t = [46]
  · rw [if_pos s7]
    subst s7
    exact word_dot h hW ht hl (by omega) (by omega)
  rw [if_neg s7]
  by_cases s8 : t = [36]
  · rw [if_pos s8]
    subst s8
    by_cases hN : Wo.nameB (ts.getD (a + 1) []) = true
    · rw [if_pos hN]
      have h1 : a + 1 < ts.length := by
        refine Nat.lt_of_not_le fun hle => ?_
        rw [List.getD_eq_getElem?_getD, List.getElem?_eq_none hle] at hN
        exact absurd hN (by decide)
      refine word_class h hW ht ?_ hN hl (by omega) (by omega) hWB
      rw [List.getD_eq_getElem?_getD, List.getElem?_eq_getElem h1]; rfl
    · rw [if_neg hN]
      refine word_class_bad h hW ht rfl ?_ (by simpa using hN) hl hWB
      by_cases h1 : a + 1 < ts.length
      · rw [List.getD_eq_getElem?_getD, List.getElem?_eq_getElem h1]
        exact htl _ (List.getElem_mem h1)
      · rw [List.getD_eq_getElem?_getD, List.getElem?_eq_none (by omega)]; simp
  rw [if_neg s8]
  by_cases hN : Wo.nameB t = true
  · rw [if_pos hN]
    exact word_dev h hW ht hN hl (by omega) (by omega)
  · rw [if_neg hN]
    exact word_dev_bad h hW ht hl (by simpa using hN) htn ⟨s1, s2, s3, s4, s5, s6, s7, s8⟩
/-- What a word that is read keeps. -/
theorem stepL_inv {ts : List (List UInt8)} {a b a' b' : Nat} {Gi G' : GpX} {A P : List Rx} (ha : a < ts.length) (h : stepL ts a b Gi A P = .go a' b' G') : a < a' ∧ a' ≤ ts.length ∧ G' ≠ [] ∧ nodesG G' + 2 * a ≤ nodesG (Gi ++ [(A, P)]) + 2 * a' ∧ G'.length + a ≤ Gi.length + 1 + a' := by
  have hw : (wholeR A P).nodes ≤ nodesL A + nodesL P + 2 := by
    unfold wholeR
    have h1 := joinR_nodes 5 (A ++ [joinR 4 P])
    have h2 := joinR_nodes 4 P
    rw [nodesL_append, nodesL_cons] at h1
    simp [nodesL] at h1 h2 ⊢
    omega
  have hj := joinR_nodes 4 P
  have hrep : ∀ (op : Int) (P : List Rx), nodesL (repM op P) ≤ nodesL P + 1 := fun op P => by
    by_cases hP : P = []
    · subst hP; simp [repM, nodesL]
    · obtain ⟨Pi, r, rfl⟩ := snoc_of hP
      rw [repM_snoc, nodesL_append, nodesL_append, nodesL_cons, nodesL_cons, Rx.nodes_kids (.mk op [] [r])]
      simp [nodesL, Rx.kids]
      omega
  have hpop : ∀ r : Rx, Gi ≠ [] → popM Gi r ≠ [] ∧ nodesG (popM Gi r) = nodesG Gi + r.nodes ∧ (popM Gi r).length = Gi.length := fun r hne => by
    obtain ⟨Gj, ⟨A0, P0⟩, rfl⟩ := snoc_of hne
    rw [popM_snoc, nodesG_snoc, nodesG_snoc, nodesL_append, nodesL_cons]
    simp [nodesL]
    omega
  have r6 := hrep 6 P
  have r7 := hrep 7 P
  have r8 := hrep 8 P
  unfold stepL at h
  rw [nodesG_snoc]
  split at h
  · injection h with e1 e2 e3
    subst e1 e3
    refine ⟨by omega, by omega, by simp, ?_, by simp; omega⟩
    rw [nodesG_snoc, nodesG_snoc]; simp [nodesL]; omega
  split at h
  · split at h
    · cases h
    · rename_i hc
      injection h with e1 e2 e3
      subst e1 e3
      have hne : Gi ≠ [] := fun e => hc (by rw [e]; rfl)
      obtain ⟨q1, q2, q3⟩ := hpop (if 50 < Gi.length then .mk 4 [] [] else wholeR A P) hne
      refine ⟨by omega, by omega, q1, ?_, by omega⟩
      rw [q2]
      split
      · rw [Rx.nodes_kids]; simp [nodesL, Rx.kids]; omega
      · omega
  split at h
  · split at h
    · cases h
    · injection h with e1 e2 e3
      subst e1 e3
      refine ⟨by omega, by omega, by simp, ?_, by simp⟩
      rw [nodesG_snoc, nodesL_append, nodesL_cons]
      simp [nodesL] at hj ⊢
      omega
  split at h
  · split at h
    · cases h
    · injection h with e1 e2 e3
      subst e1 e3
      refine ⟨by omega, by omega, by simp, ?_, by simp⟩
      rw [nodesG_snoc]; omega
  split at h
  · split at h
    · cases h
    · injection h with e1 e2 e3
      subst e1 e3
      refine ⟨by omega, by omega, by simp, ?_, by simp⟩
      rw [nodesG_snoc]; omega
  split at h
  · split at h
    · cases h
    · injection h with e1 e2 e3
      subst e1 e3
      refine ⟨by omega, by omega, by simp, ?_, by simp⟩
      rw [nodesG_snoc]; omega
  have leaf : ∀ (o : Int) (m : List UInt8), (Rx.mk o m []).nodes = 1 := fun o m => by rw [Rx.nodes_kids]; simp [nodesL, Rx.kids]
  split at h
  · injection h with e1 e2 e3
    subst e1 e3
    refine ⟨by omega, by omega, by simp, ?_, by simp⟩
    rw [nodesG_snoc, nodesL_append, nodesL_cons, leaf]; simp [nodesL]; omega
  split at h
  · split at h
    · rename_i hN
      injection h with e1 e2 e3
      subst e1 e3
      have h1 : a + 1 < ts.length := by
        refine Nat.lt_of_not_le fun hle => ?_
        rw [List.getD_eq_getElem?_getD, List.getElem?_eq_none hle] at hN
        exact absurd hN (by decide)
      refine ⟨by omega, by omega, by simp, ?_, by simp⟩
      rw [nodesG_snoc, nodesL_append, nodesL_cons, leaf]; simp [nodesL]; omega
    · cases h
  split at h
  · injection h with e1 e2 e3
    subst e1 e3
    refine ⟨by omega, by omega, by simp, ?_, by simp⟩
    rw [nodesG_snoc, nodesL_append, nodesL_cons, leaf]; simp [nodesL]; omega
  · cases h
end Go.Proofs.YtagppgncanimaaaGreatDoor
