/-
  The program's Parse, where the text's words make an expression.
  The program's Read and Parse, where the words make an expression.
  The program's parse, where the words make an expression.
  The parser's word: a device, a class.
  The parser's word: signs, any device, a class, a device.
  The parser's word: a bar.
  The parser's word: one word read, where an expression goes on with it.
  The parser's kindOf and named.
-/
import Derived.Test.YtagppgncanimaaaGreatDoorZNoneAnd
import Derived.Test.YtagppgncanimaaaGreatDoorWClone
import Derived.Test.YtagppgncanimaaaGreatDoorYEndAnd
import Derived.Test.YtagppgncanimaaaGreatDoorZTakeAnd
import Derived.Test.YtagppgncanimaaaGreatDoorWBuildAnd
import Derived.Test.YtagppgncanimaaaGreatDoorWRefMAnd
namespace Go.Proofs.YtagppgncanimaaaGreatDoor
open Go.RowKit

set_option maxRecDepth 20000 in
set_option maxHeartbeats 2000000 in
theorem kindOf_any {w : World} {o : Int} (ho : o = 6 ∨ o = 7 ∨ o = 8) : Calls Tryz.prog 123 #[.string (tx (sgn1 o))] w fun e w' => e = .returned (.int .i64 o) ∧ w' = w := by
  have HS := hid (fun (op : Int) => (show Calls Tryz.prog 53 #[.int .i64 op] w fun e w' => e = .returned (.string (tx (sgn1 op))) ∧ w = w' from (signOf_any (w := w) (op := op)).mono fun _ _ h => ⟨h.1, h.2.symm⟩))
  have H6 := hid (HS.out 6)
  have H7 := hid (HS.out 7)
  have H8 := hid (HS.out 8)
  rw [show sgn1 6 = [42] from rfl] at H6
  rw [show sgn1 7 = [43] from rfl] at H7
  rw [show sgn1 8 = [63] from rfl] at H8
  clear HS
  go_enter Tryz.func123, Tryz.ntmps123
  go_wp2_with fail
  go_loopw [3] (fun i wr => ∃ j : Int, i = .int .i64 j ∧ 6 ≤ j ∧ j ≤ o ∧ wr = w) (fun i _ => (9 - intOf i).toNat)
  case atStart => exact ⟨6, rfl, by omega, by omega, rfl⟩
  case round =>
    obtain ⟨j, rfl, h1, h2, rfl⟩ := hrel
    rcases ho with rfl | rfl | rfl
    · obtain rfl : j = 6 := by omega
      go_wp2_with (first | (go_at_call 53; refine H6.out.mono ?_; rintro e w2 ⟨rfl, rfl⟩))
      go_ret
      exact ⟨rfl, rfl⟩
    · have h3 : j = 6 ∨ j = 7 := by omega
      rcases h3 with rfl | rfl
      · go_wp2_with (first | (go_at_call 53; refine H6.out.mono ?_; rintro e w2 ⟨rfl, rfl⟩))
        go_roundw
        case rel => exact ⟨7, rfl, by omega, by omega, trivial⟩
        case measure => simp [intOf]
      · go_wp2_with (first | (go_at_call 53; refine H7.out.mono ?_; rintro e w2 ⟨rfl, rfl⟩))
        go_ret
        exact ⟨rfl, rfl⟩
    · have h3 : j = 6 ∨ j = 7 ∨ j = 8 := by omega
      rcases h3 with rfl | rfl | rfl
      · go_wp2_with (first | (go_at_call 53; refine H6.out.mono ?_; rintro e w2 ⟨rfl, rfl⟩))
        go_roundw
        case rel => exact ⟨7, rfl, by omega, by omega, trivial⟩
        case measure => simp [intOf]
      · go_wp2_with (first | (go_at_call 53; refine H7.out.mono ?_; rintro e w2 ⟨rfl, rfl⟩))
        go_roundw
        case rel => exact ⟨8, rfl, by omega, by omega, trivial⟩
        case measure => simp [intOf]
      · go_wp2_with (first | (go_at_call 53; refine H8.out.mono ?_; rintro e w2 ⟨rfl, rfl⟩))
        go_ret
        exact ⟨rfl, rfl⟩

set_option maxRecDepth 20000 in
set_option maxHeartbeats 2000000 in
theorem named_any {w : World} {pb a : Nat} {vw : Value} {ts : List (List UInt8)} {t : List UInt8} {op : Int} (hW : WdAt w vw ts) (h0 : w.cell? ⟨pb, 0, none⟩ = some vw) (h1 : w.cell? ⟨pb, 1, none⟩ = some (.int .i64 a)) (ht : ts[a]? = some t) (hn : ts.length ≤ 10000000) (hN : Wo.nameB t = true) :
    Calls Tryz.prog 126 #[.pointer (some ⟨pb, 0, none⟩), .int .i64 op] w fun e w' => e = .returned (.agg #[.int .i64 op, .string (tx t), .slice none 0 0]) ∧ Below w.heap.size w w' := by
  have hlen : 0 < t.length ∧ t.length ≤ 64 := by
    obtain ⟨h0, h64, _⟩ := of_decide_eq_true hN
    exact ⟨List.length_pos_iff.2 h0, h64⟩
  have HNX := hid (fun (W : World) (hb : Below w.heap.size w W) => gnext_any (pb := pb) (hW.on hb) ((hb.cell (by exact World.block_lt_of_cell? w _ h0)).trans h0) ((hb.cell (by exact World.block_lt_of_cell? w _ h1)).trans h1) ht hn)
  have HNM := hid (fun (W : World) => (show Calls Tryz.prog 82 #[.string (tx t)] W fun e W' => e = .returned (.bool true) ∧ W = W' from (Name_any (tx t) W (by unfold maxLen; rw [← list_size]; show t.length ≤ _; omega)).mono fun e W' h => ⟨by rw [h.1]; show _ = Ending.returned (.bool true); rw [← hN], h.2.symm⟩))
  have HCL := hid (fun (W : World) => Clone_any (tx t) W (by rw [← list_size]; exact hlen.1) (by rw [← list_size]; show t.length ≤ _; omega))
  clear hW h0 h1 ht hn hN hlen
  go_enter Tryz.func126, Tryz.ntmps126
  go_wp2_with fail
  refine (HNX.out _ ((Below.refl _ _).alloc (Nat.le_refl _) _)).mono ?_
  rintro en w1 ⟨rfl, hb1⟩
  have B1 := hid (show Below w.heap.size w w1 from ((Below.refl _ _).alloc (Nat.le_refl _) _).trans (hb1.mono (by simp)))
  have B1' := hid hb1
  clear hb1
  go_wp2_with fail
  refine (HNM.out _).mono ?_
  rintro en w2 ⟨rfl, rfl⟩
  go_wp2_with fail
  refine (must_true).mono ?_
  rintro en w2 ⟨rfl, rfl⟩
  go_wp2_with fail
  refine (HCL.out _).mono ?_
  rintro en w3 ⟨rfl, hb3⟩
  have B3 := hid (show Below w.heap.size w w3 from below_2x B1.out hb3)
  have hbx : w3.heap[w.heap.size]? = some (.cells #[.int .i64 0, .string ⟨#[]⟩, .slice none 0 0] 25 (0, 0)) := by
    have h1 := B1'.out.block w.heap.size (by simp)
    have h2 := hb3.block w.heap.size (by have := B1'.out.size; simp at this; omega)
    rw [h2, h1]; exact new_0 _ _
  have x0 : w3.cell? ⟨w.heap.size, 0, none⟩ = some (.int .i64 0) := by rw [cell_at hbx]; rfl
  have x1 : w3.cell? ⟨w.heap.size, 1, none⟩ = some (.string ⟨#[]⟩) := by rw [cell_at hbx]; rfl
  have x2 : w3.cell? ⟨w.heap.size, 2, none⟩ = some (.slice none 0 0) := by rw [cell_at hbx]; rfl
  have y0 : w3.frozen? ⟨w.heap.size, 0, none⟩ = false := free_of hbx
  have y1 : w3.frozen? ⟨w.heap.size, 1, none⟩ = false := free_of hbx
  have y2 : w3.frozen? ⟨w.heap.size, 2, none⟩ = false := free_of hbx
  clear hbx hb3
  go_wp2
  refine bodyPost_ret (v := .agg #[.int .i64 op, .string (tx t), .slice none 0 0]) (by simp [results, Tryz.results126, go_sem, x0, x1, x2]) rfl ⟨rfl, ?_⟩
  exact ((B3.out.setCell (Nat.le_refl _) _).setCell (Nat.le_refl _) _).setCell (Nat.le_refl _) _
end Go.Proofs.YtagppgncanimaaaGreatDoor
namespace Go.Proofs.YtagppgncanimaaaGreatDoor
open Go.RowKit

/-- The place was passed on. -/
theorem PS.pass {B : Nat} {w : World} {pb : Nat} {vw : Value} {a b : Nat} {G : List (List Rx × List Rx)} (h : PS B w pb vw a b G) (a' : Nat) : PS B (w.setCell ⟨pb, 1, none⟩ (.int .i64 a')) pb vw a' b G := by
  obtain ⟨K, vg, gs, h, habs⟩ := h
  refine ⟨K, vg, gs, h.chg (fun k _ hk _ => Below.heap_setCell _ _ _ _ (by exact hk)) (by simp) ?_ ?_ (fun g hg => Or.inl hg) h.nd, habs⟩
  · rw [heap_setCell_same w pb 1 _ _ _ h.blk]; rfl
  · refine own_farX h.own fun e => ?_
    obtain ⟨cs, hc⟩ := own_block h.own e
    exact ne_typeX hc h.blk (by decide) rfl
theorem PS.cells {B : Nat} {w : World} {pb : Nat} {vw : Value} {a b : Nat} {G : List (List Rx × List Rx)} (h : PS B w pb vw a b G) : w.cell? ⟨pb, 0, none⟩ = some vw ∧ w.cell? ⟨pb, 1, none⟩ = some (.int .i64 a) ∧ B ≤ pb ∧ pb < w.heap.size := by
  obtain ⟨K, vg, gs, h, habs⟩ := h
  exact ⟨h.cells.1.1, h.cells.1.2.1, h.hB, h.pbl⟩
/-- pass, behind a step. -/
theorem pass_step {B : Nat} {w W : World} {pb : Nat} {vw : Value} {a b : Nat} {G : List (List Rx × List Rx)} {en : Ending} (h : StPost B w pb vw a b G en W) (ha : a ≤ 10000000) : Calls Tryz.prog 125 #[.pointer (some ⟨pb, 0, none⟩)] W fun en w' => StPost B w pb vw (a + 1) b G en w' := by
  obtain ⟨_, hps, hb⟩ := h
  have hps' := hps
  obtain ⟨K, vg, gs, h1, habs⟩ := hps'
  refine (gpass_any h1.blk ha).mono ?_
  rintro e w' ⟨rfl, rfl⟩
  exact ⟨rfl, hps.pass (a + 1), hb.setCell (by exact h1.hB) _⟩

set_option maxRecDepth 20000 in
set_option maxHeartbeats 2000000 in
theorem word_begin {B : Nat} {w : World} {pb : Nat} {vw : Value} {a b : Nat} {ts : List (List UInt8)} {G : List (List Rx × List Rx)} (h : PS B w pb vw a b (G)) (hW : WdAt w vw ts) (ht : ts[a]? = some [40]) (hl : ts.length ≤ 1000000) (hn : G.length ≤ 100000) (h50 : G.length ≠ 51) :
    Calls Tryz.prog 91 #[.pointer (some ⟨pb, 0, none⟩)] w fun en w' => StPost B w pb vw (a + 1) b (G ++ [([], [])]) en w' := by
  obtain ⟨c0, c1, hB, hpl⟩ := h.cells
  have ha : a < ts.length := (List.getElem?_eq_some_iff.1 ht).1
  have HX := hid (gnext_any hW c0 c1 ht (by omega))
  have HOP := hid (fun (W : World) (hb : Below w.heap.size w W) => (begin_any (h.below hb) hn h50 : Calls Tryz.prog 119 #[.pointer (some ⟨pb, 0, none⟩)] W fun en w' => StPost B W pb vw a b (G ++ [([], [])]) en w'))
  have HPA := hid (fun (W w2 : World) (en : Ending) (hb : Below w.heap.size w W) (hst : StPost B W pb vw a b (G ++ [([], [])]) en w2) => (pass_step (w := w) (en := en) ⟨hst.1, hst.2.1, (hb.mono (by omega)).trans hst.2.2⟩ (by omega) : Calls Tryz.prog 125 #[.pointer (some ⟨pb, 0, none⟩)] w2 fun en w' => StPost B w pb vw (a + 1) b (G ++ [([], [])]) en w'))
  clear h hW ht c0 c1 hn h50
  go_enter Tryz.func91, Tryz.ntmps91
  go_wp2_with fail
  refine HX.out.mono ?_
  rintro en w1 ⟨rfl, hb1⟩
  have B1 := hid hb1
  clear hb1
  go_wp2_with fail
  refine (HOP.out _ B1.out).mono ?_
  rintro en w2 hst
  obtain rfl : en = .returned (.tuple #[]) := hst.1
  have HPP := hid (HPA.out _ _ _ B1.out hst)
  clear hst
  go_wp2_with fail
  refine HPP.out.mono ?_
  rintro en w3 hst
  obtain rfl : en = .returned (.tuple #[]) := hst.1
  have HST := hid hst
  clear hst
  go_wp2
  exact bodyPost_end (v := .tuple #[]) (by simp [results, Tryz.results91, go_sem]) rfl HST.out

set_option maxRecDepth 20000 in
set_option maxHeartbeats 2000000 in
theorem word_end {B : Nat} {w : World} {pb : Nat} {vw : Value} {a b : Nat} {ts : List (List UInt8)} {Gi : List (List Rx × List Rx)} {A0 P0 A P : List Rx} (h : PS B w pb vw a b (Gi ++ [(A0, P0)] ++ [(A, P)])) (hW : WdAt w vw ts) (ht : ts[a]? = some [41]) (hl : ts.length ≤ 1000000) (hn : Gi.length ≤ 49) (hp0 : P0.length ≤ 1000000) (hP : P ≠ [] ∨ A = [] ∧ P = []) (hnn : nodesL A + nodesL P ≤ 900000) :
    Calls Tryz.prog 91 #[.pointer (some ⟨pb, 0, none⟩)] w fun en w' => StPost B w pb vw (a + 1) b (Gi ++ [(A0, P0 ++ [wholeR A P])]) en w' := by
  obtain ⟨c0, c1, hB, hpl⟩ := h.cells
  have ha : a < ts.length := (List.getElem?_eq_some_iff.1 ht).1
  have HX := hid (gnext_any hW c0 c1 ht (by omega))
  have HOP := hid (fun (W : World) (hb : Below w.heap.size w W) => (end_any (h.below hb) hn hp0 hP hnn : Calls Tryz.prog 120 #[.pointer (some ⟨pb, 0, none⟩)] W fun en w' => StPost B W pb vw a b (Gi ++ [(A0, P0 ++ [wholeR A P])]) en w'))
  have HPA := hid (fun (W w2 : World) (en : Ending) (hb : Below w.heap.size w W) (hst : StPost B W pb vw a b (Gi ++ [(A0, P0 ++ [wholeR A P])]) en w2) => (pass_step (w := w) (en := en) ⟨hst.1, hst.2.1, (hb.mono (by omega)).trans hst.2.2⟩ (by omega) : Calls Tryz.prog 125 #[.pointer (some ⟨pb, 0, none⟩)] w2 fun en w' => StPost B w pb vw (a + 1) b (Gi ++ [(A0, P0 ++ [wholeR A P])]) en w'))
  clear h hW ht c0 c1 hn hp0 hP hnn
  go_enter Tryz.func91, Tryz.ntmps91
  go_wp2_with fail
  refine HX.out.mono ?_
  rintro en w1 ⟨rfl, hb1⟩
  have B1 := hid hb1
  clear hb1
  go_wp2_with fail
  refine (HOP.out _ B1.out).mono ?_
  rintro en w2 hst
  obtain rfl : en = .returned (.tuple #[]) := hst.1
  have HPP := hid (HPA.out _ _ _ B1.out hst)
  clear hst
  go_wp2_with fail
  refine HPP.out.mono ?_
  rintro en w3 hst
  obtain rfl : en = .returned (.tuple #[]) := hst.1
  have HST := hid hst
  clear hst
  go_wp2
  exact bodyPost_end (v := .tuple #[]) (by simp [results, Tryz.results91, go_sem]) rfl HST.out

end Go.Proofs.YtagppgncanimaaaGreatDoor
namespace Go.Proofs.YtagppgncanimaaaGreatDoor
open Go.RowKit

set_option maxRecDepth 20000 in
set_option maxHeartbeats 2000000 in
theorem word_div {B : Nat} {w : World} {pb : Nat} {vw : Value} {a b : Nat} {ts : List (List UInt8)} {Gi : List (List Rx × List Rx)} {A P : List Rx} (h : PS B w pb vw a b (Gi ++ [(A, P)])) (hW : WdAt w vw ts) (ht : ts[a]? = some [124]) (hl : ts.length ≤ 1000000) (hn : Gi.length ≤ 100000) (hP : P ≠ []) (hnn : nodesL A + nodesL P ≤ 900000) :
    Calls Tryz.prog 91 #[.pointer (some ⟨pb, 0, none⟩)] w fun en w' => StPost B w pb vw (a + 1) b (Gi ++ [(A ++ [joinR 4 P], [])]) en w' := by
  obtain ⟨c0, c1, hB, hpl⟩ := h.cells
  have ha : a < ts.length := (List.getElem?_eq_some_iff.1 ht).1
  have HX := hid (gnext_any hW c0 c1 ht (by omega))
  have HOP := hid (fun (W : World) (hb : Below w.heap.size w W) => (divide_any (h.below hb) hn hP hnn : Calls Tryz.prog 121 #[.pointer (some ⟨pb, 0, none⟩)] W fun en w' => StPost B W pb vw a b (Gi ++ [(A ++ [joinR 4 P], [])]) en w'))
  have HPA := hid (fun (W w2 : World) (en : Ending) (hb : Below w.heap.size w W) (hst : StPost B W pb vw a b (Gi ++ [(A ++ [joinR 4 P], [])]) en w2) => (pass_step (w := w) (en := en) ⟨hst.1, hst.2.1, (hb.mono (by omega)).trans hst.2.2⟩ (by omega) : Calls Tryz.prog 125 #[.pointer (some ⟨pb, 0, none⟩)] w2 fun en w' => StPost B w pb vw (a + 1) b (Gi ++ [(A ++ [joinR 4 P], [])]) en w'))
  clear h hW ht c0 c1 hn hP hnn
  go_enter Tryz.func91, Tryz.ntmps91
  go_wp2_with fail
  refine HX.out.mono ?_
  rintro en w1 ⟨rfl, hb1⟩
  have B1 := hid hb1
  clear hb1
  go_wp2_with fail
  refine (HOP.out _ B1.out).mono ?_
  rintro en w2 hst
  obtain rfl : en = .returned (.tuple #[]) := hst.1
  have HPP := hid (HPA.out _ _ _ B1.out hst)
  clear hst
  go_wp2_with fail
  refine HPP.out.mono ?_
  rintro en w3 hst
  obtain rfl : en = .returned (.tuple #[]) := hst.1
  have HST := hid hst
  clear hst
  go_wp2
  exact bodyPost_end (v := .tuple #[]) (by simp [results, Tryz.results91, go_sem]) rfl HST.out

end Go.Proofs.YtagppgncanimaaaGreatDoor
namespace Go.Proofs.YtagppgncanimaaaGreatDoor
open Go.RowKit

theorem put_ps {B : Nat} {w : World} {pb : Nat} {vw : Value} {a b : Nat} {Gi : List (List Rx × List Rx)} {A P : List Rx} {op : Int} {nm : List UInt8} (h : PS B w pb vw a b (Gi ++ [(A, P)])) (hn : Gi.length ≤ 100000) (hp : P.length ≤ 1000000) :
    Calls Tryz.prog 124 #[.pointer (some ⟨pb, 0, none⟩), .agg #[.int .i64 op, .string (tx nm), .slice none 0 0]] w fun en w' => StPost B w pb vw a b (Gi ++ [(A, P ++ [.mk op nm []])]) en w' := by
  obtain ⟨K, vg, gs, h, habs⟩ := h
  obtain ⟨gi, g, rfl, hgi, hga, hgp⟩ := abs_last habs
  refine (put_any (r := .mk op nm []) h (RxK.nil none 0) (by have : gi.length = Gi.length := by rw [← hgi]; simp
                                                             omega) (by rw [← List.length_map (f := Prod.fst), hgp]; exact hp)).mono ?_
  rintro en w' ⟨rfl, v', hps, hbl⟩
  exact ⟨rfl, ⟨_, _, _, hps, by simp [Grp.abs, hgi, hga, hgp]⟩, hbl⟩

set_option maxRecDepth 20000 in
set_option maxHeartbeats 2000000 in
theorem word_dot {B : Nat} {w : World} {pb : Nat} {vw : Value} {a b : Nat} {ts : List (List UInt8)} {Gi : List (List Rx × List Rx)} {A P : List Rx} (h : PS B w pb vw a b (Gi ++ [(A, P)])) (hW : WdAt w vw ts) (ht : ts[a]? = some [46]) (hl : ts.length ≤ 1000000) (hn : Gi.length ≤ 100000) (hp : P.length ≤ 1000000) :
    Calls Tryz.prog 91 #[.pointer (some ⟨pb, 0, none⟩)] w fun en w' => StPost B w pb vw (a + 1) b (Gi ++ [(A, P ++ [.mk 3 [] []])]) en w' := by
  obtain ⟨c0, c1, hB, hpl⟩ := h.cells
  have ha : a < ts.length := (List.getElem?_eq_some_iff.1 ht).1
  have HX := hid (gnext_any hW c0 c1 ht (by omega))
  have HOP := hid (fun (W : World) (hb : Below w.heap.size w W) => (put_ps (op := 3) (nm := []) (h.below hb) hn hp : Calls Tryz.prog 124 #[.pointer (some ⟨pb, 0, none⟩), .agg #[.int .i64 3, .string (tx []), .slice none 0 0]] W fun en w' => StPost B W pb vw a b (Gi ++ [(A, P ++ [.mk 3 [] []])]) en w'))
  have HPA := hid (fun (W w2 : World) (en : Ending) (hb : Below w.heap.size w W) (hst : StPost B W pb vw a b (Gi ++ [(A, P ++ [.mk 3 [] []])]) en w2) => (pass_step (w := w) (en := en) ⟨hst.1, hst.2.1, (hb.mono (by omega)).trans hst.2.2⟩ (by omega) : Calls Tryz.prog 125 #[.pointer (some ⟨pb, 0, none⟩)] w2 fun en w' => StPost B w pb vw (a + 1) b (Gi ++ [(A, P ++ [.mk 3 [] []])]) en w'))
  clear h hW ht c0 c1 hn hp
  go_enter Tryz.func91, Tryz.ntmps91
  go_wp2_with fail
  refine HX.out.mono ?_
  rintro en w1 ⟨rfl, hb1⟩
  have B1 := hid hb1
  clear hb1
  go_wp2_with fail
  refine (HOP.out _ B1.out).mono ?_
  rintro en w2 hst
  obtain rfl : en = .returned (.tuple #[]) := hst.1
  have HPP := hid (HPA.out _ _ _ B1.out hst)
  clear hst
  go_wp2_with fail
  refine HPP.out.mono ?_
  rintro en w3 hst
  obtain rfl : en = .returned (.tuple #[]) := hst.1
  have HST := hid hst
  clear hst
  go_wp2
  exact bodyPost_end (v := .tuple #[]) (by simp [results, Tryz.results91, go_sem]) rfl HST.out

set_option maxRecDepth 20000 in
set_option maxHeartbeats 2000000 in
theorem word_rep {B : Nat} {w : World} {pb : Nat} {vw : Value} {a b : Nat} {ts : List (List UInt8)} {Gi : List (List Rx × List Rx)} {A Pi : List Rx} {r : Rx} {op : Int} (h : PS B w pb vw a b (Gi ++ [(A, Pi ++ [r])])) (hW : WdAt w vw ts) (ho : op = 6 ∨ op = 7 ∨ op = 8) (ht : ts[a]? = some (sgn1 op)) (hl : ts.length ≤ 1000000) (hn : Gi.length ≤ 100000) (hp : Pi.length ≤ 1000000) :
    Calls Tryz.prog 91 #[.pointer (some ⟨pb, 0, none⟩)] w fun en w' => StPost B w pb vw (a + 1) b (Gi ++ [(A, Pi ++ [.mk op [] [r]])]) en w' := by
  obtain ⟨c0, c1, hB, hpl⟩ := h.cells
  have ha : a < ts.length := (List.getElem?_eq_some_iff.1 ht).1
  have HX := hid (gnext_any hW c0 c1 ht (by omega))
  have HKO := hid (fun (W : World) => (kindOf_any (w := W) ho).mono fun e w' h => (⟨h.1, h.2.symm⟩ : e = .returned (.int .i64 op) ∧ W = w'))
  have HOP := hid (fun (W : World) (hb : Below w.heap.size w W) => (repeat_any (h.below hb) hn hp : Calls Tryz.prog 122 #[.pointer (some ⟨pb, 0, none⟩), .int .i64 op] W fun en w' => StPost B W pb vw a b (Gi ++ [(A, Pi ++ [.mk op [] [r]])]) en w'))
  have HPA := hid (fun (W w2 : World) (en : Ending) (hb : Below w.heap.size w W) (hst : StPost B W pb vw a b (Gi ++ [(A, Pi ++ [.mk op [] [r]])]) en w2) => (pass_step (w := w) (en := en) ⟨hst.1, hst.2.1, (hb.mono (by omega)).trans hst.2.2⟩ (by omega) : Calls Tryz.prog 125 #[.pointer (some ⟨pb, 0, none⟩)] w2 fun en w' => StPost B w pb vw (a + 1) b (Gi ++ [(A, Pi ++ [.mk op [] [r]])]) en w'))
  clear h hW ht c0 c1 hn hp
  rcases ho with rfl | rfl | rfl
  · rw [show sgn1 6 = [42] from rfl] at HX HKO
    go_enter Tryz.func91, Tryz.ntmps91
    go_wp2_with fail
    refine HX.out.mono ?_
    rintro en w1 ⟨rfl, hb1⟩
    have B1 := hid hb1
    clear hb1
    go_wp2_with fail
    refine (HKO.out _).mono ?_
    rintro en w2 ⟨rfl, rfl⟩
    go_wp2_with fail
    refine (HOP.out _ B1.out).mono ?_
    rintro en w2 hst
    obtain rfl : en = .returned (.tuple #[]) := hst.1
    have HPP := hid (HPA.out _ _ _ B1.out hst)
    clear hst
    go_wp2_with fail
    refine HPP.out.mono ?_
    rintro en w3 hst
    obtain rfl : en = .returned (.tuple #[]) := hst.1
    have HST := hid hst
    clear hst
    go_wp2
    exact bodyPost_end (v := .tuple #[]) (by simp [results, Tryz.results91, go_sem]) rfl HST.out
  · rw [show sgn1 7 = [43] from rfl] at HX HKO
    go_enter Tryz.func91, Tryz.ntmps91
    go_wp2_with fail
    refine HX.out.mono ?_
    rintro en w1 ⟨rfl, hb1⟩
    have B1 := hid hb1
    clear hb1
    go_wp2_with fail
    refine (HKO.out _).mono ?_
    rintro en w2 ⟨rfl, rfl⟩
    go_wp2_with fail
    refine (HOP.out _ B1.out).mono ?_
    rintro en w2 hst
    obtain rfl : en = .returned (.tuple #[]) := hst.1
    have HPP := hid (HPA.out _ _ _ B1.out hst)
    clear hst
    go_wp2_with fail
    refine HPP.out.mono ?_
    rintro en w3 hst
    obtain rfl : en = .returned (.tuple #[]) := hst.1
    have HST := hid hst
    clear hst
    go_wp2
    exact bodyPost_end (v := .tuple #[]) (by simp [results, Tryz.results91, go_sem]) rfl HST.out
  · rw [show sgn1 8 = [63] from rfl] at HX HKO
    go_enter Tryz.func91, Tryz.ntmps91
    go_wp2_with fail
    refine HX.out.mono ?_
    rintro en w1 ⟨rfl, hb1⟩
    have B1 := hid hb1
    clear hb1
    go_wp2_with fail
    refine (HKO.out _).mono ?_
    rintro en w2 ⟨rfl, rfl⟩
    go_wp2_with fail
    refine (HOP.out _ B1.out).mono ?_
    rintro en w2 hst
    obtain rfl : en = .returned (.tuple #[]) := hst.1
    have HPP := hid (HPA.out _ _ _ B1.out hst)
    clear hst
    go_wp2_with fail
    refine HPP.out.mono ?_
    rintro en w3 hst
    obtain rfl : en = .returned (.tuple #[]) := hst.1
    have HST := hid hst
    clear hst
    go_wp2
    exact bodyPost_end (v := .tuple #[]) (by simp [results, Tryz.results91, go_sem]) rfl HST.out
end Go.Proofs.YtagppgncanimaaaGreatDoor
namespace Go.Proofs.YtagppgncanimaaaGreatDoor
open Go.RowKit

set_option maxRecDepth 20000 in
set_option maxHeartbeats 2000000 in
theorem word_dev {B : Nat} {w : World} {pb : Nat} {vw : Value} {a b : Nat} {ts : List (List UInt8)} {Gi : List (List Rx × List Rx)} {A P : List Rx} {t : List UInt8} (h : PS B w pb vw a b (Gi ++ [(A, P)])) (hW : WdAt w vw ts) (ht : ts[a]? = some t) (hN : Wo.nameB t = true) (hl : ts.length ≤ 1000000) (hn : Gi.length ≤ 100000) (hp : P.length ≤ 1000000) :
    Calls Tryz.prog 91 #[.pointer (some ⟨pb, 0, none⟩)] w fun en w' => StPost B w pb vw (a + 1) b (Gi ++ [(A, P ++ [.mk 1 t []])]) en w' := by
  obtain ⟨c0, c1, hB, hpl⟩ := h.cells
  have ha : a < ts.length := (List.getElem?_eq_some_iff.1 ht).1
  have HX := hid (gnext_any hW c0 c1 ht (by omega))
  have HNM := hid (fun (W : World) (hb : Below w.heap.size w W) => named_any (op := 1) (hW.on hb) (h.below hb).cells.1 (h.below hb).cells.2.1 ht (by omega) hN)
  have HOP := hid (fun (W : World) (hb : Below w.heap.size w W) => (put_ps (op := 1) (nm := t) (h.below hb) hn hp : Calls Tryz.prog 124 #[.pointer (some ⟨pb, 0, none⟩), .agg #[.int .i64 1, .string (tx t), .slice none 0 0]] W fun en w' => StPost B W pb vw a b (Gi ++ [(A, P ++ [.mk 1 t []])]) en w'))
  have HPA := hid (fun (W w2 : World) (en : Ending) (hb : Below w.heap.size w W) (hst : StPost B W pb vw a b (Gi ++ [(A, P ++ [.mk 1 t []])]) en w2) => (pass_step (w := w) (en := en) ⟨hst.1, hst.2.1, (hb.mono (by omega)).trans hst.2.2⟩ (by omega) : Calls Tryz.prog 125 #[.pointer (some ⟨pb, 0, none⟩)] w2 fun en w' => StPost B w pb vw (a + 1) b (Gi ++ [(A, P ++ [.mk 1 t []])]) en w'))
  have hsg : ∀ l : List UInt8, Wo.nameB l = false → (t == l) = false := fun l h2 => by
    rw [beq_eq_false_iff_ne]
    rintro rfl
    rw [hN] at h2; cases h2
  have s1 := hsg [40] (by kernel_rfl)
  have s2 := hsg [41] (by kernel_rfl)
  have s3 := hsg [124] (by kernel_rfl)
  have s4 := hsg [42] (by kernel_rfl)
  have s5 := hsg [43] (by kernel_rfl)
  have s6 := hsg [63] (by kernel_rfl)
  have s7 := hsg [46] (by kernel_rfl)
  have s8 := hsg [36] (by kernel_rfl)
  clear h hW ht c0 c1 hn hp hN hsg
  go_enter Tryz.func91, Tryz.ntmps91
  go_wp2_with fail
  refine HX.out.mono ?_
  rintro en w1 ⟨rfl, hb1⟩
  have B1 := hid hb1
  clear hb1
  go_wp2_with fail
  refine (HNM.out _ B1.out).mono ?_
  rintro en w2 ⟨rfl, hb2⟩
  have B2 := hid (below_2x B1.out hb2)
  clear hb2
  go_wp2_with fail
  refine (HOP.out _ B2.out).mono ?_
  rintro en w3 hst
  obtain rfl : en = .returned (.tuple #[]) := hst.1
  have HPP := hid (HPA.out _ _ _ B2.out hst)
  clear hst
  go_wp2_with fail
  refine HPP.out.mono ?_
  rintro en w4 hst
  obtain rfl : en = .returned (.tuple #[]) := hst.1
  have HST := hid hst
  clear hst
  go_wp2
  exact bodyPost_end (v := .tuple #[]) (by simp [results, Tryz.results91, go_sem]) rfl HST.out

set_option maxRecDepth 20000 in
set_option maxHeartbeats 2000000 in
theorem word_class {B : Nat} {w : World} {pb : Nat} {vw : Value} {a b : Nat} {ts : List (List UInt8)} {Gi : List (List Rx × List Rx)} {A P : List Rx} {t : List UInt8} (h : PS B w pb vw a b (Gi ++ [(A, P)])) (hW : WdAt w vw ts) (ht0 : ts[a]? = some [36]) (ht : ts[a + 1]? = some t) (hN : Wo.nameB t = true) (hl : ts.length ≤ 1000000) (hn : Gi.length ≤ 100000) (hp : P.length ≤ 1000000) (hWB : ∀ W, Below B w W → WdAt W vw ts) :
    Calls Tryz.prog 91 #[.pointer (some ⟨pb, 0, none⟩)] w fun en w' => StPost B w pb vw (a + 2) b (Gi ++ [(A, P ++ [.mk 2 t []])]) en w' := by
  obtain ⟨c0, c1, hB, hpl⟩ := h.cells
  have ha : a + 1 < ts.length := (List.getElem?_eq_some_iff.1 ht).1
  have HX := hid (gnext_any hW c0 c1 ht0 (by omega))
  have HP1 := hid (fun (W : World) (hb : Below w.heap.size w W) => (pass_step (w := w) (en := .returned (.tuple #[])) ⟨rfl, h.below hb, hb.mono (by omega)⟩ (by omega) : Calls Tryz.prog 125 #[.pointer (some ⟨pb, 0, none⟩)] W fun en w' => StPost B w pb vw (a + 1) b (Gi ++ [(A, P)]) en w'))
  have HNM := hid (fun (W : World) (en : Ending) (hst : StPost B w pb vw (a + 1) b (Gi ++ [(A, P)]) en W) => (by
    refine (named_any (op := 2) (hWB W hst.2.2) hst.2.1.cells.1 hst.2.1.cells.2.1 ht (by omega) hN).mono ?_
    rintro e w' ⟨rfl, hb'⟩
    exact ⟨rfl, hst.2.1.below hb', hst.2.2.trans (hb'.mono (by have := hst.2.2.size; omega))⟩ : Calls Tryz.prog 126 #[.pointer (some ⟨pb, 0, none⟩), .int .i64 2] W fun e w' => e = .returned (.agg #[.int .i64 2, .string (tx t), .slice none 0 0]) ∧ PS B w' pb vw (a + 1) b (Gi ++ [(A, P)]) ∧ Below B w w'))
  have HOP := hid (fun (W : World) (h1 : PS B W pb vw (a + 1) b (Gi ++ [(A, P)])) => (put_ps (op := 2) (nm := t) h1 hn hp : Calls Tryz.prog 124 #[.pointer (some ⟨pb, 0, none⟩), .agg #[.int .i64 2, .string (tx t), .slice none 0 0]] W fun en w' => StPost B W pb vw (a + 1) b (Gi ++ [(A, P ++ [.mk 2 t []])]) en w'))
  have HPA := hid (fun (W w2 : World) (en : Ending) (hb : Below B w W) (hst : StPost B W pb vw (a + 1) b (Gi ++ [(A, P ++ [.mk 2 t []])]) en w2) => (pass_step (w := w) (en := en) ⟨hst.1, hst.2.1, hb.trans hst.2.2⟩ (by omega) : Calls Tryz.prog 125 #[.pointer (some ⟨pb, 0, none⟩)] w2 fun en w' => StPost B w pb vw (a + 2) b (Gi ++ [(A, P ++ [.mk 2 t []])]) en w'))
  clear h hW ht ht0 c0 c1 hn hp hN hWB
  go_enter Tryz.func91, Tryz.ntmps91
  go_wp2_with fail
  refine HX.out.mono ?_
  rintro en w1 ⟨rfl, hb1⟩
  have B1 := hid hb1
  clear hb1
  go_wp2_with fail
  refine (HP1.out _ B1.out).mono ?_
  rintro en w2 hst
  obtain rfl : en = .returned (.tuple #[]) := hst.1
  have HN2 := hid (HNM.out _ _ hst)
  clear hst
  go_wp2_with fail
  refine HN2.out.mono ?_
  rintro en w3 ⟨rfl, hps, hb3⟩
  have HO3 := hid (HOP.out _ hps)
  have B3 := hid hb3
  clear hps hb3
  go_wp2_with fail
  refine HO3.out.mono ?_
  rintro en w4 hst
  obtain rfl : en = .returned (.tuple #[]) := hst.1
  have HPP := hid (HPA.out _ _ _ B3.out hst)
  clear hst
  go_wp2_with fail
  refine HPP.out.mono ?_
  rintro en w5 hst
  obtain rfl : en = .returned (.tuple #[]) := hst.1
  have HST := hid hst
  clear hst
  go_wp2
  exact bodyPost_end (v := .tuple #[]) (by simp [results, Tryz.results91, go_sem]) rfl HST.out
end Go.Proofs.YtagppgncanimaaaGreatDoor
namespace Go.Proofs.YtagppgncanimaaaGreatDoor
open Go.RowKit

theorem parse_idle (p q r : Value) (w : World) :
    CallsD Tryz.prog 89 #[p, q, r] .returning w fun e u' w' => e = .returned (.tuple #[]) ∧ u' = .returning ∧ w' = w := by
  refine callsD_of_wpS Tryz.func89 rfl fun c₀ cs hu => ?_
  apply wpS_seq
  apply wpS_region
  simp [wpOpsS, go_sem, recoverD, hu, Tryz.ntmps89, Exit.thenS]
  refine wpS_cond (t := false) (by simp [Act.eval, Array.replicate]) ?_
  simp only [Bool.false_eq_true, if_false]
  refine wpS_of_wp (wp_skip ?_)
  cases c₀
  simp_all [bodyPostS, results, Tryz.results89]
/-- A word is read. -/
def WordC (ts : List (List UInt8)) (a : Nat) (G : List (List Rx × List Rx)) (a' : Nat) (G' : List (List Rx × List Rx)) : Prop :=
  ∀ (B : Nat) (w : World) (pb : Nat) (vw : Value) (b : Nat), PS B w pb vw a b G → (∀ W, Below B w W → WdAt W vw ts) → Calls Tryz.prog 91 #[.pointer (some ⟨pb, 0, none⟩)] w fun en w' => StPost B w pb vw a' b G' en w'
/-- The words from one on are read, and that is left. -/
inductive Goes (ts : List (List UInt8)) : Nat → List (List Rx × List Rx) → List (List Rx × List Rx) → Prop where
  | done (G : List (List Rx × List Rx)) : Goes ts ts.length G G
  | step (a : Nat) (G : List (List Rx × List Rx)) (a' : Nat) (G' F : List (List Rx × List Rx)) (ha : a < a') (hl : a' ≤ ts.length) (hc : WordC ts a G a' G') (hg : Goes ts a' G' F) : Goes ts a G F
theorem Goes.two {ts : List (List UInt8)} {a : Nat} {G F : List (List Rx × List Rx)} (h : Goes ts a G F) : (a = ts.length ∧ G = F) ∨ ∃ a' G', a < a' ∧ a' ≤ ts.length ∧ WordC ts a G a' G' ∧ Goes ts a' G' F := by
  cases h with
  | done => exact Or.inl ⟨rfl, rfl⟩
  | step _ _ _ _ _ ha hl hc hg => exact Or.inr ⟨_, _, ha, hl, hc, hg⟩
theorem Tryz.infoGrpM : (Tryz.prog.info? 147).map (fun i => (i.zero, i.size, i.bytes)) = some (some (.agg #[.slice none 0 0, .slice none 0 0]), 2, 48) := by kernel_rfl

theorem run_groups (w : World) : (Instr.makeSlice 141 (.int .i64 1) (.int .i64 1)).run Tryz.prog w = .ok (.slice (some ⟨w.heap.size, 0, none⟩) 1 1) (w.alloc (.cells #[.slice none 0 0, .slice none 0 0] 147)) := by
  obtain ⟨i, hi, hz0, hz1, hz2⟩ := info_parts Tryz.infoGrpM
  have := run_make (P := Tryz.prog) w 141 147 i (.agg #[.slice none 0 0, .slice none 0 0]) Tryz.underlying141 hi hz0 .i64 .i64 1 1 (by omega) (by omega) (by rw [hz2]; omega) (by omega)
  rw [this, hz1, show madeCells (Value.agg #[.slice none 0 0, .slice none 0 0]).cells (Int.toNat 1 * 2) = #[.slice none 0 0, .slice none 0 0] by kernel_rfl]
  rfl

set_option maxRecDepth 20000 in
set_option maxHeartbeats 4000000 in
theorem parse_ok {w : World} {v : Value} {ts : List (List UInt8)} {A P : List Rx} (hW : WdAt w v ts) (hl : ts.length ≤ 1000000) (hG : Goes ts 0 [([], [])] [(A, P)]) (hP : P ≠ []) (hn : nodesL A + nodesL P ≤ 900000) :
    Calls Tryz.prog 60 #[v] w fun e w' => ∃ u n c, e = .returned (.tuple #[.agg #[.int .i64 (wholeR A P).op, .string (tx (wholeR A P).name), .slice u n c], .int .i64 0, .int .i64 0]) ∧ Hid (RxK (fun k => w.heap.size ≤ k) w' (.slice u n c) (wholeR A P).kids) ∧ Below w.heap.size w w' := by
  have hmf : ∀ (fn : Fn) (first cap : Array Value) (w : World), (Instr.makeFunc fn first cap).run Tryz.prog w = .ok (.func fn first cap) w := fun _ _ _ _ => rfl
  have hmk := run_groups
  have hWd := hW
  obtain ⟨ao, cap, rfl, -⟩ := hW
  have HWW := hid (show ∀ W, Below w.heap.size w W → WdAt W (.slice ao ts.length cap) ts from fun W hb => hWd.on hb)
  obtain ⟨n, hnn⟩ : ∃ n, n = ts.length := ⟨_, rfl⟩
  have HN := hid hnn
  rw [← hnn] at HWW hl ⊢
  have HG := hid hG
  have HNL := hid hn
  have hP0 : 0 < P.length := List.length_pos_iff.2 hP
  obtain ⟨R, hR⟩ : ∃ R, R = wholeR A P := ⟨_, rfl⟩
  have HR := hid hR
  rw [← hR]
  clear hWd hnn hG hn hP hR
  go_enter_defers Tryz.func60, Tryz.ntmps60
  go_wp2_with fail
  generalize hw0 : ((((w.alloc (Obj.cells #[.int .i64 0, .string ⟨#[]⟩, .slice none 0 0] 25)).alloc (Obj.cells #[.int .i64 0] 3)).alloc (Obj.cells #[.int .i64 0] 26)).alloc (Obj.cells #[.slice none 0 0, .slice none 0 0] 147)).alloc (Obj.cells #[.slice ao n cap, .int .i64 0, .slice (some ⟨w.heap.size + 1 + 1 + 1, 0, none⟩) 1 1, .int .i64 0] 143) = w0
  have hst : w0.heap.size = w.heap.size + 5 ∧ w0.heap[w.heap.size]? = some (.cells #[.int .i64 0, .string ⟨#[]⟩, .slice none 0 0] 25 (0, 0)) ∧ w0.heap[w.heap.size + 1]? = some (.cells #[.int .i64 0] 3 (0, 0)) ∧ w0.heap[w.heap.size + 1 + 1]? = some (.cells #[.int .i64 0] 26 (0, 0)) ∧ PS (w.heap.size + 3) w0 (w.heap.size + 1 + 1 + 1 + 1) (.slice ao n cap) 0 0 [([], [])] ∧ Below w.heap.size w w0 := by
    generalize ha : Obj.cells #[.int .i64 0, .string ⟨#[]⟩, .slice none 0 0] 25 = oa at hw0
    generalize hb : Obj.cells #[.int .i64 0] 3 = ob at hw0
    generalize hc : Obj.cells #[.int .i64 0] 26 = oc at hw0
    generalize hd : Obj.cells #[.slice none 0 0, .slice none 0 0] 147 = od at hw0
    generalize he : Obj.cells #[.slice ao n cap, .int .i64 0, .slice (some ⟨w.heap.size + 1 + 1 + 1, 0, none⟩) 1 1, .int .i64 0] 143 = oe at hw0
    have e1 : (w.alloc oa).heap.size = w.heap.size + 1 := by simp
    have e2 : ((w.alloc oa).alloc ob).heap.size = w.heap.size + 1 + 1 := by simp
    have e3 : (((w.alloc oa).alloc ob).alloc oc).heap.size = w.heap.size + 1 + 1 + 1 := by simp
    have e4 : ((((w.alloc oa).alloc ob).alloc oc).alloc od).heap.size = w.heap.size + 1 + 1 + 1 + 1 := by simp
    have q0 : w0.heap[w.heap.size]? = some oa := by rw [← hw0, Below.heap_alloc _ _ _ (by omega), Below.heap_alloc _ _ _ (by omega), Below.heap_alloc _ _ _ (by omega), Below.heap_alloc _ _ _ (by omega)]; exact new_0 _ _
    have q1 : w0.heap[w.heap.size + 1]? = some ob := by rw [← hw0, Below.heap_alloc _ _ _ (by omega), Below.heap_alloc _ _ _ (by omega), Below.heap_alloc _ _ _ (by omega), ← e1]; exact new_0 _ _
    have q2 : w0.heap[w.heap.size + 1 + 1]? = some oc := by rw [← hw0, Below.heap_alloc _ _ _ (by omega), Below.heap_alloc _ _ _ (by omega), ← e2]; exact new_0 _ _
    have q3 : w0.heap[w.heap.size + 1 + 1 + 1]? = some od := by rw [← hw0, Below.heap_alloc _ _ _ (by omega), ← e3]; exact new_0 _ _
    have q4 : w0.heap[w.heap.size + 1 + 1 + 1 + 1]? = some oe := by rw [← hw0, ← e4]; exact new_0 _ _
    have e5 : w0.heap.size = w.heap.size + 5 := by rw [← hw0]; simp
    rw [← hd] at q3
    rw [← he] at q4
    refine ⟨e5, q0, q1, q2, ⟨fun _ => False, .slice (some ⟨w.heap.size + 1 + 1 + 1, 0, none⟩) 1 1, [Grp.new], ⟨by omega, q4, ⟨rfl, Or.inr ⟨w.heap.size + 1 + 1 + 1, 1, #[.slice none 0 0, .slice none 0 0], rfl, by omega, q3, Nat.le_refl _, by decide, rfl, rfl⟩⟩, fun _ h => h.elim, fun g hg => by rw [List.mem_singleton.1 hg]; exact RowX.nil _ _ _, fun g hg => by rw [List.mem_singleton.1 hg]; exact RowX.nil _ _ _, by simp [Grp.blocks, Grp.new, Value.ownBlock], fun _ _ _ _ h => h, fun _ h => h.elim⟩, rfl⟩, ?_⟩
    rw [← hw0]
    exact (((((Below.refl _ _).alloc (Nat.le_refl _) _).alloc (by omega) _).alloc (by omega) _).alloc (by omega) _).alloc (by omega) _
  clear hw0
  obtain ⟨hs0, b0, b1, b2, hps0, hB0⟩ := hst
  have HBX := hid (fun (W : World) (hb : Below (w.heap.size + 3) w0 W) => (by
    have e0 := (hb.block w.heap.size (by omega)).trans b0
    have e1 := (hb.block (w.heap.size + 1) (by omega)).trans b1
    have e2 := (hb.block (w.heap.size + 1 + 1) (by omega)).trans b2
    exact ⟨⟨by rw [cell_at e0]; rfl, by rw [cell_at e0]; rfl, by rw [cell_at e0]; rfl, by rw [cell_at e1]; rfl, by rw [cell_at e2]; rfl⟩, free_of e0, free_of e0, free_of e0, free_of e1, free_of e2⟩ : (W.cell? ⟨w.heap.size, 0, none⟩ = some (.int .i64 0) ∧ W.cell? ⟨w.heap.size, 1, none⟩ = some (.string ⟨#[]⟩) ∧ W.cell? ⟨w.heap.size, 2, none⟩ = some (.slice none 0 0) ∧ W.cell? ⟨w.heap.size + 1, 0, none⟩ = some (.int .i64 0) ∧ W.cell? ⟨w.heap.size + 1 + 1, 0, none⟩ = some (.int .i64 0)) ∧ W.frozen? ⟨w.heap.size, 0, none⟩ = false ∧ W.frozen? ⟨w.heap.size, 1, none⟩ = false ∧ W.frozen? ⟨w.heap.size, 2, none⟩ = false ∧ W.frozen? ⟨w.heap.size + 1, 0, none⟩ = false ∧ W.frozen? ⟨w.heap.size + 1 + 1, 0, none⟩ = false))
  have HPS0 := hid hps0
  have HB0 := hid hB0
  clear hps0 hB0 b0 b1 b2
  go_loopw [] (fun wr => Hid (∃ (a : Nat) (G : List (List Rx × List Rx)), PS (w.heap.size + 3) wr (w.heap.size + 1 + 1 + 1 + 1) (.slice ao n cap) a 0 G ∧ Goes ts a G [(A, P)] ∧ Below (w.heap.size + 3) w0 wr)) (fun wr => n - (intOf ((wr.cell? ⟨w.heap.size + 1 + 1 + 1 + 1, 1, none⟩).getD undef)).toNat)
  case atStart => exact ⟨0, _, HPS0.out, HG.out, Below.refl _ _⟩
  case round =>
    obtain ⟨a, G, hps, hgo, hb⟩ := hrel.out
    obtain ⟨c0, c1, -, -⟩ := hps.cells
    have HPS := hid hps
    have HBB := hid hb
    have HDN := hid (done_any c0 c1)
    rcases hgo.two with ⟨hend, rfl⟩ | ⟨a', G', ha, hla, hc, hg⟩
    · have han : a = n := hend.trans HN.out.symm
      subst han
      rw [decide_eq_true (rfl : a = a)] at HDN
      obtain ⟨K, vg, gs, hpp, habs⟩ := hps
      obtain ⟨gi, g, rfl, hgi, hga, hgp⟩ := abs_last (Gi := []) habs
      rw [List.map_eq_nil_iff] at hgi
      subst hgi
      obtain ⟨gb, capg, rfl, hgB, hgl, hgpb, ⟨csg, hgb⟩, k0, k1, -, -, -⟩ := hpp.last
      have hgm : g ∈ [] ++ [g] := by simp
      obtain ⟨pa, pc, hvp⟩ := own_form (hpp.rowP g hgm).own
      have hnp : g.parts.length = P.length := by rw [← hgp]; simp
      rw [hnp] at hvp
      obtain ⟨np, hnpp⟩ : ∃ np, np = P.length := ⟨_, rfl⟩
      rw [← hnpp] at hvp hP0
      obtain ⟨⟨-, -, p2, p3⟩, -⟩ := hpp.cells
      have HC := hid (fun (W : World) (hb : Below wr.heap.size wr W) => (by
        obtain ⟨⟨-, -, p2, p3⟩, -⟩ := (hpp.below hb).cells
        exact ⟨p2, p3, by rw [← hvp]; exact (hb.cell (by exact hgl)).trans k1⟩ : W.cell? ⟨w.heap.size + 1 + 1 + 1 + 1, 2, none⟩ = some (.slice (some ⟨gb, 0, none⟩) 1 capg) ∧ W.cell? ⟨w.heap.size + 1 + 1 + 1 + 1, 3, none⟩ = some (.int .i64 0) ∧ W.cell? ⟨gb, 1, none⟩ = some (.slice pa np pc)))
      have HO := hid (fun (W : World) (h2 : W.cell? ⟨w.heap.size + 1 + 1 + 1 + 1, 2, none⟩ = some (.slice (some ⟨gb, 0, none⟩) 1 capg)) => (by
        have := open_any h2 (by omega)
        exact this : Calls Tryz.prog 93 #[.pointer (some ⟨w.heap.size + 1 + 1 + 1 + 1, 0, none⟩)] W fun e w' => e = .returned (.int .i64 0) ∧ W = w'))
      have HLA := hid (fun (W : World) (h2 : W.cell? ⟨w.heap.size + 1 + 1 + 1 + 1, 2, none⟩ = some (.slice (some ⟨gb, 0, none⟩) 1 capg)) => (by
        have := last_any (n := 0) (N := 1) h2 rfl (by omega)
        exact this : Calls Tryz.prog 94 #[.pointer (some ⟨w.heap.size + 1 + 1 + 1 + 1, 0, none⟩)] W fun e w' => e = .returned (.pointer (some ⟨gb, 0, none⟩)) ∧ Below W.heap.size W w'))
      have HWH := hid (fun (W : World) (hb : Below wr.heap.size wr W) => (by
        have h1 := hpp.below hb
        have hx := whole_any (K := K) (w := W) (B := w.heap.size + 3) (gb := gb) (o := 0) (va := g.va) (vp := g.vp) (qs := g.ahead) (ps := g.parts) ((hb.block gb hgl).trans hgb) ((hb.cell (by exact hgl)).trans k0) ((hb.cell (by exact hgl)).trans k1) (h1.rowA g hgm) (h1.rowP g hgm).lie h1.lt (fun k hk => h1.free g hgm k (blocks_mem.2 (Or.inl hk))) (by have := h1.pbl; omega) (by rw [hga, hgp]; exact HNL.out)
        rw [hga, hgp, ← HR.out] at hx
        refine hx.mono ?_
        rintro e w' ⟨⟨u, n, c, K', rfl, hX, hY⟩, hg2⟩
        have hwl := hpp.pbl
        have hws := hb.size
        have hKB : ∀ k, K' k → w.heap.size + 3 ≤ k := fun k hk => by
          rcases hY.out.2 k hk with h2 | h2
          · exact h1.kB k h2
          · omega
        exact ⟨u, n, c, rfl, fun W' hW' hs' => (hX.out.on ⟨hs', fun k hk hl => hW' k (hKB k hk) hl⟩).mono fun k hk => by have := hKB k hk; omega, (hb.mono (by omega)).grown hg2 (by omega) fun k hk => ((h1.rowA g hgm).own.lt k hk).1⟩ : Calls Tryz.prog 95 #[.pointer (some ⟨gb, 0, none⟩)] W fun e w' => ∃ u n c, e = .returned (.agg #[.int .i64 R.op, .string (tx R.name), .slice u n c]) ∧ Hid (∀ W', (∀ k, w.heap.size + 3 ≤ k → k < w'.heap.size → W'.heap[k]? = w'.heap[k]?) → w'.heap.size ≤ W'.heap.size → RxK (fun k => w.heap.size ≤ k) W' (.slice u n c) R.kids) ∧ Below (w.heap.size + 3) wr w'))
      clear hpp habs hga hgp k0 k1 hvp hnp hnpp hb hrel p2 p3 hgb hgo hend
      go_wp2_with fail
      refine HDN.out.mono ?_
      rintro en w1 ⟨rfl, hb1⟩
      obtain ⟨z2, z3, z1⟩ := HC.out _ hb1
      have B1 := hid hb1
      clear hb1
      go_wp2_with fail
      refine (HO.out _ z2).mono ?_
      rintro en w2 ⟨rfl, rfl⟩
      go_wp2_with fail
      refine (HLA.out _ z2).mono ?_
      rintro en w3 ⟨rfl, hb3⟩
      obtain ⟨y2, y3, y1⟩ := HC.out _ (below_2x B1.out hb3)
      have B3 := hid (below_2x B1.out hb3)
      clear hb3 z1 z2 z3
      go_wp2_with fail
      try rw [show decide (0 < np) = true from decide_eq_true hP0]
      refine must_true.mono ?_
      rintro en w4 ⟨rfl, rfl⟩
      go_wp2_with fail
      refine (HLA.out _ y2).mono ?_
      rintro en w5 ⟨rfl, hb5⟩
      have B5 := hid (below_2x B3.out hb5)
      clear hb5 y1 y2 y3
      go_wp2_with fail
      refine (HWH.out _ B5.out).mono ?_
      rintro en w6 ⟨u, nn, c, rfl, X6, hb6⟩
      obtain ⟨⟨x0, x1, x2, x3, x4⟩, f0, f1, f2, f3, f4⟩ := HBX.out _ (HBB.out.trans hb6)
      have B6 := hid (HBB.out.trans hb6)
      clear hb6
      go_wp2_with fail
      refine leaves_cons (f := 89) (args := #[.pointer (some ⟨w.heap.size + 1 + 1 + 1 + 1, 0, none⟩), .pointer (some ⟨w.heap.size + 1, 0, none⟩), .pointer (some ⟨w.heap.size + 1 + 1, 0, none⟩)]) (by simp) (by simp [go_sem]) ?_
      refine (parse_idle _ _ _ _).mono ?_
      rintro e u' w'' ⟨rfl, rfl, rfl⟩
      refine ⟨.tuple #[.agg #[.int .i64 R.op, .string (tx R.name), .slice u nn c], .int .i64 0, .int .i64 0], ?_, u, nn, c, rfl, ?_, ?_⟩
      · simp [results, Tryz.results60, go_sem, x0, x1, x2, x3, x4]
      · refine hid (X6.out _ (fun k hk _ => ?_) (by simp))
        rw [Below.heap_setCell _ _ _ _ (by show k ≠ w.heap.size + 1 + 1; omega), Below.heap_setCell _ _ _ _ (by show k ≠ w.heap.size + 1; omega), Below.heap_setCell _ _ _ _ (by show k ≠ w.heap.size; omega), Below.heap_setCell _ _ _ _ (by show k ≠ w.heap.size; omega), Below.heap_setCell _ _ _ _ (by show k ≠ w.heap.size; omega)]
      · have hb := HB0.out.trans (B6.out.mono (show w.heap.size ≤ w.heap.size + 3 by omega))
        exact ((((hb.setCell (by show w.heap.size ≤ w.heap.size; omega) _).setCell (by show w.heap.size ≤ w.heap.size; omega) _).setCell (by show w.heap.size ≤ w.heap.size; omega) _).setCell (by show w.heap.size ≤ w.heap.size + 1; omega) _).setCell (by show w.heap.size ≤ w.heap.size + 1 + 1; omega) _
    · have han : a < n := by have := HN.out; omega
      have HCC := hid (fun (w1 : World) (hb1 : Below wr.heap.size wr w1) => (by
        have hsr := HPS.out.cells.2.2.2
        have hB1 : Below (w.heap.size + 3) wr w1 := hb1.mono (by omega)
        refine (hc (w.heap.size + 3) w1 (w.heap.size + 1 + 1 + 1 + 1) (.slice ao n cap) 0 (HPS.out.below hb1) (fun W hW => HWW.out W (HB0.out.trans (((hb.trans hB1).trans hW).mono (by omega))))).mono ?_
        rintro en w2 ⟨rfl, h1, h2⟩
        exact ⟨rfl, h1, (hb.trans hB1).trans h2⟩ : Calls Tryz.prog 91 #[.pointer (some ⟨w.heap.size + 1 + 1 + 1 + 1, 0, none⟩)] w1 fun en w2 => en = .returned (.tuple #[]) ∧ PS (w.heap.size + 3) w2 (w.heap.size + 1 + 1 + 1 + 1) (.slice ao n cap) a' 0 G' ∧ Below (w.heap.size + 3) w0 w2))
      have HGO := hid hg
      rw [decide_eq_false (by omega : ¬ a = n)] at HDN
      have HLA := hid hla
      have HAA := hid ha
      clear hc hg hps hb hrel hla ha hgo
      go_wp2_with fail
      refine HDN.out.mono ?_
      rintro en w1 ⟨rfl, hb1⟩
      have HC1 := hid (HCC.out w1 hb1)
      clear hb1
      go_wp2_with fail
      refine HC1.out.mono ?_
      rintro en w2 ⟨rfl, hps2, hb2⟩
      have c2 := hps2.cells.2.1
      have R2 := hid (show ∃ (a : Nat) (G : List (List Rx × List Rx)), PS (w.heap.size + 3) w2 (w.heap.size + 1 + 1 + 1 + 1) (.slice ao n cap) a 0 G ∧ Goes ts a G [(A, P)] ∧ Below (w.heap.size + 3) w0 w2 from ⟨a', G', hps2, HGO.out, hb2⟩)
      clear hps2 hb2
      go_wp2
      go_roundw
      case rel => exact R2
      case measure =>
        have h1 := HLA.out
        have h2 := HAA.out
        have h3 := HN.out
        rw [c1, c2]
        simp [intOf]
        omega
end Go.Proofs.YtagppgncanimaaaGreatDoor
namespace Go.Proofs.YtagppgncanimaaaGreatDoor
open Go.RowKit

set_option maxRecDepth 20000 in
set_option maxHeartbeats 2000000 in
theorem gRead_ok {w : World} {v : Value} {ts : List (List UInt8)} {A P : List Rx} (hW : WdAt w v ts) (hl : ts.length ≤ 1000000) (hG : Goes ts 0 [([], [])] [(A, P)]) (hP : P ≠ []) (hn : nodesL A + nodesL P ≤ 900000) (hF : (wholeR A P).Fit) (hc : chkN (wholeR A P) = 0) :
    Calls Tryz.prog 37 #[v] w fun e w' => ∃ u n c, e = .returned (.tuple #[.agg #[.int .i64 (wholeR A P).op, .string (tx (wholeR A P).name), .slice u n c], .int .i64 0, .int .i64 0]) ∧ Hid (RxK (fun k => w.heap.size ≤ k) w' (.slice u n c) (wholeR A P).kids) ∧ Below w.heap.size w w' := by
  have HP := hid (fun (W : World) (hb : Below w.heap.size w W) => parse_ok (hW.on hb) hl hG hP hn)
  have HCK := hid (fun (W : World) (u : Option Addr) (n c : Nat) (hS : RxS W (.slice u n c) (wholeR A P).kids) => (by
    have := gCheck_any hS hF
    rw [hc] at this
    exact this : Calls Tryz.prog 12 #[.agg #[.int .i64 (wholeR A P).op, .string (tx (wholeR A P).name), .slice u n c]] W fun e w' => e = .returned (.int .i64 ((0 : Nat) : Int)) ∧ Below W.heap.size W w'))
  obtain ⟨R, hR⟩ : ∃ R, R = wholeR A P := ⟨_, rfl⟩
  rw [← hR] at HP HCK ⊢
  obtain ⟨ao, cap, rfl, -⟩ := hW
  clear hl hG hP hn hF hc hR
  go_enter Tryz.func37, Tryz.ntmps37
  go_wp2_with fail
  refine (HP.out _ ((Below.refl _ _).alloc (Nat.le_refl _) _)).mono ?_
  rintro en w1 ⟨u, n, c, rfl, X1, hb1⟩
  have HC1 := hid (fun (ob : Obj) => HCK.out (w1.alloc ob) u n c (X1.out.low.on ((Below.refl _ _).alloc (Nat.le_refl _) ob)))
  have hs1 : w.heap.size + 1 ≤ w1.heap.size := by have := hb1.size; simpa using this
  have hbx1 : w1.heap[w.heap.size]? = some (.cells #[.int .i64 0, .string ⟨#[]⟩, .slice none 0 0] 25 (0, 0)) := (hb1.block w.heap.size (by simp)).trans (new_0 _ _)
  have B1 := hid (show Below w.heap.size w w1 from ((Below.refl _ _).alloc (Nat.le_refl _) _).trans (hb1.mono (by simp)))
  clear hb1
  go_wp2_with fail
  refine (HC1.out _).mono ?_
  rintro en w2 ⟨rfl, hb2⟩
  have hs2 : w1.heap.size + 1 ≤ w2.heap.size := by have := hb2.size; simpa using this
  have hbx : w2.heap[w.heap.size]? = some (.cells #[.int .i64 0, .string ⟨#[]⟩, .slice none 0 0] 25 (0, 0)) := (hb2.block w.heap.size (by simp; omega)).trans ((Below.heap_alloc _ _ _ (by omega)).trans hbx1)
  have hrx : w2.heap[w1.heap.size]? = some (.cells #[.int .i64 R.op, .string (tx R.name), .slice u n c] 25 (0, 0)) := (hb2.block w1.heap.size (by simp)).trans (new_0 _ _)
  have x0 : w2.cell? ⟨w.heap.size, 0, none⟩ = some (.int .i64 0) := by rw [cell_at hbx]; rfl
  have x1 : w2.cell? ⟨w.heap.size, 1, none⟩ = some (.string ⟨#[]⟩) := by rw [cell_at hbx]; rfl
  have x2 : w2.cell? ⟨w.heap.size, 2, none⟩ = some (.slice none 0 0) := by rw [cell_at hbx]; rfl
  have y0 : w2.frozen? ⟨w.heap.size, 0, none⟩ = false := free_of hbx
  have y1 : w2.frozen? ⟨w.heap.size, 1, none⟩ = false := free_of hbx
  have y2 : w2.frozen? ⟨w.heap.size, 2, none⟩ = false := free_of hbx
  have r0 : w2.cell? ⟨w1.heap.size, 0, none⟩ = some (.int .i64 R.op) := by rw [cell_at hrx]; rfl
  have r1 : w2.cell? ⟨w1.heap.size, 1, none⟩ = some (.string (tx R.name)) := by rw [cell_at hrx]; rfl
  have r2 : w2.cell? ⟨w1.heap.size, 2, none⟩ = some (.slice u n c) := by rw [cell_at hrx]; rfl
  have B2 := hid (show Below w.heap.size w w2 from below_2x B1.out (((Below.refl _ _).alloc (Nat.le_refl _) _).trans (hb2.mono (by simp))))
  have X2 := hid (show RxK (fun k => w.heap.size + 1 ≤ k) w2 (.slice u n c) R.kids from (X1.out.on (.below (((Below.refl _ _).alloc (Nat.le_refl _) _).trans (hb2.mono (by simp))))).mono fun k hk => by simpa using hk)
  clear hb2 hbx hrx hbx1
  go_wp2
  try (go_quiet (fail); go_wp2)
  refine bodyPost_ret (v := .tuple #[.agg #[.int .i64 R.op, .string (tx R.name), .slice u n c], .int .i64 0, .int .i64 0]) (by simp [results, Tryz.results37, go_sem, x0, x1, x2]) rfl ⟨u, n, c, rfl, ?_, ?_⟩
  · refine hid ((X2.out.on (w' := ((w2.setCell ⟨w.heap.size, 0, none⟩ (.int .i64 R.op)).setCell ⟨w.heap.size, 1, none⟩ (.string (tx R.name))).setCell ⟨w.heap.size, 2, none⟩ (.slice u n c)) ⟨by simp, fun k hk _ => set3_heap (by omega)⟩).mono fun k hk => by omega)
  · exact ((B2.out.setCell (Nat.le_refl _) _).setCell (Nat.le_refl _) _).setCell (Nat.le_refl _) _
end Go.Proofs.YtagppgncanimaaaGreatDoor
namespace Go.Proofs.YtagppgncanimaaaGreatDoor
open Go.RowKit

theorem Tryz.infoWordX : (Tryz.prog.info? 109).map (fun i => (i.zero, i.size, i.bytes)) = some (some (.agg #[.string (tx []), .int .i64 0, .int .i64 0]), 3, 32) := by kernel_rfl
theorem flatW_app (a b : List Wo.Wd) : flatW (a ++ b) = flatW a ++ flatW b := by simp [flatW]
theorem flatW_oneX (ws : List Wo.Wd) : ∀ u ∈ flatW ws, u.oneCell' = true := by
  intro u hu
  obtain ⟨x, _, hx⟩ := List.mem_flatMap.1 hu
  simp [wcl] at hx
  rcases hx with rfl | rfl | rfl <;> rfl
theorem own_srcW {w : World} {B : Nat} {v : Value} {ws : List Wo.Wd} (h : w.ownsRow B 109 3 v ws.length (flatW ws)) : (∃ c, v = .slice none 0 c ∧ ws.length = 0 ∧ flatW ws = []) ∨ ∃ ad c, v = .slice (some ad) ws.length c ∧ (flatW ws).length = ws.length * 3 ∧ ∀ j u, (flatW ws)[j]? = some u → w.cell? (ad.add j) = some u := by
  rcases h.2 with ⟨e, e0⟩ | ⟨g, cap, cur, e, _⟩
  · exact Or.inl ⟨0, e, e0, by rw [List.length_eq_zero_iff.1 e0]; rfl⟩
  · exact Or.inr ⟨_, cap, e, h.1, fun j u hj => h.cells (g := g) (by rw [e]; rfl) j u hj⟩
theorem own_wdat {w : World} {B : Nat} {v : Value} {ws : List Wo.Wd} (h : w.ownsRow B 109 3 v ws.length (flatW ws)) : WdAt w v (ws.map (·.1)) := by
  by_cases h0 : ws = []
  · subst h0
    obtain ⟨ao, cap, e⟩ := own_form h
    exact ⟨ao, cap, e, Or.inl rfl⟩
  · obtain ⟨g, cap, e, _, hg, hc⟩ := ownX_form h (List.length_pos_iff.2 h0)
    refine ⟨_, cap, by rw [e]; simp, Or.inr ⟨g, 0, rfl, hg, fun i t ht => ?_⟩⟩
    rw [List.getElem?_map, Option.map_eq_some_iff] at ht
    obtain ⟨x, hx, rfl⟩ := ht
    rw [Nat.zero_add]
    exact hc _ _ (flatW_at hx).1

theorem own_keepW {w w' : World} {B n : Nat} {v : Value} {xs : List Value} (h : w.ownsRow B 109 3 v n xs) (hb : Below w.heap.size w w') : w'.ownsRow B 109 3 v n xs := own_same h fun g hg => hb.block g (h.lt g hg).2
theorem flatten_memX {ls : List (List Wo.Wd)} {x : List Wo.Wd} (h : x ∈ ls) : x.length ≤ ls.flatten.length := by
  induction ls with
  | nil => cases h
  | cons a t ih =>
    rw [List.flatten_cons, List.length_append]
    rcases List.mem_cons.1 h with rfl | h
    · omega
    · have := ih h; omega

set_option maxRecDepth 20000 in
set_option maxHeartbeats 2000000 in
theorem gParse_ok {w : World} {s : List UInt8} {ls : List (List Wo.Wd)} {A P : List Rx} (hs : s.length ≤ 1048576) (hr : Wo.read s = ls) (he : Wo.err s = 0) (hl : ls.flatten.length ≤ 1000000) (hll : ls.length ≤ 1000000) (hG : Goes (ls.flatten.map (·.1)) 0 [([], [])] [(A, P)]) (hP : P ≠ []) (hn : nodesL A + nodesL P ≤ 900000) (hF : (wholeR A P).Fit) (hc : chkN (wholeR A P) = 0) :
    Calls Tryz.prog 15 #[.string (tx s)] w fun e w' => ∃ u n c, e = .returned (.tuple #[.agg #[.int .i64 (wholeR A P).op, .string (tx (wholeR A P).name), .slice u n c], .int .i64 0, .int .i64 0, .int .i64 0]) ∧ Hid (RxS w' (.slice u n c) (wholeR A P).kids) ∧ Below w.heap.size w w' := by
  obtain ⟨i0, hi, hz0, hz1, hz2⟩ := info_parts Tryz.infoWordX
  have HI := hid hi
  have HZ0 := hid hz0
  have HZ1 := hid hz1
  have HZ2 := hid hz2
  clear hi hz0 hz1 hz2
  have HLI := hid (fun (W : World) => (by
    have := Lines_any s W hs
    rw [hr, he] at this
    exact this : Calls Tryz.prog 36 #[.string (tx s)] W fun e w' => ∃ v, e = .returned (.tuple #[v, .int .i64 (Wo.faultL s), .int .i64 (Wo.faultC s), .int .i64 ((0 : Nat) : Int)]) ∧ Hid (LinesAt w' W.heap.size v ls) ∧ Below W.heap.size W w'))
  have HRD := hid (fun (W : World) (v : Value) (hW : WdAt W v (ls.flatten.map (·.1))) => gRead_ok hW (by rw [List.length_map]; exact hl) hG hP hn hF hc)
  obtain ⟨R, hR⟩ : ∃ R, R = wholeR A P := ⟨_, rfl⟩
  rw [← hR] at HRD ⊢
  obtain ⟨fl, hfl⟩ : ∃ fl, fl = Wo.faultL s := ⟨_, rfl⟩
  obtain ⟨fc, hfc⟩ : ∃ fc, fc = Wo.faultC s := ⟨_, rfl⟩
  rw [← hfl, ← hfc] at HLI
  have HL := hid hl
  clear hs hr he hG hP hn hF hc hR hfl hfc hl
  go_enter Tryz.func15, Tryz.ntmps15
  go_wp2_with fail
  refine (HLI.out _).mono ?_
  rintro en w1 ⟨v, rfl, HLA, hb1⟩
  obtain ⟨ao, cap, rfl⟩ := HLA.out.form
  obtain ⟨m, hm⟩ : ∃ m, m = ls.length := ⟨_, rfl⟩
  have HM := hid hm
  rw [← hm] at HLA hll ⊢
  clear hm
  have hs1 : w.heap.size + 1 ≤ w1.heap.size := by have := hb1.size; simpa using this
  have hbx1 : w1.heap[w.heap.size]? = some (.cells #[.int .i64 0, .string ⟨#[]⟩, .slice none 0 0] 25 (0, 0)) := (hb1.block w.heap.size (by simp)).trans (new_0 _ _)
  have HBX := hid hbx1
  have B1 := hid (show Below w.heap.size w w1 from ((Below.refl _ _).alloc (Nat.le_refl _) _).trans (hb1.mono (by simp)))
  clear hb1 hbx1
  go_wp2_with fail
  go_loopw [10, 30] (fun u i wr => ∃ j : Nat, j ≤ m ∧ i = .int .i64 j ∧ Hid (wr.ownsRow w1.heap.size 109 3 u (ls.take j).flatten.length (flatW (ls.take j).flatten)) ∧ Hid (Below w1.heap.size w1 wr)) (fun _ i _ => m - (intOf i).toNat)
  case atStart => exact ⟨0, Nat.zero_le _, rfl, World.ownsRow_nil _ _ _ _, Below.refl _ _⟩
  case round =>
    obtain ⟨j, hj, rfl, HO, HB⟩ := hrel
    have hql : (ls.take j).flatten.length ≤ 1000000 := by
      have h1 := HL.out
      have h2 : ls.flatten.length = (ls.take j).flatten.length + (ls.drop j).flatten.length := by
        rw [← List.length_append, ← List.flatten_append, List.take_append_drop]
      omega
    obtain ⟨q, hq⟩ : ∃ q, q = (ls.take j).flatten := ⟨_, rfl⟩
    have HQ := hid hq
    rw [← hq] at HO hql
    obtain ⟨k, hk⟩ : ∃ k, k = q.length := ⟨_, rfl⟩
    have HK := hid hk
    rw [← hk] at HO hql
    obtain ⟨bo, vc, rfl⟩ := own_form HO.out
    clear hq hk
    by_cases hlt : j < m
    · obtain ⟨x, hx⟩ : ∃ x, ls[j]? = some x := ⟨ls[j]'(by rw [← HM.out]; exact hlt), List.getElem?_eq_getElem _⟩
      obtain ⟨vs, ho, hvl, hvi⟩ := HLA.out
      obtain ⟨v, hv, hown⟩ := hvi j x hx
      obtain ⟨g, cp, e, _, hg, hcell⟩ := ownX_form ho (by rw [← HM.out]; omega)
      injection e with e e1 e2
      subst e e2
      clear e1
      have k0 := (HB.out.cell (p := ⟨g, j, none⟩) (by exact hg)).trans (hcell j v hv)
      have hownr := own_keepW hown HB.out
      have HSRC := hid (own_srcW hownr)
      have hxl : x.length ≤ 1000000 := by
        have h1 := HL.out
        have h2 := flatten_memX (List.mem_of_getElem? hx)
        omega
      have HTK := hid (show (ls.take (j + 1)).flatten = q ++ x by rw [List.take_add_one, hx, List.flatten_append, HQ.out]; simp)
      obtain ⟨vo, vcc, rfl⟩ := own_form hown
      obtain ⟨xn, hxn⟩ : ∃ xn, xn = x.length := ⟨_, rfl⟩
      have HXN := hid hxn
      rw [← hxn] at k0 HSRC hxl
      have HONE := hid (flatW_oneX x)
      have hkI : (j : Int) < (m : Int) := by omega
      have hk0 : (0 : Int) ≤ (j : Int) := by omega
      have hszr := HB.out.size
      clear hx ho hvl hvi hv hown hcell hownr hxn
      go_wp2_with (first | (at_builtin; refine wpList_append_srcX _ rfl _ _ 70 rfl w1.heap.size 109 i0 (.agg #[.string (tx []), .int .i64 0, .int .i64 0]) 3 32 Tryz.underlying70 HI.out HZ0.out HZ1.out HZ2.out rfl (by decide) (.slice bo k vc) k (flatW q) rfl HO.out (.slice vo xn vcc) xn (flatW x) rfl HSRC.out HONE.out ?c3 ?c4 ?c5 ?_))
      case c3 => unfold maxLen; omega
      case c4 => omega
      case c5 => exact hszr
      intro v3 w3 hown3 hgrow3 _
      obtain ⟨a3, c3, rfl⟩ := own_form hown3
      have B3 := hid (show Below w1.heap.size w1 w3 from HB.out.grown hgrow3 hszr (fun q hq => (HO.out.lt q hq).1))
      have O3 := hid (show w3.ownsRow w1.heap.size 109 3 (.slice a3 (k + xn) c3) (ls.take (j + 1)).flatten.length (flatW (ls.take (j + 1)).flatten) from by
        rw [HTK.out, flatW_app, List.length_append, ← HK.out, ← HXN.out]
        exact hown3)
      clear hown3 hgrow3
      go_wp2
      go_roundw
      case rel => exact ⟨j + 1, by omega, by go_num, O3, B3⟩
      case measure => simp [intOf]; omega
    · have hkI : ¬ ((j : Int) < (m : Int)) := by omega
      have HE := hid (show q = ls.flatten by rw [HQ.out, List.take_of_length_le (by have := HM.out; omega)])
      have HWD := hid (show WdAt wr (.slice bo k vc) (ls.flatten.map (·.1)) from by
        rw [← HE.out]
        exact own_wdat (by rw [← HK.out]; exact HO.out))
      have HR1 := hid (HRD.out _ _ HWD.out)
      have hszr := HB.out.size
      have hbxr : wr.heap[w.heap.size]? = some (.cells #[.int .i64 0, .string ⟨#[]⟩, .slice none 0 0] 25 (0, 0)) := (HB.out.block _ (by omega)).trans HBX.out
      have HBR := hid hbxr
      clear hbxr hlt
      go_wp2_with fail
      refine HR1.out.mono ?_
      rintro en w4 ⟨u, n, c, rfl, X4, hb4⟩
      have hs4 := hb4.size
      have B4 := hid (show Below w.heap.size w w4 from below_2x (below_2x B1.out HB.out) hb4)
      have hbx : w4.heap[w.heap.size]? = some (.cells #[.int .i64 0, .string ⟨#[]⟩, .slice none 0 0] 25 (0, 0)) := (hb4.block _ (by omega)).trans HBR.out
      have HBX4 := hid hbx
      have x0 : ∀ o, (w4.alloc o).cell? ⟨w.heap.size, 0, none⟩ = some (.int .i64 0) := fun o => by rw [cell_at (new_old _ o hbx)]; rfl
      have x1 : ∀ o, (w4.alloc o).cell? ⟨w.heap.size, 1, none⟩ = some (.string ⟨#[]⟩) := fun o => by rw [cell_at (new_old _ o hbx)]; rfl
      have x2 : ∀ o, (w4.alloc o).cell? ⟨w.heap.size, 2, none⟩ = some (.slice none 0 0) := fun o => by rw [cell_at (new_old _ o hbx)]; rfl
      have y0 : ∀ o, (w4.alloc o).frozen? ⟨w.heap.size, 0, none⟩ = false := fun o => free_of (new_old _ o hbx)
      have y1 : ∀ o, (w4.alloc o).frozen? ⟨w.heap.size, 1, none⟩ = false := fun o => free_of (new_old _ o hbx)
      have y2 : ∀ o, (w4.alloc o).frozen? ⟨w.heap.size, 2, none⟩ = false := fun o => free_of (new_old _ o hbx)
      clear hb4 hbx
      go_wp2
      refine bodyPost_ret (v := .tuple #[.agg #[.int .i64 R.op, .string (tx R.name), .slice u n c], .int .i64 0, .int .i64 0, .int .i64 0]) (by simp [results, Tryz.results15, go_sem, x0, x1, x2]) rfl ⟨u, n, c, rfl, ?_, ?_⟩
      · refine hid (X4.out.on ⟨by simp, fun k hk hl => ?_⟩).low
        rw [set3_heap (by omega)]
        exact Below.heap_alloc _ _ _ hl
      · exact (((B4.out.alloc (by omega) _).setCell (Nat.le_refl _) _).setCell (Nat.le_refl _) _).setCell (Nat.le_refl _) _
end Go.Proofs.YtagppgncanimaaaGreatDoor
