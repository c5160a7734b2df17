/-
  Proved: for every expression and every path the law RegexMatches answers true (Match and Names answer as the document's own reckoning), and leaves its arguments as they were. Conditions: the tables of Go's library and of the program start as the program's text lays them (the card's tie); none on the arguments.
  A path that came in as an argument, opened: a slice of structs with a slice of texts inside.
  The law RegexMatches answers true.
  Names, of the program and of the document, and whether two rows of texts are alike.
-/
import Derived.Test.YtnmmfbhmfcabhaaGreatDoorZSortAnd
import Derived.Test.YtnmmfbhmfcabhaaGreatDoorXAddAnd
import Derived.Test.YtnmmfbhmfcabhaaGreatDoorZTakeAnd
import Derived.Deep.RegionHeld3
import Derived.Deep.QuietTactic
import Derived.BigQuiet
import Derived.Test.YtnmmfbhmfcabhaaGreatDoorZSpanDAnd
import Derived.Test.YtnmmfbhmfcabhaaGreatDoorZGoesAnd
import Derived.Test.YtnmmfbhmfcabhaaGreatDoorZIsAnd
import Derived.Test.YtnmmfbhmfcabhaaGreatDoorZAwakeAnd
import Derived.Test.YtnmmfbhmfcabhaaGreatDoorRows
import Derived.Test.YtnmmfbhmfcabhaaGreatDoorCards
import Derived.Test.YtnmmfbhmfcabhaaGreatDoorTie
import Derived.WalkKit
import Derived.ProofKit
import Derived.OpenShut
import Derived.ShutString
import Derived.Lay
import Derived.LaidOnce
import Derived.SevenTiedAt
import Derived.LaidSub
import Derived.MakeChecks
namespace Go.Proofs.YtnmmfbhmfcabhaaGreatDoor
open Go.RowKit
open Zn (PortsV TxtAt)

/-- The names of a kind, rising, each once; none of an expression that may not be. -/
def nmsN (op : Int) (r : Rx) : List (List UInt8) := if chkN r = 0 then (r.nms op).foldl Ru.put [] else []
/-- What Names leaves. -/
def NamesPost (w : World) (r : Rx) (e : Ending) (w' : World) : Prop := ∃ u1 n1 c1 u2 n2 c2, e = .returned (.tuple #[.slice u1 n1 c1, .slice u2 n2 c2, .int .i64 (chkN r)]) ∧ Hid (PortsV w' 0 (.slice u1 n1 c1) (nmsN 1 r)) ∧ Hid (PortsV w' 0 (.slice u2 n2 c2) (nmsN 2 r)) ∧ Hid (Below w.heap.size w w')
theorem names_none {w w' : World} {r : Rx} (h : chkN r ≠ 0) (hb : Below w.heap.size w w') : NamesPost w r (.returned (.tuple #[.slice none 0 0, .slice none 0 0, .int .i64 (chkN r)])) w' := by
  refine ⟨none, 0, 0, none, 0, 0, rfl, Or.inl ⟨?_, rfl⟩, Or.inl ⟨?_, rfl⟩, hb⟩
  · unfold nmsN; rw [if_neg h]
  · unfold nmsN; rw [if_neg h]

set_option maxRecDepth 20000 in
set_option maxHeartbeats 2000000 in
theorem gNames_any {w : World} {v : Value} {r : Rx} (hS : RxS w v r.kids) (hF : r.Fit) : Calls Tryz.prog 21 #[.agg #[.int .i64 r.op, .string (tx r.name), v]] w fun e w' => NamesPost w r e w' := by
  have HCK := hid (fun (W : World) (hb : Below w.heap.size w W) => gCheck_any (r := r) (hS.on hb) hF)
  have HNM := hid (fun (op : Int) (ho : op = 1 ∨ op = 2) (hc : chkN r = 0) (W : World) (hb : Below w.heap.size w W) => names_any (op := op) (hS.on hb) (chk_zero hc).2 (chk_zero hc).1 ho)
  have HBAD := hid (fun (h : chkN r ≠ 0) (w' : World) (hb : Below w.heap.size w w') => names_none h hb)
  obtain ⟨ao, cap, rfl, -⟩ := hS.at
  obtain ⟨kn, hkn⟩ : ∃ kn, kn = r.kids.length := ⟨_, rfl⟩
  rw [← hkn] at HCK HNM ⊢
  have HB0 := hid (boxed.start w r (.slice ao kn cap))
  obtain ⟨c, hc⟩ : ∃ c, c = chkN r := ⟨_, rfl⟩
  have HCE := hid hc
  have hcl : c ≤ 1000 := by rw [hc]; unfold chkN; split <;> (try split) <;> (try split) <;> omega
  rw [← hc] at HCK HNM HBAD
  clear hS hF hkn hc
  by_cases h0 : c = 0
  · subst h0
    have HN1 := hid (fun (W : World) (hb : Below w.heap.size w W) => HNM.out 1 (Or.inl rfl) rfl W hb)
    have HN2 := hid (fun (W : World) (hb : Below w.heap.size w W) => HNM.out 2 (Or.inr rfl) rfl W hb)
    have HX := hid (show (r.nms 1).foldl Ru.put [] = nmsN 1 r ∧ (r.nms 2).foldl Ru.put [] = nmsN 2 r from ⟨by unfold nmsN; rw [if_pos HCE.out.symm], by unfold nmsN; rw [if_pos HCE.out.symm]⟩)
    rw [HX.out.1] at HN1
    rw [HX.out.2] at HN2
    unfold NmdPost at HN1 HN2
    clear HNM HBAD
    go_enter Tryz.func21, Tryz.ntmps21
    go_wp2_with fail
    refine (HCK.out _ HB0.out.low).mono ?_
    rintro en w1 ⟨rfl, hb1⟩
    have B1 := hid (HB0.out.on hb1)
    obtain ⟨c0, c1, c2⟩ := B1.out.cells
    clear hb1
    have HA := hid (by
      refine (HN1.out w1.drew B1.out.low.drew).mono ?_
      rintro e w2 ⟨u, n, c, rfl, p, l⟩
      have b2 := (show boxed w r (.slice ao kn cap) w1.drew from B1.out.drew).on l.out
      exact ⟨u, n, c, rfl, b2.cells, p, b2⟩ : Calls Tryz.prog 43 #[.agg #[.int .i64 r.op, .string (tx r.name), .slice ao kn cap], .int .i64 1] w1.drew fun e w2 => ∃ u n c, e = .returned (.slice u n c) ∧ (w2.cell? ⟨w.heap.size, 0, none⟩ = some (.int .i64 r.op) ∧ w2.cell? ⟨w.heap.size, 1, none⟩ = some (.string (tx r.name)) ∧ w2.cell? ⟨w.heap.size, 2, none⟩ = some (.slice ao kn cap)) ∧ Hid (PortsV w2 0 (.slice u n c) (nmsN 1 r)) ∧ Hid (boxed w r (.slice ao kn cap) w2))
    have HB := hid (fun (w2 : World) (u1 : Option Addr) (n1 c1 : Nat) (b2 : boxed w r (.slice ao kn cap) w2) (p2 : PortsV w2 0 (.slice u1 n1 c1) (nmsN 1 r)) => (by
      refine (HN2.out w2 b2.low).mono ?_
      rintro e w3 ⟨u, n, c, rfl, p, l⟩
      have b3 := b2.on l.out
      exact ⟨u, n, c, rfl, b3.cells, PortsV.on p2 l.out, p, b3⟩ : Calls Tryz.prog 43 #[.agg #[.int .i64 r.op, .string (tx r.name), .slice ao kn cap], .int .i64 2] w2 fun e w3 => ∃ u n c, e = .returned (.slice u n c) ∧ (w3.cell? ⟨w.heap.size, 0, none⟩ = some (.int .i64 r.op) ∧ w3.cell? ⟨w.heap.size, 1, none⟩ = some (.string (tx r.name)) ∧ w3.cell? ⟨w.heap.size, 2, none⟩ = some (.slice ao kn cap)) ∧ Hid (PortsV w3 0 (.slice u1 n1 c1) (nmsN 1 r)) ∧ Hid (PortsV w3 0 (.slice u n c) (nmsN 2 r)) ∧ Hid (boxed w r (.slice ao kn cap) w3)))
    go_wp2_with fail
    go_region_held3 (fun W => W.cell? ⟨w.heap.size, 0, none⟩ = some (.int .i64 r.op) ∧ W.cell? ⟨w.heap.size, 1, none⟩ = some (.string (tx r.name)) ∧ W.cell? ⟨w.heap.size, 2, none⟩ = some (.slice ao kn cap)) (first | (go_keep; done) | exact S2 | exact S3) (first
      | (go_at_call 43; refine (HB.out w2 u1 n1 k1 B2.out P1.out).mono ?_; rintro en w3 ⟨u2, n2, k2, rfl, S3, P2, P3, B3⟩)
      | (go_at_call 43; refine HA.out.mono ?_; rintro en w2 ⟨u1, n1, k1, rfl, S2, P1, B2⟩))
    go_wp2
    exact bodyPost_ret (v := .tuple #[.slice u1 n1 k1, .slice u2 n2 k2, .int .i64 0]) (by simp [results, Tryz.results21, go_sem]) rfl ⟨u1, n1, k1, u2, n2, k2, by rw [← HCE.out]; rfl, P2, P3, B3.out.low⟩
  · have hcI : ((c : Int) == 0) = false := by rw [beq_eq_false_iff_ne]; omega
    have HB2 := hid (HBAD.out h0)
    clear HNM h0 HBAD
    go_enter Tryz.func21, Tryz.ntmps21
    go_wp2_with fail
    refine (HCK.out _ HB0.out.low).mono ?_
    rintro en w1 ⟨rfl, hb1⟩
    have B1 := hid (HB0.out.on hb1)
    clear hb1
    go_wp2
    exact bodyPost_ret (v := .tuple #[.slice none 0 0, .slice none 0 0, .int .i64 c]) (by simp [results, Tryz.results21, go_sem]) rfl (HB2.out _ B1.out.low)

set_option maxRecDepth 20000 in
set_option maxHeartbeats 2000000 in
theorem RNames_any {w : World} {v : Value} {r : Rx} (hS : RxS w v r.kids) (hF : r.Fit) : Calls Tryz.prog 22 #[.agg #[.int .i64 r.op, .string (tx r.name), v]] w fun e w' => NamesPost w r e w' := by
  have HCK := hid (fun (W : World) (hb : Below w.heap.size w W) => RCheck_any (r := r) (hS.on hb) hF)
  have HNM := hid (fun (op : Int) (_ : op = 1 ∨ op = 2) (hc : chkN r = 0) (W : World) (hb : Below w.heap.size w W) => RNamed_any op r (hS.on hb) (Or.inl ⟨rfl, rfl⟩ : PortsV W 0 (.slice none 0 0) []) (by have := (chk_zero hc).2; simp; omega))
  have HBAD := hid (fun (h : chkN r ≠ 0) (w' : World) (hb : Below w.heap.size w w') => names_none h hb)
  obtain ⟨ao, cap, rfl, -⟩ := hS.at
  obtain ⟨kn, hkn⟩ : ∃ kn, kn = r.kids.length := ⟨_, rfl⟩
  rw [← hkn] at HCK HNM ⊢
  have HB0 := hid (boxed.start w r (.slice ao kn cap))
  obtain ⟨c, hc⟩ : ∃ c, c = chkN r := ⟨_, rfl⟩
  have HCE := hid hc
  have hcl : c ≤ 1000 := by rw [hc]; unfold chkN; split <;> (try split) <;> (try split) <;> omega
  rw [← hc] at HCK HNM HBAD
  clear hS hF hkn hc
  by_cases h0 : c = 0
  · subst h0
    have HN1 := hid (fun (W : World) (hb : Below w.heap.size w W) => HNM.out 1 (Or.inl rfl) rfl W hb)
    have HN2 := hid (fun (W : World) (hb : Below w.heap.size w W) => HNM.out 2 (Or.inr rfl) rfl W hb)
    have HX := hid (show (r.nms 1).foldl Ru.put [] = nmsN 1 r ∧ (r.nms 2).foldl Ru.put [] = nmsN 2 r from ⟨by unfold nmsN; rw [if_pos HCE.out.symm], by unfold nmsN; rw [if_pos HCE.out.symm]⟩)
    rw [HX.out.1] at HN1
    rw [HX.out.2] at HN2
    unfold NmdPost at HN1 HN2
    clear HNM HBAD
    go_enter Tryz.func22, Tryz.ntmps22
    go_wp2_with fail
    refine (HCK.out _ HB0.out.low).mono ?_
    rintro en w1 ⟨rfl, hb1⟩
    have B1 := hid (HB0.out.on hb1)
    obtain ⟨c0, c1, c2⟩ := B1.out.cells
    clear hb1
    have HA := hid (by
      refine (HN1.out w1.drew B1.out.low.drew).mono ?_
      rintro e w2 ⟨u, n, c, rfl, p, l⟩
      have b2 := (show boxed w r (.slice ao kn cap) w1.drew from B1.out.drew).on l.out
      exact ⟨u, n, c, rfl, b2.cells, p, b2⟩ : Calls Tryz.prog 44 #[.agg #[.int .i64 r.op, .string (tx r.name), .slice ao kn cap], .int .i64 1, .slice none 0 0] w1.drew fun e w2 => ∃ u n c, e = .returned (.slice u n c) ∧ (w2.cell? ⟨w.heap.size, 0, none⟩ = some (.int .i64 r.op) ∧ w2.cell? ⟨w.heap.size, 1, none⟩ = some (.string (tx r.name)) ∧ w2.cell? ⟨w.heap.size, 2, none⟩ = some (.slice ao kn cap)) ∧ Hid (PortsV w2 0 (.slice u n c) (nmsN 1 r)) ∧ Hid (boxed w r (.slice ao kn cap) w2))
    have HB := hid (fun (w2 : World) (u1 : Option Addr) (n1 c1 : Nat) (b2 : boxed w r (.slice ao kn cap) w2) (p2 : PortsV w2 0 (.slice u1 n1 c1) (nmsN 1 r)) => (by
      refine (HN2.out w2 b2.low).mono ?_
      rintro e w3 ⟨u, n, c, rfl, p, l⟩
      have b3 := b2.on l.out
      exact ⟨u, n, c, rfl, b3.cells, PortsV.on p2 l.out, p, b3⟩ : Calls Tryz.prog 44 #[.agg #[.int .i64 r.op, .string (tx r.name), .slice ao kn cap], .int .i64 2, .slice none 0 0] w2 fun e w3 => ∃ u n c, e = .returned (.slice u n c) ∧ (w3.cell? ⟨w.heap.size, 0, none⟩ = some (.int .i64 r.op) ∧ w3.cell? ⟨w.heap.size, 1, none⟩ = some (.string (tx r.name)) ∧ w3.cell? ⟨w.heap.size, 2, none⟩ = some (.slice ao kn cap)) ∧ Hid (PortsV w3 0 (.slice u1 n1 c1) (nmsN 1 r)) ∧ Hid (PortsV w3 0 (.slice u n c) (nmsN 2 r)) ∧ Hid (boxed w r (.slice ao kn cap) w3)))
    go_wp2_with fail
    go_region_held3 (fun W => W.cell? ⟨w.heap.size, 0, none⟩ = some (.int .i64 r.op) ∧ W.cell? ⟨w.heap.size, 1, none⟩ = some (.string (tx r.name)) ∧ W.cell? ⟨w.heap.size, 2, none⟩ = some (.slice ao kn cap)) (first | (go_keep; done) | exact S2 | exact S3) (first
      | (go_at_call 44; refine (HB.out w2 u1 n1 k1 B2.out P1.out).mono ?_; rintro en w3 ⟨u2, n2, k2, rfl, S3, P2, P3, B3⟩)
      | (go_at_call 44; refine HA.out.mono ?_; rintro en w2 ⟨u1, n1, k1, rfl, S2, P1, B2⟩))
    go_wp2
    exact bodyPost_ret (v := .tuple #[.slice u1 n1 k1, .slice u2 n2 k2, .int .i64 0]) (by simp [results, Tryz.results22, go_sem]) rfl ⟨u1, n1, k1, u2, n2, k2, by rw [← HCE.out]; rfl, P2, P3, B3.out.low⟩
  · have hcI : ((c : Int) == 0) = false := by rw [beq_eq_false_iff_ne]; omega
    have HB2 := hid (HBAD.out h0)
    clear HNM h0 HBAD
    go_enter Tryz.func22, Tryz.ntmps22
    go_wp2_with fail
    refine (HCK.out _ HB0.out.low).mono ?_
    rintro en w1 ⟨rfl, hb1⟩
    have B1 := hid (HB0.out.on hb1)
    clear hb1
    go_wp2
    exact bodyPost_ret (v := .tuple #[.slice none 0 0, .slice none 0 0, .int .i64 c]) (by simp [results, Tryz.results22, go_sem]) rfl (HB2.out _ B1.out.low)

set_option maxRecDepth 20000 in
set_option maxHeartbeats 2000000 in
theorem texts9_any {w : World} {va vb : Value} {zs : List (List UInt8)} (hA : PortsV w 0 va zs) (hB : PortsV w 0 vb zs) (hn : zs.length ≤ 1000000) : Calls Tryz.prog 23 #[va, vb] w fun e w' => e = .returned (.bool true) ∧ Below w.heap.size w w' := by
  have HA := hid (fun (W : World) (hb : Below w.heap.size w W) => PortsV.on hA hb)
  have HB := hid (fun (W : World) (hb : Below w.heap.size w W) => PortsV.on hB hb)
  obtain ⟨ao, ac, rfl⟩ : ∃ ao ac, va = .slice ao zs.length ac := by
    rcases hA with ⟨rfl, rfl⟩ | ⟨b, cap, rfl, _⟩
    · exact ⟨none, 0, rfl⟩
    · exact ⟨_, _, rfl⟩
  obtain ⟨bo, bc, rfl⟩ : ∃ bo bc, vb = .slice bo zs.length bc := by
    rcases hB with ⟨rfl, rfl⟩ | ⟨b, cap, rfl, _⟩
    · exact ⟨none, 0, rfl⟩
    · exact ⟨_, _, rfl⟩
  obtain ⟨n, hnn⟩ : ∃ n, n = zs.length := ⟨_, rfl⟩
  have HN := hid hnn
  rw [← hnn] at hn HA HB ⊢
  clear hA hB hnn
  go_enter Tryz.func23, Tryz.ntmps23
  go_wp2_with fail
  go_loopw [5] (fun x wr => ∃ i : Nat, i ≤ n ∧ x = .int .i64 i ∧ Hid (Below w.heap.size w wr)) (fun x _ => n - (intOf x).toNat)
  case atStart => exact ⟨0, Nat.zero_le _, rfl, Below.refl _ _⟩
  case round =>
    obtain ⟨i, hi, rfl, LI⟩ := hrel
    by_cases hlt : i < n
    · have hiI : (i : Int) < (n : Int) := by omega
      have hi0 : (0 : Int) ≤ (i : Int) := by omega
      obtain ⟨z, hz⟩ : ∃ z, zs[i]? = some z := ⟨zs[i]'(by rw [← HN.out]; exact hlt), List.getElem?_eq_getElem _⟩
      obtain ⟨g, rfl, hg⟩ : ∃ g, ao = some ⟨g, 0, none⟩ ∧ wr.cell? ⟨g, i, none⟩ = some (.string (tx z)) := by
        rcases HA.out wr LI.out with ⟨e, _⟩ | ⟨b, cap, e, _, hT⟩
        · rw [e] at hz; simp at hz
        · injection e with e1 _ _; exact ⟨b, e1, hT.cell hz⟩
      obtain ⟨g', rfl, hg'⟩ : ∃ g, bo = some ⟨g, 0, none⟩ ∧ wr.cell? ⟨g, i, none⟩ = some (.string (tx z)) := by
        rcases HB.out wr LI.out with ⟨e, _⟩ | ⟨b, cap, e, _, hT⟩
        · rw [e] at hz; simp at hz
        · injection e with e1 _ _; exact ⟨b, e1, hT.cell hz⟩
      clear hz
      go_wp2_with fail
      go_quiet (fail)
      go_wp2
      exact ⟨⟨i + 1, by omega, by go_num, below_drewN LI.out⟩, by simp [intOf]; omega⟩
    · have hiI : ¬ (i : Int) < (n : Int) := by omega
      go_wp2
      exact bodyPost_ret (v := .bool true) (by simp [results, Tryz.results23, go_sem]) rfl ⟨rfl, LI.out⟩
end Go.Proofs.YtnmmfbhmfcabhaaGreatDoor
namespace Go.Proofs.YtnmmfbhmfcabhaaGreatDoor
open Go.RowKit
open Zn (PortsV TxtAt)

theorem nmsN_len (op : Int) (r : Rx) : (nmsN op r).length ≤ 1000000 := by
  unfold nmsN
  split
  · rename_i h
    have h1 := putAll_len (r.nms op) []
    have h2 := nms_len op r
    have h3 := (chk_zero h).2
    simp at h1
    omega
  · simp

set_option maxRecDepth 20000 in
set_option maxHeartbeats 2000000 in
theorem matches_any {w : World} {vr vp : Value} {r : Rx} {ps : Whos} (hR : RxS w vr r.kids) (fR : r.Fit) (hP : PathAt w vp ps) (hc : ∃ ao cap, vp = .slice ao ps.length cap ∧ ps.length ≤ cap) (hn : ps.length ≤ maxLen) (hAw : Awake9) :
    Calls Tryz.prog 5 #[.agg #[.int .i64 r.op, .string (tx r.name), vr], vp] w fun e w' => e = .returned (.bool true) ∧ Below w.heap.size w w' := by
  have hpl : (ps.take 30).length ≤ 30 := by rw [List.length_take]; omega
  have HPA := hid (fun (W : World) (hb : Below w.heap.size w W) => path9_any (hP.on hb) hc hn)
  have HGM := hid (fun (W : World) (hb : Below w.heap.size w W) (v : Value) (hp : PathAt W v (ps.take 30)) => gMatch_any (r := r) (hR.on hb) fR hp (by omega))
  have HRM := hid (fun (W : World) (hb : Below w.heap.size w W) (v : Value) (hp : PathAt W v (ps.take 30)) => RMatch_any (r := r) (hR.on hb) fR hp hpl)
  have HGN := hid (fun (W : World) (hb : Below w.heap.size w W) => gNames_any (r := r) (hR.on hb) fR)
  have HRN := hid (fun (W : World) (hb : Below w.heap.size w W) => RNames_any (r := r) (hR.on hb) fR)
  have HTX := hid (fun (W : World) (op : Int) (va vb : Value) (ha : PortsV W 0 va (nmsN op r)) (hb : PortsV W 0 vb (nmsN op r)) => texts9_any ha hb (nmsN_len op r))
  have HAw := hid hAw
  unfold Awake9 at HAw
  obtain ⟨ao, cap, rfl, -⟩ := hR.at
  obtain ⟨po, pcap, rfl⟩ := hP.cut
  obtain ⟨kn, hkn⟩ : ∃ kn, kn = r.kids.length := ⟨_, rfl⟩
  rw [← hkn] at HGM HRM HGN HRN ⊢
  obtain ⟨pn, hpn⟩ : ∃ pn, pn = ps.length := ⟨_, rfl⟩
  rw [← hpn] at HPA ⊢
  have B0 := hid (boxed.start w r (.slice ao kn cap))
  obtain ⟨c, hce⟩ : ∃ c, c = chkN r := ⟨_, rfl⟩
  have hcl : c ≤ 1000 := by rw [hce]; unfold chkN; split <;> (try split) <;> (try split) <;> omega
  obtain ⟨mb, hmb⟩ : ∃ mb, mb = (if c = 0 then matchB r (ps.take 30) else false) := ⟨_, rfl⟩
  rw [← hce, ← hmb] at HGM HRM
  unfold NamesPost at HGN HRN
  rw [← hce] at HGN HRN
  clear hR fR hP hc hn hAw hkn hpn hce hmb hpl
  go_enter Tryz.func5, Tryz.ntmps5
  go_wp2_with fail
  refine (HPA.out _ B0.out.low).mono ?_
  rintro en w1 ⟨pu, qn, pc, rfl, HP1, hb1⟩
  have B1 := hid (B0.out.on hb1.out)
  obtain ⟨c0, c1, c2⟩ := B1.out.cells
  clear hb1
  go_wp2_with fail
  refine (HGM.out _ B1.out.low _ HP1.out).mono ?_
  rintro en w2 ⟨rfl, hb2⟩
  have B2 := hid (B1.out.on hb2)
  have HP2 := hid (HP1.out.on hb2)
  clear hb2 c0 c1 c2
  obtain ⟨c0, c1, c2⟩ := B2.out.cells
  go_wp2_with fail
  refine (HRM.out _ B2.out.low _ HP2.out).mono ?_
  rintro en w3 ⟨rfl, hb3⟩
  have B3 := hid (B2.out.on hb3)
  clear hb3 c0 c1 c2
  obtain ⟨c0, c1, c2⟩ := B3.out.cells
  go_wp2_with fail
  refine (HGN.out _ B3.out.low).mono ?_
  rintro en w4 ⟨u1, n1, k1, u2, n2, k2, rfl, P1, P2, hb4⟩
  have B4 := hid (B3.out.on hb4.out)
  clear hb4 c0 c1 c2
  obtain ⟨c0, c1, c2⟩ := B4.out.cells
  go_wp2_with fail
  refine (HRN.out _ B4.out.low).mono ?_
  rintro en w5 ⟨u3, n3, k3, u4, n4, k4, rfl, P3, P4, hb5⟩
  have B5 := hid (B4.out.on hb5.out)
  have P5 := hid (PortsV.on P1.out hb5.out)
  have P6 := hid (PortsV.on P2.out hb5.out)
  clear hb5 c0 c1 c2
  go_wp2_with fail
  refine (HTX.out w5 1 _ _ P5.out P3.out).mono ?_
  rintro en w6 ⟨rfl, hb6⟩
  have B6 := hid (B5.out.on hb6)
  have P7 := hid (PortsV.on P6.out hb6)
  have P8 := hid (PortsV.on P4.out hb6)
  clear hb6
  go_wp2_with fail
  refine (HTX.out w6 2 _ _ P7.out P8.out).mono ?_
  rintro en w7 ⟨rfl, hb7⟩
  have B7 := hid (B6.out.on hb7)
  clear hb7
  go_wp2_with fail
  refine (HAw.out w7).mono ?_
  rintro en w8 ⟨rfl, hb8⟩
  have B8 := hid (B7.out.on hb8)
  clear hb8
  go_wp2
  exact bodyPost_ret (v := .bool true) (by simp [results, Tryz.results5, go_sem]) rfl ⟨rfl, B8.out.low⟩
end Go.Proofs.YtnmmfbhmfcabhaaGreatDoor
namespace Go.Proofs.YtnmmfbhmfcabhaaGreatDoor
open Go.ChangeShapes Go.WideShapes Go.ChangeAt Go.RowKit

section
variable {H : Type} {enc : TypeId × Value → H} {w : World} {base : Nat} {held : Bool}

/-- Texts that came in. -/
theorem open_textsX {fuel : Nat} {v : Value} {x : DataW H × List MemPlace} (h : DataW.trod enc Tryz.prog w base (fun _ => true) held fuel 47 [v] = some x) : ∃ ps : List (List UInt8), Txs w v ps ∧ ps.length ≤ maxLen := by
  rcases open_strings Tryz.underlying47 Tryz.underlying9 (by kernel_rfl) h with ⟨hcs, _⟩ | ⟨a, len, cap, ss, hcs, _, hl, hm, hz, _, hcell, hws⟩
  · simp only [List.cons.injEq, and_true] at hcs
    exact ⟨[], by rw [hcs]; exact Txs.nil _ _ _, by simp⟩
  · simp only [List.cons.injEq, and_true] at hcs
    simp only [if_true] at hz
    have hlen : ((ss.take len).map (fun s => s.data.toList)).length = len := by rw [List.length_map, List.length_take]; omega
    refine ⟨(ss.take len).map (fun s => s.data.toList), ?_, by rw [hlen]; omega⟩
    refine ⟨some a, cap, by rw [hlen, hcs], ?_⟩
    by_cases h0 : len = 0
    · exact Or.inl (by rw [h0]; simp)
    · obtain ⟨⟨g, o, rfl⟩, hb⟩ := addrOfX (hcell 0 (by omega))
      refine Or.inr ⟨g, o, rfl, hb, fun i hi => ?_⟩
      rw [hlen] at hi
      have := hcell i (by omega)
      rw [addrAddX] at this
      rw [this]
      have hi2 : i < ss.length := by omega
      simp [List.getD_eq_getElem?_getD, List.getElem?_map, hi, List.getElem?_eq_getElem hi2]

set_option maxRecDepth 100000 in
theorem open_who {fuel : Nat} {cs : List Value} {x : DataW H × List MemPlace} (h : DataW.trod enc Tryz.prog w base (fun _ => true) held fuel 66 cs = some x) :
    ∃ (p : List UInt8 × List (List UInt8)) (v : Value), cs = [.string (tx p.1), v] ∧ Txs w v p.2 ∧ p.2.length ≤ maxLen := by
  obtain ⟨fs, hfs, hl⟩ := structOfX (P := Tryz.prog) (t := 66) (l := [(9, 0), (47, 1)]) (by kernel_rfl)
  obtain ⟨xs, n, _, _, hlen, hxl, hf⟩ := DataW.trod_struct hfs h
  have hc : Tryz.prog.cellsOf 66 = 2 := by kernel_rfl
  rw [hc] at hlen
  have hsz : fs.size = 2 := by have := congrArg List.length hl; simpa using this
  match cs, hlen with
  | [c0, c1], _ =>
    obtain ⟨f0, e0, t0, o0⟩ := fieldOfX hl (i := 0) rfl
    obtain ⟨f1, e1, t1, o1⟩ := fieldOfX hl (i := 1) rfl
    have g0 := hf 0 f0 e0
    have g1 := hf 1 f1 e1
    rw [t0, o0, show Tryz.prog.cellsOf 9 = 1 by kernel_rfl, List.getElem?_eq_getElem (show 0 < xs.length by omega)] at g0
    rw [t1, o1, show Tryz.prog.cellsOf 47 = 1 by kernel_rfl, List.getElem?_eq_getElem (show 1 < xs.length by omega)] at g1
    obtain ⟨m, hm1, _, hms⟩ := DataW.trod_string Tryz.underlying9 g0
    simp at hm1
    subst hm1
    have g1' : DataW.trod enc Tryz.prog w base (fun _ => true) held n 47 [c1] = some xs[1] := by simpa using g1
    obtain ⟨zs, hz, hzl⟩ := open_textsX g1'
    exact ⟨(m.data.toList, zs), c1, rfl, hz, hzl⟩

/-- A path that came in. -/
theorem open_path {fuel : Nat} {v : Value} {x : DataW H × List MemPlace} (h : DataW.trod enc Tryz.prog w base (fun _ => true) held fuel 41 [v] = some x) : ∃ ps : Whos, PathAt w v ps ∧ (∃ ao cap, v = .slice ao ps.length cap ∧ ps.length ≤ cap) ∧ ps.length ≤ maxLen := by
  rcases DataW.trod_slice Tryz.underlying41 h with ⟨hcs, _⟩ | ⟨a, len, cap, elems, rest, n2, hn2, hcs, _, _, hlc, hlm, hel, helem, _, _⟩
  · simp only [List.cons.injEq, and_true] at hcs
    exact ⟨[], ⟨none, 0, by rw [hcs]; rfl, Or.inl rfl⟩, ⟨none, 0, by rw [hcs]; rfl, by simp⟩, by simp⟩
  · simp only [List.cons.injEq, and_true] at hcs
    subst hcs
    rw [show Tryz.prog.cellsOf 66 = 2 by kernel_rfl] at helem
    have each : ∀ i, i < len → ∃ q : (List UInt8 × List (List UInt8)) × Value, w.cell? (a.add (i * 2)) = some (.string (tx q.1.1)) ∧ w.cell? ((a.add (i * 2)).add 1) = some q.2 ∧ Txs w q.2 q.1.2 ∧ q.1.2.length ≤ maxLen := by
      intro i hi
      have h1 := helem i hi
      rw [List.getElem?_eq_getElem (show i < elems.length by omega), Option.bind_eq_some_iff] at h1
      obtain ⟨cs', h2, h3⟩ := h1
      obtain ⟨_, _, hcell⟩ := World.cells?_some h2
      obtain ⟨p, u, rfl, h4, h5⟩ := open_who h3
      have c0 := hcell 0 (by omega)
      have c1 := hcell 1 (by omega)
      have e0 : (a.add (i * 2)).add 0 = a.add (i * 2) := by unfold Addr.add; simp
      rw [e0] at c0
      exact ⟨(p, u), c0, c1, h4, h5⟩
    by_cases h0 : len = 0
    · subst h0
      exact ⟨[], ⟨some a, cap, rfl, Or.inl rfl⟩, ⟨some a, cap, rfl, by simp⟩, by simp⟩
    have : Inhabited ((List UInt8 × List (List UInt8)) × Value) := ⟨(([], []), .bool false)⟩
    obtain ⟨q, hq⟩ := Go.Deep.choose_lt each
    obtain ⟨⟨g, o, rfl⟩, hb⟩ := addrOfX (v := .string (tx (q 0).1.1)) (by have := (hq 0 (by omega)).1; rw [Nat.zero_mul] at this; exact this)
    refine ⟨(List.range len).map fun i => (q i).1, ⟨some ⟨g, o, none⟩, cap, by simp, Or.inr ⟨g, o, rfl, hb, fun i p hp => ?_⟩⟩, ⟨some ⟨g, o, none⟩, cap, by simp, by simp; omega⟩, by simp; omega⟩
    rw [List.getElem?_map, Option.map_eq_some_iff] at hp
    obtain ⟨i', hi', rfl⟩ := hp
    obtain ⟨hi, rfl⟩ := List.getElem?_eq_some_iff.1 hi'
    simp only [List.length_range] at hi
    simp only [List.getElem_range]
    obtain ⟨c0, c1, h4, h5⟩ := hq i hi
    rw [addrAddX] at c0 c1
    rw [addrAddX] at c1
    obtain ⟨vo, vc, e, hr⟩ := h4
    refine ⟨h5, vo, (q i).1.2.length, vc, c0, ?_, ?_⟩
    · rw [c1, e]
    · exact ⟨vo, vc, rfl, hr⟩
end
end Go.Proofs.YtnmmfbhmfcabhaaGreatDoor
namespace Go.Proofs.YtnmmfbhmfcabhaaGreatDoor
open Go.ChangeShapes Go.WideShapes Go.ChangeAt Go.RowKit
open Go.ChangeMaps (open_string shut_string)

theorem ZCMat.laidOut : laidOutB Tryz.prog = true := by kernel_rfl
theorem ZCMat.own : ownKnob Tryz.prog.godebug = none := by kernel_rfl

set_option maxRecDepth 100000 in
set_option maxHeartbeats 2000000 in
theorem ZCMat.lifted (os : Os) (started : os.Started) (H : Type) (enc : TypeId × Value → H) :
    ReturnsInHanded {} Tryz.checked os 5 .any (fun w args => (Rows.regexMatchesSpec.pre enc Tryz.prog Tryz.f5 [] false w args ∧ laidMetH Tryz.prog Rows.regexMatchesRow.laid w) ∧ sizedMet enc Tryz.prog Tryz.f5 (OpenSpec.ofChange Rows.regexMatchesSpec) false w args)
      (Rows.regexMatchesSpec.post enc Tryz.prog Tryz.f5 false true false false) := by
  refine returnsInHanded_of_change_and (C := Tryz.checked) (X := fun w _ => laidMetH Tryz.prog Rows.regexMatchesRow.laid w) (fun _ _ _ hh h => h.of_heap hh) ZCMat.own started (by kernel_rfl) Tryz.func5
    (ChangeSpec.witness_shaped (enc := enc) (C := Tryz.checked) (os := os) (X := fun w _ => laidMetH Tryz.prog Rows.regexMatchesRow.laid w) false (World.laidAll Tryz.prog os Rows.regexMatchesRow.laid) #[.agg #[.int .i64 0, .string ByteArray.empty, .slice none 0 0], .slice none 0 0] 8 (World.laidAll_os _ _ _)
      (World.shaped_of_ZipB (by kernel_rfl) (by kernel_rfl)) (by kernel_rfl) (by kernel_rfl) (by kernel_rfl)
      (by rw [MakeChecks.laidMetH_plain _ _ _ (by kernel_rfl)]; exact laidMet_laidAll _ (by kernel_rfl) (by kernel_rfl))) ?_
  intro W base args ds gs before hval0 hW _ _ _ _
  have hval : ∀ (j : Nat) t v, Tryz.f5.params[j]? = some t → args[j]? = some v → Value.okWide Tryz.prog W .any base t v := hval0
  have hW' := hW
  obtain ⟨p, q, hA0, hV, rfl, _, _⟩ := hW
  have hA : DataW.TrodAll enc Tryz.prog W 0 (fun _ => true) true Tryz.f5.params.toList args.toList ds p := hA0
  rw [Tryz.params5] at hA hval
  obtain ⟨v0, vs0, d0, ds0, p0, q0, hargs, rfl, rfl, h0, r0⟩ := trodAll_cons hA
  obtain ⟨v1, vs1, d1, ds1, p1, q1, rfl, rfl, rfl, h1, r1⟩ := trodAll_cons r0
  obtain ⟨rfl, rfl, rfl⟩ := trodAll_nil r1
  obtain rfl : args = #[v0, v1] := by cases args; simp_all
  obtain ⟨rfl, rfl⟩ := trodVars_none hV
  obtain ⟨fs, hfs, _⟩ := structOfX (P := Tryz.prog) (t := 25) (l := [(22, 0), (9, 1), (23, 2)]) (by kernel_rfl)
  obtain ⟨cs0, rfl, hcs0⟩ := okWide_struct hfs (hval 0 25 v0 rfl rfl)
  have k0 := h0
  have lt0 : ∀ x ∈ p0, x.block < W.heap.size := by obtain ⟨m, hm⟩ := k0; exact DataW.trod_lt m _ _ _ hm
  obtain ⟨r0x, u0, hr0, hS0, hF0⟩ : ∃ (r : Rx) (v : Value), cs0 = #[.int .i64 r.op, .string (tx r.name), v] ∧ RxS W v r.kids ∧ r.Fit := by
    obtain ⟨m, hm⟩ := h0
    obtain ⟨r, v, e1, e2, e3⟩ := open_regex m hm
    refine ⟨r, v, ?_, e2, e3⟩
    apply Array.toList_inj.1
    simpa [Value.cells] using e1
  subst hr0
  obtain ⟨a1, len1, cap1, rfl⟩ := okWide_slice Tryz.underlying41 (hval 1 41 v1 rfl rfl)
  have k1 := h1
  have lt1 : ∀ x ∈ p1, x.block < W.heap.size := by obtain ⟨m, hm⟩ := k1; exact DataW.trod_lt m _ _ _ hm
  obtain ⟨ps1, hP1, hc1, hn1⟩ : ∃ ps : Whos, PathAt W (.slice a1 len1 cap1) ps ∧ (∃ ao cap, Value.slice a1 len1 cap1 = .slice ao ps.length cap ∧ ps.length ≤ cap) ∧ ps.length ≤ maxLen := by
    obtain ⟨fuel, hf⟩ := h1
    exact open_path hf
  simp only [List.append_nil] at hW'
  refine (matches_any hS0 hF0 hP1 hc1 hn1 awake9).mono fun e W' ⟨he, hb⟩ => ?_
  subst he
  exact ⟨_, rfl, _, _, _, [], _, [], hW', trodAll_mk1 (shut_bool Tryz.underlying4 _), (trodAll_cons_mk (Below.trod ZCMat.laidOut (by kernel_rfl) (of_decide_eq_true (by kernel_rfl)) k0 hb lt0) (trodAll_cons_mk (Below.trod ZCMat.laidOut (by kernel_rfl) (of_decide_eq_true (by kernel_rfl)) k1 hb lt1) trodAll_mk0)), rfl, hb.frame _, fun h => by cases h⟩

theorem ZCMat.holds : Rows.RegexMatchesSaid :=
  OpenClaim.holds_of_wide 5 Tryz.f5 rfl rfl rfl rfl rfl rfl rfl ⟨rfl, rfl, rfl, rfl, rfl⟩ rfl rfl rfl rfl rfl (by kernel_rfl) Tryz.func5 (by kernel_rfl)
    (of_decide_eq_true (by kernel_rfl)) (by unfold Func.isWrapper; first | (rw [if_pos (by decide +kernel)]; kernel_rfl) | (rw [if_neg (by decide +kernel)]; exact ⟨rfl, rfl⟩))
    (fun os started H enc _ => ZCMat.lifted os started H enc)

theorem RegexMatches_holds : Rows.RegexMatchesCardSaid :=
  Claim7.holds_tied_plain_at .later [] [.data, .pinned] true (true, "a6601d23f094c93534be1edba3855d570ddf2a0c27ea29f2c4f01eecda35024c") false ZCMat.holds (fun _ h => by cases h) (by kernel_rfl) (fun _ h => by cases h) regexMatches_row_tie rfl ⟨rfl, rfl⟩ (by kernel_rfl) rfl
    (fun f fn hf hfn => by
      obtain rfl : f = 5 := Option.some.inj ((show Tryz.prog.funcNamed "milestone/milestonelaw09.RegexMatches" = some 5 by kernel_rfl).symm.trans hf) |>.symm
      obtain rfl : fn = Tryz.f5 := (Option.some.inj (Tryz.func5.symm.trans hfn)).symm
      exact ⟨by kernel_rfl, fun j t ht => by
        rw [Tryz.params5] at ht
        have hm : t ∈ [25, 41] := by simpa using Array.mem_of_getElem? ht
        have hall : ([25, 41].all fun u => !Tryz.prog.wantsStandIn u) = true := by kernel_rfl
        exact (show Tryz.prog.wantsStandIn t = false by simpa using List.all_eq_true.1 hall t hm)⟩)
    (by kernel_rfl)
#print axioms RegexMatches_holds
end Go.Proofs.YtnmmfbhmfcabhaaGreatDoor
