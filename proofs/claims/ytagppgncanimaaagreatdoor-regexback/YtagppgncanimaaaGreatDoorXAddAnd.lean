/-
  The words of an expression, as a function of the tree; the program's tightness and signOf.
  The program's Check: the same number as the document's.
  The program's mayBe and Check: may all nodes be?
  The program's walk over all nodes of an expression: each ahead of its Kids, till no more are asked for.
  The program's Size.
  The document's right, Size and Check: which expressions may be.
  The program's tally and Size: how many nodes, and how deep.
-/
import Derived.Test.YtagppgncanimaaaGreatDoorWKindAnd
import Derived.BigQuiet
import Derived.RangeFuncNested
import Derived.RangeFuncBound
import Derived.RangeFuncCalls
import Derived.RangeFuncLeaves
import Derived.RangeFuncBox
import Derived.Shelf.Abstract
import Derived.Shelf.RegionOpen
import Derived.OwnWalkIn
import Derived.TacticsInMore
import Derived.LoopNIn
import Derived.LoopIn
namespace Go.Proofs.YtagppgncanimaaaGreatDoor
open Go.RowKit

theorem grownA (w : World) (o : Obj) (r : Option Nat) : w.grownBy (w.alloc o) r := ⟨rfl, rfl, rfl, by simp, fun i hi _ => by
  have h : w.heap[i]? = some (w.heap[i]'hi) := Array.getElem?_eq_getElem hi
  rw [new_old w o h, h]⟩
abbrev tob2 (n d : Nat) : Obj := .cells #[.int .i64 n, .int .i64 d] 62 (0, 0)
/-- Are an expression's nodes within the limits? -/
def fitsN (n de : Nat) (r : Rx) : Prop := n + r.nodes ≤ 100000 ∧ de + r.deep ≤ 1001
/-- What add leaves. -/
def AddPost (W : World) (tb n d de : Nat) (r : Rx) (e : Ending) (W' : World) : Prop :=
  W.grownBy W' (some tb) ∧ ((fitsN n de r ∧ e = .returned (.bool true) ∧ W'.heap[tb]? = some (tob2 (n + r.nodes) (max d (de + r.deep - 1)))) ∨ (¬ fitsN n de r ∧ e = .returned (.bool false) ∧ ∃ n' d', W'.heap[tb]? = some (tob2 n' d')))
/-- Where add stands behind j Kids. -/
structure AdInv (W : World) (tb n d de : Nat) (r : Rx) (j : Nat) (wr : World) : Prop where
  on : W.grownBy wr (some tb)
  blk : wr.heap[tb]? = some (tob2 (n + 1 + nodesL (r.kids.take j)) (max (max d de) (de + deepL (r.kids.take j))))
  few : n + 1 + nodesL (r.kids.take j) ≤ 100000
  low : max (max d de) (de + deepL (r.kids.take j)) ≤ 1000
theorem AdInv.no {W : World} {tb n d de : Nat} {r : Rx} {j : Nat} {wr : World} {k : Rx} (_h : AdInv W tb n d de r j wr) (hk : r.kids[j]? = some k) (hf : ¬ fitsN (n + 1 + nodesL (r.kids.take j)) (de + 1) k) : ¬ fitsN n de r := by
  intro q
  apply hf
  have h1 := nodesL_take (ks := r.kids) (j + 1)
  rw [take_snocR hk, nodesL_snoc] at h1
  have h2 := deepL_mem (List.mem_of_getElem? hk)
  have h3 := r.nodes_kids
  have h4 := r.deep_kids
  unfold fitsN at q ⊢
  omega
theorem AdInv.next {W : World} {tb n d de : Nat} {r : Rx} {j : Nat} {wr w2 : World} {k : Rx} (h : AdInv W tb n d de r j wr) (hk : r.kids[j]? = some k) (hf : fitsN (n + 1 + nodesL (r.kids.take j)) (de + 1) k) (hg : wr.grownBy w2 (some tb)) (hb : w2.heap[tb]? = some (tob2 (n + 1 + nodesL (r.kids.take j) + k.nodes) (max (max (max d de) (de + deepL (r.kids.take j))) (de + 1 + k.deep - 1)))) : AdInv W tb n d de r (j + 1) w2 := by
  have hl := h.low
  have n1 : nodesL (r.kids.take (j + 1)) = nodesL (r.kids.take j) + k.nodes := by rw [take_snocR hk, nodesL_snoc]
  have d1 : deepL (r.kids.take (j + 1)) = max (deepL (r.kids.take j)) k.deep := by rw [take_snocR hk, deepL_snoc]
  unfold fitsN at hf
  refine ⟨grown_two h.on hg, ?_, by omega, by omega⟩
  rw [hb, n1, d1, show n + 1 + nodesL (r.kids.take j) + k.nodes = n + 1 + (nodesL (r.kids.take j) + k.nodes) by omega, show max (max (max d de) (de + deepL (r.kids.take j))) (de + 1 + k.deep - 1) = max (max d de) (de + max (deepL (r.kids.take j)) k.deep) by omega]
theorem AdInv.fin {W : World} {tb n d de : Nat} {r : Rx} {wr : World} (h : AdInv W tb n d de r r.kids.length wr) : fitsN n de r ∧ wr.heap[tb]? = some (tob2 (n + r.nodes) (max d (de + r.deep - 1))) := by
  have h1 := h.few
  have h2 := h.low
  have h5 := h.blk
  rw [List.take_length] at h1 h2 h5
  have h3 := r.nodes_kids
  have h4 := r.deep_kids
  refine ⟨⟨by omega, by omega⟩, ?_⟩
  rw [h5, show n + 1 + nodesL r.kids = n + r.nodes by omega, show max (max d de) (de + deepL r.kids) = max d (de + r.deep - 1) by omega]

set_option maxRecDepth 20000 in
set_option maxHeartbeats 2000000 in
theorem add_any {w0 : World} (r : Rx) : ∀ (W : World) (tb n d de : Nat) (v : Value), Below w0.heap.size w0 W → w0.heap.size ≤ tb → W.heap[tb]? = some (tob2 n d) → n ≤ 100000 → d ≤ 1000 → de ≤ 1001 → RxS w0 v r.kids →
    Calls Tryz.prog 31 #[.pointer (some ⟨tb, 0, none⟩), .agg #[.int .i64 r.op, .string (tx r.name), v], .int .i64 de] W fun e W' => AddPost W tb n d de r e W' := by
  induction r using Rx.ind with
  | h r ih =>
    intro W tb n d de v hb htb hT hn hd hde hS
    have HIH := hid (fun (k : Rx) (hk : k ∈ r.kids) => ih k hk)
    have hdk := r.deep_kids
    have hnk := r.nodes_kids
    obtain ⟨ao, cap, rfl, hat⟩ := hS.at
    obtain ⟨m, hmm⟩ : ∃ m, m = r.kids.length := ⟨_, rfl⟩
    have HM := hid hmm
    rw [← hmm]
    have HAT := hid hat
    have HT := hid hT
    have HW := hid hb
    obtain ⟨op, hop⟩ : ∃ op, op = r.op := ⟨_, rfl⟩
    obtain ⟨nm, hnm⟩ : ∃ nm, nm = r.name := ⟨_, rfl⟩
    rw [← hop, ← hnm]
    have t0 : ∀ o, (W.alloc o).cell? ⟨tb, 0, none⟩ = some (.int .i64 n) := fun o => by rw [cell_at (new_old _ o hT)]; rfl
    have t1 : ∀ o, (W.alloc o).cell? ⟨tb, 1, none⟩ = some (.int .i64 d) := fun o => by rw [cell_at (new_old _ o hT)]; rfl
    have f0 : ∀ o, (W.alloc o).frozen? ⟨tb, 0, none⟩ = false := fun o => free_of (new_old _ o hT)
    have f1 : ∀ o, (W.alloc o).frozen? ⟨tb, 1, none⟩ = false := fun o => free_of (new_old _ o hT)
    have S1 : ∀ x o, ((W.setCell ⟨tb, 0, none⟩ x).alloc o).heap[tb]? = some (.cells #[x, .int .i64 d] 62 (0, 0)) := fun x o => new_old _ o (block_set (o := 0) x hT)
    have S2 : ∀ x y o, (((W.setCell ⟨tb, 0, none⟩ x).setCell ⟨tb, 1, none⟩ y).alloc o).heap[tb]? = some (.cells #[x, y] 62 (0, 0)) := fun x y o => new_old _ o (block_set (o := 1) y (block_set (o := 0) x hT))
    have s1 : ∀ x o, ((W.setCell ⟨tb, 0, none⟩ x).alloc o).cell? ⟨tb, 1, none⟩ = some (.int .i64 d) := fun x o => by rw [cell_at (S1 x o)]; rfl
    have g1 : ∀ x o, ((W.setCell ⟨tb, 0, none⟩ x).alloc o).frozen? ⟨tb, 1, none⟩ = false := fun x o => free_of (S1 x o)
    have u0 : ∀ x y o, (((W.setCell ⟨tb, 0, none⟩ x).setCell ⟨tb, 1, none⟩ y).alloc o).cell? ⟨tb, 0, none⟩ = some x := fun x y o => by rw [cell_at (S2 x y o)]; rfl
    have u1 : ∀ x y o, (((W.setCell ⟨tb, 0, none⟩ x).setCell ⟨tb, 1, none⟩ y).alloc o).cell? ⟨tb, 1, none⟩ = some y := fun x y o => by rw [cell_at (S2 x y o)]; rfl
    have v2 : ∀ x y, (((W.setCell ⟨tb, 0, none⟩ x).setCell ⟨tb, 1, none⟩ y).alloc (rxo op nm (.slice ao m cap))).cell? ⟨W.heap.size, 2, none⟩ = some (.slice ao m cap) := fun x y => by
      have := new_0 ((W.setCell ⟨tb, 0, none⟩ x).setCell ⟨tb, 1, none⟩ y) (rxo op nm (.slice ao m cap))
      simp only [World.size_setCell] at this
      rw [cell_at this]; rfl
    have HS2 := hid S2
    clear S1 S2
    have hlt := lt_of_block hT
    have HX := hid (show ∀ o, W.grownBy ((((W.setCell ⟨tb, 0, none⟩ (.int .i64 ((n : Int) + 1))).setCell ⟨tb, 1, none⟩ (.int .i64 (max (d : Int) (de : Int)))).alloc o)) (some tb) ∧ ((((W.setCell ⟨tb, 0, none⟩ (.int .i64 ((n : Int) + 1))).setCell ⟨tb, 1, none⟩ (.int .i64 (max (d : Int) (de : Int)))).alloc o)).heap[tb]? = some (tob2 (n + 1) (max d de)) from fun o => by
      refine ⟨grown_two (grown_two (grown_cell _ _ _ _) (grown_cell _ _ _ _)) (grownA _ _ _), ?_⟩
      rw [HS2.out]
      show _ = some (Obj.cells #[.int .i64 ((n + 1 : Nat) : Int), .int .i64 ((max d de : Nat) : Int)] 62 (0, 0))
      rw [show ((n + 1 : Nat) : Int) = (n : Int) + 1 by omega, show ((max d de : Nat) : Int) = max (d : Int) (de : Int) by omega])
    by_cases h1 : 100000 < n + 1
    · have h1I : (100000 : Int) < (n : Int) + 1 := by omega
      have HNO := hid (show ¬ fitsN n de r by unfold fitsN; omega)
      go_enter Tryz.func31, Tryz.ntmps31
      go_wp2
      go_ret
      exact ⟨(HX.out _).1, Or.inr ⟨HNO.out, rfl, _, _, (HX.out _).2⟩⟩
    have h1I : ¬ ((100000 : Int) < (n : Int) + 1) := by omega
    by_cases h2 : 1000 < de
    · have h2I : (1000 : Int) < max (d : Int) (de : Int) := by omega
      have HNO := hid (show ¬ fitsN n de r by unfold fitsN; omega)
      go_enter Tryz.func31, Tryz.ntmps31
      go_wp2
      go_ret
      exact ⟨(HX.out _).1, Or.inr ⟨HNO.out, rfl, _, _, (HX.out _).2⟩⟩
    have h2I : ¬ ((1000 : Int) < max (d : Int) (de : Int)) := by omega
    have HI0 := hid (show ∀ o, AdInv W tb n d de r 0 (((W.setCell ⟨tb, 0, none⟩ (.int .i64 ((n : Int) + 1))).setCell ⟨tb, 1, none⟩ (.int .i64 (max (d : Int) (de : Int)))).alloc o) from fun o => by
      have e1 : nodesL (r.kids.take 0) = 0 := by simp [nodesL]
      have e2 : deepL (r.kids.take 0) = 0 := by simp [deepL]
      refine ⟨(HX.out o).1, ?_, by omega, by omega⟩
      rw [(HX.out o).2, e1, e2, show max (max d de) (de + 0) = max d de by omega, Nat.add_zero])
    have hdw : IntKind.i64.wrap ((de : Int) + 1) = (de : Int) + 1 := by rw [IntKind.wrap_i64]; omega
    have HND := hid (And.intro hnk hdk)
    clear hT hb hnk hdk
    go_enter Tryz.func31, Tryz.ntmps31
    go_wp2_with fail
    go_loopw [40] (fun vi wr => ∃ j : Nat, j ≤ m ∧ vi = .int .i64 j ∧ Hid (AdInv W tb n d de r j wr)) (fun vi _ => m - (intOf vi).toNat)
    case atStart => exact ⟨0, Nat.zero_le _, rfl, HI0.out _⟩
    case round =>
      clear t0 t1 f0 f1 s1 g1 u0 u1 v2 h1I h2I h1
      obtain ⟨j, hj, rfl, HJ⟩ := hrel
      have hjb : j ≤ 100000 := by
        have q1 := HJ.out.few
        have q2 := length_le (r.kids.take j)
        rw [List.length_take] at q2
        have q3 := HM.out
        omega
      by_cases hjm : j < m
      · obtain ⟨k, hk⟩ : ∃ k, r.kids[j]? = some k := ⟨r.kids[j]'(by rw [← HM.out]; exact hjm), List.getElem?_eq_getElem _⟩
        obtain ⟨g, o, rfl, hg, hcell⟩ : ∃ g o, ao = some ⟨g, o, none⟩ ∧ g < w0.heap.size ∧ ∀ (i : Nat) (k : Rx), r.kids[i]? = some k → ∃ u un uc, w0.cell? ⟨g, o + i * 3, none⟩ = some (.int .i64 k.op) ∧ w0.cell? ⟨g, o + i * 3 + 1, none⟩ = some (.string (tx k.name)) ∧ w0.cell? ⟨g, o + i * 3 + 2, none⟩ = some (.slice u un uc) ∧ un = k.kids.length ∧ RxS w0 (.slice u un uc) k.kids := by
          rcases HAT.out with e | h
          · rw [e] at hk; simp at hk
          · exact h
        obtain ⟨u, un, uc, a0, a1, a2, -, hr⟩ := hcell j k hk
        have HLW := hid (show Below w0.heap.size w0 wr from HW.out.grown HJ.out.on HW.out.size (fun q hq => by injection hq with hq; omega))
        have k0 := (HLW.out.cell (p := ⟨g, o + j * 3, none⟩) (by exact hg)).trans a0
        have k1 := (HLW.out.cell (p := ⟨g, o + j * 3 + 1, none⟩) (by exact hg)).trans a1
        have k2 := (HLW.out.cell (p := ⟨g, o + j * 3 + 2, none⟩) (by exact hg)).trans a2
        have HK := hid hk
        have hkI : (j : Int) < (m : Int) := by omega
        have hk0 : (0 : Int) ≤ (j : Int) := by omega
        have HC := hid (fun (o : Obj) => HIH.out k (List.mem_of_getElem? hk) (wr.alloc o) tb _ _ (de + 1) (.slice u un uc) (HLW.out.alloc HLW.out.size o) htb (new_old _ o HJ.out.blk) HJ.out.few HJ.out.low (by omega) hr)
        rw [show ((de + 1 : Nat) : Int) = (de : Int) + 1 by omega] at HC
        clear hk a0 a1 a2 hr hcell h2
        go_wp2_with fail
        refine (HC.out _).mono ?_
        rintro en w2 ⟨hg2, ⟨hf, rfl, hb2⟩ | ⟨hf, rfl, n', d', hb2⟩⟩
        · have HNX := hid (HJ.out.next HK.out hf (grown_two (grownA _ _ _) hg2) hb2)
          clear hg2 hf hb2
          go_wp2
          go_roundw
          case rel => exact ⟨j + 1, by omega, by go_num, HNX⟩
          case measure => simp [intOf]; omega
        · have HNO := hid (HJ.out.no HK.out hf)
          have HG := hid (grown_two HJ.out.on (grown_two (grownA _ _ _) hg2))
          have HB2 := hid hb2
          clear hg2 hf hb2
          go_wp2
          go_ret
          exact ⟨HG.out, Or.inr ⟨HNO.out, rfl, _, _, HB2.out⟩⟩
      · have hkI : ¬ ((j : Int) < (m : Int)) := by omega
        have hjm' : j = r.kids.length := by have := HM.out; omega
        have HF := hid (show fitsN n de r ∧ wr.heap[tb]? = some (tob2 (n + r.nodes) (max d (de + r.deep - 1))) by
          have := HJ.out
          rw [hjm'] at this
          exact this.fin)
        clear hjm' h2
        go_wp2
        go_ret
        exact ⟨HJ.out.on, Or.inl ⟨HF.out.1, rfl, HF.out.2⟩⟩
end Go.Proofs.YtagppgncanimaaaGreatDoor
namespace Go.Proofs.YtagppgncanimaaaGreatDoor
open Go.RowKit

theorem all_take {ks : List Rx} {p : Rx → Bool} {j : Nat} {k : Rx} (h : ks[j]? = some k) : ((ks.take (j + 1)).map p).all id = (((ks.take j).map p).all id && p k) := by
  rw [take_snocR h]
  simp

set_option maxRecDepth 4000 in
set_option maxHeartbeats 2000000 in
theorem right_any (r : Rx) : ∀ (w : World) (v : Value), r.nodes ≤ 1000000 → r.Fit → RxS w v r.kids →
    Calls Tryz.prog 35 #[.agg #[.int .i64 r.op, .string (tx r.name), v]] w fun e w' => e = .returned (.bool (Rx.all nodeB r)) ∧ Below w.heap.size w w' := by
  induction r using Rx.ind with
  | h r ih =>
    intro w v hn hF hS
    have hnk := r.nodes_kids
    have hlk := length_le r.kids
    have HIH := hid (fun (k : Rx) (hk : k ∈ r.kids) (W : World) (u : Value) (hu : RxS W u k.kids) => ih k hk W u (by have := nodesL_mem hk; omega) (hF.kid hk) hu)
    have HND := hid (fun (W : World) (hb : Below w.heap.size w W) => node_any (r := r) (hS.on hb) (by omega) hF.name)
    have HAL := hid (Rx.all_eq nodeB r)
    obtain ⟨ao, cap, rfl, hat⟩ := hS.at
    obtain ⟨n, hnn⟩ : ∃ n, n = r.kids.length := ⟨_, rfl⟩
    have HN := hid hnn
    have hnb : n ≤ 1000000 := by omega
    rw [← hnn] at HND ⊢
    have HAT := hid hat
    have HB0 := hid (boxed.start w r (.slice ao n cap))
    obtain ⟨q, hq⟩ : ∃ q, q = nodeB r := ⟨_, rfl⟩
    rw [← hq] at HND HAL
    clear ih hnk hlk hn hS hat hnn hF hq
    go_enter Tryz.func35, Tryz.ntmps35
    go_wp2_with fail
    refine (HND.out _ ((Below.refl _ _).alloc (Nat.le_refl _) _)).mono ?_
    rintro en w1 ⟨rfl, hb1⟩
    have HB1 := hid (HB0.out.on hb1)
    clear hb1
    go_wp2_with fail
    go_loopw [3, 4] (fun vo vi wr => ∃ j : Nat, j ≤ n ∧ vo = .bool (q && ((r.kids.take j).map (Rx.all nodeB)).all id) ∧ vi = .int .i64 j ∧ Hid (boxed w r (.slice ao n cap) wr)) (fun _ vi _ => n - (intOf vi).toNat)
    case atStart => exact ⟨0, Nat.zero_le _, by simp, rfl, HB1⟩
    case round =>
      obtain ⟨j, hj, rfl, rfl, HB⟩ := hrel
      obtain ⟨-, -, d2⟩ := HB.out.cells
      obtain ⟨x, hx⟩ : ∃ x, x = (q && ((r.kids.take j).map (Rx.all nodeB)).all id) := ⟨_, rfl⟩
      have HX := hid hx
      rw [← hx]
      clear hx
      by_cases hlt : j < n
      · obtain ⟨k, hk⟩ : ∃ k, r.kids[j]? = some k := ⟨r.kids[j]'(by rw [← HN.out]; exact hlt), List.getElem?_eq_getElem _⟩
        obtain ⟨g, o, rfl, hg, hcell⟩ : ∃ g o, ao = some ⟨g, o, none⟩ ∧ g < w.heap.size ∧ ∀ (i : Nat) (k : Rx), r.kids[i]? = some k → ∃ u un uc, w.cell? ⟨g, o + i * 3, none⟩ = some (.int .i64 k.op) ∧ w.cell? ⟨g, o + i * 3 + 1, none⟩ = some (.string (tx k.name)) ∧ w.cell? ⟨g, o + i * 3 + 2, none⟩ = some (.slice u un uc) ∧ un = k.kids.length ∧ RxS w (.slice u un uc) k.kids := by
          rcases HAT.out with e | h
          · rw [e] at hk; simp at hk
          · exact h
        obtain ⟨u, un, uc, a0, a1, a2, -, hr⟩ := hcell j k hk
        have k0 := (HB.out.low.cell (p := ⟨g, o + j * 3, none⟩) (by exact hg)).trans a0
        have k1 := (HB.out.low.cell (p := ⟨g, o + j * 3 + 1, none⟩) (by exact hg)).trans a1
        have k2 := (HB.out.low.cell (p := ⟨g, o + j * 3 + 2, none⟩) (by exact hg)).trans a2
        have HTK := hid (show (q && ((r.kids.take (j + 1)).map (Rx.all nodeB)).all id) = (x && Rx.all nodeB k) by rw [all_take hk, HX.out, Bool.and_assoc])
        have HC := hid (HIH.out k (List.mem_of_getElem? hk) wr (.slice u un uc) (hr.on HB.out.low))
        have hkI : (j : Int) < (n : Int) := by omega
        have hk0 : (0 : Int) ≤ (j : Int) := by omega
        clear hk a0 a1 a2 hr hcell HX
        cases x with
        | false =>
          go_wp2
          go_roundw
          case rel => exact ⟨j + 1, by omega, by rw [HTK.out]; rfl, by go_num, HB⟩
          case measure => simp [intOf]; omega
        | true =>
          go_wp2_with (first | (go_at_call 35; refine HC.out.mono ?_; rintro en w2 ⟨rfl, hb2⟩; have B2 := hid (HB.out.on hb2); clear hb2))
          go_roundw
          case rel => exact ⟨j + 1, by omega, by rw [HTK.out]; rfl, by go_num, B2⟩
          case measure => simp [intOf]; omega
      · have hkI : ¬ ((j : Int) < (n : Int)) := by omega
        have HE := hid (show x = Rx.all nodeB r by rw [HX.out, HAL.out, List.take_of_length_le (by have := HN.out; omega)])
        go_wp2
        go_ret
        exact ⟨by rw [← HE.out]; rfl, HB.out.low⟩

set_option maxRecDepth 4000 in
set_option maxHeartbeats 2000000 in
theorem RSize_any {w : World} {v : Value} {r : Rx} (hS : RxS w v r.kids) : Calls Tryz.prog 11 #[.agg #[.int .i64 r.op, .string (tx r.name), v]] w fun e w' => e = .returned (.tuple #[.int .i64 (szN r).1, .int .i64 (szN r).2]) ∧ Below w.heap.size w w' := by
  have HSZ := hid (fun (W : World) (hb : Below w.heap.size w W) => sized_any r 100000 1000 W v (by omega) (by omega) (by omega) (by omega) (hS.on hb))
  obtain ⟨ao, cap, rfl, -⟩ := hS.at
  clear hS
  go_enter Tryz.func11, Tryz.ntmps11
  go_wp2_with fail
  refine (HSZ.out _ ((Below.refl _ _).alloc (Nat.le_refl _) _)).mono ?_
  rintro en w1 ⟨a, b, rfl, hp, hb1⟩
  have B1 := hid (((Below.refl w.heap.size w).alloc (Nat.le_refl _) (rxo r.op r.name (.slice ao r.kids.length cap))).trans (hb1.mono (by simp)))
  by_cases hc : r.nodes ≤ 100000 ∧ r.deep ≤ 1000
  · obtain ⟨rfl, rfl⟩ := hp.out.yes (by omega) (by omega)
    have HE := hid (show szN r = (r.nodes, r.deep) by unfold szN; rw [if_pos hc])
    have hI : ¬ ((100000 : Int) < (r.nodes : Int)) := by omega
    clear hb1 hp
    go_wp2
    refine bodyPost_ret (v := .tuple #[.int .i64 r.nodes, .int .i64 r.deep]) (by simp [results, Tryz.results11, go_sem]) rfl ?_
    exact ⟨by rw [HE.out], B1.out⟩
  · have := hp.out.no (by omega)
    subst this
    have HE := hid (show szN r = (0, 0) by unfold szN; rw [if_neg hc])
    clear hb1 hp
    go_wp2
    refine bodyPost_ret (v := .tuple #[.int .i64 0, .int .i64 0]) (by simp [results, Tryz.results11, go_sem]) rfl ?_
    exact ⟨by rw [HE.out]; rfl, B1.out⟩

set_option maxRecDepth 4000 in
set_option maxHeartbeats 2000000 in
theorem RCheck_any {w : World} {v : Value} {r : Rx} (hS : RxS w v r.kids) (hF : r.Fit) : Calls Tryz.prog 13 #[.agg #[.int .i64 r.op, .string (tx r.name), v]] w fun e w' => e = .returned (.int .i64 (chkN r)) ∧ Below w.heap.size w w' := by
  have HSZ := hid (fun (W : World) (hb : Below w.heap.size w W) => sized_any r 1000 100001 W v (by omega) (by omega) (by omega) (by omega) (hS.on hb))
  have HDP := hid (fun (hn : r.nodes ≤ 1000000) (W : World) (hb : Below w.heap.size w W) => deeper_any r 100 W v (by omega) (by omega) hn (hS.on hb))
  have HRT := hid (fun (hn : r.nodes ≤ 1000000) (W : World) (hb : Below w.heap.size w W) => right_any r W v hn hF (hS.on hb))
  have hdl := r.deep_le
  obtain ⟨ao, cap, rfl, -⟩ := hS.at
  have HB0 := hid (boxed.start w r (.slice ao r.kids.length cap))
  clear hS hF
  go_enter Tryz.func13, Tryz.ntmps13
  go_wp2_with fail
  refine (HSZ.out _ ((Below.refl _ _).alloc (Nat.le_refl _) _)).mono ?_
  rintro en w1 ⟨a, b, rfl, hp, hb1⟩
  have B1 := hid (HB0.out.on hb1)
  obtain ⟨c0, c1, c2⟩ := B1.out.cells
  by_cases hc : r.nodes ≤ 1000
  · obtain ⟨rfl, rfl⟩ := hp.out.yes (by omega) (by omega)
    have hI : ¬ ((1000 : Int) < (r.nodes : Int)) := by omega
    have HD1 := hid (HDP.out (by omega) _ B1.out.low)
    clear hb1 hp HSZ HDP
    by_cases hd : (100 : Int) < (r.deep : Int)
    · rw [decide_eq_true hd] at HD1
      have HE := hid (show chkN r = 91 by unfold chkN; rw [if_neg (by omega), if_pos (by omega)])
      go_wp2_with fail
      refine HD1.out.mono ?_
      rintro en w2 ⟨rfl, hb2⟩
      have B2 := hid (B1.out.on hb2)
      clear hb2
      go_wp2
      go_ret
      exact ⟨by rw [HE.out]; rfl, B2.out.low⟩
    · rw [decide_eq_false hd] at HD1
      have HCK := hid (show chkN r = if Rx.all nodeB r then 0 else 92 by unfold chkN; rw [if_neg (by omega), if_neg (by omega)])
      clear hd
      go_wp2_with fail
      refine HD1.out.mono ?_
      rintro en w2 ⟨rfl, hb2⟩
      have B2 := hid (B1.out.on hb2)
      obtain ⟨e0, e1, e2⟩ := B2.out.cells
      clear hb2
      have HR := hid (HRT.out (by omega) _ B2.out.low)
      obtain ⟨q, hq⟩ : ∃ q, q = Rx.all nodeB r := ⟨_, rfl⟩
      rw [← hq] at HR HCK
      clear hq HRT
      go_wp2_with fail
      refine HR.out.mono ?_
      rintro en w3 ⟨rfl, hb3⟩
      have B3 := hid (B2.out.on hb3)
      clear hb3
      cases q with
      | true =>
        go_wp2
        go_ret
        exact ⟨by rw [HCK.out]; rfl, B3.out.low⟩
      | false =>
        go_wp2
        go_ret
        exact ⟨by rw [HCK.out]; rfl, B3.out.low⟩
  · have := hp.out.no (by omega)
    subst this
    have HE := hid (show chkN r = 3 by unfold chkN; rw [if_pos (by omega)])
    clear hb1 hp
    go_wp2
    go_ret
    exact ⟨by rw [HE.out]; rfl, B1.out.low⟩
end Go.Proofs.YtagppgncanimaaaGreatDoor
namespace Go.Proofs.YtagppgncanimaaaGreatDoor
open Go.RowKit

set_option maxRecDepth 20000 in
set_option maxHeartbeats 2000000 in
theorem Size_any {w : World} {v : Value} {r : Rx} (hS : RxS w v r.kids) : Calls Tryz.prog 10 #[.agg #[.int .i64 r.op, .string (tx r.name), v]] w fun e w' => e = .returned (.tuple #[.int .i64 (szN r).1, .int .i64 (szN r).2]) ∧ Below w.heap.size w w' := by
  have HA := hid (fun (o : Obj) => add_any (w0 := w) r ((w.alloc o).alloc (tob2 0 0)) (w.heap.size + 1) 0 0 1 v (((Below.refl w.heap.size w).alloc (Nat.le_refl _) _).alloc (by simp) _) (Nat.le_succ _) (new_1 _ _ _) (by omega) (by omega) (by omega) hS)
  have HB0 := hid (show ∀ o : Obj, Below w.heap.size w ((w.alloc o).alloc (tob2 0 0)) from fun o => ((Below.refl w.heap.size w).alloc (Nat.le_refl _) _).alloc (by simp) _)
  obtain ⟨ao, cap, rfl, -⟩ := hS.at
  clear hS
  go_enter Tryz.func10, Tryz.ntmps10
  go_wp2_with fail
  refine (HA.out _).mono ?_
  rintro en w2 ⟨hg2, ⟨hf, rfl, hb2⟩ | ⟨hf, rfl, n', d', hb2⟩⟩
  · have B2 := hid ((HB0.out (rxo r.op r.name (.slice ao r.kids.length cap))).grown hg2 (HB0.out (rxo r.op r.name (.slice ao r.kids.length cap))).size (fun q hq => by injection hq with hq; omega))
    have HE := hid (show szN r = (r.nodes, r.deep) by unfold szN fitsN at *; rw [if_pos (by omega)])
    have hdp := r.deep_pos
    rw [show 0 + r.nodes = r.nodes by omega, show max 0 (1 + r.deep - 1) = r.deep by omega] at hb2
    have c0 : w2.cell? ⟨w.heap.size + 1, 0, none⟩ = some (.int .i64 r.nodes) := by rw [cell_at hb2]; rfl
    have c1 : w2.cell? ⟨w.heap.size + 1, 1, none⟩ = some (.int .i64 r.deep) := by rw [cell_at hb2]; rfl
    clear hg2 hf hb2 hdp
    go_wp2
    go_quiet (fail)
    go_wp2
    refine bodyPost_ret (v := .tuple #[.int .i64 r.nodes, .int .i64 r.deep]) (by simp [results, Tryz.results10, go_sem]) rfl ?_
    exact ⟨by rw [HE.out], below_drewN B2.out⟩
  · have B2 := hid ((HB0.out (rxo r.op r.name (.slice ao r.kids.length cap))).grown hg2 (HB0.out (rxo r.op r.name (.slice ao r.kids.length cap))).size (fun q hq => by injection hq with hq; omega))
    have HE := hid (show szN r = (0, 0) by unfold szN fitsN at *; rw [if_neg (by omega)])
    clear hg2 hf hb2
    go_wp2
    refine bodyPost_ret (v := .tuple #[.int .i64 0, .int .i64 0]) (by simp [results, Tryz.results10, go_sem]) rfl ?_
    exact ⟨by rw [HE.out]; rfl, B2.out⟩
end Go.Proofs.YtagppgncanimaaaGreatDoor
namespace Go.Proofs.YtagppgncanimaaaGreatDoor
open Go.RowKit Go.Shelf
attribute [local go_sem] Oper.semAt_some

/-- All nodes, each ahead of its Kids. -/
def Rx.pre : Rx → List Rx
  | .mk o n ks => .mk o n ks :: (ks.map Rx.pre).flatten
theorem Rx.pre_eq (r : Rx) : r.pre = r :: (r.kids.map Rx.pre).flatten := by
  cases r
  rw [Rx.pre]; rfl
/-- The nodes of some. -/
def preL (ks : List Rx) : List Rx := (ks.map Rx.pre).flatten
theorem preL_snoc (ks : List Rx) (k : Rx) : preL (ks ++ [k]) = preL ks ++ k.pre := by simp [preL]
theorem preL_take (ks : List Rx) (j : Nat) : preL (ks.take j) <+: preL ks := by
  conv => rhs; rw [← List.take_append_drop j ks]
  unfold preL
  rw [List.map_append, List.flatten_append]
  exact List.prefix_append _ _
theorem Rx.pre_len (r : Rx) : r.pre.length = r.nodes := by
  induction r using Rx.ind with
  | h r ih =>
    rw [r.pre_eq, r.nodes_eq, List.length_cons, List.length_flatten, List.map_map, Nat.add_comm]
    congr 2
    exact List.map_congr_left fun k hk => ih k hk
theorem preL_len (ks : List Rx) : (preL ks).length = nodesL ks := by
  unfold preL nodesL
  rw [List.length_flatten, List.map_map]
  congr 1
  exact List.map_congr_left fun k _ => k.pre_len
theorem Rx.all_pre (p : Rx → Bool) (r : Rx) : Rx.all p r = r.pre.all p := by
  induction r using Rx.ind with
  | h r ih =>
    rw [Rx.all_eq, r.pre_eq, List.all_cons]
    congr 1
    generalize r.kids = ks at ih
    induction ks with
    | nil => rfl
    | cons a t iht =>
      simp only [List.map_cons, List.all_cons, List.flatten_cons, List.all_append, id]
      rw [ih a (by simp), iht (fun k hk => ih k (List.mem_cons_of_mem _ hk))]

/-- All memory of cells stays. -/
structure KAll (A B : World) : Prop where
  size : A.heap.size ≤ B.heap.size
  cells : ∀ (b : Nat) (cs : Array Value) (t : TypeId) (fr : Nat × Nat), A.heap[b]? = some (.cells cs t fr) → B.heap[b]? = some (.cells cs t fr)
theorem KAll.refl (A : World) : KAll A A := ⟨Nat.le_refl _, fun _ _ _ _ h => h⟩
theorem KAll.trans {A B C : World} (h : KAll A B) (k : KAll B C) : KAll A C := ⟨Nat.le_trans h.size k.size, fun b cs t fr q => k.cells b cs t fr (h.cells b cs t fr q)⟩
theorem KAll.of_below {A B : World} (h : Below A.heap.size A B) : KAll A B := ⟨h.size, fun b _ _ _ q => (h.block b (lt_of_block q)).trans q⟩
theorem kAll_b (W : World) (l : Nat) (o o' : Obj) (h : W.heap[l]? = some o) (hc : o.isCells = false) : KAll W (W.putObj l o') := by
  refine ⟨(grownBy_putObj' W l o').size, fun b cs t fr q => ?_⟩
  rw [(grownBy_putObj' W l o').block b (lt_of_block q) (fun e => by
    injection e with e
    subst e
    rw [h] at q
    injection q with q
    rw [q] at hc
    cases hc)]
  exact q
theorem KAll.cell {A B : World} (h : KAll A B) {p : Addr} {v : Value} (hp : A.cell? p = some v) : B.cell? p = some v := by
  unfold World.cell? at hp ⊢
  cases q : A.heap[p.block]? with
  | none => rw [q] at hp; cases hp
  | some o =>
    rw [q] at hp
    cases o with
    | cells cs t fr => rw [h.cells _ _ _ _ q]; exact hp
    | _ => cases hp
theorem RxS.keep {A B : World} {v : Value} {ks : List Rx} (h : RxS A v ks) (hb : KAll A B) : RxS B v ks := by
  induction h with
  | nil ao cap => exact .nil ao cap
  | some g o cap ks vs hg hl hc _ ih =>
    refine .some g o cap ks vs (Nat.lt_of_lt_of_le hg hb.size) hl (fun i k v hk hv => ?_) ih
    obtain ⟨c0, c1, c2⟩ := hc i k v hk hv
    exact ⟨hb.cell c0, hb.cell c1, hb.cell c2⟩

/-- A node of an expression that lies in w0. -/
abbrev Nx (w0 : World) : Type := { x : Rx × Value // RxS w0 x.2 x.1.kids ∧ x.1.kids.length ≤ 1000000 ∧ x.1.name.length ≤ maxLen }
abbrev nxE {w0 : World} (x : Nx w0) : Array Value := #[.agg #[.int .i64 x.1.1.op, .string (tx x.1.1.name), x.1.2]]
abbrev nxR {w0 : World} (l : List (Nx w0)) : List Rx := l.map fun x => x.1.1
theorem yield_deep {m m' : Nat} {P : Program} {l : Nat} {args : Array Value} {W : World} {R : Ending → World → Prop} (h : YieldAt Fence.wide m P l args W R) : YieldAt Fence.wide m' P l args W R := by
  obtain ⟨fn, tmps, assign, body, hy, hR⟩ := h
  exact ⟨fn, tmps, assign, body, hy, hR.1, fun c cs _ => hR.2 c cs (fun d hd => by cases hd)⟩
theorem new_abides {β : Type} {B : Nat} {J : β → World → Prop} (hJ : AbidesFrom B J) {s : β} {W : World} (o : Obj) (h : J s W) : J s (W.alloc o) :=
  hJ s W (W.alloc o) none h (grownA W o none) (fun r e => by cases e)

set_option maxRecDepth 100000 in
set_option maxHeartbeats 2000000 in
theorem walk_in {w0 : World} {l N B : Nat} {J Jx : List (Nx w0) → World → Prop} (hJ : AbidesFrom B J)
    (hY : ∀ m pre (x : Nx w0) W, J pre W → pre.length < N → YieldAt Fence.wide m Tryz.prog l (nxE x) W fun e W' => (e = .returned (.bool true) ∧ J (pre ++ [x]) W' ∧ KAll W W') ∨ (e = .returned (.bool false) ∧ Jx (pre ++ [x]) W')) (r : Rx) :
    ∀ (n : Nat) (v : Value) (pre : List (Nx w0)) (W : World), RxS w0 v r.kids → r.nodes ≤ 1000000 → r.Fit → KAll w0 W → J pre W → pre.length + r.nodes ≤ N →
      CallsIn Fence.wide n Tryz.prog 81 #[.agg #[.int .i64 r.op, .string (tx r.name), v], .func (.yield l) #[] #[]] W fun e W' =>
        (e = .returned (.bool true) ∧ ∃ L : List (Nx w0), nxR L = r.pre ∧ J (pre ++ L) W' ∧ KAll W W') ∨ (e = .returned (.bool false) ∧ ∃ q : List (Nx w0), nxR q <+: r.pre ∧ Jx (pre ++ q) W') := by
  induction r using Rx.ind with
  | h r ih =>
    intro n v pre W hS hn hF hK hJ0 hN
    have hnk := r.nodes_kids
    have hlk := length_le r.kids
    have hnp := r.nodes_pos
    obtain ⟨x, hx⟩ : ∃ x : Nx w0, x = ⟨(r, v), hS, (by show r.kids.length ≤ _; omega), hF.name⟩ := ⟨⟨(r, v), hS, (by show r.kids.length ≤ _; omega), hF.name⟩, rfl⟩
    have hx1 : x.1 = (r, v) := by rw [hx]
    have HPE := hid r.pre_eq
    obtain ⟨ao, cap, rfl, hat⟩ := hS.at
    have HAT := hid hat
    obtain ⟨m, hm⟩ : ∃ m, m = r.kids.length := ⟨_, rfl⟩
    have HM := hid hm
    rw [← hm] at hx1 ⊢
    have hYx := hY (n - 1) pre x (W.alloc (rxo r.op r.name (.slice ao m cap))) (new_abides hJ _ hJ0) (by omega)
    rw [show nxE x = #[.agg #[.int .i64 r.op, .string (tx r.name), .slice ao m cap]] by unfold nxE; rw [hx1]] at hYx
    have HX1 := hid hx1
    have HIH := hid (fun (k : Rx) (hk : k ∈ r.kids) (u : Value) (pr : List (Nx w0)) (V : World) (hu : RxS w0 u k.kids) (hV : KAll w0 V) (hj : J pr V) (hl : pr.length + k.nodes ≤ N) => ih k hk (n - 1) u pr V hu (by have := nodesL_mem hk; omega) (hF.kid hk) hV hj hl)
    have HK0 := hid (show KAll W (W.alloc (rxo r.op r.name (.slice ao m cap))) from KAll.of_below ((Below.refl _ _).alloc (Nat.le_refl _) _))
    have HKW := hid hK
    have HJ := hid hJ
    have HBX := hid (new_0 W (rxo r.op r.name (.slice ao m cap)))
    have hmb : m ≤ 1000000 := by omega
    obtain ⟨op, hop⟩ : ∃ op, op = r.op := ⟨_, rfl⟩
    obtain ⟨nm, hnm⟩ : ∃ nm, nm = r.name := ⟨_, rfl⟩
    rw [← hop, ← hnm] at hYx HK0 HBX ⊢
    obtain ⟨fn, tmps, assign, body, hy, hR⟩ := hYx.mono (R' := fun e W' => (e = .returned (.bool true) ∧ W'.cell? ⟨W.heap.size, 2, none⟩ = some (.slice ao m cap) ∧ Hid (J (pre ++ [x]) W' ∧ KAll (W.alloc (rxo op nm (.slice ao m cap))) W')) ∨ (e = .returned (.bool false) ∧ Hid (Jx (pre ++ [x]) W'))) (fun e W' h => by
      rcases h with ⟨rfl, q⟩ | ⟨rfl, q⟩
      · exact Or.inl ⟨rfl, by rw [cell_at (q.2.cells _ _ _ _ HBX.out)]; rfl, q⟩
      · exact Or.inr ⟨rfl, q⟩)
    clear hY ih hS hat hm hx hx1 hYx hop hnm hJ hK hJ0 hnp hF hn hlk
    have hdd : ∀ k : Nat, (Fence.wide.depth.isSome = true → 1 ≤ k) := fun k h => by cases h
    refine callsIn_of_wp Tryz.func81 rfl trivial ?_ rfl
    simp only [Tryz.ntmps81, List.size_toArray, List.length_cons, List.length_nil, Nat.reduceAdd, Nat.reduceSub, Array.replicate_succ, Array.replicate_zero, List.push_toArray, List.append_toArray, List.nil_append, List.cons_append]
    gi_wp2_with (first | (refine ⟨hdd _, ?_⟩; refine hR.mono ?_; clear hR; rintro e W2 (⟨rfl, d2, HE⟩ | ⟨rfl, HE⟩)))
    rotate_left
    · go_ret
      exact .inr ⟨rfl, [x], by show [x.1.1] <+: r.pre; rw [HX1.out, HPE.out]; exact ⟨_, rfl⟩, HE.out⟩
    · have HJ2 := hid HE.out.1
      have HK2 := hid HE.out.2
      clear HE
      gi_loopw [14] (fun i wr => ∃ (j : Nat) (L : List (Nx w0)), j ≤ m ∧ i = .int .i64 j ∧ Hid (nxR L = r :: preL (r.kids.take j) ∧ J (pre ++ L) wr ∧ KAll W wr)) (fun i _ => m - (intOf i).toNat)
      case atStart => exact ⟨0, [x], Nat.zero_le _, rfl, by show [x.1.1] = _; rw [HX1.out]; simp [preL], HJ2.out, HK0.out.trans HK2.out⟩
      case round =>
        clear d2
        obtain ⟨j, L, hj, rfl, HI⟩ := hrel
        by_cases hlt : j < m
        · obtain ⟨k, hk⟩ : ∃ k, r.kids[j]? = some k := ⟨r.kids[j]'(by rw [← HM.out]; exact hlt), List.getElem?_eq_getElem _⟩
          obtain ⟨g, o, rfl, hg, hcell⟩ : ∃ g o, ao = some ⟨g, o, none⟩ ∧ g < w0.heap.size ∧ ∀ (i : Nat) (k : Rx), r.kids[i]? = some k → ∃ u un uc, w0.cell? ⟨g, o + i * 3, none⟩ = some (.int .i64 k.op) ∧ w0.cell? ⟨g, o + i * 3 + 1, none⟩ = some (.string (tx k.name)) ∧ w0.cell? ⟨g, o + i * 3 + 2, none⟩ = some (.slice u un uc) ∧ un = k.kids.length ∧ RxS w0 (.slice u un uc) k.kids := by
            rcases HAT.out with e | h
            · rw [e] at hk; simp at hk
            · exact h
          obtain ⟨u, un, uc, a0, a1, a2, -, hr⟩ := hcell j k hk
          have HKV := hid (HKW.out.trans HI.out.2.2)
          have k0 := HKV.out.cell a0
          have k1 := HKV.out.cell a1
          have k2 := HKV.out.cell a2
          have HTK := hid (take_snocR hk)
          have hkI : (j : Int) < (m : Int) := by omega
          have hk0 : (0 : Int) ≤ (j : Int) := by omega
          have HLL := hid (show (pre ++ L).length + k.nodes ≤ N by
            have e1 : L.length = 1 + nodesL (r.kids.take j) := by
              have := congrArg List.length HI.out.1
              rw [List.length_map, List.length_cons, preL_len] at this
              omega
            have e2 := nodesL_take (ks := r.kids) (j + 1)
            rw [HTK.out, nodesL_snoc] at e2
            rw [List.length_append]
            omega)
          have HC := hid (fun (ob : Obj) => (HIH.out k (List.mem_of_getElem? hk) (.slice u un uc) (pre ++ L) (wr.alloc ob) hr (HKV.out.trans (KAll.of_below ((Below.refl _ _).alloc (Nat.le_refl _) _))) (new_abides HJ.out _ HI.out.2.1) HLL.out).mono (R' := fun e W' => (e = .returned (.bool true) ∧ Hid (∃ L' : List (Nx w0), nxR L' = k.pre ∧ J (pre ++ L ++ L') W' ∧ KAll (wr.alloc ob) W')) ∨ (e = .returned (.bool false) ∧ Hid (∃ q : List (Nx w0), nxR q <+: k.pre ∧ Jx (pre ++ L ++ q) W'))) (fun e W' h => h.imp (fun ⟨h1, h2⟩ => ⟨h1, h2⟩) (fun ⟨h1, h2⟩ => ⟨h1, h2⟩)))
          clear hk a0 a1 a2 hr hcell HLL
          gi_wp2_with (refine ⟨trivial, hdd _, ?_⟩; refine (HC.out _).mono ?_; rintro e W3 (⟨rfl, HE⟩ | ⟨rfl, HE⟩))
          rotate_left
          · go_ret
            obtain ⟨q, hq, hjx⟩ := HE.out
            refine .inr ⟨rfl, L ++ q, ?_, by rw [← List.append_assoc]; exact hjx⟩
            have e1 : nxR (L ++ q) = r :: (preL (r.kids.take j) ++ nxR q) := by rw [show nxR (L ++ q) = nxR L ++ nxR q from List.map_append .., HI.out.1]; rfl
            rw [e1, HPE.out]
            have e2 : preL (r.kids.take (j + 1)) = preL (r.kids.take j) ++ k.pre := by rw [HTK.out, preL_snoc]
            have e3 := preL_take r.kids (j + 1)
            rw [e2] at e3
            exact List.prefix_cons_inj r |>.2 (((List.prefix_append_right_inj _).2 hq).trans e3)
          · obtain ⟨L', hL', hj3, hk3⟩ := HE.out
            have HNX := hid (show nxR (L ++ L') = r :: preL (r.kids.take (j + 1)) ∧ J (pre ++ (L ++ L')) W3 ∧ KAll W W3 from ⟨by rw [show nxR (L ++ L') = nxR L ++ nxR L' from List.map_append .., HI.out.1, hL', HTK.out, preL_snoc]; rfl, by rw [← List.append_assoc]; exact hj3, HI.out.2.2.trans ((KAll.of_below ((Below.refl _ _).alloc (Nat.le_refl _) _)).trans hk3)⟩)
            clear HE hL' hj3 hk3
            go_roundw
            case rel => exact ⟨j + 1, L ++ L', by omega, by simp, HNX⟩
            case measure => simp [intOf]; omega
        · have hkI : ¬ ((j : Int) < (m : Int)) := by omega
          have HE := hid (show r.kids.take j = r.kids from List.take_of_length_le (by have := HM.out; omega))
          gi_wp2
          go_ret
          exact .inl ⟨rfl, L, by rw [HI.out.1, HE.out, HPE.out]; rfl, HI.out.2.1, HI.out.2.2⟩
end Go.Proofs.YtagppgncanimaaaGreatDoor
namespace Go.Proofs.YtagppgncanimaaaGreatDoor
open Go.RowKit Go.Shelf
attribute [local go_sem] Oper.semAt_some

set_option maxRecDepth 100000 in
set_option maxHeartbeats 2000000 in
theorem nodes_stops {w0 : World} {n bt : Nat} {r : Rx} {v : Value} (w : World) (hS : RxS w0 v r.kids) (hn : r.nodes ≤ 1000000) (hF : r.Fit) (hK : KAll w0 w) (hb : w.heap[bt]? = some (rxo r.op r.name v)) :
    SeqStopsK Fence.wide n Tryz.prog 80 #[.pointer (some ⟨bt, 0, none⟩)] (fun x : Nx w0 => nxE x) KAll (fun xs => nxR xs = r.pre) (fun pre => nxR pre <+: r.pre) r.nodes w := fun l J Jx W hW hJ hJx hY h0 => by
  have hb' := (hW.block bt (lt_of_block hb)).trans hb
  have c0 : W.cell? ⟨bt, 0, none⟩ = some (.int .i64 r.op) := by rw [cell_at hb']; rfl
  have c1 : W.cell? ⟨bt, 1, none⟩ = some (.string (tx r.name)) := by rw [cell_at hb']; rfl
  have c2 : W.cell? ⟨bt, 2, none⟩ = some v := by rw [cell_at hb']; rfl
  have hp := walk_in hJ (fun m pre x W hj hl => yield_deep (hY pre x W hj hl)) r (n - 1) v [] W hS hn hF (hK.trans (KAll.of_below hW)) h0 (by simp)
  have hdd : ∀ k : Nat, (Fence.wide.depth.isSome = true → 1 ≤ k) := fun k h => by cases h
  obtain ⟨ao, cap, rfl, -⟩ := hS.at
  clear hb' hY hJx h0 hS hb
  refine callsIn_of_wp Tryz.func80 rfl trivial ?_ rfl
  simp only [Tryz.ntmps80, List.size_toArray, List.length_cons, List.length_nil, Nat.reduceAdd, Nat.reduceSub, Array.replicate_succ, Array.replicate_zero, List.push_toArray, List.append_toArray, List.nil_append, List.cons_append]
  gi_wp2_with (refine ⟨trivial, hdd _, ?_⟩; refine hp.mono ?_; clear hp; rintro e W1 (⟨rfl, L, hL, hJ1, -⟩ | ⟨rfl, q, hq, hx⟩))
  · go_end0
    exact ⟨⟨_, rfl⟩, .inl ⟨L, hL, by simpa using hJ1⟩⟩
  · go_end0
    exact ⟨⟨_, rfl⟩, .inr ⟨q, hq, by simpa using hx⟩⟩
theorem nodes_any {w : World} {r : Rx} {ao : Option Addr} {n c : Nat} : Calls Tryz.prog 56 #[.agg #[.int .i64 r.op, .string (tx r.name), .slice ao n c]] w fun e w' =>
    e = .returned (.func (.func 80) #[] #[.pointer (some ⟨w.heap.size, 0, none⟩)]) ∧ w' = w.alloc (rxo r.op r.name (.slice ao n c)) := by
  go_enter Tryz.func56, Tryz.ntmps56
  go_wp2
  go_ret
  exact ⟨rfl, rfl⟩

set_option maxRecDepth 100000 in
set_option maxHeartbeats 2000000 in
theorem mayBe_any {w : World} {v : Value} {r : Rx} (hS : RxS w v r.kids) (hn : r.nodes ≤ 1000000) (hF : r.Fit) :
    Calls Tryz.prog 33 #[.agg #[.int .i64 r.op, .string (tx r.name), v]] w fun e w' => e = .returned (.bool (Rx.all nodeB r)) ∧ Below w.heap.size w w' := by
  have HND := hid (fun (x : Nx w) (W : World) (hb : Below w.heap.size w W) => nodeMayBe_any (w := W) (r := x.1.1) (v := x.1.2) (x.2.1.on hb) x.2.2.1 x.2.2.2)
  have HNO := hid (fun (W : World) (ao : Option Addr) (n c : Nat) => nodes_any (w := W) (r := r) (ao := ao) (n := n) (c := c))
  obtain ⟨ao, cap, rfl, -⟩ := hS.at
  have HS := hid hS
  have HAP := hid (Rx.all_pre nodeB r)
  obtain ⟨m, hm⟩ : ∃ m, m = r.kids.length := ⟨_, rfl⟩
  rw [← hm] at HS ⊢
  clear hS hm
  refine (callsIn_wide (n := 9)).1 ?_
  refine callsIn_of_wp_marks Tryz.func33 rfl trivial ?_ rfl
  simp only [Tryz.ntmps33, List.size_toArray, List.length_cons, List.length_nil, Nat.reduceAdd, Nat.reduceSub, Array.replicate_succ, Array.replicate_zero, List.push_toArray, List.append_toArray, List.nil_append, List.cons_append]
  gi_wp2_with (refine ⟨trivial, ?_⟩; gi_at_call 56; refine (callsIn_wide.2 (HNO.out _ _ _ _)).mono ?_; rintro e w' ⟨rfl, rfl⟩)
  obtain ⟨W2, hW2⟩ : ∃ W2, ((w.alloc (rxo r.op r.name (.slice ao m cap))).alloc (.cells #[.bool false] 4)).alloc (rxo r.op r.name (.slice ao m cap)) = W2 := ⟨_, rfl⟩
  have hB : Below w.heap.size w W2 := by
    rw [← hW2]
    exact (((Below.refl _ w).alloc (Nat.le_refl _) _).alloc (by simp) _).alloc (by simp; omega) _
  have b1 : Boxed W2 (w.heap.size + 1) 4 (.bool false) := by
    rw [← hW2]
    refine Boxed.alloc ?_ _
    exact new_1 _ _ _
  have b2 : W2.heap[w.heap.size + 1 + 1]? = some (rxo r.op r.name (.slice ao m cap)) := by
    rw [← hW2]
    have := new_0 ((w.alloc (rxo r.op r.name (.slice ao m cap))).alloc (.cells #[.bool false] 4)) (rxo r.op r.name (.slice ao m cap))
    simp only [World.size_alloc] at this
    exact this
  have z2 : W2.heap.size = w.heap.size + 3 := by rw [← hW2]; simp
  have hKA : KAll w W2 := KAll.of_below hB
  rw [hW2]
  clear hW2
  refine wpIn_rangeFunc_ownH rfl (by omega) (gf := 80) (lb := #[.pointer (some ⟨w.heap.size + 1 + 1, 0, none⟩)]) rfl trivial (enters_of Tryz.func80 (by kernel_rfl) rfl)
    (nodes_stops (n := 9 - 1) W2 HS.out hn hF hKA b2) KAll.trans (fun W l o o' _ h hc _ => kAll_b W l o o' h hc) (Below.refl _ _) (fun _ => rfl)
    (fun pre W => Boxed W (w.heap.size + 1) 4 (.bool false) ∧ (∀ x ∈ pre, nodeB x.1.1 = true) ∧ Below w.heap.size w W)
    (fun j pre W => Boxed W (w.heap.size + 1) 4 (.bool false) ∧ (j = .ret ∧ ∃ x ∈ pre, nodeB x.1.1 = false) ∧ Below w.heap.size w W)
    (OwnFrom.and (Own.from (boxed_own _ _ (fun _ => _)) _) (OwnFrom.and (ownFrom_pure _ _) (ownFrom_below (Nat.le_refl _) (by omega))))
    (fun j => OwnFrom.and (Own.from (boxed_own _ _ (fun _ => _)) _) (OwnFrom.and (ownFrom_pure _ _) (ownFrom_below (Nat.le_refl _) (by omega))))
    ⟨b1, fun x hx => (by cases hx), hB⟩
    (fun x a' W => ∃ cb : Nat, a' = { tmps := #[.agg #[.int .i64 r.op, .string (tx r.name), .slice ao m cap], .pointer (some ⟨w.heap.size, 0, none⟩), .pointer (some ⟨w.heap.size + 1, 0, none⟩), .pointer (some ⟨cb, 0, none⟩), .agg #[.int .i64 r.op, .string (tx r.name), .slice ao m cap], .func (.func 80) #[] #[.pointer (some ⟨w.heap.size + 1 + 1, 0, none⟩)], .agg #[.int .i64 x.1.1.op, .string (tx x.1.1.name), x.1.2], undef, undef, undef], defers := [] } ∧ W.heap[cb]? = some (rxo x.1.1.op x.1.1.name x.1.2))
    (fun x a' s W W' row hs hg hr => ?ax) ?assign ?body ?done ?stop
  case ax =>
    obtain ⟨cb, h2, h4⟩ := hs
    refine ⟨cb, h2, ?_⟩
    rw [hg.block cb (lt_of_block h4) (fun e => by
      obtain ⟨_, o, ho, hc⟩ := hr cb e.symm
      rw [h4] at ho
      cases ho
      cases hc)]
    exact h4
  case assign =>
    intro l pre x W K hI hK
    obtain ⟨⟨xr, xv⟩, hx1, hx2, hx3⟩ := x
    obtain ⟨xo, xc, hxv, -⟩ := hx1.at
    simp only at hxv
    subst hxv
    gi_wp2
    refine hK _ _ ⟨by simp, fun b o _ hb _ => ?_⟩ (KAll.of_below ((Below.refl W.heap.size W).alloc (Nat.le_refl _) _)) ⟨hI.1.alloc _, hI.2.1, hI.2.2.alloc hI.2.2.size _⟩ ⟨W.heap.size, rfl, new_0 _ _⟩
    rw [((Below.refl W.heap.size W).alloc (Nat.le_refl _) _).block b (Array.getElem?_eq_some_iff.1 hb).1]
    exact hb
  case body =>
    rintro l pre x a' W hl hlr ⟨d1, hall, hB1⟩ ⟨cb, rfl, hcb⟩ hlt
    have HX := hid (HND.out x W hB1)
    have HAL := hid hall
    obtain ⟨⟨xr, xv⟩, hx1, hx2, hx3⟩ := x
    obtain ⟨xo, xc, hxv, -⟩ := hx1.at
    simp only at hxv hcb HX
    subst hxv
    have e0 : W.cell? ⟨cb, 0, none⟩ = some (.int .i64 xr.op) := by rw [cell_at hcb]; rfl
    have e1 : W.cell? ⟨cb, 1, none⟩ = some (.string (tx xr.name)) := by rw [cell_at hcb]; rfl
    have e2 : W.cell? ⟨cb, 2, none⟩ = some (.slice xo xr.kids.length xc) := by rw [cell_at hcb]; rfl
    clear hall
    rcases bool_two (nodeB xr) with hq | hq
    · rw [hq] at HX
      have HQ := hid hq
      clear hq
      gi_wp2_with (refine ⟨trivial, ?_⟩; gi_at_call 57; refine (CallsIn.inRound l (callsIn_wide.2 HX.out)).mono ?_; rintro e w' ⟨rfl, hb'⟩; have f1 := (hb'.block _ d1.lt).trans d1; have g1 : Boxed w' (w.heap.size + 1) 4 (.bool false) := f1; have h1c := g1.cell; have h1f := g1.frozen; have HB' := hid hb'; clear hb' f1)
      exact ⟨KeepsFrom.trans ⟨HB'.out.size, fun b o _ hb _ => (HB'.out.block b (Array.getElem?_eq_some_iff.1 hb).1).trans hb⟩ ((KeepsOthers.setCell _ _ _).from _), g1.set (.bool false), ⟨rfl, _, List.mem_append_right _ (List.mem_singleton.2 rfl), HQ.out⟩, (below_2x hB1 HB'.out).setCell (p := ⟨w.heap.size + 1, 0, none⟩) (by simp) _⟩
    · rw [hq] at HX
      have HQ := hid hq
      clear hq
      gi_wp2_with (refine ⟨trivial, ?_⟩; gi_at_call 57; refine (CallsIn.inRound l (callsIn_wide.2 HX.out)).mono ?_; rintro e w' ⟨rfl, hb'⟩; have f1 := (hb'.block _ d1.lt).trans d1; have g1 : Boxed w' (w.heap.size + 1) 4 (.bool false) := f1; have HB' := hid hb'; clear hb' f1)
      refine ⟨⟨HB'.out.size, fun b o _ hb _ => (HB'.out.block b (Array.getElem?_eq_some_iff.1 hb).1).trans hb⟩, KAll.of_below HB'.out, g1, fun y hy => ?_, below_2x hB1 HB'.out⟩
      rcases List.mem_append.1 hy with hy | hy
      · exact HAL.out y hy
      · rw [List.mem_singleton.1 hy]; exact HQ.out
  case done =>
    rintro D ys W hD hS ⟨d1, hall, hB1⟩ hK
    have c1 := d1.cell
    have f1 := d1.frozen
    have HE := hid (show Rx.all nodeB r = true by
      rw [HAP.out, ← hS]
      refine List.all_eq_true.2 fun y hy => ?_
      obtain ⟨x, hx, rfl⟩ := List.mem_map.1 hy
      exact hall x hx)
    clear hall
    gi_wp2
    have hK' := (KeepsOthers.setCell W ⟨w.heap.size + 1, 0, none⟩ (.bool true)).same D _ hK rfl
    refine ⟨by simp, .inl ⟨_, _, rfl, run_takeDeferred hK', ?_⟩⟩
    have e1 := d1.set (.bool true)
    have hB3 := hB1.setCell (p := ⟨w.heap.size + 1, 0, none⟩) (by simp) (.bool true)
    obtain ⟨W5, hW5⟩ : ∃ W5, W.setCell ⟨w.heap.size + 1, 0, none⟩ (.bool true) = W5 := ⟨_, rfl⟩
    rw [hW5] at hK' e1 hB3 ⊢
    have k1 := (e1.kept (grownBy_putObj' _ D (.deferred none)) (fun e => by cases e; rw [show W5.heap[_]? = _ from e1] at hK'; cases hK')).cell
    refine ⟨.bool true, ?_, by rw [HE.out], hB3.trans (belowK_b (w := w) (Nat.le_refl _) W5 D _ _ (by omega) hK' rfl rfl)⟩
    simp [results, Tryz.f33, go_sem, k1]
  case stop =>
    rintro D j pre W hD hS ⟨d1, ⟨rfl, x, hx, hq⟩, hB1⟩ hK
    have HE := hid (show Rx.all nodeB r = false by
      rw [HAP.out]
      cases q : r.pre.all nodeB with
      | false => rfl
      | true =>
        have := List.all_eq_true.1 q x.1.1 (hS.subset (List.mem_map.2 ⟨x, hx, rfl⟩))
        rw [hq] at this; cases this)
    gi_wp2
    refine ⟨by simp, .inl ⟨_, _, rfl, run_takeDeferred hK, ?_⟩⟩
    have k1 := (d1.kept (grownBy_putObj' _ D (.deferred none)) (fun e => by cases e; rw [show W.heap[_]? = _ from d1] at hK; cases hK)).cell
    refine ⟨.bool false, ?_, by rw [HE.out], hB1.trans (belowK_b (w := w) (Nat.le_refl _) W D _ _ (by omega) hK rfl rfl)⟩
    simp [results, Tryz.f33, go_sem, k1]
end Go.Proofs.YtagppgncanimaaaGreatDoor
namespace Go.Proofs.YtagppgncanimaaaGreatDoor
open Go.RowKit

set_option maxRecDepth 4000 in
set_option maxHeartbeats 2000000 in
theorem gCheck_any {w : World} {v : Value} {r : Rx} (hS : RxS w v r.kids) (hF : r.Fit) : Calls Tryz.prog 12 #[.agg #[.int .i64 r.op, .string (tx r.name), v]] w fun e w' => e = .returned (.int .i64 (chkN r)) ∧ Below w.heap.size w w' := by
  have HSZ := hid (fun (W : World) (hb : Below w.heap.size w W) => Size_any (r := r) (hS.on hb))
  have HMB := hid (fun (hn : r.nodes ≤ 1000000) (W : World) (hb : Below w.heap.size w W) => mayBe_any (r := r) (hS.on hb) hn hF)
  have hdl := r.deep_le
  have hnp := r.nodes_pos
  obtain ⟨ao, cap, rfl, -⟩ := hS.at
  have HB0 := hid (boxed.start w r (.slice ao r.kids.length cap))
  clear hS hF
  by_cases hc : r.nodes ≤ 1000
  · rw [show szN r = (r.nodes, r.deep) by unfold szN; rw [if_pos (by omega)]] at HSZ
    have hI0 : ((r.nodes : Int) == 0) = false := by rw [beq_eq_false_iff_ne]; omega
    have hI : ¬ ((1000 : Int) < (r.nodes : Int)) := by omega
    by_cases hd : 100 < r.deep
    · have hdI : (100 : Int) < (r.deep : Int) := by omega
      have HE := hid (show chkN r = 91 by unfold chkN; rw [if_neg (by omega), if_pos (by omega)])
      go_enter Tryz.func12, Tryz.ntmps12
      go_wp2_with fail
      refine (HSZ.out _ ((Below.refl _ _).alloc (Nat.le_refl _) _)).mono ?_
      rintro en w1 ⟨rfl, hb1⟩
      have B1 := hid (HB0.out.on hb1)
      clear hb1
      go_wp2
      go_ret
      exact ⟨by rw [HE.out]; rfl, B1.out.low⟩
    · have hdI : ¬ ((100 : Int) < (r.deep : Int)) := by omega
      have HCK := hid (show chkN r = if Rx.all nodeB r then 0 else 92 by unfold chkN; rw [if_neg (by omega), if_neg (by omega)])
      obtain ⟨q, hq⟩ : ∃ q, q = Rx.all nodeB r := ⟨_, rfl⟩
      rw [← hq] at HMB HCK
      have HMB2 := hid (HMB.out (by omega))
      clear hq HMB
      go_enter Tryz.func12, Tryz.ntmps12
      go_wp2_with fail
      refine (HSZ.out _ ((Below.refl _ _).alloc (Nat.le_refl _) _)).mono ?_
      rintro en w1 ⟨rfl, hb1⟩
      have B1 := hid (HB0.out.on hb1)
      obtain ⟨c0, c1, c2⟩ := B1.out.cells
      clear hb1
      go_wp2_with fail
      refine (HMB2.out _ B1.out.low).mono ?_
      rintro en w2 ⟨rfl, hb2⟩
      have B2 := hid (B1.out.on hb2)
      clear hb2
      cases q with
      | true =>
        go_wp2
        go_ret
        exact ⟨by rw [HCK.out]; rfl, B2.out.low⟩
      | false =>
        go_wp2
        go_ret
        exact ⟨by rw [HCK.out]; rfl, B2.out.low⟩
  · have HE := hid (show chkN r = 3 by unfold chkN; rw [if_pos (by omega)])
    by_cases h1 : r.nodes ≤ 100000 ∧ r.deep ≤ 1000
    · rw [show szN r = (r.nodes, r.deep) by unfold szN; rw [if_pos h1]] at HSZ
      have hI0 : ((r.nodes : Int) == 0) = false := by rw [beq_eq_false_iff_ne]; omega
      have hI : (1000 : Int) < (r.nodes : Int) := by omega
      go_enter Tryz.func12, Tryz.ntmps12
      go_wp2_with fail
      refine (HSZ.out _ ((Below.refl _ _).alloc (Nat.le_refl _) _)).mono ?_
      rintro en w1 ⟨rfl, hb1⟩
      have B1 := hid (HB0.out.on hb1)
      clear hb1
      go_wp2
      go_ret
      exact ⟨by rw [HE.out]; rfl, B1.out.low⟩
    · rw [show szN r = (0, 0) by unfold szN; rw [if_neg h1]] at HSZ
      go_enter Tryz.func12, Tryz.ntmps12
      go_wp2_with fail
      refine (HSZ.out _ ((Below.refl _ _).alloc (Nat.le_refl _) _)).mono ?_
      rintro en w1 ⟨rfl, hb1⟩
      have B1 := hid (HB0.out.on hb1)
      clear hb1
      go_wp2
      go_ret
      exact ⟨by rw [HE.out]; rfl, B1.out.low⟩
end Go.Proofs.YtagppgncanimaaaGreatDoor
namespace Go.Proofs.YtagppgncanimaaaGreatDoor
open Go.RowKit

/-- How tightly an expression binds. -/
def tg (r : Rx) : Nat := if r.op = 5 then 0 else if r.op = 4 ∧ 0 < r.kids.length then 1 else 2
/-- Words, in parentheses where they bind too loosely. -/
def kwd (least t : Nat) (l : List (List UInt8)) : List (List UInt8) := if least ≤ t then l else [40] :: (l ++ [[41]])
/-- The sign of a kind. -/
def sgn1 (op : Int) : List UInt8 := if op = 6 then [42] else if op = 7 then [43] else if op = 8 then [63] else []
/-- Alternatives, with bars between. -/
def altW : List (List (List UInt8)) → List (List UInt8)
  | [] => []
  | a :: t => a ++ (t.map fun x => [124] :: x).flatten
/-- The words of an expression. -/
def Rx.wds : Rx → List (List UInt8)
  | .mk op nm ks => if op = 1 then [nm] else if op = 2 then [[36], nm] else if op = 3 then [[46]]
    else if op = 4 then (if ks.isEmpty then [[40], [41]] else (ks.map fun k => kwd 1 (tg k) k.wds).flatten)
    else if op = 5 then altW (ks.map fun k => k.wds)
    else (ks.map fun k => kwd 2 (tg k) k.wds).flatten ++ [sgn1 op]
theorem Rx.wds_eq (r : Rx) : r.wds = if r.op = 1 then [r.name] else if r.op = 2 then [[36], r.name] else if r.op = 3 then [[46]]
    else if r.op = 4 then (if r.kids.isEmpty then [[40], [41]] else (r.kids.map fun k => kwd 1 (tg k) k.wds).flatten)
    else if r.op = 5 then altW (r.kids.map fun k => k.wds)
    else (r.kids.map fun k => kwd 2 (tg k) k.wds).flatten ++ [sgn1 r.op] := by
  cases r
  rw [Rx.wds]; rfl
theorem kwd_len (a t : Nat) (l : List (List UInt8)) : l.length ≤ (kwd a t l).length ∧ (kwd a t l).length ≤ l.length + 2 := by
  unfold kwd
  split
  · omega
  · simp; omega
/-- The words of a row of Kids in a sequence. -/
def seqW (a : Nat) (ks : List Rx) : List (List UInt8) := (ks.map fun k => kwd a (tg k) k.wds).flatten
theorem seqW_snoc (a : Nat) (ks : List Rx) (k : Rx) : seqW a (ks ++ [k]) = seqW a ks ++ kwd a (tg k) k.wds := by simp [seqW]
/-- The words of a row of alternatives. -/
def orW (ks : List Rx) : List (List UInt8) := altW (ks.map fun k => k.wds)
theorem orW_one (k : Rx) : orW [k] = k.wds := by simp [orW, altW]
theorem orW_snoc (ks : List Rx) (k : Rx) (h : ks ≠ []) : orW (ks ++ [k]) = orW ks ++ [[124]] ++ k.wds := by
  cases ks with
  | nil => exact absurd rfl h
  | cons a t => simp [orW, altW]
theorem seqW_len {a : Nat} {ks : List Rx} (h : ∀ k ∈ ks, k.wds.length + 2 ≤ 4 * k.nodes) : (seqW a ks).length ≤ 4 * nodesL ks := by
  induction ks with
  | nil => simp [seqW]
  | cons x t ih =>
    have h1 := h x (by simp)
    have h2 := ih (fun k hk => h k (List.mem_cons_of_mem _ hk))
    have h3 := (kwd_len a (tg x) x.wds).2
    have e : seqW a (x :: t) = kwd a (tg x) x.wds ++ seqW a t := by simp [seqW]
    rw [e, List.length_append, nodesL_cons]
    omega
theorem orW_len {ks : List Rx} (h : ∀ k ∈ ks, k.wds.length + 2 ≤ 4 * k.nodes) : (orW ks).length ≤ 4 * nodesL ks := by
  have key : ∀ t : List Rx, (∀ k ∈ t, k.wds.length + 2 ≤ 4 * k.nodes) → (((t.map fun k => k.wds).map fun x => [124] :: x).flatten).length ≤ 4 * nodesL t := by
    intro t
    induction t with
    | nil => intro _; simp
    | cons x t ih =>
      intro h
      have h1 := h x (by simp)
      have h2 := ih (fun k hk => h k (List.mem_cons_of_mem _ hk))
      rw [List.map_cons, List.map_cons, List.flatten_cons, List.length_append, List.length_cons, nodesL_cons]
      omega
  cases ks with
  | nil => simp [orW, altW]
  | cons x t =>
    have h1 := h x (by simp)
    have h2 := key t (fun k hk => h k (List.mem_cons_of_mem _ hk))
    have e : orW (x :: t) = x.wds ++ ((t.map fun k => k.wds).map fun x => [124] :: x).flatten := rfl
    rw [e, List.length_append, nodesL_cons]
    omega
theorem Rx.wds_len (r : Rx) : r.wds.length + 2 ≤ 4 * r.nodes := by
  induction r using Rx.ind with
  | h r ih =>
    have h1 := seqW_len (a := 1) ih
    have h2 := seqW_len (a := 2) ih
    have h3 := orW_len ih
    unfold seqW at h1 h2
    unfold orW at h3
    have h4 := r.nodes_kids
    rw [r.wds_eq]
    split
    · simp; omega
    · split
      · simp; omega
      · split
        · simp; omega
        · split
          · split
            · simp; omega
            · omega
          · split
            · omega
            · rw [List.length_append, List.length_singleton]; omega
theorem Rx.wds_pos (r : Rx) (h : Rx.all nodeB r = true) : 1 ≤ r.wds.length := by
  induction r using Rx.ind with
  | h r ih =>
    obtain ⟨hn, hk⟩ := (Rx.all_iff _ _).1 h
    have one : ∀ (a : Nat) (f : Rx → List (List UInt8)), (∀ k ∈ r.kids, 1 ≤ (f k).length) → r.kids ≠ [] → 1 ≤ ((r.kids.map f).flatten).length := by
      intro a f hf hne
      cases hks : r.kids with
      | nil => exact absurd hks hne
      | cons x t =>
        have := hf x (by rw [hks]; simp)
        rw [List.map_cons, List.flatten_cons, List.length_append]
        omega
    rw [r.wds_eq]
    split
    · simp
    · split
      · simp
      · split
        · simp
        · split
          · split
            · simp
            · rename_i hne
              exact one 1 _ (fun k hk' => Nat.le_trans (ih k hk' (hk k hk')) (kwd_len 1 (tg k) k.wds).1) (by simpa using hne)
          · split
            · rename_i h5
              have h2 : 2 ≤ r.kids.length := by
                unfold nodeB at hn
                simp_all
              cases hks : r.kids with
              | nil => rw [hks] at h2; simp at h2
              | cons x t =>
                have := ih x (by rw [hks]; simp) (hk x (by rw [hks]; simp))
                simp only [List.map_cons, altW, List.length_append]
                omega
            · simp

theorem tight_any {w : World} {v : Value} {r : Rx} (hS : RxS w v r.kids) : Calls Tryz.prog 77 #[.agg #[.int .i64 r.op, .string (tx r.name), v]] w fun e w' => e = .returned (.int .i64 (tg r)) ∧ Below w.heap.size w w' := by
  obtain ⟨op, nm, ks⟩ := r
  simp only [Rx.op, Rx.name, Rx.kids] at *
  obtain ⟨ao, cap, rfl, -⟩ := hS.at
  have HT := hid (show tg (.mk op nm ks) = if op = 5 then 0 else if op = 4 ∧ 0 < ks.length then 1 else 2 from rfl)
  obtain ⟨n, hn⟩ : ∃ n, n = ks.length := ⟨_, rfl⟩
  rw [← hn] at HT ⊢
  clear hS hn
  by_cases o5 : op = 5
  · subst o5
    go_enter Tryz.func77, Tryz.ntmps77
    go_wp2
    go_ret
    exact ⟨by rw [HT.out]; rfl, (Below.refl _ _).alloc (Nat.le_refl _) _⟩
  by_cases o4 : op = 4
  · subst o4
    by_cases hn0 : 0 < n
    · have hI : (0 : Int) < (n : Int) := by omega
      go_enter Tryz.func77, Tryz.ntmps77
      go_wp2
      go_ret
      exact ⟨by rw [HT.out, if_neg (by omega), if_pos (by simp; exact hn0)]; rfl, (Below.refl _ _).alloc (Nat.le_refl _) _⟩
    · have hz : n = 0 := by omega
      subst hz
      go_enter Tryz.func77, Tryz.ntmps77
      go_wp2
      go_ret
      exact ⟨by rw [HT.out]; rfl, (Below.refl _ _).alloc (Nat.le_refl _) _⟩
  · go_enter Tryz.func77, Tryz.ntmps77
    go_wp2
    go_ret
    exact ⟨by rw [HT.out, if_neg o5, if_neg (fun q => o4 q.1)]; rfl, (Below.refl _ _).alloc (Nat.le_refl _) _⟩
theorem signOf_any {w : World} {op : Int} : Calls Tryz.prog 53 #[.int .i64 op] w fun e w' => e = .returned (.string (tx (sgn1 op))) ∧ w' = w := by
  have HT := hid (show sgn1 op = if op = 6 then [42] else if op = 7 then [43] else if op = 8 then [63] else [] from rfl)
  by_cases o6 : op = 6
  · subst o6
    go_enter Tryz.func53, Tryz.ntmps53
    go_wp2
    go_ret
    exact ⟨rfl, rfl⟩
  by_cases o7 : op = 7
  · subst o7
    go_enter Tryz.func53, Tryz.ntmps53
    go_wp2
    go_ret
    exact ⟨rfl, rfl⟩
  by_cases o8 : op = 8
  · subst o8
    go_enter Tryz.func53, Tryz.ntmps53
    go_wp2
    go_ret
    exact ⟨rfl, rfl⟩
  go_enter Tryz.func53, Tryz.ntmps53
  go_wp2
  go_ret
  exact ⟨by rw [HT.out, if_neg o6, if_neg o7, if_neg o8]; rfl, rfl⟩
end Go.Proofs.YtagppgncanimaaaGreatDoor
