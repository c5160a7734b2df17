/-
  A region that draws its order, walked by hand along one way: operations that only read are taken first, those that are passed over too.
  The document's names: a rising row of names.
-/
import Derived.Test.YtebaopiedlioiaaGreatDoorJInsAnd
import Derived.Test.YtebaopiedlioiaaGreatDoorJRdAnd
import Derived.Test.YtebaopiedlioiaaGreatDoorWRefSAnd
import Derived.Deep.RegionHeld3
namespace Go.Proofs.YtebaopiedlioiaaGreatDoor
open Go.RowKit

theorem mem_getD {ps : List (List UInt8)} {i : Nat} (h : i < ps.length) : ps.getD i [] ∈ ps := by
  rw [List.getD_eq_getElem?_getD, List.getElem?_eq_getElem h]; exact List.getElem_mem _
theorem drew_more {w wr : World} {n : Nat} (h : ∃ m, wr = w.drewN m) : ∃ m, wr.drewN n = w.drewN m := by
  obtain ⟨m, rfl⟩ := h
  exact ⟨m + n, by unfold World.drewN; simp only [Nat.add_assoc]⟩
theorem nmB_zero {l : List (List UInt8)} (h : Wo.nameB (l.getD 0 []) = true) : nmB l 0 = true := by unfold nmB; rw [h]; rfl
theorem nmB_bad {l : List (List UInt8)} {i : Nat} (h : Wo.nameB (l.getD i []) = false) : nmB l i = false := by unfold nmB; rw [h]; rfl
theorem nmB_succ {l : List (List UInt8)} {i : Nat} (h : Wo.nameB (l.getD (i + 1) []) = true) (hl : l.getD i [] < l.getD (i + 1) []) : nmB l (i + 1) = true := by
  unfold nmB; rw [h]; simp only [Nat.add_sub_cancel, Bool.true_and, Bool.or_eq_true]; exact .inr (decide_eq_true hl)
theorem nmB_not {l : List (List UInt8)} {i : Nat} (hl : ¬ l.getD i [] < l.getD (i + 1) []) : nmB l (i + 1) = false := by
  unfold nmB; simp only [Nat.add_sub_cancel]; rw [decide_eq_false hl]; simp
theorem nmsB_false {most : Nat} {l : List (List UInt8)} {k : Nat} (hk : k < l.length) (h : nmB l k = false) : nmsB most l = false := by unfold nmsB; rw [allN_false hk h]; rfl
theorem nmsB_end {most : Nat} {l : List (List UInt8)} (h : ∀ i, i < l.length → nmB l i = true) : nmsB most l = decide (l.length ≤ most) := by unfold nmsB; rw [allN_iff.2 h]; rfl

set_option maxRecDepth 20000 in
set_option maxHeartbeats 2000000 in
theorem Rnames_any {w : World} {v : Value} {ps : List (List UInt8)} (ht : Txs w v ps) (hz : ∀ p ∈ ps, p.length ≤ maxLen) (hn : ps.length ≤ maxLen) (most : Nat) :
    Calls Tryz.prog 43 #[v, .int .i64 most] w fun e w' => e = .returned (.bool (nmsB most ps)) ∧ ∃ n, w' = w.drewN n := by
  obtain ⟨ao, cap, rfl, hr⟩ := ht
  have HZ := hid hz
  have HR := hid hr
  obtain ⟨n, hnn⟩ : ∃ n, n = ps.length := ⟨_, rfl⟩
  have HN := hid hnn
  rw [← hnn] at hn ⊢
  have hnb : n ≤ 9223372036854775807 := by unfold maxLen at hn; omega
  clear hr hz hnn hn
  go_enter Tryz.func43, Tryz.ntmps43
  go_wp2_with fail
  go_loopw [5] (fun i wr => ∃ j : Nat, j ≤ n ∧ i = .int .i64 j ∧ Hid (∀ i, i < j → nmB ps i = true) ∧ Hid (∃ m, wr = w.drewN m)) (fun i _ => n - (intOf i).toNat)
  case atStart => exact ⟨0, Nat.zero_le _, rfl, hid fun i h => absurd h (Nat.not_lt_zero _), ⟨0, rfl⟩⟩
  case round =>
    obtain ⟨j, hj, rfl, HG, HB⟩ := hrel
    by_cases hlt : j < n
    · obtain ⟨g, o, hao, hg, hc⟩ : ∃ g o, ao = some ⟨g, o, none⟩ ∧ g < w.heap.size ∧ ∀ i, i < ps.length → w.cell? ⟨g, o + i, none⟩ = some (.string (tx (ps.getD i []))) := by
        rcases HR.out with q | q
        · exfalso; have := HN.out; rw [q] at this; simp at this; omega
        · exact q
      subst hao
      have HC := hid (show ∀ W, Below wr.heap.size wr W → ∀ i, i < ps.length → W.cell? ⟨g, o + i, none⟩ = some (.string (tx (ps.getD i []))) from fun W hW i hi => by
        obtain ⟨m, hm⟩ := HB.out
        have e0 : wr.heap = w.heap := by rw [hm]; rfl
        have h9 := hW.block g (by rw [e0]; exact hg)
        rw [e0] at h9
        exact (World.cell?_of_block (a := ⟨g, o + i, none⟩) h9).trans (hc i hi))
      have HJ := hid (show j < ps.length by rw [← HN.out]; exact hlt)
      obtain ⟨p, hpq⟩ : ∃ p, p = ps.getD j [] := ⟨_, rfl⟩
      have HPQ := hid hpq
      have HU := hid (fun w' => RName_any (tx p) w' (by rw [tx_size, hpq]; exact HZ.out _ (mem_getD HJ.out)))
      rw [show (tx p).data.toList = p from by simp] at HU
      have c0 := HC.out wr (Below.refl _ _) j HJ.out
      rw [← hpq] at c0
      have i0 : (0 : Int) ≤ (j : Int) := by omega
      have i1 : (j : Int) < (n : Int) := by omega
      clear hc hpq
      cases hnm : Wo.nameB p with
      | false =>
        have HNM := hid hnm
        rw [hnm] at HU
        clear hnm
        have HFIN := hid (show nmsB most ps = false from nmsB_false HJ.out (nmB_bad (by rw [← HPQ.out]; exact HNM.out)))
        cases j with
        | zero =>
          rw [Nat.add_zero] at c0
          go_wp2_with fail
          go_quiet (first | exact Calls.quiet_of ((HU.out _).mono fun _ _ q => ⟨q.1, 0, q.2⟩))
          go_wp2
          go_ret
          exact ⟨by rw [HFIN.out]; rfl, drew_more HB.out⟩
        | succ i =>
          have k0 : (0 : Int) ≤ (i : Int) + 1 := by omega
          have k1 : (i : Int) + 1 < (n : Int) := by omega
          clear i0 i1
          go_wp2_with fail
          go_quiet (first | exact Calls.quiet_of ((HU.out _).mono fun _ _ q => ⟨q.1, 0, q.2⟩))
          go_wp2
          go_ret
          exact ⟨by rw [HFIN.out]; rfl, drew_more HB.out⟩
      | true =>
        have HNM := hid hnm
        rw [hnm] at HU
        clear hnm
        cases j with
        | zero =>
          rw [Nat.add_zero] at c0
          have HG1 := hid (show ∀ i, i < 1 → nmB ps i = true from fun i hi => by rw [show i = 0 by omega]; exact nmB_zero (by rw [← HPQ.out]; exact HNM.out))
          go_wp2_with fail
          go_quiet (first | exact Calls.quiet_of ((HU.out _).mono fun _ _ q => ⟨q.1, 0, q.2⟩))
          go_wp2
          go_roundw
          case rel => exact ⟨1, by omega, by first | rfl | go_num, HG1, drew_more HB.out⟩
          case measure => simp [intOf]; omega
        | succ i =>
          have c1 := HC.out wr (Below.refl _ _) i (by have := HJ.out; omega)
          obtain ⟨q, hq⟩ : ∃ q, q = ps.getD i [] := ⟨_, rfl⟩
          have HQ := hid hq
          rw [← hq] at c1
          have hpos : (0 : Int) < (i : Int) + 1 := by omega
          have hneg : (0 : Int) ≤ (i : Int) := by omega
          have hilt : (i : Int) < (n : Int) := by omega
          have k0 : (0 : Int) ≤ (i : Int) + 1 := by omega
          have k1 : (i : Int) + 1 < (n : Int) := by omega
          clear hq i0 i1
          cases hless : Op.bytesLess q p with
          | true =>
            have HL := hid (show q < p by rw [bytesLess_eq] at hless; simpa using hless)
            have HG1 := hid (show ∀ a, a < i + 1 + 1 → nmB ps a = true from fun a ha => by
              by_cases e : a = i + 1
              · rw [e]; exact nmB_succ (by rw [← HPQ.out]; exact HNM.out) (by rw [← HPQ.out, ← HQ.out]; exact HL.out)
              · exact HG.out a (by omega))
            go_wp2_with fail
            go_quiet (first | exact Calls.quiet_of ((HU.out _).mono fun _ _ q => ⟨q.1, 0, q.2⟩))
            go_wp2
            go_roundw
            case rel => exact ⟨i + 1 + 1, by omega, by go_num, HG1, drew_more HB.out⟩
            case measure => simp [intOf]; omega
          | false =>
            have HL := hid (show ¬ q < p by rw [bytesLess_eq] at hless; simpa using hless)
            have HFIN := hid (show nmsB most ps = false from nmsB_false HJ.out (nmB_not (by rw [← HPQ.out, ← HQ.out]; exact HL.out)))
            go_wp2_with fail
            go_quiet (first | exact Calls.quiet_of ((HU.out _).mono fun _ _ q => ⟨q.1, 0, q.2⟩))
            go_wp2
            go_ret
            exact ⟨by rw [HFIN.out]; rfl, drew_more HB.out⟩
    · have hI : ¬ ((j : Int) < (n : Int)) := by omega
      have hjn : j = n := by omega
      have HEQ := hid (show nmsB most ps = decide (n ≤ most) by
        rw [nmsB_end (fun i hi => HG.out i (by have := HN.out; omega)), HN.out])
      go_wp2
      go_ret
      exact ⟨by rw [HEQ.out]; rfl, HB.out⟩
end Go.Proofs.YtebaopiedlioiaaGreatDoor
namespace Go.Proofs.YtebaopiedlioiaaGreatDoor
open Go.RowKit Go

section
variable {P : Program} {ops : Array Oper} {Q : Exit → Act → World → Prop} {md : Region.Mode} {S : World → Prop}
theorem opAtH {i : Nat} {o : Oper} {r : List Oper} (hd : ops.toList.drop i = o :: r) : ops[i]? = some o := by
  rw [← Array.getElem?_toList, ← Nat.add_zero i, ← List.getElem?_drop, hd]; rfl
/-- An operation that is carried out, and only reads. -/
theorem tkH {i : Nat} {o : Oper} {r : List Oper} {v : Value} {fuel : Nat} {listed : Array Bool} {a : Act} {w : World} (hd : ops.toList.drop i = o :: r) (hs : Region.noSelect ops = true) (hf : Region.free md ops listed i = true) (hr : (Region.ready md ops listed).contains i = true)
    (hQ : ∀ c a w, Q (.panic c) (a.put o.dst v) w → Q (.panic c) a w) (hw : Region.wanted o (yielded ops a.tmps) = true) (hv : ∀ w, S w → (execOp a.eval o).run P w = .ok (.value v) w) (hS : S w)
    (h : wpAnyH P md ops Q S fuel (listed.setIfInBounds i true) (a.put o.dst v) w) : wpAnyH P md ops Q S (fuel + 1) listed a w :=
  wpAnyH_take (opAtH hd) hs hf hr hQ (Or.inl ⟨hw, hv⟩) hS h
/-- An operation that is passed over. -/
theorem skH {i : Nat} {o : Oper} {r : List Oper} {fuel : Nat} {listed : Array Bool} {a : Act} {w : World} (hd : ops.toList.drop i = o :: r) (hs : Region.noSelect ops = true) (hf : Region.free md ops listed i = true) (hr : (Region.ready md ops listed).contains i = true)
    (hQ : ∀ c a w, Q (.panic c) (a.put o.dst undef) w → Q (.panic c) a w) (hw : Region.wanted o (yielded ops a.tmps) = false) (hS : S w)
    (h : wpAnyH P md ops Q S fuel (listed.setIfInBounds i true) (a.put o.dst undef) w) : wpAnyH P md ops Q S (fuel + 1) listed a w :=
  wpAnyH_take (opAtH hd) hs hf hr hQ (Or.inr ⟨hw, rfl⟩) hS h
/-- The one operation that may come up now: a call. -/
theorem caH {i : Nat} {o : Oper} {r : List Oper} {fuel : Nat} {listed : Array Bool} {a : Act} {w : World} (hd : ops.toList.drop i = o :: r) (hr : Region.ready md ops listed = [i]) (hw : Region.wanted o (yielded ops a.tmps) = true)
    (h : ∀ K' : Act → World → Prop, Shut (∀ a w, S w → (S w → wpAnyH P md ops Q S fuel (listed.setIfInBounds i true) a w) → K' a w) → Oper.wp P o a w K' Q) : wpAnyH P md ops Q S (fuel + 1) listed a w :=
  wpAnyH_ready hr (by simp) (AllReadyH.cons (opAtH hd) (fun K' hK => by rw [if_pos hw]; exact h K' hK) AllReadyH.nil)
end
end Go.Proofs.YtebaopiedlioiaaGreatDoor
