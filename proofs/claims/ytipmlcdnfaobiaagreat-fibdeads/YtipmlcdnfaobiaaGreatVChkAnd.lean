/-
  place: the place of a rule that must be there.
  undoneBy: one more change that undoes; place: the place of a rule that must be there.
  A trial of changes in memory; must, check.
  A rule's copy in memory of its own (fib's copies and copyOf).
  The error of a rule, by its number: the program's Check, and the document's.
-/
import Derived.Test.YtipmlcdnfaobiaaGreatVMathAnd
import Derived.Test.YtipmlcdnfaobiaaGreatURdsAAnd
import Derived.Test.YtipmlcdnfaobiaaGreatUDocBAnd
import Derived.BigQuiet
import Derived.Shelf.SlSorted.Search
import Derived.Test.YtipmlcdnfaobiaaGreatVSearchAnd
import Derived.Deep.AppendLies
import Derived.Deep.RegionLaw
namespace Go.Proofs.YtipmlcdnfaobiaaGreat
open Go.RowKit

theorem errR_arg {W : Int} {r : Raw} (h : ¬ (1 ≤ W ∧ W ≤ 128) ∨ r.prio < 0 ∨ 2147483647 < r.prio) : errR W r = 1 := by unfold errR; rw [if_pos h]
theorem errR_cube {W : Int} {r : Raw} (h : ¬ (¬ (1 ≤ W ∧ W ≤ 128) ∨ r.prio < 0 ∨ 2147483647 < r.prio)) (h2 : ¬ Cub.Cu.right r.mat = true) : errR W r = 10 := by unfold errR; rw [if_neg h, if_pos (by simpa using h2)]
theorem errR_width {W : Int} {r : Raw} (h : ¬ (¬ (1 ≤ W ∧ W ≤ 128) ∨ r.prio < 0 ∨ 2147483647 < r.prio)) (h2 : Cub.Cu.right r.mat = true) (h3 : (r.mat.length : Int) ≠ W) : errR W r = 11 := by unfold errR; rw [if_neg h, if_neg (by simp [h2]), if_pos h3]
theorem errR_act {W : Int} {r : Raw} (h : ¬ (¬ (1 ≤ W ∧ W ≤ 128) ∨ r.prio < 0 ∨ 2147483647 < r.prio)) (h2 : Cub.Cu.right r.mat = true) (h3 : (r.mat.length : Int) = W) (h4 : ¬ okAct r.kind r.ports) : errR W r = 51 := by
  unfold errR
  rw [if_neg h, if_neg (by simp [h2]), if_neg (by simp [h3]), if_pos (by cases q : okActB r.kind r.ports with | false => rfl | true => exact absurd (okActB_iff.1 q) h4)]

set_option maxRecDepth 4000 in
set_option maxHeartbeats 2000000 in
theorem CheckN_any {w : World} {W p k : Int} {m : List UInt8} {v : Value} {ps : List (List UInt8)} (ht : Txs w v ps) (hz : ∀ p ∈ ps, p.length ≤ maxLen) :
    Calls Tryz.prog 114 #[.agg #[.int .i64 p, .string (tx m), .int .i64 k, v], .int .i64 W] w fun en w' => en = .returned (.int .i64 (errR W ⟨p, m, k, ps⟩)) ∧ Below w.heap.size w w' := by
  have HT := hid ht
  obtain ⟨ao, cap, rfl, _⟩ := ht
  have HW := hid (isWidth_any W)
  by_cases hw : 1 ≤ W ∧ W ≤ 128
  case neg =>
    rw [decide_eq_false hw] at HW
    rw [errR_arg (Or.inl hw)]
    go_enter Tryz.func114, Tryz.ntmps114
    go_wp2_with fail
    refine (HW.out _).mono ?_
    rintro en w1 ⟨rfl, rfl⟩
    go_wp2
    go_ret
    exact ⟨rfl, (Below.refl _ _).alloc (Nat.le_refl _) _⟩
  rw [decide_eq_true hw] at HW
  by_cases hp0 : p < 0
  · rw [errR_arg (Or.inr (Or.inl hp0))]
    go_enter Tryz.func114, Tryz.ntmps114
    go_wp2_with fail
    refine (HW.out _).mono ?_
    rintro en w1 ⟨rfl, rfl⟩
    go_wp2
    go_ret
    exact ⟨rfl, (Below.refl _ _).alloc (Nat.le_refl _) _⟩
  by_cases hp1 : 2147483647 < p
  · rw [errR_arg (Or.inr (Or.inr hp1))]
    go_enter Tryz.func114, Tryz.ntmps114
    go_wp2_with fail
    refine (HW.out _).mono ?_
    rintro en w1 ⟨rfl, rfl⟩
    go_wp2
    go_ret
    exact ⟨rfl, (Below.refl _ _).alloc (Nat.le_refl _) _⟩
  have HA := hid (show ¬ (¬ (1 ≤ W ∧ W ≤ 128) ∨ p < 0 ∨ 2147483647 < p) by omega)
  have HCK := hid (fun w' => uCheck m w')
  by_cases hm : Cub.Cu.right m = true
  case neg =>
    rw [if_neg hm] at HCK
    rw [errR_cube HA.out hm]
    clear hm
    go_enter Tryz.func114, Tryz.ntmps114
    go_wp2_with fail
    refine (HW.out _).mono ?_
    rintro en w1 ⟨rfl, rfl⟩
    go_wp2_with fail
    refine (HCK.out _).mono ?_
    rintro en w2 ⟨rfl, hb2⟩
    have HB2 := hid (show Below w.heap.size w w2 from ((Below.refl _ _).alloc (Nat.le_refl _) _).trans (hb2.mono (by simp)))
    clear hb2
    go_wp2
    go_ret
    exact ⟨rfl, HB2.out⟩
  rw [if_pos hm] at HCK
  have HM := hid hm
  clear hm hw
  by_cases hl : (m.length : Int) = W
  case neg =>
    have hne : ((m.length : Int) == W) = false := by rw [beq_eq_false_iff_ne]; exact hl
    rw [errR_width HA.out HM.out hl]
    clear hl
    go_enter Tryz.func114, Tryz.ntmps114
    go_wp2_with fail
    refine (HW.out _).mono ?_
    rintro en w1 ⟨rfl, rfl⟩
    go_wp2_with fail
    refine (HCK.out _).mono ?_
    rintro en w2 ⟨rfl, hb2⟩
    have OB := below_block hb2 (new_0 w (rob p (tx m) k (.slice ao ps.length cap))) (by simp)
    obtain ⟨d0, d1, d2, d3, _, _, _, _⟩ := rob_cells OB
    have HB2 := hid (show Below w.heap.size w w2 from ((Below.refl _ _).alloc (Nat.le_refl _) _).trans (hb2.mono (by simp)))
    clear OB hb2
    go_wp2
    go_ret
    exact ⟨rfl, HB2.out⟩
  have HMB := hid (fun (w' : World) (hb : Below w.heap.size w w') => mayBe_any (k := k) (HT.out.below hb) hz)
  have HE1 := hid (fun (h : ¬ okAct k ps) => errR_act (r := ⟨p, m, k, ps⟩) HA.out HM.out hl h)
  have HE0 := hid (fun (h : okAct k ps) => (errR_ok (r := ⟨p, m, k, ps⟩) (W := W)).2 ⟨by have := HA.out; omega, by have := HA.out; show 0 ≤ p ∧ p ≤ _; omega, HM.out, hl, h⟩)
  subst hl
  obtain ⟨er, her⟩ : ∃ er, er = errR (m.length : Int) ⟨p, m, k, ps⟩ := ⟨_, rfl⟩
  rw [← her] at HE0 HE1 ⊢
  clear her
  have hnn : ((m.length : Int) == (m.length : Int)) = true := by simp
  clear hz
  go_enter Tryz.func114, Tryz.ntmps114
  go_wp2_with fail
  refine (HW.out _).mono ?_
  rintro en w1 ⟨rfl, rfl⟩
  go_wp2_with fail
  refine (HCK.out _).mono ?_
  rintro en w2 ⟨rfl, hb2⟩
  have OB := below_block hb2 (new_0 w (rob p (tx m) k (.slice ao ps.length cap))) (by simp)
  obtain ⟨d0, d1, d2, d3, _, _, _, _⟩ := rob_cells OB
  have HB2 := hid (show Below w.heap.size w w2 from ((Below.refl _ _).alloc (Nat.le_refl _) _).trans (hb2.mono (by simp)))
  clear OB hb2
  go_wp2_with fail
  refine (HMB.out _ HB2.out).mono ?_
  rintro en w3 ⟨b, rfl, hb, hb3⟩
  have HB3 := hid (HB2.out.trans (hb3.mono HB2.out.size))
  have HI := hid hb
  clear hb hb3
  cases b with
  | true =>
    have hee := HE0.out (HI.out.1 rfl)
    subst hee
    go_wp2
    go_ret
    exact ⟨rfl, HB3.out⟩
  | false =>
    have hee := HE1.out (fun q => absurd (HI.out.2 q) (by decide))
    subst hee
    go_wp2
    go_ret
    exact ⟨rfl, HB3.out⟩


set_option maxRecDepth 20000 in
set_option maxHeartbeats 4000000 in
theorem RRight_any {w : World} {v : Value} {k : Int} {ps : List (List UInt8)} (ht : Txs w v ps) (hz : ∀ p ∈ ps, p.length ≤ maxLen) (hn : ps.length ≤ maxLen) :
    Calls Tryz.prog 72 #[.agg #[.int .i64 k, v]] w fun en w' => en = .returned (.bool (okActB k ps)) ∧ Below w.heap.size w w' := by
  have HT := hid ht
  obtain ⟨ao, cap, rfl, hr⟩ := ht
  by_cases hk : k = 1 ∨ k = 2
  · have he : okActB k ps = decide ((ps.length : Int) = 0) := by
      unfold okActB
      rw [decide_eq_true hk, decide_eq_false (show ¬ (k = 3 ∨ k = 4) by omega)]
      cases ps with
      | nil => rfl
      | cons a r => simp; omega
    rw [he]
    have BX := hid (show Below w.heap.size w (w.alloc (aob k (.slice ao ps.length cap))) from (Below.refl _ _).alloc (Nat.le_refl _) _)
    clear he hr hz HT
    rcases hk with rfl | rfl
    · go_enter Tryz.func72, Tryz.ntmps72
      go_wp2
      go_ret
      exact ⟨rfl, BX.out⟩
    · go_enter Tryz.func72, Tryz.ntmps72
      go_wp2
      go_ret
      exact ⟨rfl, BX.out⟩
  have hk1 : (k == 1) = false := by rw [beq_eq_false_iff_ne]; omega
  have hk2 : (k == 2) = false := by rw [beq_eq_false_iff_ne]; omega
  have HZ := hid hz
  have HR := hid hr
  obtain ⟨n, hnn⟩ : ∃ n, n = ps.length := ⟨_, rfl⟩
  have HN := hid hnn
  rw [← hnn] at hn ⊢
  have hnb : n ≤ 9223372036854775807 := by unfold maxLen at hn; omega
  clear hr hz hnn hn
  go_enter Tryz.func72, Tryz.ntmps72
  go_wp2_with fail
  go_loopw [3] (fun i wr => ∃ j : Nat, j ≤ n ∧ i = .int .i64 j ∧ Hid (Good ps j) ∧ Hid (wr.heap[w.heap.size]? = some (aob k (.slice ao n cap)) ∧ Below w.heap.size w wr)) (fun i _ => n - (intOf i).toNat)
  case atStart => exact ⟨0, Nat.zero_le _, rfl, Good.zero ps, new_0 _ _, (Below.refl _ _).alloc (Nat.le_refl _) _⟩
  case round =>
    obtain ⟨j, hj, rfl, HG, HB⟩ := hrel
    have b1 : wr.cell? ⟨w.heap.size, 1, none⟩ = some (.slice ao n cap) := by rw [cell_at HB.out.1]; rfl
    have b0 : wr.cell? ⟨w.heap.size, 0, none⟩ = some (.int .i64 k) := by rw [cell_at HB.out.1]; rfl
    by_cases hlt : j < n
    · obtain ⟨g, o, hao, hg, hc⟩ : ∃ g o, ao = some ⟨g, o, none⟩ ∧ g < w.heap.size ∧ ∀ i, i < ps.length → w.cell? ⟨g, o + i, none⟩ = some (.string (tx (ps.getD i []))) := by
        rcases HR.out with q | q
        · exfalso; have := HN.out; rw [q] at this; simp at this; omega
        · exact q
      subst hao
      have HC := hid (show ∀ W, Below wr.heap.size wr W → ∀ i, i < ps.length → W.cell? ⟨g, o + i, none⟩ = some (.string (tx (ps.getD i []))) from fun W hW i hi => by
        rw [hW.cell (by show g < wr.heap.size; have := HB.out.2.size; omega), HB.out.2.cell (by exact hg)]; exact hc i hi)
      have HJ := hid (show j < ps.length by rw [← HN.out]; exact hlt)
      obtain ⟨p, hpq⟩ : ∃ p, p = ps.getD j [] := ⟨_, rfl⟩
      have HPQ := hid hpq
      have HU := hid (fun w' => RName_any (tx p) w' (by rw [tx_size, hpq]; exact HZ.out _ (getD_mem HJ.out)))
      rw [tx_list] at HU
      have c0 := HC.out wr (Below.refl _ _) j HJ.out
      rw [← hpq] at c0
      have i0 : (0 : Int) ≤ (j : Int) := by omega
      have i1 : (j : Int) < (n : Int) := by omega
      clear hc hpq
      cases hnm : Wo.nameB p with
      | false =>
        have HNM := hid hnm
        rw [hnm] at HU
        clear hnm
        have HFIN := hid (show okActB k ps = false by
          cases q : okActB k ps with
          | false => rfl
          | true =>
            rcases okActB_iff.1 q with ⟨q1, _⟩ | ⟨_, q1⟩
            · exact absurd q1 hk
            · have := q1.2.2.1 _ (getD_mem HJ.out)
              rw [← HPQ.out, HNM.out] at this
              cases this)
        cases j with
        | zero =>
          rw [Nat.add_zero] at c0
          go_wp2_with fail
          go_quiet (first | exact Calls.quiet_of ((HU.out _).mono fun _ _ q => ⟨q.1, 0, q.2⟩))
          go_wp2
          go_ret
          exact ⟨by rw [HFIN.out]; rfl, below_drewN HB.out.2⟩
        | succ i =>
          have k0 : (0 : Int) ≤ (i : Int) + 1 := by omega
          have k1 : (i : Int) + 1 < (n : Int) := by omega
          clear i0 i1
          go_wp2_with fail
          go_quiet (first | exact Calls.quiet_of ((HU.out _).mono fun _ _ q => ⟨q.1, 0, q.2⟩))
          go_wp2
          go_ret
          exact ⟨by rw [HFIN.out]; rfl, below_drewN HB.out.2⟩
      | true =>
        have HNM := hid hnm
        rw [hnm] at HU
        clear hnm
        cases j with
        | zero =>
          rw [Nat.add_zero] at c0
          have HG1 := hid (show Good ps 1 from ⟨fun i hi => by rw [show i = 0 by omega, ← HPQ.out]; exact HNM.out, fun i hi => by omega⟩)
          go_wp2_with fail
          go_quiet (first | exact Calls.quiet_of ((HU.out _).mono fun _ _ q => ⟨q.1, 0, q.2⟩))
          go_wp2
          go_roundw
          case rel => exact ⟨1, by omega, by first | rfl | go_num, HG1, HB.out.1, below_drewN HB.out.2⟩
          case measure => simp [intOf]; omega
        | succ i =>
          have c1 := HC.out wr (Below.refl _ _) i (by have := HJ.out; omega)
          obtain ⟨q, hq⟩ : ∃ q, q = ps.getD i [] := ⟨_, rfl⟩
          have HQ := hid hq
          rw [← hq] at c1
          have hpos : (0 : Int) < (i : Int) + 1 := by omega
          have hneg : (0 : Int) ≤ (i : Int) := by omega
          have hilt : (i : Int) < (n : Int) := by omega
          have k0 : (0 : Int) ≤ (i : Int) + 1 := by omega
          have k1 : (i : Int) + 1 < (n : Int) := by omega
          clear hq i0 i1
          cases hless : Op.bytesLess q p with
          | true =>
            have HL := hid (show q < p by rw [bytesLess_eq] at hless; simpa using hless)
            have HG1 := hid (show Good ps (i + 1 + 1) from by
              refine ⟨fun a ha => ?_, fun a ha => ?_⟩
              · by_cases e : a = i + 1
                · rw [e, ← HPQ.out]; exact HNM.out
                · exact HG.out.names a (by omega)
              · by_cases e : a = i
                · rw [e, ← HPQ.out, ← HQ.out]; exact HL.out
                · exact HG.out.rise a (by omega))
            go_wp2_with fail
            go_quiet (first | exact Calls.quiet_of ((HU.out _).mono fun _ _ q => ⟨q.1, 0, q.2⟩))
            go_wp2
            go_roundw
            case rel => exact ⟨i + 1 + 1, by omega, by go_num, HG1, HB.out.1, below_drewN HB.out.2⟩
            case measure => simp [intOf]; omega
          | false =>
            have HL := hid (show ¬ q < p by rw [bytesLess_eq] at hless; simpa using hless)
            have HFIN := hid (show okActB k ps = false by
              cases qq : okActB k ps with
              | false => rfl
              | true =>
                rcases okActB_iff.1 qq with ⟨q1, _⟩ | ⟨_, q1⟩
                · exact absurd q1 hk
                · refine absurd ?_ HL.out
                  rw [HQ.out, HPQ.out]
                  exact rise_getD q1.2.2.2 HJ.out)
            go_wp2_with fail
            go_quiet (first | exact Calls.quiet_of ((HU.out _).mono fun _ _ q => ⟨q.1, 0, q.2⟩))
            go_wp2
            go_ret
            exact ⟨by rw [HFIN.out]; rfl, below_drewN HB.out.2⟩
    · have hI : ¬ ((j : Int) < (n : Int)) := by omega
      have hjn : j = n := by omega
      have HEQ := hid (show okActB k ps = ((k == 3 || k == 4) && decide ((1 : Int) ≤ (n : Int)) && decide ((n : Int) ≤ 64)) by
        have hg : Good ps ps.length := by rw [← HN.out, ← hjn]; exact HG.out
        have h1 : ps.all Wo.nameB = true := List.all_eq_true.2 fun x hx => by
          obtain ⟨i, hi, rfl⟩ := List.mem_iff_getElem.1 hx
          have := hg.names i hi
          simpa [List.getD_eq_getElem?_getD, List.getElem?_eq_getElem hi] using this
        have h2 : ps.Pairwise (· < ·) := rise_of_adj hg.rise
        have d1 : decide (1 ≤ ps.length) = decide ((1 : Int) ≤ (n : Int)) := decide_eq_decide.2 (by have := HN.out; omega)
        have d2 : decide (ps.length ≤ 64) = decide ((n : Int) ≤ 64) := decide_eq_decide.2 (by have := HN.out; omega)
        have dk : decide (k = 3 ∨ k = 4) = (k == 3 || k == 4) := by rw [Bool.decide_or]; rfl
        unfold okActB
        rw [decide_eq_false hk, h1, decide_eq_true h2, d1, d2, dk]
        cases (k == 3 || k == 4) <;> cases decide ((1 : Int) ≤ (n : Int)) <;> cases decide ((n : Int) ≤ 64) <;> rfl)
      by_cases q3 : k = 3
      · subst q3
        by_cases q5 : 1 ≤ n
        · have q5I : (1 : Int) ≤ (n : Int) := by omega
          by_cases q6 : n ≤ 64
          · have q6I : (n : Int) ≤ 64 := by omega
            go_wp2
            go_ret
            exact ⟨by rw [HEQ.out, decide_eq_true (show (1 : Int) ≤ (n : Int) by omega), decide_eq_true (show (n : Int) ≤ 64 by omega)]; rfl, HB.out.2⟩
          · have q6I : ¬ (n : Int) ≤ 64 := by omega
            go_wp2
            go_ret
            exact ⟨by rw [HEQ.out, decide_eq_true (show (1 : Int) ≤ (n : Int) by omega), decide_eq_false (show ¬ (n : Int) ≤ 64 by omega)]; rfl, HB.out.2⟩
        · have q5I : ¬ (1 : Int) ≤ (n : Int) := by omega
          go_wp2
          go_ret
          exact ⟨by rw [HEQ.out, decide_eq_false (show ¬ (1 : Int) ≤ (n : Int) by omega)]; rfl, HB.out.2⟩
      · have a3 : (k == 3) = false := by rw [beq_eq_false_iff_ne]; exact q3
        by_cases q4 : k = 4
        · subst q4
          by_cases q5 : 1 ≤ n
          · have q5I : (1 : Int) ≤ (n : Int) := by omega
            by_cases q6 : n ≤ 64
            · have q6I : (n : Int) ≤ 64 := by omega
              go_wp2
              go_ret
              exact ⟨by rw [HEQ.out, decide_eq_true (show (1 : Int) ≤ (n : Int) by omega), decide_eq_true (show (n : Int) ≤ 64 by omega)]; rfl, HB.out.2⟩
            · have q6I : ¬ (n : Int) ≤ 64 := by omega
              go_wp2
              go_ret
              exact ⟨by rw [HEQ.out, decide_eq_true (show (1 : Int) ≤ (n : Int) by omega), decide_eq_false (show ¬ (n : Int) ≤ 64 by omega)]; rfl, HB.out.2⟩
          · have q5I : ¬ (1 : Int) ≤ (n : Int) := by omega
            go_wp2
            go_ret
            exact ⟨by rw [HEQ.out, decide_eq_false (show ¬ (1 : Int) ≤ (n : Int) by omega)]; rfl, HB.out.2⟩
        · have a4 : (k == 4) = false := by rw [beq_eq_false_iff_ne]; exact q4
          go_wp2
          go_ret
          exact ⟨by rw [HEQ.out, a3, a4]; rfl, HB.out.2⟩

set_option maxRecDepth 4000 in
set_option maxHeartbeats 2000000 in
/-- The document's Check. -/
theorem RCheckN_any {w : World} {W p k : Int} {m : List UInt8} {v : Value} {ps : List (List UInt8)} (ht : Txs w v ps) (hz : ∀ p ∈ ps, p.length ≤ maxLen) (hn : ps.length ≤ maxLen) (hm : m.length ≤ maxLen) :
    Calls Tryz.prog 50 #[.agg #[.int .i64 p, .string (tx m), .int .i64 k, v], .int .i64 W] w fun en w' => en = .returned (.int .i64 (errR W ⟨p, m, k, ps⟩)) ∧ Below w.heap.size w w' := by
  have HT := hid ht
  obtain ⟨ao, cap, rfl, _⟩ := ht
  have BX := hid (show Below w.heap.size w (w.alloc (rob p (tx m) k (.slice ao ps.length cap))) from (Below.refl _ _).alloc (Nat.le_refl _) _)
  by_cases h1 : W < 1
  · rw [errR_arg (Or.inl (by omega))]
    go_enter Tryz.func50, Tryz.ntmps50
    go_wp2
    go_ret
    exact ⟨rfl, BX.out⟩
  by_cases h2 : 128 < W
  · rw [errR_arg (Or.inl (by omega))]
    go_enter Tryz.func50, Tryz.ntmps50
    go_wp2
    go_ret
    exact ⟨rfl, BX.out⟩
  by_cases hp0 : p < 0
  · rw [errR_arg (Or.inr (Or.inl hp0))]
    go_enter Tryz.func50, Tryz.ntmps50
    go_wp2
    go_ret
    exact ⟨rfl, BX.out⟩
  by_cases hp1 : 2147483647 < p
  · rw [errR_arg (Or.inr (Or.inr hp1))]
    go_enter Tryz.func50, Tryz.ntmps50
    go_wp2
    go_ret
    exact ⟨rfl, BX.out⟩
  have HA := hid (show ¬ (¬ (1 ≤ W ∧ W ≤ 128) ∨ p < 0 ∨ 2147483647 < p) by omega)
  have HCK := hid (fun w' => URight_any (tx m) w' (by rw [tx_size]; exact hm))
  rw [tx_list] at HCK
  by_cases hc : Cub.Cu.right m = true
  case neg =>
    rw [errR_cube HA.out hc]
    rw [show Cub.Cu.right m = false by simpa using hc] at HCK
    clear hc
    go_enter Tryz.func50, Tryz.ntmps50
    go_wp2_with fail
    refine (HCK.out _).mono ?_
    rintro en w2 ⟨rfl, rfl⟩
    go_wp2
    go_ret
    exact ⟨rfl, BX.out⟩
  rw [hc] at HCK
  have HM := hid hc
  clear hc
  by_cases hl : (m.length : Int) = W
  case neg =>
    have hne : ((m.length : Int) == W) = false := by rw [beq_eq_false_iff_ne]; exact hl
    rw [errR_width HA.out HM.out hl]
    clear hl
    go_enter Tryz.func50, Tryz.ntmps50
    go_wp2_with fail
    refine (HCK.out _).mono ?_
    rintro en w2 ⟨rfl, rfl⟩
    go_wp2
    go_ret
    exact ⟨rfl, BX.out⟩
  have HMB := hid (fun (w' : World) (hb : Below w.heap.size w w') => RRight_any (k := k) (HT.out.below hb) hz hn)
  have HE1 := hid (fun (h : okActB k ps = false) => errR_act (r := ⟨p, m, k, ps⟩) HA.out HM.out hl (fun q => by rw [okActB_iff.2 q] at h; cases h))
  have HE0 := hid (fun (h : okActB k ps = true) => (errR_ok (r := ⟨p, m, k, ps⟩) (W := W)).2 ⟨by have := HA.out; omega, by have := HA.out; show 0 ≤ p ∧ p ≤ _; omega, HM.out, hl, okActB_iff.1 h⟩)
  subst hl
  obtain ⟨er, her⟩ : ∃ er, er = errR (m.length : Int) ⟨p, m, k, ps⟩ := ⟨_, rfl⟩
  rw [← her] at HE0 HE1 ⊢
  obtain ⟨bv, hbv⟩ : ∃ bv, bv = okActB k ps := ⟨_, rfl⟩
  rw [← hbv] at HE0 HE1 HMB
  clear her hz hm hbv
  have hnn : ((m.length : Int) == (m.length : Int)) = true := by simp
  go_enter Tryz.func50, Tryz.ntmps50
  go_wp2_with fail
  refine (HCK.out _).mono ?_
  rintro en w2 ⟨rfl, rfl⟩
  go_wp2_with fail
  refine (HMB.out _ BX.out).mono ?_
  rintro en w3 ⟨rfl, hb3⟩
  have HB3 := hid (BX.out.trans (hb3.mono BX.out.size))
  clear hb3
  cases bv with
  | true =>
    have hee := HE0.out rfl
    subst hee
    go_wp2
    go_ret
    exact ⟨rfl, HB3.out⟩
  | false =>
    have hee := HE1.out rfl
    subst hee
    go_wp2
    go_ret
    exact ⟨rfl, HB3.out⟩
end Go.Proofs.YtipmlcdnfaobiaaGreat
namespace Go.Proofs.YtipmlcdnfaobiaaGreat
open Go.RowKit

set_option maxRecDepth 20000 in
set_option maxHeartbeats 2000000 in
/-- copies, of some rules. -/
theorem copies_some {w : World} {g o n cap : Nat} {ps : List (Raw × Value)} (h : RawView w g o ps) (hn : ps.length = n) (h60 : n ≤ 4096) (hs : ∀ q ∈ ps, Small q.1.mat q.1.ports) :
    Calls Tryz.prog 32 #[.slice (some ⟨g, o, none⟩) n cap] w fun e w' => ∃ ob qs L, Hid (OrdPost w n ps e w' ob qs L) := by
  have HO := hid (Order_some (cap := cap) h hn h60 hs)
  clear h hn hs
  go_enter Tryz.func32, Tryz.ntmps32
  go_wp2_with fail
  refine HO.out.mono ?_
  rintro en w2 ⟨ob, qs, L, hP⟩
  have HP := hid hP.out
  have he := hP.out.told
  subst he
  clear hP
  go_wp2
  go_ret
  exact ⟨ob, qs, L, HP⟩
theorem one_perm {ps : List (Raw × Value)} {q : Raw × Value} (_ : ps = [q]) {L : List Nat} (hL : Pc (cmpAt ps) 0 1 L) : L = [0] := by
  have := hL.perm
  simp at this
  exact this

set_option maxRecDepth 20000 in
set_option maxHeartbeats 2000000 in
theorem fcopyOf_any {w : World} {p k : Int} {m : List UInt8} {v : Value} {zs : List (List UInt8)} (ht : Txs w v zs) (hz : ∀ z ∈ zs, z.length ≤ maxLen) (hs : Small m zs) :
    Calls Tryz.prog 38 #[.agg #[.int .i64 p, .string (tx m), .int .i64 k, v]] w fun e w' => ∃ v', e = .returned (.agg #[.int .i64 p, .string (tx m), .int .i64 k, v']) ∧ Hid (Ported w' w.heap.size v' zs) ∧ Below w.heap.size w w' := by
  have HT := hid ht
  have HZ := hid hz
  have HS := hid hs
  obtain ⟨ao, cap, rfl, _⟩ := ht
  obtain ⟨n, hn⟩ : ∃ n, n = zs.length := ⟨_, rfl⟩
  have HN := hid hn
  rw [← hn] at HT ⊢
  clear hn hz hs
  obtain ⟨q, hq⟩ : ∃ q : Raw × Value, q = (⟨p, m, k, zs⟩, .slice ao n cap) := ⟨_, rfl⟩
  obtain ⟨W0, hW0⟩ : ∃ W0, W0 = ((w.alloc (rob p (tx m) k (.slice ao n cap))).alloc (rob 0 (tx []) 0 (.slice none 0 0))).alloc (rob p (tx m) k (.slice ao n cap)) := ⟨_, rfl⟩
  have HSZ := hid (show W0.heap.size = w.heap.size + 3 by rw [hW0]; simp)
  have HB0 := hid (show Below w.heap.size w W0 by rw [hW0]; exact (((Below.refl _ _).alloc (Nat.le_refl _) _).alloc (by simp) _).alloc (by simp; omega) _)
  have HR2 := hid (show W0.heap[w.heap.size + 1]? = some (rob 0 (tx []) 0 (.slice none 0 0)) by rw [hW0]; exact new_old _ _ (new_1 _ _ _))
  have HR3 := hid (show W0.heap[w.heap.size + 2]? = some (rob p (tx m) k (.slice ao n cap)) by rw [hW0]; have := new_0 ((w.alloc (rob p (tx m) k (.slice ao n cap))).alloc (rob 0 (tx []) 0 (.slice none 0 0))) (rob p (tx m) k (.slice ao n cap)); simpa using this)
  have HCP := hid (copies_some (w := W0) (g := w.heap.size + 2) (o := 0) (n := 1) (cap := 1) (ps := [q]) ⟨by rw [HSZ.out]; omega, fun i x hx => by
      have hi : i = 0 := by
        have := (List.getElem?_eq_some_iff.1 hx).1
        simp at this
        exact this
      subst hi
      have hx : q = x := by simpa using hx
      subst hx
      obtain ⟨b0, b1, b2, b3, _⟩ := rob_cells HR3.out
      rw [hq]
      exact ⟨by simpa using b0, by simpa using b1, by simpa using b2, by simpa using b3⟩, fun x hx => by
      rw [List.mem_singleton.1 hx, hq]
      exact ⟨HT.out.below HB0.out, HZ.out⟩⟩ rfl (by omega) (fun x hx => by rw [List.mem_singleton.1 hx, hq]; exact HS.out))
  go_enter Tryz.func38, Tryz.ntmps38
  go_wp2_with fail
  rw [← hW0]
  refine HCP.out.mono ?_
  rintro en w2 ⟨ob, qs, L, hP⟩
  have HP := hid hP.out
  have he := hP.out.told
  subst he
  have HL := hid (one_perm rfl hP.out.sorted)
  have hlen : qs.length = 1 := by
    have := congrArg List.length hP.out.same
    rw [HL.out] at this
    simpa using this
  obtain ⟨q2, hq2⟩ : ∃ q2, qs = [q2] := by
    match qs, hlen with
    | [q2], _ => exact ⟨q2, rfl⟩
  subst hq2
  have HE := hid (show q2.1 = ⟨p, m, k, zs⟩ by
    have := hP.out.same
    rw [HL.out] at this
    have : q2.1 = rawAt [q] 0 := by simpa using this
    rw [this, rawAt_some (q := q) rfl, hq])
  obtain ⟨c0, c1, c2, c3⟩ := hP.out.view.cell 0 q2 rfl
  rw [HE.out] at c0 c1 c2
  simp only [Nat.zero_mul, Nat.add_zero] at c0 c1 c2 c3
  have HPO := hid (hP.out.own q2 (List.mem_singleton.2 rfl))
  rw [HE.out] at HPO
  obtain ⟨ao2, cap2, hv2, _⟩ := HPO.out
  obtain ⟨q2r, q2v⟩ := q2
  simp only at hv2 c3 HPO HE
  subst hv2
  have HB2 := hid (HB0.out.trans (hP.out.low.mono HB0.out.size))
  have HR5 := hid (below_block hP.out.low HR2.out (by rw [HSZ.out]; omega))
  obtain ⟨d0, d1, d2, d3, f0, f1, f2, f3⟩ := rob_cells HR5.out
  rw [← HN.out] at c3
  clear hP hlen
  have B10 := rob_4 (rob_3 (rob_2 (rob_1 HR5.out p) (tx m)) k) (.slice ao2 n cap2)
  obtain ⟨n0, n1, n2, n3, _, _, _, _⟩ := rob_cells B10
  have HB10 := hid ((((HB2.out.setCell (p := ⟨w.heap.size + 1, 0, none⟩) (Nat.le_succ _) (.int .i64 p)).setCell (p := ⟨w.heap.size + 1, 1, none⟩) (Nat.le_succ _) (.string (tx m))).setCell (p := ⟨w.heap.size + 1, 2, none⟩) (Nat.le_succ _) (.int .i64 k)).setCell (p := ⟨w.heap.size + 1, 3, none⟩) (Nat.le_succ _) (.slice ao2 n cap2))
  have HPF := hid (show Ported ((((w2.setCell ⟨w.heap.size + 1, 0, none⟩ (.int .i64 p)).setCell ⟨w.heap.size + 1, 1, none⟩ (.string (tx m))).setCell ⟨w.heap.size + 1, 2, none⟩ (.int .i64 k)).setCell ⟨w.heap.size + 1, 3, none⟩ (.slice ao2 n cap2)) w.heap.size (.slice ao2 n cap2) zs from by
    have h5 := HR5.out
    have := ((((HPO.out.store (k := 0) (u := .int .i64 p) h5).store (k := 1) (u := .string (tx m)) (rob_1 h5 p)).store (k := 2) (u := .int .i64 k) (rob_2 (rob_1 h5 p) _)).store (k := 3) (u := .slice ao2 n cap2) (rob_3 (rob_2 (rob_1 h5 p) _) k))
    rw [← HN.out] at this
    exact this.mono (by rw [HSZ.out]; omega))
  clear B10
  go_wp2_with fail
  refine bodyPost_ret (v := .agg #[.int .i64 p, .string (tx m), .int .i64 k, .slice ao2 n cap2]) (by simp [results, Tryz.results38, go_sem, n0, n1, n2, n3]) rfl ⟨_, rfl, HPF.out, HB10.out⟩
end Go.Proofs.YtipmlcdnfaobiaaGreat
namespace Go.Proofs.YtipmlcdnfaobiaaGreat
open Go.RowKit

/-- A trial: its rules, its number and error, what undoes it. -/
abbrev tob (W : Int) (v : Value) (num er : Int) (u : Value) : Obj := .cells #[.int .i64 W, v, .int .i64 num, .int .i64 er, u] 76
/-- The cells of changes. -/
def flatC (us : List (Int × Raw × Value)) : List Value := us.flatMap fun u => [.int .i64 u.1, .int .i64 u.2.1.prio, .string (tx u.2.1.mat), .int .i64 u.2.1.kind, u.2.2]
structure TrAt (w : World) (B Bp D : Nat) (W num : Int) (v vu : Value) (ps : List (Raw × Value)) (us : List (Int × Raw × Value)) : Prop where
  blk : w.heap[D]? = some (tob W v num 0 vu)
  base : B ≤ D
  list : OwnR w B v ps
  ports : ∀ q ∈ ps, Ported w Bp q.2 q.1.ports
  und : w.ownsRow B 57 5 vu us.length (flatC us)
  uports : ∀ u ∈ us, Ported w Bp u.2.2 u.2.1.ports
/-- A trial that has given up: its number, its error. -/
def TrNo (w : World) (D : Nat) (num er : Int) : Prop := ∃ W v u, w.heap[D]? = some (tob W v num er u)
theorem ownC_kept {w w' : World} {B : Nat} {v : Value} {n : Nat} {xs : List Value} (h : w.ownsRow B 57 5 v n xs) (hb : Below w.heap.size w w') : w'.ownsRow B 57 5 v n xs := by
  obtain ⟨h1, h2⟩ := h
  refine ⟨h1, ?_⟩
  rcases h2 with h2 | ⟨g, cap, cur, e, hB, hh, r⟩
  · exact Or.inl h2
  · exact Or.inr ⟨g, cap, cur, e, hB, below_block hb hh (lt_of_block hh), r⟩
theorem TrAt.on {w w' : World} {B Bp D : Nat} {W num : Int} {v vu : Value} {ps : List (Raw × Value)} {us : List (Int × Raw × Value)} (h : TrAt w B Bp D W num v vu ps us) (hb : Below w.heap.size w w') : TrAt w' B Bp D W num v vu ps us :=
  ⟨below_block hb h.blk (lt_of_block h.blk), h.base, h.list.on hb, fun q hq => (h.ports q hq).on hb, ownC_kept h.und hb, fun u hu => (h.uports u hu).on hb⟩
theorem TrAt.lt {w : World} {B Bp D : Nat} {W num : Int} {v vu : Value} {ps : List (Raw × Value)} {us : List (Int × Raw × Value)} (h : TrAt w B Bp D W num v vu ps us) : D < w.heap.size := lt_of_block h.blk
theorem TrAt.cells {w : World} {B Bp D : Nat} {W num : Int} {v vu : Value} {ps : List (Raw × Value)} {us : List (Int × Raw × Value)} (h : TrAt w B Bp D W num v vu ps us) : w.cell? ⟨D, 0, none⟩ = some (.int .i64 W) ∧ w.cell? ⟨D, 1, none⟩ = some v ∧ w.cell? ⟨D, 2, none⟩ = some (.int .i64 num) ∧ w.cell? ⟨D, 3, none⟩ = some (.int .i64 0) ∧ w.cell? ⟨D, 4, none⟩ = some vu := by
  refine ⟨?_, ?_, ?_, ?_, ?_⟩ <;> · rw [cell_at h.blk]; rfl

set_option maxHeartbeats 1000000 in
theorem must_yes {w : World} {D : Nat} {er : Int} : Calls Tryz.prog 71 #[.pointer (some ⟨D, 0, none⟩), .bool true, .int .i64 er] w fun e w' => e = .returned (.tuple #[]) ∧ w' = w := by
  go_enter Tryz.func71, Tryz.ntmps71
  go_wp2
  exact bodyPost_end (v := .tuple #[]) (by simp [results, Tryz.results71, go_sem]) rfl ⟨rfl, rfl⟩
set_option maxHeartbeats 1000000 in
theorem must_no {w : World} {D : Nat} {W num e0 er : Int} {v u : Value} (h : w.heap[D]? = some (tob W v num e0 u)) : Calls Tryz.prog 71 #[.pointer (some ⟨D, 0, none⟩), .bool false, .int .i64 er] w fun e w' => e = .panicked (panE er) ∧ w' = w.setCell ⟨D, 3, none⟩ (.int .i64 er) := by
  have c3 : w.cell? ⟨D, 3, none⟩ = some (.int .i64 e0) := by rw [cell_at h]; rfl
  have f3 : w.frozen? ⟨D, 3, none⟩ = false := free_of h
  clear h
  go_enter Tryz.func71, Tryz.ntmps71
  go_wp2
  exact ⟨rfl, rfl, rfl⟩
/-- must: it goes on, or gives up. -/
def MustPost (w : World) (B D : Nat) (num : Int) (ok : Bool) (er : Int) (e : Ending) (w' : World) : Prop := (ok = true ∧ e = .returned (.tuple #[]) ∧ w' = w) ∨ (ok = false ∧ e = .panicked (panE er) ∧ TrNo w' D num er ∧ Below B w w')
theorem must_any {w : World} {B D : Nat} {W num e0 er : Int} {v u : Value} (ok : Bool) (h : w.heap[D]? = some (tob W v num e0 u)) (hB : B ≤ D) : Calls Tryz.prog 71 #[.pointer (some ⟨D, 0, none⟩), .bool ok, .int .i64 er] w fun e w' => MustPost w B D num ok er e w' := by
  cases ok with
  | true => exact must_yes.mono fun _ _ q => Or.inl ⟨rfl, q.1, q.2⟩
  | false => exact (must_no h).mono fun _ _ q => Or.inr ⟨rfl, q.1, ⟨W, v, u, by rw [q.2, block_set (o := 3) _ h]; rfl⟩, by rw [q.2]; exact (Below.refl _ _).setCell hB _⟩

set_option maxRecDepth 20000 in
set_option maxHeartbeats 2000000 in
theorem lcheck_any {w : World} {B Bp D : Nat} {W num p k : Int} {m : List UInt8} {v vu rv : Value} {zs : List (List UInt8)} {ps : List (Raw × Value)} {us : List (Int × Raw × Value)} (h : TrAt w B Bp D W num v vu ps us) (hB : B ≤ w.heap.size) (ht : Txs w rv zs) (hz : ∀ p ∈ zs, p.length ≤ maxLen) :
    Calls Tryz.prog 91 #[.pointer (some ⟨D, 0, none⟩), .agg #[.int .i64 p, .string (tx m), .int .i64 k, rv]] w fun e w' => (errR W ⟨p, m, k, zs⟩ = 0 ∧ e = .returned (.tuple #[]) ∧ Below w.heap.size w w') ∨ (errR W ⟨p, m, k, zs⟩ ≠ 0 ∧ e = .panicked (panE (errR W ⟨p, m, k, zs⟩)) ∧ TrNo w' D num (errR W ⟨p, m, k, zs⟩) ∧ Below B w w') := by
  have HT := hid ht
  have H := hid h
  obtain ⟨ao, cap, rfl, _⟩ := ht
  obtain ⟨n, hn⟩ : ∃ n, n = zs.length := ⟨_, rfl⟩
  have HN := hid hn
  have HC := hid (fun (W' : World) (hW : Below w.heap.size w W') => CheckN_any (W := W) (p := p) (k := k) (m := m) (HT.out.below hW) hz)
  obtain ⟨er, her⟩ : ∃ er, er = errR W ⟨p, m, k, zs⟩ := ⟨_, rfl⟩
  rw [← her] at HC ⊢
  rw [← hn] at HC ⊢
  have HER := hid her
  have HB := hid (show Below w.heap.size w (w.alloc (rob p (tx m) k (.slice ao n cap))) from (Below.refl _ _).alloc (Nat.le_refl _) _)
  have HTA := hid (h.on HB.out)
  have c0 : (w.alloc (rob p (tx m) k (.slice ao n cap))).cell? ⟨D, 0, none⟩ = some (.int .i64 W) := HTA.out.cells.1
  obtain ⟨b0, b1, b2, b3, _, _, _, _⟩ := rob_cells (new_0 w (rob p (tx m) k (.slice ao n cap)))
  have HO := hid (new_0 w (rob p (tx m) k (.slice ao n cap)))
  clear hn her hz h
  go_enter Tryz.func91, Tryz.ntmps91
  go_wp2_with fail
  go_region_held2 (fun W' => W'.cell? ⟨D, 0, none⟩ = some (.int .i64 W) ∧ W'.cell? ⟨w.heap.size, 0, none⟩ = some (.int .i64 p) ∧ W'.cell? ⟨w.heap.size, 1, none⟩ = some (.string (tx m)) ∧ W'.cell? ⟨w.heap.size, 2, none⟩ = some (.int .i64 k) ∧ W'.cell? ⟨w.heap.size, 3, none⟩ = some (.slice ao n cap)) (first | exact ⟨c0, b0, b1, b2, b3⟩ | exact hS2) (first | (go_at_call 114; refine (HC.out _ (by first | exact HB.out | exact HB.out.drew)).mono ?_; rintro en w2 ⟨rfl, hb2⟩; have B2 := hid (show Below (w.alloc (rob p (tx m) k (.slice ao n cap))).heap.size (w.alloc (rob p (tx m) k (.slice ao n cap))) w2 by (first | exact hb2 | exact undrew hb2)); have hS2 := And.intro ((B2.out.cell (block_old c0)).trans c0) (And.intro ((B2.out.cell (block_old b0)).trans b0) (And.intro ((B2.out.cell (block_old b1)).trans b1) (And.intro ((B2.out.cell (block_old b2)).trans b2) ((B2.out.cell (block_old b3)).trans b3)))); clear hb2))
  have HT2 := hid (HTA.out.on B2.out)
  have HB2 := hid (below_2 HB.out B2.out)
  have HMU := hid (must_any (B := B) (D := D) (num := num) (er := er) (er == 0) HT2.out.blk HT2.out.base)
  clear hS2 c0 b0 b1 b2 b3
  go_wp2_with fail
  refine HMU.out.mono ?_
  rintro en w3 (⟨h1, rfl, hw3⟩ | ⟨h1, rfl, h2, h3⟩)
  · have hw3' := hw3.symm
    clear hw3
    subst hw3'
    go_wp2
    refine bodyPost_end (v := .tuple #[]) (by simp [results, Tryz.results91, go_sem]) rfl (Or.inl ⟨by simpa using h1, rfl, HB2.out⟩)
  · exact ⟨rfl, Or.inr ⟨by simpa using h1, rfl, h2, (HB2.out.mono hB).trans h3⟩⟩
end Go.Proofs.YtipmlcdnfaobiaaGreat
namespace Go.Proofs.YtipmlcdnfaobiaaGreat
open Go.RowKit

/-- What is neither a trial nor a row of changes stays. -/
structure KeepT (w w' : World) : Prop where
  size : w.heap.size ≤ w'.heap.size
  kept : ∀ (b : Nat) (cs : Array Value) (t : TypeId) (r : Nat × Nat), w.heap[b]? = some (.cells cs t r) → t ≠ 76 → t ≠ 57 → w'.heap[b]? = some (.cells cs t r)
theorem OwnR.keep {w w' : World} {B : Nat} {v : Value} {ps : List (Raw × Value)} (h : OwnR w B v ps) (hk : KeepT w w') : OwnR w' B v ps := by
  refine ⟨⟨h.own.1, ?_⟩, h.vals⟩
  rcases h.own.2 with q | ⟨g, cap, cur, e, hB, hh, r⟩
  · exact Or.inl q
  · exact Or.inr ⟨g, cap, cur, e, hB, hk.kept _ _ _ _ hh (by decide) (by decide), r⟩
theorem Ported.keep {w w' : World} {B : Nat} {v : Value} {zs : List (List UInt8)} (h : Ported w B v zs) (hk : KeepT w w') : Ported w' B v zs := by
  obtain ⟨ao, cap, e1, e2, q | ⟨b, e3, e4, cs, e5, e6⟩⟩ := h
  · exact ⟨ao, cap, e1, e2, Or.inl q⟩
  · exact ⟨ao, cap, e1, e2, Or.inr ⟨b, e3, e4, cs, hk.kept _ _ _ _ e5 (by decide) (by decide), e6⟩⟩
theorem undrewG {w w1 : World} {r : Option Nat} (h : w.drew.grownBy w1 r) : w.grownBy w1 r := ⟨h.os, h.tape, h.output, h.size, h.block⟩
theorem Tryz.infoChange : (Tryz.prog.info? 57).map (fun i => (i.zero, i.size, i.bytes)) = some (some (.agg #[.int .i64 0, .int .i64 0, .string (tx []), .int .i64 0, .slice none 0 0]), 5, 64) := by kernel_rfl
theorem ownC_form {w : World} {B : Nat} {v : Value} {n : Nat} {xs : List Value} (h : w.ownsRow B 57 5 v n xs) : ∃ ao c, v = .slice ao n c := by
  rcases h.2 with ⟨e, h0⟩ | ⟨g, cap, cur, e, _⟩
  · exact ⟨none, 0, by rw [e, h0]⟩
  · exact ⟨_, _, e⟩
theorem own_blockC {w : World} {B : Nat} {v : Value} {n : Nat} {xs : List Value} (h : w.ownsRow B 57 5 v n xs) : ∀ k, v.ownBlock = some k → B ≤ k ∧ ∃ cs, w.heap[k]? = some (.cells cs 57 (0, 0)) := by
  intro k hk
  rcases h.2 with ⟨e, h0⟩ | ⟨g, cap, cur, e, hB, hh, _⟩
  · rw [e] at hk; cases hk
  · rw [e] at hk
    have : g = k := by simpa [Value.ownBlock] using hk
    subst this
    exact ⟨hB, cur, hh⟩

set_option maxRecDepth 20000 in
set_option maxHeartbeats 4000000 in
theorem undoneBy_any {w : World} {B Bp D : Nat} {W num k : Int} {v vu rv : Value} {r : Raw} {ps : List (Raw × Value)} {us : List (Int × Raw × Value)} (h : TrAt w B Bp D W num v vu ps us) (hB : B ≤ w.heap.size) (hu : (us.length + 1) * 64 ≤ 140737488355328) (hp : Ported w Bp rv r.ports) :
    Calls Tryz.prog 94 #[.pointer (some ⟨D, 0, none⟩), .int .i64 k, .agg #[.int .i64 r.prio, .string (tx r.mat), .int .i64 r.kind, rv]] w fun e w' => e = .returned (.tuple #[]) ∧ ∃ vu', Hid (TrAt w' B Bp D W num v vu' ps (us ++ [(k, r, rv)]) ∧ KeepT w w' ∧ Below B w w') := by
  have mixed := Tryz.mixed
  have H := hid h
  have HP := hid hp
  obtain ⟨ao, c, hvu⟩ := ownC_form h.und
  obtain ⟨po, pc, hrv, _⟩ := hp
  obtain ⟨zn, hzn⟩ : ∃ zn, zn = r.ports.length := ⟨_, rfl⟩
  have HZN := hid hzn
  rw [← hzn] at hrv
  subst hvu hrv
  obtain ⟨un, hun⟩ : ∃ un, un = us.length := ⟨_, rfl⟩
  have HUN := hid hun
  rw [← hun] at hu H
  obtain ⟨p, m, kk, zs⟩ := r
  simp only at HP HZN ⊢
  obtain ⟨i0, hi, hz0, hz1, hz2⟩ := info_parts Tryz.infoChange
  have HI := hid hi
  have HZ0 := hid hz0
  have HZ1 := hid hz1
  have HZ2 := hid hz2
  have HDB := hid (new_old w (rob p (tx m) kk (.slice po zn pc)) H.out.blk)
  have hDs := lt_of_block H.out.blk
  obtain ⟨W1, hW1⟩ : ∃ W1, W1 = w.alloc (rob p (tx m) kk (.slice po zn pc)) := ⟨_, rfl⟩
  have HB1 := hid (show Below w.heap.size w W1 by rw [hW1]; exact (Below.refl _ _).alloc (Nat.le_refl _) _)
  have HH := hid (H.out.on HB1.out)
  have c4 : W1.cell? ⟨D, 4, none⟩ = some (.slice ao un c) := HH.out.cells.2.2.2.2
  have HRB := hid (show W1.heap[w.heap.size]? = some (rob p (tx m) kk (.slice po zn pc)) by rw [hW1]; exact new_0 _ _)
  obtain ⟨b0, b1, b2, b3, _, _, _, _⟩ := rob_cells HRB.out
  have HSZ1 := hid (show W1.heap.size = w.heap.size + 1 by rw [hW1]; simp)
  -- the block of the new change
  obtain ⟨nb, hnb⟩ : ∃ nb : Obj, nb = .cells #[.int .i64 k, .int .i64 p, .string (tx m), .int .i64 kk, .slice po zn pc] 57 := ⟨_, rfl⟩
  have HOWN := hid (show (W1.alloc nb).ownsRow B 57 5 (.slice ao un c) un (flatC us) from ownC_kept (HUN.out ▸ HH.out.und) ((Below.refl _ _).alloc (Nat.le_refl _) _))
  have HNEW := hid (show (W1.alloc nb).heap[w.heap.size + 1]? = some (.cells #[.int .i64 k, .int .i64 p, .string (tx m), .int .i64 kk, .slice po zn pc] 57 (0, 0)) by rw [hW1, ← hnb]; exact new_1 _ _ _)
  have KT := hid (show ∀ w4, (W1.alloc nb).grownBy w4 (Value.slice ao un c).ownBlock → w4.heap[D]? = some (tob W v num 0 (.slice ao un c)) ∧ KeepT w w4 ∧ Below B w w4 from fun w4 hg => by
    have hob := own_blockC HOWN.out
    have hne : some D ≠ (Value.slice ao un c).ownBlock := fun e => by
      obtain ⟨_, cs, hcs⟩ := hob D e.symm
      have h1 := new_old W1 nb HH.out.blk
      rw [h1] at hcs
      cases hcs
    have hs1 : w.heap.size ≤ (W1.alloc nb).heap.size := by simp [HSZ1.out]; omega
    refine ⟨?_, ⟨Nat.le_trans hs1 hg.size, fun b cs t r hb h1 h2 => ?_⟩, ?_⟩
    · rw [hg.block D (by have := lt_of_block H.out.blk; omega) hne]
      exact new_old W1 nb HH.out.blk
    · have hb1 := new_old W1 nb (below_block HB1.out hb (lt_of_block hb))
      rw [hg.block b (lt_of_block hb1) (fun e => by
        obtain ⟨_, cs', hcs⟩ := hob b e.symm
        rw [hb1] at hcs
        cases hcs
        exact h2 rfl)]
      exact hb1
    · exact ((HB1.out.mono hB).alloc (by rw [HSZ1.out]; omega) _).grown hg (by simp [HSZ1.out]; omega) (fun q hq => (hob q hq).1))
  have HFIN := hid (show ∀ (g cap : Nat) (w4 : World), w4.ownsRow B 57 5 (.slice (some ⟨g, 0, none⟩) (un + 1) cap) (un + 1) (flatC us ++ [.int .i64 k, .int .i64 p, .string (tx m), .int .i64 kk, .slice po zn pc]) → (W1.alloc nb).grownBy w4 (Value.slice ao un c).ownBlock → TrAt (w4.setCell ⟨D, 4, none⟩ (.slice (some ⟨g, 0, none⟩) (un + 1) cap)) B Bp D W num v (.slice (some ⟨g, 0, none⟩) (un + 1) cap) ps (us ++ [(k, ⟨p, m, kk, zs⟩, .slice po zn pc)]) ∧ KeepT w (w4.setCell ⟨D, 4, none⟩ (.slice (some ⟨g, 0, none⟩) (un + 1) cap)) ∧ Below B w (w4.setCell ⟨D, 4, none⟩ (.slice (some ⟨g, 0, none⟩) (un + 1) cap)) from fun g cap w4 ho hg => by
    obtain ⟨k1, k2, k3⟩ := KT.out w4 hg
    have hk : KeepT w (w4.setCell ⟨D, 4, none⟩ (.slice (some ⟨g, 0, none⟩) (un + 1) cap)) := ⟨by rw [World.size_setCell]; exact k2.size, fun b cs t r hb h1 h2 => block_other _ (k2.kept b cs t r hb h1 h2) (fun e => by
      rw [e, H.out.blk] at hb
      cases hb
      exact h1 rfl)⟩
    have hgD : g ≠ D := fun e => by
      rcases ho.2 with ⟨q, _⟩ | ⟨g', _, cur, q, _, hh, _⟩
      · cases q
      · injection q with q1 _ _
        injection q1 with q1
        injection q1 with q1 _ _
        rw [← q1, e, k1] at hh
        cases hh
    refine ⟨⟨by rw [block_set (o := 4) _ k1]; rfl, H.out.base, H.out.list.keep hk, fun q hq => (H.out.ports q hq).keep hk, ?_, fun u hu => ?_⟩, hk, k3.setCell (by exact H.out.base) _⟩
    · have e : flatC (us ++ [(k, (⟨p, m, kk, zs⟩ : Raw), Value.slice po zn pc)]) = flatC us ++ [.int .i64 k, .int .i64 p, .string (tx m), .int .i64 kk, .slice po zn pc] := by simp [flatC]
      rw [e, List.length_append, List.length_singleton, ← HUN.out]
      refine ⟨ho.1, ?_⟩
      rcases ho.2 with q | ⟨g', cap', cur, q, hB', hh, r⟩
      · exact Or.inl q
      · refine Or.inr ⟨g', cap', cur, q, hB', block_other _ hh ?_, r⟩
        injection q with q1 _ _
        injection q1 with q1
        injection q1 with q1 _ _
        rw [← q1]; exact hgD
    · rcases List.mem_append.1 hu with hu | hu
      · exact (H.out.uports u hu).keep hk
      · rw [List.mem_singleton.1 hu]
        exact HP.out.keep hk)
  clear h hi hz0 hz1 hz2 hun hzn
  go_enter Tryz.func94, Tryz.ntmps94
  go_wp2_with fail
  subst hW1
  subst hnb
  go_region_law (first | (refine step_append_lies _ rfl (.tmp 10) (.tmp 14) 22 rfl B 57 i0 _ 5 64 Tryz.underlying22 HI.out HZ0.out HZ1.out HZ2.out rfl (by decide) (.slice ao un c) un (flatC us) rfl (by exact HOWN.out) ⟨w.heap.size + 1, 0, none⟩ 1 1 [.int .i64 k, .int .i64 p, .string (tx m), .int .i64 kk, .slice po zn pc] rfl rfl (by exact World.news_of_block HNEW.out) (by simp [Value.oneCell']) (by decide) (by unfold maxLen; omega) (by omega) (by simp; omega) _ rfl ?_; intro g4 cap4 w4 hown4 hgrow0 hat4 hlt4; have hgrow4 := undrewG hgrow0; have HF4 := hid (HFIN.out g4 cap4 w4 hown4 hgrow4); have q4 : w4.cell? ⟨D, 4, none⟩ = some (.slice ao un c) := (by rw [cell_at (KT.out w4 hgrow4).1]; rfl); have f4 : w4.frozen? ⟨D, 4, none⟩ = false := free_of (KT.out w4 hgrow4).1; clear hown4 hgrow4 hgrow0 hat4 hlt4))
  all_goals go_wp2
  all_goals exact bodyPost_end (v := .tuple #[]) (by simp [results, Tryz.results94, go_sem]) rfl ⟨rfl, _, HF4⟩
end Go.Proofs.YtipmlcdnfaobiaaGreat
namespace Go.Proofs.YtipmlcdnfaobiaaGreat
open Go.RowKit

/-- Why a rule has no place. -/
def placeE (W : Int) (L : List Raw) (r : Raw) : Int := if errR W r = 0 then (if L.any (fun a => keyB a r) = true then 0 else 60) else errR W r

set_option maxRecDepth 20000 in
set_option maxHeartbeats 4000000 in
theorem place_any {w : World} {B Bp D : Nat} {W num p k : Int} {m : List UInt8} {v vu rv : Value} {zs : List (List UInt8)} {ps : List (Raw × Value)} {us : List (Int × Raw × Value)} (h : TrAt w B Bp D W num v vu ps us) (hB : B ≤ w.heap.size) (hg : GoodT W (ps.map Prod.fst)) (ht : Txs w rv zs) (hz : ∀ p ∈ zs, p.length ≤ maxLen) :
    Calls Tryz.prog 95 #[.pointer (some ⟨D, 0, none⟩), .agg #[.int .i64 p, .string (tx m), .int .i64 k, rv]] w fun e w' => (placeE W (ps.map Prod.fst) ⟨p, m, k, zs⟩ = 0 ∧ ∃ j : Nat, e = .returned (.int .i64 (j : Int)) ∧ Hid (PlaceAt (ps.map Prod.fst) ⟨p, m, k, zs⟩ j ∧ Below w.heap.size w w')) ∨ (placeE W (ps.map Prod.fst) ⟨p, m, k, zs⟩ ≠ 0 ∧ e = .panicked (panE (placeE W (ps.map Prod.fst) ⟨p, m, k, zs⟩)) ∧ TrNo w' D num (placeE W (ps.map Prod.fst) ⟨p, m, k, zs⟩) ∧ Below B w w') := by
  have HT := hid ht
  have H := hid h
  have HG := hid hg
  have HZ := hid hz
  obtain ⟨ao, cap, rfl, _⟩ := ht
  obtain ⟨n, hn⟩ : ∃ n, n = zs.length := ⟨_, rfl⟩
  rw [← hn] at HT ⊢
  have HB := hid (show Below w.heap.size w (w.alloc (rob p (tx m) k (.slice ao n cap))) from (Below.refl _ _).alloc (Nat.le_refl _) _)
  have HTA := hid (h.on HB.out)
  have HO := hid (new_0 w (rob p (tx m) k (.slice ao n cap)))
  obtain ⟨b0, b1, b2, b3, _, _, _, _⟩ := rob_cells HO.out
  have HCK := hid (lcheck_any (p := p) (k := k) (m := m) HTA.out (Nat.le_trans hB HB.out.size) (HT.out.below HB.out) HZ.out)
  have HPE := hid (show ∀ b, ((ps.map Prod.fst).any fun a => keyB a ⟨p, m, k, zs⟩) = b → errR W ⟨p, m, k, zs⟩ = 0 → placeE W (ps.map Prod.fst) ⟨p, m, k, zs⟩ = if b = true then 0 else 60 from fun b hb he => by unfold placeE; rw [if_pos he, hb])
  have HPX := hid (show errR W ⟨p, m, k, zs⟩ ≠ 0 → placeE W (ps.map Prod.fst) ⟨p, m, k, zs⟩ = errR W ⟨p, m, k, zs⟩ from fun he => by unfold placeE; rw [if_neg he])
  clear hn h hz hg
  go_enter Tryz.func95, Tryz.ntmps95
  go_wp2_with fail
  refine HCK.out.mono ?_
  rintro en w2 (⟨he, rfl, hb2⟩ | ⟨he, rfl, h2, h3⟩)
  rotate_left
  · refine ⟨rfl, Or.inr ?_⟩
    rw [HPX.out he]
    exact ⟨he, rfl, h2, (HB.out.mono hB).trans h3⟩
  have B2 := hid hb2
  have HTB := hid (HTA.out.on hb2)
  have HO2 := hid (below_block hb2 HO.out (lt_of_block HO.out))
  have HBW := hid (below_2 HB.out hb2)
  obtain ⟨d0, d1, d2, d3, _, _, _, _⟩ := rob_cells HO2.out
  have HFI := hid (fun (W' : World) (hW : Below w2.heap.size w2 W') => find_any (p := p) (k := k) (m := m) (bo := ao) (lb := n) (cb := cap) (zs := zs) ((HTB.out.on hW).cells.2.1) ((HTB.out.on hW).list) HG.out.srt (by have := HG.out.few; simpa using this))
  obtain ⟨tb, htb⟩ : ∃ tb, ((ps.map Prod.fst).any fun a => keyB a ⟨p, m, k, zs⟩) = tb := ⟨_, rfl⟩
  have HTBB := hid htb
  rw [htb] at HFI
  have HP0 := hid (HPE.out tb htb he)
  clear hb2 b0 b1 b2 b3 htb he
  go_wp2_with fail
  go_region_held2 (fun W' => W'.cell? ⟨w.heap.size, 0, none⟩ = some (.int .i64 p) ∧ W'.cell? ⟨w.heap.size, 1, none⟩ = some (.string (tx m)) ∧ W'.cell? ⟨w.heap.size, 2, none⟩ = some (.int .i64 k) ∧ W'.cell? ⟨w.heap.size, 3, none⟩ = some (.slice ao n cap)) (first | exact ⟨d0, d1, d2, d3⟩ | exact hS2) (first | (go_at_call 92; refine (HFI.out _ (by first | exact Below.refl _ _ | exact (Below.refl _ _).drew)).mono ?_; rintro en w3 ⟨j, rfl, hj3⟩; have B3 := hid (show Below w2.heap.size w2 w3 by (first | exact hj3.out.2 | exact undrew hj3.out.2)); have HPL := hid hj3.out.1; have hS2 := And.intro ((B3.out.cell (block_old d0)).trans d0) (And.intro ((B3.out.cell (block_old d1)).trans d1) (And.intro ((B3.out.cell (block_old d2)).trans d2) ((B3.out.cell (block_old d3)).trans d3))); clear hj3))
  have HT3 := hid (HTB.out.on B3.out)
  have HB3 := hid (below_2 HBW.out B3.out)
  have HMU := hid (must_any (B := B) (D := D) (num := num) (er := 60) tb HT3.out.blk HT3.out.base)
  clear hS2 d0 d1 d2 d3
  go_wp2_with fail
  refine HMU.out.mono ?_
  rintro en w4 (⟨h1, rfl, hw4⟩ | ⟨h1, rfl, h2, h3⟩)
  · have hw4' := hw4.symm
    clear hw4
    subst hw4'
    have HPZ := hid (show placeE W (ps.map Prod.fst) ⟨p, m, k, zs⟩ = 0 by rw [HP0.out, h1]; rfl)
    clear h1
    go_wp2
    go_ret
    exact Or.inl ⟨HPZ.out, j, rfl, HPL.out, HB3.out⟩
  · have HPZ : placeE W (ps.map Prod.fst) ⟨p, m, k, zs⟩ = 60 := by rw [HP0.out, h1]; rfl
    refine ⟨rfl, Or.inr ?_⟩
    rw [HPZ]
    exact ⟨by decide, rfl, h2, (HB3.out.mono hB).trans h3⟩
end Go.Proofs.YtipmlcdnfaobiaaGreat
