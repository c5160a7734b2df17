/-
  Proved: for every row of rules the law RulesOrders answers true (of its first 60 rules: both Ahead agree of each two that stand side by side, Order tells the document's order of them, and Order of that is itself), and leaves its argument as it was. Conditions: the tables of Go's library and of the program start as the program's text lays them (the card's tie); none on the rules (the form's own reach bounds how long a text or a list that comes in is).
  The law RulesOrders: which rule stands ahead, and rules in a table's order.
-/
import Derived.Test.YthkhlhghbdbopaaGreatDoorUDocPAnd
import Derived.Test.YthkhlhghbdbopaaGreatDoorRows
import Derived.Test.YthkhlhghbdbopaaGreatDoorCards
import Derived.Test.YthkhlhghbdbopaaGreatDoorTie
import Derived.Test.YthkhlhghbdbopaaGreatDoorUCopyAnd
import Derived.WalkKit
import Derived.ProofKit
import Derived.OpenShut
import Derived.ShutString
import Derived.Lay
import Derived.LaidOnce
import Derived.SevenTiedAt
import Derived.LaidSub
import Derived.MakeChecks
namespace Go.Proofs.YthkhlhghbdbopaaGreatDoor
open Go.RowKit

theorem rowOf_fst {ps : List (Raw × Value)} {S : List Nat} : (rowOf ps S).map Prod.fst = S.map (rawAt ps) := by
  unfold rowOf
  rw [List.map_map]
  refine List.map_congr_left fun i _ => ?_
  unfold rawAt
  simp only [Function.comp, List.getD_eq_getElem?_getD]
  cases ps[i]? <;> rfl
/-- What rises by the comparing stays so. -/
theorem order_again {ps qs : List (Raw × Value)} {L M : List Nat} (h : Pc (cmpAt ps) 0 ps.length L) (hq : qs.map Prod.fst = L.map (rawAt ps)) (hM : Pc (cmpAt qs) 0 qs.length M) : M.map (rawAt qs) = qs.map Prod.fst := by
  have hlen : qs.length = ps.length := by
    have := congrArg List.length hq
    rw [List.length_map, List.length_map] at this
    have := h.len
    omega
  have hat : ∀ i (hi : i < L.length), rawAt qs i = rawAt ps L[i] := fun i hi => by
    have := congrArg (fun l => l[i]?) hq
    simp only [List.getElem?_map] at this
    have hi2 : i < qs.length := by have := h.len; omega
    rw [List.getElem?_eq_getElem hi2, List.getElem?_eq_getElem hi] at this
    simp only [Option.map_some, Option.some.injEq] at this
    rw [rawAt_some (List.getElem?_eq_getElem hi2)]
    exact this
  have up : St.Up (cmpAt qs) (List.range' 0 qs.length) := by
    unfold St.Up
    rw [List.pairwise_iff_getElem]
    intro i j hi hj hij
    simp only [List.length_range'] at hi hj
    simp only [List.getElem_range', Nat.zero_add, Nat.one_mul]
    have hiL : i < L.length := by have := h.len; omega
    have hjL : j < L.length := by have := h.len; omega
    have hu := List.pairwise_iff_getElem.1 h.up i j hiL hjL hij
    have m1 := h.mem (List.getElem_mem hiL)
    have m2 := h.mem (List.getElem_mem hjL)
    have e : cmpAt qs i j = cmpAt ps L[i] L[j] := by
      rw [cmpAt_raw hi hj, cmpAt_raw (by omega) (by omega), hat i hiL, hat j hjL]
    rcases hu with q | ⟨q, _⟩
    · exact Or.inl (by rw [e]; exact q)
    · exact Or.inr ⟨by rw [e]; exact q, hij⟩
  have : M = List.range' 0 qs.length := (ord_rules qs).one (fun x hx => by have := hM.mem hx; omega) hM.up up (by have := hM.perm; rw [Nat.sub_zero] at this; exact this)
  rw [this, range_raw]

theorem HORD_one {ps : List (Raw × Value)} {L S : List Nat} (h : Pc (cmpAt ps) 0 ps.length L) (hp : S.Perm (List.range' 0 ps.length)) (hu : St.Up (cmpAt ps) S) : L = S :=
  (ord_rules ps).one (fun x hx => by have := h.mem hx; omega) h.up hu (by have := h.perm; rw [Nat.sub_zero] at this; exact this.trans hp.symm)
theorem small_at {ps : List (Raw × Value)} (hs : ∀ q ∈ ps, Small q.1.mat q.1.ports) (y : Nat) : Small (rawAt ps y).mat (rawAt ps y).ports := by
  unfold rawAt
  cases hpy : ps[y]? with
  | none => exact ⟨by simp, by simp, fun z hz => by cases hz⟩
  | some q0 => exact hs q0 (List.mem_of_getElem? hpy)
theorem small_row {ps qs : List (Raw × Value)} {L : List Nat} (hs : ∀ q ∈ ps, Small q.1.mat q.1.ports) (h : qs.map Prod.fst = L.map (rawAt ps)) : ∀ q ∈ qs, Small q.1.mat q.1.ports := fun q hq => by
  have hm : q.1 ∈ qs.map Prod.fst := List.mem_map_of_mem hq
  rw [h] at hm
  obtain ⟨y, _, hy⟩ := List.mem_map.1 hm
  rw [← hy]
  exact small_at hs y
theorem small_len {qs : List (Raw × Value)} (h : ∀ q ∈ qs, Small q.1.mat q.1.ports) : ∀ q ∈ qs, q.1.ports.length ≤ maxLen := fun q hq => by
  have := (h q hq).2.1
  unfold maxLen
  omega
theorem RawView.on {w w' : World} {g o : Nat} {ps : List (Raw × Value)} (hv : RawView w g o ps) (hb : Below w.heap.size w w') : RawView w' g o ps :=
  ⟨Nat.lt_of_lt_of_le hv.old hb.size, fun i q hq => by
    obtain ⟨c0, c1, c2, c3⟩ := hv.cell i q hq
    exact ⟨(hb.cell (by exact hv.old)).trans c0, (hb.cell (by exact hv.old)).trans c1, (hb.cell (by exact hv.old)).trans c2, (hb.cell (by exact hv.old)).trans c3⟩, fun q hq => ⟨(hv.ports q hq).1.below hb, (hv.ports q hq).2⟩⟩

set_option maxRecDepth 20000 in
set_option maxHeartbeats 4000000 in
theorem rord_some {w : World} {g o len cap n : Nat} {ps : List (Raw × Value)} (hF : ∀ w', Calls Tryz.prog 6 #[.slice (some ⟨g, o, none⟩) len cap] w' fun e w'' => e = .returned (.slice (some ⟨g, o, none⟩) n cap) ∧ w'' = w') (h : RawView w g o ps) (hn : ps.length = n) (h0 : 0 < n) (h60 : n ≤ 60) (hs : ∀ q ∈ ps, Small q.1.mat q.1.ports) :
    Calls Tryz.prog 3 #[.slice (some ⟨g, o, none⟩) len cap] w fun e w' => e = .returned (.bool true) ∧ Below w.heap.size w w' := by
  have HF := hid hF
  have H := hid h
  have HN := hid hn
  have HS := hid hs
  have hg := h.old
  have HV := hid (show ∀ W, Below w.heap.size w W → RawView W g o ps from fun W hW => ⟨Nat.lt_of_lt_of_le hg hW.size, fun i q hq => by
    obtain ⟨c0, c1, c2, c3⟩ := h.cell i q hq
    exact ⟨(hW.cell (by exact hg)).trans c0, (hW.cell (by exact hg)).trans c1, (hW.cell (by exact hg)).trans c2, (hW.cell (by exact hg)).trans c3⟩, fun q hq => ⟨(h.ports q hq).1.below hW, (h.ports q hq).2⟩⟩)
  have HPV := hid (show ∀ q ∈ ps, ∃ ao n c, q.2 = .slice ao n c from fun q hq => by obtain ⟨ao, c, e, _⟩ := (h.ports q hq).1; exact ⟨ao, _, c, e⟩)
  clear hF h hn hs
  go_enter Tryz.func3, Tryz.ntmps3
  go_wp2_with fail
  refine (HF.out _).mono ?_
  rintro en w1 ⟨rfl, hww⟩
  have hw1 := hww.symm
  clear hww
  subst hw1
  go_wp2_with fail
  go_loopw [3] (fun vi wr => ∃ j : Nat, 1 ≤ j ∧ j ≤ n ∧ vi = .int .i64 j ∧ Hid (Below w.heap.size w wr)) (fun vi _ => n - (intOf vi).toNat)
  case atStart => exact ⟨1, Nat.le_refl _, h0, by first | rfl | go_num, Below.refl _ _⟩
  case round =>
    obtain ⟨j, h1j, hj, rfl, HB⟩ := hrel
    by_cases hlt : j < n
    · obtain ⟨t, htj⟩ : ∃ t, j = t + 1 := ⟨j - 1, by omega⟩
      have HTJ := hid htj
      obtain ⟨q, hq⟩ : ∃ q, ps[j]? = some q := ⟨ps[j]'(by rw [HN.out]; exact hlt), List.getElem?_eq_getElem _⟩
      obtain ⟨r, hr⟩ : ∃ r, ps[t]? = some r := ⟨ps[t]'(by rw [HN.out]; omega), List.getElem?_eq_getElem _⟩
      obtain ⟨e0, e1, e2, e3⟩ := (HV.out _ HB.out).cell j q hq
      obtain ⟨d0, d1, d2, d3⟩ := (HV.out _ HB.out).cell t r hr
      obtain ⟨ao, an, ac, hq2⟩ := HPV.out q (List.mem_of_getElem? hq)
      obtain ⟨ro, rn, rc, hr2⟩ := HPV.out r (List.mem_of_getElem? hr)
      obtain ⟨⟨pp, mm, kk, zz⟩, uv⟩ := q
      obtain ⟨⟨p', m', k', z'⟩, uv'⟩ := r
      simp only at e0 e1 e2 e3 d0 d1 d2 d3 hq2 hr2
      subst hq2 hr2
      have HAH := hid (fun W : World => Ahead_any (w := W) (p := p') (q := pp) (k := k') (l := kk) (m := m') (n := mm) (ao := ro) (bo := ao) (la := rn) (ca := rc) (lb := an) (cb := ac))
      have HRA := hid (fun W : World => RAhead_any (w := W) (p := p') (q := pp) (k := k') (l := kk) (m := m') (n := mm) (ao := ro) (bo := ao) (la := rn) (ca := rc) (lb := an) (cb := ac))
      obtain ⟨bv, hbv⟩ : ∃ bv, bv = aheadB p' pp m' mm := ⟨_, rfl⟩
      rw [← hbv] at HAH HRA
      have hne : (bv != bv) = false := by simp
      have hI : (j : Int) < (n : Int) := by omega
      have j0 : (0 : Int) ≤ (j : Int) := by omega
      have w1 : IntKind.i64.wrap ((j : Int) - 1) = (t : Int) := by rw [IntKind.wrap_i64]; omega
      have t0 : (0 : Int) ≤ (t : Int) := by omega
      have t1 : (t : Int) < (n : Int) := by omega
      have HCS : Hid (∀ W : World, Below wr.heap.size wr W → W.cell? ⟨g, o + j * 4, none⟩ = some (.int .i64 pp) ∧ W.cell? ⟨g, o + j * 4 + 1, none⟩ = some (.string (tx mm)) ∧ W.cell? ⟨g, o + j * 4 + 2, none⟩ = some (.int .i64 kk) ∧ W.cell? ⟨g, o + j * 4 + 3, none⟩ = some (.slice ao an ac) ∧ W.cell? ⟨g, o + t * 4, none⟩ = some (.int .i64 p') ∧ W.cell? ⟨g, o + t * 4 + 1, none⟩ = some (.string (tx m')) ∧ W.cell? ⟨g, o + t * 4 + 2, none⟩ = some (.int .i64 k') ∧ W.cell? ⟨g, o + t * 4 + 3, none⟩ = some (.slice ro rn rc)) := fun W hW =>
        ⟨(hW.cell (block_old e0)).trans e0, (hW.cell (block_old e1)).trans e1, (hW.cell (block_old e2)).trans e2, (hW.cell (block_old e3)).trans e3, (hW.cell (block_old d0)).trans d0, (hW.cell (block_old d1)).trans d1, (hW.cell (block_old d2)).trans d2, (hW.cell (block_old d3)).trans d3⟩
      have hS0 := HCS.out wr (Below.refl _ _)
      clear e0 e1 e2 e3 d0 d1 d2 d3 hq hr htj hbv
      go_wp2_with fail
      go_region_held2 (fun W => W.cell? ⟨g, o + j * 4, none⟩ = some (.int .i64 pp) ∧ W.cell? ⟨g, o + j * 4 + 1, none⟩ = some (.string (tx mm)) ∧ W.cell? ⟨g, o + j * 4 + 2, none⟩ = some (.int .i64 kk) ∧ W.cell? ⟨g, o + j * 4 + 3, none⟩ = some (.slice ao an ac) ∧ W.cell? ⟨g, o + t * 4, none⟩ = some (.int .i64 p') ∧ W.cell? ⟨g, o + t * 4 + 1, none⟩ = some (.string (tx m')) ∧ W.cell? ⟨g, o + t * 4 + 2, none⟩ = some (.int .i64 k') ∧ W.cell? ⟨g, o + t * 4 + 3, none⟩ = some (.slice ro rn rc)) (first | exact hS0 | exact hS2 | exact hS3) (first | (go_at_call 7; refine (HAH.out _).mono ?_; rintro en w2 ⟨rfl, hb2⟩; have B2 := hid (show Below wr.heap.size wr w2 by (first | exact hb2 | exact undrew hb2 | exact below_two B3.out hb2)); have hS2 := HCS.out w2 B2.out; clear hb2) | (go_at_call 8; refine (HRA.out _).mono ?_; rintro en w3 ⟨rfl, hb3⟩; have B3 := hid (show Below wr.heap.size wr w3 by (first | exact hb3 | exact undrew hb3 | exact below_two B2.out hb3)); have hS3 := HCS.out w3 B3.out; clear hb3))
      all_goals (have HB2 := hid (HB.out.trans (B2.out.mono HB.out.size)))
      all_goals (have HB3 := hid (HB.out.trans (B3.out.mono HB.out.size)))
      all_goals (clear hS0 hS2 hS3)
      all_goals go_wp2
      all_goals go_roundw
      all_goals (first | exact ⟨j + 1, by omega, by omega, by go_num, HB2⟩ | exact ⟨j + 1, by omega, by omega, by go_num, HB3⟩ | (simp [intOf]; omega))
    · have hI : ¬ ((j : Int) < (n : Int)) := by omega
      rename World => wo
      have HO1 := hid (Order_some (cap := cap) (HV.out _ HB.out) HN.out (by omega) HS.out)
      go_wp2_with fail
      refine HO1.out.mono ?_
      rintro en w5 ⟨ob1, qs1, L1, hP1⟩
      have hen := hP1.out.told
      subst hen
      have HP1 := hid hP1.out
      clear hP1
      have B5 := hid (HB.out.trans (HP1.out.low.mono HB.out.size))
      have HO2 := hid (ROrder_some (cap := cap) (HV.out _ B5.out) HN.out (by omega))
      go_wp2_with fail
      refine HO2.out.mono ?_
      rintro en w6 ⟨bo, bc, S, rfl, hD⟩
      have HD := hid hD.out
      clear hD
      have B6 := hid (B5.out.trans (HD.out.low.mono B5.out.size))
      have HLS := hid (show L1 = S from HORD_one (HN.out ▸ HP1.out.sorted) (HN.out ▸ HD.out.perm) HD.out.up)
      have HL1 := hid (show qs1.length = n by have q := congrArg List.length HP1.out.same; rw [List.length_map, List.length_map] at q; have := HP1.out.sorted.len; omega)
      have HS1 := hid (small_row HS.out HP1.out.same)
      obtain ⟨g2, c2, hvb, hg2, _, hc2⟩ := own_view (rs := rowOf ps S) (by rw [rowOf_len, HD.out.len]; exact HD.out.own) (fun q => by have q1 := congrArg List.length q; rw [rowOf_len, HD.out.len] at q1; simp at q1; omega)
      rw [rowOf_len, HD.out.len] at hvb
      have HV2 := hid (show RawView w6 g2 0 (rowOf ps S) from own_raw hg2 hc2 (fun q hq => by
        obtain ⟨i, hi, rfl⟩ := List.mem_map.1 hq
        have hin := HD.out.mem hi
        have hip : i < ps.length := by rw [HN.out]; exact hin
        have e : ps.getD i (⟨0, [], 0, []⟩, .slice none 0 0) = ps[i] := by simp [List.getD_eq_getElem?_getD, List.getElem?_eq_getElem hip]
        rw [e]
        exact (HV.out _ B6.out).ports _ (List.getElem_mem hip)))
      have hbo : bo = some ⟨g2, 0, none⟩ := by injection hvb
      subst hbo
      clear hvb hc2
      have HSR1 := hid (SameRules_rr n bc n (HP1.out.view.on HD.out.low) (small_len HS1.out) HV2.out HL1.out (by rw [rowOf_len, HD.out.len]) (by rw [HP1.out.same, rowOf_fst, HLS.out]) (by omega))
      go_wp2_with fail
      refine HSR1.out.mono ?_
      rintro en w7 ⟨rfl, hb7⟩
      have B7 := hid (below_two B6.out hb7)
      have HV7 := hid ((HP1.out.view.on HD.out.low).on hb7)
      clear hb7
      have HO3 := hid (Order_some (cap := n) HV7.out HL1.out (by omega) HS1.out)
      go_wp2_with fail
      refine HO3.out.mono ?_
      rintro en w8 ⟨ob3, qs3, L3, hP3⟩
      have hen := hP3.out.told
      subst hen
      have HP3 := hid hP3.out
      clear hP3
      have B8 := hid (B7.out.trans (HP3.out.low.mono B7.out.size))
      have HEQ := hid (show qs3.map Prod.fst = qs1.map Prod.fst by
        rw [HP3.out.same]
        exact order_again (HN.out ▸ HP1.out.sorted) HP1.out.same (by have := HP3.out.sorted; rw [HL1.out]; exact this))
      have HL3 := hid (show qs3.length = n by have q := congrArg List.length HEQ.out; rw [List.length_map, List.length_map] at q; have := HL1.out; omega)
      have HSR2 := hid (SameRules_rr n n n HP3.out.view (small_len (small_row HS1.out HP3.out.same)) (HV7.out.on HP3.out.low) HL3.out HL1.out HEQ.out (by omega))
      go_wp2_with fail
      refine HSR2.out.mono ?_
      rintro en w9 ⟨rfl, hb9⟩
      have B9 := hid (below_two B8.out hb9)
      clear hb9
      go_wp2_with (first | (go_at_call 12; refine (ualive _).mono ?_; rintro e wz ⟨rfl, hbz⟩))
      go_ret
      exact ⟨rfl, below_two B9.out hbz⟩

set_option maxRecDepth 20000 in
set_option maxHeartbeats 2000000 in
theorem ROrder_none {w : World} {ao : Option Addr} {cap : Nat} : Calls Tryz.prog 11 #[.slice ao 0 cap] w fun e w' => e = .returned (.slice none 0 0) ∧ Below w.heap.size w w' := by
  go_enter Tryz.func11, Tryz.ntmps11
  go_wp2_with fail
  refine wp_loop_rounds 1 ?_
  rw [rounds_succ]
  go_wp2
  go_ret
  exact ⟨rfl, Below.refl _ _⟩

set_option maxRecDepth 20000 in
set_option maxHeartbeats 2000000 in
theorem rord_none {w : World} {ao : Option Addr} {len cap : Nat} (hF : ∀ w', Calls Tryz.prog 6 #[.slice ao len cap] w' fun e w'' => e = .returned (.slice ao 0 cap) ∧ w'' = w') :
    Calls Tryz.prog 3 #[.slice ao len cap] w fun e w' => e = .returned (.bool true) ∧ Below w.heap.size w w' := by
  have HF := hid hF
  clear hF
  go_enter Tryz.func3, Tryz.ntmps3
  go_wp2_with fail
  refine (HF.out _).mono ?_
  rintro en w1 ⟨rfl, hww⟩
  have hw1 := hww.symm
  clear hww
  subst hw1
  go_wp2_with fail
  refine wp_loop_rounds 1 ?_
  rw [rounds_succ]
  go_wp2_with fail
  refine Order_none.mono ?_
  rintro en w2 ⟨o1, rfl, hb2⟩
  have B2 := hid hb2
  clear hb2
  go_wp2_with fail
  refine ROrder_none.mono ?_
  rintro en w3 ⟨rfl, hb3⟩
  have B3 := hid (below_two B2.out hb3)
  clear hb3
  go_wp2_with fail
  refine (SameRules_none _ _ _ _ _).mono ?_
  rintro en w4 ⟨rfl, hb4⟩
  have B4 := hid (below_two B3.out hb4)
  clear hb4
  go_wp2_with fail
  refine Order_none.mono ?_
  rintro en w5 ⟨o2, rfl, hb5⟩
  have B5 := hid (below_two B4.out hb5)
  clear hb5
  go_wp2_with fail
  refine (SameRules_none _ _ _ _ _).mono ?_
  rintro en w6 ⟨rfl, hb6⟩
  have B6 := hid (below_two B5.out hb6)
  clear hb6
  go_wp2_with (first | (go_at_call 12; refine (ualive _).mono ?_; rintro e w9 ⟨rfl, hb9⟩))
  go_ret
  exact ⟨rfl, below_two B6.out hb9⟩

theorem rord_any {w : World} {ao : Option Addr} {len cap : Nat} {ps : List (Raw × Value)} (h : RawIn w ao ps) (hl : ps.length = len) (hc : len ≤ cap) (hs : ∀ q ∈ ps, Small q.1.mat q.1.ports) :
    Calls Tryz.prog 3 #[.slice ao len cap] w fun e w' => e = .returned (.bool true) ∧ Below w.heap.size w w' := by
  have hF : ∀ w', Calls Tryz.prog 6 #[.slice ao len cap] w' fun e w'' => e = .returned (.slice ao (min len 60) cap) ∧ w'' = w' := fun w' => few_any ao len cap w' hc (by
    rcases h.at_ with rfl | ⟨g, o, e, _⟩
    · exact Or.inl (by simpa using hl.symm)
    · exact Or.inr ⟨g, o, e⟩)
  have hln : (ps.take 60).length = min len 60 := by rw [List.length_take, hl]; omega
  by_cases h0 : min len 60 = 0
  · rw [h0] at hF
    exact rord_none hF
  · rcases (h.take 60).at_ with q | ⟨g, o, rfl, hv⟩
    · rw [q] at hln; simp at hln; omega
    · exact rord_some hF hv hln (by omega) (by omega) (fun q hq => hs q (List.mem_of_mem_take hq))
end Go.Proofs.YthkhlhghbdbopaaGreatDoor
namespace Go.Proofs.YthkhlhghbdbopaaGreatDoor
open Go.ChangeShapes Go.WideShapes Go.ChangeAt Go.RowKit
open Go.ChangeMaps (open_string shut_string)

theorem UCOrd.laidOut : laidOutB Tryz.prog = true := by kernel_rfl
theorem UCOrd.own : ownKnob Tryz.prog.godebug = none := by kernel_rfl

set_option maxRecDepth 100000 in
theorem UCOrd.lifted (os : Os) (started : os.Started) (H : Type) (enc : TypeId × Value → H) :
    ReturnsInHanded {} Tryz.checked os 3 .any (fun w args => (Rows.rulesOrdersSpec.pre enc Tryz.prog Tryz.f3 [] false w args ∧ laidMetH Tryz.prog Rows.rulesOrdersRow.laid w) ∧ sizedMet enc Tryz.prog Tryz.f3 (OpenSpec.ofChange Rows.rulesOrdersSpec) false w args)
      (Rows.rulesOrdersSpec.post enc Tryz.prog Tryz.f3 false true false false) := by
  refine returnsInHanded_of_change_and (C := Tryz.checked) (X := fun w _ => laidMetH Tryz.prog Rows.rulesOrdersRow.laid w) (fun _ _ _ hh h => h.of_heap hh) UCOrd.own started (by kernel_rfl) Tryz.func3
    (ChangeSpec.witness_shaped (enc := enc) (C := Tryz.checked) (os := os) (X := fun w _ => laidMetH Tryz.prog Rows.rulesOrdersRow.laid w) false (World.laidAll Tryz.prog os Rows.rulesOrdersRow.laid) #[.slice none 0 0] 8 (World.laidAll_os _ _ _)
      (World.shaped_of_ZipB (by kernel_rfl) (by kernel_rfl)) (by kernel_rfl) (by kernel_rfl) (by kernel_rfl)
      (by rw [MakeChecks.laidMetH_plain _ _ _ (by kernel_rfl)]; exact laidMet_laidAll _ (by kernel_rfl) (by kernel_rfl))) ?_
  intro W base args ds gs before hval0 hW _ hsz hL _
  have hval : ∀ (j : Nat) t v, Tryz.f3.params[j]? = some t → args[j]? = some v → Value.okWide Tryz.prog W .any base t v := hval0
  have hW' := hW
  obtain ⟨p, q, hA0, hV, rfl, _, _⟩ := hW
  have hA : DataW.TrodAll enc Tryz.prog W 0 (fun _ => true) true Tryz.f3.params.toList args.toList ds p := hA0
  rw [Tryz.params3] at hA hval
  obtain ⟨v0, vs0, d0, ds0, p0, q0, hargs, rfl, rfl, h0, r0⟩ := trodAll_cons hA
  obtain ⟨rfl, rfl, rfl⟩ := trodAll_nil r0
  obtain rfl : args = #[v0] := by cases args; simp_all
  obtain ⟨rfl, rfl⟩ := trodVars_none hV
  obtain ⟨a0, len0, cap0, rfl⟩ := okWide_slice Tryz.underlying22 (hval 0 22 v0 rfl rfl)
  have k0 := h0
  have lt0 : ∀ x ∈ p0, x.block < W.heap.size := by obtain ⟨m, hm⟩ := k0; exact DataW.trod_lt m _ _ _ hm
  have hwt : ∀ k ∈ d0.weights Tryz.prog 22, k ≤ reachBytes := fun k hk => of_decide_eq_true (List.all_eq_true.1 hsz k (DataW.weights_mem_each (j := 0) (t := 22) (d := d0) (by rw [Tryz.params3]; rfl) rfl k hk))
  obtain ⟨ps, hin, hlen, hcap, hsm⟩ : ∃ ps : List (Raw × Value), RawIn W a0 ps ∧ ps.length = len0 ∧ len0 ≤ cap0 ∧ ∀ q ∈ ps, Small q.1.mat q.1.ports := by
    obtain ⟨fuel, hf⟩ := h0
    exact open_rules_s hf hwt
  simp only [List.append_nil] at hW'
  refine (rord_any hin hlen hcap hsm).mono fun e W' ⟨he, hb⟩ => ?_
  subst he
  exact ⟨_, rfl, _, _, _, [], _, [], hW', trodAll_mk1 (shut_bool Tryz.underlying4 _), (trodAll_cons_mk (Below.trod UCOrd.laidOut (by kernel_rfl) (of_decide_eq_true (by kernel_rfl)) k0 hb lt0) trodAll_mk0), rfl, hb.frame _, fun h => by cases h⟩

theorem UCOrd.holds : Rows.RulesOrdersSaid :=
  OpenClaim.holds_of_wide 3 Tryz.f3 rfl rfl rfl rfl rfl rfl rfl ⟨rfl, rfl, rfl, rfl, rfl⟩ rfl rfl rfl rfl rfl (by kernel_rfl) Tryz.func3 (by kernel_rfl)
    (of_decide_eq_true (by kernel_rfl)) (by unfold Func.isWrapper; first | (rw [if_pos (by decide +kernel)]; kernel_rfl) | (rw [if_neg (by decide +kernel)]; exact ⟨rfl, rfl⟩))
    (fun os started H enc _ => UCOrd.lifted os started H enc)

theorem RulesOrders_holds : Rows.RulesOrdersCardSaid :=
  Claim7.holds_tied_plain_at .later [] [.data, .data, .data, .data, .pinned] true (true, "b0a315f59fc0743909b682b900e69c82b8ed1172bb6c296d9bcf7b52c07b9d02") false UCOrd.holds (fun _ h => by cases h) (by kernel_rfl) (fun _ h => by cases h) rulesOrders_row_tie rfl ⟨rfl, rfl⟩ (by kernel_rfl) rfl
    (fun f fn hf hfn => by
      obtain rfl : f = 3 := Option.some.inj ((show Tryz.prog.funcNamed "milestone/milestonelaw05.RulesOrders" = some 3 by kernel_rfl).symm.trans hf) |>.symm
      obtain rfl : fn = Tryz.f3 := (Option.some.inj (Tryz.func3.symm.trans hfn)).symm
      exact ⟨by kernel_rfl, fun j t ht => by
        rw [Tryz.params3] at ht
        have hm : t ∈ [22] := by simpa using Array.mem_of_getElem? ht
        have hall : ([22].all fun u => !Tryz.prog.wantsStandIn u) = true := by kernel_rfl
        exact (show Tryz.prog.wantsStandIn t = false by simpa using List.all_eq_true.1 hall t hm)⟩)
    (by kernel_rfl)
#print axioms RulesOrders_holds
end Go.Proofs.YthkhlhghbdbopaaGreatDoor
