/-
  VectorPartial's law.
-/
import Derived.Test.YtibbbjikehkbmaaDoorGOrdM
import Derived.Test.YtibbbjikehkbmaaDoorGRChk
import Derived.Test.YtibbbjikehkbmaaDoorGSame
import Derived.Test.YtibbbjikehkbmaaDoorGAwake
namespace Go.Proofs.YtibbbjikehkbmaaDoor.Ve
open Go.RowKit

/-- A row of three vectors that was just laid. -/
theorem vecs_three {w : World} {va vb vc : Value} {a b c : List St} {t : TypeId} {n : Nat} (hn : n = w.heap.size) (ha : VecV w va a) (hb : VecV w vb b) (hc : VecV w vc c) : VecsV (w.alloc (.cells #[va, vb, vc] t)) (.slice (some ⟨n, 0, none⟩) 3 3) [a, b, c] := by
  subst hn
  refine ⟨some ⟨w.heap.size, 0, none⟩, 3, rfl, Nat.le_refl _, fun q => (by cases q), Or.inr ⟨w.heap.size, 0, rfl, by simp, fun j l hj => ?_⟩⟩
  rcases j with _ | _ | _ | j
  · have : a = l := by simpa using hj
    subst this
    exact ⟨va, cell_news 0, ha.below (below_al _ _)⟩
  · have : b = l := by simpa using hj
    subst this
    exact ⟨vb, cell_news 1, hb.below (below_al _ _)⟩
  · have : c = l := by simpa using hj
    subst this
    exact ⟨vc, cell_news 2, hc.below (below_al _ _)⟩
  · simp at hj
set_option maxRecDepth 20000 in
set_option maxHeartbeats 4000000 in
theorem vpartial_any {w : World} {va vb vc : Value} {a b c : List St} (ha : VecV w va a) (hb : VecV w vb b) (hc : VecV w vc c) (la : a.length ≤ maxLen) (lb : b.length ≤ maxLen) (lc : c.length ≤ maxLen) :
    Calls Tryd.prog 8 #[va, vb, vc] w fun e w' => e = .returned (.bool true) ∧ Below w.heap.size w w' := by
  have HA := hid ha
  have HB := hid hb
  have HC := hid hc
  have B1 := hid (fun W (hb : Below w.heap.size w W) => Below_any (ha.below hb) (HB.out.below hb) la lb)
  have B2 := hid (fun W (hb : Below w.heap.size w W) => Below_any (HB.out.below hb) (HA.out.below hb) lb la)
  have B3 := hid (fun W (hb : Below w.heap.size w W) => Below_any (HB.out.below hb) (HC.out.below hb) lb lc)
  have B4 := hid (fun W (hb : Below w.heap.size w W) => Below_any (HA.out.below hb) (HC.out.below hb) la lc)
  have B5 := hid (fun W (hb : Below w.heap.size w W) => Below_any (HA.out.below hb) (HA.out.below hb) la la)
  have HS := hid (fun W (hb : Below w.heap.size w W) => RSame_any (HA.out.below hb) (HB.out.below hb) la lb)
  have HCK := hid (fun W t (hb : Below w.heap.size w W) => RCheck_any (vecs_three (t := t) (n := W.heap.size) rfl (HA.out.below hb) (HB.out.below hb) (HC.out.below hb)) (by simp [maxLen]) (fun l hl => by simp at hl; rcases hl with rfl | rfl | rfl <;> assumption))
  obtain ⟨ao, ca, rfl, -, -, -⟩ := ha
  obtain ⟨bo, cb, rfl, -, -, -⟩ := hb
  obtain ⟨co, cc, rfl, -, -, -⟩ := hc
  obtain ⟨n, hn⟩ : ∃ n, n = a.length := ⟨_, rfl⟩
  obtain ⟨m, hm⟩ : ∃ m, m = b.length := ⟨_, rfl⟩
  obtain ⟨k, hk⟩ : ∃ k, k = c.length := ⟨_, rfl⟩
  rw [← hn, ← hm, ← hk]
  rw [← hn, ← hm] at B1 B2 HS
  rw [← hm, ← hk] at B3
  rw [← hn, ← hk] at B4
  rw [← hn] at B5
  rw [← hn, ← hm, ← hk] at HCK
  clear hn hm hk la lb lc HA HB HC
  have HW := hid (awake_any w)
  by_cases hall : Right a ∧ Right b ∧ Right c
  · obtain ⟨ra, rb, rc⟩ := hall
    rw [belP_ok ra rb] at B1
    rw [belP_ok rb ra] at B2
    rw [belP_ok rb rc] at B3
    rw [belP_ok ra rc] at B4
    rw [belP_ok ra ra, belB2_refl ra] at B5
    have HT := hid (fun (h1 : belB2 a b = true) (h2 : belB2 b c = true) => belB2_trans ra rb rc h1 h2)
    have HN := hid (fun (h1 : belB2 a b = true) (h2 : belB2 b a = true) => belB2_anti ra rb h1 h2)
    obtain ⟨x, hx⟩ : ∃ x, x = belB2 a b := ⟨_, rfl⟩
    obtain ⟨y, hy⟩ : ∃ y, y = belB2 b a := ⟨_, rfl⟩
    obtain ⟨z, hz⟩ : ∃ z, z = belB2 b c := ⟨_, rfl⟩
    obtain ⟨u, hu⟩ : ∃ u, u = belB2 a c := ⟨_, rfl⟩
    rw [← hx] at B1 HT HN
    rw [← hy] at B2 HN
    rw [← hz] at B3 HT
    rw [← hu] at B4 HT
    clear hx hy hz hu ra rb rc HCK
    go_enter Tryd.func8, Tryd.ntmps8
    go_wp2_with fail
    refine HW.out.mono ?_
    rintro e w0 ⟨rfl, hb0⟩
    have H0 := hid hb0
    clear hb0
    go_wp2_with fail
    refine (B1.out _ H0.out).mono ?_
    rintro e w1 ⟨rfl, hb⟩
    have H1 := hid (below_tr H0.out hb)
    clear hb
    go_wp2_with fail
    refine (B2.out _ H1.out).mono ?_
    rintro e w2 ⟨rfl, hb⟩
    have H2 := hid (below_tr H1.out hb)
    clear hb
    go_wp2_with fail
    refine (B3.out _ H2.out).mono ?_
    rintro e w3 ⟨rfl, hb⟩
    have H3 := hid (below_tr H2.out hb)
    clear hb
    go_wp2_with fail
    refine (B4.out _ H3.out).mono ?_
    rintro e w4 ⟨rfl, hb⟩
    have H4 := hid (below_tr H3.out hb)
    clear hb
    go_wp2_with fail
    refine (B5.out _ H4.out).mono ?_
    rintro e w5 ⟨rfl, hb⟩
    have H5 := hid (below_tr H4.out hb)
    clear hb
    have HSM := hid (HS.out _ H5.out)
    simp only
    rcases bool_two x with e1 | e1
    · subst e1
      go_wp2
      go_ret
      exact ⟨by rfl, H5.out⟩
    · subst e1
      have HT2 := hid (HT.out rfl)
      have HN2 := hid (HN.out rfl)
      rcases bool_two y with e2 | e2
      · subst e2
        rcases bool_two z with e3 | e3
        · subst e3
          go_wp2
          go_ret
          exact ⟨by rfl, H5.out⟩
        · have e4 := HT2.out e3
          subst e3 e4
          go_wp2
          go_ret
          exact ⟨by rfl, H5.out⟩
      · subst e2
        have hab : decide (a = b) = true := decide_eq_true (HN2.out rfl)
        rw [hab] at HSM
        rcases bool_two z with e3 | e3
        · subst e3
          go_wp2_with (first | (go_at_call 13; refine HSM.out.mono ?_; rintro e w6 ⟨rfl, hd⟩; have H6 := hid (below_tr H5.out (drew_below hd)); clear hd))
          go_ret
          exact ⟨by rfl, H6.out⟩
        · have e4 := HT2.out e3
          subst e3 e4
          go_wp2_with (first | (go_at_call 13; refine HSM.out.mono ?_; rintro e w6 ⟨rfl, hd⟩; have H6 := hid (below_tr H5.out (drew_below hd)); clear hd))
          go_ret
          exact ⟨by rfl, H6.out⟩
  · rw [chk3_bad hall] at HCK
    by_cases hab : Right a ∧ Right b
    · have hbc : ¬ (Right b ∧ Right c) := fun q => hall ⟨hab.1, hab.2, q.2⟩
      rw [belP_ok hab.1 hab.2] at B1
      rw [belP_ok hab.2 hab.1] at B2
      rw [belP_bad hbc] at B3
      obtain ⟨⟨x4, y4⟩, e4⟩ : ∃ q, q = belP a c := ⟨_, rfl⟩
      obtain ⟨⟨x5, y5⟩, e5⟩ : ∃ q, q = belP a a := ⟨_, rfl⟩
      rw [← e4] at B4
      rw [← e5] at B5
      obtain ⟨x1, e1⟩ : ∃ q, q = belB2 a b := ⟨_, rfl⟩
      obtain ⟨x2, e2⟩ : ∃ q, q = belB2 b a := ⟨_, rfl⟩
      rw [← e1] at B1
      rw [← e2] at B2
      clear e1 e2 e4 e5 hab hbc hall
      go_enter Tryd.func8, Tryd.ntmps8
      go_wp2_with fail
      refine HW.out.mono ?_
      rintro e w0 ⟨rfl, hb0⟩
      have H0 := hid hb0
      clear hb0
      go_wp2_with fail
      refine (B1.out _ H0.out).mono ?_
      rintro e w1 ⟨rfl, hb⟩
      have H1 := hid (below_tr H0.out hb)
      clear hb
      go_wp2_with fail
      refine (B2.out _ H1.out).mono ?_
      rintro e w2 ⟨rfl, hb⟩
      have H2 := hid (below_tr H1.out hb)
      clear hb
      go_wp2_with fail
      refine (B3.out _ H2.out).mono ?_
      rintro e w3 ⟨rfl, hb⟩
      have H3 := hid (below_tr H2.out hb)
      clear hb
      go_wp2_with fail
      refine (B4.out _ H3.out).mono ?_
      rintro e w4 ⟨rfl, hb⟩
      have H4 := hid (below_tr H3.out hb)
      clear hb
      go_wp2_with fail
      refine (B5.out _ H4.out).mono ?_
      rintro e w5 ⟨rfl, hb⟩
      have H5 := hid (below_tr H4.out hb)
      clear hb
      go_wp2_with fail
      refine (HCK.out _ _ H5.out).mono ?_
      rintro e w6 ⟨rfl, hd⟩
      have H6 := hid (below_tr (H5.out.alloc H5.out.size _) (drew_below hd))
      clear hd
      go_wp2
      go_ret
      exact ⟨by rfl, H6.out⟩
    · have hba : ¬ (Right b ∧ Right a) := fun q => hab ⟨q.2, q.1⟩
      rw [belP_bad hab] at B1
      rw [belP_bad hba] at B2
      obtain ⟨⟨x3, y3⟩, e3⟩ : ∃ q, q = belP b c := ⟨_, rfl⟩
      obtain ⟨⟨x4, y4⟩, e4⟩ : ∃ q, q = belP a c := ⟨_, rfl⟩
      obtain ⟨⟨x5, y5⟩, e5⟩ : ∃ q, q = belP a a := ⟨_, rfl⟩
      rw [← e3] at B3
      rw [← e4] at B4
      rw [← e5] at B5
      clear e3 e4 e5 hab hba hall
      go_enter Tryd.func8, Tryd.ntmps8
      go_wp2_with fail
      refine HW.out.mono ?_
      rintro e w0 ⟨rfl, hb0⟩
      have H0 := hid hb0
      clear hb0
      go_wp2_with fail
      refine (B1.out _ H0.out).mono ?_
      rintro e w1 ⟨rfl, hb⟩
      have H1 := hid (below_tr H0.out hb)
      clear hb
      go_wp2_with fail
      refine (B2.out _ H1.out).mono ?_
      rintro e w2 ⟨rfl, hb⟩
      have H2 := hid (below_tr H1.out hb)
      clear hb
      go_wp2_with fail
      refine (B3.out _ H2.out).mono ?_
      rintro e w3 ⟨rfl, hb⟩
      have H3 := hid (below_tr H2.out hb)
      clear hb
      go_wp2_with fail
      refine (B4.out _ H3.out).mono ?_
      rintro e w4 ⟨rfl, hb⟩
      have H4 := hid (below_tr H3.out hb)
      clear hb
      go_wp2_with fail
      refine (B5.out _ H4.out).mono ?_
      rintro e w5 ⟨rfl, hb⟩
      have H5 := hid (below_tr H4.out hb)
      clear hb
      go_wp2_with fail
      refine (HCK.out _ _ H5.out).mono ?_
      rintro e w6 ⟨rfl, hd⟩
      have H6 := hid (below_tr (H5.out.alloc H5.out.size _) (drew_below hd))
      clear hd
      go_wp2
      go_ret
      exact ⟨by rfl, H6.out⟩
end Go.Proofs.YtibbbjikehkbmaaDoor.Ve
