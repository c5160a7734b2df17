/-
  VectorLeast's law.
-/
import Derived.Test.YtibbbjikehkbmaaDoorGLPar
namespace Go.Proofs.YtibbbjikehkbmaaDoor.Ve
open Go.RowKit

theorem joinP_ok {a b : List St} (ha : Right a) (hb : Right b) : joinP [a, b] = (joinS (a ++ b), 0) := by
  have h : [a, b].flatten = a ++ b := by simp
  unfold joinP
  rw [if_pos (chkN_ok (fun l hl => by simp at hl; rcases hl with rfl | rfl <;> assumption)), h]
theorem joinP_bad {a b : List St} (h : ¬ (Right a ∧ Right b)) : joinP [a, b] = ([], 160) := by
  have h1 : chkN [a, b] = 160 := by
    unfold chkN
    rw [if_neg (fun q => h ⟨q a (by simp), q b (by simp)⟩)]
  unfold joinP
  rw [h1, if_neg (by decide)]
theorem right_max {l : List St} (h : Right l) : l.length ≤ maxLen := by have := right_len h; unfold maxLen; omega
set_option maxRecDepth 20000 in
set_option maxHeartbeats 4000000 in
theorem vleast_any {w : World} {va vb vc : Value} {a b c : List St} (ha : VecV w va a) (hb : VecV w vb b) (hc : VecV w vc c) (la : a.length ≤ maxLen) (lb : b.length ≤ maxLen) (lc : c.length ≤ maxLen) :
    Calls Tryd.prog 7 #[va, vb, vc] w fun e w' => e = .returned (.bool true) ∧ Below w.heap.size w w' := by
  have HA := hid ha
  have HB := hid hb
  have HC := hid hc
  have JN := hid (fun W t (hb : Below w.heap.size w W) => Join_any (vecs_two (t := t) (n := W.heap.size) rfl (HA.out.below hb) (HB.out.below hb)) (by simp [maxLen]) (fun l hl => by simp at hl; rcases hl with rfl | rfl <;> assumption))
  have B1 := hid (fun W (hb : Below w.heap.size w W) => Below_any (HA.out.below hb) (HC.out.below hb) la lc)
  have B2 := hid (fun W (hb : Below w.heap.size w W) => Below_any (HB.out.below hb) (HC.out.below hb) lb lc)
  have HCK := hid (fun W t (hb : Below w.heap.size w W) => RCheck_any (vecs_three (t := t) (n := W.heap.size) rfl (HA.out.below hb) (HB.out.below hb) (HC.out.below hb)) (by simp [maxLen]) (fun l hl => by simp at hl; rcases hl with rfl | rfl | rfl <;> assumption))
  have B3 := hid (fun W (v : Value) (j : List St) (hb : Below w.heap.size w W) (hj : VecV W v j) (lj : j.length ≤ maxLen) => Below_any (HA.out.below hb) hj la lj)
  have B4 := hid (fun W (v : Value) (j : List St) (hb : Below w.heap.size w W) (hj : VecV W v j) (lj : j.length ≤ maxLen) => Below_any (HB.out.below hb) hj lb lj)
  have B5 := hid (fun W (v : Value) (j : List St) (hb : Below w.heap.size w W) (hj : VecV W v j) (lj : j.length ≤ maxLen) => Below_any hj (HC.out.below hb) lj lc)
  obtain ⟨ao, ca, rfl, -, -, -⟩ := ha
  obtain ⟨bo, cb, rfl, -, -, -⟩ := hb
  obtain ⟨co, cc, rfl, -, -, -⟩ := hc
  obtain ⟨n, hn⟩ : ∃ n, n = a.length := ⟨_, rfl⟩
  obtain ⟨m, hm⟩ : ∃ m, m = b.length := ⟨_, rfl⟩
  obtain ⟨k, hk⟩ : ∃ k, k = c.length := ⟨_, rfl⟩
  rw [← hn, ← hm, ← hk]
  rw [← hn, ← hm] at JN
  rw [← hn, ← hk] at B1
  rw [← hm, ← hk] at B2
  rw [← hn] at B3
  rw [← hm] at B4
  rw [← hk] at B5
  rw [← hn, ← hm, ← hk] at HCK
  clear hn hm hk la lb lc HA HB HC
  have HW := hid (awake_any w)
  by_cases hall : Right a ∧ Right b ∧ Right c
  · obtain ⟨ra, rb, rc⟩ := hall
    rw [joinP_ok ra rb] at JN
    rw [belP_ok ra rc] at B1
    rw [belP_ok rb rc] at B2
    have rj := (mem_joinS (two_right ra rb)).1
    have B3 := hid (fun W (v : Value) (hb : Below w.heap.size w W) (hj : VecV W v (joinS (a ++ b))) => B3.out W v _ hb hj (right_max rj))
    have B4 := hid (fun W (v : Value) (hb : Below w.heap.size w W) (hj : VecV W v (joinS (a ++ b))) => B4.out W v _ hb hj (right_max rj))
    have B5 := hid (fun W (v : Value) (hb : Below w.heap.size w W) (hj : VecV W v (joinS (a ++ b))) => B5.out W v _ hb hj (right_max rj))
    rw [belP_ok ra rj, belB2_left ra rb] at B3
    rw [belP_ok rb rj, belB2_right ra rb] at B4
    rw [belP_ok rj rc, belB2_least ra rb rc] at B5
    obtain ⟨x, hx⟩ : ∃ x, x = belB2 a c := ⟨_, rfl⟩
    obtain ⟨y, hy⟩ : ∃ y, y = belB2 b c := ⟨_, rfl⟩
    rw [← hx] at B1 B5
    rw [← hy] at B2 B5
    clear hx hy ra rb rc rj HCK
    go_enter Tryd.func7, Tryd.ntmps7
    go_wp2_with fail
    refine HW.out.mono ?_
    rintro e w0 ⟨rfl, hb0⟩
    have H0 := hid hb0
    clear hb0
    go_wp2_with fail
    refine (JN.out _ _ H0.out).mono ?_
    rintro e w1 ⟨vj, rfl, hj, hb⟩
    have H1 := hid (below_tr (H0.out.alloc H0.out.size _) hb)
    have HJ := hid hj.vec
    clear hb
    obtain ⟨aj, nj, cj, rfl⟩ : ∃ a n c, vj = .slice a n c := by obtain ⟨a, c, e⟩ := hj.form; exact ⟨a, _, c, e⟩
    clear hj
    go_wp2_with fail
    refine (B1.out _ H1.out).mono ?_
    rintro e w2 ⟨rfl, hb⟩
    have H2 := hid (below_tr H1.out hb)
    have HJ := hid (HJ.out.below hb)
    clear hb
    go_wp2_with fail
    refine (B2.out _ H2.out).mono ?_
    rintro e w3 ⟨rfl, hb⟩
    have H3 := hid (below_tr H2.out hb)
    have HJ := hid (HJ.out.below hb)
    clear hb
    go_wp2_with fail
    refine (B3.out _ _ H3.out HJ.out).mono ?_
    rintro e w4 ⟨rfl, hb⟩
    have H4 := hid (below_tr H3.out hb)
    have HJ := hid (HJ.out.below hb)
    clear hb
    go_wp2_with fail
    refine (B4.out _ _ H4.out HJ.out).mono ?_
    rintro e w5 ⟨rfl, hb⟩
    have H5 := hid (below_tr H4.out hb)
    have HJ := hid (HJ.out.below hb)
    clear hb
    go_wp2_with fail
    refine (B5.out _ _ H5.out HJ.out).mono ?_
    rintro e w6 ⟨rfl, hb⟩
    have H6 := hid (below_tr H5.out hb)
    have HJ := hid (HJ.out.below hb)
    clear hb
    simp only
    rcases bool_two x with e1 | e1 <;> rcases bool_two y with e2 | e2 <;> subst e1 <;> subst e2
    all_goals go_wp2
    all_goals go_ret
    all_goals exact ⟨by rfl, H6.out⟩
  · rw [chk3_bad hall] at HCK
    clear B3 B4 B5
    by_cases hab : Right a ∧ Right b
    · have hac : ¬ (Right a ∧ Right c) := fun q => hall ⟨hab.1, hab.2, q.2⟩
      rw [joinP_ok hab.1 hab.2] at JN
      rw [belP_bad hac] at B1
      obtain ⟨⟨x2, y2⟩, e2⟩ : ∃ q, q = belP b c := ⟨_, rfl⟩
      rw [← e2] at B2
      clear e2 hab hac hall
      go_enter Tryd.func7, Tryd.ntmps7
      go_wp2_with fail
      refine HW.out.mono ?_
      rintro e w0 ⟨rfl, hb0⟩
      have H0 := hid hb0
      clear hb0
      go_wp2_with fail
      refine (JN.out _ _ H0.out).mono ?_
      rintro e w1 ⟨vj, rfl, hj, hb⟩
      have H1 := hid (below_tr (H0.out.alloc H0.out.size _) hb)
      have HJ := hid hj.vec
      clear hb
      obtain ⟨aj, nj, cj, rfl⟩ : ∃ a n c, vj = .slice a n c := by obtain ⟨a, c, e⟩ := hj.form; exact ⟨a, _, c, e⟩
      clear hj
      go_wp2_with fail
      refine (B1.out _ H1.out).mono ?_
      rintro e w2 ⟨rfl, hb⟩
      have H2 := hid (below_tr H1.out hb)
      clear hb
      go_wp2_with fail
      refine (B2.out _ H2.out).mono ?_
      rintro e w3 ⟨rfl, hb⟩
      have H3 := hid (below_tr H2.out hb)
      clear hb
      go_wp2_with fail
      refine (HCK.out _ _ H3.out).mono ?_
      rintro e w4 ⟨rfl, hd⟩
      have H4 := hid (below_tr (H3.out.alloc H3.out.size _) (drew_below hd))
      clear hd
      go_wp2
      go_ret
      exact ⟨by rfl, H4.out⟩
    · rw [joinP_bad hab] at JN
      obtain ⟨⟨x1, y1⟩, e1⟩ : ∃ q, q = belP a c := ⟨_, rfl⟩
      obtain ⟨⟨x2, y2⟩, e2⟩ : ∃ q, q = belP b c := ⟨_, rfl⟩
      rw [← e1] at B1
      rw [← e2] at B2
      clear e1 e2 hab hall
      go_enter Tryd.func7, Tryd.ntmps7
      go_wp2_with fail
      refine HW.out.mono ?_
      rintro e w0 ⟨rfl, hb0⟩
      have H0 := hid hb0
      clear hb0
      go_wp2_with fail
      refine (JN.out _ _ H0.out).mono ?_
      rintro e w1 ⟨vj, rfl, hj, hb⟩
      have H1 := hid (below_tr (H0.out.alloc H0.out.size _) hb)
      have HJ := hid hj.vec
      clear hb
      obtain ⟨aj, nj, cj, rfl⟩ : ∃ a n c, vj = .slice a n c := by obtain ⟨a, c, e⟩ := hj.form; exact ⟨a, _, c, e⟩
      clear hj
      go_wp2_with fail
      refine (B1.out _ H1.out).mono ?_
      rintro e w2 ⟨rfl, hb⟩
      have H2 := hid (below_tr H1.out hb)
      clear hb
      go_wp2_with fail
      refine (B2.out _ H2.out).mono ?_
      rintro e w3 ⟨rfl, hb⟩
      have H3 := hid (below_tr H2.out hb)
      clear hb
      go_wp2_with fail
      refine (HCK.out _ _ H3.out).mono ?_
      rintro e w4 ⟨rfl, hd⟩
      have H4 := hid (below_tr (H3.out.alloc H3.out.size _) (drew_below hd))
      clear hd
      go_wp2
      go_ret
      exact ⟨by rfl, H4.out⟩
end Go.Proofs.YtibbbjikehkbmaaDoor.Ve
