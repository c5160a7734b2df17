/-
  VectorAlgebra's law.
-/
import Derived.Test.YtibbbjikehkbmaaDoorGLMrg
import Derived.Test.YtibbbjikehkbmaaDoorGLLea
namespace Go.Proofs.YtibbbjikehkbmaaDoor.Ve
open Go.RowKit

/-- A row of four vectors that was just laid. -/
theorem vecs_four {w : World} {va vb vc vd : Value} {a b c d : List St} {t : TypeId} {n : Nat} (hn : n = w.heap.size) (ha : VecV w va a) (hb : VecV w vb b) (hc : VecV w vc c) (hd : VecV w vd d) : VecsV (w.alloc (.cells #[va, vb, vc, vd] t)) (.slice (some ⟨n, 0, none⟩) 4 4) [a, b, c, d] := by
  subst hn
  refine ⟨some ⟨w.heap.size, 0, none⟩, 4, rfl, Nat.le_refl _, fun q => (by cases q), Or.inr ⟨w.heap.size, 0, rfl, by simp, fun j l hj => ?_⟩⟩
  rcases j with _ | _ | _ | _ | j
  · have : a = l := by simpa using hj
    subst this
    exact ⟨va, cell_news 0, ha.below (below_al _ _)⟩
  · have : b = l := by simpa using hj
    subst this
    exact ⟨vb, cell_news 1, hb.below (below_al _ _)⟩
  · have : c = l := by simpa using hj
    subst this
    exact ⟨vc, cell_news 2, hc.below (below_al _ _)⟩
  · have : d = l := by simpa using hj
    subst this
    exact ⟨vd, cell_news 3, hd.below (below_al _ _)⟩
  · simp at hj
theorem mrgP_yes {ls : List (List St)} (h : ∀ l ∈ ls, Right l) (ha : agrS ls.flatten) : mrgP ls = (joinS ls.flatten, true, 0) := by
  unfold mrgP
  rw [if_pos (chkN_ok h), if_pos ha]
theorem mrgP_no {ls : List (List St)} (h : ∀ l ∈ ls, Right l) (ha : ¬ agrS ls.flatten) : mrgP ls = ([], false, 0) := by
  unfold mrgP
  rw [if_pos (chkN_ok h), if_neg ha]
theorem mrgP_bad {ls : List (List St)} {l : List St} (hl : l ∈ ls) (h : ¬ Right l) : mrgP ls = ([], false, 160) := by
  have h1 := chkN_bad hl h
  unfold mrgP
  rw [h1, if_neg (by decide)]
theorem joinP_yes {ls : List (List St)} (h : ∀ l ∈ ls, Right l) : joinP ls = (joinS ls.flatten, 0) := by
  unfold joinP
  rw [if_pos (chkN_ok h)]
theorem joinP_no {ls : List (List St)} {l : List St} (hl : l ∈ ls) (h : ¬ Right l) : joinP ls = ([], 160) := by
  have h1 := chkN_bad hl h
  unfold joinP
  rw [h1, if_neg (by decide)]
theorem mem4 (a b c : List St) (s : St) : s ∈ [c, b, a, b].flatten ↔ s ∈ [a, b, c].flatten := by
  simp only [List.mem_flatten, List.mem_cons, List.not_mem_nil, or_false]
  constructor
  · rintro ⟨l, hl, hs⟩
    exact ⟨l, by rcases hl with h | h | h | h <;> simp [h], hs⟩
  · rintro ⟨l, hl, hs⟩
    exact ⟨l, by rcases hl with h | h | h <;> simp [h], hs⟩
theorem mem4' (a b c : List St) (s : St) : s ∈ [c, a, b, a].flatten ↔ s ∈ [a, b, c].flatten := by
  simp only [List.mem_flatten, List.mem_cons, List.not_mem_nil, or_false]
  constructor
  · rintro ⟨l, hl, hs⟩
    exact ⟨l, by rcases hl with h | h | h | h <;> simp [h], hs⟩
  · rintro ⟨l, hl, hs⟩
    exact ⟨l, by rcases hl with h | h | h <;> simp [h], hs⟩
section
variable {a b c : List St} (ra : Right a) (rb : Right b) (rc : Right c)
include ra rb rc
theorem all3 : ∀ l ∈ [a, b, c], Right l := fun l hl => by simp at hl; rcases hl with rfl | rfl | rfl <;> assumption
theorem all4 : ∀ l ∈ [c, b, a, b], Right l := fun l hl => by simp at hl; rcases hl with rfl | rfl | rfl | rfl <;> assumption
theorem all4' : ∀ l ∈ [c, a, b, a], Right l := fun l hl => by simp at hl; rcases hl with rfl | rfl | rfl | rfl <;> assumption
theorem join4 : joinS [c, b, a, b].flatten = joinS [a, b, c].flatten := joinS_congr (right_flat (all4 ra rb rc)) (mem4 a b c)
theorem join4' : joinS [c, a, b, a].flatten = joinS [a, b, c].flatten := joinS_congr (right_flat (all4' ra rb rc)) (mem4' a b c)
theorem join_two : joinS [joinS (a ++ b), c].flatten = joinS [a, b, c].flatten := by
  have e1 : [joinS (a ++ b), c].flatten = joinS (a ++ b) ++ c := by simp
  have e2 : [a, b, c].flatten = (a ++ b) ++ c := by simp
  rw [e1, e2]
  exact joinS_append (two_right ra rb) rc.1
omit rc in
theorem agr_part (h : agrS [a, b, c].flatten) : agrS [a, b].flatten ∧ agrS [joinS (a ++ b), c].flatten := by
  have hs : ∀ s ∈ a ++ b, s ∈ [a, b, c].flatten := fun s hs => by
    rcases List.mem_append.1 hs with hs | hs
    · exact List.mem_flatten.2 ⟨a, by simp, hs⟩
    · exact List.mem_flatten.2 ⟨b, by simp, hs⟩
  have e0 : [a, b].flatten = a ++ b := by simp
  have e1 : [joinS (a ++ b), c].flatten = joinS (a ++ b) ++ c := by simp
  refine ⟨fun s h1 t h2 e => h s (hs s (by rw [← e0]; exact h1)) t (hs t (by rw [← e0]; exact h2)) e, ?_⟩
  rw [e1]
  have sub : ∀ s ∈ joinS (a ++ b) ++ c, s ∈ [a, b, c].flatten := fun s h1 => by
    rcases List.mem_append.1 h1 with h1 | h1
    · exact hs s (((mem_joinS (two_right ra rb)).2 s).1 h1).1
    · exact List.mem_flatten.2 ⟨c, by simp, h1⟩
  exact fun s h1 t h2 e => h s (sub s h1) t (sub t h2) e
end
set_option maxRecDepth 20000 in
set_option maxHeartbeats 8000000 in
theorem valgebra_any {w : World} {va vb vc : Value} {a b c : List St} (ha : VecV w va a) (hb : VecV w vb b) (hc : VecV w vc c) (la : a.length ≤ maxLen) (lb : b.length ≤ maxLen) (lc : c.length ≤ maxLen) :
    Calls Tryd.prog 6 #[va, vb, vc] w fun e w' => e = .returned (.bool true) ∧ Below w.heap.size w w' := by
  have HA := hid ha
  have HB := hid hb
  have HC := hid hc
  have l3 : ∀ l ∈ [a, b, c], l.length ≤ maxLen := fun l hl => by simp at hl; rcases hl with rfl | rfl | rfl <;> assumption
  have l4 : ∀ l ∈ [c, b, a, b], l.length ≤ maxLen := fun l hl => by simp at hl; rcases hl with rfl | rfl | rfl | rfl <;> assumption
  have l4' : ∀ l ∈ [c, a, b, a], l.length ≤ maxLen := fun l hl => by simp at hl; rcases hl with rfl | rfl | rfl | rfl <;> assumption
  have l2 : ∀ l ∈ [a, b], l.length ≤ maxLen := fun l hl => by simp at hl; rcases hl with rfl | rfl <;> assumption
  have M3 := hid (fun W t (hb : Below w.heap.size w W) => Merge_any (vecs_three (t := t) (n := W.heap.size) rfl (HA.out.below hb) (HB.out.below hb) (HC.out.below hb)) (by simp [maxLen]) l3)
  have M4 := hid (fun W t (hb : Below w.heap.size w W) => Merge_any (vecs_four (t := t) (n := W.heap.size) rfl (HC.out.below hb) (HB.out.below hb) (HA.out.below hb) (HB.out.below hb)) (by simp [maxLen]) l4)
  have J3 := hid (fun W t (hb : Below w.heap.size w W) => Join_any (vecs_three (t := t) (n := W.heap.size) rfl (HA.out.below hb) (HB.out.below hb) (HC.out.below hb)) (by simp [maxLen]) l3)
  have J4 := hid (fun W t (hb : Below w.heap.size w W) => Join_any (vecs_four (t := t) (n := W.heap.size) rfl (HC.out.below hb) (HA.out.below hb) (HB.out.below hb) (HA.out.below hb)) (by simp [maxLen]) l4')
  have J2 := hid (fun W t (hb : Below w.heap.size w W) => Join_any (vecs_two (t := t) (n := W.heap.size) rfl (HA.out.below hb) (HB.out.below hb)) (by simp [maxLen]) l2)
  have M2 := hid (fun W t (hb : Below w.heap.size w W) => Merge_any (vecs_two (t := t) (n := W.heap.size) rfl (HA.out.below hb) (HB.out.below hb)) (by simp [maxLen]) l2)
  have JX := hid (fun W t (hb : Below w.heap.size w W) v (m : List St) (hv : VecV W v m) (lm : m.length ≤ maxLen) => Join_any (vecs_two (t := t) (n := W.heap.size) rfl hv (HC.out.below hb)) (by simp [maxLen]) (fun l hl => by simp at hl; rcases hl with rfl | rfl <;> assumption))
  have MX := hid (fun W t (hb : Below w.heap.size w W) v (m : List St) (hv : VecV W v m) (lm : m.length ≤ maxLen) => Merge_any (vecs_two (t := t) (n := W.heap.size) rfl hv (HC.out.below hb)) (by simp [maxLen]) (fun l hl => by simp at hl; rcases hl with rfl | rfl <;> assumption))
  obtain ⟨ao, ca, rfl, -, -, -⟩ := ha
  obtain ⟨bo, cb, rfl, -, -, -⟩ := hb
  obtain ⟨co, cc, rfl, -, -, -⟩ := hc
  obtain ⟨n, hn⟩ : ∃ n, n = a.length := ⟨_, rfl⟩
  obtain ⟨m, hm⟩ : ∃ m, m = b.length := ⟨_, rfl⟩
  obtain ⟨k, hk⟩ : ∃ k, k = c.length := ⟨_, rfl⟩
  rw [← hn, ← hm, ← hk]
  rw [← hn, ← hm, ← hk] at M3 M4 J3 J4
  rw [← hn, ← hm] at J2 M2
  rw [← hk] at JX MX
  clear hn hm hk la lb lc HA HB HC l2 l3 l4 l4'
  have HW := hid (awake_any w)
  by_cases hall : Right a ∧ Right b ∧ Right c
  · obtain ⟨ra, rb, rc⟩ := hall
    have e2 : [a, b].flatten = a ++ b := by simp
    have rj := (mem_joinS (two_right ra rb)).1
    have rX := (mem_joinS (right_flat (all3 ra rb rc))).1
    have h2 : ∀ l ∈ [a, b], Right l := fun l hl => by simp at hl; rcases hl with rfl | rfl <;> assumption
    have h2' : ∀ l ∈ [joinS (a ++ b), c], Right l := fun l hl => by simp at hl; rcases hl with rfl | rfl <;> assumption
    have HLM := hid (right_max rj)
    have HLX := hid (right_max rX)
    have JX := hid (fun W t hb v hv lm => JX.out W t hb v (joinS (a ++ b)) hv lm)
    have MX := hid (fun W t hb v hv lm => MX.out W t hb v (joinS (a ++ b)) hv lm)
    rw [joinP_yes (all3 ra rb rc)] at J3
    rw [joinP_yes (all4' ra rb rc), join4' ra rb rc] at J4
    rw [joinP_yes h2, e2] at J2
    rw [joinP_yes h2', join_two ra rb rc] at JX
    by_cases hag : agrS [a, b, c].flatten
    · have hag4 : agrS [c, b, a, b].flatten := (agrS_congr (mem4 a b c)).2 hag
      obtain ⟨g1, g2⟩ := agr_part ra rb hag
      rw [mrgP_yes (all3 ra rb rc) hag] at M3
      rw [mrgP_yes (all4 ra rb rc) hag4, join4 ra rb rc] at M4
      rw [mrgP_yes h2 g1, e2] at M2
      rw [mrgP_yes h2' g2, join_two ra rb rc] at MX
      obtain ⟨X, hX⟩ : ∃ X, X = joinS [a, b, c].flatten := ⟨_, rfl⟩
      obtain ⟨Y, hY⟩ : ∃ Y, Y = joinS (a ++ b) := ⟨_, rfl⟩
      rw [← hX] at M3 M4 J3 J4 JX MX HLX
      rw [← hY] at M2 J2 JX MX HLM
      clear hX hY hag hag4 g1 g2 ra rb rc rj rX h2 h2' e2
      go_enter Tryd.func6, Tryd.ntmps6
      go_wp2_with fail
      refine HW.out.mono ?_
      rintro e w0 ⟨rfl, hb0⟩
      have H0 := hid hb0
      clear hb0
      go_wp2_with fail
      refine (M3.out _ _ H0.out).mono ?_
      rintro e w1 ⟨v1, rfl, ho, hb⟩
      have hbb := below_tr (below_al w0 _) hb
      have V1 := hid ho.vec
      obtain ⟨a1, n1, c1, rfl⟩ := vec_form ho.vec
      have H1 := hid (below_tr (H0.out.alloc H0.out.size _) hb)
      clear hb hbb ho
      go_wp2_with fail
      refine (M4.out _ _ H1.out).mono ?_
      rintro e w2 ⟨v2, rfl, ho, hb⟩
      have hbb := below_tr (below_al w1 _) hb
      have V1 := hid (V1.out.below hbb)
      have V2 := hid ho.vec
      obtain ⟨a2, n2, c2, rfl⟩ := vec_form ho.vec
      have H2 := hid (below_tr (H1.out.alloc H1.out.size _) hb)
      clear hb hbb ho
      go_wp2_with fail
      refine (J3.out _ _ H2.out).mono ?_
      rintro e w3 ⟨v3, rfl, ho, hb⟩
      have hbb := below_tr (below_al w2 _) hb
      have V1 := hid (V1.out.below hbb)
      have V2 := hid (V2.out.below hbb)
      have V3 := hid ho.vec
      obtain ⟨a3, n3, c3, rfl⟩ := vec_form ho.vec
      have H3 := hid (below_tr (H2.out.alloc H2.out.size _) hb)
      clear hb hbb ho
      go_wp2_with fail
      refine (J4.out _ _ H3.out).mono ?_
      rintro e w4 ⟨v4, rfl, ho, hb⟩
      have hbb := below_tr (below_al w3 _) hb
      have V1 := hid (V1.out.below hbb)
      have V2 := hid (V2.out.below hbb)
      have V3 := hid (V3.out.below hbb)
      have V4 := hid ho.vec
      obtain ⟨a4, n4, c4, rfl⟩ := vec_form ho.vec
      have H4 := hid (below_tr (H3.out.alloc H3.out.size _) hb)
      clear hb hbb ho
      go_wp2_with fail
      refine (J2.out _ _ H4.out).mono ?_
      rintro e w5 ⟨v5, rfl, ho, hb⟩
      have hbb := below_tr (below_al w4 _) hb
      have V1 := hid (V1.out.below hbb)
      have V2 := hid (V2.out.below hbb)
      have V3 := hid (V3.out.below hbb)
      have V4 := hid (V4.out.below hbb)
      have V5 := hid ho.vec
      obtain ⟨a5, n5, c5, rfl⟩ := vec_form ho.vec
      have H5 := hid (below_tr (H4.out.alloc H4.out.size _) hb)
      clear hb hbb ho
      go_wp2_with fail
      refine (JX.out _ _ H5.out _ V5.out HLM.out).mono ?_
      rintro e w6 ⟨v6, rfl, ho, hb⟩
      have hbb := below_tr (below_al w5 _) hb
      have V1 := hid (V1.out.below hbb)
      have V2 := hid (V2.out.below hbb)
      have V3 := hid (V3.out.below hbb)
      have V4 := hid (V4.out.below hbb)
      have V5 := hid (V5.out.below hbb)
      have V6 := hid ho.vec
      obtain ⟨a6, n6, c6, rfl⟩ := vec_form ho.vec
      have H6 := hid (below_tr (H5.out.alloc H5.out.size _) hb)
      clear hb hbb ho
      go_wp2_with fail
      refine (same_self V1.out V2.out HLX.out).mono ?_
      rintro e w7 ⟨rfl, hd⟩
      have hbb := drew_below hd
      have V1 := hid (V1.out.below hbb)
      have V3 := hid (V3.out.below hbb)
      have V4 := hid (V4.out.below hbb)
      have V6 := hid (V6.out.below hbb)
      have H7 := hid (below_tr H6.out hbb)
      clear hd hbb
      go_wp2_with fail
      refine (same_self V3.out V4.out HLX.out).mono ?_
      rintro e w8 ⟨rfl, hd⟩
      have hbb := drew_below hd
      have V1 := hid (V1.out.below hbb)
      have V3 := hid (V3.out.below hbb)
      have V6 := hid (V6.out.below hbb)
      have H8 := hid (below_tr H7.out hbb)
      clear hd hbb
      go_wp2_with fail
      refine (same_self V6.out V3.out HLX.out).mono ?_
      rintro e w9 ⟨rfl, hd⟩
      have hbb := drew_below hd
      have V1 := hid (V1.out.below hbb)
      have V3 := hid (V3.out.below hbb)
      have H9 := hid (below_tr H8.out hbb)
      clear hd hbb
      go_wp2_with fail
      refine (M2.out _ _ H9.out).mono ?_
      rintro e w10 ⟨v10, rfl, ho, hb⟩
      have hbb := below_tr (below_al w9 _) hb
      have V1 := hid (V1.out.below hbb)
      have V3 := hid (V3.out.below hbb)
      have V10 := hid ho.vec
      obtain ⟨a10, n10, c10, rfl⟩ := vec_form ho.vec
      have H10 := hid (below_tr (H9.out.alloc H9.out.size _) hb)
      clear hb hbb ho
      go_wp2_with fail
      refine (MX.out _ _ H10.out _ V10.out HLM.out).mono ?_
      rintro e w11 ⟨v11, rfl, ho, hb⟩
      have hbb := below_tr (below_al w10 _) hb
      have V1 := hid (V1.out.below hbb)
      have V3 := hid (V3.out.below hbb)
      have V10 := hid (V10.out.below hbb)
      have V11 := hid ho.vec
      obtain ⟨a11, n11, c11, rfl⟩ := vec_form ho.vec
      have H11 := hid (below_tr (H10.out.alloc H10.out.size _) hb)
      clear hb hbb ho
      go_wp2_with fail
      refine (same_self V11.out V1.out HLX.out).mono ?_
      rintro e w12 ⟨rfl, hd⟩
      have hbb := drew_below hd
      have V1 := hid (V1.out.below hbb)
      have V3 := hid (V3.out.below hbb)
      have H12 := hid (below_tr H11.out hbb)
      clear hd hbb
      go_wp2_with fail
      refine (same_self V1.out V3.out HLX.out).mono ?_
      rintro e w13 ⟨rfl, hd⟩
      have hbb := drew_below hd
      have H13 := hid (below_tr H12.out hbb)
      clear hd hbb
      go_wp2
      go_ret
      exact ⟨by rfl, H13.out⟩
    · have hag4 : ¬ agrS [c, b, a, b].flatten := fun q => hag ((agrS_congr (mem4 a b c)).1 q)
      rw [mrgP_no (all3 ra rb rc) hag] at M3
      rw [mrgP_no (all4 ra rb rc) hag4] at M4
      obtain ⟨X, hX⟩ : ∃ X, X = joinS [a, b, c].flatten := ⟨_, rfl⟩
      obtain ⟨Y, hY⟩ : ∃ Y, Y = joinS (a ++ b) := ⟨_, rfl⟩
      rw [← hX] at J3 J4 JX HLX
      rw [← hY] at J2 JX HLM
      clear hX hY hag hag4 ra rb rc rj rX h2 h2' e2 M2 MX
      go_enter Tryd.func6, Tryd.ntmps6
      go_wp2_with fail
      refine HW.out.mono ?_
      rintro e w0 ⟨rfl, hb0⟩
      have H0 := hid hb0
      clear hb0
      go_wp2_with fail
      refine (M3.out _ _ H0.out).mono ?_
      rintro e w1 ⟨v1, rfl, ho, hb⟩
      have hbb := below_tr (below_al w0 _) hb
      have V1 := hid ho.vec
      obtain ⟨a1, n1, c1, rfl⟩ := vec_form ho.vec
      have H1 := hid (below_tr (H0.out.alloc H0.out.size _) hb)
      clear hb hbb ho
      go_wp2_with fail
      refine (M4.out _ _ H1.out).mono ?_
      rintro e w2 ⟨v2, rfl, ho, hb⟩
      have hbb := below_tr (below_al w1 _) hb
      have V1 := hid (V1.out.below hbb)
      have V2 := hid ho.vec
      obtain ⟨a2, n2, c2, rfl⟩ := vec_form ho.vec
      have H2 := hid (below_tr (H1.out.alloc H1.out.size _) hb)
      clear hb hbb ho
      go_wp2_with fail
      refine (J3.out _ _ H2.out).mono ?_
      rintro e w3 ⟨v3, rfl, ho, hb⟩
      have hbb := below_tr (below_al w2 _) hb
      have V1 := hid (V1.out.below hbb)
      have V2 := hid (V2.out.below hbb)
      have V3 := hid ho.vec
      obtain ⟨a3, n3, c3, rfl⟩ := vec_form ho.vec
      have H3 := hid (below_tr (H2.out.alloc H2.out.size _) hb)
      clear hb hbb ho
      go_wp2_with fail
      refine (J4.out _ _ H3.out).mono ?_
      rintro e w4 ⟨v4, rfl, ho, hb⟩
      have hbb := below_tr (below_al w3 _) hb
      have V1 := hid (V1.out.below hbb)
      have V2 := hid (V2.out.below hbb)
      have V3 := hid (V3.out.below hbb)
      have V4 := hid ho.vec
      obtain ⟨a4, n4, c4, rfl⟩ := vec_form ho.vec
      have H4 := hid (below_tr (H3.out.alloc H3.out.size _) hb)
      clear hb hbb ho
      go_wp2_with fail
      refine (J2.out _ _ H4.out).mono ?_
      rintro e w5 ⟨v5, rfl, ho, hb⟩
      have hbb := below_tr (below_al w4 _) hb
      have V1 := hid (V1.out.below hbb)
      have V2 := hid (V2.out.below hbb)
      have V3 := hid (V3.out.below hbb)
      have V4 := hid (V4.out.below hbb)
      have V5 := hid ho.vec
      obtain ⟨a5, n5, c5, rfl⟩ := vec_form ho.vec
      have H5 := hid (below_tr (H4.out.alloc H4.out.size _) hb)
      clear hb hbb ho
      go_wp2_with fail
      refine (JX.out _ _ H5.out _ V5.out HLM.out).mono ?_
      rintro e w6 ⟨v6, rfl, ho, hb⟩
      have hbb := below_tr (below_al w5 _) hb
      have V1 := hid (V1.out.below hbb)
      have V2 := hid (V2.out.below hbb)
      have V3 := hid (V3.out.below hbb)
      have V4 := hid (V4.out.below hbb)
      have V5 := hid (V5.out.below hbb)
      have V6 := hid ho.vec
      obtain ⟨a6, n6, c6, rfl⟩ := vec_form ho.vec
      have H6 := hid (below_tr (H5.out.alloc H5.out.size _) hb)
      clear hb hbb ho
      go_wp2_with fail
      refine (same_self V1.out V2.out (by simp)).mono ?_
      rintro e w7 ⟨rfl, hd⟩
      have hbb := drew_below hd
      have V3 := hid (V3.out.below hbb)
      have V4 := hid (V4.out.below hbb)
      have V6 := hid (V6.out.below hbb)
      have H7 := hid (below_tr H6.out hbb)
      clear hd hbb
      go_wp2_with fail
      refine (same_self V3.out V4.out HLX.out).mono ?_
      rintro e w8 ⟨rfl, hd⟩
      have hbb := drew_below hd
      have V3 := hid (V3.out.below hbb)
      have V6 := hid (V6.out.below hbb)
      have H8 := hid (below_tr H7.out hbb)
      clear hd hbb
      go_wp2_with fail
      refine (same_self V6.out V3.out HLX.out).mono ?_
      rintro e w9 ⟨rfl, hd⟩
      have hbb := drew_below hd
      have H9 := hid (below_tr H8.out hbb)
      clear hd hbb
      go_wp2
      go_ret
      exact ⟨by rfl, H9.out⟩
  · have hbad : ∃ l, l ∈ [a, b, c] ∧ ¬ Right l := by
      apply Classical.byContradiction
      intro hn
      exact hall ⟨Classical.byContradiction fun q => hn ⟨a, by simp, q⟩, Classical.byContradiction fun q => hn ⟨b, by simp, q⟩, Classical.byContradiction fun q => hn ⟨c, by simp, q⟩⟩
    obtain ⟨l, hl, hr⟩ := hbad
    have h4 : l ∈ [c, b, a, b] := by simp at hl ⊢; rcases hl with h | h | h <;> simp [h]
    have h4' : l ∈ [c, a, b, a] := by simp at hl ⊢; rcases hl with h | h | h <;> simp [h]
    rw [mrgP_bad hl hr] at M3
    rw [mrgP_bad h4 hr] at M4
    rw [joinP_no hl hr] at J3
    rw [joinP_no h4' hr] at J4
    clear hl h4 h4' hr hall JX MX M2 J2
    go_enter Tryd.func6, Tryd.ntmps6
    go_wp2_with fail
    refine HW.out.mono ?_
    rintro e w0 ⟨rfl, hb0⟩
    have H0 := hid hb0
    clear hb0
    go_wp2_with fail
    refine (M3.out _ _ H0.out).mono ?_
    rintro e w1 ⟨v1, rfl, ho, hb⟩
    have hbb := below_tr (below_al w0 _) hb
    have V1 := hid ho.vec
    obtain ⟨a1, n1, c1, rfl⟩ := vec_form ho.vec
    have H1 := hid (below_tr (H0.out.alloc H0.out.size _) hb)
    clear hb hbb ho
    go_wp2_with fail
    refine (M4.out _ _ H1.out).mono ?_
    rintro e w2 ⟨v2, rfl, ho, hb⟩
    have hbb := below_tr (below_al w1 _) hb
    have V1 := hid (V1.out.below hbb)
    have V2 := hid ho.vec
    obtain ⟨a2, n2, c2, rfl⟩ := vec_form ho.vec
    have H2 := hid (below_tr (H1.out.alloc H1.out.size _) hb)
    clear hb hbb ho
    go_wp2_with fail
    refine (J3.out _ _ H2.out).mono ?_
    rintro e w3 ⟨v3, rfl, ho, hb⟩
    have hbb := below_tr (below_al w2 _) hb
    have V1 := hid (V1.out.below hbb)
    have V2 := hid (V2.out.below hbb)
    have V3 := hid ho.vec
    obtain ⟨a3, n3, c3, rfl⟩ := vec_form ho.vec
    have H3 := hid (below_tr (H2.out.alloc H2.out.size _) hb)
    clear hb hbb ho
    go_wp2_with fail
    refine (J4.out _ _ H3.out).mono ?_
    rintro e w4 ⟨v4, rfl, ho, hb⟩
    have hbb := below_tr (below_al w3 _) hb
    have V1 := hid (V1.out.below hbb)
    have V2 := hid (V2.out.below hbb)
    have V3 := hid (V3.out.below hbb)
    have V4 := hid ho.vec
    obtain ⟨a4, n4, c4, rfl⟩ := vec_form ho.vec
    have H4 := hid (below_tr (H3.out.alloc H3.out.size _) hb)
    clear hb hbb ho
    go_wp2
    go_ret
    exact ⟨by rfl, H4.out⟩
end Go.Proofs.YtibbbjikehkbmaaDoor.Ve
