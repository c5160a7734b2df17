/-
  VectorMerges' law.
-/
import Derived.Test.YtibbbjikehkbmaaDoorGRMrgA
import Derived.Test.YtibbbjikehkbmaaDoorGRMrgB
import Derived.Test.YtibbbjikehkbmaaDoorGSame
import Derived.Test.YtibbbjikehkbmaaDoorGAwake
namespace Go.Proofs.YtibbbjikehkbmaaDoor.Ve
open Go.RowKit

theorem mrgP_right (ls : List (List St)) : (mrgP ls).1.length ≤ maxLen := by
  unfold mrgP
  by_cases h : chkN ls = 0
  · rw [if_pos h]
    split
    · have := right_len (mem_joinS (right_flat (right_all h))).1
      unfold maxLen; simp only; omega
    · simp
  · rw [if_neg h]; simp
theorem joinP_right (ls : List (List St)) : (joinP ls).1.length ≤ maxLen := by
  unfold joinP
  by_cases h : chkN ls = 0
  · rw [if_pos h]
    have := right_len (mem_joinS (right_flat (right_all h))).1
    unfold maxLen; simp only; omega
  · rw [if_neg h]; simp
theorem same_self {w : World} {v1 v2 : Value} {l : List St} (h1 : VecV w v1 l) (h2 : VecV w v2 l) (hl : l.length ≤ maxLen) : Calls Tryd.prog 13 #[v1, v2] w fun e w' => e = .returned (.bool true) ∧ ∃ n, w' = w.drewN n := by
  have h := RSame_any h1 h2 hl hl
  rw [show decide (l = l) = true from decide_eq_true rfl] at h
  exact h
theorem vec_form {w : World} {v : Value} {l : List St} (h : VecV w v l) : ∃ a n c, v = .slice a n c := by
  obtain ⟨a, c, e, _⟩ := h
  exact ⟨a, _, c, e⟩
set_option maxRecDepth 20000 in
set_option maxHeartbeats 4000000 in
theorem vmerges_any {w : World} {v : Value} {ls : List (List St)} (h : VecsV w v ls) (hm : ls.length ≤ maxLen) (hml : ∀ l ∈ ls, l.length ≤ maxLen) :
    Calls Tryd.prog 4 #[v] w fun e w' => e = .returned (.bool true) ∧ Below w.heap.size w w' := by
  have HV := hid h
  have M1 := hid (fun W (hb : Below w.heap.size w W) => Merge_any (HV.out.below hb) hm hml)
  have M2 := hid (fun W (hb : Below w.heap.size w W) => RMerge_any (HV.out.below hb) hm hml)
  have J1 := hid (fun W (hb : Below w.heap.size w W) => Join_any (HV.out.below hb) hm hml)
  have J2 := hid (fun W (hb : Below w.heap.size w W) => RJoin_any (HV.out.below hb) hm hml)
  have C1 := hid (fun W (hb : Below w.heap.size w W) => Check_any (HV.out.below hb) hm hml)
  have C2 := hid (fun W (hb : Below w.heap.size w W) => RCheck_any (HV.out.below hb) hm hml)
  obtain ⟨ao, c, rfl, -⟩ := h
  obtain ⟨n, hn⟩ : ∃ n, n = ls.length := ⟨_, rfl⟩
  rw [← hn] at M1 M2 J1 J2 C1 C2 ⊢
  obtain ⟨⟨m, x, y⟩, hp⟩ : ∃ p, p = mrgP ls := ⟨_, rfl⟩
  obtain ⟨⟨j, z⟩, hq⟩ : ∃ q, q = joinP ls := ⟨_, rfl⟩
  obtain ⟨k, hk⟩ : ∃ k, k = chkN ls := ⟨_, rfl⟩
  have lm : m.length ≤ maxLen := by have := mrgP_right ls; rw [← hp] at this; exact this
  have lj : j.length ≤ maxLen := by have := joinP_right ls; rw [← hq] at this; exact this
  rw [← hp] at M1 M2
  rw [← hq] at J1 J2
  rw [← hk] at C1 C2
  have HLM := hid lm
  have HLJ := hid lj
  clear hn hm hml hp hq hk HV lm lj
  simp only at M1 M2 J1 J2
  have HW := hid awake_any
  have H0 := hid (Below.refl w.heap.size w)
  have hy : (y == y) = true := beq_self_eq_true y
  have hz : (z == z) = true := beq_self_eq_true z
  have hk : (k == k) = true := beq_self_eq_true k
  rcases bool_two x with e1 | e1 <;> subst e1
  all_goals
    go_enter Tryd.func4, Tryd.ntmps4
    go_wp2_with fail
    refine (M1.out _ H0.out).mono ?_
    rintro e w1 ⟨v1, rfl, ho, hb⟩
    have V1 := hid ho.vec
    obtain ⟨a1, n1, c1, rfl⟩ := vec_form ho.vec
    have H1 := hid hb
    clear hb ho
    go_wp2_with fail
    refine (M2.out _ H1.out).mono ?_
    rintro e w2 ⟨v2, rfl, hv, hb⟩
    have V1 := hid (V1.out.below hb)
    have V2 := hid hv
    obtain ⟨a2, n2, c2, rfl⟩ := vec_form hv
    have H2 := hid (below_tr H1.out hb)
    clear hb hv
    go_wp2_with fail
    refine (J1.out _ H2.out).mono ?_
    rintro e w3 ⟨v3, rfl, ho, hb⟩
    have V1 := hid (V1.out.below hb)
    have V2 := hid (V2.out.below hb)
    have V3 := hid ho.vec
    obtain ⟨a3, n3, c3, rfl⟩ := vec_form ho.vec
    have H3 := hid (below_tr H2.out hb)
    clear hb ho
    go_wp2_with fail
    refine (J2.out _ H3.out).mono ?_
    rintro e w4 ⟨v4, rfl, hv, hb⟩
    have V1 := hid (V1.out.below hb)
    have V2 := hid (V2.out.below hb)
    have V3 := hid (V3.out.below hb)
    have V4 := hid hv
    obtain ⟨a4, n4, c4, rfl⟩ := vec_form hv
    have H4 := hid (below_tr H3.out hb)
    clear hb hv
    go_wp2_with fail
    refine (same_self V1.out V2.out HLM.out).mono ?_
    rintro e w5 ⟨rfl, hd⟩
    have hb := drew_below hd
    have V3 := hid (V3.out.below hb)
    have V4 := hid (V4.out.below hb)
    have H5 := hid (below_tr H4.out hb)
    clear hd hb
    go_wp2_with fail
    refine (same_self V3.out V4.out HLJ.out).mono ?_
    rintro e w6 ⟨rfl, hd⟩
    have H6 := hid (below_tr H5.out (drew_below hd))
    clear hd
    go_wp2_with fail
    refine (C1.out _ H6.out).mono ?_
    rintro e w7 ⟨rfl, hb⟩
    have H7 := hid (below_tr H6.out hb)
    clear hb
    go_wp2_with fail
    refine (C2.out _ H7.out).mono ?_
    rintro e w8 ⟨rfl, hd⟩
    have H8 := hid (below_tr H7.out (drew_below hd))
    clear hd
    go_wp2_with fail
    refine (HW.out w8).mono ?_
    rintro e w9 ⟨rfl, hb⟩
    have H9 := hid (below_tr H8.out hb)
    clear hb
    go_wp2
    go_ret
    exact ⟨by rfl, H9.out⟩
end Go.Proofs.YtibbbjikehkbmaaDoor.Ve
