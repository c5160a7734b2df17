/-
  VectorGets' law.
-/
import Derived.Test.YtibbbjikehkbmaaDoorGGet
import Derived.Test.YtibbbjikehkbmaaDoorGRWith
import Derived.Test.YtibbbjikehkbmaaDoorGLMrg
namespace Go.Proofs.YtibbbjikehkbmaaDoor.Ve
open Go.RowKit

theorem withP_right (a l : List St) : (withP a l).1.length ≤ maxLen := by
  unfold withP
  by_cases h : Right a
  · rw [if_pos h]
    by_cases hd : devs l
    · rw [if_pos hd]
      have := right_len (putL_right h hd)
      unfold maxLen; simp only; omega
    · rw [if_neg hd]; simp
  · rw [if_neg h]; simp
set_option maxRecDepth 20000 in
set_option maxHeartbeats 4000000 in
theorem vgets_any {w : World} {v u : Value} {a l : List St} (d : Int) (ha : VecV w v a) (hl : VecV w u l) (la : a.length ≤ maxLen) (ll : l.length ≤ maxLen) :
    Calls Tryd.prog 3 #[v, .int .i64 d, u] w fun e w' => e = .returned (.bool true) ∧ Below w.heap.size w w' := by
  have HA := hid ha
  have HL := hid hl
  have G1 := hid (fun W (hb : Below w.heap.size w W) => Get_any d (HA.out.below hb) la)
  have G2 := hid (fun W (hb : Below w.heap.size w W) => RGet_any d (HA.out.below hb) la)
  have W1 := hid (fun W (hb : Below w.heap.size w W) => With_any (HA.out.below hb) (HL.out.below hb) la ll)
  have W2 := hid (fun W (hb : Below w.heap.size w W) => RWith_any (HA.out.below hb) (HL.out.below hb) la ll)
  obtain ⟨ao, ca, rfl, -, -, -⟩ := ha
  obtain ⟨lo, cl, rfl, -, -, -⟩ := hl
  obtain ⟨n, hn⟩ : ∃ n, n = a.length := ⟨_, rfl⟩
  obtain ⟨m, hm⟩ : ∃ m, m = l.length := ⟨_, rfl⟩
  rw [← hn] at G1 G2 W1 W2 ⊢
  rw [← hm] at W1 W2 ⊢
  obtain ⟨⟨x, y, z⟩, hp⟩ : ∃ p, p = getP a d := ⟨_, rfl⟩
  obtain ⟨⟨j, k⟩, hq⟩ : ∃ q, q = withP a l := ⟨_, rfl⟩
  have HLJ := hid (show j.length ≤ maxLen by have := withP_right a l; rw [← hq] at this; exact this)
  rw [← hp] at G1 G2
  rw [← hq] at W1 W2
  clear hn hm la ll hp hq HA HL
  simp only at G1 G2 W1 W2
  have HW := hid awake_any
  have H0 := hid (Below.refl w.heap.size w)
  have hx : ((x : Int) == (x : Int)) = true := beq_self_eq_true _
  have hz : (z == z) = true := beq_self_eq_true z
  have hk : (k == k) = true := beq_self_eq_true k
  rcases bool_two y with e1 | e1 <;> subst e1
  all_goals
    go_enter Tryd.func3, Tryd.ntmps3
    go_wp2_with fail
    refine (G1.out _ H0.out).mono ?_
    rintro e w1 ⟨rfl, hb⟩
    have H1 := hid hb
    clear hb
    go_wp2_with fail
    refine (G2.out _ H1.out).mono ?_
    rintro e w2 ⟨rfl, hb⟩
    have H2 := hid (below_tr H1.out hb)
    clear hb
    go_wp2_with fail
    refine (W1.out _ H2.out).mono ?_
    rintro e w3 ⟨v3, rfl, ho, hb⟩
    have V3 := hid ho.vec
    obtain ⟨a3, n3, c3, rfl⟩ := vec_form ho.vec
    have H3 := hid (below_tr H2.out hb)
    clear hb ho
    go_wp2_with fail
    refine (W2.out _ H3.out).mono ?_
    rintro e w4 ⟨v4, rfl, ho, hb⟩
    have V3 := hid (V3.out.below hb)
    have V4 := hid ho.vec
    obtain ⟨a4, n4, c4, rfl⟩ := vec_form ho.vec
    have H4 := hid (below_tr H3.out hb)
    clear hb ho
    go_wp2_with fail
    refine (same_self V3.out V4.out HLJ.out).mono ?_
    rintro e w5 ⟨rfl, hd⟩
    have H5 := hid (below_tr H4.out (drew_below hd))
    clear hd
    go_wp2_with fail
    refine (HW.out w5).mono ?_
    rintro e w6 ⟨rfl, hb⟩
    have H6 := hid (below_tr H5.out hb)
    clear hb
    go_wp2
    go_ret
    exact ⟨by rfl, H6.out⟩
end Go.Proofs.YtibbbjikehkbmaaDoor.Ve
