/-
  To be below is an order; the join is the least above (mathematics).
-/
import Derived.Test.YtibbbjikehkbmaaDoorGBel
namespace Go.Proofs.YtibbbjikehkbmaaDoor.Ve

/-- Below, as a Bool. -/
def belB2 (a b : List St) : Bool := (stepsV a b).all belB
theorem belB2_iff {a b : List St} (ha : Right a) (hb : Right b) : belB2 a b = true ↔ ∀ s ∈ a, ∃ t ∈ b, t.1 = s.1 ∧ s.2 ≤ t.2 := by
  unfold belB2
  rw [bel_spec a b ha hb, below_iff hb]
theorem belB2_refl {a : List St} (ha : Right a) : belB2 a a = true := (belB2_iff ha ha).2 fun s hs => ⟨s, hs, rfl, Nat.le_refl _⟩
theorem belB2_trans {a b c : List St} (ha : Right a) (hb : Right b) (hc : Right c) (h1 : belB2 a b = true) (h2 : belB2 b c = true) : belB2 a c = true := (belB2_iff ha hc).2 fun s hs => by
  obtain ⟨t, ht, e1, l1⟩ := (belB2_iff ha hb).1 h1 s hs
  obtain ⟨u, hu, e2, l2⟩ := (belB2_iff hb hc).1 h2 t ht
  exact ⟨u, hu, e2.trans e1, Nat.le_trans l1 l2⟩
theorem belB2_anti {a b : List St} (ha : Right a) (hb : Right b) (h1 : belB2 a b = true) (h2 : belB2 b a = true) : a = b := by
  have key : ∀ {a b : List St}, Right a → Right b → belB2 a b = true → belB2 b a = true → ∀ s ∈ a, s ∈ b := by
    intro a b ha hb h1 h2 s hs
    obtain ⟨t, ht, e1, l1⟩ := (belB2_iff ha hb).1 h1 s hs
    obtain ⟨u, hu, e2, l2⟩ := (belB2_iff hb ha).1 h2 t ht
    have : u = s := right_one ha hu hs (e2.trans e1)
    subst this
    have : t = u := Prod.ext e1 (by omega)
    rw [← this]
    exact ht
  exact right_ext ha hb fun s => ⟨key ha hb h1 h2 s, key hb ha h2 h1 s⟩
theorem belB2_left {a b : List St} (ha : Right a) (hb : Right b) : belB2 a (joinS (a ++ b)) = true := by
  have h2 := two_right ha hb
  refine (belB2_iff ha (mem_joinS h2).1).2 fun s hs => ?_
  obtain ⟨t, t1, t2, t3⟩ := top_over (ss := a ++ b) (List.mem_append.2 (Or.inl hs))
  exact ⟨t, ((mem_joinS h2).2 t).2 t1, t2, t3⟩
theorem belB2_right {a b : List St} (ha : Right a) (hb : Right b) : belB2 b (joinS (a ++ b)) = true := by
  have h2 := two_right ha hb
  refine (belB2_iff hb (mem_joinS h2).1).2 fun s hs => ?_
  obtain ⟨t, t1, t2, t3⟩ := top_over (ss := a ++ b) (List.mem_append.2 (Or.inr hs))
  exact ⟨t, ((mem_joinS h2).2 t).2 t1, t2, t3⟩
theorem belB2_least {a b c : List St} (ha : Right a) (hb : Right b) (hc : Right c) : belB2 (joinS (a ++ b)) c = (belB2 a c && belB2 b c) := by
  have h2 := two_right ha hb
  have hj := (mem_joinS h2).1
  rw [Bool.eq_iff_iff, Bool.and_eq_true]
  constructor
  · intro h
    exact ⟨belB2_trans ha hj hc (belB2_left ha hb) h, belB2_trans hb hj hc (belB2_right ha hb) h⟩
  · rintro ⟨h1, h3⟩
    refine (belB2_iff hj hc).2 fun s hs => ?_
    have := (((mem_joinS h2).2 s).1 hs).1
    rcases List.mem_append.1 this with hs | hs
    · exact (belB2_iff ha hc).1 h1 s hs
    · exact (belB2_iff hb hc).1 h3 s hs
theorem belP_ok {a b : List St} (ha : Right a) (hb : Right b) : belP a b = (belB2 a b, 0) := by
  unfold belP belB2
  rw [if_pos (chkN_ok (fun l hl => by simp at hl; rcases hl with rfl | rfl <;> assumption))]
theorem belP_bad {a b : List St} (h : ¬ (Right a ∧ Right b)) : belP a b = (false, 160) := by
  have h1 : chkN [a, b] = 160 := by
    unfold chkN
    rw [if_neg (fun q => h ⟨q a (by simp), q b (by simp)⟩)]
  unfold belP
  rw [h1, if_neg (by decide)]
theorem chk3_bad {a b c : List St} (h : ¬ (Right a ∧ Right b ∧ Right c)) : chkN [a, b, c] = 160 := by
  unfold chkN
  rw [if_neg (fun q => h ⟨q a (by simp), q b (by simp), q c (by simp)⟩)]
end Go.Proofs.YtibbbjikehkbmaaDoor.Ve
