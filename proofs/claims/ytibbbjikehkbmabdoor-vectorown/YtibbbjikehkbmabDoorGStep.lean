/-
  Two rising rows gone through at once: what is taken of them, whether they agree, whether one is below the other.
-/
import Derived.Test.YtibbbjikehkbmabDoorGNext
namespace Go.Proofs.YtibbbjikehkbmabDoor.Ve

/-- What is taken of a round. -/
def pick : Option St × Option St → Option St
  | (s, none) => s
  | (none, t) => t
  | (some s, some t) => if s.2 < t.2 then some t else some s
/-- Do the two of a round agree? -/
def agB : Option St × Option St → Bool
  | (some s, some t) => decide (s = t)
  | _ => true
/-- Is a round's first one below its second one? -/
def belB : Option St × Option St → Bool
  | (some s, some t) => decide (s.2 ≤ t.2)
  | (some _, none) => false
  | (none, _) => true
/-- All that is taken. -/
def grt (a b : List St) : List St := (stepsV a b).filterMap pick

/-- Induction along the rounds. -/
theorem steps_ind {P : List St → List St → Prop} (h0 : P [] []) (h1 : ∀ s a, P a [] → P (s :: a) []) (h2 : ∀ t b, P [] b → P [] (t :: b))
    (h3 : ∀ s a t b, s.1 < t.1 → P a (t :: b) → P (s :: a) (t :: b)) (h4 : ∀ s a t b, s.1 = t.1 → P a b → P (s :: a) (t :: b)) (h5 : ∀ s a t b, t.1 < s.1 → P (s :: a) b → P (s :: a) (t :: b)) (a b : List St) : P a b := by
  have gen : ∀ (n : Nat) (a b : List St), a.length + b.length ≤ n → P a b := by
    intro n
    induction n with
    | zero =>
      intro a b h
      have ha : a = [] := List.eq_nil_of_length_eq_zero (by omega)
      have hb : b = [] := List.eq_nil_of_length_eq_zero (by omega)
      subst ha hb
      exact h0
    | succ n ih =>
      intro a b h
      cases a with
      | nil =>
        cases b with
        | nil => exact h0
        | cons t b => exact h2 t b (ih [] b (by simp at h ⊢; omega))
      | cons s a =>
        cases b with
        | nil => exact h1 s a (ih a [] (by simp at h ⊢; omega))
        | cons t b =>
          simp only [List.length_cons] at h
          rcases Int.lt_trichotomy s.1 t.1 with q | q | q
          · exact h3 s a t b q (ih _ _ (by simp only [List.length_cons]; omega))
          · exact h4 s a t b q (ih _ _ (by omega))
          · exact h5 s a t b q (ih _ _ (by simp only [List.length_cons]; omega))
  exact gen _ a b (Nat.le_refl _)
theorem steps_l (s : St) (a : List St) : stepsV (s :: a) [] = (some s, none) :: stepsV a [] := by
  rw [stepsV_next (by simp)]; rfl
theorem steps_r (t : St) (b : List St) : stepsV [] (t :: b) = (none, some t) :: stepsV [] b := by
  rw [stepsV_next (by simp)]; rfl
theorem steps_lt {s t : St} (a b : List St) (h : s.1 < t.1) : stepsV (s :: a) (t :: b) = (some s, none) :: stepsV a (t :: b) := by
  rw [stepsV_next (by simp)]
  have h1 : s.1 ≤ t.1 := by omega
  have h2 : ¬ t.1 ≤ s.1 := by omega
  simp [nxt, h1, h2]
theorem steps_eq {s t : St} (a b : List St) (h : s.1 = t.1) : stepsV (s :: a) (t :: b) = (some s, some t) :: stepsV a b := by
  rw [stepsV_next (by simp)]
  have h1 : s.1 ≤ t.1 := by omega
  have h2 : t.1 ≤ s.1 := by omega
  simp [nxt, h1, h2]
theorem steps_gt {s t : St} (a b : List St) (h : t.1 < s.1) : stepsV (s :: a) (t :: b) = (none, some t) :: stepsV (s :: a) b := by
  rw [stepsV_next (by simp)]
  have h1 : ¬ s.1 ≤ t.1 := by omega
  have h2 : t.1 ≤ s.1 := by omega
  simp [nxt, h1, h2]
theorem top_cons {x : St} {ss tt : List St} {t : St} (hx : ∃ y ∈ tt, y = x) (hle : ∀ y ∈ tt, y ∈ ss ∨ (y.1 = x.1 ∧ y.2 ≤ x.2)) (hss : ∀ y ∈ ss, y ∈ tt ∧ x.1 < y.1) : (t = x ∨ isTop ss t) ↔ isTop tt t := by
  unfold isTop
  constructor
  · rintro (rfl | ⟨h1, h2⟩)
    · obtain ⟨y, hy, rfl⟩ := hx
      refine ⟨hy, fun u hu he => ?_⟩
      rcases hle u hu with q | q
      · have := (hss u q).2; omega
      · exact q.2
    · refine ⟨(hss t h1).1, fun u hu he => ?_⟩
      rcases hle u hu with q | q
      · exact h2 u q he
      · have := (hss t h1).2; omega
  · rintro ⟨h1, h2⟩
    rcases hle t h1 with q | q
    · exact Or.inr ⟨q, fun u hu he => h2 u (hss u hu).1 he⟩
    · left
      obtain ⟨y, hy, rfl⟩ := hx
      have := h2 y hy q.1.symm
      exact Prod.ext q.1 (by omega)
theorem grt_spec (a b : List St) : Right a → Right b → Right (grt a b) ∧ ∀ t, t ∈ grt a b ↔ isTop (a ++ b) t := by
  refine steps_ind (P := fun a b => Right a → Right b → Right (grt a b) ∧ ∀ t, t ∈ grt a b ↔ isTop (a ++ b) t) ?_ ?_ ?_ ?_ ?_ ?_ a b
  · intro _ _
    exact ⟨right_nil, fun t => by simp [grt, stepsV_nil, isTop]⟩
  · intro s a ih ha hb
    obtain ⟨hs, hsa, ha⟩ := right_cons.1 ha
    obtain ⟨i1, i2⟩ := ih ha hb
    have e : grt (s :: a) [] = s :: grt a [] := by unfold grt; rw [steps_l]; rfl
    rw [e]
    refine ⟨right_cons.2 ⟨hs, fun t ht => ?_, i1⟩, fun t => ?_⟩
    · have := ((i2 t).1 ht).1
      simp at this
      exact hsa t this
    · rw [List.mem_cons, i2]
      exact top_cons ⟨s, by simp, rfl⟩ (fun y hy => by simp at hy ⊢; exact hy.elim (fun e => Or.inr (by rw [e]; exact ⟨rfl, Nat.le_refl _⟩)) Or.inl) (fun y hy => by simp at hy ⊢; exact ⟨Or.inr hy, hsa y hy⟩)
  · intro s a ih hb ha
    obtain ⟨hs, hsa, ha⟩ := right_cons.1 ha
    obtain ⟨i1, i2⟩ := ih hb ha
    have e : grt [] (s :: a) = s :: grt [] a := by unfold grt; rw [steps_r]; rfl
    rw [e]
    refine ⟨right_cons.2 ⟨hs, fun t ht => ?_, i1⟩, fun t => ?_⟩
    · have := ((i2 t).1 ht).1
      simp at this
      exact hsa t this
    · rw [List.mem_cons, i2]
      exact top_cons ⟨s, by simp, rfl⟩ (fun y hy => by simp at hy ⊢; exact hy.elim (fun e => Or.inr (by rw [e]; exact ⟨rfl, Nat.le_refl _⟩)) Or.inl) (fun y hy => by simp at hy ⊢; exact ⟨Or.inr hy, hsa y hy⟩)
  · intro s a t b q ih ha hb
    obtain ⟨hs, hsa, ha⟩ := right_cons.1 ha
    have htb := (right_cons.1 hb).2.1
    obtain ⟨i1, i2⟩ := ih ha hb
    have e : grt (s :: a) (t :: b) = s :: grt a (t :: b) := by unfold grt; rw [steps_lt a b q]; rfl
    rw [e]
    have hss : ∀ y ∈ a ++ t :: b, s.1 < y.1 := fun y hy => by
      rcases List.mem_append.1 hy with hy | hy
      · exact hsa y hy
      · rcases List.mem_cons.1 hy with rfl | hy
        · exact q
        · have := htb y hy; omega
    refine ⟨right_cons.2 ⟨hs, fun u hu => hss u ((i2 u).1 hu).1, i1⟩, fun u => ?_⟩
    rw [List.mem_cons, i2]
    exact top_cons ⟨s, by simp, rfl⟩ (fun y hy => by
      rw [List.cons_append, List.mem_cons] at hy
      rcases hy with rfl | hy
      · exact Or.inr ⟨rfl, Nat.le_refl _⟩
      · exact Or.inl hy) (fun y hy => ⟨by rw [List.cons_append, List.mem_cons]; exact Or.inr hy, hss y hy⟩)
  · intro s a t b q ih ha hb
    obtain ⟨hs, hsa, ha⟩ := right_cons.1 ha
    obtain ⟨ht, htb, hb⟩ := right_cons.1 hb
    obtain ⟨i1, i2⟩ := ih ha hb
    obtain ⟨x, hx⟩ : ∃ x, x = if s.2 < t.2 then t else s := ⟨_, rfl⟩
    have e : grt (s :: a) (t :: b) = x :: grt a b := by
      unfold grt; rw [steps_eq a b q, hx]
      by_cases h : s.2 < t.2 <;> simp [pick, h]
    rw [e]
    have hx1 : x.1 = s.1 := by rw [hx]; split <;> omega
    have hx2 : s.2 ≤ x.2 ∧ t.2 ≤ x.2 := by rw [hx]; split <;> omega
    have hss : ∀ y ∈ a ++ b, x.1 < y.1 := fun y hy => by
      rcases List.mem_append.1 hy with hy | hy
      · have := hsa y hy; omega
      · have := htb y hy; omega
    refine ⟨right_cons.2 ⟨by omega, fun u hu => hss u ((i2 u).1 hu).1, i1⟩, fun u => ?_⟩
    rw [List.mem_cons, i2]
    refine top_cons ⟨x, ?_, rfl⟩ (fun y hy => ?_) (fun y hy => ⟨?_, hss y hy⟩)
    · rw [hx]; split <;> simp
    · simp only [List.mem_append, List.mem_cons] at hy ⊢
      rcases hy with (rfl | hy) | (rfl | hy)
      · exact Or.inr ⟨hx1.symm, hx2.1⟩
      · exact Or.inl (Or.inl hy)
      · exact Or.inr ⟨by omega, hx2.2⟩
      · exact Or.inl (Or.inr hy)
    · simp only [List.mem_append, List.mem_cons] at hy ⊢
      rcases hy with hy | hy
      · exact Or.inl (Or.inr hy)
      · exact Or.inr (Or.inr hy)
  · intro s a t b q ih ha hb
    obtain ⟨ht, htb, hb⟩ := right_cons.1 hb
    have hsa := (right_cons.1 ha).2.1
    obtain ⟨i1, i2⟩ := ih ha hb
    have e : grt (s :: a) (t :: b) = t :: grt (s :: a) b := by unfold grt; rw [steps_gt a b q]; rfl
    rw [e]
    have hss : ∀ y ∈ (s :: a) ++ b, t.1 < y.1 := fun y hy => by
      rcases List.mem_append.1 hy with hy | hy
      · rcases List.mem_cons.1 hy with rfl | hy
        · exact q
        · have := hsa y hy; omega
      · exact htb y hy
    refine ⟨right_cons.2 ⟨ht, fun u hu => hss u ((i2 u).1 hu).1, i1⟩, fun u => ?_⟩
    rw [List.mem_cons, i2]
    refine top_cons ⟨t, by simp, rfl⟩ (fun y hy => ?_) (fun y hy => ⟨?_, hss y hy⟩)
    · rcases List.mem_append.1 hy with hy | hy
      · exact Or.inl (List.mem_append.2 (Or.inl hy))
      · rcases List.mem_cons.1 hy with rfl | hy
        · exact Or.inr ⟨rfl, Nat.le_refl _⟩
        · exact Or.inl (List.mem_append.2 (Or.inr hy))
    · rcases List.mem_append.1 hy with hy | hy
      · exact List.mem_append.2 (Or.inl hy)
      · exact List.mem_append.2 (Or.inr (List.mem_cons.2 (Or.inr hy)))
theorem two_right {a b : List St} (ha : Right a) (hb : Right b) : ∀ s ∈ a ++ b, 0 ≤ s.1 ∧ s.1 < 256 := fun s h => (List.mem_append.1 h).elim (ha.1 s) (hb.1 s)
theorem grt_join {a b : List St} (ha : Right a) (hb : Right b) : grt a b = joinS (a ++ b) := joinS_eq (two_right ha hb) (grt_spec a b ha hb).1 (grt_spec a b ha hb).2
theorem mem_both {p q r : Prop} : (p ∨ q) ∨ (p ∨ r) ↔ p ∨ (q ∨ r) :=
  ⟨fun h => h.elim (fun h => h.elim Or.inl (fun h => Or.inr (Or.inl h))) (fun h => h.elim Or.inl (fun h => Or.inr (Or.inr h))), fun h => h.elim (fun h => Or.inl (Or.inl h)) (fun h => h.elim (fun h => Or.inl (Or.inr h)) (fun h => Or.inr (Or.inr h)))⟩
theorem mem_second {p q r s : Prop} : (p ∨ q) ∨ (r ∨ s) ↔ r ∨ ((p ∨ q) ∨ s) :=
  ⟨fun h => h.elim (fun h => Or.inr (Or.inl h)) (fun h => h.elim Or.inl (fun h => Or.inr (Or.inr h))), fun h => h.elim (fun h => Or.inr (Or.inl h)) (fun h => h.elim Or.inl (fun h => Or.inr (Or.inr h)))⟩
/-- What two say who agree, ahead of the rest. -/
theorem agrS_step {x : List St} {ss tt : List St} (hm : ∀ u, u ∈ tt ↔ u ∈ x ∨ u ∈ ss) (hx : ∀ u ∈ x, ∀ v ∈ ss, u.1 < v.1) (hy : agrS x) : agrS tt ↔ agrS ss := by
  constructor
  · intro h u hu v hv e
    exact h u ((hm u).2 (Or.inr hu)) v ((hm v).2 (Or.inr hv)) e
  · intro h u hu v hv e
    rcases (hm u).1 hu with hu | hu <;> rcases (hm v).1 hv with hv | hv
    · exact hy u hu v hv e
    · have := hx u hu v hv; omega
    · have := hx v hv u hu; omega
    · exact h u hu v hv e
theorem agr_spec (a b : List St) : Right a → Right b → ((stepsV a b).all agB = true ↔ agrS (a ++ b)) := by
  refine steps_ind (P := fun a b => Right a → Right b → ((stepsV a b).all agB = true ↔ agrS (a ++ b))) ?_ ?_ ?_ ?_ ?_ ?_ a b
  · intro _ _
    exact ⟨fun _ s hs => by simp at hs, fun _ => rfl⟩
  · intro s a ih ha hb
    obtain ⟨hs, hsa, ha⟩ := right_cons.1 ha
    rw [steps_l, List.all_cons, show agB (some s, none) = true from rfl, Bool.true_and, ih ha hb]
    refine (agrS_step (x := [s]) (fun u => by simp) (fun u hu v hv => ?_) (fun u hu v hv _ => ?_)).symm
    · simp at hu hv; subst hu; exact hsa v hv
    · simp at hu hv; subst hu hv; rfl
  · intro s a ih hb ha
    obtain ⟨hs, hsa, ha⟩ := right_cons.1 ha
    rw [steps_r, List.all_cons, show agB (none, some s) = true from rfl, Bool.true_and, ih hb ha]
    refine (agrS_step (x := [s]) (fun u => by simp) (fun u hu v hv => ?_) (fun u hu v hv _ => ?_)).symm
    · simp at hu hv; subst hu; exact hsa v hv
    · simp at hu hv; subst hu hv; rfl
  · intro s a t b q ih ha hb
    obtain ⟨hs, hsa, ha⟩ := right_cons.1 ha
    have htb := (right_cons.1 hb).2.1
    rw [steps_lt a b q, List.all_cons, show agB (some s, none) = true from rfl, Bool.true_and, ih ha hb]
    refine (agrS_step (x := [s]) (fun u => by simp) (fun u hu v hv => ?_) (fun u hu v hv _ => ?_)).symm
    · rw [List.mem_singleton.1 hu]
      rcases List.mem_append.1 hv with hv | hv
      · exact hsa v hv
      · rcases List.mem_cons.1 hv with rfl | hv
        · exact q
        · have := htb v hv; omega
    · rw [List.mem_singleton.1 hu, List.mem_singleton.1 hv]
  · intro s a t b q ih ha hb
    obtain ⟨hs, hsa, ha⟩ := right_cons.1 ha
    obtain ⟨ht, htb, hb⟩ := right_cons.1 hb
    rw [steps_eq a b q, List.all_cons, Bool.and_eq_true, ih ha hb]
    by_cases e : s = t
    · subst e
      have h1 : agB (some s, some s) = true := by simp [agB]
      rw [h1]
      simp only [true_and]
      refine (agrS_step (x := [s]) (fun u => by simp only [List.mem_append, List.mem_cons, List.not_mem_nil, or_false]; exact mem_both) (fun u hu v hv => ?_) (fun u hu v hv _ => ?_)).symm
      · rw [List.mem_singleton.1 hu]
        exact (List.mem_append.1 hv).elim (hsa v) (htb v)
      · rw [List.mem_singleton.1 hu, List.mem_singleton.1 hv]
    · have h1 : agB (some s, some t) = false := by simp [agB, e]
      rw [h1]
      refine ⟨fun h => by simp at h, fun h => absurd ?_ e⟩
      exact Prod.ext q (h s (by simp) t (by simp) q)
  · intro s a t b q ih ha hb
    obtain ⟨ht, htb, hb⟩ := right_cons.1 hb
    have hsa := (right_cons.1 ha).2.1
    rw [steps_gt a b q, List.all_cons, show agB (none, some t) = true from rfl, Bool.true_and, ih ha hb]
    refine (agrS_step (x := [t]) (fun u => by simp only [List.mem_append, List.mem_cons, List.not_mem_nil, or_false]; exact mem_second) (fun u hu v hv => ?_) (fun u hu v hv _ => ?_)).symm
    · rw [List.mem_singleton.1 hu]
      rcases List.mem_append.1 hv with hv | hv
      · rcases List.mem_cons.1 hv with rfl | hv
        · exact q
        · have := hsa v hv; omega
      · exact htb v hv
    · rw [List.mem_singleton.1 hu, List.mem_singleton.1 hv]
theorem below_iff {a b : List St} (hb : Right b) : below a b ↔ ∀ s ∈ a, ∃ t ∈ b, t.1 = s.1 ∧ s.2 ≤ t.2 := by
  unfold below
  constructor
  · intro h s hs
    obtain ⟨n, h1, h2⟩ := h s hs
    exact ⟨(s.1, n), get_mem h1, rfl, h2⟩
  · intro h s hs
    obtain ⟨t, h1, h2, h3⟩ := h s hs
    refine ⟨t.2, (mem_get hb).2 ?_, h3⟩
    rw [← h2]
    exact h1
theorem bel_spec (a b : List St) : Right a → Right b → ((stepsV a b).all belB = true ↔ below a b) := by
  have key : ∀ a b : List St, Right a → Right b → ((stepsV a b).all belB = true ↔ ∀ s ∈ a, ∃ t ∈ b, t.1 = s.1 ∧ s.2 ≤ t.2) := by
    intro a b
    refine steps_ind (P := fun a b => Right a → Right b → ((stepsV a b).all belB = true ↔ ∀ s ∈ a, ∃ t ∈ b, t.1 = s.1 ∧ s.2 ≤ t.2)) ?_ ?_ ?_ ?_ ?_ ?_ a b
    · intro _ _
      exact ⟨fun _ s hs => by simp at hs, fun _ => rfl⟩
    · intro s a ih ha hb
      rw [steps_l, List.all_cons, show belB (some s, none) = false from rfl, Bool.false_and]
      refine ⟨fun h => by simp at h, fun h => ?_⟩
      obtain ⟨t, ht, _⟩ := h s (by simp)
      simp at ht
    · intro t b ih ha hb
      obtain ⟨_, _, hb⟩ := right_cons.1 hb
      rw [steps_r, List.all_cons, show belB (none, some t) = true from rfl, Bool.true_and, ih ha hb]
      exact ⟨fun _ s hs => by simp at hs, fun _ s hs => by simp at hs⟩
    · intro s a t b q ih ha hb
      have htb := (right_cons.1 hb).2.1
      rw [steps_lt a b q, List.all_cons, show belB (some s, none) = false from rfl, Bool.false_and]
      refine ⟨fun h => by simp at h, fun h => ?_⟩
      obtain ⟨u, hu, h1, _⟩ := h s (by simp)
      rcases List.mem_cons.1 hu with rfl | hu
      · omega
      · have := htb u hu; omega
    · intro s a t b q ih ha hb
      obtain ⟨hs, hsa, ha⟩ := right_cons.1 ha
      obtain ⟨ht, htb, hb⟩ := right_cons.1 hb
      rw [steps_eq a b q, List.all_cons, Bool.and_eq_true, ih ha hb, show belB (some s, some t) = decide (s.2 ≤ t.2) from rfl, decide_eq_true_iff]
      constructor
      · rintro ⟨h1, h2⟩ u hu
        rcases List.mem_cons.1 hu with rfl | hu
        · exact ⟨t, by simp, q.symm, h1⟩
        · obtain ⟨x, hx, h3⟩ := h2 u hu
          exact ⟨x, by simp [hx], h3⟩
      · intro h
        refine ⟨?_, fun u hu => ?_⟩
        · obtain ⟨x, hx, h1, h2⟩ := h s (by simp)
          rcases List.mem_cons.1 hx with rfl | hx
          · exact h2
          · have := htb x hx; omega
        · obtain ⟨x, hx, h1, h2⟩ := h u (by simp [hu])
          rcases List.mem_cons.1 hx with rfl | hx
          · have := hsa u hu; omega
          · exact ⟨x, hx, h1, h2⟩
    · intro s a t b q ih ha hb
      obtain ⟨ht, htb, hb⟩ := right_cons.1 hb
      have hsa := (right_cons.1 ha).2.1
      rw [steps_gt a b q, List.all_cons, show belB (none, some t) = true from rfl, Bool.true_and, ih ha hb]
      constructor
      · intro h u hu
        obtain ⟨x, hx, h3⟩ := h u hu
        exact ⟨x, by simp [hx], h3⟩
      · intro h u hu
        obtain ⟨x, hx, h1, h2⟩ := h u hu
        rcases List.mem_cons.1 hx with rfl | hx
        · rcases List.mem_cons.1 hu with rfl | hu
          · omega
          · have := hsa u hu; omega
        · exact ⟨x, hx, h1, h2⟩
  intro ha hb
  rw [key a b ha hb, below_iff hb]
end Go.Proofs.YtibbbjikehkbmabDoor.Ve
