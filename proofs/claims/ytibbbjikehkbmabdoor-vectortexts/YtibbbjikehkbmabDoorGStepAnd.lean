/-
  What greatest has so far: a row of one's own in a box, whether all agree; one stamp more.
  Check: which vectors may be; both sides.
  Two rising rows gone through at once: what is taken of them, whether they agree, whether one is below the other.
-/
import Derived.Test.YtibbbjikehkbmabDoorGRangeAnd
import Derived.Test.YtibbbjikehkbmabDoorGMathAnd
import Derived.Maps.AppendAt
namespace Go.Proofs.YtibbbjikehkbmabDoor.Ve

/-- What is taken of a round. -/
def pick : Option St × Option St → Option St
  | (s, none) => s
  | (none, t) => t
  | (some s, some t) => if s.2 < t.2 then some t else some s
/-- Do the two of a round agree? -/
def agB : Option St × Option St → Bool
  | (some s, some t) => decide (s = t)
  | _ => true
/-- Is a round's first one below its second one? -/
def belB : Option St × Option St → Bool
  | (some s, some t) => decide (s.2 ≤ t.2)
  | (some _, none) => false
  | (none, _) => true
/-- All that is taken. -/
def grt (a b : List St) : List St := (stepsV a b).filterMap pick

/-- Induction along the rounds. -/
theorem steps_ind {P : List St → List St → Prop} (h0 : P [] []) (h1 : ∀ s a, P a [] → P (s :: a) []) (h2 : ∀ t b, P [] b → P [] (t :: b))
    (h3 : ∀ s a t b, s.1 < t.1 → P a (t :: b) → P (s :: a) (t :: b)) (h4 : ∀ s a t b, s.1 = t.1 → P a b → P (s :: a) (t :: b)) (h5 : ∀ s a t b, t.1 < s.1 → P (s :: a) b → P (s :: a) (t :: b)) (a b : List St) : P a b := by
  have gen : ∀ (n : Nat) (a b : List St), a.length + b.length ≤ n → P a b := by
    intro n
    induction n with
    | zero =>
      intro a b h
      have ha : a = [] := List.eq_nil_of_length_eq_zero (by omega)
      have hb : b = [] := List.eq_nil_of_length_eq_zero (by omega)
      subst ha hb
      exact h0
    | succ n ih =>
      intro a b h
      cases a with
      | nil =>
        cases b with
        | nil => exact h0
        | cons t b => exact h2 t b (ih [] b (by simp at h ⊢; omega))
      | cons s a =>
        cases b with
        | nil => exact h1 s a (ih a [] (by simp at h ⊢; omega))
        | cons t b =>
          simp only [List.length_cons] at h
          rcases Int.lt_trichotomy s.1 t.1 with q | q | q
          · exact h3 s a t b q (ih _ _ (by simp only [List.length_cons]; omega))
          · exact h4 s a t b q (ih _ _ (by omega))
          · exact h5 s a t b q (ih _ _ (by simp only [List.length_cons]; omega))
  exact gen _ a b (Nat.le_refl _)
theorem steps_l (s : St) (a : List St) : stepsV (s :: a) [] = (some s, none) :: stepsV a [] := by
  rw [stepsV_next (by simp)]; rfl
theorem steps_r (t : St) (b : List St) : stepsV [] (t :: b) = (none, some t) :: stepsV [] b := by
  rw [stepsV_next (by simp)]; rfl
theorem steps_lt {s t : St} (a b : List St) (h : s.1 < t.1) : stepsV (s :: a) (t :: b) = (some s, none) :: stepsV a (t :: b) := by
  rw [stepsV_next (by simp)]
  have h1 : s.1 ≤ t.1 := by omega
  have h2 : ¬ t.1 ≤ s.1 := by omega
  simp [nxt, h1, h2]
theorem steps_eq {s t : St} (a b : List St) (h : s.1 = t.1) : stepsV (s :: a) (t :: b) = (some s, some t) :: stepsV a b := by
  rw [stepsV_next (by simp)]
  have h1 : s.1 ≤ t.1 := by omega
  have h2 : t.1 ≤ s.1 := by omega
  simp [nxt, h1, h2]
theorem steps_gt {s t : St} (a b : List St) (h : t.1 < s.1) : stepsV (s :: a) (t :: b) = (none, some t) :: stepsV (s :: a) b := by
  rw [stepsV_next (by simp)]
  have h1 : ¬ s.1 ≤ t.1 := by omega
  have h2 : t.1 ≤ s.1 := by omega
  simp [nxt, h1, h2]
theorem top_cons {x : St} {ss tt : List St} {t : St} (hx : ∃ y ∈ tt, y = x) (hle : ∀ y ∈ tt, y ∈ ss ∨ (y.1 = x.1 ∧ y.2 ≤ x.2)) (hss : ∀ y ∈ ss, y ∈ tt ∧ x.1 < y.1) : (t = x ∨ isTop ss t) ↔ isTop tt t := by
  unfold isTop
  constructor
  · rintro (rfl | ⟨h1, h2⟩)
    · obtain ⟨y, hy, rfl⟩ := hx
      refine ⟨hy, fun u hu he => ?_⟩
      rcases hle u hu with q | q
      · have := (hss u q).2; omega
      · exact q.2
    · refine ⟨(hss t h1).1, fun u hu he => ?_⟩
      rcases hle u hu with q | q
      · exact h2 u q he
      · have := (hss t h1).2; omega
  · rintro ⟨h1, h2⟩
    rcases hle t h1 with q | q
    · exact Or.inr ⟨q, fun u hu he => h2 u (hss u hu).1 he⟩
    · left
      obtain ⟨y, hy, rfl⟩ := hx
      have := h2 y hy q.1.symm
      exact Prod.ext q.1 (by omega)
theorem grt_spec (a b : List St) : Right a → Right b → Right (grt a b) ∧ ∀ t, t ∈ grt a b ↔ isTop (a ++ b) t := by
  refine steps_ind (P := fun a b => Right a → Right b → Right (grt a b) ∧ ∀ t, t ∈ grt a b ↔ isTop (a ++ b) t) ?_ ?_ ?_ ?_ ?_ ?_ a b
  · intro _ _
    exact ⟨right_nil, fun t => by simp [grt, stepsV_nil, isTop]⟩
  · intro s a ih ha hb
    obtain ⟨hs, hsa, ha⟩ := right_cons.1 ha
    obtain ⟨i1, i2⟩ := ih ha hb
    have e : grt (s :: a) [] = s :: grt a [] := by unfold grt; rw [steps_l]; rfl
    rw [e]
    refine ⟨right_cons.2 ⟨hs, fun t ht => ?_, i1⟩, fun t => ?_⟩
    · have := ((i2 t).1 ht).1
      simp at this
      exact hsa t this
    · rw [List.mem_cons, i2]
      exact top_cons ⟨s, by simp, rfl⟩ (fun y hy => by simp at hy ⊢; exact hy.elim (fun e => Or.inr (by rw [e]; exact ⟨rfl, Nat.le_refl _⟩)) Or.inl) (fun y hy => by simp at hy ⊢; exact ⟨Or.inr hy, hsa y hy⟩)
  · intro s a ih hb ha
    obtain ⟨hs, hsa, ha⟩ := right_cons.1 ha
    obtain ⟨i1, i2⟩ := ih hb ha
    have e : grt [] (s :: a) = s :: grt [] a := by unfold grt; rw [steps_r]; rfl
    rw [e]
    refine ⟨right_cons.2 ⟨hs, fun t ht => ?_, i1⟩, fun t => ?_⟩
    · have := ((i2 t).1 ht).1
      simp at this
      exact hsa t this
    · rw [List.mem_cons, i2]
      exact top_cons ⟨s, by simp, rfl⟩ (fun y hy => by simp at hy ⊢; exact hy.elim (fun e => Or.inr (by rw [e]; exact ⟨rfl, Nat.le_refl _⟩)) Or.inl) (fun y hy => by simp at hy ⊢; exact ⟨Or.inr hy, hsa y hy⟩)
  · intro s a t b q ih ha hb
    obtain ⟨hs, hsa, ha⟩ := right_cons.1 ha
    have htb := (right_cons.1 hb).2.1
    obtain ⟨i1, i2⟩ := ih ha hb
    have e : grt (s :: a) (t :: b) = s :: grt a (t :: b) := by unfold grt; rw [steps_lt a b q]; rfl
    rw [e]
    have hss : ∀ y ∈ a ++ t :: b, s.1 < y.1 := fun y hy => by
      rcases List.mem_append.1 hy with hy | hy
      · exact hsa y hy
      · rcases List.mem_cons.1 hy with rfl | hy
        · exact q
        · have := htb y hy; omega
    refine ⟨right_cons.2 ⟨hs, fun u hu => hss u ((i2 u).1 hu).1, i1⟩, fun u => ?_⟩
    rw [List.mem_cons, i2]
    exact top_cons ⟨s, by simp, rfl⟩ (fun y hy => by
      rw [List.cons_append, List.mem_cons] at hy
      rcases hy with rfl | hy
      · exact Or.inr ⟨rfl, Nat.le_refl _⟩
      · exact Or.inl hy) (fun y hy => ⟨by rw [List.cons_append, List.mem_cons]; exact Or.inr hy, hss y hy⟩)
  · intro s a t b q ih ha hb
    obtain ⟨hs, hsa, ha⟩ := right_cons.1 ha
    obtain ⟨ht, htb, hb⟩ := right_cons.1 hb
    obtain ⟨i1, i2⟩ := ih ha hb
    obtain ⟨x, hx⟩ : ∃ x, x = if s.2 < t.2 then t else s := ⟨_, rfl⟩
    have e : grt (s :: a) (t :: b) = x :: grt a b := by
      unfold grt; rw [steps_eq a b q, hx]
      by_cases h : s.2 < t.2 <;> simp [pick, h]
    rw [e]
    have hx1 : x.1 = s.1 := by rw [hx]; split <;> omega
    have hx2 : s.2 ≤ x.2 ∧ t.2 ≤ x.2 := by rw [hx]; split <;> omega
    have hss : ∀ y ∈ a ++ b, x.1 < y.1 := fun y hy => by
      rcases List.mem_append.1 hy with hy | hy
      · have := hsa y hy; omega
      · have := htb y hy; omega
    refine ⟨right_cons.2 ⟨by omega, fun u hu => hss u ((i2 u).1 hu).1, i1⟩, fun u => ?_⟩
    rw [List.mem_cons, i2]
    refine top_cons ⟨x, ?_, rfl⟩ (fun y hy => ?_) (fun y hy => ⟨?_, hss y hy⟩)
    · rw [hx]; split <;> simp
    · simp only [List.mem_append, List.mem_cons] at hy ⊢
      rcases hy with (rfl | hy) | (rfl | hy)
      · exact Or.inr ⟨hx1.symm, hx2.1⟩
      · exact Or.inl (Or.inl hy)
      · exact Or.inr ⟨by omega, hx2.2⟩
      · exact Or.inl (Or.inr hy)
    · simp only [List.mem_append, List.mem_cons] at hy ⊢
      rcases hy with hy | hy
      · exact Or.inl (Or.inr hy)
      · exact Or.inr (Or.inr hy)
  · intro s a t b q ih ha hb
    obtain ⟨ht, htb, hb⟩ := right_cons.1 hb
    have hsa := (right_cons.1 ha).2.1
    obtain ⟨i1, i2⟩ := ih ha hb
    have e : grt (s :: a) (t :: b) = t :: grt (s :: a) b := by unfold grt; rw [steps_gt a b q]; rfl
    rw [e]
    have hss : ∀ y ∈ (s :: a) ++ b, t.1 < y.1 := fun y hy => by
      rcases List.mem_append.1 hy with hy | hy
      · rcases List.mem_cons.1 hy with rfl | hy
        · exact q
        · have := hsa y hy; omega
      · exact htb y hy
    refine ⟨right_cons.2 ⟨ht, fun u hu => hss u ((i2 u).1 hu).1, i1⟩, fun u => ?_⟩
    rw [List.mem_cons, i2]
    refine top_cons ⟨t, by simp, rfl⟩ (fun y hy => ?_) (fun y hy => ⟨?_, hss y hy⟩)
    · rcases List.mem_append.1 hy with hy | hy
      · exact Or.inl (List.mem_append.2 (Or.inl hy))
      · rcases List.mem_cons.1 hy with rfl | hy
        · exact Or.inr ⟨rfl, Nat.le_refl _⟩
        · exact Or.inl (List.mem_append.2 (Or.inr hy))
    · rcases List.mem_append.1 hy with hy | hy
      · exact List.mem_append.2 (Or.inl hy)
      · exact List.mem_append.2 (Or.inr (List.mem_cons.2 (Or.inr hy)))
theorem two_right {a b : List St} (ha : Right a) (hb : Right b) : ∀ s ∈ a ++ b, 0 ≤ s.1 ∧ s.1 < 256 := fun s h => (List.mem_append.1 h).elim (ha.1 s) (hb.1 s)
theorem grt_join {a b : List St} (ha : Right a) (hb : Right b) : grt a b = joinS (a ++ b) := joinS_eq (two_right ha hb) (grt_spec a b ha hb).1 (grt_spec a b ha hb).2
theorem mem_both {p q r : Prop} : (p ∨ q) ∨ (p ∨ r) ↔ p ∨ (q ∨ r) :=
  ⟨fun h => h.elim (fun h => h.elim Or.inl (fun h => Or.inr (Or.inl h))) (fun h => h.elim Or.inl (fun h => Or.inr (Or.inr h))), fun h => h.elim (fun h => Or.inl (Or.inl h)) (fun h => h.elim (fun h => Or.inl (Or.inr h)) (fun h => Or.inr (Or.inr h)))⟩
theorem mem_second {p q r s : Prop} : (p ∨ q) ∨ (r ∨ s) ↔ r ∨ ((p ∨ q) ∨ s) :=
  ⟨fun h => h.elim (fun h => Or.inr (Or.inl h)) (fun h => h.elim Or.inl (fun h => Or.inr (Or.inr h))), fun h => h.elim (fun h => Or.inr (Or.inl h)) (fun h => h.elim Or.inl (fun h => Or.inr (Or.inr h)))⟩
/-- What two say who agree, ahead of the rest. -/
theorem agrS_step {x : List St} {ss tt : List St} (hm : ∀ u, u ∈ tt ↔ u ∈ x ∨ u ∈ ss) (hx : ∀ u ∈ x, ∀ v ∈ ss, u.1 < v.1) (hy : agrS x) : agrS tt ↔ agrS ss := by
  constructor
  · intro h u hu v hv e
    exact h u ((hm u).2 (Or.inr hu)) v ((hm v).2 (Or.inr hv)) e
  · intro h u hu v hv e
    rcases (hm u).1 hu with hu | hu <;> rcases (hm v).1 hv with hv | hv
    · exact hy u hu v hv e
    · have := hx u hu v hv; omega
    · have := hx v hv u hu; omega
    · exact h u hu v hv e
theorem agr_spec (a b : List St) : Right a → Right b → ((stepsV a b).all agB = true ↔ agrS (a ++ b)) := by
  refine steps_ind (P := fun a b => Right a → Right b → ((stepsV a b).all agB = true ↔ agrS (a ++ b))) ?_ ?_ ?_ ?_ ?_ ?_ a b
  · intro _ _
    exact ⟨fun _ s hs => by simp at hs, fun _ => rfl⟩
  · intro s a ih ha hb
    obtain ⟨hs, hsa, ha⟩ := right_cons.1 ha
    rw [steps_l, List.all_cons, show agB (some s, none) = true from rfl, Bool.true_and, ih ha hb]
    refine (agrS_step (x := [s]) (fun u => by simp) (fun u hu v hv => ?_) (fun u hu v hv _ => ?_)).symm
    · simp at hu hv; subst hu; exact hsa v hv
    · simp at hu hv; subst hu hv; rfl
  · intro s a ih hb ha
    obtain ⟨hs, hsa, ha⟩ := right_cons.1 ha
    rw [steps_r, List.all_cons, show agB (none, some s) = true from rfl, Bool.true_and, ih hb ha]
    refine (agrS_step (x := [s]) (fun u => by simp) (fun u hu v hv => ?_) (fun u hu v hv _ => ?_)).symm
    · simp at hu hv; subst hu; exact hsa v hv
    · simp at hu hv; subst hu hv; rfl
  · intro s a t b q ih ha hb
    obtain ⟨hs, hsa, ha⟩ := right_cons.1 ha
    have htb := (right_cons.1 hb).2.1
    rw [steps_lt a b q, List.all_cons, show agB (some s, none) = true from rfl, Bool.true_and, ih ha hb]
    refine (agrS_step (x := [s]) (fun u => by simp) (fun u hu v hv => ?_) (fun u hu v hv _ => ?_)).symm
    · rw [List.mem_singleton.1 hu]
      rcases List.mem_append.1 hv with hv | hv
      · exact hsa v hv
      · rcases List.mem_cons.1 hv with rfl | hv
        · exact q
        · have := htb v hv; omega
    · rw [List.mem_singleton.1 hu, List.mem_singleton.1 hv]
  · intro s a t b q ih ha hb
    obtain ⟨hs, hsa, ha⟩ := right_cons.1 ha
    obtain ⟨ht, htb, hb⟩ := right_cons.1 hb
    rw [steps_eq a b q, List.all_cons, Bool.and_eq_true, ih ha hb]
    by_cases e : s = t
    · subst e
      have h1 : agB (some s, some s) = true := by simp [agB]
      rw [h1]
      simp only [true_and]
      refine (agrS_step (x := [s]) (fun u => by simp only [List.mem_append, List.mem_cons, List.not_mem_nil, or_false]; exact mem_both) (fun u hu v hv => ?_) (fun u hu v hv _ => ?_)).symm
      · rw [List.mem_singleton.1 hu]
        exact (List.mem_append.1 hv).elim (hsa v) (htb v)
      · rw [List.mem_singleton.1 hu, List.mem_singleton.1 hv]
    · have h1 : agB (some s, some t) = false := by simp [agB, e]
      rw [h1]
      refine ⟨fun h => by simp at h, fun h => absurd ?_ e⟩
      exact Prod.ext q (h s (by simp) t (by simp) q)
  · intro s a t b q ih ha hb
    obtain ⟨ht, htb, hb⟩ := right_cons.1 hb
    have hsa := (right_cons.1 ha).2.1
    rw [steps_gt a b q, List.all_cons, show agB (none, some t) = true from rfl, Bool.true_and, ih ha hb]
    refine (agrS_step (x := [t]) (fun u => by simp only [List.mem_append, List.mem_cons, List.not_mem_nil, or_false]; exact mem_second) (fun u hu v hv => ?_) (fun u hu v hv _ => ?_)).symm
    · rw [List.mem_singleton.1 hu]
      rcases List.mem_append.1 hv with hv | hv
      · rcases List.mem_cons.1 hv with rfl | hv
        · exact q
        · have := hsa v hv; omega
      · exact htb v hv
    · rw [List.mem_singleton.1 hu, List.mem_singleton.1 hv]
theorem below_iff {a b : List St} (hb : Right b) : below a b ↔ ∀ s ∈ a, ∃ t ∈ b, t.1 = s.1 ∧ s.2 ≤ t.2 := by
  unfold below
  constructor
  · intro h s hs
    obtain ⟨n, h1, h2⟩ := h s hs
    exact ⟨(s.1, n), get_mem h1, rfl, h2⟩
  · intro h s hs
    obtain ⟨t, h1, h2, h3⟩ := h s hs
    refine ⟨t.2, (mem_get hb).2 ?_, h3⟩
    rw [← h2]
    exact h1
theorem bel_spec (a b : List St) : Right a → Right b → ((stepsV a b).all belB = true ↔ below a b) := by
  have key : ∀ a b : List St, Right a → Right b → ((stepsV a b).all belB = true ↔ ∀ s ∈ a, ∃ t ∈ b, t.1 = s.1 ∧ s.2 ≤ t.2) := by
    intro a b
    refine steps_ind (P := fun a b => Right a → Right b → ((stepsV a b).all belB = true ↔ ∀ s ∈ a, ∃ t ∈ b, t.1 = s.1 ∧ s.2 ≤ t.2)) ?_ ?_ ?_ ?_ ?_ ?_ a b
    · intro _ _
      exact ⟨fun _ s hs => by simp at hs, fun _ => rfl⟩
    · intro s a ih ha hb
      rw [steps_l, List.all_cons, show belB (some s, none) = false from rfl, Bool.false_and]
      refine ⟨fun h => by simp at h, fun h => ?_⟩
      obtain ⟨t, ht, _⟩ := h s (by simp)
      simp at ht
    · intro t b ih ha hb
      obtain ⟨_, _, hb⟩ := right_cons.1 hb
      rw [steps_r, List.all_cons, show belB (none, some t) = true from rfl, Bool.true_and, ih ha hb]
      exact ⟨fun _ s hs => by simp at hs, fun _ s hs => by simp at hs⟩
    · intro s a t b q ih ha hb
      have htb := (right_cons.1 hb).2.1
      rw [steps_lt a b q, List.all_cons, show belB (some s, none) = false from rfl, Bool.false_and]
      refine ⟨fun h => by simp at h, fun h => ?_⟩
      obtain ⟨u, hu, h1, _⟩ := h s (by simp)
      rcases List.mem_cons.1 hu with rfl | hu
      · omega
      · have := htb u hu; omega
    · intro s a t b q ih ha hb
      obtain ⟨hs, hsa, ha⟩ := right_cons.1 ha
      obtain ⟨ht, htb, hb⟩ := right_cons.1 hb
      rw [steps_eq a b q, List.all_cons, Bool.and_eq_true, ih ha hb, show belB (some s, some t) = decide (s.2 ≤ t.2) from rfl, decide_eq_true_iff]
      constructor
      · rintro ⟨h1, h2⟩ u hu
        rcases List.mem_cons.1 hu with rfl | hu
        · exact ⟨t, by simp, q.symm, h1⟩
        · obtain ⟨x, hx, h3⟩ := h2 u hu
          exact ⟨x, by simp [hx], h3⟩
      · intro h
        refine ⟨?_, fun u hu => ?_⟩
        · obtain ⟨x, hx, h1, h2⟩ := h s (by simp)
          rcases List.mem_cons.1 hx with rfl | hx
          · exact h2
          · have := htb x hx; omega
        · obtain ⟨x, hx, h1, h2⟩ := h u (by simp [hu])
          rcases List.mem_cons.1 hx with rfl | hx
          · have := hsa u hu; omega
          · exact ⟨x, hx, h1, h2⟩
    · intro s a t b q ih ha hb
      obtain ⟨ht, htb, hb⟩ := right_cons.1 hb
      have hsa := (right_cons.1 ha).2.1
      rw [steps_gt a b q, List.all_cons, show belB (none, some t) = true from rfl, Bool.true_and, ih ha hb]
      constructor
      · intro h u hu
        obtain ⟨x, hx, h3⟩ := h u hu
        exact ⟨x, by simp [hx], h3⟩
      · intro h u hu
        obtain ⟨x, hx, h1, h2⟩ := h u hu
        rcases List.mem_cons.1 hx with rfl | hx
        · rcases List.mem_cons.1 hu with rfl | hu
          · omega
          · have := hsa u hu; omega
        · exact ⟨x, hx, h1, h2⟩
  intro ha hb
  rw [key a b ha hb, below_iff hb]
end Go.Proofs.YtibbbjikehkbmabDoor.Ve
namespace Go.Proofs.YtibbbjikehkbmabDoor.Ve
open Go.RowKit

theorem devB_iff {d : Int} : devB d = true ↔ 0 ≤ d ∧ d < 256 := by unfold devB; exact decide_eq_true_iff
theorem devB_not {d : Int} : devB d = false ↔ ¬ (0 ≤ d ∧ d < 256) := by unfold devB; exact decide_eq_false_iff_not
theorem chkN_ok {ls : List (List St)} (h : ∀ l ∈ ls, Right l) : chkN ls = 0 := by unfold chkN; rw [if_pos h]
theorem chkN_bad {ls : List (List St)} {l : List St} (hl : l ∈ ls) (h : ¬ Right l) : chkN ls = 160 := by unfold chkN; rw [if_neg (fun q => h (q l hl))]
theorem not_right_of_take {l : List St} {k : Nat} (h : ¬ Right (l.take k)) : ¬ Right l := fun q => h (right_of_take q k)

set_option maxRecDepth 20000 in
set_option maxHeartbeats 4000000 in
theorem Check_any {w : World} {v : Value} {ls : List (List St)} (h : VecsV w v ls) (hm : ls.length ≤ maxLen) (hml : ∀ l ∈ ls, l.length ≤ maxLen) :
    Calls Tryd.prog 16 #[v] w fun e w' => e = .returned (.int .i64 (chkN ls)) ∧ Below w.heap.size w w' := by
  obtain ⟨ao, c, rfl, -, -, hr⟩ := h
  obtain ⟨n, hn⟩ : ∃ n, n = ls.length := ⟨_, rfl⟩
  have HN := hid hn
  rw [← hn] at hm ⊢
  have HR := hid hr
  have HML := hid hml
  unfold maxLen at hm
  clear hn hr hml
  go_enter Tryd.func16, Tryd.ntmps16
  go_wp2_with fail
  go_loopw [4, 5, 6, 9, 13, 14, 15] (fun _ _ _ i _ _ _ wr => ∃ k : Nat, k ≤ n ∧ i = .int .i64 k ∧ Hid (Below w.heap.size w wr) ∧ Hid (∀ l ∈ ls.take k, Right l)) (fun _ _ _ i _ _ _ _ => n - (intOf i).toNat)
  case atStart => exact ⟨0, Nat.zero_le _, rfl, Below.refl _ _, fun l hl => by simp at hl⟩
  case round =>
    obtain ⟨k, hk, rfl, HB, HA⟩ := hrel
    by_cases hlt : k < n
    · obtain ⟨l, hl⟩ : ∃ l, ls[k]? = some l := ⟨_, List.getElem?_eq_getElem (by rw [← HN.out]; exact hlt)⟩
      obtain ⟨g, o, rfl, hg, hc⟩ := (HR.out.below HB.out).resolve_left (fun e => by rw [e] at hl; simp at hl)
      obtain ⟨vl, hvl, ao, cl, rfl, -, -, hrow⟩ := hc k l hl
      have hll := HML.out l (List.mem_of_getElem? hl)
      obtain ⟨m, hmm⟩ : ∃ m, m = l.length := ⟨_, rfl⟩
      rw [← hmm] at hvl hll
      have HM := hid hmm
      have HL := hid hl
      have HROW := hid hrow
      have kI : (k : Int) < (n : Int) := by omega
      have k0 : (0 : Int) ≤ (k : Int) := by omega
      unfold maxLen at hll
      rename World => wo
      clear hl hrow hc hmm
      go_wp2_with fail
      go_loopw [5, 6, 15] (fun _ _ i wr => ∃ j : Nat, j ≤ m ∧ i = .int .i64 j ∧ Hid (Below wo.heap.size wo wr) ∧ Hid (Right (l.take j))) (fun _ _ i _ => m - (intOf i).toNat)
      case atStart => exact ⟨0, Nat.zero_le _, rfl, Below.refl _ _, by show Right _; simp; exact right_nil⟩
      case round =>
        obtain ⟨j, hj, rfl, HB2, HA2⟩ := hrel
        by_cases hjm : j < m
        · obtain ⟨⟨d, u⟩, hs⟩ : ∃ s, l[j]? = some s := ⟨_, List.getElem?_eq_getElem (by rw [← HM.out]; exact hjm)⟩
          obtain ⟨g', o', rfl, hg', hc'⟩ := (HROW.out.below HB2.out).resolve_left (fun e => by rw [e] at hs; simp at hs)
          obtain ⟨c0, c1⟩ := hc' j _ hs
          have HTK := hid (right_take hs)
          have HMEM := hid (List.mem_of_getElem? HL.out)
          have HBB := hid (below_tr HB.out HB2.out)
          simp only at c0 c1
          have jI : (j : Int) < (m : Int) := by omega
          have j0 : (0 : Int) ≤ (j : Int) := by omega
          have HD := hid (isDev_any d)
          rcases bool_two (devB d) with hd | hd
          · rw [hd] at HD
            have HE := hid (chkN_bad HMEM.out (not_right_of_take (k := j + 1) (fun q => devB_not.1 hd (HTK.out.1 q).2.1)))
            clear hd hs hc'
            go_wp2_with fail
            go_quiet (((go_at_call 17; exact Calls.quiet_of_same (HD.out _))))
            go_wp2
            go_ret
            exact ⟨by rw [HE.out]; rfl, below_drewN (HBB.out.alloc HBB.out.size _)⟩
          · rw [hd] at HD
            have hdv := devB_iff.1 hd
            by_cases hj0 : j = 0
            · have HR2 := hid (show Right (l.take (j + 1)) from HTK.out.2 ⟨HA2.out, hdv, fun p t h => by omega⟩)
              have hjz : decide (0 < j) = false := by rw [hj0]; rfl
              clear hd hs hc' hj0
              go_wp2_with fail
              go_quiet (((go_at_call 17; exact Calls.quiet_of_same (HD.out _))))
              go_wp2
              go_roundw
              case rel => exact ⟨j + 1, by omega, by go_num, below_drewN (HB2.out.alloc HB2.out.size _), HR2.out⟩
              case measure => simp [intOf]; omega
            · obtain ⟨t, rfl⟩ : ∃ t, j = t + 1 := ⟨j - 1, by omega⟩
              obtain ⟨⟨d', u'⟩, hs'⟩ : ∃ s, l[t]? = some s := ⟨_, List.getElem?_eq_getElem (by have := HM.out; omega)⟩
              obtain ⟨p0, p1⟩ := hc' t _ hs'
              simp only at p0 p1
              have hw1 : IntKind.i64.wrap (((t + 1 : Nat) : Int) - 1) = (t : Int) := by rw [IntKind.wrap_i64]; omega
              have t0 : (0 : Int) ≤ (t : Int) := by omega
              have t1 : (t : Int) < (m : Int) := by omega
              have jp : (0 : Int) < ((t + 1 : Nat) : Int) := by omega
              by_cases hle : d ≤ d'
              · have HE := hid (chkN_bad HMEM.out (not_right_of_take (k := t + 1 + 1) (fun q => by
                  have := (HTK.out.1 q).2.2 t _ rfl hs'
                  simp only at this
                  omega)))
                clear hd hs hc' hs'
                go_wp2_with fail
                go_quiet (((go_at_call 17; exact Calls.quiet_of_same (HD.out _))))
                go_wp2
                go_ret
                exact ⟨by rw [HE.out]; rfl, below_drewN (HBB.out.alloc HBB.out.size _)⟩
              · have HR2 := hid (show Right (l.take (t + 1 + 1)) from HTK.out.2 ⟨HA2.out, hdv, fun p x hp hx => by
                  obtain rfl : t = p := by omega
                  rw [hs'] at hx
                  cases hx
                  show d' < d
                  omega⟩)
                clear hd hs hc' hs'
                go_wp2_with fail
                go_quiet (((go_at_call 17; exact Calls.quiet_of_same (HD.out _))))
                go_wp2
                go_roundw
                case rel => exact ⟨t + 1 + 1, by omega, by go_num, below_drewN (HB2.out.alloc HB2.out.size _), HR2.out⟩
                case measure => simp [intOf]; omega
        · have hjm' : j = m := by omega
          have HR2 := hid (show ∀ x ∈ ls.take (k + 1), Right x from fun x hx => by
            have e : ls.take (k + 1) = ls.take k ++ [l] := by rw [List.take_add_one, HL.out]; rfl
            rw [e] at hx
            rcases List.mem_append.1 hx with hx | hx
            · exact HA.out x hx
            · rw [List.mem_singleton.1 hx]
              have := HA2.out
              rw [hjm', HM.out, List.take_length] at this
              exact this)
          have jI : ¬ (j : Int) < (m : Int) := by omega
          clear hjm'
          go_wp2
          go_roundw
          case rel => exact ⟨k + 1, by omega, by go_num, below_tr HB.out HB2.out, HR2.out⟩
          case measure => simp [intOf]; omega
    · have hkn : k = n := by omega
      have kI : ¬ (k : Int) < (n : Int) := by omega
      have HE := hid (chkN_ok (ls := ls) (fun l hl => HA.out l (by rw [hkn, HN.out, List.take_length]; exact hl)))
      clear hkn
      go_wp2
      go_ret
      exact ⟨by rw [HE.out]; rfl, HB.out⟩
end Go.Proofs.YtibbbjikehkbmabDoor.Ve
namespace Go.Proofs.YtibbbjikehkbmabDoor.Ve
open Go.RowKit Go.Shelf
attribute [local go_sem] Oper.semAt_some

def GrI (n0 N : Nat) (w0 : World) (B4 B5 ba bb bc : Nat) (xs : List St) (ag : Bool) (W : World) : Prop :=
  (∃ v, Boxed W B4 23 v ∧ W.ownsRow n0 33 2 v xs.length (flatS xs) ∧ ∀ q, q = ba ∨ q = bb ∨ q = bc → v.ownBlock ≠ some q) ∧ Boxed W B5 4 (.bool ag) ∧ Below n0 w0 W ∧ N ≤ W.heap.size
theorem grI_own {α : Type} {n0 N B B4 B5 ba bb bc : Nat} {w0 : World} (hn : n0 ≤ w0.heap.size) (hB : n0 ≤ B) (f : List α → List St) (g : List α → Bool) : OwnFrom B (fun s W => GrI n0 N w0 B4 B5 ba bb bc (f s) (g s) W) :=
  OwnFrom.and (Own.from (holdsRow_own n0 B4 23 33 2 (fun s => (f s).length) (fun s => flatS (f s)) (fun _ v => ∀ q, q = ba ∨ q = bb ∨ q = bc → v.ownBlock ≠ some q)) _)
    (OwnFrom.and (Own.from (boxed_own B5 4 (fun s => .bool (g s))) _) (OwnFrom.and (ownFrom_below hn hB) (fun _ _ _ _ hs hg _ => Nat.le_trans hs hg.size)))
theorem row_kept {W W' : World} {n0 n : Nat} {r : Option Nat} {v : Value} {xs : List Value} (h : W.ownsRow n0 33 2 v n xs) (hg : W.grownBy W' r) (hr : ∀ q, r = some q → v.ownBlock ≠ some q) : W'.ownsRow n0 33 2 v n xs := by
  obtain ⟨h1, h2⟩ := h
  refine ⟨h1, ?_⟩
  rcases h2 with h2 | ⟨g, cap, cur, e, hB, hh, rest⟩
  · exact Or.inl h2
  · refine Or.inr ⟨g, cap, cur, e, hB, (hg.block g (lt_of_block hh) (fun e' => hr g e'.symm (by rw [e]; rfl))).trans hh, rest⟩
theorem grI_bears {α : Type} {n0 N B4 B5 ba bb bc : Nat} {w0 : World} (hn : n0 ≤ w0.heap.size) (ha : n0 ≤ ba) (hb : n0 ≤ bb) (h4 : B4 ≠ ba ∧ B4 ≠ bb) (h5 : B5 ≠ ba ∧ B5 ≠ bb) (f : List α → List St) (g : List α → Bool) : Bears (fun q => q = ba ∨ q = bb) (fun s W => GrI n0 N w0 B4 B5 ba bb bc (f s) (g s) W) := by
  rintro s A B ⟨⟨v, hv, hr, hG⟩, hv5, hlow, hz⟩ st
  obtain ⟨r, hg, hr'⟩ := id st
  refine ⟨⟨v, bears_boxed (own := fun q => q = ba ∨ q = bb) (fun _ : List α => v) (by omega) s A B hv st, row_kept hr hg (fun q hq => hG q (by rcases hr' q hq with e | e <;> simp [e])), hG⟩, bears_boxed (own := fun q => q = ba ∨ q = bb) (fun s : List α => .bool (g s)) (by omega) s A B hv5 st, bears_below ha hb hn s A B hlow st, Nat.le_trans hz hg.size⟩
def appV (ts : Array TypeId) (ty : TypeId) (args : Array Value) : Sem Value := Builtin.append_ ts ty args
theorem appV_fold {ts : Array TypeId} {ty : TypeId} {args : Array Value} : Builtin.append_ ts ty args = appV ts ty args := rfl
theorem own_block {W : World} {n0 n q : Nat} {v : Value} {xs : List Value} (h : W.ownsRow n0 33 2 v n xs) (e : v.ownBlock = some q) : n0 ≤ q ∧ ∃ cs, W.heap[q]? = some (.cells cs 33 (0, 0)) := by
  rcases h.2 with ⟨e', _⟩ | ⟨g, cap, cur, e', hB, hh, _⟩
  · rw [e'] at e; cases e
  · rw [e'] at e
    have : g = q := by
      injection e
    subst this
    exact ⟨hB, _, hh⟩
/-- One stamp more. -/
theorem gr_app {n0 N B4 B5 ba bb bc : Nat} {w0 W : World} {xs : List St} {ag : Bool} (h : GrI n0 N w0 B4 B5 ba bb bc xs ag W) (hn : n0 ≤ w0.heap.size) (h45 : B4 ≠ B5) (h4 : n0 ≤ B4) (hb4 : ∀ q, q = ba ∨ q = bb ∨ q = bc → q ≠ B4 ∧ q < N) (hlen : xs.length ≤ 600) (NB : Nat) :
    ∃ a n c, W.cell? ⟨B4, 0, none⟩ = some (.slice a n c) ∧ (∀ o, (W.alloc o).drew.cell? ⟨B4, 0, none⟩ = some (.slice a n c)) ∧ ∀ s : St, ∃ a' c' w2, (appV #[23, 23] 23 #[.slice a n c, .slice (some ⟨W.heap.size, 0, none⟩) 1 1]).run Tryd.prog (W.alloc (.cells #[.int .i64 s.1, .int .u64 (s.2 : Int)] 33)).drew = .ok (.slice a' (n + 1) c') w2 ∧
      w2.cell? ⟨B4, 0, none⟩ = some (.slice a n c) ∧ w2.frozen? ⟨B4, 0, none⟩ = false ∧ Hid (GrI n0 N w0 B4 B5 ba bb bc (xs ++ [s]) ag (w2.setCell ⟨B4, 0, none⟩ (.slice a' (n + 1) c'))) ∧ Hid (KeepsFrom NB W (w2.setCell ⟨B4, 0, none⟩ (.slice a' (n + 1) c'))) ∧ Hid (KIt n0 ba bb bc W (w2.setCell ⟨B4, 0, none⟩ (.slice a' (n + 1) c'))) := by
  obtain ⟨⟨v, hv, hr, hG⟩, hv5, hlow, hz⟩ := h
  obtain ⟨a, c, rfl⟩ := OwnS.form hr
  have hb : Below W.heap.size W W.drew := (Below.refl _ _).drew
  refine ⟨a, xs.length, c, hv.cell, fun o => (Boxed.alloc (show Boxed W.drew B4 _ _ from hv) o).cell, fun s => ?_⟩
  obtain ⟨o, ho⟩ : ∃ o, o = Obj.cells #[.int .i64 s.1, .int .u64 (s.2 : Int)] 33 := ⟨_, rfl⟩
  have hX : Below W.heap.size W (W.drew.alloc o) := hb.alloc (Nat.le_refl _) _
  have hnew : (W.drew.alloc o).heap[W.heap.size]? = some o := by rw [ho]; exact new_0 W.drew _
  have hrX := own_keptS hr (hX.mono (Nat.le_refl _))
  obtain ⟨i0, hi, hz0, hz1, hz2⟩ := info_parts info_stamp
  rw [← ho]
  obtain ⟨v', w2, hrun, hown, hgr, _, hob⟩ := run_append_own_at (P := Tryd.prog) (W.drew.alloc o) n0 23 23 33 i0 (.agg #[.int .i64 0, .int .u64 0]) 2 16 Tryd.underlying23 hi hz0 hz1 hz2 rfl (by decide) (.slice a xs.length c) xs.length (flatS xs) hrX ⟨W.heap.size, 0, none⟩ 1 1 [.int .i64 s.1, .int .u64 (s.2 : Int)] rfl (World.news_of_block (by rw [hnew, ho])) (by simp [Value.oneCell']) (by unfold maxLen; omega) (by omega) (by have := hlow.size; simp; omega)
  subst ho
  obtain ⟨hO2, hL2, a', c', rfl⟩ := OwnS.next (n := xs.length + 1) (B := n0) (W := W.drew) (s := s) hlow.drew (by have := hlow.size; simp; omega) (show OwnS W.drew n0 _ xs from own_keptS hr hb) rfl hown hgr
  have hvX := Boxed.alloc (show Boxed W.drew B4 _ _ from hv) (.cells #[.int .i64 s.1, .int .u64 (s.2 : Int)] 33)
  have hv2 := hvX.kept hgr (hvX.not_row (by decide) hrX)
  have h5X := Boxed.alloc (show Boxed W.drew B5 _ _ from hv5) (.cells #[.int .i64 s.1, .int .u64 (s.2 : Int)] 33)
  have h52 := h5X.kept hgr (h5X.not_row (by decide) hrX)
  have hne : (Value.slice a' (xs.length + 1) c').ownBlock ≠ some B4 := fun e => by
    obtain ⟨_, cs, hc⟩ := own_block hown e
    rw [show w2.heap[B4]? = _ from hv2] at hc
    cases hc
  have hB : Below n0 W (w2.setCell ⟨B4, 0, none⟩ (.slice a' (xs.length + 1) c')) := by
    have h1 : Below n0 W W.drew := (Below.refl _ W).drew
    have h2 := (h1.alloc (by have := hlow.size; simp; omega) (.cells #[.int .i64 s.1, .int .u64 (s.2 : Int)] 33)).grown hgr (by have := hlow.size; simp; omega) (fun q hq => (own_block hrX hq).1)
    exact h2.setCell (p := ⟨B4, 0, none⟩) h4 _
  refine ⟨a', c', w2, hrun, hv2.cell, hv2.frozen, ⟨⟨_, hv2.set _, ?_, ?_⟩, h52.other (fun e => h45 e.symm) _, hL2.setCell (p := ⟨B4, 0, none⟩) h4 _, ?_⟩, ?_, ?_⟩
  · rw [List.length_append, flatS_append]
    exact row_kept hown (grownBy_setCell' w2 B4 _) (fun q hq => by cases hq; exact hne)
  · intro q hq e
    rcases hob with hob | hob
    · exact hG q hq (hob.symm.trans e)
    · rw [hob] at e
      injection e with e
      have := (hb4 q hq).2
      simp at e
      omega
  · have := hgr.size
    simp at this ⊢
    omega
  · refine KeepsOthers.from ?_ _
    refine ((KeepsOthers.of_grownBy (grown_of_below none hX) (fun j o ej _ => by cases ej)).trans (KeepsOthers.of_grownBy hgr (fun j o ej hj => ?_))).trans (KeepsOthers.setCell _ _ _)
    obtain ⟨_, cs, hc⟩ := own_block hrX ej
    rw [hc] at hj
    cases hj
    rfl
  · refine ⟨hB, fun q hq ty u hu => ?_⟩
    have hu1 := Boxed.alloc (show Boxed W.drew q _ _ from hu) (.cells #[.int .i64 s.1, .int .u64 (s.2 : Int)] 33)
    exact (hu1.kept hgr (fun e => hG q hq e.symm)).other (hb4 q hq).1 _
/-- Whether all agree, anew. -/
theorem gr_fin {n0 N B4 B5 ba bb bc NB nq : Nat} {w0 W W3 : World} {xs : List St} {ag : Bool} (h : GrI n0 N w0 B4 B5 ba bb bc xs ag W3) (hK : KeepsFrom NB W W3) (hT : KIt n0 ba bb bc W W3) (h45 : B4 ≠ B5) (h5 : n0 ≤ B5) (hb5 : ∀ q, q = ba ∨ q = bb ∨ q = bc → q ≠ B5) (ag' : Bool) :
    KeepsFrom NB W ((W3.drewN nq).setCell ⟨B5, 0, none⟩ (.bool ag')) ∧ KIt n0 ba bb bc W ((W3.drewN nq).setCell ⟨B5, 0, none⟩ (.bool ag')) ∧ GrI n0 N w0 B4 B5 ba bb bc xs ag' ((W3.drewN nq).setCell ⟨B5, 0, none⟩ (.bool ag')) := by
  obtain ⟨⟨v, hv, hr, hG⟩, hv5, hlow, hz⟩ := h
  have hd : Below W3.heap.size W3 (W3.drewN nq) := below_drewN (Below.refl _ _)
  have hne : v.ownBlock ≠ some B5 := fun e => by
    obtain ⟨_, cs, hc⟩ := own_block hr e
    rw [show W3.heap[B5]? = _ from hv5] at hc
    cases hc
  refine ⟨hK.trans (KeepsOthers.from ((KeepsOthers.of_grownBy (grown_of_below none hd) (fun j o ej _ => by cases ej)).trans (KeepsOthers.setCell _ _ _)) _), ⟨hT.1.trans ((below_drewN (Below.refl _ _)).setCell (p := ⟨B5, 0, none⟩) h5 _), fun q hq ty u hu => ?_⟩, ⟨v, (show Boxed (W3.drewN nq) B4 _ _ from hv).other h45 _, row_kept (own_keptS hr hd) (grownBy_setCell' _ B5 _) (fun q hq => by cases hq; exact hne), hG⟩, (show Boxed (W3.drewN nq) B5 _ _ from hv5).set _, (below_drewN hlow).setCell (p := ⟨B5, 0, none⟩) h5 _, ?_⟩
  · exact (show Boxed (W3.drewN nq) q ty u from hT.2 q hq ty u hu).other (hb5 q hq) _
  · simp
    exact hz
theorem grI_drewN {n0 N B4 B5 ba bb bc : Nat} {w0 W : World} {xs : List St} {ag : Bool} (h : GrI n0 N w0 B4 B5 ba bb bc xs ag W) (nq : Nat) : GrI n0 N w0 B4 B5 ba bb bc xs ag (W.drewN nq) := by
  obtain ⟨⟨v, hv, hr, hG⟩, hv5, hlow, hz⟩ := h
  exact ⟨⟨v, hv, own_keptS hr (below_drewN (Below.refl _ _)), hG⟩, hv5, below_drewN hlow, hz⟩
theorem keeps_drewN (NB : Nat) (W : World) (nq : Nat) : KeepsFrom NB W (W.drewN nq) := KeepsOthers.from (KeepsOthers.of_grownBy (grown_of_below none (below_drewN (Below.refl _ W))) (fun j o ej _ => by cases ej)) _
theorem kIt_drewN (n0 ba bb bc : Nat) (W : World) (nq : Nat) : KIt n0 ba bb bc W (W.drewN nq) := ⟨below_drewN (Below.refl _ _), fun _ _ _ _ h => h⟩
end Go.Proofs.YtibbbjikehkbmabDoor.Ve
