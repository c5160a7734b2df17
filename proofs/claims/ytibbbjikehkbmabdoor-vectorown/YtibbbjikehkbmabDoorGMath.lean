/-
  Vectors of versions: the mathematics.
-/
import Derived.Test.YtibbbjikehkbmabDoorRows
namespace Go.Proofs.YtibbbjikehkbmabDoor.Ve

/-- A stamp: a device, a version. -/
abbrev St := Int × Nat
/-- May a row of stamps be a vector? -/
def Right (v : List St) : Prop := (∀ s ∈ v, 0 ≤ s.1 ∧ s.1 < 256) ∧ v.Pairwise fun a b => a.1 < b.1
instance (v : List St) : Decidable (Right v) := by unfold Right; infer_instance
/-- A device's version. -/
def getV (v : List St) (d : Int) : Option Nat := (v.find? fun s => s.1 == d).map Prod.snd
/-- Are all of some rows vectors? -/
def chkN (l : List (List St)) : Int := if ∀ v ∈ l, Right v then 0 else 160
/-- A stamp in its place. -/
def putV (v : List St) (s : St) : List St := v.filter (fun t => decide (t.1 < s.1)) ++ s :: v.filter (fun t => decide (s.1 < t.1))
/-- A stamp in its place, if it is greater than what is there. -/
def putM (v : List St) (s : St) : List St := match getV v s.1 with | none => putV v s | some n => if n < s.2 then putV v s else v
/-- The greatest version of each device of some stamps. -/
def joinS (ss : List St) : List St := ss.foldl putM []
/-- Do stamps agree? -/
def agrS (ss : List St) : Prop := ∀ s ∈ ss, ∀ t ∈ ss, s.1 = t.1 → s.2 = t.2
instance (ss : List St) : Decidable (agrS ss) := by unfold agrS; infer_instance
/-- Has b a version at least as great of each device of a? -/
def below (a b : List St) : Prop := ∀ s ∈ a, ∃ n, getV b s.1 = some n ∧ s.2 ≤ n

theorem right_nil : Right [] := ⟨fun _ h => (by cases h), List.Pairwise.nil⟩
theorem right_snoc {l : List St} {s : St} : Right (l ++ [s]) ↔ Right l ∧ (0 ≤ s.1 ∧ s.1 < 256) ∧ ∀ t ∈ l, t.1 < s.1 := by
  unfold Right
  rw [List.pairwise_append]
  constructor
  · rintro ⟨h, h1, _, h2⟩
    exact ⟨⟨fun t ht => h t (by simp [ht]), h1⟩, h s (by simp), fun t ht => h2 t ht s (by simp)⟩
  · rintro ⟨⟨h, h1⟩, hs, h2⟩
    refine ⟨fun t ht => ?_, h1, by simp, fun t ht u hu => ?_⟩
    · rcases List.mem_append.1 ht with ht | ht
      · exact h t ht
      · rw [List.mem_singleton.1 ht]; exact hs
    · rw [List.mem_singleton.1 hu]; exact h2 t ht
theorem right_cons {l : List St} {s : St} : Right (s :: l) ↔ (0 ≤ s.1 ∧ s.1 < 256) ∧ (∀ t ∈ l, s.1 < t.1) ∧ Right l := by
  unfold Right
  rw [List.pairwise_cons]
  constructor
  · rintro ⟨h, h1, h2⟩
    exact ⟨h s (by simp), h1, fun t ht => h t (by simp [ht]), h2⟩
  · rintro ⟨hs, h1, h, h2⟩
    refine ⟨fun t ht => ?_, h1, h2⟩
    rcases List.mem_cons.1 ht with rfl | ht
    · exact hs
    · exact h t ht
theorem right_append {a b : List St} : Right (a ++ b) ↔ Right a ∧ Right b ∧ ∀ s ∈ a, ∀ t ∈ b, s.1 < t.1 := by
  unfold Right
  rw [List.pairwise_append]
  constructor
  · rintro ⟨h, h1, h2, h3⟩
    exact ⟨⟨fun t ht => h t (by simp [ht]), h1⟩, ⟨fun t ht => h t (by simp [ht]), h2⟩, h3⟩
  · rintro ⟨⟨h, h1⟩, ⟨k, h2⟩, h3⟩
    exact ⟨fun t ht => (List.mem_append.1 ht).elim (h t) (k t), h1, h2, h3⟩
theorem right_filter {v : List St} (h : Right v) (p : St → Bool) : Right (v.filter p) := ⟨fun s hs => h.1 s (List.mem_filter.1 hs).1, h.2.filter p⟩
/-- The row up to a place: what the check asks there. -/
theorem right_take {v : List St} {k : Nat} {s : St} (hs : v[k]? = some s) : Right (v.take (k + 1)) ↔ Right (v.take k) ∧ (0 ≤ s.1 ∧ s.1 < 256) ∧ ∀ p t, k = p + 1 → v[p]? = some t → t.1 < s.1 := by
  have e : v.take (k + 1) = v.take k ++ [s] := by
    rw [List.take_add_one, hs]; rfl
  rw [e, right_snoc]
  constructor
  · rintro ⟨h1, h2, h3⟩
    refine ⟨h1, h2, fun p t hp ht => h3 t ?_⟩
    exact List.mem_of_getElem? (i := p) (by rw [List.getElem?_take, if_pos (by omega)]; exact ht)
  · rintro ⟨h1, h2, h3⟩
    refine ⟨h1, h2, fun t ht => ?_⟩
    obtain ⟨i, hi⟩ := List.getElem?_of_mem ht
    rw [List.getElem?_take] at hi
    split at hi
    · rename_i hik
      obtain ⟨p, rfl⟩ : ∃ p, k = p + 1 := ⟨k - 1, by omega⟩
      have hlen := (List.getElem?_eq_some_iff.1 hs).1
      obtain ⟨u, hu⟩ : ∃ u, v[p]? = some u := ⟨v[p], List.getElem?_eq_getElem _⟩
      have hpu := h3 p u rfl hu
      by_cases hip : i = p
      · subst hip
        rw [hu] at hi
        cases hi
        exact hpu
      · have ht' : (v.take (p + 1))[i]? = some t := by rw [List.getElem?_take, if_pos hik]; exact hi
        have hu' : (v.take (p + 1))[p]? = some u := by rw [List.getElem?_take, if_pos (by omega)]; exact hu
        obtain ⟨a1, a2⟩ := List.getElem?_eq_some_iff.1 ht'
        obtain ⟨b1, b2⟩ := List.getElem?_eq_some_iff.1 hu'
        have := List.pairwise_iff_getElem.1 h1.2 i p a1 b1 (by omega)
        rw [a2, b2] at this
        omega
    · cases hi
theorem right_of_take {v : List St} (h : Right v) (k : Nat) : Right (v.take k) := ⟨fun s hs => h.1 s (List.mem_of_mem_take hs), h.2.sublist (List.take_sublist k v)⟩
theorem right_of_drop {v : List St} (h : Right v) (k : Nat) : Right (v.drop k) := ⟨fun s hs => h.1 s (List.mem_of_mem_drop hs), h.2.sublist (List.drop_sublist k v)⟩
theorem right_lt {v : List St} (h : Right v) {i j : Nat} {a b : St} (ha : v[i]? = some a) (hb : v[j]? = some b) (hij : i < j) : a.1 < b.1 := by
  obtain ⟨a1, a2⟩ := List.getElem?_eq_some_iff.1 ha
  obtain ⟨b1, b2⟩ := List.getElem?_eq_some_iff.1 hb
  have := List.pairwise_iff_getElem.1 h.2 i j a1 b1 hij
  rw [a2, b2] at this
  exact this
theorem right_at {v : List St} (h : Right v) {i : Nat} {a : St} (ha : v[i]? = some a) : (i : Int) ≤ a.1 := by
  induction i generalizing a with
  | zero => exact (h.1 a (List.mem_of_getElem? ha)).1
  | succ i ih =>
    have hlen := (List.getElem?_eq_some_iff.1 ha).1
    obtain ⟨u, hu⟩ : ∃ u, v[i]? = some u := ⟨v[i], List.getElem?_eq_getElem _⟩
    have := ih hu
    have := right_lt h hu ha (by omega)
    omega
theorem right_len {v : List St} (h : Right v) : v.length ≤ 256 := by
  rcases Nat.eq_zero_or_pos v.length with e | e
  · omega
  · obtain ⟨u, hu⟩ : ∃ u, v[v.length - 1]? = some u := ⟨v[v.length - 1], List.getElem?_eq_getElem _⟩
    have := right_at h hu
    have := (h.1 u (List.mem_of_getElem? hu)).2
    omega
theorem right_one {v : List St} (h : Right v) {s t : St} (hs : s ∈ v) (ht : t ∈ v) (e : s.1 = t.1) : s = t := by
  obtain ⟨i, hi⟩ := List.getElem?_of_mem hs
  obtain ⟨j, hj⟩ := List.getElem?_of_mem ht
  rcases Nat.lt_trichotomy i j with q | q | q
  · have := right_lt h hi hj q; omega
  · subst q; rw [hi] at hj; cases hj; rfl
  · have := right_lt h hj hi q; omega
theorem get_mem {v : List St} {d : Int} {n : Nat} (h : getV v d = some n) : (d, n) ∈ v := by
  unfold getV at h
  cases e : v.find? fun s => s.1 == d with
  | none => rw [e] at h; cases h
  | some s =>
    rw [e] at h
    have h1 := List.mem_of_find?_eq_some e
    have h2 := List.find?_some e
    simp at h2 h
    obtain ⟨a, b⟩ := s
    simp at h2 h
    subst h2 h
    exact h1
theorem get_none {v : List St} {d : Int} (h : getV v d = none) (n : Nat) : (d, n) ∉ v := by
  unfold getV at h
  rw [Option.map_eq_none_iff, List.find?_eq_none] at h
  intro hm
  exact h _ hm (by simp)
theorem mem_get {v : List St} (h : Right v) {d : Int} {n : Nat} : getV v d = some n ↔ (d, n) ∈ v := by
  refine ⟨get_mem, fun hm => ?_⟩
  cases e : getV v d with
  | none => exact absurd hm (get_none e n)
  | some m =>
    have := right_one h (get_mem e) hm rfl
    cases this
    rfl
theorem right_ext {a b : List St} (ha : Right a) (hb : Right b) (h : ∀ s, s ∈ a ↔ s ∈ b) : a = b := by
  induction a generalizing b with
  | nil =>
    cases b with
    | nil => rfl
    | cons y b => exact absurd ((h y).2 (by simp)) (by simp)
  | cons x a ih =>
    cases b with
    | nil => exact absurd ((h x).1 (by simp)) (by simp)
    | cons y b =>
      obtain ⟨_, hx, ha'⟩ := right_cons.1 ha
      obtain ⟨_, hy, hb'⟩ := right_cons.1 hb
      have hxy : x = y := by
        rcases List.mem_cons.1 ((h x).1 (by simp)) with e | e
        · exact e
        · rcases List.mem_cons.1 ((h y).2 (by simp)) with e' | e'
          · exact e'.symm
          · have := hx y e'
            have := hy x e
            omega
      subst hxy
      congr 1
      refine ih ha' hb' fun s => ⟨fun hs => ?_, fun hs => ?_⟩
      · rcases List.mem_cons.1 ((h s).1 (by simp [hs])) with e | e
        · subst e; have := hx s hs; omega
        · exact e
      · rcases List.mem_cons.1 ((h s).2 (by simp [hs])) with e | e
        · subst e; have := hy s hs; omega
        · exact e
theorem mem_putV {v : List St} {s t : St} : t ∈ putV v s ↔ t = s ∨ (t ∈ v ∧ t.1 ≠ s.1) := by
  unfold putV
  rw [List.mem_append, List.mem_cons, List.mem_filter, List.mem_filter, decide_eq_true_iff, decide_eq_true_iff]
  constructor
  · rintro (⟨h1, h2⟩ | h | ⟨h1, h2⟩)
    · exact Or.inr ⟨h1, by omega⟩
    · exact Or.inl h
    · exact Or.inr ⟨h1, by omega⟩
  · rintro (h | ⟨h1, h2⟩)
    · exact Or.inr (Or.inl h)
    · by_cases q : t.1 < s.1
      · exact Or.inl ⟨h1, q⟩
      · exact Or.inr (Or.inr ⟨h1, by omega⟩)
theorem putV_right {v : List St} {s : St} (h : Right v) (hs : 0 ≤ s.1 ∧ s.1 < 256) : Right (putV v s) := by
  unfold putV
  rw [right_append, right_cons]
  refine ⟨right_filter h _, ⟨hs, fun t ht => by simpa using (List.mem_filter.1 ht).2, right_filter h _⟩, fun a ha b hb => ?_⟩
  have ha' : a.1 < s.1 := by simpa using (List.mem_filter.1 ha).2
  rcases List.mem_cons.1 hb with rfl | hb
  · exact ha'
  · have : s.1 < b.1 := by simpa using (List.mem_filter.1 hb).2
    omega
theorem putM_right {v : List St} {s : St} (h : Right v) (hs : 0 ≤ s.1 ∧ s.1 < 256) : Right (putM v s) := by
  unfold putM
  split
  · exact putV_right h hs
  · split
    · exact putV_right h hs
    · exact h
/-- The greatest: what is in the row and has none above it. -/
def isTop (ss : List St) (s : St) : Prop := s ∈ ss ∧ ∀ t ∈ ss, t.1 = s.1 → t.2 ≤ s.2
theorem mem_putM {v ss : List St} {s : St} (hv : ∀ t, t ∈ v ↔ isTop ss t) (t : St) : t ∈ putM v s ↔ isTop (ss ++ [s]) t := by
  have key : ∀ t, isTop (ss ++ [s]) t ↔ (t ∈ ss ∨ t = s) ∧ (∀ u ∈ ss, u.1 = t.1 → u.2 ≤ t.2) ∧ (s.1 = t.1 → s.2 ≤ t.2) := fun t => by
    unfold isTop
    simp only [List.mem_append, List.mem_singleton]
    constructor
    · rintro ⟨h1, h2⟩
      exact ⟨h1, fun u hu => h2 u (Or.inl hu), h2 s (Or.inr rfl)⟩
    · rintro ⟨h1, h2, h3⟩
      exact ⟨h1, fun u hu => hu.elim (h2 u) (fun e => by subst e; exact h3)⟩
  rw [key]
  unfold putM
  cases e : getV v s.1 with
  | none =>
    have hno : ∀ u ∈ ss, u.1 ≠ s.1 := by
      -- the greatest of s' device would be in the row
      intro u hu heq
      have : ∃ m, m ∈ ss ∧ m.1 = s.1 ∧ ∀ t ∈ ss, t.1 = s.1 → t.2 ≤ m.2 := by
        have gen : ∀ l : List St, (∃ u ∈ l, u.1 = s.1) → ∃ m, m ∈ l ∧ m.1 = s.1 ∧ ∀ t ∈ l, t.1 = s.1 → t.2 ≤ m.2 := by
          intro l
          induction l with
          | nil => rintro ⟨u, hu, _⟩; cases hu
          | cons x l ih =>
            rintro ⟨u, hu, hu1⟩
            by_cases hx : x.1 = s.1
            · by_cases hl : ∃ u ∈ l, u.1 = s.1
              · obtain ⟨m, m1, m2, m3⟩ := ih hl
                by_cases q : m.2 ≤ x.2
                · refine ⟨x, by simp, hx, fun t ht he => ?_⟩
                  rcases List.mem_cons.1 ht with rfl | ht
                  · exact Nat.le_refl _
                  · exact Nat.le_trans (m3 t ht he) q
                · refine ⟨m, by simp [m1], m2, fun t ht he => ?_⟩
                  rcases List.mem_cons.1 ht with rfl | ht
                  · omega
                  · exact m3 t ht he
              · refine ⟨x, by simp, hx, fun t ht he => ?_⟩
                rcases List.mem_cons.1 ht with rfl | ht
                · exact Nat.le_refl _
                · exact absurd ⟨t, ht, he⟩ hl
            · obtain ⟨m, m1, m2, m3⟩ := ih (by
                rcases List.mem_cons.1 hu with rfl | hu
                · exact absurd hu1 hx
                · exact ⟨u, hu, hu1⟩)
              refine ⟨m, by simp [m1], m2, fun t ht he => ?_⟩
              rcases List.mem_cons.1 ht with rfl | ht
              · exact absurd he hx
              · exact m3 t ht he
        exact gen ss ⟨u, hu, heq⟩
      obtain ⟨m, m1, m2, m3⟩ := this
      have : m ∈ v := (hv m).2 ⟨m1, fun t ht he => m3 t ht (he.trans m2)⟩
      refine get_none e m.2 ?_
      rw [← m2]
      exact this
    show t ∈ putV v s ↔ _
    rw [mem_putV, hv]
    constructor
    · rintro (rfl | ⟨⟨h1, h2⟩, h3⟩)
      · exact ⟨Or.inr rfl, fun u hu he => absurd he (hno u hu), fun _ => Nat.le_refl _⟩
      · exact ⟨Or.inl h1, h2, fun he => absurd he.symm h3⟩
    · rintro ⟨h1 | h1, h2, h3⟩
      · exact Or.inr ⟨⟨h1, h2⟩, hno t h1⟩
      · exact Or.inl h1
  | some n =>
    have hn := (hv _).1 (get_mem e)
    show t ∈ (if n < s.2 then putV v s else v) ↔ _
    split
    · rename_i hlt
      rw [mem_putV, hv]
      constructor
      · rintro (rfl | ⟨⟨h1, h2⟩, h3⟩)
        · exact ⟨Or.inr rfl, fun u hu he => by have := hn.2 u hu he; simp at this; omega, fun _ => Nat.le_refl _⟩
        · exact ⟨Or.inl h1, h2, fun he => absurd he.symm h3⟩
      · rintro ⟨h1 | h1, h2, h3⟩
        · by_cases q : t.1 = s.1
          · have h5 : t.2 ≤ n := hn.2 t h1 q
            have := h3 q.symm
            omega
          · exact Or.inr ⟨⟨h1, h2⟩, q⟩
        · exact Or.inl h1
    · rename_i hlt
      rw [hv]
      constructor
      · rintro ⟨h1, h2⟩
        refine ⟨Or.inl h1, h2, fun he => ?_⟩
        have := h2 _ hn.1 he
        simp at this
        omega
      · rintro ⟨h1 | h1, h2, h3⟩
        · exact ⟨h1, h2⟩
        · subst h1
          have h4 := h2 _ hn.1 rfl
          simp at h4
          have : t = (t.1, n) := by
            obtain ⟨a, b⟩ := t
            simp at h4 hlt ⊢
            omega
          rw [this]
          exact hn
theorem mem_joinS {ss : List St} (hd : ∀ s ∈ ss, 0 ≤ s.1 ∧ s.1 < 256) : Right (joinS ss) ∧ ∀ t, t ∈ joinS ss ↔ isTop ss t := by
  have gen : ∀ (l pre v : List St), (∀ s ∈ l, 0 ≤ s.1 ∧ s.1 < 256) → Right v → (∀ t, t ∈ v ↔ isTop pre t) → Right (l.foldl putM v) ∧ ∀ t, t ∈ l.foldl putM v ↔ isTop (pre ++ l) t := by
    intro l
    induction l with
    | nil => intro pre v _ hr hv; exact ⟨hr, by simpa using hv⟩
    | cons x l ih =>
      intro pre v hd hr hv
      have := ih (pre ++ [x]) (putM v x) (fun s hs => hd s (by simp [hs])) (putM_right hr (hd x (by simp))) (mem_putM hv)
      rw [List.append_assoc] at this
      exact this
  have := gen ss [] [] hd right_nil (by intro t; unfold isTop; simp)
  rw [List.nil_append] at this
  exact this
theorem joinS_eq {v ss : List St} (hd : ∀ s ∈ ss, 0 ≤ s.1 ∧ s.1 < 256) (h : Right v) (hv : ∀ t, t ∈ v ↔ isTop ss t) : v = joinS ss :=
  right_ext h (mem_joinS hd).1 fun s => (hv s).trans ((mem_joinS hd).2 s).symm
theorem isTop_congr {ss tt : List St} (h : ∀ s, s ∈ ss ↔ s ∈ tt) (t : St) : isTop ss t ↔ isTop tt t := by
  unfold isTop
  simp only [h]
theorem agrS_congr {ss tt : List St} (h : ∀ s, s ∈ ss ↔ s ∈ tt) : agrS ss ↔ agrS tt := by
  unfold agrS
  simp only [h]
theorem joinS_congr {ss tt : List St} (hd : ∀ s ∈ ss, 0 ≤ s.1 ∧ s.1 < 256) (h : ∀ s, s ∈ ss ↔ s ∈ tt) : joinS ss = joinS tt :=
  joinS_eq (fun s hs => hd s ((h s).2 hs)) (mem_joinS hd).1 fun t => ((mem_joinS hd).2 t).trans (isTop_congr h t)
theorem joinS_one {v : List St} (h : Right v) : joinS v = v :=
  (joinS_eq h.1 h fun t => ⟨fun ht => ⟨ht, fun u hu e => by rw [right_one h hu ht e]; exact Nat.le_refl _⟩, fun ht => ht.1⟩).symm
/-- Of each device some row has a version: then one is the greatest. -/
theorem top_over {ss : List St} {u : St} (hu : u ∈ ss) : ∃ t, isTop ss t ∧ t.1 = u.1 ∧ u.2 ≤ t.2 := by
  have gen : ∀ (l : List St), u ∈ l → ∃ m, m ∈ l ∧ m.1 = u.1 ∧ ∀ t ∈ l, t.1 = u.1 → t.2 ≤ m.2 := by
    intro l
    induction l with
    | nil => intro h; cases h
    | cons x l ih =>
      intro h
      by_cases hx : x.1 = u.1
      · by_cases hl : ∃ w ∈ l, w.1 = u.1 ∧ x.2 < w.2
        · have : ∀ (l : List St) (b : Nat), (∃ w ∈ l, w.1 = u.1 ∧ b < w.2) → ∃ m, m ∈ l ∧ m.1 = u.1 ∧ b < m.2 ∧ ∀ t ∈ l, t.1 = u.1 → t.2 ≤ m.2 := by
            intro l
            induction l with
            | nil => rintro b ⟨w, hw, _⟩; cases hw
            | cons y l ih =>
              rintro b ⟨w, hw, hw1, hw2⟩
              by_cases hy : y.1 = u.1 ∧ b < y.2
              · by_cases hl : ∃ w ∈ l, w.1 = u.1 ∧ y.2 < w.2
                · obtain ⟨m, m1, m2, m3, m4⟩ := ih y.2 hl
                  refine ⟨m, by simp [m1], m2, by omega, fun t ht he => ?_⟩
                  rcases List.mem_cons.1 ht with rfl | ht
                  · omega
                  · exact m4 t ht he
                · refine ⟨y, by simp, hy.1, hy.2, fun t ht he => ?_⟩
                  rcases List.mem_cons.1 ht with rfl | ht
                  · exact Nat.le_refl _
                  · apply Classical.byContradiction
                    intro hn
                    exact hl ⟨t, ht, he, by omega⟩
              · obtain ⟨m, m1, m2, m3, m4⟩ := ih b (by
                  rcases List.mem_cons.1 hw with rfl | hw
                  · exact absurd ⟨hw1, hw2⟩ hy
                  · exact ⟨w, hw, hw1, hw2⟩)
                refine ⟨m, by simp [m1], m2, m3, fun t ht he => ?_⟩
                rcases List.mem_cons.1 ht with rfl | ht
                · apply Classical.byContradiction
                  intro hn
                  exact hy ⟨he, by omega⟩
                · exact m4 t ht he
          obtain ⟨m, m1, m2, m3, m4⟩ := this l x.2 hl
          refine ⟨m, by simp [m1], m2, fun t ht he => ?_⟩
          rcases List.mem_cons.1 ht with rfl | ht
          · omega
          · exact m4 t ht he
        · refine ⟨x, by simp, hx, fun t ht he => ?_⟩
          rcases List.mem_cons.1 ht with rfl | ht
          · exact Nat.le_refl _
          · apply Classical.byContradiction
            intro hn
            exact hl ⟨t, ht, he, by omega⟩
      · obtain ⟨m, m1, m2, m3⟩ := ih (by
          rcases List.mem_cons.1 h with e | h
          · exact absurd (by rw [e]) hx
          · exact h)
        refine ⟨m, by simp [m1], m2, fun t ht he => ?_⟩
        rcases List.mem_cons.1 ht with rfl | ht
        · exact absurd he hx
        · exact m3 t ht he
  obtain ⟨m, m1, m2, m3⟩ := gen ss hu
  exact ⟨m, ⟨m1, fun t ht he => m3 t ht (he.trans m2)⟩, m2, m3 u hu rfl⟩
/-- The join of joins. -/
theorem joinS_append {ss tt : List St} (hs : ∀ s ∈ ss, 0 ≤ s.1 ∧ s.1 < 256) (ht : ∀ s ∈ tt, 0 ≤ s.1 ∧ s.1 < 256) : joinS (joinS ss ++ tt) = joinS (ss ++ tt) := by
  have hst : ∀ s ∈ ss ++ tt, 0 ≤ s.1 ∧ s.1 < 256 := fun s h => (List.mem_append.1 h).elim (hs s) (ht s)
  have hjt : ∀ s ∈ joinS ss ++ tt, 0 ≤ s.1 ∧ s.1 < 256 := fun s h => (List.mem_append.1 h).elim (fun h => hs s (((mem_joinS hs).2 s).1 h).1) (ht s)
  refine joinS_eq hst (mem_joinS hjt).1 fun t => ((mem_joinS hjt).2 t).trans ?_
  unfold isTop
  simp only [List.mem_append, (mem_joinS hs).2]
  constructor
  · rintro ⟨h1, h2⟩
    refine ⟨h1.elim (fun h => Or.inl h.1) Or.inr, fun u hu he => ?_⟩
    rcases hu with hu | hu
    · obtain ⟨m, m1, m2, m3⟩ := top_over hu
      exact Nat.le_trans m3 (h2 m (Or.inl m1) (m2.trans he))
    · exact h2 u (Or.inr hu) he
  · rintro ⟨h1, h2⟩
    refine ⟨h1.elim (fun h => Or.inl ⟨h, fun u hu he => h2 u (Or.inl hu) he⟩) Or.inr, fun u hu he => ?_⟩
    rcases hu with hu | hu
    · exact h2 u (Or.inl hu.1) he
    · exact h2 u (Or.inr hu) he
theorem mem_joinS_of_agr {ss : List St} (hd : ∀ s ∈ ss, 0 ≤ s.1 ∧ s.1 < 256) (ha : agrS ss) (t : St) : t ∈ joinS ss ↔ t ∈ ss := by
  rw [(mem_joinS hd).2]
  exact ⟨fun h => h.1, fun h => ⟨h, fun u hu e => by rw [ha u hu t h e]; exact Nat.le_refl _⟩⟩
theorem agrS_append {ss tt : List St} (hs : ∀ s ∈ ss, 0 ≤ s.1 ∧ s.1 < 256) (ht : ∀ s ∈ tt, 0 ≤ s.1 ∧ s.1 < 256) : agrS (ss ++ tt) ↔ agrS ss ∧ agrS tt ∧ agrS (joinS ss ++ joinS tt) := by
  constructor
  · intro h
    have h1 : agrS ss := fun s a t b e => h s (by simp [a]) t (by simp [b]) e
    have h2 : agrS tt := fun s a t b e => h s (by simp [a]) t (by simp [b]) e
    refine ⟨h1, h2, (agrS_congr fun s => ?_).2 h⟩
    simp only [List.mem_append, mem_joinS_of_agr hs h1, mem_joinS_of_agr ht h2]
  · rintro ⟨h1, h2, h3⟩
    refine (agrS_congr fun s => ?_).1 h3
    simp only [List.mem_append, mem_joinS_of_agr hs h1, mem_joinS_of_agr ht h2]
end Go.Proofs.YtibbbjikehkbmabDoor.Ve
