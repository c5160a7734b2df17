/-
  Rows of stamps of one's own, and what the document's put makes, place by place.
  Devices, and the order of stamps by them.
  Stamps and vectors that came in as arguments, opened.
  Vectors of versions: rows of stamps in memory.
  Cells and blocks of memory: small laws that name no program.
  Vectors of versions: the mathematics.
-/
import Derived.Test.YtibbbjikehkbmabDoorRows
import Derived.Defers
import Derived.Recover
import Derived.WalkKit
import Derived.Deep.RegionHeld3
import Derived.Deep.RegionWith
import Derived.Deep.DrawnRows
import Derived.Deep.AppendLies
import Derived.Deep.QuietTactic
import Derived.Deep.OwnRows
import Derived.BigQuiet
import Derived.Lib.LazyBuf
import Derived.Lib.UnsafeStr
import Derived.Laws.IdiomCopy
import Derived.WalkSpells
import Derived.WalkLawsBesides
import Derived.RegionTactic
import Derived.ChangeAlike
import Derived.Test.YtibbbjikehkbmabDoorCards
import Derived.Test.YtibbbjikehkbmabDoorTie
import Derived.ProofKit
import Derived.OpenShut
import Derived.ShutString
import Derived.Deep.Slices
import Derived.ChangeArms
import Derived.SliceStrings
import Derived.Lay
import Derived.LaidOnce
import Derived.SevenTiedAt
import Derived.LaidSub
import Derived.MakeChecks
import Derived.Deep.RegionHeld2
namespace Go.Proofs.YtibbbjikehkbmabDoor.Ve

/-- A stamp: a device, a version. -/
abbrev St := Int × Nat
/-- May a row of stamps be a vector? -/
def Right (v : List St) : Prop := (∀ s ∈ v, 0 ≤ s.1 ∧ s.1 < 256) ∧ v.Pairwise fun a b => a.1 < b.1
instance (v : List St) : Decidable (Right v) := by unfold Right; infer_instance
/-- A device's version. -/
def getV (v : List St) (d : Int) : Option Nat := (v.find? fun s => s.1 == d).map Prod.snd
/-- Are all of some rows vectors? -/
def chkN (l : List (List St)) : Int := if ∀ v ∈ l, Right v then 0 else 160
/-- A stamp in its place. -/
def putV (v : List St) (s : St) : List St := v.filter (fun t => decide (t.1 < s.1)) ++ s :: v.filter (fun t => decide (s.1 < t.1))
/-- A stamp in its place, if it is greater than what is there. -/
def putM (v : List St) (s : St) : List St := match getV v s.1 with | none => putV v s | some n => if n < s.2 then putV v s else v
/-- The greatest version of each device of some stamps. -/
def joinS (ss : List St) : List St := ss.foldl putM []
/-- Do stamps agree? -/
def agrS (ss : List St) : Prop := ∀ s ∈ ss, ∀ t ∈ ss, s.1 = t.1 → s.2 = t.2
instance (ss : List St) : Decidable (agrS ss) := by unfold agrS; infer_instance
/-- Has b a version at least as great of each device of a? -/
def below (a b : List St) : Prop := ∀ s ∈ a, ∃ n, getV b s.1 = some n ∧ s.2 ≤ n

theorem right_nil : Right [] := ⟨fun _ h => (by cases h), List.Pairwise.nil⟩
theorem right_snoc {l : List St} {s : St} : Right (l ++ [s]) ↔ Right l ∧ (0 ≤ s.1 ∧ s.1 < 256) ∧ ∀ t ∈ l, t.1 < s.1 := by
  unfold Right
  rw [List.pairwise_append]
  constructor
  · rintro ⟨h, h1, _, h2⟩
    exact ⟨⟨fun t ht => h t (by simp [ht]), h1⟩, h s (by simp), fun t ht => h2 t ht s (by simp)⟩
  · rintro ⟨⟨h, h1⟩, hs, h2⟩
    refine ⟨fun t ht => ?_, h1, by simp, fun t ht u hu => ?_⟩
    · rcases List.mem_append.1 ht with ht | ht
      · exact h t ht
      · rw [List.mem_singleton.1 ht]; exact hs
    · rw [List.mem_singleton.1 hu]; exact h2 t ht
theorem right_cons {l : List St} {s : St} : Right (s :: l) ↔ (0 ≤ s.1 ∧ s.1 < 256) ∧ (∀ t ∈ l, s.1 < t.1) ∧ Right l := by
  unfold Right
  rw [List.pairwise_cons]
  constructor
  · rintro ⟨h, h1, h2⟩
    exact ⟨h s (by simp), h1, fun t ht => h t (by simp [ht]), h2⟩
  · rintro ⟨hs, h1, h, h2⟩
    refine ⟨fun t ht => ?_, h1, h2⟩
    rcases List.mem_cons.1 ht with rfl | ht
    · exact hs
    · exact h t ht
theorem right_append {a b : List St} : Right (a ++ b) ↔ Right a ∧ Right b ∧ ∀ s ∈ a, ∀ t ∈ b, s.1 < t.1 := by
  unfold Right
  rw [List.pairwise_append]
  constructor
  · rintro ⟨h, h1, h2, h3⟩
    exact ⟨⟨fun t ht => h t (by simp [ht]), h1⟩, ⟨fun t ht => h t (by simp [ht]), h2⟩, h3⟩
  · rintro ⟨⟨h, h1⟩, ⟨k, h2⟩, h3⟩
    exact ⟨fun t ht => (List.mem_append.1 ht).elim (h t) (k t), h1, h2, h3⟩
theorem right_filter {v : List St} (h : Right v) (p : St → Bool) : Right (v.filter p) := ⟨fun s hs => h.1 s (List.mem_filter.1 hs).1, h.2.filter p⟩
/-- The row up to a place: what the check asks there. -/
theorem right_take {v : List St} {k : Nat} {s : St} (hs : v[k]? = some s) : Right (v.take (k + 1)) ↔ Right (v.take k) ∧ (0 ≤ s.1 ∧ s.1 < 256) ∧ ∀ p t, k = p + 1 → v[p]? = some t → t.1 < s.1 := by
  have e : v.take (k + 1) = v.take k ++ [s] := by
    rw [List.take_add_one, hs]; rfl
  rw [e, right_snoc]
  constructor
  · rintro ⟨h1, h2, h3⟩
    refine ⟨h1, h2, fun p t hp ht => h3 t ?_⟩
    exact List.mem_of_getElem? (i := p) (by rw [List.getElem?_take, if_pos (by omega)]; exact ht)
  · rintro ⟨h1, h2, h3⟩
    refine ⟨h1, h2, fun t ht => ?_⟩
    obtain ⟨i, hi⟩ := List.getElem?_of_mem ht
    rw [List.getElem?_take] at hi
    split at hi
    · rename_i hik
      obtain ⟨p, rfl⟩ : ∃ p, k = p + 1 := ⟨k - 1, by omega⟩
      have hlen := (List.getElem?_eq_some_iff.1 hs).1
      obtain ⟨u, hu⟩ : ∃ u, v[p]? = some u := ⟨v[p], List.getElem?_eq_getElem _⟩
      have hpu := h3 p u rfl hu
      by_cases hip : i = p
      · subst hip
        rw [hu] at hi
        cases hi
        exact hpu
      · have ht' : (v.take (p + 1))[i]? = some t := by rw [List.getElem?_take, if_pos hik]; exact hi
        have hu' : (v.take (p + 1))[p]? = some u := by rw [List.getElem?_take, if_pos (by omega)]; exact hu
        obtain ⟨a1, a2⟩ := List.getElem?_eq_some_iff.1 ht'
        obtain ⟨b1, b2⟩ := List.getElem?_eq_some_iff.1 hu'
        have := List.pairwise_iff_getElem.1 h1.2 i p a1 b1 (by omega)
        rw [a2, b2] at this
        omega
    · cases hi
theorem right_of_take {v : List St} (h : Right v) (k : Nat) : Right (v.take k) := ⟨fun s hs => h.1 s (List.mem_of_mem_take hs), h.2.sublist (List.take_sublist k v)⟩
theorem right_of_drop {v : List St} (h : Right v) (k : Nat) : Right (v.drop k) := ⟨fun s hs => h.1 s (List.mem_of_mem_drop hs), h.2.sublist (List.drop_sublist k v)⟩
theorem right_lt {v : List St} (h : Right v) {i j : Nat} {a b : St} (ha : v[i]? = some a) (hb : v[j]? = some b) (hij : i < j) : a.1 < b.1 := by
  obtain ⟨a1, a2⟩ := List.getElem?_eq_some_iff.1 ha
  obtain ⟨b1, b2⟩ := List.getElem?_eq_some_iff.1 hb
  have := List.pairwise_iff_getElem.1 h.2 i j a1 b1 hij
  rw [a2, b2] at this
  exact this
theorem right_at {v : List St} (h : Right v) {i : Nat} {a : St} (ha : v[i]? = some a) : (i : Int) ≤ a.1 := by
  induction i generalizing a with
  | zero => exact (h.1 a (List.mem_of_getElem? ha)).1
  | succ i ih =>
    have hlen := (List.getElem?_eq_some_iff.1 ha).1
    obtain ⟨u, hu⟩ : ∃ u, v[i]? = some u := ⟨v[i], List.getElem?_eq_getElem _⟩
    have := ih hu
    have := right_lt h hu ha (by omega)
    omega
theorem right_len {v : List St} (h : Right v) : v.length ≤ 256 := by
  rcases Nat.eq_zero_or_pos v.length with e | e
  · omega
  · obtain ⟨u, hu⟩ : ∃ u, v[v.length - 1]? = some u := ⟨v[v.length - 1], List.getElem?_eq_getElem _⟩
    have := right_at h hu
    have := (h.1 u (List.mem_of_getElem? hu)).2
    omega
theorem right_one {v : List St} (h : Right v) {s t : St} (hs : s ∈ v) (ht : t ∈ v) (e : s.1 = t.1) : s = t := by
  obtain ⟨i, hi⟩ := List.getElem?_of_mem hs
  obtain ⟨j, hj⟩ := List.getElem?_of_mem ht
  rcases Nat.lt_trichotomy i j with q | q | q
  · have := right_lt h hi hj q; omega
  · subst q; rw [hi] at hj; cases hj; rfl
  · have := right_lt h hj hi q; omega
theorem get_mem {v : List St} {d : Int} {n : Nat} (h : getV v d = some n) : (d, n) ∈ v := by
  unfold getV at h
  cases e : v.find? fun s => s.1 == d with
  | none => rw [e] at h; cases h
  | some s =>
    rw [e] at h
    have h1 := List.mem_of_find?_eq_some e
    have h2 := List.find?_some e
    simp at h2 h
    obtain ⟨a, b⟩ := s
    simp at h2 h
    subst h2 h
    exact h1
theorem get_none {v : List St} {d : Int} (h : getV v d = none) (n : Nat) : (d, n) ∉ v := by
  unfold getV at h
  rw [Option.map_eq_none_iff, List.find?_eq_none] at h
  intro hm
  exact h _ hm (by simp)
theorem mem_get {v : List St} (h : Right v) {d : Int} {n : Nat} : getV v d = some n ↔ (d, n) ∈ v := by
  refine ⟨get_mem, fun hm => ?_⟩
  cases e : getV v d with
  | none => exact absurd hm (get_none e n)
  | some m =>
    have := right_one h (get_mem e) hm rfl
    cases this
    rfl
theorem right_ext {a b : List St} (ha : Right a) (hb : Right b) (h : ∀ s, s ∈ a ↔ s ∈ b) : a = b := by
  induction a generalizing b with
  | nil =>
    cases b with
    | nil => rfl
    | cons y b => exact absurd ((h y).2 (by simp)) (by simp)
  | cons x a ih =>
    cases b with
    | nil => exact absurd ((h x).1 (by simp)) (by simp)
    | cons y b =>
      obtain ⟨_, hx, ha'⟩ := right_cons.1 ha
      obtain ⟨_, hy, hb'⟩ := right_cons.1 hb
      have hxy : x = y := by
        rcases List.mem_cons.1 ((h x).1 (by simp)) with e | e
        · exact e
        · rcases List.mem_cons.1 ((h y).2 (by simp)) with e' | e'
          · exact e'.symm
          · have := hx y e'
            have := hy x e
            omega
      subst hxy
      congr 1
      refine ih ha' hb' fun s => ⟨fun hs => ?_, fun hs => ?_⟩
      · rcases List.mem_cons.1 ((h s).1 (by simp [hs])) with e | e
        · subst e; have := hx s hs; omega
        · exact e
      · rcases List.mem_cons.1 ((h s).2 (by simp [hs])) with e | e
        · subst e; have := hy s hs; omega
        · exact e
theorem mem_putV {v : List St} {s t : St} : t ∈ putV v s ↔ t = s ∨ (t ∈ v ∧ t.1 ≠ s.1) := by
  unfold putV
  rw [List.mem_append, List.mem_cons, List.mem_filter, List.mem_filter, decide_eq_true_iff, decide_eq_true_iff]
  constructor
  · rintro (⟨h1, h2⟩ | h | ⟨h1, h2⟩)
    · exact Or.inr ⟨h1, by omega⟩
    · exact Or.inl h
    · exact Or.inr ⟨h1, by omega⟩
  · rintro (h | ⟨h1, h2⟩)
    · exact Or.inr (Or.inl h)
    · by_cases q : t.1 < s.1
      · exact Or.inl ⟨h1, q⟩
      · exact Or.inr (Or.inr ⟨h1, by omega⟩)
theorem putV_right {v : List St} {s : St} (h : Right v) (hs : 0 ≤ s.1 ∧ s.1 < 256) : Right (putV v s) := by
  unfold putV
  rw [right_append, right_cons]
  refine ⟨right_filter h _, ⟨hs, fun t ht => by simpa using (List.mem_filter.1 ht).2, right_filter h _⟩, fun a ha b hb => ?_⟩
  have ha' : a.1 < s.1 := by simpa using (List.mem_filter.1 ha).2
  rcases List.mem_cons.1 hb with rfl | hb
  · exact ha'
  · have : s.1 < b.1 := by simpa using (List.mem_filter.1 hb).2
    omega
theorem putM_right {v : List St} {s : St} (h : Right v) (hs : 0 ≤ s.1 ∧ s.1 < 256) : Right (putM v s) := by
  unfold putM
  split
  · exact putV_right h hs
  · split
    · exact putV_right h hs
    · exact h
/-- The greatest: what is in the row and has none above it. -/
def isTop (ss : List St) (s : St) : Prop := s ∈ ss ∧ ∀ t ∈ ss, t.1 = s.1 → t.2 ≤ s.2
theorem mem_putM {v ss : List St} {s : St} (hv : ∀ t, t ∈ v ↔ isTop ss t) (t : St) : t ∈ putM v s ↔ isTop (ss ++ [s]) t := by
  have key : ∀ t, isTop (ss ++ [s]) t ↔ (t ∈ ss ∨ t = s) ∧ (∀ u ∈ ss, u.1 = t.1 → u.2 ≤ t.2) ∧ (s.1 = t.1 → s.2 ≤ t.2) := fun t => by
    unfold isTop
    simp only [List.mem_append, List.mem_singleton]
    constructor
    · rintro ⟨h1, h2⟩
      exact ⟨h1, fun u hu => h2 u (Or.inl hu), h2 s (Or.inr rfl)⟩
    · rintro ⟨h1, h2, h3⟩
      exact ⟨h1, fun u hu => hu.elim (h2 u) (fun e => by subst e; exact h3)⟩
  rw [key]
  unfold putM
  cases e : getV v s.1 with
  | none =>
    have hno : ∀ u ∈ ss, u.1 ≠ s.1 := by
      -- the greatest of s' device would be in the row
      intro u hu heq
      have : ∃ m, m ∈ ss ∧ m.1 = s.1 ∧ ∀ t ∈ ss, t.1 = s.1 → t.2 ≤ m.2 := by
        have gen : ∀ l : List St, (∃ u ∈ l, u.1 = s.1) → ∃ m, m ∈ l ∧ m.1 = s.1 ∧ ∀ t ∈ l, t.1 = s.1 → t.2 ≤ m.2 := by
          intro l
          induction l with
          | nil => rintro ⟨u, hu, _⟩; cases hu
          | cons x l ih =>
            rintro ⟨u, hu, hu1⟩
            by_cases hx : x.1 = s.1
            · by_cases hl : ∃ u ∈ l, u.1 = s.1
              · obtain ⟨m, m1, m2, m3⟩ := ih hl
                by_cases q : m.2 ≤ x.2
                · refine ⟨x, by simp, hx, fun t ht he => ?_⟩
                  rcases List.mem_cons.1 ht with rfl | ht
                  · exact Nat.le_refl _
                  · exact Nat.le_trans (m3 t ht he) q
                · refine ⟨m, by simp [m1], m2, fun t ht he => ?_⟩
                  rcases List.mem_cons.1 ht with rfl | ht
                  · omega
                  · exact m3 t ht he
              · refine ⟨x, by simp, hx, fun t ht he => ?_⟩
                rcases List.mem_cons.1 ht with rfl | ht
                · exact Nat.le_refl _
                · exact absurd ⟨t, ht, he⟩ hl
            · obtain ⟨m, m1, m2, m3⟩ := ih (by
                rcases List.mem_cons.1 hu with rfl | hu
                · exact absurd hu1 hx
                · exact ⟨u, hu, hu1⟩)
              refine ⟨m, by simp [m1], m2, fun t ht he => ?_⟩
              rcases List.mem_cons.1 ht with rfl | ht
              · exact absurd he hx
              · exact m3 t ht he
        exact gen ss ⟨u, hu, heq⟩
      obtain ⟨m, m1, m2, m3⟩ := this
      have : m ∈ v := (hv m).2 ⟨m1, fun t ht he => m3 t ht (he.trans m2)⟩
      refine get_none e m.2 ?_
      rw [← m2]
      exact this
    show t ∈ putV v s ↔ _
    rw [mem_putV, hv]
    constructor
    · rintro (rfl | ⟨⟨h1, h2⟩, h3⟩)
      · exact ⟨Or.inr rfl, fun u hu he => absurd he (hno u hu), fun _ => Nat.le_refl _⟩
      · exact ⟨Or.inl h1, h2, fun he => absurd he.symm h3⟩
    · rintro ⟨h1 | h1, h2, h3⟩
      · exact Or.inr ⟨⟨h1, h2⟩, hno t h1⟩
      · exact Or.inl h1
  | some n =>
    have hn := (hv _).1 (get_mem e)
    show t ∈ (if n < s.2 then putV v s else v) ↔ _
    split
    · rename_i hlt
      rw [mem_putV, hv]
      constructor
      · rintro (rfl | ⟨⟨h1, h2⟩, h3⟩)
        · exact ⟨Or.inr rfl, fun u hu he => by have := hn.2 u hu he; simp at this; omega, fun _ => Nat.le_refl _⟩
        · exact ⟨Or.inl h1, h2, fun he => absurd he.symm h3⟩
      · rintro ⟨h1 | h1, h2, h3⟩
        · by_cases q : t.1 = s.1
          · have h5 : t.2 ≤ n := hn.2 t h1 q
            have := h3 q.symm
            omega
          · exact Or.inr ⟨⟨h1, h2⟩, q⟩
        · exact Or.inl h1
    · rename_i hlt
      rw [hv]
      constructor
      · rintro ⟨h1, h2⟩
        refine ⟨Or.inl h1, h2, fun he => ?_⟩
        have := h2 _ hn.1 he
        simp at this
        omega
      · rintro ⟨h1 | h1, h2, h3⟩
        · exact ⟨h1, h2⟩
        · subst h1
          have h4 := h2 _ hn.1 rfl
          simp at h4
          have : t = (t.1, n) := by
            obtain ⟨a, b⟩ := t
            simp at h4 hlt ⊢
            omega
          rw [this]
          exact hn
theorem mem_joinS {ss : List St} (hd : ∀ s ∈ ss, 0 ≤ s.1 ∧ s.1 < 256) : Right (joinS ss) ∧ ∀ t, t ∈ joinS ss ↔ isTop ss t := by
  have gen : ∀ (l pre v : List St), (∀ s ∈ l, 0 ≤ s.1 ∧ s.1 < 256) → Right v → (∀ t, t ∈ v ↔ isTop pre t) → Right (l.foldl putM v) ∧ ∀ t, t ∈ l.foldl putM v ↔ isTop (pre ++ l) t := by
    intro l
    induction l with
    | nil => intro pre v _ hr hv; exact ⟨hr, by simpa using hv⟩
    | cons x l ih =>
      intro pre v hd hr hv
      have := ih (pre ++ [x]) (putM v x) (fun s hs => hd s (by simp [hs])) (putM_right hr (hd x (by simp))) (mem_putM hv)
      rw [List.append_assoc] at this
      exact this
  have := gen ss [] [] hd right_nil (by intro t; unfold isTop; simp)
  rw [List.nil_append] at this
  exact this
theorem joinS_eq {v ss : List St} (hd : ∀ s ∈ ss, 0 ≤ s.1 ∧ s.1 < 256) (h : Right v) (hv : ∀ t, t ∈ v ↔ isTop ss t) : v = joinS ss :=
  right_ext h (mem_joinS hd).1 fun s => (hv s).trans ((mem_joinS hd).2 s).symm
theorem isTop_congr {ss tt : List St} (h : ∀ s, s ∈ ss ↔ s ∈ tt) (t : St) : isTop ss t ↔ isTop tt t := by
  unfold isTop
  simp only [h]
theorem agrS_congr {ss tt : List St} (h : ∀ s, s ∈ ss ↔ s ∈ tt) : agrS ss ↔ agrS tt := by
  unfold agrS
  simp only [h]
theorem joinS_congr {ss tt : List St} (hd : ∀ s ∈ ss, 0 ≤ s.1 ∧ s.1 < 256) (h : ∀ s, s ∈ ss ↔ s ∈ tt) : joinS ss = joinS tt :=
  joinS_eq (fun s hs => hd s ((h s).2 hs)) (mem_joinS hd).1 fun t => ((mem_joinS hd).2 t).trans (isTop_congr h t)
theorem joinS_one {v : List St} (h : Right v) : joinS v = v :=
  (joinS_eq h.1 h fun t => ⟨fun ht => ⟨ht, fun u hu e => by rw [right_one h hu ht e]; exact Nat.le_refl _⟩, fun ht => ht.1⟩).symm
/-- Of each device some row has a version: then one is the greatest. -/
theorem top_over {ss : List St} {u : St} (hu : u ∈ ss) : ∃ t, isTop ss t ∧ t.1 = u.1 ∧ u.2 ≤ t.2 := by
  have gen : ∀ (l : List St), u ∈ l → ∃ m, m ∈ l ∧ m.1 = u.1 ∧ ∀ t ∈ l, t.1 = u.1 → t.2 ≤ m.2 := by
    intro l
    induction l with
    | nil => intro h; cases h
    | cons x l ih =>
      intro h
      by_cases hx : x.1 = u.1
      · by_cases hl : ∃ w ∈ l, w.1 = u.1 ∧ x.2 < w.2
        · have : ∀ (l : List St) (b : Nat), (∃ w ∈ l, w.1 = u.1 ∧ b < w.2) → ∃ m, m ∈ l ∧ m.1 = u.1 ∧ b < m.2 ∧ ∀ t ∈ l, t.1 = u.1 → t.2 ≤ m.2 := by
            intro l
            induction l with
            | nil => rintro b ⟨w, hw, _⟩; cases hw
            | cons y l ih =>
              rintro b ⟨w, hw, hw1, hw2⟩
              by_cases hy : y.1 = u.1 ∧ b < y.2
              · by_cases hl : ∃ w ∈ l, w.1 = u.1 ∧ y.2 < w.2
                · obtain ⟨m, m1, m2, m3, m4⟩ := ih y.2 hl
                  refine ⟨m, by simp [m1], m2, by omega, fun t ht he => ?_⟩
                  rcases List.mem_cons.1 ht with rfl | ht
                  · omega
                  · exact m4 t ht he
                · refine ⟨y, by simp, hy.1, hy.2, fun t ht he => ?_⟩
                  rcases List.mem_cons.1 ht with rfl | ht
                  · exact Nat.le_refl _
                  · apply Classical.byContradiction
                    intro hn
                    exact hl ⟨t, ht, he, by omega⟩
              · obtain ⟨m, m1, m2, m3, m4⟩ := ih b (by
                  rcases List.mem_cons.1 hw with rfl | hw
                  · exact absurd ⟨hw1, hw2⟩ hy
                  · exact ⟨w, hw, hw1, hw2⟩)
                refine ⟨m, by simp [m1], m2, m3, fun t ht he => ?_⟩
                rcases List.mem_cons.1 ht with rfl | ht
                · apply Classical.byContradiction
                  intro hn
                  exact hy ⟨he, by omega⟩
                · exact m4 t ht he
          obtain ⟨m, m1, m2, m3, m4⟩ := this l x.2 hl
          refine ⟨m, by simp [m1], m2, fun t ht he => ?_⟩
          rcases List.mem_cons.1 ht with rfl | ht
          · omega
          · exact m4 t ht he
        · refine ⟨x, by simp, hx, fun t ht he => ?_⟩
          rcases List.mem_cons.1 ht with rfl | ht
          · exact Nat.le_refl _
          · apply Classical.byContradiction
            intro hn
            exact hl ⟨t, ht, he, by omega⟩
      · obtain ⟨m, m1, m2, m3⟩ := ih (by
          rcases List.mem_cons.1 h with e | h
          · exact absurd (by rw [e]) hx
          · exact h)
        refine ⟨m, by simp [m1], m2, fun t ht he => ?_⟩
        rcases List.mem_cons.1 ht with rfl | ht
        · exact absurd he hx
        · exact m3 t ht he
  obtain ⟨m, m1, m2, m3⟩ := gen ss hu
  exact ⟨m, ⟨m1, fun t ht he => m3 t ht (he.trans m2)⟩, m2, m3 u hu rfl⟩
/-- The join of joins. -/
theorem joinS_append {ss tt : List St} (hs : ∀ s ∈ ss, 0 ≤ s.1 ∧ s.1 < 256) (ht : ∀ s ∈ tt, 0 ≤ s.1 ∧ s.1 < 256) : joinS (joinS ss ++ tt) = joinS (ss ++ tt) := by
  have hst : ∀ s ∈ ss ++ tt, 0 ≤ s.1 ∧ s.1 < 256 := fun s h => (List.mem_append.1 h).elim (hs s) (ht s)
  have hjt : ∀ s ∈ joinS ss ++ tt, 0 ≤ s.1 ∧ s.1 < 256 := fun s h => (List.mem_append.1 h).elim (fun h => hs s (((mem_joinS hs).2 s).1 h).1) (ht s)
  refine joinS_eq hst (mem_joinS hjt).1 fun t => ((mem_joinS hjt).2 t).trans ?_
  unfold isTop
  simp only [List.mem_append, (mem_joinS hs).2]
  constructor
  · rintro ⟨h1, h2⟩
    refine ⟨h1.elim (fun h => Or.inl h.1) Or.inr, fun u hu he => ?_⟩
    rcases hu with hu | hu
    · obtain ⟨m, m1, m2, m3⟩ := top_over hu
      exact Nat.le_trans m3 (h2 m (Or.inl m1) (m2.trans he))
    · exact h2 u (Or.inr hu) he
  · rintro ⟨h1, h2⟩
    refine ⟨h1.elim (fun h => Or.inl ⟨h, fun u hu he => h2 u (Or.inl hu) he⟩) Or.inr, fun u hu he => ?_⟩
    rcases hu with hu | hu
    · exact h2 u (Or.inl hu.1) he
    · exact h2 u (Or.inr hu) he
theorem mem_joinS_of_agr {ss : List St} (hd : ∀ s ∈ ss, 0 ≤ s.1 ∧ s.1 < 256) (ha : agrS ss) (t : St) : t ∈ joinS ss ↔ t ∈ ss := by
  rw [(mem_joinS hd).2]
  exact ⟨fun h => h.1, fun h => ⟨h, fun u hu e => by rw [ha u hu t h e]; exact Nat.le_refl _⟩⟩
theorem agrS_append {ss tt : List St} (hs : ∀ s ∈ ss, 0 ≤ s.1 ∧ s.1 < 256) (ht : ∀ s ∈ tt, 0 ≤ s.1 ∧ s.1 < 256) : agrS (ss ++ tt) ↔ agrS ss ∧ agrS tt ∧ agrS (joinS ss ++ joinS tt) := by
  constructor
  · intro h
    have h1 : agrS ss := fun s a t b e => h s (by simp [a]) t (by simp [b]) e
    have h2 : agrS tt := fun s a t b e => h s (by simp [a]) t (by simp [b]) e
    refine ⟨h1, h2, (agrS_congr fun s => ?_).2 h⟩
    simp only [List.mem_append, mem_joinS_of_agr hs h1, mem_joinS_of_agr ht h2]
  · rintro ⟨h1, h2, h3⟩
    refine (agrS_congr fun s => ?_).1 h3
    simp only [List.mem_append, mem_joinS_of_agr hs h1, mem_joinS_of_agr ht h2]
end Go.Proofs.YtibbbjikehkbmabDoor.Ve
namespace Go.Proofs.YtibbbjikehkbmabDoor
open Go.RowKit

theorem free_of {w : World} {b o : Nat} {cs : Array Value} {t : TypeId} (h : w.heap[b]? = some (.cells cs t (0, 0))) : w.frozen? ⟨b, o, none⟩ = false := by
  simp [World.frozen?, h]
theorem cell_at {w : World} {b o : Nat} {cs : Array Value} {t : TypeId} {r : Nat × Nat} (h : w.heap[b]? = some (.cells cs t r)) : w.cell? ⟨b, o, none⟩ = cs[o]? := by
  simp [World.cell?, h]
theorem block_set {w : World} {b o : Nat} {cs : Array Value} {t : TypeId} (u : Value) (h : w.heap[b]? = some (.cells cs t (0, 0))) :
    (w.setCell ⟨b, o, none⟩ u).heap[b]? = some (.cells (cs.setIfInBounds o u) t (0, 0)) := by
  have hlt := lt_of_block h
  have h' : w.heap[b] = .cells cs t (0, 0) := by simpa [Array.getElem?_eq_getElem hlt] using h
  show (w.heap.modify b _)[b]? = _
  rw [Array.getElem?_eq_getElem (by simpa using hlt), Array.getElem_modify_self, h']
  rfl
theorem block_other {w : World} {b g o : Nat} {x : Obj} (u : Value) (h : w.heap[b]? = some x) (hne : b ≠ g) : (w.setCell ⟨g, o, none⟩ u).heap[b]? = some x := by
  rw [Below.heap_setCell _ _ _ _ hne]; exact h
theorem new_0 (w : World) (o : Obj) : (w.alloc o).heap[w.heap.size]? = some o := by
  show (w.heap.push o)[w.heap.size]? = _
  rw [Array.getElem?_push, if_pos rfl]
theorem new_1 (w : World) (o o' : Obj) : ((w.alloc o).alloc o').heap[w.heap.size + 1]? = some o' := by
  show ((w.heap.push o).push o')[w.heap.size + 1]? = _
  rw [Array.getElem?_push, if_pos (by simp)]
theorem new_old (w : World) (o : Obj) {k : Nat} {x : Obj} (h : w.heap[k]? = some x) : (w.alloc o).heap[k]? = some x := by
  have := lt_of_block h
  show (w.heap.push o)[k]? = _
  rw [Array.getElem?_push, if_neg (by omega), h]
theorem cells_some {w : World} {g : Nat} {cs : Array Value} {t : TypeId} (h : w.heap[g]? = some (.cells cs t (0, 0))) {x : Nat} (hx : x < cs.size) : ∃ v, w.cell? ⟨g, x, none⟩ = some v :=
  ⟨cs[x], by simp [World.cell?, h, hx]⟩
theorem below_block {B k : Nat} {w w' : World} (h : Below B w w') {x : Obj} (hx : w.heap[k]? = some x) (hk : k < B) : w'.heap[k]? = some x := (h.block k hk).trans hx
theorem below_drewN {B : Nat} {w w1 : World} {n : Nat} (h : Below B w w1) : Below B w (w1.drewN n) := h.trans ⟨rfl, rfl, rfl, Nat.le_refl _, fun _ _ => rfl⟩
theorem undrew {w w1 : World} (h : Below w.drew.heap.size w.drew w1) : Below w.heap.size w w1 := ⟨h.os, h.tape, h.output, h.size, h.block⟩
theorem below_two {w w1 w2 : World} (h1 : Below w.heap.size w w1) (h2 : Below w1.heap.size w1 w2) : Below w.heap.size w w2 := h1.trans (h2.mono h1.size)
theorem grown_of_below {a b : World} (r : Option Nat) (h : Below a.heap.size a b) : a.grownBy b r := ⟨h.os, h.tape, h.output, h.size, fun i hi _ => h.block i hi⟩
theorem grown_through {a b c : World} {r s : Option Nat} (h : a.grownBy b r) (k : b.grownBy c s) (hs : ∀ i, i < a.heap.size → some i ≠ r → some i ≠ s) : a.grownBy c r :=
  ⟨k.os.trans h.os, k.tape.trans h.tape, k.output.trans h.output, Nat.le_trans h.size k.size, fun i hi hne => (k.block i (Nat.lt_of_lt_of_le hi h.size) (hs i hi hne)).trans (h.block i hi hne)⟩
theorem shape_at {w : World} {b : Nat} {cs : Array Value} {t : TypeId} {r : Nat × Nat} (h : w.heap[b]? = some (.cells cs t r)) : w.shape? b = some (t, cs.size) := by
  simp [World.shape?, h]
/-- Cells stored one behind the other: the block. -/
def setAll (cs : Array Value) : Nat → List Value → Array Value
  | _, [] => cs
  | o, v :: r => setAll (cs.setIfInBounds o v) (o + 1) r
theorem setAll_size (vs : List Value) : ∀ (cs : Array Value) (o : Nat), (setAll cs o vs).size = cs.size := by
  induction vs with
  | nil => intro cs o; rfl
  | cons v r ih => intro cs o; show (setAll _ _ r).size = _; rw [ih]; simp
theorem block_setCells {b : Nat} {t : TypeId} (vs : List Value) : ∀ (o : Nat) (w : World) (cs : Array Value), w.heap[b]? = some (.cells cs t (0, 0)) → (w.setCells b o vs).heap[b]? = some (.cells (setAll cs o vs) t (0, 0)) := by
  induction vs with
  | nil => intro o w cs h; exact h
  | cons v r ih => intro o w cs h; exact ih (o + 1) _ _ (block_set v h)
end Go.Proofs.YtibbbjikehkbmabDoor
namespace Go.Proofs.YtibbbjikehkbmabDoor.Ve
open Go.RowKit

theorem hid {p : Prop} (h : p) : Hid p := h
theorem bool_two (b : Bool) : b = false ∨ b = true := by cases b <;> simp
/-- A row of stamps in memory. -/
def RowIn (w : World) (ao : Option Addr) (l : List St) : Prop := l = [] ∨ ∃ g o, ao = some ⟨g, o, none⟩ ∧ g < w.heap.size ∧ ∀ (j : Nat) (s : St), l[j]? = some s → w.cell? ⟨g, o + j * 2, none⟩ = some (.int .i64 s.1) ∧ w.cell? ⟨g, o + j * 2 + 1, none⟩ = some (.int .u64 (s.2 : Int))
theorem RowIn.below {w w' : World} {ao : Option Addr} {l : List St} (h : RowIn w ao l) (hb : Below w.heap.size w w') : RowIn w' ao l := by
  rcases h with h | ⟨g, o, e, hg, hc⟩
  · exact Or.inl h
  · exact Or.inr ⟨g, o, e, Nat.lt_of_lt_of_le hg hb.size, fun j s hj => ⟨(hb.cell (p := ⟨g, o + j * 2, none⟩) hg).trans (hc j s hj).1, (hb.cell (p := ⟨g, o + j * 2 + 1, none⟩) hg).trans (hc j s hj).2⟩⟩
/-- A vector as a value. -/
def VecV (w : World) (v : Value) (l : List St) : Prop := ∃ ao c, v = .slice ao l.length c ∧ l.length ≤ c ∧ (ao = none → c = 0) ∧ RowIn w ao l
theorem VecV.below {w w' : World} {v : Value} {l : List St} (h : VecV w v l) (hb : Below w.heap.size w w') : VecV w' v l := by
  obtain ⟨ao, c, e, hc, hn, h⟩ := h
  exact ⟨ao, c, e, hc, hn, h.below hb⟩
theorem vec_nil (w : World) : VecV w (.slice none 0 0) [] := ⟨none, 0, rfl, Nat.le_refl _, fun _ => rfl, Or.inl rfl⟩
/-- A row of vectors in memory. -/
def RowsIn (w : World) (ao : Option Addr) (ls : List (List St)) : Prop := ls = [] ∨ ∃ g o, ao = some ⟨g, o, none⟩ ∧ g < w.heap.size ∧ ∀ (j : Nat) (l : List St), ls[j]? = some l → ∃ v, w.cell? ⟨g, o + j, none⟩ = some v ∧ VecV w v l
theorem RowsIn.below {w w' : World} {ao : Option Addr} {ls : List (List St)} (h : RowsIn w ao ls) (hb : Below w.heap.size w w') : RowsIn w' ao ls := by
  rcases h with h | ⟨g, o, e, hg, hc⟩
  · exact Or.inl h
  · refine Or.inr ⟨g, o, e, Nat.lt_of_lt_of_le hg hb.size, fun j l hj => ?_⟩
    obtain ⟨v, h1, h2⟩ := hc j l hj
    exact ⟨v, (hb.cell (p := ⟨g, o + j, none⟩) hg).trans h1, h2.below hb⟩
def VecsV (w : World) (v : Value) (ls : List (List St)) : Prop := ∃ ao c, v = .slice ao ls.length c ∧ ls.length ≤ c ∧ (ao = none → c = 0) ∧ RowsIn w ao ls
theorem VecsV.below {w w' : World} {v : Value} {ls : List (List St)} (h : VecsV w v ls) (hb : Below w.heap.size w w') : VecsV w' v ls := by
  obtain ⟨ao, c, e, hc, hn, h⟩ := h
  exact ⟨ao, c, e, hc, hn, h.below hb⟩
theorem below_tr {w w1 w2 : World} (h1 : Below w.heap.size w w1) (h2 : Below w1.heap.size w1 w2) : Below w.heap.size w w2 := h1.trans (h2.mono h1.size)
theorem below_al (w : World) (o : Obj) : Below w.heap.size w (w.alloc o) := (Below.refl _ w).alloc (Nat.le_refl _) _
/-- The cells of stamps. -/
def flatS (l : List St) : List Value := l.flatMap fun s => [.int .i64 s.1, .int .u64 (s.2 : Int)]
theorem flatS_len (l : List St) : (flatS l).length = l.length * 2 := by
  induction l with
  | nil => rfl
  | cons s l ih =>
    show (_ :: _ :: flatS l).length = _
    simp only [List.length_cons, ih]; omega
theorem flatS_append (a b : List St) : flatS (a ++ b) = flatS a ++ flatS b := by simp [flatS]
theorem flatS_get {l : List St} : ∀ {i : Nat} {s : St}, l[i]? = some s → (flatS l)[i * 2]? = some (.int .i64 s.1) ∧ (flatS l)[i * 2 + 1]? = some (.int .u64 (s.2 : Int)) := by
  induction l with
  | nil => intro i s h; simp at h
  | cons a r ih =>
    intro i s h
    have e : flatS (a :: r) = .int .i64 a.1 :: .int .u64 (a.2 : Int) :: flatS r := rfl
    rw [e]
    cases i with
    | zero =>
      have : a = s := by simpa using h
      subst this
      exact ⟨rfl, rfl⟩
    | succ i =>
      obtain ⟨h0, h1⟩ := ih (by simpa using h)
      rw [show (i + 1) * 2 = i * 2 + 1 + 1 by omega]
      exact ⟨by simpa using h0, by simpa using h1⟩
theorem flatS_one (l : List St) : ∀ u ∈ flatS l, u.oneCell' = true := by
  intro u hu
  obtain ⟨q, hq, hu⟩ := List.mem_flatMap.1 hu
  simp only [List.mem_cons, List.not_mem_nil, or_false] at hu
  rcases hu with rfl | rfl <;> rfl
/-- A row of one's own that was built is a vector. -/
theorem vec_of_own {w : World} {B : Nat} {v : Value} {n : Nat} {l : List St} (h : w.ownsRow B 33 2 v n (flatS l)) : VecV w v l := by
  have hl := h.1
  rw [flatS_len] at hl
  have hn : n = l.length := by omega
  subst hn
  rcases h.2 with ⟨e, h0⟩ | ⟨g, cap, cur, e, hB, hh, hn, _, _, ht⟩
  · have : l = [] := List.eq_nil_of_length_eq_zero h0
    subst this
    exact ⟨none, 0, e, Nat.le_refl _, fun _ => rfl, Or.inl rfl⟩
  · refine ⟨some ⟨g, 0, none⟩, cap, e, hn, fun q => (by cases q), Or.inr ⟨g, 0, rfl, lt_of_block hh, fun j s hj => ?_⟩⟩
    obtain ⟨h0, h1⟩ := flatS_get hj
    have hjl := (List.getElem?_eq_some_iff.1 hj).1
    have key : ∀ (j : Nat) (u : Value), (flatS l)[j]? = some u → w.cell? ⟨g, j, none⟩ = some u := fun j u hj => by
      rw [cell_at hh, ← Array.getElem?_toList]
      rw [← ht, List.getElem?_take] at hj
      split at hj
      · exact hj
      · cases hj
    rw [Nat.zero_add]
    exact ⟨key _ _ h0, key _ _ h1⟩
theorem own_keptS {w w' : World} {B : Nat} {v : Value} {n : Nat} {xs : List Value} (h : w.ownsRow B 33 2 v n xs) (hb : Below w.heap.size w w') : w'.ownsRow B 33 2 v n xs := by
  obtain ⟨h1, h2⟩ := h
  refine ⟨h1, ?_⟩
  rcases h2 with h2 | ⟨g, cap, cur, e, hB, hh, r⟩
  · exact Or.inl h2
  · exact Or.inr ⟨g, cap, cur, e, hB, below_block hb hh (lt_of_block hh), r⟩
/-- The rest of a row from a place on. -/
theorem RowIn.drop {w : World} {g o : Nat} {l : List St} (h : RowIn w (some ⟨g, o, none⟩) l) (k : Nat) : RowIn w (some ⟨g, o + k * 2, none⟩) (l.drop k) := by
  rcases h with rfl | ⟨g', o', e, hg, hc⟩
  · left; simp
  · injection e with e
    injection e with e1 e2 _
    subst e1
    subst e2
    refine Or.inr ⟨g, o + k * 2, rfl, hg, fun j s hj => ?_⟩
    rw [List.getElem?_drop] at hj
    have := hc _ _ hj
    rw [show o + k * 2 + j * 2 = o + (k + j) * 2 by omega]
    exact this
theorem RowIn.take {w : World} {ao : Option Addr} {l : List St} (h : RowIn w ao l) (k : Nat) : RowIn w ao (l.take k) := by
  rcases h with rfl | ⟨g, o, e, hg, hc⟩
  · left; simp
  · refine Or.inr ⟨g, o, e, hg, fun j s hj => ?_⟩
    rw [List.getElem?_take] at hj
    split at hj
    · exact hc _ _ hj
    · cases hj
theorem block_oldS {w : World} {p : Addr} {u : Value} (h : w.cell? p = some u) : p.block < w.heap.size := by
  unfold World.cell? at h
  cases hh : w.heap[p.block]? with
  | none => simp [hh] at h
  | some o => exact lt_of_block hh
theorem addr_addS (g o i : Nat) : (⟨g, o, none⟩ : Addr).add i = ⟨g, o + i, none⟩ := by
  unfold Addr.add; split <;> simp_all
/-- One new vector in memory. -/
theorem cell_news {w : World} {cs : Array Value} {t : TypeId} (j : Nat) : (w.alloc (.cells cs t)).cell? ⟨w.heap.size, j, none⟩ = cs[j]? := by
  have h : (w.alloc (.cells cs t)).heap[w.heap.size]? = some (.cells cs t (0, 0)) := new_0 w _
  rw [cell_at h]
theorem info_stamp : (Tryd.prog.info? 33).map (fun i => (i.zero, i.size, i.bytes)) = some (some (.agg #[.int .i64 0, .int .u64 0]), 2, 16) := by kernel_rfl
theorem mixedV : Tryd.prog.follows .mixedOrders = true := by kernel_rfl
end Go.Proofs.YtibbbjikehkbmabDoor.Ve
namespace Go.Proofs.YtibbbjikehkbmabDoor.Ve
open Go.ChangeShapes Go.WideShapes Go.ChangeAt Go.RowKit

theorem laidOut : laidOutB Tryd.prog = true := by kernel_rfl
theorem own : ownKnob Tryd.prog.godebug = none := by kernel_rfl
theorem structOfV {P : Program} {t : TypeId} {l : List (TypeId × Nat)} (h : (match P.underlying t with | some (.struct fs) => decide (fs.toList.map (fun f => (f.type, f.offset)) = l) | _ => false) = true) : ∃ fs, P.underlying t = some (.struct fs) ∧ fs.toList.map (fun f => (f.type, f.offset)) = l := by
  split at h
  · rename_i fs e
    exact ⟨fs, e, of_decide_eq_true h⟩
  · cases h
theorem fieldOfV {fs : Array Field} {l : List (TypeId × Nat)} (h : fs.toList.map (fun f => (f.type, f.offset)) = l) {i : Nat} {ty : TypeId} {off : Nat} (hi : l[i]? = some (ty, off)) : ∃ f, fs[i]? = some f ∧ f.type = ty ∧ f.offset = off := by
  rw [← h, List.getElem?_map, Option.map_eq_some_iff] at hi
  obtain ⟨f, hf, e⟩ := hi
  simp only [Prod.mk.injEq] at e
  exact ⟨f, by simpa using hf, e.1, e.2⟩
theorem addrOfV {w : World} {a : Addr} {v : Value} (h : w.cell? (a.add 0) = some v) : (∃ g o, a = ⟨g, o, none⟩) ∧ a.block < w.heap.size := by
  have e : a.add 0 = a := by unfold Addr.add; simp
  rw [e] at h
  obtain ⟨g, o, sp⟩ := a
  have hlt : g < w.heap.size := World.block_lt_of_cell? w _ h
  refine ⟨?_, hlt⟩
  cases sp with
  | none => exact ⟨g, o, rfl⟩
  | some s =>
    exfalso
    unfold World.cell? at h
    simp only [Option.isSome_some, if_true] at h
    split at h <;> cases h

section
variable {H : Type} {enc : TypeId × Value → H} {w : World} {base : Nat} {held : Bool}

set_option maxRecDepth 100000 in
theorem open_st {fuel : Nat} {cs : List Value} {x : DataW H × List MemPlace} (h : DataW.trod enc Tryd.prog w base (fun _ => true) held fuel 33 cs = some x) : ∃ s : St, cs = [.int .i64 s.1, .int .u64 (s.2 : Int)] := by
  obtain ⟨fs, hfs, hl⟩ := structOfV (P := Tryd.prog) (t := 33) (l := [(3, 0), (31, 1)]) (by kernel_rfl)
  obtain ⟨xs, n, _, _, hlen, hxl, hf⟩ := DataW.trod_struct hfs h
  have hc : Tryd.prog.cellsOf 33 = 2 := by kernel_rfl
  rw [hc] at hlen
  have hsz : fs.size = 2 := by have := congrArg List.length hl; simpa using this
  match cs, hlen with
  | [c0, c1], _ =>
    obtain ⟨f0, e0, t0, o0⟩ := fieldOfV hl (i := 0) rfl
    obtain ⟨f1, e1, t1, o1⟩ := fieldOfV hl (i := 1) rfl
    have g0 := hf 0 f0 e0
    have g1 := hf 1 f1 e1
    rw [t0, o0, show Tryd.prog.cellsOf 3 = 1 by kernel_rfl, List.getElem?_eq_getElem (show 0 < xs.length by omega)] at g0
    rw [t1, o1, show Tryd.prog.cellsOf 31 = 1 by kernel_rfl, List.getElem?_eq_getElem (show 1 < xs.length by omega)] at g1
    obtain ⟨a, ha, _, _⟩ := DataW.trod_int Tryd.underlying3 g0
    obtain ⟨b, hb, _, hw⟩ := DataW.trod_int Tryd.underlying31 g1
    have := bounds_u64 hw
    simp at ha hb
    subst ha hb
    exact ⟨(a, b.toNat), by simp; omega⟩
/-- A row of stamps that came in (a vector, or a list of stamps). -/
theorem open_row {t : TypeId} (ht : Tryd.prog.underlying t = some (.slice 33)) {fuel : Nat} {v : Value} {x : DataW H × List MemPlace} (h : DataW.trod enc Tryd.prog w base (fun _ => true) held fuel t [v] = some x) : ∃ l : List St, VecV w v l ∧ l.length ≤ maxLen := by
  rcases DataW.trod_slice ht h with ⟨hcs, _⟩ | ⟨a, len, cap, elems, rest, n2, hn2, hcs, _, _, hlc, hlm, hel, helem, _, _⟩
  · simp only [List.cons.injEq, and_true] at hcs
    subst hcs
    exact ⟨[], vec_nil w, by simp⟩
  · simp only [List.cons.injEq, and_true] at hcs
    subst hcs
    rw [show Tryd.prog.cellsOf 33 = 2 by kernel_rfl] at helem
    have each : ∀ i, i < len → ∃ s : St, w.cell? (a.add (i * 2)) = some (.int .i64 s.1) ∧ w.cell? ((a.add (i * 2)).add 1) = some (.int .u64 (s.2 : Int)) := by
      intro i hi
      have h1 := helem i hi
      rw [List.getElem?_eq_getElem (show i < elems.length by omega), Option.bind_eq_some_iff] at h1
      obtain ⟨cs', h2, h3⟩ := h1
      obtain ⟨_, _, hcell⟩ := World.cells?_some h2
      obtain ⟨s, rfl⟩ := open_st h3
      have c0 := hcell 0 (by omega)
      have e0 : (a.add (i * 2)).add 0 = a.add (i * 2) := by unfold Addr.add; simp
      rw [e0] at c0
      exact ⟨s, c0, hcell 1 (by omega)⟩
    by_cases h0 : len = 0
    · subst h0
      exact ⟨[], ⟨some a, cap, rfl, Nat.zero_le _, fun q => (by cases q), .inl rfl⟩, by simp⟩
    have : Inhabited St := ⟨(0, 0)⟩
    obtain ⟨q, hq⟩ := Go.Deep.choose_lt each
    obtain ⟨⟨g, o, rfl⟩, hb⟩ := addrOfV (v := .int .i64 (q 0).1) (by have := (hq 0 (by omega)).1; rw [Nat.zero_mul] at this; exact this)
    refine ⟨(List.range len).map q, ⟨some ⟨g, o, none⟩, cap, by simp, by simp; omega, fun q => (by cases q), .inr ⟨g, o, rfl, hb, fun i p hp => ?_⟩⟩, by simp; omega⟩
    rw [List.getElem?_map, Option.map_eq_some_iff] at hp
    obtain ⟨i', hi', rfl⟩ := hp
    obtain ⟨hi, rfl⟩ := List.getElem?_eq_some_iff.1 hi'
    simp only [List.length_range] at hi
    simp only [List.getElem_range]
    obtain ⟨c0, c1⟩ := hq i hi
    rw [addr_addS] at c0 c1
    rw [addr_addS] at c1
    exact ⟨c0, c1⟩
/-- Vectors that came in. -/
theorem open_rows {fuel : Nat} {v : Value} {x : DataW H × List MemPlace} (h : DataW.trod enc Tryd.prog w base (fun _ => true) held fuel 36 [v] = some x) : ∃ ls : List (List St), VecsV w v ls ∧ ls.length ≤ maxLen ∧ ∀ l ∈ ls, l.length ≤ maxLen := by
  rcases DataW.trod_slice Tryd.underlying36 h with ⟨hcs, _⟩ | ⟨a, len, cap, elems, rest, n2, hn2, hcs, _, _, hlc, hlm, hel, helem, _, _⟩
  · simp only [List.cons.injEq, and_true] at hcs
    subst hcs
    exact ⟨[], ⟨none, 0, rfl, Nat.le_refl _, fun _ => rfl, .inl rfl⟩, by simp, fun l hl => by cases hl⟩
  · simp only [List.cons.injEq, and_true] at hcs
    subst hcs
    rw [show Tryd.prog.cellsOf 23 = 1 by kernel_rfl] at helem
    have each : ∀ i, i < len → ∃ q : Value × List St, w.cell? (a.add i) = some q.1 ∧ VecV w q.1 q.2 ∧ q.2.length ≤ maxLen := by
      intro i hi
      have h1 := helem i hi
      rw [List.getElem?_eq_getElem (show i < elems.length by omega), Option.bind_eq_some_iff, Nat.mul_one] at h1
      obtain ⟨cs', h2, h3⟩ := h1
      obtain ⟨hl, _, hcell⟩ := World.cells?_some h2
      match cs', hl with
      | [c], _ =>
        obtain ⟨l, hl1, hl2⟩ := open_row Tryd.underlying23 h3
        have c0 := hcell 0 (by omega)
        have e0 : (a.add i).add 0 = a.add i := by unfold Addr.add; simp
        rw [e0] at c0
        exact ⟨(c, l), c0, hl1, hl2⟩
    by_cases h0 : len = 0
    · subst h0
      exact ⟨[], ⟨some a, cap, rfl, Nat.zero_le _, fun q => (by cases q), .inl rfl⟩, by simp, fun l hl => by cases hl⟩
    have : Inhabited (Value × List St) := ⟨(.bool false, [])⟩
    obtain ⟨q, hq⟩ := Go.Deep.choose_lt each
    obtain ⟨⟨g, o, rfl⟩, hb⟩ := addrOfV (v := (q 0).1) (hq 0 (by omega)).1
    refine ⟨(List.range len).map fun i => (q i).2, ⟨some ⟨g, o, none⟩, cap, by simp, by simp; omega, fun q => (by cases q), .inr ⟨g, o, rfl, hb, fun i p hp => ?_⟩⟩, by simp; omega, fun l hl => ?_⟩
    · rw [List.getElem?_map, Option.map_eq_some_iff] at hp
      obtain ⟨i', hi', rfl⟩ := hp
      obtain ⟨hi, rfl⟩ := List.getElem?_eq_some_iff.1 hi'
      simp only [List.length_range] at hi
      simp only [List.getElem_range]
      obtain ⟨c0, c1, _⟩ := hq i hi
      rw [addr_addS] at c0
      exact ⟨_, c0, c1⟩
    · obtain ⟨i, hi, rfl⟩ := List.mem_map.1 hl
      exact (hq i (List.mem_range.1 hi)).2.2
end
end Go.Proofs.YtibbbjikehkbmabDoor.Ve
namespace Go.Proofs.YtibbbjikehkbmabDoor.Ve
open Go.RowKit

/-- Is it a device's number? -/
def devB (d : Int) : Bool := decide (0 ≤ d ∧ d < 256)
theorem isDev_any (d : Int) (w : World) : Calls Tryd.prog 17 #[.int .i64 d] w fun e w' => e = .returned (.bool (devB d)) ∧ w' = w := by
  by_cases h0 : 0 ≤ d
  · by_cases h1 : d < 256
    · have HR := hid (show devB d = true from decide_eq_true ⟨h0, h1⟩)
      go_enter Tryd.func17, Tryd.ntmps17
      go_wp2
      go_ret
      exact ⟨by rw [HR.out]; rfl, rfl⟩
    · have HR := hid (show devB d = false from decide_eq_false (fun h => h1 h.2))
      go_enter Tryd.func17, Tryd.ntmps17
      go_wp2
      go_ret
      exact ⟨by rw [HR.out]; rfl, rfl⟩
  · have HR := hid (show devB d = false from decide_eq_false (fun h => h0 h.1))
    go_enter Tryd.func17, Tryd.ntmps17
    go_wp2
    go_ret
    exact ⟨by rw [HR.out]; rfl, rfl⟩
theorem RDevice_any (d : Int) (w : World) : Calls Tryd.prog 23 #[.int .i64 d] w fun e w' => e = .returned (.bool (devB d)) ∧ w' = w := by
  by_cases h0 : 0 ≤ d
  · by_cases h1 : d < 256
    · have HR := hid (show devB d = true from decide_eq_true ⟨h0, h1⟩)
      go_enter Tryd.func23, Tryd.ntmps23
      go_wp2
      go_ret
      exact ⟨by rw [HR.out]; rfl, rfl⟩
    · have HR := hid (show devB d = false from decide_eq_false (fun h => h1 h.2))
      go_enter Tryd.func23, Tryd.ntmps23
      go_wp2
      go_ret
      exact ⟨by rw [HR.out]; rfl, rfl⟩
  · have HR := hid (show devB d = false from decide_eq_false (fun h => h0 h.1))
    go_enter Tryd.func23, Tryd.ntmps23
    go_wp2
    go_ret
    exact ⟨by rw [HR.out]; rfl, rfl⟩
theorem nan_any (x : Int) (w : World) : Calls Tryd.prog 59 #[.int .i64 x] w fun e w' => e = .returned (.bool false) ∧ w' = w := by
  go_enter Tryd.func59, Tryd.ntmps59
  go_wp2
  go_ret
  exact ⟨by simp, rfl⟩
/-- Below, above or alike. -/
def cmpD (x y : Int) : Int := if x < y then -1 else if y < x then 1 else 0
set_option maxHeartbeats 1000000 in
theorem cmp_any (x y : Int) (w : World) : Calls Tryd.prog 46 #[.int .i64 x, .int .i64 y] w fun e w' => e = .returned (.int .i64 (cmpD x y)) ∧ w' = w := by
  rcases Int.lt_trichotomy x y with h | h | h
  · have e := hid (show cmpD x y = -1 by unfold cmpD; rw [if_pos h])
    go_enter Tryd.func46, Tryd.ntmps46
    go_wp2_with (first | (go_at_call 59; refine (nan_any _ _).mono ?_; rintro e w' ⟨rfl, rfl⟩))
    go_ret
    exact ⟨by rw [e.out]; rfl, rfl⟩
  · subst h
    have e := hid (show cmpD x x = 0 by unfold cmpD; rw [if_neg (Int.lt_irrefl _), if_neg (Int.lt_irrefl _)])
    go_enter Tryd.func46, Tryd.ntmps46
    go_wp2_with (first | (go_at_call 59; refine (nan_any _ _).mono ?_; rintro e w' ⟨rfl, rfl⟩))
    go_ret
    exact ⟨by rw [e.out]; rfl, rfl⟩
  · have hn : ¬ x < y := by omega
    have e := hid (show cmpD x y = 1 by unfold cmpD; rw [if_neg hn, if_pos h])
    go_enter Tryd.func46, Tryd.ntmps46
    go_wp2_with (first | (go_at_call 59; refine (nan_any _ _).mono ?_; rintro e w' ⟨rfl, rfl⟩))
    go_ret
    exact ⟨by rw [e.out]; rfl, rfl⟩
theorem byDev_any (d d' u u' : Int) (w : World) : Calls Tryd.prog 33 #[.agg #[.int .i64 d, .int .u64 u], .agg #[.int .i64 d', .int .u64 u']] w fun e w' => e = .returned (.int .i64 (cmpD d d')) ∧ Below w.heap.size w w' := by
  have HC := hid (cmp_any d d')
  go_enter Tryd.func33, Tryd.ntmps33
  go_wp2_with fail
  refine (HC.out _).mono ?_
  rintro e w' ⟨rfl, rfl⟩
  go_wp2
  go_ret
  exact ⟨rfl, ((Below.refl _ _).alloc (Nat.le_refl _) _).alloc (by simp) _⟩
end Go.Proofs.YtibbbjikehkbmabDoor.Ve
namespace Go.Proofs.YtibbbjikehkbmabDoor.Ve
open Go.RowKit

/-- A row of stamps of one's own. -/
def OwnS (w : World) (B : Nat) (v : Value) (l : List St) : Prop := w.ownsRow B 33 2 v l.length (flatS l)
theorem OwnS.on {w w' : World} {B : Nat} {v : Value} {l : List St} (h : OwnS w B v l) (hb : Below w.heap.size w w') : OwnS w' B v l := own_keptS h hb
theorem OwnS.vec {w : World} {B : Nat} {v : Value} {l : List St} (h : OwnS w B v l) : VecV w v l := vec_of_own h
theorem OwnS.form {w : World} {B : Nat} {v : Value} {l : List St} (h : OwnS w B v l) : ∃ a c, v = .slice a l.length c := by
  obtain ⟨a, c, e, _⟩ := h.vec
  exact ⟨a, c, e⟩
theorem OwnS.next {w W w6 : World} {B n : Nat} {o : Obj} {v v' : Value} {l : List St} {s : St} (hB : Below B w W) (hBW : B ≤ W.heap.size) (h : OwnS W B v l) (hn : n = l.length + 1) (ho : w6.ownsRow B 33 2 v' n (flatS l ++ [.int .i64 s.1, .int .u64 (s.2 : Int)])) (hg : (W.alloc o).grownBy w6 v.ownBlock) : OwnS w6 B v' (l ++ [s]) ∧ Below B w w6 ∧ ∃ a c, v' = .slice a (l.length + 1) c := by
  subst hn
  have e : flatS (l ++ [s]) = flatS l ++ [.int .i64 s.1, .int .u64 (s.2 : Int)] := flatS_append _ _
  have h6 : OwnS w6 B v' (l ++ [s]) := by
    unfold OwnS
    rw [e, List.length_append]
    exact ho
  refine ⟨h6, ?_, ?_⟩
  · exact (hB.alloc hBW _).grown hg (by simp; omega) (fun q hq => (h.lt q hq).1)
  · obtain ⟨a, c, e, _⟩ := h6.vec
    rw [List.length_append] at e
    exact ⟨a, c, e⟩

theorem OwnS.row {w : World} {B m c : Nat} {a : Option Addr} {l : List St} (h : OwnS w B (.slice a m c) l) (hm : m = l.length) : w.ownsRow B 33 2 (.slice a m c) m (flatS l) := by
  unfold OwnS at h
  rw [← hm] at h
  exact h
theorem OwnS.drewN {w : World} {B : Nat} {v : Value} {l : List St} (h : OwnS w B v l) (k : Nat) : OwnS (w.drewN k) B v l := h.on (below_drewN (Below.refl _ _))
theorem OwnS.at_ {w : World} {B m c : Nat} {a : Option Addr} {l : List St} (h : OwnS w B (.slice a m c) l) (hm : m = l.length) (k : Nat) : (w.drewN k).ownsRow B 33 2 (.slice a m c) m (flatS l) := (h.drewN k).row hm
theorem OwnS.next' {w W w6 : World} {m c : Nat} {o : Obj} {a : Option Addr} {v' : Value} {l : List St} {s : St} {k : Nat} (h : OwnS W w.heap.size (.slice a m c) l) (hB : Below w.heap.size w W) (hm : m = l.length) (ho : w6.ownsRow w.heap.size 33 2 v' (m + 1) (flatS l ++ [.int .i64 s.1, .int .u64 (s.2 : Int)])) (hg : ((W.drewN k).alloc o).grownBy w6 (Value.slice a m c).ownBlock) : OwnS w6 w.heap.size v' (l ++ [s]) ∧ Below w.heap.size w w6 ∧ ∃ a c, v' = .slice a (m + 1) c := by
  have := (h.drewN k).next (below_drewN hB) hB.size (n := m + 1) (by omega) ho hg
  rw [← hm] at this
  exact this
theorem RowIn.at_ {w : World} {g o : Nat} {l : List St} (h : RowIn w (some ⟨g, o, none⟩) l) {k : Nat} {s : St} (hs : l[k]? = some s) : w.cell? ⟨g, o + k * 2, none⟩ = some (.int .i64 s.1) ∧ w.cell? ⟨g, o + k * 2 + 1, none⟩ = some (.int .u64 (s.2 : Int)) := by
  obtain ⟨g', o', e, _, hc⟩ := h.resolve_left (fun e => by rw [e] at hs; simp at hs)
  injection e with e
  injection e with e1 e2 _
  subst e1
  subst e2
  exact hc k s hs

/-- Has something at least as great stood there? What put has made so far. -/
def dn (l : List St) (d : Int) (k : Nat) : Bool := (l.take k).any fun t => decide (d ≤ t.1)
def pk (l : List St) (s : St) (k : Nat) : List St := (l.take k).filter (fun t => decide (t.1 < s.1)) ++ (if dn l s.1 k then [s] else []) ++ (l.take k).filter (fun t => decide (s.1 < t.1))
theorem take_snocS {l : List St} {k : Nat} {x : St} (hx : l[k]? = some x) : l.take (k + 1) = l.take k ++ [x] := by
  rw [List.take_add_one, hx]; rfl
theorem dn_zero (l : List St) (d : Int) : dn l d 0 = false := by simp [dn]
theorem pk_zero (l : List St) (s : St) : pk l s 0 = [] := by simp [pk, dn]
theorem dn_succ {l : List St} {k : Nat} {x : St} (hx : l[k]? = some x) (d : Int) : dn l d (k + 1) = (dn l d k || decide (d ≤ x.1)) := by
  unfold dn; rw [take_snocS hx, List.any_append]; simp
theorem dn_true {l : List St} {k : Nat} {x : St} {d : Int} (hr : Right l) (hx : l[k]? = some x) (h : dn l d k = true) : d < x.1 := by
  unfold dn at h
  rw [List.any_eq_true] at h
  obtain ⟨t, ht, hd⟩ := h
  obtain ⟨i, hi⟩ := List.getElem?_of_mem ht
  rw [List.getElem?_take] at hi
  split at hi
  · rename_i hik
    have := right_lt hr hi hx hik
    simp at hd
    omega
  · cases hi
theorem dn_false {l : List St} {k : Nat} {d : Int} (h : dn l d k = false) : ∀ t ∈ l.take k, t.1 < d := by
  unfold dn at h
  rw [List.any_eq_false] at h
  intro t ht
  have := h t ht
  simp at this
  exact this
theorem filter_none {l : List St} {d : Int} (h : ∀ t ∈ l, t.1 < d) : l.filter (fun t => decide (d < t.1)) = [] := by
  rw [List.filter_eq_nil_iff]
  intro t ht
  have := h t ht
  simp
  omega
theorem pk_a {l : List St} {k : Nat} {x s : St} (hx : l[k]? = some x) (h : dn l s.1 k = false) (hs : x.1 < s.1) : pk l s (k + 1) = pk l s k ++ [x] ∧ dn l s.1 (k + 1) = false := by
  have hd : dn l s.1 (k + 1) = false := by rw [dn_succ hx, h]; simp; omega
  refine ⟨?_, hd⟩
  unfold pk
  rw [hd, h, take_snocS hx, List.filter_append, List.filter_append, filter_none (dn_false h)]
  have h1 : decide (x.1 < s.1) = true := decide_eq_true hs
  have h2 : decide (s.1 < x.1) = false := decide_eq_false (by omega)
  simp [h1, h2]
theorem pk_b {l : List St} {k : Nat} {x s : St} (hx : l[k]? = some x) (h : dn l s.1 k = false) (hs : x.1 = s.1) : pk l s (k + 1) = pk l s k ++ [s] ∧ dn l s.1 (k + 1) = true := by
  have hd : dn l s.1 (k + 1) = true := by rw [dn_succ hx, h]; simp; omega
  refine ⟨?_, hd⟩
  unfold pk
  rw [hd, h, take_snocS hx, List.filter_append, List.filter_append, filter_none (dn_false h)]
  have h1 : decide (x.1 < s.1) = false := decide_eq_false (by omega)
  have h2 : decide (s.1 < x.1) = false := decide_eq_false (by omega)
  simp [h1, h2]
theorem pk_c {l : List St} {k : Nat} {x s : St} (hx : l[k]? = some x) (h : dn l s.1 k = false) (hs : s.1 < x.1) : pk l s (k + 1) = (pk l s k ++ [s]) ++ [x] ∧ dn l s.1 (k + 1) = true := by
  have hd : dn l s.1 (k + 1) = true := by rw [dn_succ hx, h]; simp; omega
  refine ⟨?_, hd⟩
  unfold pk
  rw [hd, h, take_snocS hx, List.filter_append, List.filter_append, filter_none (dn_false h)]
  have h1 : decide (x.1 < s.1) = false := decide_eq_false (by omega)
  have h2 : decide (s.1 < x.1) = true := decide_eq_true hs
  simp [h1, h2]
theorem pk_d {l : List St} {k : Nat} {x s : St} (hr : Right l) (hx : l[k]? = some x) (h : dn l s.1 k = true) : pk l s (k + 1) = pk l s k ++ [x] ∧ dn l s.1 (k + 1) = true := by
  have hs := dn_true hr hx h
  have hd : dn l s.1 (k + 1) = true := by rw [dn_succ hx, h]; rfl
  refine ⟨?_, hd⟩
  unfold pk
  rw [hd, h, take_snocS hx, List.filter_append, List.filter_append]
  have h1 : decide (x.1 < s.1) = false := decide_eq_false (by omega)
  have h2 : decide (s.1 < x.1) = true := decide_eq_true hs
  simp [h1, h2]
theorem pk_end {l : List St} {s : St} {k : Nat} (hk : k = l.length) (h : dn l s.1 k = true) : pk l s k = putV l s := by
  unfold pk putV
  rw [h, hk, List.take_length]
  simp
theorem pk_last {l : List St} {s : St} {k : Nat} (hk : k = l.length) (h : dn l s.1 k = false) : pk l s k ++ [s] = putV l s := by
  have hf := filter_none (dn_false h)
  unfold pk putV
  rw [h, hf]
  rw [hk, List.take_length] at hf ⊢
  rw [hf]
  simp
theorem pk_len {l : List St} {s : St} {k : Nat} (hr : Right l) : (pk l s k).length ≤ 513 := by
  have := right_len hr
  unfold pk
  rw [List.length_append, List.length_append]
  have h1 := List.length_filter_le (fun t : St => decide (t.1 < s.1)) (l.take k)
  have h2 := List.length_filter_le (fun t : St => decide (s.1 < t.1)) (l.take k)
  have h3 : (l.take k).length ≤ 256 := by rw [List.length_take]; omega
  split <;> simp <;> omega
/-- Where a device's version is found. -/
def fndP (v : List St) (d : Int) : Nat × Bool := match getV v d with | some n => (n, true) | none => (0, false)
theorem get_at {v : List St} {d : Int} {k : Nat} {s : St} (h : ∀ i, i < k → ∀ t, v[i]? = some t → t.1 ≠ d) (hs : v[k]? = some s) (e : s.1 = d) : fndP v d = (s.2, true) := by
  have : getV v d = some s.2 := by
    unfold getV
    have hv : v = v.take k ++ s :: v.drop (k + 1) := by
      have hk := (List.getElem?_eq_some_iff.1 hs).1
      have hs' := (List.getElem?_eq_some_iff.1 hs).2
      rw [← hs', ← List.drop_eq_getElem_cons hk, List.take_append_drop]
    rw [hv, List.find?_append, List.find?_eq_none.2 (by
      intro t ht
      obtain ⟨i, hi⟩ := List.getElem?_of_mem ht
      rw [List.getElem?_take] at hi
      split at hi
      · rename_i hik
        have := h i hik t hi
        simpa using this
      · cases hi)]
    simp [e]
  unfold fndP
  rw [this]
theorem get_no {v : List St} {d : Int} {k : Nat} (hk : k = v.length) (h : ∀ i, i < k → ∀ t, v[i]? = some t → t.1 ≠ d) : fndP v d = (0, false) := by
  have : getV v d = none := by
    unfold getV
    rw [List.find?_eq_none.2]
    · rfl
    · intro t ht
      obtain ⟨i, hi⟩ := List.getElem?_of_mem ht
      have := h i (by rw [hk]; exact (List.getElem?_eq_some_iff.1 hi).1) t hi
      simpa using this
  unfold fndP
  rw [this]
end Go.Proofs.YtibbbjikehkbmabDoor.Ve
