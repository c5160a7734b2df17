/-
  Plain mathematics: the parts of a cut meet neither one another nor what was cut off, and each header lies where it must.
-/
import Derived.Test.YtfgdikhpabapkaaCuts
namespace Go.Proofs.Ytfgdikhpabapkaa
namespace Cu

theorem mem_cutTo {a b : List UInt8} {l : List UInt8} : ∀ {n}, l ∈ cutTo a b n ↔ ∃ k, k < n ∧ cond a b k = true ∧ l = partL a b k
  | 0 => by simp [cutTo]
  | n + 1 => by
    rw [cutTo, List.mem_append, mem_cutTo]
    constructor
    · rintro (⟨k, hk, hc, e⟩ | h)
      · exact ⟨k, by omega, hc, e⟩
      · split at h
        · rename_i hc
          rw [List.mem_singleton] at h
          exact ⟨n, by omega, hc, h⟩
        · cases h
    · rintro ⟨k, hk, hc, e⟩
      by_cases hkn : k = n
      · subst hkn
        right
        rw [if_pos hc, List.mem_singleton]; exact e
      · exact Or.inl ⟨k, by omega, hc, e⟩

theorem cond_parts {a b : List UInt8} {k : Nat} (h : cond a b k = true) : fixAt a k = false ∧ fixAt b k = true := by
  simp only [cond, Bool.and_eq_true, Bool.not_eq_true'] at h; exact h

/-- At a place ahead of its own a part is as what both have in common. -/
theorem part_at {a b : List UInt8} (ha : a.all sym = true) (hb : b.all sym = true) (h : a.length = b.length) (hm : meetsB a b = true) {k : Nat} (hk : k < a.length) (hc : cond a b k = true) (i : Nat) :
    (i < k → fixAt (partL a b k) i = (fixAt a i || fixAt b i) ∧ oneAt (partL a b k) i = (oneAt a i || oneAt b i)) ∧
    (i = k → fixAt (partL a b k) i = true ∧ oneAt (partL a b k) i = !oneAt b k) ∧
    (k < i → fixAt (partL a b k) i = fixAt a i ∧ oneAt (partL a b k) i = oneAt a i) := by
  have hf : ∀ j, fixAt (partL a b k) j = updw (fixAt (mix a b k)) k j := fun j => by rw [fix_part h hk hc]
  have ho : ∀ j, oneAt (partL a b k) j = setOne (oneAt (mix a b k)) k (!oneAt b k) j := fun j => by rw [one_part h hk hc]
  refine ⟨fun hi => ?_, fun hi => ?_, fun hi => ?_⟩
  · rw [hf, ho]
    have e : ¬ i = k := by omega
    simp only [updw, setOne, e, decide_false, Bool.or_false, Bool.and_false]
    refine ⟨?_, ?_⟩
    · rw [← fixAt_meetL ha hb h]; unfold fixAt; rw [mix_get h (by omega), if_pos hi]
    · rw [← oneAt_meetL ha hb h hm]; unfold oneAt; rw [mix_get h (by omega), if_pos hi]
  · subst hi
    rw [hf, ho]
    refine ⟨by simp [updw], ?_⟩
    simp [setOne, one_mix_false h hk hc]
  · rw [hf, ho]
    have e : ¬ i = k := by omega
    simp only [updw, setOne, e, decide_false, Bool.or_false, Bool.and_false]
    refine ⟨?_, ?_⟩
    · unfold fixAt; rw [mix_get h (by omega), if_neg (by omega)]
    · unfold oneAt; rw [mix_get h (by omega), if_neg (by omega)]

theorem one_of_free {a : List UInt8} {k : Nat} (h : fixAt a k = false) : oneAt a k = false := by
  unfold fixAt at h; unfold oneAt
  simp only [Bool.or_eq_false_iff] at h; exact h.2

theorem not_meets {l m : List UInt8} (hl : l.all sym = true) (hm : m.all sym = true) (h : l.length = m.length) {i : Nat} (hp : partAt l m i = true) : meetsB l m = false := by
  rw [← Bool.not_eq_true, meetsB_iff hl hm h]
  intro H
  rw [H i] at hp; cases hp

theorem parts_apart {a b : List UInt8} (ha : a.all sym = true) (hb : b.all sym = true) (h : a.length = b.length) (hm : meetsB a b = true) {k1 k2 : Nat} (h12 : k1 < k2) (hk2 : k2 < a.length) (hc1 : cond a b k1 = true) (hc2 : cond a b k2 = true) :
    meetsB (partL a b k2) (partL a b k1) = false := by
  have e1 := (part_at ha hb h hm (by omega) hc1 k1).2.1 rfl
  have e2 := (part_at ha hb h hm hk2 hc2 k1).1 h12
  obtain ⟨f1, f2⟩ := cond_parts hc1
  refine not_meets (part_sym ha hb h) (part_sym ha hb h) (by rw [part_length h hk2, part_length h (by omega)]) (i := k1) ?_
  unfold partAt
  rw [e1.1, e1.2, e2.1, e2.2, f1, f2, one_of_free f1]
  cases oneAt b k1 <;> rfl
theorem part_off {a b : List UInt8} (ha : a.all sym = true) (hb : b.all sym = true) (h : a.length = b.length) (hm : meetsB a b = true) {k : Nat} (hk : k < a.length) (hc : cond a b k = true) : meetsB b (partL a b k) = false := by
  have e1 := (part_at ha hb h hm hk hc k).2.1 rfl
  obtain ⟨f1, f2⟩ := cond_parts hc
  refine not_meets hb (part_sym ha hb h) (by rw [part_length h hk, h]) (i := k) ?_
  unfold partAt
  rw [e1.1, e1.2, f2]
  cases oneAt b k <;> rfl

theorem pair_cutTo {a b : List UInt8} (ha : a.all sym = true) (hb : b.all sym = true) (h : a.length = b.length) (hm : meetsB a b = true) : ∀ n, n ≤ a.length → (cutTo a b n).Pairwise fun x y => meetsB y x = false
  | 0, _ => by simp [cutTo]
  | n + 1, hn => by
    rw [cutTo, List.pairwise_append]
    refine ⟨pair_cutTo ha hb h hm n (by omega), ?_, ?_⟩
    · split <;> simp
    · intro x hx y hy
      obtain ⟨k, hk, hc, rfl⟩ := mem_cutTo.1 hx
      split at hy
      · rename_i hc2
        rw [List.mem_singleton] at hy
        subst hy
        exact parts_apart ha hb h hm hk (by omega) hc hc2
      · cases hy

theorem meets_flip {a b : List UInt8} (h : a.length = b.length) : meetsB b a = meetsB a b := by
  rw [Bool.eq_iff_iff, meetsB, meetsB, zip_all h.symm, zip_all h]
  constructor <;> (intro H i hi; have := H i (by omega); simp only [Bool.or_eq_true, beq_iff_eq] at this ⊢; rcases this with (e | e) | e <;> simp [e])

theorem pair_cutL {a b : List UInt8} (ha : right a = true) (hb : right b = true) (h : a.length = b.length) : (cutL a b ++ [b]).Pairwise fun x y => meetsB y x = false := by
  obtain ⟨ha1, _, _⟩ := right_all ha
  obtain ⟨hb1, _, _⟩ := right_all hb
  rw [List.pairwise_append]
  unfold cutL
  cases hm : meetsB a b with
  | true =>
    rw [if_pos rfl]
    refine ⟨pair_cutTo ha1 hb1 h hm _ (Nat.le_refl _), by simp, ?_⟩
    intro x hx y hy
    rw [List.mem_singleton] at hy
    subst hy
    obtain ⟨k, hk, hc, rfl⟩ := mem_cutTo.1 hx
    exact part_off ha1 hb1 h hm hk hc
  | false =>
    rw [if_neg (by simp)]
    refine ⟨by simp, by simp, ?_⟩
    intro x hx y hy
    rw [List.mem_singleton] at hx hy
    subst hx hy
    rw [meets_flip h]; exact hm

/-- A header: every place is fixed. -/
theorem header_inside {h c : List UInt8} (hh : h.all sym = true) (hc : c.all sym = true) (hl : h.length = c.length) (hx : ∀ i, i < h.length → fixAt h i = true) :
    insideB h c = true ↔ ∀ i, fixAt c i = true → oneAt h i = oneAt c i := by
  rw [insideB_iff hh hc hl]
  constructor
  · intro H i hi
    have hil : i < h.length := by
      by_cases e : i < h.length
      · exact e
      · rw [fixAt_ge (by omega)] at hi; cases hi
    have := H i
    unfold outAt at this
    rw [hi, hx i hil] at this
    simpa using this
  · intro H i
    unfold outAt
    cases hf : fixAt c i with
    | false => rfl
    | true =>
      have hil : i < h.length := by
        by_cases e : i < h.length
        · exact e
        · rw [fixAt_ge (by omega)] at hf; cases hf
      rw [hx i hil, H i hf]; simp

/-- P1.6: a header lies in one of the parts just if it lies in a and not in b. -/
theorem in_parts {a b h : List UInt8} (ha : right a = true) (hb : right b = true) (hh : h.all sym = true) (hab : a.length = b.length) (hl : h.length = a.length) (hx : ∀ i, i < h.length → fixAt h i = true) :
    (∃ l, l ∈ cutL a b ∧ insideB h l = true) ↔ (insideB h a = true ∧ insideB h b = false) := by
  obtain ⟨ha1, _, _⟩ := right_all ha
  obtain ⟨hb1, _, _⟩ := right_all hb
  have ia := header_inside hh ha1 hl hx
  have ib := header_inside hh hb1 (hl.trans hab) hx
  unfold cutL
  cases hm : meetsB a b with
  | false =>
    rw [if_neg (by simp)]
    constructor
    · rintro ⟨l, hl', hi⟩
      rw [List.mem_singleton] at hl'
      subst hl'
      refine ⟨hi, ?_⟩
      rw [← Bool.not_eq_true]
      intro hi2
      have H1 := ia.1 hi
      have H2 := ib.1 hi2
      have : meetsB l b = true := (meetsB_iff ha1 hb1 hab).2 (fun i => by
        unfold partAt
        cases f1 : fixAt l i with
        | false => simp
        | true =>
          cases f2 : fixAt b i with
          | false => simp
          | true => rw [← H1 i f1, ← H2 i f2]; simp)
      rw [hm] at this; cases this
    · rintro ⟨h1, _⟩
      exact ⟨a, by simp, h1⟩
  | true =>
    rw [if_pos rfl]
    constructor
    · rintro ⟨l, hl', hi⟩
      obtain ⟨k, hk, hc, rfl⟩ := mem_cutTo.1 hl'
      have ip := (header_inside hh (part_sym ha1 hb1 hab) (by rw [part_length hab hk]; exact hl) hx).1 hi
      obtain ⟨f1, f2⟩ := cond_parts hc
      refine ⟨ia.2 (fun i hf => ?_), ?_⟩
      · have pa := part_at ha1 hb1 hab hm hk hc i
        rcases Nat.lt_trichotomy i k with hik | hik | hik
        · have e := pa.1 hik
          have := ip i (by rw [e.1, hf]; rfl)
          rw [this, e.2]
          cases fb : fixAt b i with
          | false => rw [one_of_free fb]; simp
          | true =>
            have := (meetsB_iff ha1 hb1 hab).1 hm i
            unfold partAt at this
            rw [hf, fb] at this
            simp only [Bool.and_true] at this
            have e2 : oneAt a i = oneAt b i := by simpa using this
            rw [e2]; simp
        · subst hik; rw [f1] at hf; cases hf
        · have e := pa.2.2 hik
          have := ip i (by rw [e.1]; exact hf)
          rw [this, e.2]
      · rw [← Bool.not_eq_true]
        intro hi2
        have H2 := ib.1 hi2 k f2
        have e := (part_at ha1 hb1 hab hm hk hc k).2.1 rfl
        have := ip k e.1
        rw [e.2, H2] at this
        cases hob : oneAt b k <;> rw [hob] at this <;> cases this
    · rintro ⟨h1, h2⟩
      have H1 := ia.1 h1
      have hex : ∃ i, i < a.length ∧ (fixAt b i && (oneAt h i != oneAt b i)) = true := by
        apply Classical.byContradiction
        intro hno
        have : insideB h b = true := ib.2 (fun i hf => by
          by_cases hi : i < a.length
          · apply Classical.byContradiction
            intro hne
            exact hno ⟨i, hi, by simp [hf, hne]⟩
          · rw [fixAt_ge (by omega)] at hf; cases hf)
        rw [this] at h2; cases h2
      -- the first such place
      have hfirst : ∀ n, (∃ i, i < n ∧ (fixAt b i && (oneAt h i != oneAt b i)) = true) → ∃ k, k < n ∧ (fixAt b k && (oneAt h k != oneAt b k)) = true ∧ ∀ i, i < k → (fixAt b i && (oneAt h i != oneAt b i)) = false := by
        intro n
        induction n with
        | zero => rintro ⟨i, hi, _⟩; omega
        | succ n ih =>
          rintro ⟨i, hi, hp⟩
          by_cases hn : ∃ i, i < n ∧ (fixAt b i && (oneAt h i != oneAt b i)) = true
          · obtain ⟨k, hk, e, f⟩ := ih hn
            exact ⟨k, by omega, e, f⟩
          · have : i = n := by
              by_cases hin : i < n
              · exact absurd ⟨i, hin, hp⟩ hn
              · omega
            subst this
            refine ⟨i, by omega, hp, fun j hj => ?_⟩
            rw [← Bool.not_eq_true]
            exact fun e => hn ⟨j, hj, e⟩
      obtain ⟨k, hk, hp, hmin⟩ := hfirst _ hex
      simp only [Bool.and_eq_true, bne_iff_ne, ne_eq] at hp
      obtain ⟨f2, hne⟩ := hp
      have f1 : fixAt a k = false := by
        cases f1 : fixAt a k with
        | false => rfl
        | true =>
          have := (meetsB_iff ha1 hb1 hab).1 hm k
          unfold partAt at this
          rw [f1, f2] at this
          have e2 : oneAt a k = oneAt b k := by simpa using this
          exact absurd ((H1 k f1).trans e2) hne
      have hc : cond a b k = true := by unfold cond; rw [f1, f2]; rfl
      refine ⟨partL a b k, mem_cutTo.2 ⟨k, hk, hc, rfl⟩, ?_⟩
      refine (header_inside hh (part_sym ha1 hb1 hab) (by rw [part_length hab hk]; exact hl) hx).2 (fun i hf => ?_)
      have pa := part_at ha1 hb1 hab hm hk hc i
      rcases Nat.lt_trichotomy i k with hik | hik | hik
      · have e := pa.1 hik
        rw [e.1] at hf
        rw [e.2]
        have hmi := hmin i hik
        cases fa : fixAt a i with
        | false =>
          rw [fa, Bool.false_or] at hf
          rw [hf] at hmi
          have e3 : oneAt h i = oneAt b i := by simpa using hmi
          rw [one_of_free fa, e3]; simp
        | true =>
          rw [H1 i fa]
          cases fb : fixAt b i with
          | false => rw [one_of_free fb]; simp
          | true =>
            rw [fb] at hmi
            have e3 : oneAt h i = oneAt b i := by simpa using hmi
            rw [← e3, H1 i fa]; simp
      · subst hik
        rw [(pa.2.1 rfl).2]
        cases ho : oneAt h i <;> cases hob : oneAt b i <;> simp_all
      · have e := pa.2.2 hik
        rw [e.1] at hf
        rw [e.2]; exact H1 i hf
end Cu
end Go.Proofs.Ytfgdikhpabapkaa
