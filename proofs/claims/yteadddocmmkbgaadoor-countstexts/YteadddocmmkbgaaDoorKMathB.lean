/-
  Package counts: reading a set's text back, mathematics.
-/
import Derived.Test.YteadddocmmkbgaaDoorKRdC
namespace Go.Proofs.YteadddocmmkbgaaDoor.Co

theorem dec_signs {n : Nat} (h : n ≤ 63) : ∀ x ∈ Lib.decDigits n, x ≠ 44 ∧ x ≠ 125 ∧ x ≠ 62 := by
  have key : ∀ k : Fin 64, ∀ x ∈ Lib.decDigits k.1, x ≠ 44 ∧ x ≠ 125 ∧ x ≠ 62 := by decide +kernel
  exact key ⟨n, by omega⟩
theorem dec_inj {a b : Nat} (ha : a ≤ 63) (hb : b ≤ 63) (h : Lib.decDigits a = Lib.decDigits b) : a = b := by
  have key : ∀ i j : Fin 64, Lib.decDigits i.1 = Lib.decDigits j.1 → i = j := by decide +kernel
  have := key ⟨a, by omega⟩ ⟨b, by omega⟩ h
  exact congrArg Fin.val this
theorem dec_ne {n : Nat} (h : n ≤ 63) : Lib.decDigits n ≠ [] := by
  have key : ∀ k : Fin 64, Lib.decDigits k.1 ≠ [] := by decide +kernel
  exact key ⟨n, by omega⟩
theorem word_signs {t i : Nat} (ht : t ≤ 62) (hi : i ≤ t + 1) : ∀ x ∈ wordT t i, x ≠ 44 ∧ x ≠ 125 := by
  intro x hx
  unfold wordT at hx
  split at hx
  · rcases List.mem_cons.1 hx with rfl | hx
    · decide
    · have := dec_signs (n := t) (by omega) x hx
      exact ⟨this.1, this.2.1⟩
  · have := dec_signs (n := i) (by omega) x hx
    exact ⟨this.1, this.2.1⟩
theorem word_inj {t i j : Nat} (ht : t ≤ 62) (hi : i ≤ t + 1) (hj : j ≤ t + 1) (h : wordT t i = wordT t j) : i = j := by
  unfold wordT at h
  split at h
  · split at h
    · omega
    · have := dec_signs (n := j) (by omega) 62 (by rw [← h]; simp)
      exact absurd rfl this.2.2
  · split at h
    · have := dec_signs (n := i) (by omega) 62 (by rw [h]; simp)
      exact absurd rfl this.2.2
    · exact dec_inj (by omega) (by omega) h
theorem word_ne {t i : Nat} (ht : t ≤ 62) (hi : i ≤ t + 1) : wordT t i ≠ [] := by
  unfold wordT
  split
  · simp
  · exact dec_ne (by omega)
theorem al_self (a r : List UInt8) : al a (a ++ r) = a.length := by
  induction a with
  | nil => cases r <;> simp [al]
  | cons x a ih => simp [al, ih]
theorem al_pre {a b : List UInt8} (h : al a b = a.length) : a <+: b := by
  induction a generalizing b with
  | nil => exact List.nil_prefix
  | cons x a ih =>
    cases b with
    | nil => simp [al] at h
    | cons y b =>
      unfold al at h
      split at h
      · rename_i e
        subst e
        have := ih (b := b) (by simpa using h)
        exact List.cons_prefix_cons.2 ⟨rfl, this⟩
      · simp at h
/-- No word goes further into another word and a sign behind it than that word. -/
theorem al_word {a b r : List UInt8} {z : UInt8} (ha : ∀ x ∈ a, x ≠ z) : al a (b ++ z :: r) ≤ b.length := by
  induction a generalizing b with
  | nil => simp [al]
  | cons x a ih =>
    cases b with
    | nil =>
      have : x ≠ z := ha x (by simp)
      simp [al, this]
    | cons y b =>
      rw [List.cons_append]
      unfold al
      split
      · have := ih (b := b) (fun w hw => ha w (by simp [hw]))
        simp only [List.length_cons]
        omega
      · simp
theorem pre_word {a b r : List UInt8} {z : UInt8} (h : a <+: b ++ z :: r) (hl : a.length = b.length) : a = b := by
  obtain ⟨q, hq⟩ := h
  exact (List.append_inj hq hl).1
/-- The element of a word and a sign behind it. -/
theorem elem_word {t left e : Nat} {r : List UInt8} {z : UInt8} (ht : t ≤ 62) (he : e ∈ els t left) (hz : z = 44 ∨ z = 125) : elem t left (wordT t e ++ z :: r) = (some e, (wordT t e).length) := by
  have hle : ∀ j ∈ els t left, j ≤ t + 1 := fun j hj => by have := (mem_els.1 hj).1; omega
  have hal : ∀ j ∈ els t left, al (wordT t j) (wordT t e ++ z :: r) ≤ (wordT t e).length := fun j hj => al_word (fun x hx => by
    have := word_signs ht (hle j hj) x hx
    rcases hz with rfl | rfl
    · exact this.1
    · exact this.2)
  have hone : ∀ j ∈ els t left, al (wordT t j) (wordT t e ++ z :: r) = (wordT t e).length → al (wordT t j) (wordT t e ++ z :: r) = (wordT t j).length → j = e := fun j hj h1 h2 =>
    word_inj ht (hle j hj) (hle e he) (pre_word (al_pre h2) (by omega))
  have hself : al (wordT t e) (wordT t e ++ z :: r) = (wordT t e).length := al_self _ _
  obtain ⟨L, hL⟩ : ∃ L, L = (wordT t e).length := ⟨_, rfl⟩
  obtain ⟨s, hs⟩ : ∃ s, s = wordT t e ++ z :: r := ⟨_, rfl⟩
  rw [← hs, ← hL] at hal hone hself
  rw [← hs, ← hL]
  -- ahead of e the state is at most L; behind it it stands
  have after : ∀ (l : List Nat), (∀ j ∈ l, j ∈ els t left) → e ∉ l → l.foldl (elStep t s) (some e, L) = (some e, L) := by
    intro l
    induction l with
    | nil => intro _ _; rfl
    | cons x l ih =>
      intro hl hne
      have hx := hl x (by simp)
      have h1 := hal x hx
      have hxe : x ≠ e := fun q => hne (by rw [q]; simp)
      have hst : elStep t s (some e, L) x = (some e, L) := by
        unfold elStep
        simp only
        rw [if_neg (show ¬ L < al (wordT t x) s by omega)]
        rw [if_neg (by
          rintro ⟨q1, q2⟩
          exact hxe (hone x hx q1 q2))]
      rw [List.foldl_cons, hst]
      exact ih (fun j hj => hl j (by simp [hj])) (fun q => hne (by simp [q]))
  have ahead : ∀ (l : List Nat) (q : Option Nat × Nat), (∀ j ∈ l, j ∈ els t left) → q.2 ≤ L → (l.foldl (elStep t s) q).2 ≤ L := by
    intro l
    induction l with
    | nil => intro q _ h; exact h
    | cons x l ih =>
      intro q hl hq
      refine ih _ (fun j hj => hl j (by simp [hj])) ?_
      have h1 := hal x (hl x (by simp))
      unfold elStep
      simp only
      split <;> split <;> first | exact h1 | exact hq
  obtain ⟨l1, l2, hl⟩ := List.append_of_mem he
  have hnd : (els t left).Nodup := by
    unfold els
    exact List.Pairwise.filter _ List.nodup_range
  rw [hl] at hnd
  have hne2 : e ∉ l2 := by
    have := (List.nodup_append.1 hnd).2.1
    exact (List.nodup_cons.1 this).1
  unfold elem
  rw [hl, List.foldl_append, List.foldl_cons]
  have hA := ahead l1 (none, 0) (fun j hj => by rw [hl]; simp [hj]) (Nat.zero_le _)
  obtain ⟨q, hq⟩ : ∃ q, q = l1.foldl (elStep t s) (none, 0) := ⟨_, rfl⟩
  rw [← hq] at hA ⊢
  have hst : elStep t s q e = (some e, L) := by
    unfold elStep
    simp only
    rw [hself]
    by_cases h : q.2 < L
    · rw [if_pos h, if_pos ⟨rfl, hL⟩]
    · rw [if_neg h, if_pos ⟨by omega, hL⟩]
      congr 1
      omega
  rw [hst]
  exact after l2 (fun j hj => by rw [hl]; simp [hj]) hne2
theorem els_lt (t c : Nat) : (els t c).Pairwise (· < ·) := by
  unfold els
  exact List.Pairwise.filter _ List.pairwise_lt_range
/-- The elements of a text that is one. -/
theorem elemsR_list {t : Nat} (ht : t ≤ 62) : ∀ (es : List Nat) (e left c p k : Nat), left < 2 ^ (t + 2) → (∀ x ∈ e :: es, left.testBit x = true) → (e :: es).Pairwise (· < ·) → es.length ≤ k →
    ∃ p', elemsR t (k + 1) left c p (wordT t e ++ (Lib.joinTail [44] (es.map (wordT t)) ++ [125])) = .ok ((e :: es).foldl (fun c n => c ||| 2 ^ n) c, p', [125])
  | [], e, left, c, p, k, hlt, hb, _, _ => by
    have he : e ∈ els t left := mem_els.2 ⟨bit_lt hlt (hb e (by simp)), hb e (by simp)⟩
    refine ⟨p + (wordT t e).length, ?_⟩
    have e0 : Lib.joinTail [44] (([] : List Nat).map (wordT t)) ++ [125] = (125 : UInt8) :: [] := by simp [Lib.joinTail]
    rw [e0, elemsR_succ, elem_word ht he (Or.inr rfl)]
    simp only [List.drop_left]
    rw [if_neg (by simp)]
    rfl
  | e2 :: es, e, left, c, p, k, hlt, hb, hs, hk => by
    have h64 : left < 2 ^ 64 := Nat.lt_of_lt_of_le hlt (Nat.pow_le_pow_right (by omega) (by omega))
    have hbe := hb e (by simp)
    have het := bit_lt hlt hbe
    have he : e ∈ els t left := mem_els.2 ⟨het, hbe⟩
    obtain ⟨k', rfl⟩ : ∃ k', k = k' + 1 := ⟨k - 1, by simp at hk; omega⟩
    have hs' := List.pairwise_cons.1 hs
    have hbits : ∀ x ∈ e2 :: es, (leftN left e).testBit x = true := by
      intro x hx
      rw [leftN_bit h64 (by omega), hb x (by simp at hx ⊢; exact Or.inr hx)]
      simp
      exact hs'.1 x hx
    have hne : leftN left e ≠ 0 := ne_zero_bit (hbits e2 (by simp))
    have hll : leftN left e < 2 ^ (t + 2) := Nat.lt_of_le_of_lt Nat.and_le_left hlt
    obtain ⟨p', hp'⟩ := elemsR_list ht es e2 (leftN left e) (c ||| 2 ^ e) (p + (wordT t e).length + 1) k' hll hbits hs'.2 (by simp at hk; omega)
    refine ⟨p', ?_⟩
    have e0 : Lib.joinTail [44] ((e2 :: es).map (wordT t)) ++ [125] = (44 : UInt8) :: (wordT t e2 ++ (Lib.joinTail [44] (es.map (wordT t)) ++ [125])) := by simp [Lib.joinTail]
    rw [e0, elemsR_succ, elem_word ht he (Or.inl rfl)]
    simp only [List.drop_left]
    rw [if_pos ⟨hne, by simp⟩]
    exact hp'
/-- A set's text is read as the set. -/
theorem setR_txt {t c : Nat} (ht : t ≤ 62) (hc : mayB t c = true) : setR t (txtL t c) = .ok c := by
  have hlt := may_lt hc
  cases hes : els t c with
  | nil =>
    obtain ⟨k, hk⟩ := bit_of_ne (may_ne hc)
    have : k ∈ els t c := mem_els.2 ⟨bit_lt hlt hk, hk⟩
    rw [hes] at this
    cases this
  | cons e es =>
    have hp : 0 < 2 ^ (t + 2) := Nat.pow_pos (by omega)
    have hlen : es.length ≤ 63 := by
      have h1 := upTo_len c (t + 2)
      have e2 : els t c = upTo c (t + 2) := rfl
      rw [← e2, hes, List.length_cons] at h1
      omega
    have hbits : ∀ x ∈ e :: es, (2 ^ (t + 2) - 1).testBit x = true := by
      intro x hx
      rw [← hes] at hx
      rw [Nat.testBit_two_pow_sub_one]
      simp
      exact (mem_els.1 hx).1
    obtain ⟨p', hp'⟩ := elemsR_list ht es e (2 ^ (t + 2) - 1) 0 1 63 (by omega) hbits (by rw [← hes]; exact els_lt t c) hlen
    unfold setR txtL
    rw [if_pos (by simp), List.tail_cons, hes, List.map_cons, Lib.join_cons, List.append_assoc, hp']
    unfold endR
    simp only
    rw [if_pos (by simp), if_pos (by simp)]
    have : (e :: es).foldl (fun c n => c ||| 2 ^ n) 0 = setN (els t c) := by rw [hes]; rfl
    rw [this, setN_els hlt]
end Go.Proofs.YteadddocmmkbgaaDoor.Co
