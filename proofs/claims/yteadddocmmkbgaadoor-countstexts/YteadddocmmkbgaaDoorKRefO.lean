/-
  Counts: the set that the document reads of a text is the program's.
-/
import Derived.Test.YteadddocmmkbgaaDoorKRefN
namespace Go.Proofs.YteadddocmmkbgaaDoor.Co
open Go.RowKit Go.Shelf

theorem addW_word {t i : Nat} (ht : t ≤ 62) (hi : i ≤ t + 1) (c : Nat) : ∀ K, K ≤ t + 2 → addW t (wordT t i) c K = if i < K then c ||| 2 ^ i else c
  | 0, _ => by simp [addW]
  | K + 1, h => by
    rw [addW, addW_word ht hi c K (by omega)]
    by_cases hk : K = i
    · subst hk
      rw [if_pos rfl, if_neg (by omega), if_pos (by omega)]
    · rw [if_neg (fun e => hk (word_inj ht (by omega) hi e))]
      by_cases hlt : i < K
      · rw [if_pos hlt, if_pos (by omega)]
      · rw [if_neg hlt, if_neg (by omega)]
theorem rdC_word {t : Nat} {s : List UInt8} {q : Nat × Nat} : ∀ (W a r : List UInt8) (A : Nat), (∀ x ∈ W, x ≠ 44 ∧ x ≠ 125) → s = a ++ (W ++ r) → a.length = A + 1 → rdC t s A = q → rdC t s (A + W.length) = q
  | [], a, r, A, _, _, _, h => h
  | w :: W, a, r, A, hW, hs, ha, h => by
    have hw := hW w (by simp)
    have g : s[A + 1]? = some w := by rw [hs, ← ha]; simp
    have h1 : rdC t s (A + 1) = q := by
      rw [rdC, g, if_neg (by
        rintro (e | e)
        · exact hw.1 (Option.some.inj e)
        · exact hw.2 (Option.some.inj e))]
      exact h
    have := rdC_word W (a ++ [w]) r (A + 1) (fun x hx => hW x (by simp [hx])) (by rw [hs]; simp) (by simp [ha]) h1
    rw [List.length_cons, show A + (W.length + 1) = A + 1 + W.length by omega]
    exact this
theorem rdC_sign {t i : Nat} (ht : t ≤ 62) (hi : i ≤ t + 1) {s a r : List UInt8} {z : UInt8} {A c : Nat} (hz : z = 44 ∨ z = 125) (hs : s = a ++ (wordT t i ++ z :: r)) (ha : a.length = A + 1) (h : rdC t s A = (c, A + 1)) :
    rdC t s (A + (wordT t i).length + 1) = (c ||| 2 ^ i, A + (wordT t i).length + 2) := by
  have h1 := rdC_word (wordT t i) a (z :: r) A (word_signs ht hi) hs ha h
  have g : s[A + (wordT t i).length + 1]? = some z := by
    rw [hs, show A + (wordT t i).length + 1 = a.length + (wordT t i).length by omega, ← List.append_assoc, ← List.length_append]
    simp
  have tk : (s.take (A + (wordT t i).length + 1)).drop (A + 1) = wordT t i := by
    rw [hs, show A + (wordT t i).length + 1 = a.length + (wordT t i).length by omega, ← List.append_assoc, ← List.length_append, List.take_left, ← ha, List.drop_left]
  rw [rdC, g, if_pos (by rcases hz with hz | hz <;> simp [hz]), h1]
  simp only
  rw [tk, addW_word ht hi c (t + 2) (Nat.le_refl _), if_pos (by omega)]
theorem left_aft {t left i : Nat} {last : Option Nat} (ht : t ≤ 62) (hlt : left < 2 ^ (t + 2)) (hf : ∀ i, i ∈ els t left ↔ Aft t last i) (hai : Aft t last i) : ∀ e, e ∈ els t (leftN left i) ↔ Aft t (some i) e := by
  have h64 : left < 2 ^ 64 := Nat.lt_of_lt_of_le hlt (Nat.pow_le_pow_right (by omega) (by omega))
  have hit := hai.1
  intro e
  rw [mem_els, leftN_bit h64 (by omega), Bool.and_eq_true, decide_eq_true_eq]
  constructor
  · rintro ⟨a, _, b⟩
    exact ⟨by omega, fun l q => by cases q; exact b⟩
  · rintro ⟨a, b⟩
    have hie := b i rfl
    have : e ∈ els t left := (hf e).2 ⟨a, fun l q => by have := hai.2 l q; omega⟩
    exact ⟨by omega, (mem_els.1 this).2, hie⟩
theorem rdC_text {t : Nat} (ht : t ≤ 62) {s : List UInt8} : ∀ (k left c p i A : Nat) (y a : List UInt8) (last : Option Nat), Rst t (some i) y → left < 2 ^ (t + 2) → (∀ i, i ∈ els t left ↔ Aft t last i) → Aft t last i → t + 2 - i ≤ k → s = a ++ (wordT t i ++ y) → a.length = A + 1 → rdC t s A = (c, A + 1) →
    endR (elemsR t k left c p (wordT t i ++ y)) = .ok (rdC t s (s.length - 1)).1 := by
  intro k
  induction k with
  | zero => intro left c p i A y a last _ _ _ hai hk; have := hai.1; omega
  | succ k ih =>
    intro left c p i A y a last hr hlt hf hai hk hs ha h
    have hi := (hf i).2 hai
    have hll : leftN left i < 2 ^ (t + 2) := Nat.lt_of_le_of_lt Nat.and_le_left hlt
    have hf2 := left_aft ht hlt hf hai
    cases hr with
    | fin =>
      have h2 := rdC_sign ht hai.1 (Or.inr rfl) hs ha h
      rw [elemsR_succ, elem_word ht hi (Or.inr rfl)]
      simp only [List.drop_left]
      rw [if_neg (by simp), show s.length - 1 = A + (wordT t i).length + 1 by rw [hs]; simp; omega, h2]
      rfl
    | next _ e y hl he hr =>
      have h2 := rdC_sign ht hai.1 (Or.inl rfl) hs ha h
      have hae : Aft t (some i) e := ⟨he, fun l q => by cases q; exact hl⟩
      rw [elemsR_succ, elem_word ht hi (Or.inl rfl)]
      simp only [List.drop_left]
      rw [if_pos ⟨ne_zero_bit (mem_els.1 ((hf2 e).2 hae)).2, rfl⟩]
      exact ih (leftN left i) (c ||| 2 ^ i) (p + (wordT t i).length + 1) e (A + (wordT t i).length + 1) y (a ++ (wordT t i ++ [44])) (some i) hr hll hf2 hae (by omega) (by rw [hs]; simp) (by simp; omega) h2
theorem rdC_ok {t c : Nat} (ht : t ≤ 62) {s : List UInt8} (h : setR t s = .ok c) : (rdC t s (s.length - 1)).1 = c := by
  rcases setR_out ht s with ⟨c', h1, x, rfl, hr⟩ | ⟨p, h1, _⟩
  · have hp : 0 < 2 ^ (t + 2) := Nat.pow_pos (by omega)
    have hs : setR t (123 :: x) = endR (elemsR t 64 (2 ^ (t + 2) - 1) 0 1 x) := by unfold setR; rw [if_pos (show ((123 : UInt8) :: x).head? = some 123 from rfl)]; rfl
    obtain ⟨q, hq⟩ : ∃ q, q = (123 : UInt8) :: x := ⟨_, rfl⟩
    rw [hs] at h
    rw [← hq]
    cases hr with
    | first i y hi hr =>
      have := rdC_text (s := q) ht 64 (2 ^ (t + 2) - 1) 0 1 i 0 y [123] none hr (by omega) (full_aft t) ⟨hi, fun l e => by cases e⟩ (by omega) hq rfl rfl
      rw [this] at h
      exact Except.ok.inj h
  · rw [h] at h1; cases h1
/-- The document's Read answers what readP says. -/
theorem RRead_is {t : Int} {s : List UInt8} {w : World} (hs : s.length ≤ 9223372036854775807) (hP : PowTab w) :
    Calls Tryd.prog 28 #[.int .i64 t, .string (tx s)] w fun e w' => e = .returned (.tuple #[.int .u64 ((readP t s).1 : Nat), .int .i64 (readP t s).2.1, .int .i64 (readP t s).2.2]) ∧ Below w.heap.size w w' := by
  by_cases h : 0 ≤ t ∧ t ≤ 62
  · obtain ⟨m, rfl⟩ : ∃ m : Nat, t = (m : Int) := ⟨t.toNat, by omega⟩
    have hm : m ≤ 62 := by omega
    exact (RRead_any hm s hs hP).mono fun e w' ⟨h1, h2⟩ => ⟨rdP_is hm h1 (fun c hc => rdC_ok hm hc), h2⟩
  · have e0 : readP t s = (0, 0, 1) := by unfold readP; rw [if_pos (by omega)]
    rw [e0]
    exact RRead_out h s w
end Go.Proofs.YteadddocmmkbgaaDoor.Co
