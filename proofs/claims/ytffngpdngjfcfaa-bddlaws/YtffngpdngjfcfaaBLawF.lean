/-
  The functions that BddLaws comes upon: ors of cubes, without one, and their complements.
-/
import Derived.Test.YtffngpdngjfcfaaBCubeE
namespace Go.Proofs.Ytffngpdngjfcfaa
open Bd (ff tt iteF cof From)

def notF (f : Bd.Fn) : Bd.Fn := iteF f ff tt
def dif (f g : Bd.Fn) : Bd.Fn := iteF g ff f
def orL : List ByteArray → List Bool → Nat → Bd.Fn
  | t :: ts, b :: bs, k => fun h => (b && suf t k h) || orL ts bs k h
  | _, _, _ => ff
/-- A row of bits as a number, and back. -/
def num : List Bool → Nat
  | [] => 0
  | b :: bs => (if b then 1 else 0) + 2 * num bs
def dec : Nat → Nat → List Bool
  | 0, _ => []
  | n + 1, j => (j % 2 == 1) :: dec n (j / 2)
theorem dec_num (bs : List Bool) : dec bs.length (num bs) = bs := by
  induction bs with
  | nil => rfl
  | cons b bs ih =>
    show ((num (b :: bs)) % 2 == 1) :: dec bs.length (num (b :: bs) / 2) = b :: bs
    have h1 : num (b :: bs) / 2 = num bs := by cases b <;> simp [num] <;> omega
    have h2 : (num (b :: bs) % 2 == 1) = b := by cases b <;> simp [num] <;> omega
    rw [h1, h2, ih]
theorem num_lt (bs : List Bool) : num bs < 2 ^ bs.length := by
  induction bs with
  | nil => simp [num]
  | cons b bs ih =>
    show num (b :: bs) < 2 ^ (bs.length + 1)
    rw [Nat.pow_succ]
    cases b <;> simp [num] <;> omega
theorem or_none (ts : List ByteArray) (bs : List Bool) (k : Nat) (h : num bs = 0) : orL ts bs k = ff := by
  induction ts generalizing bs with
  | nil => cases bs <;> rfl
  | cons t ts ih =>
    cases bs with
    | nil => rfl
    | cons b bs =>
      have hb : b = false := by cases b <;> simp [num] at h ⊢ <;> omega
      have hs : num bs = 0 := by simp [num] at h; omega
      subst hb
      funext x
      show (false && suf t k x || orL ts bs k x) = false
      rw [ih bs hs]; rfl
theorem from_or (ts : List ByteArray) (bs : List Bool) (k : Nat) : From k (orL ts bs k) := by
  induction ts generalizing bs with
  | nil => cases bs <;> exact Bd.from_ff _
  | cons t ts ih =>
    cases bs with
    | nil => exact Bd.from_ff _
    | cons b bs =>
      intro x z hxz
      show (b && suf t k x || orL ts bs k x) = (b && suf t k z || orL ts bs k z)
      rw [suf_from t k x z hxz, ih bs x z hxz]
theorem cof_or (ts : List ByteArray) (bs : List Bool) (k : Nat) (b : Bool) (hs : ∀ t, t ∈ ts → k < t.size) : ∃ bs', bs'.length = bs.length ∧ cof (orL ts bs k) k b = orL ts bs' (k + 1) := by
  induction ts generalizing bs with
  | nil => exact ⟨bs, rfl, by cases bs <;> rfl⟩
  | cons t ts ih =>
    cases bs with
    | nil => exact ⟨[], rfl, rfl⟩
    | cons c bs =>
      obtain ⟨bs', hl, e⟩ := ih bs (fun t ht => hs t (List.mem_cons_of_mem _ ht))
      rcases suf_cof (hs t List.mem_cons_self) b with h | h
      · refine ⟨c :: bs', by simp [hl], ?_⟩
        funext x
        show (c && cof (suf t k) k b x || cof (orL ts bs k) k b x) = (c && suf t (k + 1) x || orL ts bs' (k + 1) x)
        rw [h, e]
      · refine ⟨false :: bs', by simp [hl], ?_⟩
        funext x
        show (c && cof (suf t k) k b x || cof (orL ts bs k) k b x) = (false && suf t (k + 1) x || orL ts bs' (k + 1) x)
        rw [h, e]
        show (c && false || _) = _
        simp
theorem dif_none (f : Bd.Fn) : dif f ff = f := by funext x; rfl
theorem dif_ff (g : Bd.Fn) : dif ff g = ff := by funext x; unfold dif iteF ff; split <;> rfl
theorem notF_from {k : Nat} {f : Bd.Fn} (h : From k f) : From k (notF f) := Bd.from_iteF h (Bd.from_ff _) (Bd.from_tt _)

/-- The kinds of functions that the law comes upon. -/
def LawF (t0 : ByteArray) (ts : List ByteArray) (k : Nat) (f : Bd.Fn) : Prop :=
  (∃ bs : List Bool, bs.length = ts.length ∧ (f = orL ts bs k ∨ f = notF (orL ts bs k) ∨ f = dif (orL ts bs k) (suf t0 k) ∨ f = notF (dif (orL ts bs k) (suf t0 k)))) ∨ f = suf t0 k ∨ f = notF (suf t0 k)

theorem num_false (n : Nat) : num (List.replicate n false) = 0 := by
  induction n with
  | zero => rfl
  | succ n ih => simp [List.replicate_succ, num, ih]

def lawEn (t0 : ByteArray) (ts : List ByteArray) (k j : Nat) : Bd.Fn :=
  if j / 2048 = 0 then orL ts (dec ts.length (j % 2048)) k
  else if j / 2048 = 1 then notF (orL ts (dec ts.length (j % 2048)) k)
  else if j / 2048 = 2 then (if j % 2048 = 0 then suf t0 k else dif (orL ts (dec ts.length (j % 2048)) k) (suf t0 k))
  else (if j % 2048 = 0 then notF (suf t0 k) else notF (dif (orL ts (dec ts.length (j % 2048)) k) (suf t0 k)))

def lawFam (nb : Nat) (t0 : ByteArray) (ts : List ByteArray) (h0 : t0.size = nb) (hs : ∀ t, t ∈ ts → t.size = nb) (hl : ts.length ≤ 11) : Bd.Fam nb 8192 where
  F k f := LawF t0 ts k f
  dep k f h := by
    rcases h with ⟨bs, _, rfl | rfl | rfl | rfl⟩ | rfl | rfl
    · exact from_or ts bs k
    · exact notF_from (from_or ts bs k)
    · exact Bd.from_iteF (suf_from t0 k) (Bd.from_ff _) (from_or ts bs k)
    · exact notF_from (Bd.from_iteF (suf_from t0 k) (Bd.from_ff _) (from_or ts bs k))
    · exact suf_from t0 k
    · exact notF_from (suf_from t0 k)
  go k f b hk h := by
    have hts : ∀ t, t ∈ ts → k < t.size := fun t ht => by rw [hs t ht]; exact hk
    have h0' : k < t0.size := by rw [h0]; exact hk
    rcases h with ⟨bs, hbl, rfl | rfl | rfl | rfl⟩ | rfl | rfl
    · obtain ⟨bs', hl', e⟩ := cof_or ts bs k b hts
      exact Or.inl ⟨bs', hl'.trans hbl, Or.inl e⟩
    · obtain ⟨bs', hl', e⟩ := cof_or ts bs k b hts
      exact Or.inl ⟨bs', hl'.trans hbl, Or.inr (Or.inl (by show notF (cof (orL ts bs k) k b) = _; rw [e]))⟩
    · obtain ⟨bs', hl', e⟩ := cof_or ts bs k b hts
      rcases suf_cof h0' b with e0 | e0
      · exact Or.inl ⟨bs', hl'.trans hbl, Or.inr (Or.inr (Or.inl (by show dif (cof (orL ts bs k) k b) (cof (suf t0 k) k b) = _; rw [e, e0])))⟩
      · exact Or.inl ⟨bs', hl'.trans hbl, Or.inl (by show dif (cof (orL ts bs k) k b) (cof (suf t0 k) k b) = _; rw [e, e0, dif_none])⟩
    · obtain ⟨bs', hl', e⟩ := cof_or ts bs k b hts
      rcases suf_cof h0' b with e0 | e0
      · exact Or.inl ⟨bs', hl'.trans hbl, Or.inr (Or.inr (Or.inr (by show notF (dif (cof (orL ts bs k) k b) (cof (suf t0 k) k b)) = _; rw [e, e0])))⟩
      · exact Or.inl ⟨bs', hl'.trans hbl, Or.inr (Or.inl (by show notF (dif (cof (orL ts bs k) k b) (cof (suf t0 k) k b)) = _; rw [e, e0, dif_none]))⟩
    · rcases suf_cof h0' b with e0 | e0
      · exact Or.inr (Or.inl e0)
      · exact Or.inl ⟨List.replicate ts.length false, by simp, Or.inl (by rw [e0, or_none _ _ _ (num_false _)])⟩
    · rcases suf_cof h0' b with e0 | e0
      · exact Or.inr (Or.inr (by show notF (cof (suf t0 k) k b) = _; rw [e0]))
      · exact Or.inl ⟨List.replicate ts.length false, by simp, Or.inr (Or.inl (by show notF (cof (suf t0 k) k b) = _; rw [e0, or_none _ _ _ (num_false _)]))⟩
  en k j := lawEn t0 ts k j
  all k f _ h := by
    have hp : ∀ bs : List Bool, bs.length = ts.length → num bs < 2048 ∧ dec ts.length (num bs) = bs := by
      intro bs hb
      have h1 := num_lt bs
      have h2 : 2 ^ bs.length ≤ 2 ^ 11 := Nat.pow_le_pow_right (by omega) (by omega)
      exact ⟨by omega, by rw [← hb]; exact dec_num bs⟩
    have at_ : ∀ q j, q < 4 → j < 2048 → (q * 2048 + j) < 8192 ∧ (q * 2048 + j) / 2048 = q ∧ (q * 2048 + j) % 2048 = j := by
      intro q j hq hj
      refine ⟨by omega, by omega, by omega⟩
    rcases h with ⟨bs, hb, h⟩ | rfl | rfl
    · obtain ⟨n1, n2⟩ := hp bs hb
      have zero : num bs = 0 → orL ts bs k = ff := or_none ts bs k
      rcases h with rfl | rfl | rfl | rfl
      · obtain ⟨a1, a2, a3⟩ := at_ 0 (num bs) (by omega) n1
        exact ⟨_, a1, by unfold lawEn; rw [a2, a3, n2]; rfl⟩
      · obtain ⟨a1, a2, a3⟩ := at_ 1 (num bs) (by omega) n1
        exact ⟨_, a1, by unfold lawEn; rw [a2, a3, n2]; rfl⟩
      · by_cases hz : num bs = 0
        · obtain ⟨a1, a2, a3⟩ := at_ 0 (num bs) (by omega) n1
          exact ⟨_, a1, by unfold lawEn; rw [a2, a3, n2, zero hz, dif_ff]; rfl⟩
        · obtain ⟨a1, a2, a3⟩ := at_ 2 (num bs) (by omega) n1
          exact ⟨_, a1, by unfold lawEn; rw [a2, a3, n2, if_neg (by omega), if_neg (by omega), if_pos rfl, if_neg hz]⟩
      · by_cases hz : num bs = 0
        · obtain ⟨a1, a2, a3⟩ := at_ 1 (num bs) (by omega) n1
          exact ⟨_, a1, by unfold lawEn; rw [a2, a3, n2, zero hz, dif_ff]; rfl⟩
        · obtain ⟨a1, a2, a3⟩ := at_ 3 (num bs) (by omega) n1
          exact ⟨_, a1, by unfold lawEn; rw [a2, a3, n2, if_neg (by omega), if_neg (by omega), if_neg (by omega), if_neg hz]⟩
    · obtain ⟨a1, a2, a3⟩ := at_ 2 0 (by omega) (by omega)
      exact ⟨_, a1, by unfold lawEn; rw [a2, a3, if_neg (by omega), if_neg (by omega), if_pos rfl, if_pos rfl]⟩
    · obtain ⟨a1, a2, a3⟩ := at_ 3 0 (by omega) (by omega)
      exact ⟨_, a1, by unfold lawEn; rw [a2, a3, if_neg (by omega), if_neg (by omega), if_neg (by omega), if_pos rfl]⟩
end Go.Proofs.Ytffngpdngjfcfaa
