/-
  Plain mathematics: what is left of a cube without another one, place by place.
-/
import Derived.Test.YtenlmigdlibgeaaMath
namespace Go.Proofs.Ytenlmigdlibgeaa
namespace Cu

/-- Up to place k as what both have in common, behind it as a. -/
def mix (a b : List UInt8) (k : Nat) : List UInt8 := (meetL a b).take k ++ a.drop k
/-- Is there a part at place k? The byte turned; the part. -/
def cond (a b : List UInt8) (k : Nat) : Bool := !fixAt a k && fixAt b k
def turned (b : List UInt8) (k : Nat) : UInt8 := if oneAt b k then 48 else 49
def partL (a b : List UInt8) (k : Nat) : List UInt8 := (meetL a b).take k ++ [turned b k] ++ a.drop (k + 1)
def cutTo (a b : List UInt8) : Nat → List (List UInt8)
  | 0 => []
  | k + 1 => cutTo a b k ++ (if cond a b k then [partL a b k] else [])
def cutL (a b : List UInt8) : List (List UInt8) := if meetsB a b then cutTo a b a.length else [a]

theorem mix_length {a b : List UInt8} (h : a.length = b.length) {k : Nat} (hk : k ≤ a.length) : (mix a b k).length = a.length := by
  simp [mix, meetL_length h]; omega
theorem mix_zero (a b : List UInt8) : mix a b 0 = a := by simp [mix]
theorem mix_end {a b : List UInt8} (h : a.length = b.length) : mix a b a.length = meetL a b := by
  simp only [mix, List.drop_length, List.append_nil]
  exact List.take_of_length_le (by rw [meetL_length h]; exact Nat.le_refl _)
theorem mix_get {a b : List UInt8} (h : a.length = b.length) {k : Nat} (hk : k ≤ a.length) (i : Nat) : (mix a b k)[i]? = if i < k then (meetL a b)[i]? else a[i]? := by
  unfold mix
  have hl : ((meetL a b).take k).length = k := by rw [List.length_take, meetL_length h]; omega
  by_cases hi : i < k
  · rw [if_pos hi, List.getElem?_append_left (by rw [hl]; exact hi), List.getElem?_take_of_lt hi]
  · rw [if_neg hi, List.getElem?_append_right (by rw [hl]; omega), hl, List.getElem?_drop]
    congr 1; omega
theorem part_get {a b : List UInt8} (h : a.length = b.length) {k : Nat} (hk : k < a.length) (i : Nat) : (partL a b k)[i]? = if i = k then some (turned b k) else (mix a b k)[i]? := by
  rw [mix_get h (by omega)]
  unfold partL
  have hl : ((meetL a b).take k).length = k := by rw [List.length_take, meetL_length h]; omega
  by_cases hi : i < k
  · rw [if_neg (by omega), if_pos hi, List.append_assoc, List.getElem?_append_left (by rw [hl]; exact hi), List.getElem?_take_of_lt hi]
  · rw [if_neg hi, List.append_assoc, List.getElem?_append_right (by rw [hl]; omega), hl]
    by_cases e : i = k
    · subst e; simp
    · rw [if_neg e, List.getElem?_append_right (by simp; omega), List.getElem?_drop]
      congr 1; simp; omega
theorem part_length {a b : List UInt8} (h : a.length = b.length) {k : Nat} (hk : k < a.length) : (partL a b k).length = a.length := by
  simp [partL, meetL_length h]; omega

theorem mix_fix {a b : List UInt8} (h : a.length = b.length) {k : Nat} (hk : k < a.length) : fixAt (mix a b k) k = fixAt a k := by
  unfold fixAt; rw [mix_get h (by omega), if_neg (by omega)]

theorem turned_fixed (b : List UInt8) (k : Nat) : turned b k = 48 ∨ turned b k = 49 := by unfold turned; split <;> simp
theorem turned_one (b : List UInt8) (k : Nat) : (turned b k == 49) = !oneAt b k := by unfold turned; cases oneAt b k <;> rfl

theorem fix_part {a b : List UInt8} (h : a.length = b.length) {k : Nat} (hk : k < a.length) (_hc : cond a b k = true) : fixAt (partL a b k) = updw (fixAt (mix a b k)) k := by
  funext i
  simp only [fixAt, updw, part_get h hk]
  by_cases e : i = k
  · rw [if_pos e]; rcases turned_fixed b k with f | f <;> simp [f, e]
  · rw [if_neg e]; simp [e]
theorem one_mix_false {a b : List UInt8} (h : a.length = b.length) {k : Nat} (hk : k < a.length) (hc : cond a b k = true) : oneAt (mix a b k) k = false := by
  have : fixAt a k = false := by simp only [cond, Bool.and_eq_true, Bool.not_eq_true'] at hc; exact hc.1
  unfold fixAt at this
  unfold oneAt
  rw [mix_get h (by omega), if_neg (by omega)]
  simp only [Bool.or_eq_false_iff] at this
  exact this.2
theorem one_part {a b : List UInt8} (h : a.length = b.length) {k : Nat} (hk : k < a.length) (hc : cond a b k = true) : oneAt (partL a b k) = setOne (oneAt (mix a b k)) k (!oneAt b k) := by
  funext i
  by_cases e : i = k
  · subst e
    have h1 := one_mix_false h hk hc
    simp only [setOne, h1, Bool.false_or, decide_true, Bool.and_true]
    unfold oneAt
    rw [part_get h hk, if_pos rfl]
    have := turned_one b i
    unfold oneAt at this
    rw [← this]; rfl
  · simp only [setOne, e, decide_false, Bool.and_false, Bool.or_false]
    unfold oneAt
    rw [part_get h hk, if_neg e]

theorem mix_succ {a b : List UInt8} (h : a.length = b.length) {k : Nat} (hk : k < a.length) (i : Nat) : (mix a b (k + 1))[i]? = if i = k then (meetL a b)[k]? else (mix a b k)[i]? := by
  rw [mix_get h (by omega), mix_get h (by omega)]
  by_cases e : i = k
  · subst e; rw [if_pos (by omega), if_pos rfl]
  · rw [if_neg e]
    by_cases hi : i < k
    · rw [if_pos (by omega), if_pos hi]
    · rw [if_neg (by omega), if_neg hi]

theorem meet_at_free {a b : List UInt8} (ha : a.all sym = true) (h : a.length = b.length) {k : Nat} (hk : k < a.length) (hf : fixAt a k = false) : (meetL a b)[k]? = b[k]? := by
  have hk' : k < b.length := h ▸ hk
  rw [List.getElem?_eq_getElem (by rw [meetL_length h]; exact hk), meetL_at h k hk, List.getElem?_eq_getElem hk']
  rw [fixAt_lt hk] at hf
  rcases sym_at ha k hk with e | e | e <;> simp [e] at hf ⊢
theorem meet_at_fix {a b : List UInt8} (ha : a.all sym = true) (h : a.length = b.length) {k : Nat} (hk : k < a.length) (hf : fixAt a k = true) : (meetL a b)[k]? = a[k]? := by
  rw [List.getElem?_eq_getElem (by rw [meetL_length h]; exact hk), meetL_at h k hk, List.getElem?_eq_getElem hk]
  rw [fixAt_lt hk] at hf
  rcases sym_at ha k hk with e | e | e <;> simp [e] at hf ⊢

theorem fix_next {a b : List UInt8} (ha : a.all sym = true) (h : a.length = b.length) {k : Nat} (hk : k < a.length) (hc : cond a b k = true) : fixAt (mix a b (k + 1)) = updw (fixAt (mix a b k)) k := by
  have hc' := hc
  simp only [cond, Bool.and_eq_true, Bool.not_eq_true'] at hc'
  funext i
  by_cases e : i = k
  · subst e
    have : fixAt (mix a b (i + 1)) i = fixAt b i := by
      unfold fixAt; rw [mix_succ h hk, if_pos rfl, meet_at_free ha h hk hc'.1]
    rw [this, hc'.2]; simp [updw]
  · simp only [fixAt, updw, mix_succ h hk, if_neg e]; simp [e]
theorem one_next {a b : List UInt8} (ha : a.all sym = true) (h : a.length = b.length) {k : Nat} (hk : k < a.length) (hc : cond a b k = true) : oneAt (mix a b (k + 1)) = setOne (oneAt (mix a b k)) k (oneAt b k) := by
  have hc' := hc
  simp only [cond, Bool.and_eq_true, Bool.not_eq_true'] at hc'
  funext i
  by_cases e : i = k
  · subst e
    have : oneAt (mix a b (i + 1)) i = oneAt b i := by
      unfold oneAt; rw [mix_succ h hk, if_pos rfl, meet_at_free ha h hk hc'.1]
    rw [this]; simp [setOne, one_mix_false h hk hc]
  · simp only [oneAt, setOne, mix_succ h hk, if_neg e]; simp [e]
theorem mix_same {a b : List UInt8} (ha : a.all sym = true) (hb : b.all sym = true) (h : a.length = b.length) {k : Nat} (hk : k < a.length) (hc : cond a b k = false) : mix a b (k + 1) = mix a b k := by
  apply List.ext_getElem?
  intro i
  rw [mix_succ h hk]
  by_cases e : i = k
  · subst e
    rw [if_pos rfl, mix_get h (by omega), if_neg (by omega)]
    cases hf : fixAt a i with
    | true => exact meet_at_fix ha h hk hf
    | false =>
      have hfb : fixAt b i = false := by simpa [cond, hf] using hc
      have hk' : i < b.length := h ▸ hk
      rw [meet_at_free ha h hk hf, List.getElem?_eq_getElem hk', List.getElem?_eq_getElem hk]
      rw [fixAt_lt hk] at hf
      rw [fixAt_lt hk'] at hfb
      rcases sym_at ha i hk with e | e | e <;> rcases sym_at hb i hk' with f | f | f <;> simp [e, f] at hf hfb ⊢
  · rw [if_neg e]

theorem part_sym {a b : List UInt8} (ha : a.all sym = true) (hb : b.all sym = true) (h : a.length = b.length) {k : Nat} : (partL a b k).all sym = true := by
  have hm := List.all_eq_true.1 (meetL_sym ha hb h)
  have ha' := List.all_eq_true.1 ha
  rw [List.all_eq_true]
  intro x hx
  simp only [partL, List.mem_append, List.mem_singleton] at hx
  rcases hx with (hx | hx) | hx
  · exact hm x (List.mem_of_mem_take hx)
  · subst hx; rcases turned_fixed b k with f | f <;> rw [f] <;> rfl
  · exact ha' x (List.mem_of_mem_drop hx)
theorem part_right {a b : List UInt8} (ha : right a = true) (hb : right b = true) (h : a.length = b.length) {k : Nat} (hk : k < a.length) : right (partL a b k) = true := by
  obtain ⟨h1, h2, h3⟩ := right_all ha
  obtain ⟨k1, _, _⟩ := right_all hb
  simp only [right, Bool.and_eq_true, decide_eq_true_eq]
  exact ⟨⟨part_sym h1 k1 h, by rw [part_length h hk]; exact h2⟩, by rw [part_length h hk]; exact h3⟩
theorem cutTo_right {a b : List UInt8} (ha : right a = true) (hb : right b = true) (h : a.length = b.length) : ∀ k, k ≤ a.length → ∀ l ∈ cutTo a b k, right l = true ∧ l.length = a.length
  | 0, _ => by intro l hl; simp [cutTo] at hl
  | k + 1, hk => by
    intro l hl
    rw [cutTo, List.mem_append] at hl
    rcases hl with hl | hl
    · exact cutTo_right ha hb h k (by omega) l hl
    · split at hl
      · rw [List.mem_singleton] at hl; subst hl
        exact ⟨part_right ha hb h (by omega), part_length h (by omega)⟩
      · cases hl
theorem cutL_right {a b : List UInt8} (ha : right a = true) (hb : right b = true) (h : a.length = b.length) : ∀ l ∈ cutL a b, right l = true ∧ l.length = a.length := by
  intro l hl
  unfold cutL at hl
  split at hl
  · exact cutTo_right ha hb h _ (Nat.le_refl _) l hl
  · rw [List.mem_singleton] at hl; subst hl; exact ⟨ha, rfl⟩
theorem cutTo_length (a b : List UInt8) : ∀ k, (cutTo a b k).length ≤ k
  | 0 => by simp [cutTo]
  | k + 1 => by
    have := cutTo_length a b k
    rw [cutTo, List.length_append]
    split <;> simp <;> omega
theorem cutL_length {a b : List UInt8} (ha : right a = true) : (cutL a b).length ≤ 128 := by
  obtain ⟨_, h2, h3⟩ := right_all ha
  unfold cutL
  split
  · exact Nat.le_trans (cutTo_length a b _) h3
  · simp
end Cu
end Go.Proofs.Ytenlmigdlibgeaa
