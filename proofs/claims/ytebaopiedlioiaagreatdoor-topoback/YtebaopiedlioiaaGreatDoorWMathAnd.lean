/-
  Plain mathematics of ternary headers as lists of bytes, and of the two words in which the program keeps a set of places. No program is named here.
  Names and numbers, over lists of bytes. No program is named here.
  Words one behind the other: where a blank must stand between two, and that what is said is read as it was said. No program is named here.
  Texts as lines and words, over lists of bytes: letters, signs, the word with which a text begins, the words of a line, the lines of a text. No program is named here.
-/
namespace Go.Proofs.YtebaopiedlioiaaGreatDoor
namespace Wo

def dg (x : Nat) : Bool := decide (48 ≤ x ∧ x ≤ 57)
def ltr (x : Nat) : Bool := decide ((97 ≤ x ∧ x ≤ 122) ∨ (65 ≤ x ∧ x ≤ 90) ∨ (48 ≤ x ∧ x ≤ 57) ∨ x = 95 ∨ x = 45)
def sgl (x : Nat) : Bool := [40, 41, 44, 124, 42, 43, 63, 46, 36, 61, 60, 62].contains x
def dbl (x y : Nat) : Bool := (x == 61 && y == 61) || (x == 60 && y == 61) || (x == 62 && y == 61) || (x == 45 && y == 62)
def blk (x : Nat) : Bool := x == 32 || x == 9

/-- Does a text begin with the sign ->? -/
def arr : List UInt8 → Bool
  | a :: b :: _ => a.toNat == 45 && b.toNat == 62
  | _ => false

/-- How many letters a text begins with, up to the sign ->. -/
def lets : List UInt8 → Nat
  | [] => 0
  | a :: t => if ltr a.toNat && !arr (a :: t) then lets t + 1 else 0

/-- How many bytes the word has with which a text begins. -/
def fst : List UInt8 → Nat
  | [] => 0
  | [a] => if sgl a.toNat then 1 else lets [a]
  | a :: b :: t => if dbl a.toNat b.toNat then 2 else if sgl a.toNat then 1 else lets (a :: b :: t)

theorem fst_one (a : UInt8) : fst [a] = if sgl a.toNat then 1 else lets [a] := rfl
theorem fst_two (a b : UInt8) (t : List UInt8) : fst (a :: b :: t) = if dbl a.toNat b.toNat then 2 else if sgl a.toNat then 1 else lets (a :: b :: t) := rfl
theorem lets_cons (a : UInt8) (t : List UInt8) : lets (a :: t) = if ltr a.toNat && !arr (a :: t) then lets t + 1 else 0 := rfl
theorem lets_le (l : List UInt8) : lets l ≤ l.length := by
  induction l with
  | nil => exact Nat.le_refl _
  | cons a t ih => rw [lets_cons]; split <;> simp <;> omega
theorem fst_le (l : List UInt8) : fst l ≤ l.length := by
  match l with
  | [] => exact Nat.le_refl _
  | [a] => rw [fst_one]; split; exact Nat.le_refl _; exact lets_le _
  | a :: b :: t =>
    rw [fst_two]
    split
    · simp
    · split
      · simp
      · exact lets_le _

/-- The words of a line, each with its column, and the column of the first byte with which none begins. -/
def toks : Nat → List UInt8 → Nat → List (List UInt8 × Nat) × Option Nat
  | 0, _, _ => ([], none)
  | _ + 1, [], _ => ([], none)
  | n + 1, a :: t, c =>
    if a.toNat = 35 then ([], none)
    else if blk a.toNat then toks n t (c + 1)
    else if fst (a :: t) = 0 then ([], some c)
    else (((a :: t).take (fst (a :: t)), c) :: (toks n ((a :: t).drop (fst (a :: t))) (c + fst (a :: t))).1, (toks n ((a :: t).drop (fst (a :: t))) (c + fst (a :: t))).2)

theorem toks_fuel (n m : Nat) (l : List UInt8) (c : Nat) (hn : l.length ≤ n) (hm : l.length ≤ m) : toks n l c = toks m l c := by
  induction n generalizing m l c with
  | zero =>
    have : l = [] := List.length_eq_zero_iff.1 (by omega)
    subst this
    cases m <;> rfl
  | succ n ih =>
    cases l with
    | nil => cases m <;> rfl
    | cons a t =>
      cases m with
      | zero => simp at hm
      | succ m =>
        simp only [List.length_cons] at hn hm
        unfold toks
        split
        · rfl
        · split
          · exact ih m t _ (by omega) (by omega)
          · split
            · rfl
            · rw [ih m _ _ (by simp only [List.length_drop, List.length_cons]; omega) (by simp only [List.length_drop, List.length_cons]; omega)]

def tk (l : List UInt8) (c : Nat) : List (List UInt8 × Nat) × Option Nat := toks l.length l c

theorem tk_nil (c : Nat) : tk [] c = ([], none) := rfl
theorem tk_hash (a : UInt8) (t : List UInt8) (c : Nat) (h : a.toNat = 35) : tk (a :: t) c = ([], none) := by
  show toks (t.length + 1) (a :: t) c = _
  unfold toks; rw [if_pos h]
theorem tk_blank (a : UInt8) (t : List UInt8) (c : Nat) (h : a.toNat ≠ 35) (h2 : blk a.toNat = true) : tk (a :: t) c = tk t (c + 1) := by
  show toks (t.length + 1) (a :: t) c = _
  conv => lhs; unfold toks
  rw [if_neg h, if_pos h2]; rfl
theorem tk_fault (a : UInt8) (t : List UInt8) (c : Nat) (h : a.toNat ≠ 35) (h2 : blk a.toNat = false) (h3 : fst (a :: t) = 0) : tk (a :: t) c = ([], some c) := by
  show toks (t.length + 1) (a :: t) c = _
  unfold toks
  rw [if_neg h, if_neg (by rw [h2]; simp), if_pos h3]
theorem tk_word (a : UInt8) (t : List UInt8) (c : Nat) (h : a.toNat ≠ 35) (h2 : blk a.toNat = false) (h3 : fst (a :: t) ≠ 0) :
    tk (a :: t) c = (((a :: t).take (fst (a :: t)), c) :: (tk ((a :: t).drop (fst (a :: t))) (c + fst (a :: t))).1, (tk ((a :: t).drop (fst (a :: t))) (c + fst (a :: t))).2) := by
  show toks (t.length + 1) (a :: t) c = _
  conv => lhs; unfold toks
  rw [if_neg h, if_neg (by rw [h2]; simp), if_neg h3]
  have e : toks t.length ((a :: t).drop (fst (a :: t))) (c + fst (a :: t)) = tk ((a :: t).drop (fst (a :: t))) (c + fst (a :: t)) :=
    toks_fuel _ _ _ _ (by simp only [List.length_drop, List.length_cons]; omega) (Nat.le_refl _)
  rw [e]

/-- What stands ahead of the first #. -/
def code (l : List UInt8) : List UInt8 := l.takeWhile (fun a => a.toNat != 35)

theorem ltr_35 {x : Nat} (h : x = 35) : ltr x = false := by subst h; decide
theorem sgl_35 {x : Nat} (h : x = 35) : sgl x = false := by subst h; decide
theorem dbl_35 {x y : Nat} (h : y = 35) : dbl x y = false := by subst h; simp [dbl]
theorem code_hash {a : UInt8} (t : List UInt8) (h : a.toNat = 35) : code (a :: t) = [] := by unfold code; rw [List.takeWhile_cons]; simp [h]
theorem code_cons {a : UInt8} (t : List UInt8) (h : a.toNat ≠ 35) : code (a :: t) = a :: code t := by unfold code; rw [List.takeWhile_cons]; simp [h]

theorem arr_code (l : List UInt8) : arr (code l) = arr l := by
  match l with
  | [] => rfl
  | [a] => by_cases h : a.toNat = 35 <;> simp [code, h, arr]
  | a :: b :: t =>
    by_cases h : a.toNat = 35
    · rw [code_hash _ h]; simp [arr, h]
    · rw [code_cons _ h]
      by_cases h2 : b.toNat = 35
      · rw [code_hash _ h2]; simp [arr, h2]
      · rw [code_cons _ h2]; rfl
theorem lets_code (l : List UInt8) : lets (code l) = lets l := by
  induction l with
  | nil => rfl
  | cons a t ih =>
    by_cases h : a.toNat = 35
    · rw [code_hash _ h, lets_cons, ltr_35 h]; rfl
    · have ha := arr_code (a :: t)
      rw [code_cons _ h] at ha ⊢
      rw [lets_cons, lets_cons, ha, ih]
theorem fst_code (l : List UInt8) : fst (code l) = fst l := by
  match l with
  | [] => rfl
  | [a] =>
    by_cases h : a.toNat = 35
    · rw [code_hash _ h, fst_one, lets_cons, ltr_35 h, sgl_35 h]; rfl
    · rw [code_cons _ h]; rfl
  | a :: b :: t =>
    have hl := lets_code (a :: b :: t)
    by_cases h : a.toNat = 35
    · rw [code_hash _ h, fst_two, lets_cons, ltr_35 h, sgl_35 h]; simp [dbl, h, fst]
    · rw [code_cons _ h] at hl ⊢
      by_cases h2 : b.toNat = 35
      · rw [code_hash _ h2] at hl ⊢
        rw [fst_two, dbl_35 h2, ← hl]; rfl
      · rw [code_cons _ h2] at hl ⊢
        rw [fst_two, fst_two, hl]

theorem code_drop (l : List UInt8) (k : Nat) (h : k ≤ (code l).length) : (code l).drop k = code (l.drop k) := by
  induction l generalizing k with
  | nil => simp [code] at h; subst h; rfl
  | cons a t ih =>
    by_cases ha : a.toNat = 35
    · rw [code_hash _ ha] at h ⊢; simp at h; subst h; simp [code_hash _ ha]
    · rw [code_cons _ ha] at h ⊢
      cases k with
      | zero => simp [code_cons _ ha]
      | succ k => simp only [List.drop_succ_cons]; exact ih k (by simpa using h)
theorem code_take (l : List UInt8) (k : Nat) (h : k ≤ (code l).length) : (code l).take k = l.take k := by
  induction l generalizing k with
  | nil => simp [code]
  | cons a t ih =>
    by_cases ha : a.toNat = 35
    · rw [code_hash _ ha] at h; simp at h; subst h; simp
    · rw [code_cons _ ha] at h ⊢
      cases k with
      | zero => simp
      | succ k => simp only [List.take_succ_cons]; rw [ih k (by simpa using h)]

/-- The words of a line are those of what stands ahead of the first #. -/
theorem tk_code (l : List UInt8) (c : Nat) : tk (code l) c = tk l c := by
  generalize hn : l.length = n
  induction n using Nat.strongRecOn generalizing l c with
  | ind n ih =>
    cases l with
    | nil => rfl
    | cons a t =>
      simp only [List.length_cons] at hn
      by_cases h : a.toNat = 35
      · rw [code_hash _ h, tk_hash _ _ _ h]; rfl
      · have hf := fst_code (a :: t)
        have hle := fst_le (code (a :: t))
        have hd := code_drop (a :: t) (fst (a :: t)) (by omega)
        have ht := code_take (a :: t) (fst (a :: t)) (by omega)
        rw [code_cons _ h] at hf hd ht ⊢
        cases hb : blk a.toNat with
        | true => rw [tk_blank _ _ _ h hb, tk_blank _ _ _ h hb]; exact ih t.length (by omega) t _ rfl
        | false =>
          by_cases h0 : fst (a :: t) = 0
          · rw [tk_fault _ _ _ h hb h0, tk_fault _ _ _ h hb (by omega)]
          · rw [tk_word _ _ _ h hb h0, tk_word _ _ _ h hb (by omega), hf, hd, ht, ih ((a :: t).drop (fst (a :: t))).length (by simp only [List.length_drop, List.length_cons]; omega) _ _ rfl]

/-- What comes behind blanks. -/
def skp (l : List UInt8) : List UInt8 := l.dropWhile (fun a => blk a.toNat)
theorem skp_le (l : List UInt8) : (skp l).length ≤ l.length := (List.dropWhile_suffix _).length_le
theorem blk_35 {x : Nat} (h : blk x = true) : x ≠ 35 := by rintro rfl; revert h; decide
theorem tk_skp (l : List UInt8) (c : Nat) : tk l c = tk (skp l) (c + (l.length - (skp l).length)) := by
  induction l generalizing c with
  | nil => rfl
  | cons a t ih =>
    cases hb : blk a.toNat with
    | true =>
      rw [tk_blank _ _ _ (blk_35 hb) hb, ih]
      have e : skp (a :: t) = skp t := by unfold skp; rw [List.dropWhile_cons]; simp [hb]
      rw [e]
      have := skp_le t
      congr 1
      simp only [List.length_cons]; omega
    | false =>
      have e : skp (a :: t) = a :: t := by unfold skp; rw [List.dropWhile_cons]; simp [hb]
      rw [e]; simp
theorem skp_head (l : List UInt8) : skp l = [] ∨ ∃ a t, skp l = a :: t ∧ blk a.toNat = false := by
  induction l with
  | nil => exact Or.inl rfl
  | cons a t ih =>
    cases hb : blk a.toNat with
    | true => have e : skp (a :: t) = skp t := by unfold skp; rw [List.dropWhile_cons]; simp [hb]
              rw [e]; exact ih
    | false => have e : skp (a :: t) = a :: t := by unfold skp; rw [List.dropWhile_cons]; simp [hb]
               exact Or.inr ⟨a, t, e, hb⟩

/-- No # in what stands ahead of the first #. -/
theorem code_clean (l : List UInt8) : ∀ a ∈ code l, a.toNat ≠ 35 := by
  intro a ha
  have := List.all_takeWhile (p := fun a : UInt8 => a.toNat != 35) (l := l)
  rw [List.all_eq_true] at this
  simpa using this a ha

/-- A text's lines. -/
def lns : List UInt8 → List (List UInt8)
  | [] => [[]]
  | a :: t => if a.toNat = 10 then [] :: lns t else match lns t with
    | [] => [[a]]
    | h :: r => (a :: h) :: r
theorem lns_ne (l : List UInt8) : lns l ≠ [] := by
  cases l with
  | nil => simp [lns]
  | cons a t => unfold lns; split; simp; split <;> simp
theorem lns_pre (p t : List UInt8) (hp : ∀ a ∈ p, a.toNat ≠ 10) : ∃ h r, lns t = h :: r ∧ lns (p ++ t) = (p ++ h) :: r := by
  induction p with
  | nil =>
    cases e : lns t with
    | nil => exact absurd e (lns_ne t)
    | cons h r => exact ⟨h, r, rfl, e⟩
  | cons a p ih =>
    obtain ⟨h, r, e1, e2⟩ := ih (fun x hx => hp x (List.mem_cons_of_mem _ hx))
    refine ⟨h, r, e1, ?_⟩
    show lns (a :: (p ++ t)) = _
    unfold lns
    rw [if_neg (hp a (by simp)), e2]
    rfl
theorem lns_cut (p t : List UInt8) (b : UInt8) (hp : ∀ a ∈ p, a.toNat ≠ 10) (hb : b.toNat = 10) : lns (p ++ b :: t) = p :: lns t := by
  obtain ⟨h, r, e1, e2⟩ := lns_pre p (b :: t) hp
  have : lns (b :: t) = [] :: lns t := by conv => lhs; unfold lns
                                          rw [if_pos hb]
  rw [this] at e1
  injection e1 with e3 e4
  rw [e2, ← e3, ← e4, List.append_nil]
theorem lns_last (p : List UInt8) (hp : ∀ a ∈ p, a.toNat ≠ 10) : lns p = [p] := by
  obtain ⟨h, r, e1, e2⟩ := lns_pre p [] hp
  have e : lns [] = [[]] := rfl
  rw [e] at e1
  injection e1 with e3 e4
  rw [List.append_nil] at e2
  rw [e2, ← e3, ← e4, List.append_nil]

/-- A word: its bytes, its line, its column. -/
abbrev Wd := List UInt8 × Nat × Nat
def wds (n : Nat) (l : List (List UInt8 × Nat)) : List Wd := l.map fun p => (p.1, n, p.2)
/-- The words of each line that has some, and the place of the first fault; the lines count from n on. -/
def rd : List (List UInt8) → Nat → List (List Wd) × Option (Nat × Nat)
  | [], _ => ([], none)
  | l :: ls, n =>
    match (tk l 1).2 with
    | some c => ([], some (n, c))
    | none => (if (tk l 1).1 = [] then (rd ls (n + 1)).1 else wds n (tk l 1).1 :: (rd ls (n + 1)).1, (rd ls (n + 1)).2)
theorem rd_fault {l : List UInt8} {ls : List (List UInt8)} {n c : Nat} (h : (tk l 1).2 = some c) : rd (l :: ls) n = ([], some (n, c)) := by
  unfold rd; rw [h]
theorem rd_none {l : List UInt8} {ls : List (List UInt8)} {n : Nat} (h : (tk l 1).2 = none) (h2 : (tk l 1).1 = []) : rd (l :: ls) n = rd ls (n + 1) := by
  conv => lhs; unfold rd
  rw [h]; simp [h2]
theorem rd_some {l : List UInt8} {ls : List (List UInt8)} {n : Nat} (h : (tk l 1).2 = none) (h2 : (tk l 1).1 ≠ []) : rd (l :: ls) n = (wds n (tk l 1).1 :: (rd ls (n + 1)).1, (rd ls (n + 1)).2) := by
  conv => lhs; unfold rd
  rw [h]; simp [h2]
/-- What a text is read as: its lines, a fault's line and column, an error's number. -/
def read (s : List UInt8) : List (List Wd) := match (rd (lns s) 1).2 with | none => (rd (lns s) 1).1 | some _ => []
def faultL (s : List UInt8) : Nat := match (rd (lns s) 1).2 with | none => 0 | some p => p.1
def faultC (s : List UInt8) : Nat := match (rd (lns s) 1).2 with | none => 0 | some p => p.2
def err (s : List UInt8) : Nat := match (rd (lns s) 1).2 with | none => 0 | some _ => 30

end Wo
end Go.Proofs.YtebaopiedlioiaaGreatDoor
namespace Go.Proofs.YtebaopiedlioiaaGreatDoor
namespace Wo

/-- Is it a word? -/
def isW (l : List UInt8) : Bool := decide (l ≠ [] ∧ fst l = l.length)
/-- Must a blank stand between two words? -/
def glue (a b : List UInt8) : Bool := decide (fst (a ++ b) ≠ a.length)
theorem isW_ne {l : List UInt8} (h : isW l = true) : l ≠ [] := (of_decide_eq_true h).1
theorem isW_len {l : List UInt8} (h : isW l = true) : fst l = l.length := (of_decide_eq_true h).2

/-- The first byte of a word is a letter or a sign. -/
theorem fst_head {a : UInt8} {t : List UInt8} (h : fst (a :: t) ≠ 0) : ltr a.toNat = true ∨ sgl a.toNat = true := by
  cases t with
  | nil =>
    rw [fst_one] at h
    split at h
    · right; assumption
    · rw [lets_cons] at h
      split at h
      · left; simp_all
      · exact absurd rfl h
  | cons b t =>
    rw [fst_two] at h
    split at h
    · rename_i hd
      simp only [dbl, Bool.or_eq_true, Bool.and_eq_true, beq_iff_eq] at hd
      rcases hd with ((h | h) | h) | h <;> rw [h.1]
      · right; rfl
      · right; rfl
      · right; rfl
      · left; rfl
    · split at h
      · right; assumption
      · rw [lets_cons] at h
        split at h
        · left; simp_all
        · exact absurd rfl h
theorem head_plain {x : Nat} (h : ltr x = true ∨ sgl x = true) : x ≠ 35 ∧ blk x = false ∧ x ≠ 10 := by
  rcases h with h | h
  · have := of_decide_eq_true h
    refine ⟨by omega, ?_, by omega⟩
    unfold blk
    rw [Bool.or_eq_false_iff, beq_eq_false_iff_ne, beq_eq_false_iff_ne]
    omega
  · simp [sgl] at h
    rcases h with h | h | h | h | h | h | h | h | h | h | h | h <;> subst h <;> decide
theorem ltr_sgl {x : Nat} (h : ltr x = true) : sgl x = false := by
  have := of_decide_eq_true h
  cases hs : sgl x with
  | false => rfl
  | true => simp [sgl] at hs; omega
theorem ltr_dbl {x y : Nat} (h : ltr x = true) : dbl x y = (x == 45 && y == 62) := by
  have := of_decide_eq_true h
  unfold dbl
  have h1 : (x == 61) = false := by rw [beq_eq_false_iff_ne]; omega
  have h2 : (x == 60) = false := by rw [beq_eq_false_iff_ne]; omega
  have h3 : (x == 62) = false := by rw [beq_eq_false_iff_ne]; omega
  rw [h1, h2, h3]; simp

/-- Two texts side by side whose joint would be a sign ->. -/
def joint (a b : List UInt8) : Bool := a.getLast?.map UInt8.toNat == some 45 && b.head?.map UInt8.toNat == some 62
theorem lets_app (a r : List UInt8) (h : lets a = a.length) (hj : joint a r = false) : lets (a ++ r) = a.length + lets r := by
  induction a with
  | nil => simp
  | cons x t ih =>
    rw [lets_cons] at h
    split at h
    · rename_i hx
      simp only [List.length_cons] at h
      simp only [Bool.and_eq_true, Bool.not_eq_true'] at hx
      have hjt : joint t r = false ∨ t = [] := by
        cases t with
        | nil => right; rfl
        | cons y t => left; simpa [joint, List.getLast?_cons_cons] using hj
      have ha : arr (x :: (t ++ r)) = false := by
        cases t with
        | nil =>
          cases r with
          | nil => rfl
          | cons z r => simpa [joint, arr] using hj
        | cons y t => exact hx.2
      show lets (x :: (t ++ r)) = _
      rw [lets_cons, if_pos (by rw [hx.1, ha]; rfl)]
      have e : lets (t ++ r) = t.length + lets r := by
        rcases hjt with hjt | rfl
        · exact ih (by omega) hjt
        · simp
      rw [e, List.length_cons]; omega
    · simp at h
theorem lets_joint (a r : List UInt8) (h : lets a = a.length) (hj : joint a r = true) : lets (a ++ r) < a.length := by
  induction a with
  | nil => simp [joint] at hj
  | cons x t ih =>
    rw [lets_cons] at h
    split at h
    · rename_i hx
      simp only [List.length_cons] at h
      simp only [Bool.and_eq_true, Bool.not_eq_true'] at hx
      show lets (x :: (t ++ r)) < _
      cases t with
      | nil =>
        cases r with
        | nil => simp [joint] at hj
        | cons z r =>
          have ha : arr (x :: ([] ++ z :: r)) = true := by simpa [joint, arr] using hj
          rw [lets_cons, if_neg (by rw [ha]; simp)]; simp
      | cons y t =>
        have hjt : joint (y :: t) r = true := by simpa [joint, List.getLast?_cons_cons] using hj
        have := ih (by omega) hjt
        rw [lets_cons]
        split <;> simp at this ⊢ <;> omega
    · simp at h

/-- A word is a sign of one byte, one of two, or letters alone. -/
theorem isW_kinds {a : List UInt8} (h : isW a = true) : (∃ x, a = [x] ∧ sgl x.toNat = true) ∨ (∃ x y, a = [x, y] ∧ dbl x.toNat y.toNat = true) ∨ (lets a = a.length ∧ ∃ x t, a = x :: t ∧ ltr x.toNat = true ∧ arr a = false) := by
  have hl := isW_len h
  match a, isW_ne h, hl with
  | [x], _, hl =>
    rw [fst_one] at hl
    split at hl
    · left; exact ⟨x, rfl, by assumption⟩
    · right; right
      refine ⟨hl, x, [], rfl, ?_, rfl⟩
      rw [lets_cons] at hl
      split at hl
      · simp_all
      · simp at hl
  | x :: y :: t, _, hl =>
    rw [fst_two] at hl
    split at hl
    · right; left
      have : t = [] := List.length_eq_zero_iff.1 (by simp only [List.length_cons] at hl; omega)
      subst this
      exact ⟨x, y, rfl, by assumption⟩
    · split at hl
      · simp at hl
      · right; right
        refine ⟨hl, x, y :: t, rfl, ?_⟩
        rw [lets_cons] at hl
        split at hl
        · simp_all
        · simp at hl

theorem fst_of_ltr {x : UInt8} {t : List UInt8} (h : ltr x.toNat = true) (ha : arr (x :: t) = false) : fst (x :: t) = lets (x :: t) := by
  cases t with
  | nil => rw [fst_one, ltr_sgl h]; rfl
  | cons y t =>
    rw [fst_two, ltr_dbl h, ltr_sgl h]
    have : (x.toNat == 45 && y.toNat == 62) = false := ha
    rw [this]; rfl

/-- What follows a word without a change of how it is read: nothing, a blank, or a word that need not be apart. -/
theorem fst_blank {a : List UInt8} (h : isW a = true) (r : List UInt8) (hr : r = [] ∨ ∃ x t, r = x :: t ∧ ltr x.toNat = false ∧ sgl x.toNat = false) : fst (a ++ r) = a.length := by
  rcases isW_kinds h with ⟨x, rfl, hs⟩ | ⟨x, y, rfl, hd⟩ | ⟨hl, x, t, rfl, hx, ha⟩
  · rcases hr with rfl | ⟨b, t, rfl, h1, h2⟩
    · exact isW_len h
    · show fst (x :: b :: t) = 1
      rw [fst_two, hs]
      have : dbl x.toNat b.toNat = false := by
        cases hq : dbl x.toNat b.toNat with
        | false => rfl
        | true =>
          simp only [dbl, Bool.or_eq_true, Bool.and_eq_true, beq_iff_eq] at hq
          rcases hq with ((q | q) | q) | q <;> (rw [q.2] at h2; exact absurd h2 (by decide))
      rw [this]; rfl
  · show fst (x :: y :: r) = 2
    rw [fst_two, hd]; rfl
  · have hj : joint (x :: t) r = false := by
      rcases hr with rfl | ⟨b, t', rfl, h1, h2⟩
      · simp [joint]
      · have : b.toNat ≠ 62 := by intro e; rw [e] at h2; exact absurd h2 (by decide)
        simp [joint, this]
    have hlr : lets r = 0 := by
      rcases hr with rfl | ⟨b, t', rfl, h1, h2⟩
      · rfl
      · rw [lets_cons, h1]; rfl
    have e := lets_app _ _ hl hj
    have ha' : arr (x :: (t ++ r)) = false := by
      cases t with
      | nil =>
        rcases hr with rfl | ⟨b, t', rfl, h1, h2⟩
        · rfl
        · simpa [joint, arr] using hj
      | cons y t => exact ha
    show fst (x :: (t ++ r)) = _
    rw [fst_of_ltr hx ha']
    show lets ((x :: t) ++ r) = _
    rw [e, hlr]; rfl

theorem fst_touch {a b : List UInt8} (ha : isW a = true) (hb : isW b = true) (hg : glue a b = false) (r : List UInt8) : fst (a ++ (b ++ r)) = a.length := by
  have hg' : fst (a ++ b) = a.length := Decidable.not_not.1 (of_decide_eq_false hg)
  obtain ⟨z, u, rfl⟩ : ∃ z u, b = z :: u := by
    cases b with
    | nil => exact absurd rfl (isW_ne hb)
    | cons z u => exact ⟨z, u, rfl⟩
  rcases isW_kinds ha with ⟨x, rfl, hs⟩ | ⟨x, y, rfl, hd⟩ | ⟨hl, x, t, rfl, hx, har⟩
  · have e1 : fst (x :: z :: u) = 1 := hg'
    show fst (x :: z :: (u ++ r)) = 1
    rw [fst_two] at e1 ⊢
    rw [hs] at e1 ⊢
    split
    · rename_i h; rw [if_pos h] at e1; omega
    · rfl
  · show fst (x :: y :: _) = 2
    rw [fst_two, hd]; rfl
  · have e1 : fst (x :: (t ++ z :: u)) = t.length + 1 := hg'
    have ha1 : arr (x :: (t ++ z :: u)) = false := by
      cases t with
      | nil =>
        cases hq : arr (x :: ([] ++ z :: u)) with
        | false => rfl
        | true =>
          have hd : dbl x.toNat z.toNat = true := by rw [ltr_dbl hx]; exact hq
          have e1' : fst (x :: z :: u) = 1 := e1
          rw [fst_two, hd, if_pos rfl] at e1'
          omega
      | cons y t => exact har
    rw [fst_of_ltr hx ha1] at e1
    have hj : joint (x :: t) (z :: u) = false := by
      cases hq : joint (x :: t) (z :: u) with
      | false => rfl
      | true =>
        have := lets_joint _ _ hl hq
        have e1' : lets (x :: t ++ z :: u) = t.length + 1 := e1
        simp only [List.length_cons] at this; omega
    have hj2 : joint (x :: t) ((z :: u) ++ r) = false := hj
    have e2 := lets_app _ _ hl hj
    have e1' : lets (x :: t ++ z :: u) = t.length + 1 := e1
    have hz : lets (z :: u) = 0 := by simp only [List.length_cons] at e2; omega
    have hz2 : lets ((z :: u) ++ r) = 0 := by
      rw [lets_cons] at hz
      show lets (z :: (u ++ r)) = 0
      rw [lets_cons]
      split at hz
      · omega
      · rename_i hn
        rw [if_neg ?_]
        intro hc
        simp only [Bool.and_eq_true, Bool.not_eq_true', not_and, Bool.not_eq_false] at hn hc
        have h2 := hn hc.1
        cases u with
        | nil => simp [arr] at h2
        | cons v u =>
          have : arr (z :: (v :: u ++ r)) = arr (z :: v :: u) := rfl
          rw [this, h2] at hc
          exact absurd hc.2 (by simp)
    have ha2 : arr (x :: (t ++ (z :: u ++ r))) = false := by
      cases t with
      | nil => exact ha1
      | cons y t => exact har
    show fst (x :: (t ++ (z :: u ++ r))) = _
    rw [fst_of_ltr hx ha2]
    show lets ((x :: t) ++ (z :: u ++ r)) = _
    rw [lets_app _ _ hl hj2, hz2]; rfl

/-- What follows a word: the others, each apart where it must be. -/
def joinT : List UInt8 → List (List UInt8) → List UInt8
  | _, [] => []
  | a, b :: r => (if glue a b then 32 :: b else b) ++ joinT b r
def sayL : List (List UInt8) → List UInt8
  | [] => []
  | a :: r => a ++ joinT a r

theorem tk_first {a r : List UInt8} {c : Nat} (h : isW a = true) (hf : fst (a ++ r) = a.length) : tk (a ++ r) c = ((a, c) :: (tk r (c + a.length)).1, (tk r (c + a.length)).2) := by
  obtain ⟨x, t, rfl⟩ : ∃ x t, a = x :: t := by
    cases a with
    | nil => exact absurd rfl (isW_ne h)
    | cons x t => exact ⟨x, t, rfl⟩
  have h0 : fst (x :: (t ++ r)) ≠ 0 := by
    have : fst (x :: (t ++ r)) = (x :: t).length := hf
    rw [this]; simp
  obtain ⟨p1, p2, _⟩ := head_plain (fst_head h0)
  have e := tk_word x (t ++ r) c p1 p2 h0
  have hf' : fst (x :: (t ++ r)) = (x :: t).length := hf
  rw [hf'] at e
  have e1 : (x :: (t ++ r)).take (x :: t).length = x :: t := List.take_left (l₁ := x :: t) (l₂ := r)
  have e2 : (x :: (t ++ r)).drop (x :: t).length = r := List.drop_left (l₁ := x :: t) (l₂ := r)
  rw [e1, e2] at e
  exact e

theorem blank_plain : ltr 32 = false ∧ sgl 32 = false := by decide
theorem tk_join (a : List UInt8) (ls : List (List UInt8)) (c : Nat) (ha : isW a = true) (h : ∀ l ∈ ls, isW l = true) : (tk (a ++ joinT a ls) c).1.map (·.1) = a :: ls ∧ (tk (a ++ joinT a ls) c).2 = none := by
  induction ls generalizing a c with
  | nil =>
    have e : joinT a [] = [] := rfl
    rw [e, tk_first ha (fst_blank ha [] (Or.inl rfl)), tk_nil]
    exact ⟨rfl, rfl⟩
  | cons b r ih =>
    have hb := h b (by simp)
    have hr : ∀ l ∈ r, isW l = true := fun l hl => h l (List.mem_cons_of_mem _ hl)
    have e : joinT a (b :: r) = (if glue a b then 32 :: b else b) ++ joinT b r := rfl
    rw [e]
    cases hg : glue a b with
    | true =>
      rw [if_pos rfl]
      show (tk (a ++ (32 :: (b ++ joinT b r))) c).1.map _ = _ ∧ (tk (a ++ (32 :: (b ++ joinT b r))) c).2 = _
      rw [tk_first ha (fst_blank ha _ (Or.inr ⟨32, _, rfl, blank_plain.1, blank_plain.2⟩)), tk_blank 32 _ _ (by decide) (by decide)]
      have := ih b (c + a.length + 1) hb hr
      exact ⟨by simp only [List.map_cons]; rw [this.1], this.2⟩
    | false =>
      rw [if_neg (by simp)]
      rw [tk_first ha (fst_touch ha hb hg _)]
      have := ih b (c + a.length) hb hr
      exact ⟨by simp only [List.map_cons]; rw [this.1], this.2⟩

/-- No byte of a word is a blank, a #, an end of a line. -/
theorem isW_bytes {a : List UInt8} (h : isW a = true) : ∀ x ∈ a, x.toNat ≠ 10 ∧ x.toNat ≠ 35 := by
  have key : ∀ l : List UInt8, lets l = l.length → ∀ x ∈ l, ltr x.toNat = true := by
    intro l
    induction l with
    | nil => simp
    | cons y t ih =>
      intro hl x hx
      rw [lets_cons] at hl
      split at hl
      · rename_i hy
        simp only [Bool.and_eq_true] at hy
        rcases List.mem_cons.1 hx with rfl | hx
        · exact hy.1
        · exact ih (by simp at hl; omega) x hx
      · simp at hl
  rcases isW_kinds h with ⟨x, rfl, hs⟩ | ⟨x, y, rfl, hd⟩ | ⟨hl, _⟩
  · intro z hz
    rw [List.mem_singleton] at hz
    subst hz
    have := head_plain (Or.inr hs)
    exact ⟨this.2.2, this.1⟩
  · intro z hz
    simp only [dbl, Bool.or_eq_true, Bool.and_eq_true, beq_iff_eq] at hd
    simp only [List.mem_cons, List.not_mem_nil, or_false] at hz
    rcases hz with rfl | rfl <;> omega
  · intro z hz
    have := head_plain (Or.inl (key a hl z hz))
    exact ⟨this.2.2, this.1⟩
theorem join_bytes (a : List UInt8) (ls : List (List UInt8)) (h : ∀ l ∈ ls, isW l = true) : ∀ x ∈ joinT a ls, x.toNat ≠ 10 := by
  induction ls generalizing a with
  | nil => intro x hx; exact absurd hx (by simp [joinT])
  | cons b r ih =>
    intro x hx
    have e : joinT a (b :: r) = (if glue a b then 32 :: b else b) ++ joinT b r := rfl
    rw [e, List.mem_append] at hx
    rcases hx with hx | hx
    · split at hx
      · rcases List.mem_cons.1 hx with rfl | hx
        · decide
        · exact (isW_bytes (h b (by simp)) x hx).1
      · exact (isW_bytes (h b (by simp)) x hx).1
    · exact ih b (fun l hl => h l (List.mem_cons_of_mem _ hl)) x hx

/-- What is said is read as it was said (P3.4). -/
theorem read_say (ls : List (List UInt8)) (h : ∀ l ∈ ls, isW l = true) (h0 : ls ≠ []) :
    (rd (lns (sayL ls)) 1).2 = none ∧ ∃ ws, (rd (lns (sayL ls)) 1).1 = [ws] ∧ ws.map (·.1) = ls := by
  cases ls with
  | nil => exact absurd rfl h0
  | cons a r =>
    have ha := h a (by simp)
    have hr : ∀ l ∈ r, isW l = true := fun l hl => h l (List.mem_cons_of_mem _ hl)
    have h10 : ∀ x ∈ sayL (a :: r), x.toNat ≠ 10 := by
      intro x hx
      rcases List.mem_append.1 hx with hx | hx
      · exact (isW_bytes ha x hx).1
      · exact join_bytes a r hr x hx
    obtain ⟨e1, e2⟩ := tk_join a r 1 ha hr
    have e2' : (tk (sayL (a :: r)) 1).2 = none := e2
    have ne : (tk (sayL (a :: r)) 1).1 ≠ [] := by
      intro e
      have : (tk (a ++ joinT a r) 1).1 = [] := e
      rw [this] at e1; simp at e1
    rw [lns_last _ h10, rd_some e2' ne]
    refine ⟨rfl, _, rfl, ?_⟩
    unfold wds
    rw [List.map_map]
    exact e1
theorem read_say_nil : rd (lns (sayL [])) 1 = ([], none) := rfl

/-- The first k words, said. -/
def sayTo (ls : List (List UInt8)) : Nat → List UInt8
  | 0 => []
  | k + 1 => sayTo ls k ++ (if 0 < k ∧ glue (ls.getD (k - 1) []) (ls.getD k []) = true then [32] else []) ++ ls.getD k []
theorem joinT_snoc (a : List UInt8) (ls : List (List UInt8)) (b : List UInt8) : joinT a (ls ++ [b]) = joinT a ls ++ (if glue ((a :: ls).getLast (by simp)) b then 32 :: b else b) := by
  induction ls generalizing a with
  | nil =>
    show (if glue a b then 32 :: b else b) ++ [] = [] ++ (if glue a b then 32 :: b else b)
    simp only [List.append_nil, List.nil_append]
  | cons c r ih =>
    show (if glue a c then 32 :: c else c) ++ joinT c (r ++ [b]) = ((if glue a c then 32 :: c else c) ++ joinT c r) ++ _
    rw [ih c, List.append_assoc, List.getLast_cons (show c :: r ≠ [] by simp)]
theorem sayTo_take (ls : List (List UInt8)) (k : Nat) (h : k ≤ ls.length) : sayTo ls k = sayL (ls.take k) := by
  induction k with
  | zero => simp [sayTo, sayL]
  | succ k ih =>
    have hk : k < ls.length := h
    have eg : ls.getD k [] = ls[k] := by rw [List.getD_eq_getElem?_getD, List.getElem?_eq_getElem hk]; rfl
    show sayTo ls k ++ _ ++ ls.getD k [] = _
    rw [ih (by omega), List.take_succ_eq_append_getElem hk, eg]
    cases k with
    | zero => simp [sayL, joinT]
    | succ k =>
      have eg2 : ls.getD k [] = ls[k]'(by omega) := by rw [List.getD_eq_getElem?_getD, List.getElem?_eq_getElem (by omega)]; rfl
      cases hls : ls.take (k + 1) with
      | nil =>
        have := congrArg List.length hls
        rw [List.length_take] at this
        simp only [List.length_nil] at this
        omega
      | cons a r =>
        show (a ++ joinT a r) ++ _ ++ _ = a ++ joinT a (r ++ [ls[k + 1]])
        rw [joinT_snoc]
        have hlast : (a :: r).getLast (by simp) = ls[k]'(by omega) := by
          have h1 : (ls.take (k + 1)).getLast? = some (ls[k]'(by omega)) := by
            rw [List.take_succ_eq_append_getElem (by omega), List.getLast?_concat]
          rw [hls, List.getLast?_eq_some_getLast (by simp)] at h1
          exact Option.some.inj h1
        rw [hlast]
        simp only [Nat.add_sub_cancel, eg2, Nat.zero_lt_succ, true_and]
        split <;> simp
theorem sayTo_all (ls : List (List UInt8)) : sayTo ls ls.length = sayL ls := by rw [sayTo_take _ _ (Nat.le_refl _), List.take_length]
end Wo
end Go.Proofs.YtebaopiedlioiaaGreatDoor
namespace Go.Proofs.YtebaopiedlioiaaGreatDoor
namespace Wo

def decF (n : Nat) (c : UInt8) : Nat := 10 * n + (c.toNat - 48)
def decN (l : List UInt8) : Nat := l.foldl decF 0
theorem decN_snoc (l : List UInt8) (c : UInt8) : decN (l ++ [c]) = 10 * decN l + (c.toNat - 48) := by simp [decN, decF]
theorem foldl_ge (t : List UInt8) (n : Nat) : n * 10 ^ t.length ≤ t.foldl decF n := by
  induction t generalizing n with
  | nil => simp
  | cons a t ih =>
    have := ih (decF n a)
    show _ ≤ t.foldl decF (decF n a)
    refine Nat.le_trans ?_ this
    have : n * 10 ≤ decF n a := by unfold decF; omega
    rw [List.length_cons, Nat.pow_succ, Nat.mul_comm (10 ^ t.length) 10, ← Nat.mul_assoc]
    exact Nat.mul_le_mul_right _ this
theorem decN_mono (l t : List UInt8) : decN l ≤ decN (l ++ t) := by
  unfold decN
  rw [List.foldl_append]
  have := foldl_ge t (l.foldl decF 0)
  exact Nat.le_trans (Nat.le_mul_of_pos_right _ (Nat.pow_pos (by omega))) this
def allD (l : List UInt8) : Bool := l.all fun c => dg c.toNat
/-- Is it a number? Its value; the error. -/
def numB (l : List UInt8) : Bool := decide (l ≠ [] ∧ (l.length ≤ 1 ∨ (l.headD 0).toNat ≠ 48) ∧ allD l = true ∧ decN l ≤ 2147483647)
def numV (l : List UInt8) : Nat := if numB l then decN l else 0
def numE (l : List UInt8) : Nat := if numB l then 0 else 32
theorem num_bad {l : List UInt8} (h : numB l = false) : numV l = 0 ∧ numE l = 32 := by unfold numV numE; rw [h]; exact ⟨rfl, rfl⟩
theorem num_good {l : List UInt8} (h : numB l = true) : numV l = decN l ∧ numE l = 0 := by unfold numV numE; rw [h]; exact ⟨rfl, rfl⟩
theorem num_long {l : List UInt8} (h : 10 < l.length) : numB l = false := by
  refine decide_eq_false ?_
  rintro ⟨h0, h1, h2, h3⟩
  cases l with
  | nil => exact h0 rfl
  | cons a t =>
    simp only [List.headD_cons, List.length_cons] at h1 h
    have ha : dg a.toNat = true := by unfold allD at h2; rw [List.all_cons, Bool.and_eq_true] at h2; exact h2.1
    have ha' := of_decide_eq_true ha
    have : decN (a :: t) = t.foldl decF (a.toNat - 48) := by simp [decN, decF]
    rw [this] at h3
    have h4 := foldl_ge t (a.toNat - 48)
    have h5 : 10 ^ 10 ≤ 10 ^ t.length := Nat.pow_le_pow_right (by omega) (by omega)
    have h6 : 1 * 10 ^ t.length ≤ (a.toNat - 48) * 10 ^ t.length := Nat.mul_le_mul_right _ (by omega)
    have h7 : (10 : Nat) ^ 10 = 10000000000 := by decide
    omega

theorem decN_lt (l : List UInt8) (h : allD l = true) : decN l < 10 ^ l.length := by
  have key : ∀ (t : List UInt8) (n : Nat), allD t = true → t.foldl decF n < (n + 1) * 10 ^ t.length := by
    intro t
    induction t with
    | nil => intro n _; simp
    | cons a t ih =>
      intro n ht
      unfold allD at ht
      rw [List.all_cons, Bool.and_eq_true] at ht
      have ha := of_decide_eq_true ht.1
      have h1 := ih (decF n a) ht.2
      show t.foldl decF (decF n a) < _
      have h2 : decF n a + 1 ≤ (n + 1) * 10 := by unfold decF; omega
      rw [List.length_cons, Nat.pow_succ, Nat.mul_comm (10 ^ t.length) 10, ← Nat.mul_assoc]
      exact Nat.lt_of_lt_of_le h1 (Nat.mul_le_mul_right _ h2)
  have := key l 0 h
  simpa [decN] using this
theorem decN_ten (l : List UInt8) (h : allD l = true) (h10 : l.length ≤ 10) : decN l ≤ 9999999999 := by
  have h1 := decN_lt l h
  have h2 : 10 ^ l.length ≤ 10 ^ 10 := Nat.pow_le_pow_right (by omega) h10
  have h3 : (10 : Nat) ^ 10 = 10000000000 := by decide
  omega

/-- Is it a name? -/
def nameB (l : List UInt8) : Bool := decide (l ≠ [] ∧ l.length ≤ 64 ∧ dg (l.headD 0).toNat = false ∧ (l.headD 0).toNat ≠ 45 ∧ (l.all fun c => ltr c.toNat) = true)
theorem lets_all (l : List UInt8) : lets l = l.length ↔ (l.all fun c => ltr c.toNat) = true := by
  induction l with
  | nil => simp [lets]
  | cons a t ih =>
    have eq2 : ((a :: t).all fun c => ltr c.toNat) = true ↔ ltr a.toNat = true ∧ (t.all fun c => ltr c.toNat) = true := by rw [List.all_cons, Bool.and_eq_true]
    rw [eq2, lets_cons]
    constructor
    · intro h
      split at h
      · rename_i hx
        simp only [Bool.and_eq_true] at hx
        exact ⟨hx.1, ih.1 (by simp only [List.length_cons] at h; omega)⟩
      · simp at h
    · rintro ⟨h1, h2⟩
      have ha : arr (a :: t) = false := by
        cases t with
        | nil => rfl
        | cons b t =>
          rw [List.all_cons, Bool.and_eq_true] at h2
          show (a.toNat == 45 && b.toNat == 62) = false
          have : (b.toNat == 62) = false := by
            rw [beq_eq_false_iff_ne]
            intro e
            have := h2.1
            rw [e] at this
            exact absurd this (by decide)
          rw [this]; simp
      rw [if_pos (by rw [h1, ha]; rfl), ih.2 h2]; rfl
end Wo
end Go.Proofs.YtebaopiedlioiaaGreatDoor
namespace Go.Proofs.YtebaopiedlioiaaGreatDoor.Cub
namespace Cu

/-- The word whose bit i (i < n) is p i. -/
def word (p : Nat → Bool) : Nat → Nat
  | 0 => 0
  | n + 1 => word p n ||| (if p n then 2 ^ n else 0)

theorem testBit_word (p : Nat → Bool) (n i : Nat) : (word p n).testBit i = (decide (i < n) && p i) := by
  induction n with
  | zero => simp [word]
  | succ n ih =>
    rw [word, Nat.testBit_or, ih]
    by_cases hp : p n
    · rw [if_pos hp, Nat.testBit_two_pow]
      by_cases e : n = i
      · subst e; simp [hp]
      · have : (i < n + 1) ↔ i < n := by omega
        simp [e, this]
    · rw [if_neg hp]
      by_cases e : i = n
      · subst e; simp [hp]
      · have : (i < n + 1) ↔ i < n := by omega
        simp [this]

theorem word_lt (p : Nat → Bool) (n : Nat) : word p n < 2 ^ n := by
  refine Nat.lt_pow_two_of_testBit _ fun i hi => ?_
  rw [testBit_word]
  simp; omega

theorem word_eq {p : Nat → Bool} {x : Nat} (n : Nat) (hx : x < 2 ^ n) (h : ∀ i, i < n → x.testBit i = p i) : x = word p n := by
  refine Nat.eq_of_testBit_eq fun i => ?_
  rw [testBit_word]
  by_cases hi : i < n
  · simp [hi, h i hi]
  · have : x.testBit i = false := Nat.testBit_lt_two_pow (Nat.lt_of_lt_of_le hx (Nat.pow_le_pow_right (by omega) (by omega)))
    simp [hi, this]

/-- Word k of a set of places. -/
def wd (p : Nat → Bool) (k : Nat) : Nat := word (fun i => p (64 * k + i)) 64
theorem wd_lt (p : Nat → Bool) (k : Nat) : wd p k < 18446744073709551616 := word_lt _ 64
theorem testBit_wd (p : Nat → Bool) (k i : Nat) : (wd p k).testBit i = (decide (i < 64) && p (64 * k + i)) := testBit_word _ _ _
theorem wd_eq {p : Nat → Bool} {x k : Nat} (hx : x < 18446744073709551616) (h : ∀ i, i < 64 → x.testBit i = p (64 * k + i)) : x = wd p k :=
  word_eq 64 hx h
theorem wd_congr {p q : Nat → Bool} {k : Nat} (h : ∀ i, i < 64 → p (64 * k + i) = q (64 * k + i)) : wd p k = wd q k :=
  wd_eq (wd_lt _ _) fun i hi => by rw [testBit_wd]; simp [hi, h i hi]

theorem or_lt {a b : Nat} (ha : a < 18446744073709551616) (hb : b < 18446744073709551616) : a ||| b < 18446744073709551616 := Nat.or_lt_two_pow (n := 64) ha hb
theorem and_lt {a b : Nat} (ha : a < 18446744073709551616) : a &&& b < 18446744073709551616 := Nat.lt_of_le_of_lt Nat.and_le_left ha
theorem xor_lt {a b : Nat} (ha : a < 18446744073709551616) (hb : b < 18446744073709551616) : a ^^^ b < 18446744073709551616 := Nat.xor_lt_two_pow (n := 64) ha hb
theorem pow_lt {i : Nat} (hi : i < 64) : 2 ^ i < 18446744073709551616 := Nat.pow_lt_pow_right (a := 2) (by omega) hi

/-- Is the place fixed? is it 1? (behind the end: free) -/
def fixAt (l : List UInt8) (i : Nat) : Bool := l[i]? == some 48 || l[i]? == some 49
def oneAt (l : List UInt8) (i : Nat) : Bool := l[i]? == some 49

/-- A byte of a cube; a cube. -/
def sym (c : UInt8) : Bool := c == 48 || c == 49 || c == 120
def right (l : List UInt8) : Bool := l.all sym && decide (1 ≤ l.length) && decide (l.length ≤ 128)

/-- Two words, bit by bit: is the and of them nought? -/
theorem and_ne_zero {x y : Nat} : (x &&& y = 0) ↔ ∀ i, (x.testBit i && y.testBit i) = false := by
  constructor
  · intro h i
    have := congrArg (fun z => z.testBit i) h
    simpa [Nat.testBit_and] using this
  · intro h
    refine Nat.eq_of_testBit_eq fun i => ?_
    rw [Nat.testBit_and, h i]; simp

/-- One bit more of a word. -/
def updw (p : Nat → Bool) (j : Nat) : Nat → Bool := fun i => p i || decide (i = j)
theorem wd_upd_same (p : Nat → Bool) (j : Nat) : wd p (j / 64) ||| 2 ^ (j % 64) = wd (updw p j) (j / 64) := by
  refine wd_eq (or_lt (wd_lt _ _) (pow_lt (by omega))) fun i hi => ?_
  rw [Nat.testBit_or, testBit_wd, Nat.testBit_two_pow]
  simp only [hi, updw, decide_true, Bool.true_and]
  congr 1
  apply decide_eq_decide.2
  omega
theorem wd_upd_other (p : Nat → Bool) (j k : Nat) (h : k ≠ j / 64) : wd (updw p j) k = wd p k := by
  refine wd_congr fun i hi => ?_
  have : ¬ (64 * k + i = j) := by omega
  simp [updw, this]

/-- One bit more, if that is said. -/
def setOne (q : Nat → Bool) (j : Nat) (one : Bool) : Nat → Bool := fun i => q i || (one && decide (i = j))

theorem get_snoc (l : List UInt8) (c : UInt8) (i : Nat) : (l ++ [c])[i]? = if i = l.length then some c else l[i]? := by
  by_cases h : i < l.length
  · rw [List.getElem?_append_left h, if_neg (by omega)]
  · rw [List.getElem?_append_right (by omega)]
    by_cases e : i = l.length
    · subst e; simp
    · rw [if_neg e, List.getElem?_eq_none (by simp; omega), List.getElem?_eq_none (by omega)]

theorem fixAt_end (l : List UInt8) : fixAt l l.length = false := by simp [fixAt]
theorem oneAt_end (l : List UInt8) : oneAt l l.length = false := by simp [oneAt]
theorem fixAt_snoc (l : List UInt8) (c : UInt8) (h : c = 48 ∨ c = 49) : fixAt (l ++ [c]) = updw (fixAt l) l.length := by
  funext i
  simp only [fixAt, updw, get_snoc]
  by_cases e : i = l.length
  · rw [if_pos e]; rcases h with rfl | rfl <;> simp [e]
  · rw [if_neg e]; simp [e]
theorem oneAt_snoc (l : List UInt8) (c : UInt8) : oneAt (l ++ [c]) = setOne (oneAt l) l.length (c == 49) := by
  funext i
  simp only [oneAt, setOne, get_snoc]
  by_cases e : i = l.length
  · rw [if_pos e]; simp [e]
  · rw [if_neg e]; simp [e]
theorem fixAt_snoc_x (l : List UInt8) : fixAt (l ++ [120]) = fixAt l := by
  funext i
  simp only [fixAt, get_snoc]
  by_cases e : i = l.length
  · rw [if_pos e]; subst e; simp
  · rw [if_neg e]
theorem oneAt_snoc_x (l : List UInt8) : oneAt (l ++ [120]) = oneAt l := by
  rw [oneAt_snoc]; funext i; simp [setOne]
theorem sym_cases {c : UInt8} (h : sym c = true) : c = 48 ∨ c = 49 ∨ c = 120 := by
  simp only [sym, Bool.or_eq_true, beq_iff_eq] at h
  rcases h with (h | h) | h <;> simp [h]

/-- Do two cubes meet? what they have in common; does the one lie inside the other? -/
def meetsB (a b : List UInt8) : Bool := (List.zip a b).all fun x => x.1 == x.2 || x.1 == 120 || x.2 == 120
def meetL (a b : List UInt8) : List UInt8 := List.zipWith (fun x y => if x == 120 then y else x) a b
def insideB (a b : List UInt8) : Bool := (List.zip a b).all fun x => x.1 == x.2 || x.2 == 120

theorem zip_all {a b : List UInt8} (h : a.length = b.length) (f : UInt8 × UInt8 → Bool) : (List.zip a b).all f = true ↔ ∀ i (hi : i < a.length), f (a[i], b[i]'(h ▸ hi)) = true := by
  rw [List.all_eq_true]
  constructor
  · intro H i hi
    refine H _ ?_
    have hz : i < (List.zip a b).length := by simp [← h, hi]
    have := List.getElem_mem hz
    simpa using this
  · intro H x hx
    obtain ⟨i, hi, rfl⟩ := List.getElem_of_mem hx
    have hi' : i < a.length := by simp at hi; omega
    simpa using H i hi'

theorem right_all {l : List UInt8} (h : right l = true) : l.all sym = true ∧ 1 ≤ l.length ∧ l.length ≤ 128 := by
  simp only [right, Bool.and_eq_true, decide_eq_true_eq] at h
  exact ⟨h.1.1, h.1.2, h.2⟩
theorem sym_at {l : List UInt8} (h : l.all sym = true) (i : Nat) (hi : i < l.length) : l[i] = 48 ∨ l[i] = 49 ∨ l[i] = 120 :=
  sym_cases (List.all_eq_true.1 h _ (List.getElem_mem hi))

theorem fixAt_lt {l : List UInt8} {i : Nat} (hi : i < l.length) : fixAt l i = (l[i] == 48 || l[i] == 49) := by
  simp [fixAt, List.getElem?_eq_getElem hi]
theorem oneAt_lt {l : List UInt8} {i : Nat} (hi : i < l.length) : oneAt l i = (l[i] == 49) := by
  simp [oneAt, List.getElem?_eq_getElem hi]
theorem fixAt_ge {l : List UInt8} {i : Nat} (hi : l.length ≤ i) : fixAt l i = false := by
  simp [fixAt, List.getElem?_eq_none hi]
theorem oneAt_ge {l : List UInt8} {i : Nat} (hi : l.length ≤ i) : oneAt l i = false := by
  simp [oneAt, List.getElem?_eq_none hi]

/-- Two cubes part at place i. -/
def partAt (a b : List UInt8) (i : Nat) : Bool := (oneAt a i != oneAt b i) && fixAt a i && fixAt b i
theorem meetsB_iff {a b : List UInt8} (ha : a.all sym = true) (hb : b.all sym = true) (h : a.length = b.length) : meetsB a b = true ↔ ∀ i, partAt a b i = false := by
  unfold meetsB
  rw [zip_all h]
  constructor
  · intro H i
    by_cases hi : i < a.length
    · have h1 := H i hi
      have hi' : i < b.length := h ▸ hi
      unfold partAt
      rw [fixAt_lt hi, fixAt_lt hi', oneAt_lt hi, oneAt_lt hi']
      rcases sym_at ha i hi with e | e | e <;> rcases sym_at hb i hi' with f | f | f <;> simp [e, f] at h1 ⊢
    · unfold partAt; rw [fixAt_ge (by omega)]; simp
  · intro H i hi
    have h1 := H i
    have hi' : i < b.length := h ▸ hi
    unfold partAt at h1
    rw [fixAt_lt hi, fixAt_lt hi', oneAt_lt hi, oneAt_lt hi'] at h1
    rcases sym_at ha i hi with e | e | e <;> rcases sym_at hb i hi' with f | f | f <;> simp [e, f] at h1 ⊢

/-- The one lies outside of the other at place i. -/
def outAt (a b : List UInt8) (i : Nat) : Bool := fixAt b i && (!fixAt a i || (oneAt a i != oneAt b i))
theorem insideB_iff {a b : List UInt8} (ha : a.all sym = true) (hb : b.all sym = true) (h : a.length = b.length) : insideB a b = true ↔ ∀ i, outAt a b i = false := by
  unfold insideB
  rw [zip_all h]
  constructor
  · intro H i
    by_cases hi : i < a.length
    · have h1 := H i hi
      have hi' : i < b.length := h ▸ hi
      unfold outAt
      rw [fixAt_lt hi, fixAt_lt hi', oneAt_lt hi, oneAt_lt hi']
      rcases sym_at ha i hi with e | e | e <;> rcases sym_at hb i hi' with f | f | f <;> simp [e, f] at h1 ⊢
    · unfold outAt; rw [fixAt_ge (l := b) (by omega)]; simp
  · intro H i hi
    have h1 := H i
    have hi' : i < b.length := h ▸ hi
    unfold outAt at h1
    rw [fixAt_lt hi, fixAt_lt hi', oneAt_lt hi, oneAt_lt hi'] at h1
    rcases sym_at ha i hi with e | e | e <;> rcases sym_at hb i hi' with f | f | f <;> simp [e, f] at h1 ⊢

theorem meetL_length {a b : List UInt8} (h : a.length = b.length) : (meetL a b).length = a.length := by simp [meetL, h]
theorem meetL_at {a b : List UInt8} (h : a.length = b.length) (i : Nat) (hi : i < a.length) : (meetL a b)[i]'(by rw [meetL_length h]; exact hi) = if a[i] == 120 then b[i]'(h ▸ hi) else a[i] := by
  simp [meetL]
theorem meetL_sym {a b : List UInt8} (ha : a.all sym = true) (hb : b.all sym = true) (h : a.length = b.length) : (meetL a b).all sym = true := by
  rw [List.all_eq_true]
  intro x hx
  obtain ⟨i, hi, rfl⟩ := List.getElem_of_mem hx
  have hi' : i < a.length := by rw [meetL_length h] at hi; exact hi
  rw [meetL_at h i hi']
  split
  · exact List.all_eq_true.1 hb _ (List.getElem_mem _)
  · exact List.all_eq_true.1 ha _ (List.getElem_mem _)
theorem meetL_right {a b : List UInt8} (ha : right a = true) (hb : right b = true) (h : a.length = b.length) : right (meetL a b) = true := by
  obtain ⟨h1, h2, h3⟩ := right_all ha
  obtain ⟨k1, _, _⟩ := right_all hb
  simp only [right, Bool.and_eq_true, decide_eq_true_eq]
  exact ⟨⟨meetL_sym h1 k1 h, by rw [meetL_length h]; exact h2⟩, by rw [meetL_length h]; exact h3⟩
theorem fixAt_meetL {a b : List UInt8} (ha : a.all sym = true) (hb : b.all sym = true) (h : a.length = b.length) (i : Nat) : fixAt (meetL a b) i = (fixAt a i || fixAt b i) := by
  by_cases hi : i < a.length
  · have hi' : i < b.length := h ▸ hi
    rw [fixAt_lt (by rw [meetL_length h]; exact hi), fixAt_lt hi, fixAt_lt hi', meetL_at h i hi]
    rcases sym_at ha i hi with e | e | e <;> rcases sym_at hb i hi' with f | f | f <;> simp [e, f]
  · rw [fixAt_ge (by rw [meetL_length h]; omega), fixAt_ge (by omega), fixAt_ge (l := b) (by omega)]; rfl
theorem oneAt_meetL {a b : List UInt8} (ha : a.all sym = true) (hb : b.all sym = true) (h : a.length = b.length) (hm : meetsB a b = true) (i : Nat) : oneAt (meetL a b) i = (oneAt a i || oneAt b i) := by
  by_cases hi : i < a.length
  · have hi' : i < b.length := h ▸ hi
    have hp := (meetsB_iff ha hb h).1 hm i
    unfold partAt at hp
    rw [fixAt_lt hi, fixAt_lt hi', oneAt_lt hi, oneAt_lt hi'] at hp
    rw [oneAt_lt (by rw [meetL_length h]; exact hi), oneAt_lt hi, oneAt_lt hi', meetL_at h i hi]
    rcases sym_at ha i hi with e | e | e <;> rcases sym_at hb i hi' with f | f | f <;> simp [e, f] at hp ⊢
  · rw [oneAt_ge (by rw [meetL_length h]; omega), oneAt_ge (by omega), oneAt_ge (l := b) (by omega)]; rfl

end Cu
end Go.Proofs.YtebaopiedlioiaaGreatDoor.Cub
