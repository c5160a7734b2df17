/-
  Texts as lines and words, over lists of bytes: letters, signs, the word with which a text begins, the words of a line, the lines of a text. No program is named here.
-/
namespace Go.Proofs.YtalmcdhohoplpaaDoor
namespace Wo

def dg (x : Nat) : Bool := decide (48 ≤ x ∧ x ≤ 57)
def ltr (x : Nat) : Bool := decide ((97 ≤ x ∧ x ≤ 122) ∨ (65 ≤ x ∧ x ≤ 90) ∨ (48 ≤ x ∧ x ≤ 57) ∨ x = 95 ∨ x = 45)
def sgl (x : Nat) : Bool := [40, 41, 44, 124, 42, 43, 63, 46, 36, 61, 60, 62].contains x
def dbl (x y : Nat) : Bool := (x == 61 && y == 61) || (x == 60 && y == 61) || (x == 62 && y == 61) || (x == 45 && y == 62)
def blk (x : Nat) : Bool := x == 32 || x == 9

/-- Does a text begin with the sign ->? -/
def arr : List UInt8 → Bool
  | a :: b :: _ => a.toNat == 45 && b.toNat == 62
  | _ => false

/-- How many letters a text begins with, up to the sign ->. -/
def lets : List UInt8 → Nat
  | [] => 0
  | a :: t => if ltr a.toNat && !arr (a :: t) then lets t + 1 else 0

/-- How many bytes the word has with which a text begins. -/
def fst : List UInt8 → Nat
  | [] => 0
  | [a] => if sgl a.toNat then 1 else lets [a]
  | a :: b :: t => if dbl a.toNat b.toNat then 2 else if sgl a.toNat then 1 else lets (a :: b :: t)

theorem fst_one (a : UInt8) : fst [a] = if sgl a.toNat then 1 else lets [a] := rfl
theorem fst_two (a b : UInt8) (t : List UInt8) : fst (a :: b :: t) = if dbl a.toNat b.toNat then 2 else if sgl a.toNat then 1 else lets (a :: b :: t) := rfl
theorem lets_cons (a : UInt8) (t : List UInt8) : lets (a :: t) = if ltr a.toNat && !arr (a :: t) then lets t + 1 else 0 := rfl
theorem lets_le (l : List UInt8) : lets l ≤ l.length := by
  induction l with
  | nil => exact Nat.le_refl _
  | cons a t ih => rw [lets_cons]; split <;> simp <;> omega
theorem fst_le (l : List UInt8) : fst l ≤ l.length := by
  match l with
  | [] => exact Nat.le_refl _
  | [a] => rw [fst_one]; split; exact Nat.le_refl _; exact lets_le _
  | a :: b :: t =>
    rw [fst_two]
    split
    · simp
    · split
      · simp
      · exact lets_le _

/-- The words of a line, each with its column, and the column of the first byte with which none begins. -/
def toks : Nat → List UInt8 → Nat → List (List UInt8 × Nat) × Option Nat
  | 0, _, _ => ([], none)
  | _ + 1, [], _ => ([], none)
  | n + 1, a :: t, c =>
    if a.toNat = 35 then ([], none)
    else if blk a.toNat then toks n t (c + 1)
    else if fst (a :: t) = 0 then ([], some c)
    else (((a :: t).take (fst (a :: t)), c) :: (toks n ((a :: t).drop (fst (a :: t))) (c + fst (a :: t))).1, (toks n ((a :: t).drop (fst (a :: t))) (c + fst (a :: t))).2)

theorem toks_fuel (n m : Nat) (l : List UInt8) (c : Nat) (hn : l.length ≤ n) (hm : l.length ≤ m) : toks n l c = toks m l c := by
  induction n generalizing m l c with
  | zero =>
    have : l = [] := List.length_eq_zero_iff.1 (by omega)
    subst this
    cases m <;> rfl
  | succ n ih =>
    cases l with
    | nil => cases m <;> rfl
    | cons a t =>
      cases m with
      | zero => simp at hm
      | succ m =>
        simp only [List.length_cons] at hn hm
        unfold toks
        split
        · rfl
        · split
          · exact ih m t _ (by omega) (by omega)
          · split
            · rfl
            · rw [ih m _ _ (by simp only [List.length_drop, List.length_cons]; omega) (by simp only [List.length_drop, List.length_cons]; omega)]

def tk (l : List UInt8) (c : Nat) : List (List UInt8 × Nat) × Option Nat := toks l.length l c

theorem tk_nil (c : Nat) : tk [] c = ([], none) := rfl
theorem tk_hash (a : UInt8) (t : List UInt8) (c : Nat) (h : a.toNat = 35) : tk (a :: t) c = ([], none) := by
  show toks (t.length + 1) (a :: t) c = _
  unfold toks; rw [if_pos h]
theorem tk_blank (a : UInt8) (t : List UInt8) (c : Nat) (h : a.toNat ≠ 35) (h2 : blk a.toNat = true) : tk (a :: t) c = tk t (c + 1) := by
  show toks (t.length + 1) (a :: t) c = _
  conv => lhs; unfold toks
  rw [if_neg h, if_pos h2]; rfl
theorem tk_fault (a : UInt8) (t : List UInt8) (c : Nat) (h : a.toNat ≠ 35) (h2 : blk a.toNat = false) (h3 : fst (a :: t) = 0) : tk (a :: t) c = ([], some c) := by
  show toks (t.length + 1) (a :: t) c = _
  unfold toks
  rw [if_neg h, if_neg (by rw [h2]; simp), if_pos h3]
theorem tk_word (a : UInt8) (t : List UInt8) (c : Nat) (h : a.toNat ≠ 35) (h2 : blk a.toNat = false) (h3 : fst (a :: t) ≠ 0) :
    tk (a :: t) c = (((a :: t).take (fst (a :: t)), c) :: (tk ((a :: t).drop (fst (a :: t))) (c + fst (a :: t))).1, (tk ((a :: t).drop (fst (a :: t))) (c + fst (a :: t))).2) := by
  show toks (t.length + 1) (a :: t) c = _
  conv => lhs; unfold toks
  rw [if_neg h, if_neg (by rw [h2]; simp), if_neg h3]
  have e : toks t.length ((a :: t).drop (fst (a :: t))) (c + fst (a :: t)) = tk ((a :: t).drop (fst (a :: t))) (c + fst (a :: t)) :=
    toks_fuel _ _ _ _ (by simp only [List.length_drop, List.length_cons]; omega) (Nat.le_refl _)
  rw [e]

/-- What stands ahead of the first #. -/
def code (l : List UInt8) : List UInt8 := l.takeWhile (fun a => a.toNat != 35)

theorem ltr_35 {x : Nat} (h : x = 35) : ltr x = false := by subst h; decide
theorem sgl_35 {x : Nat} (h : x = 35) : sgl x = false := by subst h; decide
theorem dbl_35 {x y : Nat} (h : y = 35) : dbl x y = false := by subst h; simp [dbl]
theorem code_hash {a : UInt8} (t : List UInt8) (h : a.toNat = 35) : code (a :: t) = [] := by unfold code; rw [List.takeWhile_cons]; simp [h]
theorem code_cons {a : UInt8} (t : List UInt8) (h : a.toNat ≠ 35) : code (a :: t) = a :: code t := by unfold code; rw [List.takeWhile_cons]; simp [h]

theorem arr_code (l : List UInt8) : arr (code l) = arr l := by
  match l with
  | [] => rfl
  | [a] => by_cases h : a.toNat = 35 <;> simp [code, h, arr]
  | a :: b :: t =>
    by_cases h : a.toNat = 35
    · rw [code_hash _ h]; simp [arr, h]
    · rw [code_cons _ h]
      by_cases h2 : b.toNat = 35
      · rw [code_hash _ h2]; simp [arr, h2]
      · rw [code_cons _ h2]; rfl
theorem lets_code (l : List UInt8) : lets (code l) = lets l := by
  induction l with
  | nil => rfl
  | cons a t ih =>
    by_cases h : a.toNat = 35
    · rw [code_hash _ h, lets_cons, ltr_35 h]; rfl
    · have ha := arr_code (a :: t)
      rw [code_cons _ h] at ha ⊢
      rw [lets_cons, lets_cons, ha, ih]
theorem fst_code (l : List UInt8) : fst (code l) = fst l := by
  match l with
  | [] => rfl
  | [a] =>
    by_cases h : a.toNat = 35
    · rw [code_hash _ h, fst_one, lets_cons, ltr_35 h, sgl_35 h]; rfl
    · rw [code_cons _ h]; rfl
  | a :: b :: t =>
    have hl := lets_code (a :: b :: t)
    by_cases h : a.toNat = 35
    · rw [code_hash _ h, fst_two, lets_cons, ltr_35 h, sgl_35 h]; simp [dbl, h, fst]
    · rw [code_cons _ h] at hl ⊢
      by_cases h2 : b.toNat = 35
      · rw [code_hash _ h2] at hl ⊢
        rw [fst_two, dbl_35 h2, ← hl]; rfl
      · rw [code_cons _ h2] at hl ⊢
        rw [fst_two, fst_two, hl]

theorem code_drop (l : List UInt8) (k : Nat) (h : k ≤ (code l).length) : (code l).drop k = code (l.drop k) := by
  induction l generalizing k with
  | nil => simp [code] at h; subst h; rfl
  | cons a t ih =>
    by_cases ha : a.toNat = 35
    · rw [code_hash _ ha] at h ⊢; simp at h; subst h; simp [code_hash _ ha]
    · rw [code_cons _ ha] at h ⊢
      cases k with
      | zero => simp [code_cons _ ha]
      | succ k => simp only [List.drop_succ_cons]; exact ih k (by simpa using h)
theorem code_take (l : List UInt8) (k : Nat) (h : k ≤ (code l).length) : (code l).take k = l.take k := by
  induction l generalizing k with
  | nil => simp [code]
  | cons a t ih =>
    by_cases ha : a.toNat = 35
    · rw [code_hash _ ha] at h; simp at h; subst h; simp
    · rw [code_cons _ ha] at h ⊢
      cases k with
      | zero => simp
      | succ k => simp only [List.take_succ_cons]; rw [ih k (by simpa using h)]

/-- The words of a line are those of what stands ahead of the first #. -/
theorem tk_code (l : List UInt8) (c : Nat) : tk (code l) c = tk l c := by
  generalize hn : l.length = n
  induction n using Nat.strongRecOn generalizing l c with
  | ind n ih =>
    cases l with
    | nil => rfl
    | cons a t =>
      simp only [List.length_cons] at hn
      by_cases h : a.toNat = 35
      · rw [code_hash _ h, tk_hash _ _ _ h]; rfl
      · have hf := fst_code (a :: t)
        have hle := fst_le (code (a :: t))
        have hd := code_drop (a :: t) (fst (a :: t)) (by omega)
        have ht := code_take (a :: t) (fst (a :: t)) (by omega)
        rw [code_cons _ h] at hf hd ht ⊢
        cases hb : blk a.toNat with
        | true => rw [tk_blank _ _ _ h hb, tk_blank _ _ _ h hb]; exact ih t.length (by omega) t _ rfl
        | false =>
          by_cases h0 : fst (a :: t) = 0
          · rw [tk_fault _ _ _ h hb h0, tk_fault _ _ _ h hb (by omega)]
          · rw [tk_word _ _ _ h hb h0, tk_word _ _ _ h hb (by omega), hf, hd, ht, ih ((a :: t).drop (fst (a :: t))).length (by simp only [List.length_drop, List.length_cons]; omega) _ _ rfl]

/-- What comes behind blanks. -/
def skp (l : List UInt8) : List UInt8 := l.dropWhile (fun a => blk a.toNat)
theorem skp_le (l : List UInt8) : (skp l).length ≤ l.length := (List.dropWhile_suffix _).length_le
theorem blk_35 {x : Nat} (h : blk x = true) : x ≠ 35 := by rintro rfl; revert h; decide
theorem tk_skp (l : List UInt8) (c : Nat) : tk l c = tk (skp l) (c + (l.length - (skp l).length)) := by
  induction l generalizing c with
  | nil => rfl
  | cons a t ih =>
    cases hb : blk a.toNat with
    | true =>
      rw [tk_blank _ _ _ (blk_35 hb) hb, ih]
      have e : skp (a :: t) = skp t := by unfold skp; rw [List.dropWhile_cons]; simp [hb]
      rw [e]
      have := skp_le t
      congr 1
      simp only [List.length_cons]; omega
    | false =>
      have e : skp (a :: t) = a :: t := by unfold skp; rw [List.dropWhile_cons]; simp [hb]
      rw [e]; simp
theorem skp_head (l : List UInt8) : skp l = [] ∨ ∃ a t, skp l = a :: t ∧ blk a.toNat = false := by
  induction l with
  | nil => exact Or.inl rfl
  | cons a t ih =>
    cases hb : blk a.toNat with
    | true => have e : skp (a :: t) = skp t := by unfold skp; rw [List.dropWhile_cons]; simp [hb]
              rw [e]; exact ih
    | false => have e : skp (a :: t) = a :: t := by unfold skp; rw [List.dropWhile_cons]; simp [hb]
               exact Or.inr ⟨a, t, e, hb⟩

/-- No # in what stands ahead of the first #. -/
theorem code_clean (l : List UInt8) : ∀ a ∈ code l, a.toNat ≠ 35 := by
  intro a ha
  have := List.all_takeWhile (p := fun a : UInt8 => a.toNat != 35) (l := l)
  rw [List.all_eq_true] at this
  simpa using this a ha

/-- A text's lines. -/
def lns : List UInt8 → List (List UInt8)
  | [] => [[]]
  | a :: t => if a.toNat = 10 then [] :: lns t else match lns t with
    | [] => [[a]]
    | h :: r => (a :: h) :: r
theorem lns_ne (l : List UInt8) : lns l ≠ [] := by
  cases l with
  | nil => simp [lns]
  | cons a t => unfold lns; split; simp; split <;> simp
theorem lns_pre (p t : List UInt8) (hp : ∀ a ∈ p, a.toNat ≠ 10) : ∃ h r, lns t = h :: r ∧ lns (p ++ t) = (p ++ h) :: r := by
  induction p with
  | nil =>
    cases e : lns t with
    | nil => exact absurd e (lns_ne t)
    | cons h r => exact ⟨h, r, rfl, e⟩
  | cons a p ih =>
    obtain ⟨h, r, e1, e2⟩ := ih (fun x hx => hp x (List.mem_cons_of_mem _ hx))
    refine ⟨h, r, e1, ?_⟩
    show lns (a :: (p ++ t)) = _
    unfold lns
    rw [if_neg (hp a (by simp)), e2]
    rfl
theorem lns_cut (p t : List UInt8) (b : UInt8) (hp : ∀ a ∈ p, a.toNat ≠ 10) (hb : b.toNat = 10) : lns (p ++ b :: t) = p :: lns t := by
  obtain ⟨h, r, e1, e2⟩ := lns_pre p (b :: t) hp
  have : lns (b :: t) = [] :: lns t := by conv => lhs; unfold lns
                                          rw [if_pos hb]
  rw [this] at e1
  injection e1 with e3 e4
  rw [e2, ← e3, ← e4, List.append_nil]
theorem lns_last (p : List UInt8) (hp : ∀ a ∈ p, a.toNat ≠ 10) : lns p = [p] := by
  obtain ⟨h, r, e1, e2⟩ := lns_pre p [] hp
  have e : lns [] = [[]] := rfl
  rw [e] at e1
  injection e1 with e3 e4
  rw [List.append_nil] at e2
  rw [e2, ← e3, ← e4, List.append_nil]

/-- A word: its bytes, its line, its column. -/
abbrev Wd := List UInt8 × Nat × Nat
def wds (n : Nat) (l : List (List UInt8 × Nat)) : List Wd := l.map fun p => (p.1, n, p.2)
/-- The words of each line that has some, and the place of the first fault; the lines count from n on. -/
def rd : List (List UInt8) → Nat → List (List Wd) × Option (Nat × Nat)
  | [], _ => ([], none)
  | l :: ls, n =>
    match (tk l 1).2 with
    | some c => ([], some (n, c))
    | none => (if (tk l 1).1 = [] then (rd ls (n + 1)).1 else wds n (tk l 1).1 :: (rd ls (n + 1)).1, (rd ls (n + 1)).2)
theorem rd_fault {l : List UInt8} {ls : List (List UInt8)} {n c : Nat} (h : (tk l 1).2 = some c) : rd (l :: ls) n = ([], some (n, c)) := by
  unfold rd; rw [h]
theorem rd_none {l : List UInt8} {ls : List (List UInt8)} {n : Nat} (h : (tk l 1).2 = none) (h2 : (tk l 1).1 = []) : rd (l :: ls) n = rd ls (n + 1) := by
  conv => lhs; unfold rd
  rw [h]; simp [h2]
theorem rd_some {l : List UInt8} {ls : List (List UInt8)} {n : Nat} (h : (tk l 1).2 = none) (h2 : (tk l 1).1 ≠ []) : rd (l :: ls) n = (wds n (tk l 1).1 :: (rd ls (n + 1)).1, (rd ls (n + 1)).2) := by
  conv => lhs; unfold rd
  rw [h]; simp [h2]
/-- What a text is read as: its lines, a fault's line and column, an error's number. -/
def read (s : List UInt8) : List (List Wd) := match (rd (lns s) 1).2 with | none => (rd (lns s) 1).1 | some _ => []
def faultL (s : List UInt8) : Nat := match (rd (lns s) 1).2 with | none => 0 | some p => p.1
def faultC (s : List UInt8) : Nat := match (rd (lns s) 1).2 with | none => 0 | some p => p.2
def err (s : List UInt8) : Nat := match (rd (lns s) 1).2 with | none => 0 | some _ => 30

end Wo
end Go.Proofs.YtalmcdhohoplpaaDoor
