/-
  Package words: digit, letter, Sign, letters, first, isWord, mayTouch.
  Rules as texts: the words of a line read as a rule, a text's rules, or the first fault. Plain mathematics: no program is named here.
  Names and numbers, over lists of bytes. No program is named here.
  Words one behind the other: where a blank must stand between two, and that what is said is read as it was said. No program is named here.
  Texts as lines and words, over lists of bytes: letters, signs, the word with which a text begins, the words of a line, the lines of a text. No program is named here.
-/
import Derived.Test.YtipmlcdnfaobiaaGreatMathAnd
import Derived.Lib.SlicesCompact
import Derived.Test.YtipmlcdnfaobiaaGreatRows
import Derived.WalkKit
import Derived.WalkSpells
import Derived.WalkLawsBesides
import Derived.RegionTactic
import Derived.ChangeAlike
import Derived.Lib.Strings
import Derived.Deep.QuietTactic
import Derived.BigQuiet
namespace Go.Proofs.YtipmlcdnfaobiaaGreat
namespace Wo

def dg (x : Nat) : Bool := decide (48 ≤ x ∧ x ≤ 57)
def ltr (x : Nat) : Bool := decide ((97 ≤ x ∧ x ≤ 122) ∨ (65 ≤ x ∧ x ≤ 90) ∨ (48 ≤ x ∧ x ≤ 57) ∨ x = 95 ∨ x = 45)
def sgl (x : Nat) : Bool := [40, 41, 44, 124, 42, 43, 63, 46, 36, 61, 60, 62].contains x
def dbl (x y : Nat) : Bool := (x == 61 && y == 61) || (x == 60 && y == 61) || (x == 62 && y == 61) || (x == 45 && y == 62)
def blk (x : Nat) : Bool := x == 32 || x == 9

/-- Does a text begin with the sign ->? -/
def arr : List UInt8 → Bool
  | a :: b :: _ => a.toNat == 45 && b.toNat == 62
  | _ => false

/-- How many letters a text begins with, up to the sign ->. -/
def lets : List UInt8 → Nat
  | [] => 0
  | a :: t => if ltr a.toNat && !arr (a :: t) then lets t + 1 else 0

/-- How many bytes the word has with which a text begins. -/
def fst : List UInt8 → Nat
  | [] => 0
  | [a] => if sgl a.toNat then 1 else lets [a]
  | a :: b :: t => if dbl a.toNat b.toNat then 2 else if sgl a.toNat then 1 else lets (a :: b :: t)

theorem fst_one (a : UInt8) : fst [a] = if sgl a.toNat then 1 else lets [a] := rfl
theorem fst_two (a b : UInt8) (t : List UInt8) : fst (a :: b :: t) = if dbl a.toNat b.toNat then 2 else if sgl a.toNat then 1 else lets (a :: b :: t) := rfl
theorem lets_cons (a : UInt8) (t : List UInt8) : lets (a :: t) = if ltr a.toNat && !arr (a :: t) then lets t + 1 else 0 := rfl
theorem lets_le (l : List UInt8) : lets l ≤ l.length := by
  induction l with
  | nil => exact Nat.le_refl _
  | cons a t ih => rw [lets_cons]; split <;> simp <;> omega
theorem fst_le (l : List UInt8) : fst l ≤ l.length := by
  match l with
  | [] => exact Nat.le_refl _
  | [a] => rw [fst_one]; split; exact Nat.le_refl _; exact lets_le _
  | a :: b :: t =>
    rw [fst_two]
    split
    · simp
    · split
      · simp
      · exact lets_le _

/-- The words of a line, each with its column, and the column of the first byte with which none begins. -/
def toks : Nat → List UInt8 → Nat → List (List UInt8 × Nat) × Option Nat
  | 0, _, _ => ([], none)
  | _ + 1, [], _ => ([], none)
  | n + 1, a :: t, c =>
    if a.toNat = 35 then ([], none)
    else if blk a.toNat then toks n t (c + 1)
    else if fst (a :: t) = 0 then ([], some c)
    else (((a :: t).take (fst (a :: t)), c) :: (toks n ((a :: t).drop (fst (a :: t))) (c + fst (a :: t))).1, (toks n ((a :: t).drop (fst (a :: t))) (c + fst (a :: t))).2)

theorem toks_fuel (n m : Nat) (l : List UInt8) (c : Nat) (hn : l.length ≤ n) (hm : l.length ≤ m) : toks n l c = toks m l c := by
  induction n generalizing m l c with
  | zero =>
    have : l = [] := List.length_eq_zero_iff.1 (by omega)
    subst this
    cases m <;> rfl
  | succ n ih =>
    cases l with
    | nil => cases m <;> rfl
    | cons a t =>
      cases m with
      | zero => simp at hm
      | succ m =>
        simp only [List.length_cons] at hn hm
        unfold toks
        split
        · rfl
        · split
          · exact ih m t _ (by omega) (by omega)
          · split
            · rfl
            · rw [ih m _ _ (by simp only [List.length_drop, List.length_cons]; omega) (by simp only [List.length_drop, List.length_cons]; omega)]

def tk (l : List UInt8) (c : Nat) : List (List UInt8 × Nat) × Option Nat := toks l.length l c

theorem tk_nil (c : Nat) : tk [] c = ([], none) := rfl
theorem tk_hash (a : UInt8) (t : List UInt8) (c : Nat) (h : a.toNat = 35) : tk (a :: t) c = ([], none) := by
  show toks (t.length + 1) (a :: t) c = _
  unfold toks; rw [if_pos h]
theorem tk_blank (a : UInt8) (t : List UInt8) (c : Nat) (h : a.toNat ≠ 35) (h2 : blk a.toNat = true) : tk (a :: t) c = tk t (c + 1) := by
  show toks (t.length + 1) (a :: t) c = _
  conv => lhs; unfold toks
  rw [if_neg h, if_pos h2]; rfl
theorem tk_fault (a : UInt8) (t : List UInt8) (c : Nat) (h : a.toNat ≠ 35) (h2 : blk a.toNat = false) (h3 : fst (a :: t) = 0) : tk (a :: t) c = ([], some c) := by
  show toks (t.length + 1) (a :: t) c = _
  unfold toks
  rw [if_neg h, if_neg (by rw [h2]; simp), if_pos h3]
theorem tk_word (a : UInt8) (t : List UInt8) (c : Nat) (h : a.toNat ≠ 35) (h2 : blk a.toNat = false) (h3 : fst (a :: t) ≠ 0) :
    tk (a :: t) c = (((a :: t).take (fst (a :: t)), c) :: (tk ((a :: t).drop (fst (a :: t))) (c + fst (a :: t))).1, (tk ((a :: t).drop (fst (a :: t))) (c + fst (a :: t))).2) := by
  show toks (t.length + 1) (a :: t) c = _
  conv => lhs; unfold toks
  rw [if_neg h, if_neg (by rw [h2]; simp), if_neg h3]
  have e : toks t.length ((a :: t).drop (fst (a :: t))) (c + fst (a :: t)) = tk ((a :: t).drop (fst (a :: t))) (c + fst (a :: t)) :=
    toks_fuel _ _ _ _ (by simp only [List.length_drop, List.length_cons]; omega) (Nat.le_refl _)
  rw [e]

/-- What stands ahead of the first #. -/
def code (l : List UInt8) : List UInt8 := l.takeWhile (fun a => a.toNat != 35)

theorem ltr_35 {x : Nat} (h : x = 35) : ltr x = false := by subst h; decide
theorem sgl_35 {x : Nat} (h : x = 35) : sgl x = false := by subst h; decide
theorem dbl_35 {x y : Nat} (h : y = 35) : dbl x y = false := by subst h; simp [dbl]
theorem code_hash {a : UInt8} (t : List UInt8) (h : a.toNat = 35) : code (a :: t) = [] := by unfold code; rw [List.takeWhile_cons]; simp [h]
theorem code_cons {a : UInt8} (t : List UInt8) (h : a.toNat ≠ 35) : code (a :: t) = a :: code t := by unfold code; rw [List.takeWhile_cons]; simp [h]

theorem arr_code (l : List UInt8) : arr (code l) = arr l := by
  match l with
  | [] => rfl
  | [a] => by_cases h : a.toNat = 35 <;> simp [code, h, arr]
  | a :: b :: t =>
    by_cases h : a.toNat = 35
    · rw [code_hash _ h]; simp [arr, h]
    · rw [code_cons _ h]
      by_cases h2 : b.toNat = 35
      · rw [code_hash _ h2]; simp [arr, h2]
      · rw [code_cons _ h2]; rfl
theorem lets_code (l : List UInt8) : lets (code l) = lets l := by
  induction l with
  | nil => rfl
  | cons a t ih =>
    by_cases h : a.toNat = 35
    · rw [code_hash _ h, lets_cons, ltr_35 h]; rfl
    · have ha := arr_code (a :: t)
      rw [code_cons _ h] at ha ⊢
      rw [lets_cons, lets_cons, ha, ih]
theorem fst_code (l : List UInt8) : fst (code l) = fst l := by
  match l with
  | [] => rfl
  | [a] =>
    by_cases h : a.toNat = 35
    · rw [code_hash _ h, fst_one, lets_cons, ltr_35 h, sgl_35 h]; rfl
    · rw [code_cons _ h]; rfl
  | a :: b :: t =>
    have hl := lets_code (a :: b :: t)
    by_cases h : a.toNat = 35
    · rw [code_hash _ h, fst_two, lets_cons, ltr_35 h, sgl_35 h]; simp [dbl, h, fst]
    · rw [code_cons _ h] at hl ⊢
      by_cases h2 : b.toNat = 35
      · rw [code_hash _ h2] at hl ⊢
        rw [fst_two, dbl_35 h2, ← hl]; rfl
      · rw [code_cons _ h2] at hl ⊢
        rw [fst_two, fst_two, hl]

theorem code_drop (l : List UInt8) (k : Nat) (h : k ≤ (code l).length) : (code l).drop k = code (l.drop k) := by
  induction l generalizing k with
  | nil => simp [code] at h; subst h; rfl
  | cons a t ih =>
    by_cases ha : a.toNat = 35
    · rw [code_hash _ ha] at h ⊢; simp at h; subst h; simp [code_hash _ ha]
    · rw [code_cons _ ha] at h ⊢
      cases k with
      | zero => simp [code_cons _ ha]
      | succ k => simp only [List.drop_succ_cons]; exact ih k (by simpa using h)
theorem code_take (l : List UInt8) (k : Nat) (h : k ≤ (code l).length) : (code l).take k = l.take k := by
  induction l generalizing k with
  | nil => simp [code]
  | cons a t ih =>
    by_cases ha : a.toNat = 35
    · rw [code_hash _ ha] at h; simp at h; subst h; simp
    · rw [code_cons _ ha] at h ⊢
      cases k with
      | zero => simp
      | succ k => simp only [List.take_succ_cons]; rw [ih k (by simpa using h)]

/-- The words of a line are those of what stands ahead of the first #. -/
theorem tk_code (l : List UInt8) (c : Nat) : tk (code l) c = tk l c := by
  generalize hn : l.length = n
  induction n using Nat.strongRecOn generalizing l c with
  | ind n ih =>
    cases l with
    | nil => rfl
    | cons a t =>
      simp only [List.length_cons] at hn
      by_cases h : a.toNat = 35
      · rw [code_hash _ h, tk_hash _ _ _ h]; rfl
      · have hf := fst_code (a :: t)
        have hle := fst_le (code (a :: t))
        have hd := code_drop (a :: t) (fst (a :: t)) (by omega)
        have ht := code_take (a :: t) (fst (a :: t)) (by omega)
        rw [code_cons _ h] at hf hd ht ⊢
        cases hb : blk a.toNat with
        | true => rw [tk_blank _ _ _ h hb, tk_blank _ _ _ h hb]; exact ih t.length (by omega) t _ rfl
        | false =>
          by_cases h0 : fst (a :: t) = 0
          · rw [tk_fault _ _ _ h hb h0, tk_fault _ _ _ h hb (by omega)]
          · rw [tk_word _ _ _ h hb h0, tk_word _ _ _ h hb (by omega), hf, hd, ht, ih ((a :: t).drop (fst (a :: t))).length (by simp only [List.length_drop, List.length_cons]; omega) _ _ rfl]

/-- What comes behind blanks. -/
def skp (l : List UInt8) : List UInt8 := l.dropWhile (fun a => blk a.toNat)
theorem skp_le (l : List UInt8) : (skp l).length ≤ l.length := (List.dropWhile_suffix _).length_le
theorem blk_35 {x : Nat} (h : blk x = true) : x ≠ 35 := by rintro rfl; revert h; decide
theorem tk_skp (l : List UInt8) (c : Nat) : tk l c = tk (skp l) (c + (l.length - (skp l).length)) := by
  induction l generalizing c with
  | nil => rfl
  | cons a t ih =>
    cases hb : blk a.toNat with
    | true =>
      rw [tk_blank _ _ _ (blk_35 hb) hb, ih]
      have e : skp (a :: t) = skp t := by unfold skp; rw [List.dropWhile_cons]; simp [hb]
      rw [e]
      have := skp_le t
      congr 1
      simp only [List.length_cons]; omega
    | false =>
      have e : skp (a :: t) = a :: t := by unfold skp; rw [List.dropWhile_cons]; simp [hb]
      rw [e]; simp
theorem skp_head (l : List UInt8) : skp l = [] ∨ ∃ a t, skp l = a :: t ∧ blk a.toNat = false := by
  induction l with
  | nil => exact Or.inl rfl
  | cons a t ih =>
    cases hb : blk a.toNat with
    | true => have e : skp (a :: t) = skp t := by unfold skp; rw [List.dropWhile_cons]; simp [hb]
              rw [e]; exact ih
    | false => have e : skp (a :: t) = a :: t := by unfold skp; rw [List.dropWhile_cons]; simp [hb]
               exact Or.inr ⟨a, t, e, hb⟩

/-- No # in what stands ahead of the first #. -/
theorem code_clean (l : List UInt8) : ∀ a ∈ code l, a.toNat ≠ 35 := by
  intro a ha
  have := List.all_takeWhile (p := fun a : UInt8 => a.toNat != 35) (l := l)
  rw [List.all_eq_true] at this
  simpa using this a ha

/-- A text's lines. -/
def lns : List UInt8 → List (List UInt8)
  | [] => [[]]
  | a :: t => if a.toNat = 10 then [] :: lns t else match lns t with
    | [] => [[a]]
    | h :: r => (a :: h) :: r
theorem lns_ne (l : List UInt8) : lns l ≠ [] := by
  cases l with
  | nil => simp [lns]
  | cons a t => unfold lns; split; simp; split <;> simp
theorem lns_pre (p t : List UInt8) (hp : ∀ a ∈ p, a.toNat ≠ 10) : ∃ h r, lns t = h :: r ∧ lns (p ++ t) = (p ++ h) :: r := by
  induction p with
  | nil =>
    cases e : lns t with
    | nil => exact absurd e (lns_ne t)
    | cons h r => exact ⟨h, r, rfl, e⟩
  | cons a p ih =>
    obtain ⟨h, r, e1, e2⟩ := ih (fun x hx => hp x (List.mem_cons_of_mem _ hx))
    refine ⟨h, r, e1, ?_⟩
    show lns (a :: (p ++ t)) = _
    unfold lns
    rw [if_neg (hp a (by simp)), e2]
    rfl
theorem lns_cut (p t : List UInt8) (b : UInt8) (hp : ∀ a ∈ p, a.toNat ≠ 10) (hb : b.toNat = 10) : lns (p ++ b :: t) = p :: lns t := by
  obtain ⟨h, r, e1, e2⟩ := lns_pre p (b :: t) hp
  have : lns (b :: t) = [] :: lns t := by conv => lhs; unfold lns
                                          rw [if_pos hb]
  rw [this] at e1
  injection e1 with e3 e4
  rw [e2, ← e3, ← e4, List.append_nil]
theorem lns_last (p : List UInt8) (hp : ∀ a ∈ p, a.toNat ≠ 10) : lns p = [p] := by
  obtain ⟨h, r, e1, e2⟩ := lns_pre p [] hp
  have e : lns [] = [[]] := rfl
  rw [e] at e1
  injection e1 with e3 e4
  rw [List.append_nil] at e2
  rw [e2, ← e3, ← e4, List.append_nil]

/-- A word: its bytes, its line, its column. -/
abbrev Wd := List UInt8 × Nat × Nat
def wds (n : Nat) (l : List (List UInt8 × Nat)) : List Wd := l.map fun p => (p.1, n, p.2)
/-- The words of each line that has some, and the place of the first fault; the lines count from n on. -/
def rd : List (List UInt8) → Nat → List (List Wd) × Option (Nat × Nat)
  | [], _ => ([], none)
  | l :: ls, n =>
    match (tk l 1).2 with
    | some c => ([], some (n, c))
    | none => (if (tk l 1).1 = [] then (rd ls (n + 1)).1 else wds n (tk l 1).1 :: (rd ls (n + 1)).1, (rd ls (n + 1)).2)
theorem rd_fault {l : List UInt8} {ls : List (List UInt8)} {n c : Nat} (h : (tk l 1).2 = some c) : rd (l :: ls) n = ([], some (n, c)) := by
  unfold rd; rw [h]
theorem rd_none {l : List UInt8} {ls : List (List UInt8)} {n : Nat} (h : (tk l 1).2 = none) (h2 : (tk l 1).1 = []) : rd (l :: ls) n = rd ls (n + 1) := by
  conv => lhs; unfold rd
  rw [h]; simp [h2]
theorem rd_some {l : List UInt8} {ls : List (List UInt8)} {n : Nat} (h : (tk l 1).2 = none) (h2 : (tk l 1).1 ≠ []) : rd (l :: ls) n = (wds n (tk l 1).1 :: (rd ls (n + 1)).1, (rd ls (n + 1)).2) := by
  conv => lhs; unfold rd
  rw [h]; simp [h2]
/-- What a text is read as: its lines, a fault's line and column, an error's number. -/
def read (s : List UInt8) : List (List Wd) := match (rd (lns s) 1).2 with | none => (rd (lns s) 1).1 | some _ => []
def faultL (s : List UInt8) : Nat := match (rd (lns s) 1).2 with | none => 0 | some p => p.1
def faultC (s : List UInt8) : Nat := match (rd (lns s) 1).2 with | none => 0 | some p => p.2
def err (s : List UInt8) : Nat := match (rd (lns s) 1).2 with | none => 0 | some _ => 30

end Wo
end Go.Proofs.YtipmlcdnfaobiaaGreat
namespace Go.Proofs.YtipmlcdnfaobiaaGreat
namespace Wo

/-- Is it a word? -/
def isW (l : List UInt8) : Bool := decide (l ≠ [] ∧ fst l = l.length)
/-- Must a blank stand between two words? -/
def glue (a b : List UInt8) : Bool := decide (fst (a ++ b) ≠ a.length)
/-- What follows a word: the others, each apart where it must be. -/
def joinT : List UInt8 → List (List UInt8) → List UInt8
  | _, [] => []
  | a, b :: r => (if glue a b then 32 :: b else b) ++ joinT b r
def sayL : List (List UInt8) → List UInt8
  | [] => []
  | a :: r => a ++ joinT a r

/-- The first k words, said. -/
def sayTo (ls : List (List UInt8)) : Nat → List UInt8
  | 0 => []
  | k + 1 => sayTo ls k ++ (if 0 < k ∧ glue (ls.getD (k - 1) []) (ls.getD k []) = true then [32] else []) ++ ls.getD k []
theorem joinT_snoc (a : List UInt8) (ls : List (List UInt8)) (b : List UInt8) : joinT a (ls ++ [b]) = joinT a ls ++ (if glue ((a :: ls).getLast (by simp)) b then 32 :: b else b) := by
  induction ls generalizing a with
  | nil =>
    show (if glue a b then 32 :: b else b) ++ [] = [] ++ (if glue a b then 32 :: b else b)
    simp only [List.append_nil, List.nil_append]
  | cons c r ih =>
    show (if glue a c then 32 :: c else c) ++ joinT c (r ++ [b]) = ((if glue a c then 32 :: c else c) ++ joinT c r) ++ _
    rw [ih c, List.append_assoc, List.getLast_cons (show c :: r ≠ [] by simp)]
theorem sayTo_take (ls : List (List UInt8)) (k : Nat) (h : k ≤ ls.length) : sayTo ls k = sayL (ls.take k) := by
  induction k with
  | zero => simp [sayTo, sayL]
  | succ k ih =>
    have hk : k < ls.length := h
    have eg : ls.getD k [] = ls[k] := by rw [List.getD_eq_getElem?_getD, List.getElem?_eq_getElem hk]; rfl
    show sayTo ls k ++ _ ++ ls.getD k [] = _
    rw [ih (by omega), List.take_succ_eq_append_getElem hk, eg]
    cases k with
    | zero => simp [sayL, joinT]
    | succ k =>
      have eg2 : ls.getD k [] = ls[k]'(by omega) := by rw [List.getD_eq_getElem?_getD, List.getElem?_eq_getElem (by omega)]; rfl
      cases hls : ls.take (k + 1) with
      | nil =>
        have := congrArg List.length hls
        rw [List.length_take] at this
        simp only [List.length_nil] at this
        omega
      | cons a r =>
        show (a ++ joinT a r) ++ _ ++ _ = a ++ joinT a (r ++ [ls[k + 1]])
        rw [joinT_snoc]
        have hlast : (a :: r).getLast (by simp) = ls[k]'(by omega) := by
          have h1 : (ls.take (k + 1)).getLast? = some (ls[k]'(by omega)) := by
            rw [List.take_succ_eq_append_getElem (by omega), List.getLast?_concat]
          rw [hls, List.getLast?_eq_some_getLast (by simp)] at h1
          exact Option.some.inj h1
        rw [hlast]
        simp only [Nat.add_sub_cancel, eg2, Nat.zero_lt_succ, true_and]
        split <;> simp
theorem sayTo_all (ls : List (List UInt8)) : sayTo ls ls.length = sayL ls := by rw [sayTo_take _ _ (Nat.le_refl _), List.take_length]
end Wo
end Go.Proofs.YtipmlcdnfaobiaaGreat
namespace Go.Proofs.YtipmlcdnfaobiaaGreat
namespace Wo

/-- Is it a name? -/
def nameB (l : List UInt8) : Bool := decide (l ≠ [] ∧ l.length ≤ 64 ∧ dg (l.headD 0).toNat = false ∧ (l.headD 0).toNat ≠ 45 ∧ (l.all fun c => ltr c.toNat) = true)
theorem lets_all (l : List UInt8) : lets l = l.length ↔ (l.all fun c => ltr c.toNat) = true := by
  induction l with
  | nil => simp [lets]
  | cons a t ih =>
    have eq2 : ((a :: t).all fun c => ltr c.toNat) = true ↔ ltr a.toNat = true ∧ (t.all fun c => ltr c.toNat) = true := by rw [List.all_cons, Bool.and_eq_true]
    rw [eq2, lets_cons]
    constructor
    · intro h
      split at h
      · rename_i hx
        simp only [Bool.and_eq_true] at hx
        exact ⟨hx.1, ih.1 (by simp only [List.length_cons] at h; omega)⟩
      · simp at h
    · rintro ⟨h1, h2⟩
      have ha : arr (a :: t) = false := by
        cases t with
        | nil => rfl
        | cons b t =>
          rw [List.all_cons, Bool.and_eq_true] at h2
          show (a.toNat == 45 && b.toNat == 62) = false
          have : (b.toNat == 62) = false := by
            rw [beq_eq_false_iff_ne]
            intro e
            have := h2.1
            rw [e] at this
            exact absurd this (by decide)
          rw [this]; simp
      rw [if_pos (by rw [h1, ha]; rfl), ih.2 h2]; rfl
end Wo
end Go.Proofs.YtipmlcdnfaobiaaGreat
namespace Go.Proofs.YtipmlcdnfaobiaaGreat
namespace Ru
open Wo (Wd)

/-- A fault: its line, its column, the error. -/
abbrev Ft := Nat × Nat × Nat
def ft (w : Wd) (e : Nat) : Ft := (w.2.1, w.2.2, e)
/-- The word that comes: the line's end, where there is none. -/
def nx (e : Wd) : List Wd → Wd
  | [] => e
  | w :: _ => w
@[simp] theorem nx_nil (e : Wd) : nx e [] = e := rfl
@[simp] theorem nx_cons (e w : Wd) (l : List Wd) : nx e (w :: l) = w := rfl
/-- A text put among others, in order. -/
def ins : List (List UInt8) → List UInt8 → List (List UInt8)
  | [], s => [s]
  | a :: t, s => if s < a then s :: a :: t else a :: ins t s
def put (l : List (List UInt8)) (s : List UInt8) : List (List UInt8) := if s ∈ l then l else ins l s
/-- Texts in order, each once. -/
def nrm (l : List (List UInt8)) : List (List UInt8) := l.foldl put []

abbrev Rise (l : List (List UInt8)) : Prop := l.Pairwise (· < ·)

theorem lt_ne {a b : List UInt8} (h : a ≤ b) (hne : a ≠ b) : a < b := Decidable.byContradiction fun q => hne (List.le_antisymm h (List.not_lt.1 q))
theorem lt_or {a b : List UInt8} (h : ¬ a < b) : b < a ∨ a = b := by
  rcases List.le_total a b with h1 | h1
  · by_cases e : a = b
    · exact Or.inr e
    · exact absurd (lt_ne h1 e) h
  · by_cases e : a = b
    · exact Or.inr e
    · exact Or.inl (lt_ne h1 (fun q => e q.symm))

/-- The ports behind a ( : the ) , the names, what is left; or a fault. -/
def pts (e : Wd) : List Wd → List (List UInt8) → Except Ft (Wd × List (List UInt8) × List Wd)
  | [], _ => .error (ft e 31)
  | [w], _ => if Wo.nameB w.1 = false then .error (ft w 31) else .error (ft e 51)
  | w :: v :: t, acc => if Wo.nameB w.1 = false then .error (ft w 31) else if v.1 = [44] then pts e t (acc ++ [w.1]) else if v.1 = [41] then .ok (v, acc ++ [w.1], t) else .error (ft v 51)
/-- The number of an action's first word. -/
def kindN (s : List UInt8) : Nat :=
  if s = [100, 114, 111, 112] then 1 else if s = [100, 101, 108, 105, 118, 101, 114] then 2 else if s = [97, 108, 108] then 3 else if s = [97, 110, 121] then 4 else 0
structure Rl where
  prio : Nat
  mat : List UInt8
  kind : Nat
  ports : List (List UInt8)

/-- The ports with their brackets: what is between them in order, each once, and what is left. -/
def prt (e : Wd) (l : List Wd) : Except Ft (List (List UInt8) × List Wd) :=
  if (nx e l).1 ≠ [40] then .error (ft (nx e l) 51)
  else match pts e l.tail [] with
    | .error f => .error f
    | .ok (v, acc, t) => if 64 < (nrm acc).length then .error (ft v 3) else .ok (nrm acc, t)
def act (e : Wd) (l : List Wd) : Except Ft (Nat × List (List UInt8) × List Wd) :=
  if kindN (nx e l).1 = 0 then .error (ft (nx e l) 51)
  else if kindN (nx e l).1 ≤ 2 then .ok (kindN (nx e l).1, [], l.tail)
  else match prt e l.tail with
    | .error f => .error f
    | .ok (ps, t) => .ok (kindN (nx e l).1, ps, t)
def same (x y : Rl) : Bool := decide (x.prio = y.prio ∧ x.mat = y.mat)
end Ru
end Go.Proofs.YtipmlcdnfaobiaaGreat
namespace Go.Proofs.YtipmlcdnfaobiaaGreat
open Go.RowKit

theorem hid {p : Prop} (h : p) : Hid p := h
theorem bool_two (b : Bool) : b = false ∨ b = true := by cases b <;> simp

/-- A byte as the program has it. -/
abbrev bv (c : UInt8) : Value := .int .u8 (c.toNat : Int)

set_option maxHeartbeats 400000 in
theorem digit_any (c : UInt8) (w : World) : Calls Tryz.prog 146 #[bv c] w fun e w' => e = .returned (.bool (Wo.dg c.toNat)) ∧ w' = w := by
  by_cases h : 48 ≤ (c.toNat : Int)
  · by_cases h2 : (c.toNat : Int) ≤ 57
    · have e : Wo.dg c.toNat = true := decide_eq_true (by omega)
      rw [e]
      go_enter Tryz.func146, Tryz.ntmps146
      go_wp2
      go_ret
      exact ⟨rfl, rfl⟩
    · have e : Wo.dg c.toNat = false := decide_eq_false (by omega)
      rw [e]
      have hd : decide ((c.toNat : Int) ≤ 57) = false := decide_eq_false h2
      go_enter Tryz.func146, Tryz.ntmps146
      go_wp2
      go_ret
      exact ⟨rfl, rfl⟩
  · have e : Wo.dg c.toNat = false := decide_eq_false (by omega)
    rw [e]
    have hd : decide (48 ≤ (c.toNat : Int)) = false := decide_eq_false h
    go_enter Tryz.func146, Tryz.ntmps146
    go_wp2
    go_ret
    exact ⟨rfl, rfl⟩

theorem ret_bool {a b : Bool} (h : a = b) : Ending.returned (.bool a) = .returned (.bool b) := by rw [h]

set_option maxHeartbeats 1000000 in
theorem letter_any (c : UInt8) (w : World) : Calls Tryz.prog 148 #[bv c] w fun e w' => e = .returned (.bool (Wo.ltr c.toNat)) ∧ w' = w := by
  go_enter Tryz.func148, Tryz.ntmps148
  go_wp2_with (go_at_call 146; refine (digit_any c _).mono ?_; rintro e w' ⟨rfl, rfl⟩)
  all_goals
    go_ret
    refine ⟨ret_bool ?_, rfl⟩
    try rename_i hd0
    try simp only [Wo.dg, decide_eq_true_eq] at *
    rw [Bool.eq_iff_iff]
    simp only [Wo.ltr, Bool.or_eq_true, decide_eq_true_eq, beq_iff_eq, true_iff]
    omega

set_option maxHeartbeats 400000 in
theorem HasPrefix_arr (s : ByteArray) (w : World) : Calls Tryz.prog 99 #[.string s, .string ⟨#[45, 62]⟩] w fun e w' => e = .returned (.bool (Wo.arr s.data.toList)) ∧ w' = w := by
  have key : Wo.arr s.data.toList = (decide (2 ≤ s.size) && ((s.extract 0 2).toList == [45, 62])) := by
    rw [Lib.extract_toList, Lib.size_eq]
    match s.data.toList with
    | [] => rfl
    | [a] => rfl
    | a :: b :: t =>
      simp only [Wo.arr, List.drop_zero, Nat.sub_zero, List.length_cons, List.take_succ_cons, List.take_zero]
      rw [Bool.eq_iff_iff]
      simp
      constructor
      · rintro ⟨h1, h2⟩; exact ⟨UInt8.toNat.inj h1, UInt8.toNat.inj h2⟩
      · rintro ⟨rfl, rfl⟩; exact ⟨rfl, rfl⟩
  rw [key]
  clear key
  by_cases h : 2 ≤ (s.size : Int)
  · have hn : decide (2 ≤ s.size) = true := decide_eq_true (by omega)
    rw [hn]
    clear hn
    go_enter Tryz.func99, Tryz.ntmps99
    go_wp2
    go_ret
    exact ⟨rfl, rfl⟩
  · have hn : decide (2 ≤ s.size) = false := decide_eq_false (by omega)
    rw [hn]
    clear hn
    have hd : decide (2 ≤ (s.size : Int)) = false := decide_eq_false h
    go_enter Tryz.func99, Tryz.ntmps99
    go_wp2
    go_ret
    exact ⟨rfl, rfl⟩
end Go.Proofs.YtipmlcdnfaobiaaGreat
