/-
  Cells and blocks of memory: small laws that name no program.
  strings.Cut at a separator of one byte, strings.TrimLeft of blanks, strings.Clone.
  Package words: isWord, mayTouch, Name, Number.
  Package words: letters, Sign, first, isWord, mayTouch.
  Package words: digit, letter, Sign, letters, first, isWord, mayTouch.
  Words one behind the other: where a blank must stand between two, and that what is said is read as it was said. No program is named here.
  Texts as lines and words, over lists of bytes: letters, signs, the word with which a text begins, the words of a line, the lines of a text. No program is named here.
-/
import Derived.Test.YtagppgncanimaaaGreatDoorRows
import Derived.WalkKit
import Derived.WalkSpells
import Derived.WalkLawsBesides
import Derived.RegionTactic
import Derived.ChangeAlike
import Derived.Lib.Strings
import Derived.Deep.QuietTactic
import Derived.BigQuiet
import Derived.Lib.Bytealg
import Derived.Lib.IndexAny
import Derived.Lib.UnsafeStr
import Derived.Laws.IdiomCopy
import Derived.Defers
import Derived.Recover
import Derived.Deep.RegionHeld3
import Derived.Deep.RegionWith
import Derived.Deep.DrawnRows
import Derived.Deep.AppendLies
import Derived.Deep.OwnRows
import Derived.Lib.LazyBuf
namespace Go.Proofs.YtagppgncanimaaaGreatDoor
namespace Wo

def dg (x : Nat) : Bool := decide (48 ≤ x ∧ x ≤ 57)
def ltr (x : Nat) : Bool := decide ((97 ≤ x ∧ x ≤ 122) ∨ (65 ≤ x ∧ x ≤ 90) ∨ (48 ≤ x ∧ x ≤ 57) ∨ x = 95 ∨ x = 45)
def sgl (x : Nat) : Bool := [40, 41, 44, 124, 42, 43, 63, 46, 36, 61, 60, 62].contains x
def dbl (x y : Nat) : Bool := (x == 61 && y == 61) || (x == 60 && y == 61) || (x == 62 && y == 61) || (x == 45 && y == 62)
def blk (x : Nat) : Bool := x == 32 || x == 9

/-- Does a text begin with the sign ->? -/
def arr : List UInt8 → Bool
  | a :: b :: _ => a.toNat == 45 && b.toNat == 62
  | _ => false

/-- How many letters a text begins with, up to the sign ->. -/
def lets : List UInt8 → Nat
  | [] => 0
  | a :: t => if ltr a.toNat && !arr (a :: t) then lets t + 1 else 0

/-- How many bytes the word has with which a text begins. -/
def fst : List UInt8 → Nat
  | [] => 0
  | [a] => if sgl a.toNat then 1 else lets [a]
  | a :: b :: t => if dbl a.toNat b.toNat then 2 else if sgl a.toNat then 1 else lets (a :: b :: t)

theorem fst_one (a : UInt8) : fst [a] = if sgl a.toNat then 1 else lets [a] := rfl
theorem fst_two (a b : UInt8) (t : List UInt8) : fst (a :: b :: t) = if dbl a.toNat b.toNat then 2 else if sgl a.toNat then 1 else lets (a :: b :: t) := rfl
theorem lets_cons (a : UInt8) (t : List UInt8) : lets (a :: t) = if ltr a.toNat && !arr (a :: t) then lets t + 1 else 0 := rfl
theorem lets_le (l : List UInt8) : lets l ≤ l.length := by
  induction l with
  | nil => exact Nat.le_refl _
  | cons a t ih => rw [lets_cons]; split <;> simp <;> omega
theorem fst_le (l : List UInt8) : fst l ≤ l.length := by
  match l with
  | [] => exact Nat.le_refl _
  | [a] => rw [fst_one]; split; exact Nat.le_refl _; exact lets_le _
  | a :: b :: t =>
    rw [fst_two]
    split
    · simp
    · split
      · simp
      · exact lets_le _

/-- The words of a line, each with its column, and the column of the first byte with which none begins. -/
def toks : Nat → List UInt8 → Nat → List (List UInt8 × Nat) × Option Nat
  | 0, _, _ => ([], none)
  | _ + 1, [], _ => ([], none)
  | n + 1, a :: t, c =>
    if a.toNat = 35 then ([], none)
    else if blk a.toNat then toks n t (c + 1)
    else if fst (a :: t) = 0 then ([], some c)
    else (((a :: t).take (fst (a :: t)), c) :: (toks n ((a :: t).drop (fst (a :: t))) (c + fst (a :: t))).1, (toks n ((a :: t).drop (fst (a :: t))) (c + fst (a :: t))).2)

theorem toks_fuel (n m : Nat) (l : List UInt8) (c : Nat) (hn : l.length ≤ n) (hm : l.length ≤ m) : toks n l c = toks m l c := by
  induction n generalizing m l c with
  | zero =>
    have : l = [] := List.length_eq_zero_iff.1 (by omega)
    subst this
    cases m <;> rfl
  | succ n ih =>
    cases l with
    | nil => cases m <;> rfl
    | cons a t =>
      cases m with
      | zero => simp at hm
      | succ m =>
        simp only [List.length_cons] at hn hm
        unfold toks
        split
        · rfl
        · split
          · exact ih m t _ (by omega) (by omega)
          · split
            · rfl
            · rw [ih m _ _ (by simp only [List.length_drop, List.length_cons]; omega) (by simp only [List.length_drop, List.length_cons]; omega)]

def tk (l : List UInt8) (c : Nat) : List (List UInt8 × Nat) × Option Nat := toks l.length l c

theorem tk_nil (c : Nat) : tk [] c = ([], none) := rfl
theorem tk_hash (a : UInt8) (t : List UInt8) (c : Nat) (h : a.toNat = 35) : tk (a :: t) c = ([], none) := by
  show toks (t.length + 1) (a :: t) c = _
  unfold toks; rw [if_pos h]
theorem tk_blank (a : UInt8) (t : List UInt8) (c : Nat) (h : a.toNat ≠ 35) (h2 : blk a.toNat = true) : tk (a :: t) c = tk t (c + 1) := by
  show toks (t.length + 1) (a :: t) c = _
  conv => lhs; unfold toks
  rw [if_neg h, if_pos h2]; rfl
theorem tk_fault (a : UInt8) (t : List UInt8) (c : Nat) (h : a.toNat ≠ 35) (h2 : blk a.toNat = false) (h3 : fst (a :: t) = 0) : tk (a :: t) c = ([], some c) := by
  show toks (t.length + 1) (a :: t) c = _
  unfold toks
  rw [if_neg h, if_neg (by rw [h2]; simp), if_pos h3]
theorem tk_word (a : UInt8) (t : List UInt8) (c : Nat) (h : a.toNat ≠ 35) (h2 : blk a.toNat = false) (h3 : fst (a :: t) ≠ 0) :
    tk (a :: t) c = (((a :: t).take (fst (a :: t)), c) :: (tk ((a :: t).drop (fst (a :: t))) (c + fst (a :: t))).1, (tk ((a :: t).drop (fst (a :: t))) (c + fst (a :: t))).2) := by
  show toks (t.length + 1) (a :: t) c = _
  conv => lhs; unfold toks
  rw [if_neg h, if_neg (by rw [h2]; simp), if_neg h3]
  have e : toks t.length ((a :: t).drop (fst (a :: t))) (c + fst (a :: t)) = tk ((a :: t).drop (fst (a :: t))) (c + fst (a :: t)) :=
    toks_fuel _ _ _ _ (by simp only [List.length_drop, List.length_cons]; omega) (Nat.le_refl _)
  rw [e]

/-- What stands ahead of the first #. -/
def code (l : List UInt8) : List UInt8 := l.takeWhile (fun a => a.toNat != 35)

theorem ltr_35 {x : Nat} (h : x = 35) : ltr x = false := by subst h; decide
theorem sgl_35 {x : Nat} (h : x = 35) : sgl x = false := by subst h; decide
theorem dbl_35 {x y : Nat} (h : y = 35) : dbl x y = false := by subst h; simp [dbl]
theorem code_hash {a : UInt8} (t : List UInt8) (h : a.toNat = 35) : code (a :: t) = [] := by unfold code; rw [List.takeWhile_cons]; simp [h]
theorem code_cons {a : UInt8} (t : List UInt8) (h : a.toNat ≠ 35) : code (a :: t) = a :: code t := by unfold code; rw [List.takeWhile_cons]; simp [h]

theorem arr_code (l : List UInt8) : arr (code l) = arr l := by
  match l with
  | [] => rfl
  | [a] => by_cases h : a.toNat = 35 <;> simp [code, h, arr]
  | a :: b :: t =>
    by_cases h : a.toNat = 35
    · rw [code_hash _ h]; simp [arr, h]
    · rw [code_cons _ h]
      by_cases h2 : b.toNat = 35
      · rw [code_hash _ h2]; simp [arr, h2]
      · rw [code_cons _ h2]; rfl
theorem lets_code (l : List UInt8) : lets (code l) = lets l := by
  induction l with
  | nil => rfl
  | cons a t ih =>
    by_cases h : a.toNat = 35
    · rw [code_hash _ h, lets_cons, ltr_35 h]; rfl
    · have ha := arr_code (a :: t)
      rw [code_cons _ h] at ha ⊢
      rw [lets_cons, lets_cons, ha, ih]
theorem fst_code (l : List UInt8) : fst (code l) = fst l := by
  match l with
  | [] => rfl
  | [a] =>
    by_cases h : a.toNat = 35
    · rw [code_hash _ h, fst_one, lets_cons, ltr_35 h, sgl_35 h]; rfl
    · rw [code_cons _ h]; rfl
  | a :: b :: t =>
    have hl := lets_code (a :: b :: t)
    by_cases h : a.toNat = 35
    · rw [code_hash _ h, fst_two, lets_cons, ltr_35 h, sgl_35 h]; simp [dbl, h, fst]
    · rw [code_cons _ h] at hl ⊢
      by_cases h2 : b.toNat = 35
      · rw [code_hash _ h2] at hl ⊢
        rw [fst_two, dbl_35 h2, ← hl]; rfl
      · rw [code_cons _ h2] at hl ⊢
        rw [fst_two, fst_two, hl]

theorem code_drop (l : List UInt8) (k : Nat) (h : k ≤ (code l).length) : (code l).drop k = code (l.drop k) := by
  induction l generalizing k with
  | nil => simp [code] at h; subst h; rfl
  | cons a t ih =>
    by_cases ha : a.toNat = 35
    · rw [code_hash _ ha] at h ⊢; simp at h; subst h; simp [code_hash _ ha]
    · rw [code_cons _ ha] at h ⊢
      cases k with
      | zero => simp [code_cons _ ha]
      | succ k => simp only [List.drop_succ_cons]; exact ih k (by simpa using h)
theorem code_take (l : List UInt8) (k : Nat) (h : k ≤ (code l).length) : (code l).take k = l.take k := by
  induction l generalizing k with
  | nil => simp [code]
  | cons a t ih =>
    by_cases ha : a.toNat = 35
    · rw [code_hash _ ha] at h; simp at h; subst h; simp
    · rw [code_cons _ ha] at h ⊢
      cases k with
      | zero => simp
      | succ k => simp only [List.take_succ_cons]; rw [ih k (by simpa using h)]

/-- The words of a line are those of what stands ahead of the first #. -/
theorem tk_code (l : List UInt8) (c : Nat) : tk (code l) c = tk l c := by
  generalize hn : l.length = n
  induction n using Nat.strongRecOn generalizing l c with
  | ind n ih =>
    cases l with
    | nil => rfl
    | cons a t =>
      simp only [List.length_cons] at hn
      by_cases h : a.toNat = 35
      · rw [code_hash _ h, tk_hash _ _ _ h]; rfl
      · have hf := fst_code (a :: t)
        have hle := fst_le (code (a :: t))
        have hd := code_drop (a :: t) (fst (a :: t)) (by omega)
        have ht := code_take (a :: t) (fst (a :: t)) (by omega)
        rw [code_cons _ h] at hf hd ht ⊢
        cases hb : blk a.toNat with
        | true => rw [tk_blank _ _ _ h hb, tk_blank _ _ _ h hb]; exact ih t.length (by omega) t _ rfl
        | false =>
          by_cases h0 : fst (a :: t) = 0
          · rw [tk_fault _ _ _ h hb h0, tk_fault _ _ _ h hb (by omega)]
          · rw [tk_word _ _ _ h hb h0, tk_word _ _ _ h hb (by omega), hf, hd, ht, ih ((a :: t).drop (fst (a :: t))).length (by simp only [List.length_drop, List.length_cons]; omega) _ _ rfl]

/-- What comes behind blanks. -/
def skp (l : List UInt8) : List UInt8 := l.dropWhile (fun a => blk a.toNat)
theorem skp_le (l : List UInt8) : (skp l).length ≤ l.length := (List.dropWhile_suffix _).length_le
theorem blk_35 {x : Nat} (h : blk x = true) : x ≠ 35 := by rintro rfl; revert h; decide
theorem tk_skp (l : List UInt8) (c : Nat) : tk l c = tk (skp l) (c + (l.length - (skp l).length)) := by
  induction l generalizing c with
  | nil => rfl
  | cons a t ih =>
    cases hb : blk a.toNat with
    | true =>
      rw [tk_blank _ _ _ (blk_35 hb) hb, ih]
      have e : skp (a :: t) = skp t := by unfold skp; rw [List.dropWhile_cons]; simp [hb]
      rw [e]
      have := skp_le t
      congr 1
      simp only [List.length_cons]; omega
    | false =>
      have e : skp (a :: t) = a :: t := by unfold skp; rw [List.dropWhile_cons]; simp [hb]
      rw [e]; simp
theorem skp_head (l : List UInt8) : skp l = [] ∨ ∃ a t, skp l = a :: t ∧ blk a.toNat = false := by
  induction l with
  | nil => exact Or.inl rfl
  | cons a t ih =>
    cases hb : blk a.toNat with
    | true => have e : skp (a :: t) = skp t := by unfold skp; rw [List.dropWhile_cons]; simp [hb]
              rw [e]; exact ih
    | false => have e : skp (a :: t) = a :: t := by unfold skp; rw [List.dropWhile_cons]; simp [hb]
               exact Or.inr ⟨a, t, e, hb⟩

/-- No # in what stands ahead of the first #. -/
theorem code_clean (l : List UInt8) : ∀ a ∈ code l, a.toNat ≠ 35 := by
  intro a ha
  have := List.all_takeWhile (p := fun a : UInt8 => a.toNat != 35) (l := l)
  rw [List.all_eq_true] at this
  simpa using this a ha

/-- A text's lines. -/
def lns : List UInt8 → List (List UInt8)
  | [] => [[]]
  | a :: t => if a.toNat = 10 then [] :: lns t else match lns t with
    | [] => [[a]]
    | h :: r => (a :: h) :: r
theorem lns_ne (l : List UInt8) : lns l ≠ [] := by
  cases l with
  | nil => simp [lns]
  | cons a t => unfold lns; split; simp; split <;> simp
theorem lns_pre (p t : List UInt8) (hp : ∀ a ∈ p, a.toNat ≠ 10) : ∃ h r, lns t = h :: r ∧ lns (p ++ t) = (p ++ h) :: r := by
  induction p with
  | nil =>
    cases e : lns t with
    | nil => exact absurd e (lns_ne t)
    | cons h r => exact ⟨h, r, rfl, e⟩
  | cons a p ih =>
    obtain ⟨h, r, e1, e2⟩ := ih (fun x hx => hp x (List.mem_cons_of_mem _ hx))
    refine ⟨h, r, e1, ?_⟩
    show lns (a :: (p ++ t)) = _
    unfold lns
    rw [if_neg (hp a (by simp)), e2]
    rfl
theorem lns_cut (p t : List UInt8) (b : UInt8) (hp : ∀ a ∈ p, a.toNat ≠ 10) (hb : b.toNat = 10) : lns (p ++ b :: t) = p :: lns t := by
  obtain ⟨h, r, e1, e2⟩ := lns_pre p (b :: t) hp
  have : lns (b :: t) = [] :: lns t := by conv => lhs; unfold lns
                                          rw [if_pos hb]
  rw [this] at e1
  injection e1 with e3 e4
  rw [e2, ← e3, ← e4, List.append_nil]
theorem lns_last (p : List UInt8) (hp : ∀ a ∈ p, a.toNat ≠ 10) : lns p = [p] := by
  obtain ⟨h, r, e1, e2⟩ := lns_pre p [] hp
  have e : lns [] = [[]] := rfl
  rw [e] at e1
  injection e1 with e3 e4
  rw [List.append_nil] at e2
  rw [e2, ← e3, ← e4, List.append_nil]

/-- A word: its bytes, its line, its column. -/
abbrev Wd := List UInt8 × Nat × Nat
def wds (n : Nat) (l : List (List UInt8 × Nat)) : List Wd := l.map fun p => (p.1, n, p.2)
/-- The words of each line that has some, and the place of the first fault; the lines count from n on. -/
def rd : List (List UInt8) → Nat → List (List Wd) × Option (Nat × Nat)
  | [], _ => ([], none)
  | l :: ls, n =>
    match (tk l 1).2 with
    | some c => ([], some (n, c))
    | none => (if (tk l 1).1 = [] then (rd ls (n + 1)).1 else wds n (tk l 1).1 :: (rd ls (n + 1)).1, (rd ls (n + 1)).2)
theorem rd_fault {l : List UInt8} {ls : List (List UInt8)} {n c : Nat} (h : (tk l 1).2 = some c) : rd (l :: ls) n = ([], some (n, c)) := by
  unfold rd; rw [h]
theorem rd_none {l : List UInt8} {ls : List (List UInt8)} {n : Nat} (h : (tk l 1).2 = none) (h2 : (tk l 1).1 = []) : rd (l :: ls) n = rd ls (n + 1) := by
  conv => lhs; unfold rd
  rw [h]; simp [h2]
theorem rd_some {l : List UInt8} {ls : List (List UInt8)} {n : Nat} (h : (tk l 1).2 = none) (h2 : (tk l 1).1 ≠ []) : rd (l :: ls) n = (wds n (tk l 1).1 :: (rd ls (n + 1)).1, (rd ls (n + 1)).2) := by
  conv => lhs; unfold rd
  rw [h]; simp [h2]
/-- What a text is read as: its lines, a fault's line and column, an error's number. -/
def read (s : List UInt8) : List (List Wd) := match (rd (lns s) 1).2 with | none => (rd (lns s) 1).1 | some _ => []
def faultL (s : List UInt8) : Nat := match (rd (lns s) 1).2 with | none => 0 | some p => p.1
def faultC (s : List UInt8) : Nat := match (rd (lns s) 1).2 with | none => 0 | some p => p.2
def err (s : List UInt8) : Nat := match (rd (lns s) 1).2 with | none => 0 | some _ => 30

end Wo
end Go.Proofs.YtagppgncanimaaaGreatDoor
namespace Go.Proofs.YtagppgncanimaaaGreatDoor
namespace Wo

/-- Is it a word? -/
def isW (l : List UInt8) : Bool := decide (l ≠ [] ∧ fst l = l.length)
/-- Must a blank stand between two words? -/
def glue (a b : List UInt8) : Bool := decide (fst (a ++ b) ≠ a.length)
theorem isW_ne {l : List UInt8} (h : isW l = true) : l ≠ [] := (of_decide_eq_true h).1
theorem isW_len {l : List UInt8} (h : isW l = true) : fst l = l.length := (of_decide_eq_true h).2

/-- The first byte of a word is a letter or a sign. -/
theorem fst_head {a : UInt8} {t : List UInt8} (h : fst (a :: t) ≠ 0) : ltr a.toNat = true ∨ sgl a.toNat = true := by
  cases t with
  | nil =>
    rw [fst_one] at h
    split at h
    · right; assumption
    · rw [lets_cons] at h
      split at h
      · left; simp_all
      · exact absurd rfl h
  | cons b t =>
    rw [fst_two] at h
    split at h
    · rename_i hd
      simp only [dbl, Bool.or_eq_true, Bool.and_eq_true, beq_iff_eq] at hd
      rcases hd with ((h | h) | h) | h <;> rw [h.1]
      · right; rfl
      · right; rfl
      · right; rfl
      · left; rfl
    · split at h
      · right; assumption
      · rw [lets_cons] at h
        split at h
        · left; simp_all
        · exact absurd rfl h
theorem head_plain {x : Nat} (h : ltr x = true ∨ sgl x = true) : x ≠ 35 ∧ blk x = false ∧ x ≠ 10 := by
  rcases h with h | h
  · have := of_decide_eq_true h
    refine ⟨by omega, ?_, by omega⟩
    unfold blk
    rw [Bool.or_eq_false_iff, beq_eq_false_iff_ne, beq_eq_false_iff_ne]
    omega
  · simp [sgl] at h
    rcases h with h | h | h | h | h | h | h | h | h | h | h | h <;> subst h <;> decide
theorem ltr_sgl {x : Nat} (h : ltr x = true) : sgl x = false := by
  have := of_decide_eq_true h
  cases hs : sgl x with
  | false => rfl
  | true => simp [sgl] at hs; omega
theorem ltr_dbl {x y : Nat} (h : ltr x = true) : dbl x y = (x == 45 && y == 62) := by
  have := of_decide_eq_true h
  unfold dbl
  have h1 : (x == 61) = false := by rw [beq_eq_false_iff_ne]; omega
  have h2 : (x == 60) = false := by rw [beq_eq_false_iff_ne]; omega
  have h3 : (x == 62) = false := by rw [beq_eq_false_iff_ne]; omega
  rw [h1, h2, h3]; simp

/-- Two texts side by side whose joint would be a sign ->. -/
def joint (a b : List UInt8) : Bool := a.getLast?.map UInt8.toNat == some 45 && b.head?.map UInt8.toNat == some 62
theorem lets_app (a r : List UInt8) (h : lets a = a.length) (hj : joint a r = false) : lets (a ++ r) = a.length + lets r := by
  induction a with
  | nil => simp
  | cons x t ih =>
    rw [lets_cons] at h
    split at h
    · rename_i hx
      simp only [List.length_cons] at h
      simp only [Bool.and_eq_true, Bool.not_eq_true'] at hx
      have hjt : joint t r = false ∨ t = [] := by
        cases t with
        | nil => right; rfl
        | cons y t => left; simpa [joint, List.getLast?_cons_cons] using hj
      have ha : arr (x :: (t ++ r)) = false := by
        cases t with
        | nil =>
          cases r with
          | nil => rfl
          | cons z r => simpa [joint, arr] using hj
        | cons y t => exact hx.2
      show lets (x :: (t ++ r)) = _
      rw [lets_cons, if_pos (by rw [hx.1, ha]; rfl)]
      have e : lets (t ++ r) = t.length + lets r := by
        rcases hjt with hjt | rfl
        · exact ih (by omega) hjt
        · simp
      rw [e, List.length_cons]; omega
    · simp at h
theorem lets_joint (a r : List UInt8) (h : lets a = a.length) (hj : joint a r = true) : lets (a ++ r) < a.length := by
  induction a with
  | nil => simp [joint] at hj
  | cons x t ih =>
    rw [lets_cons] at h
    split at h
    · rename_i hx
      simp only [List.length_cons] at h
      simp only [Bool.and_eq_true, Bool.not_eq_true'] at hx
      show lets (x :: (t ++ r)) < _
      cases t with
      | nil =>
        cases r with
        | nil => simp [joint] at hj
        | cons z r =>
          have ha : arr (x :: ([] ++ z :: r)) = true := by simpa [joint, arr] using hj
          rw [lets_cons, if_neg (by rw [ha]; simp)]; simp
      | cons y t =>
        have hjt : joint (y :: t) r = true := by simpa [joint, List.getLast?_cons_cons] using hj
        have := ih (by omega) hjt
        rw [lets_cons]
        split <;> simp at this ⊢ <;> omega
    · simp at h

/-- A word is a sign of one byte, one of two, or letters alone. -/
theorem isW_kinds {a : List UInt8} (h : isW a = true) : (∃ x, a = [x] ∧ sgl x.toNat = true) ∨ (∃ x y, a = [x, y] ∧ dbl x.toNat y.toNat = true) ∨ (lets a = a.length ∧ ∃ x t, a = x :: t ∧ ltr x.toNat = true ∧ arr a = false) := by
  have hl := isW_len h
  match a, isW_ne h, hl with
  | [x], _, hl =>
    rw [fst_one] at hl
    split at hl
    · left; exact ⟨x, rfl, by assumption⟩
    · right; right
      refine ⟨hl, x, [], rfl, ?_, rfl⟩
      rw [lets_cons] at hl
      split at hl
      · simp_all
      · simp at hl
  | x :: y :: t, _, hl =>
    rw [fst_two] at hl
    split at hl
    · right; left
      have : t = [] := List.length_eq_zero_iff.1 (by simp only [List.length_cons] at hl; omega)
      subst this
      exact ⟨x, y, rfl, by assumption⟩
    · split at hl
      · simp at hl
      · right; right
        refine ⟨hl, x, y :: t, rfl, ?_⟩
        rw [lets_cons] at hl
        split at hl
        · simp_all
        · simp at hl

theorem fst_of_ltr {x : UInt8} {t : List UInt8} (h : ltr x.toNat = true) (ha : arr (x :: t) = false) : fst (x :: t) = lets (x :: t) := by
  cases t with
  | nil => rw [fst_one, ltr_sgl h]; rfl
  | cons y t =>
    rw [fst_two, ltr_dbl h, ltr_sgl h]
    have : (x.toNat == 45 && y.toNat == 62) = false := ha
    rw [this]; rfl

/-- What follows a word without a change of how it is read: nothing, a blank, or a word that need not be apart. -/
theorem fst_blank {a : List UInt8} (h : isW a = true) (r : List UInt8) (hr : r = [] ∨ ∃ x t, r = x :: t ∧ ltr x.toNat = false ∧ sgl x.toNat = false) : fst (a ++ r) = a.length := by
  rcases isW_kinds h with ⟨x, rfl, hs⟩ | ⟨x, y, rfl, hd⟩ | ⟨hl, x, t, rfl, hx, ha⟩
  · rcases hr with rfl | ⟨b, t, rfl, h1, h2⟩
    · exact isW_len h
    · show fst (x :: b :: t) = 1
      rw [fst_two, hs]
      have : dbl x.toNat b.toNat = false := by
        cases hq : dbl x.toNat b.toNat with
        | false => rfl
        | true =>
          simp only [dbl, Bool.or_eq_true, Bool.and_eq_true, beq_iff_eq] at hq
          rcases hq with ((q | q) | q) | q <;> (rw [q.2] at h2; exact absurd h2 (by decide))
      rw [this]; rfl
  · show fst (x :: y :: r) = 2
    rw [fst_two, hd]; rfl
  · have hj : joint (x :: t) r = false := by
      rcases hr with rfl | ⟨b, t', rfl, h1, h2⟩
      · simp [joint]
      · have : b.toNat ≠ 62 := by intro e; rw [e] at h2; exact absurd h2 (by decide)
        simp [joint, this]
    have hlr : lets r = 0 := by
      rcases hr with rfl | ⟨b, t', rfl, h1, h2⟩
      · rfl
      · rw [lets_cons, h1]; rfl
    have e := lets_app _ _ hl hj
    have ha' : arr (x :: (t ++ r)) = false := by
      cases t with
      | nil =>
        rcases hr with rfl | ⟨b, t', rfl, h1, h2⟩
        · rfl
        · simpa [joint, arr] using hj
      | cons y t => exact ha
    show fst (x :: (t ++ r)) = _
    rw [fst_of_ltr hx ha']
    show lets ((x :: t) ++ r) = _
    rw [e, hlr]; rfl

theorem fst_touch {a b : List UInt8} (ha : isW a = true) (hb : isW b = true) (hg : glue a b = false) (r : List UInt8) : fst (a ++ (b ++ r)) = a.length := by
  have hg' : fst (a ++ b) = a.length := Decidable.not_not.1 (of_decide_eq_false hg)
  obtain ⟨z, u, rfl⟩ : ∃ z u, b = z :: u := by
    cases b with
    | nil => exact absurd rfl (isW_ne hb)
    | cons z u => exact ⟨z, u, rfl⟩
  rcases isW_kinds ha with ⟨x, rfl, hs⟩ | ⟨x, y, rfl, hd⟩ | ⟨hl, x, t, rfl, hx, har⟩
  · have e1 : fst (x :: z :: u) = 1 := hg'
    show fst (x :: z :: (u ++ r)) = 1
    rw [fst_two] at e1 ⊢
    rw [hs] at e1 ⊢
    split
    · rename_i h; rw [if_pos h] at e1; omega
    · rfl
  · show fst (x :: y :: _) = 2
    rw [fst_two, hd]; rfl
  · have e1 : fst (x :: (t ++ z :: u)) = t.length + 1 := hg'
    have ha1 : arr (x :: (t ++ z :: u)) = false := by
      cases t with
      | nil =>
        cases hq : arr (x :: ([] ++ z :: u)) with
        | false => rfl
        | true =>
          have hd : dbl x.toNat z.toNat = true := by rw [ltr_dbl hx]; exact hq
          have e1' : fst (x :: z :: u) = 1 := e1
          rw [fst_two, hd, if_pos rfl] at e1'
          omega
      | cons y t => exact har
    rw [fst_of_ltr hx ha1] at e1
    have hj : joint (x :: t) (z :: u) = false := by
      cases hq : joint (x :: t) (z :: u) with
      | false => rfl
      | true =>
        have := lets_joint _ _ hl hq
        have e1' : lets (x :: t ++ z :: u) = t.length + 1 := e1
        simp only [List.length_cons] at this; omega
    have hj2 : joint (x :: t) ((z :: u) ++ r) = false := hj
    have e2 := lets_app _ _ hl hj
    have e1' : lets (x :: t ++ z :: u) = t.length + 1 := e1
    have hz : lets (z :: u) = 0 := by simp only [List.length_cons] at e2; omega
    have hz2 : lets ((z :: u) ++ r) = 0 := by
      rw [lets_cons] at hz
      show lets (z :: (u ++ r)) = 0
      rw [lets_cons]
      split at hz
      · omega
      · rename_i hn
        rw [if_neg ?_]
        intro hc
        simp only [Bool.and_eq_true, Bool.not_eq_true', not_and, Bool.not_eq_false] at hn hc
        have h2 := hn hc.1
        cases u with
        | nil => simp [arr] at h2
        | cons v u =>
          have : arr (z :: (v :: u ++ r)) = arr (z :: v :: u) := rfl
          rw [this, h2] at hc
          exact absurd hc.2 (by simp)
    have ha2 : arr (x :: (t ++ (z :: u ++ r))) = false := by
      cases t with
      | nil => exact ha1
      | cons y t => exact har
    show fst (x :: (t ++ (z :: u ++ r))) = _
    rw [fst_of_ltr hx ha2]
    show lets ((x :: t) ++ (z :: u ++ r)) = _
    rw [lets_app _ _ hl hj2, hz2]; rfl

/-- What follows a word: the others, each apart where it must be. -/
def joinT : List UInt8 → List (List UInt8) → List UInt8
  | _, [] => []
  | a, b :: r => (if glue a b then 32 :: b else b) ++ joinT b r
def sayL : List (List UInt8) → List UInt8
  | [] => []
  | a :: r => a ++ joinT a r

theorem tk_first {a r : List UInt8} {c : Nat} (h : isW a = true) (hf : fst (a ++ r) = a.length) : tk (a ++ r) c = ((a, c) :: (tk r (c + a.length)).1, (tk r (c + a.length)).2) := by
  obtain ⟨x, t, rfl⟩ : ∃ x t, a = x :: t := by
    cases a with
    | nil => exact absurd rfl (isW_ne h)
    | cons x t => exact ⟨x, t, rfl⟩
  have h0 : fst (x :: (t ++ r)) ≠ 0 := by
    have : fst (x :: (t ++ r)) = (x :: t).length := hf
    rw [this]; simp
  obtain ⟨p1, p2, _⟩ := head_plain (fst_head h0)
  have e := tk_word x (t ++ r) c p1 p2 h0
  have hf' : fst (x :: (t ++ r)) = (x :: t).length := hf
  rw [hf'] at e
  have e1 : (x :: (t ++ r)).take (x :: t).length = x :: t := List.take_left (l₁ := x :: t) (l₂ := r)
  have e2 : (x :: (t ++ r)).drop (x :: t).length = r := List.drop_left (l₁ := x :: t) (l₂ := r)
  rw [e1, e2] at e
  exact e

theorem blank_plain : ltr 32 = false ∧ sgl 32 = false := by decide
theorem tk_join (a : List UInt8) (ls : List (List UInt8)) (c : Nat) (ha : isW a = true) (h : ∀ l ∈ ls, isW l = true) : (tk (a ++ joinT a ls) c).1.map (·.1) = a :: ls ∧ (tk (a ++ joinT a ls) c).2 = none := by
  induction ls generalizing a c with
  | nil =>
    have e : joinT a [] = [] := rfl
    rw [e, tk_first ha (fst_blank ha [] (Or.inl rfl)), tk_nil]
    exact ⟨rfl, rfl⟩
  | cons b r ih =>
    have hb := h b (by simp)
    have hr : ∀ l ∈ r, isW l = true := fun l hl => h l (List.mem_cons_of_mem _ hl)
    have e : joinT a (b :: r) = (if glue a b then 32 :: b else b) ++ joinT b r := rfl
    rw [e]
    cases hg : glue a b with
    | true =>
      rw [if_pos rfl]
      show (tk (a ++ (32 :: (b ++ joinT b r))) c).1.map _ = _ ∧ (tk (a ++ (32 :: (b ++ joinT b r))) c).2 = _
      rw [tk_first ha (fst_blank ha _ (Or.inr ⟨32, _, rfl, blank_plain.1, blank_plain.2⟩)), tk_blank 32 _ _ (by decide) (by decide)]
      have := ih b (c + a.length + 1) hb hr
      exact ⟨by simp only [List.map_cons]; rw [this.1], this.2⟩
    | false =>
      rw [if_neg (by simp)]
      rw [tk_first ha (fst_touch ha hb hg _)]
      have := ih b (c + a.length) hb hr
      exact ⟨by simp only [List.map_cons]; rw [this.1], this.2⟩

/-- No byte of a word is a blank, a #, an end of a line. -/
theorem isW_bytes {a : List UInt8} (h : isW a = true) : ∀ x ∈ a, x.toNat ≠ 10 ∧ x.toNat ≠ 35 := by
  have key : ∀ l : List UInt8, lets l = l.length → ∀ x ∈ l, ltr x.toNat = true := by
    intro l
    induction l with
    | nil => simp
    | cons y t ih =>
      intro hl x hx
      rw [lets_cons] at hl
      split at hl
      · rename_i hy
        simp only [Bool.and_eq_true] at hy
        rcases List.mem_cons.1 hx with rfl | hx
        · exact hy.1
        · exact ih (by simp at hl; omega) x hx
      · simp at hl
  rcases isW_kinds h with ⟨x, rfl, hs⟩ | ⟨x, y, rfl, hd⟩ | ⟨hl, _⟩
  · intro z hz
    rw [List.mem_singleton] at hz
    subst hz
    have := head_plain (Or.inr hs)
    exact ⟨this.2.2, this.1⟩
  · intro z hz
    simp only [dbl, Bool.or_eq_true, Bool.and_eq_true, beq_iff_eq] at hd
    simp only [List.mem_cons, List.not_mem_nil, or_false] at hz
    rcases hz with rfl | rfl <;> omega
  · intro z hz
    have := head_plain (Or.inl (key a hl z hz))
    exact ⟨this.2.2, this.1⟩
theorem join_bytes (a : List UInt8) (ls : List (List UInt8)) (h : ∀ l ∈ ls, isW l = true) : ∀ x ∈ joinT a ls, x.toNat ≠ 10 := by
  induction ls generalizing a with
  | nil => intro x hx; exact absurd hx (by simp [joinT])
  | cons b r ih =>
    intro x hx
    have e : joinT a (b :: r) = (if glue a b then 32 :: b else b) ++ joinT b r := rfl
    rw [e, List.mem_append] at hx
    rcases hx with hx | hx
    · split at hx
      · rcases List.mem_cons.1 hx with rfl | hx
        · decide
        · exact (isW_bytes (h b (by simp)) x hx).1
      · exact (isW_bytes (h b (by simp)) x hx).1
    · exact ih b (fun l hl => h l (List.mem_cons_of_mem _ hl)) x hx

/-- What is said is read as it was said (P3.4). -/
theorem read_say (ls : List (List UInt8)) (h : ∀ l ∈ ls, isW l = true) (h0 : ls ≠ []) :
    (rd (lns (sayL ls)) 1).2 = none ∧ ∃ ws, (rd (lns (sayL ls)) 1).1 = [ws] ∧ ws.map (·.1) = ls := by
  cases ls with
  | nil => exact absurd rfl h0
  | cons a r =>
    have ha := h a (by simp)
    have hr : ∀ l ∈ r, isW l = true := fun l hl => h l (List.mem_cons_of_mem _ hl)
    have h10 : ∀ x ∈ sayL (a :: r), x.toNat ≠ 10 := by
      intro x hx
      rcases List.mem_append.1 hx with hx | hx
      · exact (isW_bytes ha x hx).1
      · exact join_bytes a r hr x hx
    obtain ⟨e1, e2⟩ := tk_join a r 1 ha hr
    have e2' : (tk (sayL (a :: r)) 1).2 = none := e2
    have ne : (tk (sayL (a :: r)) 1).1 ≠ [] := by
      intro e
      have : (tk (a ++ joinT a r) 1).1 = [] := e
      rw [this] at e1; simp at e1
    rw [lns_last _ h10, rd_some e2' ne]
    refine ⟨rfl, _, rfl, ?_⟩
    unfold wds
    rw [List.map_map]
    exact e1
theorem read_say_nil : rd (lns (sayL [])) 1 = ([], none) := rfl

/-- The first k words, said. -/
def sayTo (ls : List (List UInt8)) : Nat → List UInt8
  | 0 => []
  | k + 1 => sayTo ls k ++ (if 0 < k ∧ glue (ls.getD (k - 1) []) (ls.getD k []) = true then [32] else []) ++ ls.getD k []
theorem joinT_snoc (a : List UInt8) (ls : List (List UInt8)) (b : List UInt8) : joinT a (ls ++ [b]) = joinT a ls ++ (if glue ((a :: ls).getLast (by simp)) b then 32 :: b else b) := by
  induction ls generalizing a with
  | nil =>
    show (if glue a b then 32 :: b else b) ++ [] = [] ++ (if glue a b then 32 :: b else b)
    simp only [List.append_nil, List.nil_append]
  | cons c r ih =>
    show (if glue a c then 32 :: c else c) ++ joinT c (r ++ [b]) = ((if glue a c then 32 :: c else c) ++ joinT c r) ++ _
    rw [ih c, List.append_assoc, List.getLast_cons (show c :: r ≠ [] by simp)]
theorem sayTo_take (ls : List (List UInt8)) (k : Nat) (h : k ≤ ls.length) : sayTo ls k = sayL (ls.take k) := by
  induction k with
  | zero => simp [sayTo, sayL]
  | succ k ih =>
    have hk : k < ls.length := h
    have eg : ls.getD k [] = ls[k] := by rw [List.getD_eq_getElem?_getD, List.getElem?_eq_getElem hk]; rfl
    show sayTo ls k ++ _ ++ ls.getD k [] = _
    rw [ih (by omega), List.take_succ_eq_append_getElem hk, eg]
    cases k with
    | zero => simp [sayL, joinT]
    | succ k =>
      have eg2 : ls.getD k [] = ls[k]'(by omega) := by rw [List.getD_eq_getElem?_getD, List.getElem?_eq_getElem (by omega)]; rfl
      cases hls : ls.take (k + 1) with
      | nil =>
        have := congrArg List.length hls
        rw [List.length_take] at this
        simp only [List.length_nil] at this
        omega
      | cons a r =>
        show (a ++ joinT a r) ++ _ ++ _ = a ++ joinT a (r ++ [ls[k + 1]])
        rw [joinT_snoc]
        have hlast : (a :: r).getLast (by simp) = ls[k]'(by omega) := by
          have h1 : (ls.take (k + 1)).getLast? = some (ls[k]'(by omega)) := by
            rw [List.take_succ_eq_append_getElem (by omega), List.getLast?_concat]
          rw [hls, List.getLast?_eq_some_getLast (by simp)] at h1
          exact Option.some.inj h1
        rw [hlast]
        simp only [Nat.add_sub_cancel, eg2, Nat.zero_lt_succ, true_and]
        split <;> simp
theorem sayTo_all (ls : List (List UInt8)) : sayTo ls ls.length = sayL ls := by rw [sayTo_take _ _ (Nat.le_refl _), List.take_length]
end Wo
end Go.Proofs.YtagppgncanimaaaGreatDoor
namespace Go.Proofs.YtagppgncanimaaaGreatDoor
open Go.RowKit

theorem hid {p : Prop} (h : p) : Hid p := h
theorem bool_two (b : Bool) : b = false ∨ b = true := by cases b <;> simp

/-- A byte as the program has it. -/
abbrev bv (c : UInt8) : Value := .int .u8 (c.toNat : Int)

set_option maxHeartbeats 400000 in
theorem digit_any (c : UInt8) (w : World) : Calls Tryz.prog 109 #[bv c] w fun e w' => e = .returned (.bool (Wo.dg c.toNat)) ∧ w' = w := by
  by_cases h : 48 ≤ (c.toNat : Int)
  · by_cases h2 : (c.toNat : Int) ≤ 57
    · have e : Wo.dg c.toNat = true := decide_eq_true (by omega)
      rw [e]
      go_enter Tryz.func109, Tryz.ntmps109
      go_wp2
      go_ret
      exact ⟨rfl, rfl⟩
    · have e : Wo.dg c.toNat = false := decide_eq_false (by omega)
      rw [e]
      have hd : decide ((c.toNat : Int) ≤ 57) = false := decide_eq_false h2
      go_enter Tryz.func109, Tryz.ntmps109
      go_wp2
      go_ret
      exact ⟨rfl, rfl⟩
  · have e : Wo.dg c.toNat = false := decide_eq_false (by omega)
    rw [e]
    have hd : decide (48 ≤ (c.toNat : Int)) = false := decide_eq_false h
    go_enter Tryz.func109, Tryz.ntmps109
    go_wp2
    go_ret
    exact ⟨rfl, rfl⟩

theorem ret_bool {a b : Bool} (h : a = b) : Ending.returned (.bool a) = .returned (.bool b) := by rw [h]

set_option maxHeartbeats 1000000 in
theorem letter_any (c : UInt8) (w : World) : Calls Tryz.prog 141 #[bv c] w fun e w' => e = .returned (.bool (Wo.ltr c.toNat)) ∧ w' = w := by
  go_enter Tryz.func141, Tryz.ntmps141
  go_wp2_with (go_at_call 109; refine (digit_any c _).mono ?_; rintro e w' ⟨rfl, rfl⟩)
  all_goals
    go_ret
    refine ⟨ret_bool ?_, rfl⟩
    try rename_i hd0
    try simp only [Wo.dg, decide_eq_true_eq] at *
    rw [Bool.eq_iff_iff]
    simp only [Wo.ltr, Bool.or_eq_true, decide_eq_true_eq, beq_iff_eq, true_iff]
    omega

set_option maxHeartbeats 400000 in
theorem HasPrefix_arr (s : ByteArray) (w : World) : Calls Tryz.prog 142 #[.string s, .string ⟨#[45, 62]⟩] w fun e w' => e = .returned (.bool (Wo.arr s.data.toList)) ∧ w' = w := by
  have key : Wo.arr s.data.toList = (decide (2 ≤ s.size) && ((s.extract 0 2).toList == [45, 62])) := by
    rw [Lib.extract_toList, Lib.size_eq]
    match s.data.toList with
    | [] => rfl
    | [a] => rfl
    | a :: b :: t =>
      simp only [Wo.arr, List.drop_zero, Nat.sub_zero, List.length_cons, List.take_succ_cons, List.take_zero]
      rw [Bool.eq_iff_iff]
      simp
      constructor
      · rintro ⟨h1, h2⟩; exact ⟨UInt8.toNat.inj h1, UInt8.toNat.inj h2⟩
      · rintro ⟨rfl, rfl⟩; exact ⟨rfl, rfl⟩
  rw [key]
  clear key
  by_cases h : 2 ≤ (s.size : Int)
  · have hn : decide (2 ≤ s.size) = true := decide_eq_true (by omega)
    rw [hn]
    clear hn
    go_enter Tryz.func142, Tryz.ntmps142
    go_wp2
    go_ret
    exact ⟨rfl, rfl⟩
  · have hn : decide (2 ≤ s.size) = false := decide_eq_false (by omega)
    rw [hn]
    clear hn
    have hd : decide (2 ≤ (s.size : Int)) = false := decide_eq_false h
    go_enter Tryz.func142, Tryz.ntmps142
    go_wp2
    go_ret
    exact ⟨rfl, rfl⟩
end Go.Proofs.YtagppgncanimaaaGreatDoor
namespace Go.Proofs.YtagppgncanimaaaGreatDoor
open Go.RowKit

theorem ret_int {k : IntKind} {a b : Int} (h : a = b) : Ending.returned (.int k a) = .returned (.int k b) := by rw [h]
theorem drop_at (s : ByteArray) (k : Nat) (h : k < s.size) : s.data.toList.drop k = s[k] :: s.data.toList.drop (k + 1) := by
  rw [List.drop_eq_getElem_cons (by simpa using h)]; rfl
theorem ext_drop (s : ByteArray) (k : Nat) : (s.extract k s.size).data.toList = s.data.toList.drop k := by
  rw [Lib.extract_data, Lib.size_eq, List.take_of_length_le (by simp)]
theorem ext_take (s : ByteArray) (k : Nat) : (s.extract 0 k).data.toList = s.data.toList.take k := by
  rw [Lib.extract_data]; simp

set_option maxHeartbeats 1000000 in
theorem letters_any (s : ByteArray) (w : World) (hs : s.size ≤ maxLen) : Calls Tryz.prog 104 #[.string s] w fun e w' => e = .returned (.int .i64 (Wo.lets s.data.toList : Int)) ∧ w' = w := by
  unfold maxLen at hs
  go_enter Tryz.func104, Tryz.ntmps104
  go_wp2
  go_loop [3] (fun n => ∃ k : Nat, k ≤ s.size ∧ n = .int .i64 k ∧ Hid (Wo.lets s.data.toList = k + Wo.lets (s.data.toList.drop k))) (fun n => s.size - (intOf n).toNat)
  case atStart => exact ⟨0, Nat.zero_le _, rfl, by show _ = _; simp⟩
  case round =>
    obtain ⟨k, hk, rfl, HL⟩ := hrel
    by_cases hlt : k < s.size
    · have HD := hid (drop_at s k hlt)
      have HE := hid (ext_drop s k)
      have hkI : (0 : Int) ≤ (k : Int) := by omega
      have hkI2 : (k : Int) < (s.size : Int) := by omega
      have hkI3 : (k : Int) ≤ (s.size : Int) := by omega
      rcases bool_two (Wo.ltr (s[k]'hlt).toNat) with h1 | h1
      · have HR := hid (show Wo.lets s.data.toList = k by rw [HL.out, HD.out, Wo.lets_cons, h1]; simp)
        have q : ∀ w, Calls Tryz.prog 141 #[bv (s[k]'hlt)] w fun e w' => e = .returned (.bool false) ∧ w' = w := fun w => h1 ▸ letter_any (s[k]'hlt) w
        clear h1
        go_wp2_with (go_at_call 141; refine (q _).mono ?_; rintro e w' ⟨rfl, rfl⟩)
        go_ret
        exact ⟨by rw [HR.out]; rfl, rfl⟩
      · have q : ∀ w, Calls Tryz.prog 141 #[bv (s[k]'hlt)] w fun e w' => e = .returned (.bool true) ∧ w' = w := fun w => h1 ▸ letter_any (s[k]'hlt) w
        have H1 := hid h1
        clear h1
        rcases bool_two (Wo.arr (s.data.toList.drop k)) with h2 | h2
        · have q2 : ∀ w, Calls Tryz.prog 142 #[.string (s.extract k s.size), .string ⟨#[45, 62]⟩] w fun e w' => e = .returned (.bool false) ∧ w' = w := fun w => by
            have := HasPrefix_arr (s.extract k s.size) w
            rw [HE.out, h2] at this; exact this
          have HR := hid (show Wo.lets s.data.toList = (k + 1) + Wo.lets (s.data.toList.drop (k + 1)) by
            rw [HL.out, HD.out, Wo.lets_cons, ← HD.out, H1.out, h2, if_pos (show (true && !false) = true from rfl)]; omega)
          clear h2
          go_wp2_with (first | (go_at_call 141; refine (q _).mono ?_; rintro e w' ⟨rfl, rfl⟩) | (go_at_call 142; refine (q2 _).mono ?_; rintro e w' ⟨rfl, rfl⟩))
          go_round
          case rel => exact ⟨k + 1, by omega, by go_num, HR⟩
          case measure => simp [intOf]; omega
        · have q2 : ∀ w, Calls Tryz.prog 142 #[.string (s.extract k s.size), .string ⟨#[45, 62]⟩] w fun e w' => e = .returned (.bool true) ∧ w' = w := fun w => by
            have := HasPrefix_arr (s.extract k s.size) w
            rw [HE.out, h2] at this; exact this
          have HR := hid (show Wo.lets s.data.toList = k by
            rw [HL.out, HD.out, Wo.lets_cons, ← HD.out, H1.out, h2]; simp)
          clear h2
          go_wp2_with (first | (go_at_call 141; refine (q _).mono ?_; rintro e w' ⟨rfl, rfl⟩) | (go_at_call 142; refine (q2 _).mono ?_; rintro e w' ⟨rfl, rfl⟩))
          go_ret
          exact ⟨by rw [HR.out]; rfl, rfl⟩
    · have HR := hid (show Wo.lets s.data.toList = k by
        rw [HL.out, List.drop_of_length_le (by rw [← Lib.size_eq]; omega)]; rfl)
      go_wp2
      go_ret
      exact ⟨by rw [HR.out]; rfl, rfl⟩

/-- Is a text a sign? -/
def sgn (l : List UInt8) : Bool := match l with
  | [a] => Wo.sgl a.toNat
  | [a, b] => Wo.dbl a.toNat b.toNat
  | _ => false
theorem b_eq (a b : UInt8) : (a == b) = (a.toNat == b.toNat) := by
  rw [Bool.eq_iff_iff, beq_iff_eq, beq_iff_eq]
  exact ⟨fun h => h ▸ rfl, UInt8.toNat.inj⟩
theorem sgn_list (l : List UInt8) : sgn l = (l == [61, 61] || l == [60, 61] || l == [62, 61] || l == [45, 62] || l == [40] || l == [41] || l == [44] || l == [124] || l == [42] || l == [43] || l == [63] || l == [46] || l == [36] || l == [61] || l == [60] || l == [62]) := by
  match l with
  | [] => rfl
  | [a] =>
    show Wo.sgl a.toNat = _
    rw [Bool.eq_iff_iff]
    simp [Wo.sgl, b_eq, or_assoc]
  | [a, b] =>
    show Wo.dbl a.toNat b.toNat = _
    simp [Wo.dbl, b_eq]
  | a :: b :: c :: t => simp [sgn]

set_option maxHeartbeats 1000000 in
theorem Sign_any (s : ByteArray) (w : World) : Calls Tryz.prog 103 #[.string s] w fun e w' => e = .returned (.bool (sgn s.data.toList)) ∧ w' = w := by
  have HG := hid (sgn_list s.toList)
  rw [show s.data.toList = s.toList from (Lib.toList_data s).symm]
  go_enter Tryz.func103, Tryz.ntmps103
  go_wp2
  all_goals
    go_ret
    refine ⟨ret_bool ?_, rfl⟩
    rw [HG.out]
    clear HG
    simp_all

/-- The word with which a text begins, its signs of at most m bytes looked for. -/
def fsA (l : List UInt8) : Nat → Nat
  | 0 => Wo.lets l
  | m + 1 => if sgn (l.take (m + 1)) then m + 1 else fsA l m
theorem fsA_fst (l : List UInt8) : Wo.fst l = fsA l (min 2 l.length) := by
  match l with
  | [] => rfl
  | [a] => rfl
  | a :: b :: t =>
    have : min 2 (a :: b :: t).length = 2 := by simp only [List.length_cons]; omega
    rw [this]; rfl

set_option maxHeartbeats 1000000 in
theorem first_any (s : ByteArray) (w : World) (hs : s.size ≤ maxLen) : Calls Tryz.prog 75 #[.string s] w fun e w' => e = .returned (.int .i64 (Wo.fst s.data.toList : Int)) ∧ w' = w := by
  have HF := hid (fsA_fst s.data.toList)
  have hmin : ∀ w : World, (Builtin.min_ #[3, 3] 3 #[.int .i64 2, .int .i64 (s.size : Int)]).run Tryz.prog w = .ok (.int .i64 ((min 2 s.size : Nat) : Int)) w := by
    intro w
    rw [run_min_int2]
    congr 2
    split <;> omega
  go_enter Tryz.func75, Tryz.ntmps75
  go_wp2
  go_loop [3] (fun n => ∃ m : Nat, m ≤ s.size ∧ m ≤ 2 ∧ n = .int .i64 m ∧ Hid (Wo.fst s.data.toList = fsA s.data.toList m)) (fun n => (intOf n).toNat)
  case atStart => exact ⟨min 2 s.size, by omega, by omega, rfl, by show _ = _; rw [HF.out, ← Lib.size_eq]⟩
  case round =>
    obtain ⟨m, hm, hm2, rfl, HM⟩ := hrel
    clear hmin
    cases m with
    | zero =>
      go_wp2_with (go_at_call 104; refine (letters_any s _ hs).mono ?_; rintro e w' ⟨rfl, rfl⟩)
      go_ret
      exact ⟨ret_int (by rw [HM.out]; rfl), rfl⟩
    | succ m =>
      have hI : (0 : Int) < ((m + 1 : Nat) : Int) := by omega
      have hI1 : (0 : Int) ≤ ((m + 1 : Nat) : Int) := by omega
      have hI2 : ((m + 1 : Nat) : Int) ≤ (s.size : Int) := by omega
      have q := fun w => Sign_any (s.extract 0 (m + 1)) w
      rw [ext_take] at q
      rcases bool_two (sgn (s.data.toList.take (m + 1))) with h | h
      · have HR := hid (show Wo.fst s.data.toList = fsA s.data.toList m by rw [HM.out, fsA, h]; rfl)
        rw [h] at q
        clear h
        go_wp2_with (go_at_call 103; refine (q _).mono ?_; rintro e w' ⟨rfl, rfl⟩)
        go_round
        case rel => exact ⟨m, by omega, by omega, by go_num, HR⟩
        case measure => simp [intOf]
      · have HR := hid (show Wo.fst s.data.toList = m + 1 by rw [HM.out, fsA, h]; rfl)
        rw [h] at q
        clear h
        go_wp2_with (go_at_call 103; refine (q _).mono ?_; rintro e w' ⟨rfl, rfl⟩)
        go_ret
        exact ⟨ret_int (by rw [HR.out]; rfl), rfl⟩
end Go.Proofs.YtagppgncanimaaaGreatDoor
namespace Go.Proofs.YtagppgncanimaaaGreatDoor
open Go.RowKit

theorem empty_of_size {s : ByteArray} (h : s.size = 0) : s.data.toList = [] := by
  rw [Lib.size_eq] at h; exact List.length_eq_zero_iff.1 h
theorem list_size (s : ByteArray) : s.data.toList.length = s.size := (Lib.size_eq s).symm
theorem toList_nil (s : ByteArray) : (s.toList == []) = decide (s.size = 0) := by
  rw [Lib.toList_data, Lib.size_eq]
  cases s.data.toList <;> simp

set_option maxHeartbeats 400000 in
theorem isWord_any (s : ByteArray) (w : World) (hs : s.size ≤ maxLen) : Calls Tryz.prog 45 #[.string s] w fun e w' => e = .returned (.bool (Wo.isW s.data.toList)) ∧ w' = w := by
  by_cases h0 : s.size = 0
  · have HI := hid (show Wo.isW s.data.toList = false by rw [empty_of_size h0]; rfl)
    have hn : (s.toList == []) = true := by rw [toList_nil, h0]; rfl
    clear h0
    go_enter Tryz.func45, Tryz.ntmps45
    go_wp2
    go_ret
    exact ⟨ret_bool HI.out.symm, rfl⟩
  · have hn : (s.toList == []) = false := by rw [toList_nil]; exact decide_eq_false h0
    have HI := hid (show Wo.isW s.data.toList = ((Wo.fst s.data.toList : Int) == (s.size : Int)) by
      have : s.data.toList ≠ [] := fun e => h0 (by rw [Lib.size_eq, e]; rfl)
      unfold Wo.isW
      rw [Bool.eq_iff_iff, decide_eq_true_iff, beq_iff_eq, list_size]
      exact ⟨fun h => by omega, fun h => ⟨this, by omega⟩⟩)
    clear h0
    go_enter Tryz.func45, Tryz.ntmps45
    go_wp2_with (go_at_call 75; refine (first_any s _ hs).mono ?_; rintro e w' ⟨rfl, rfl⟩)
    go_ret
    exact ⟨ret_bool HI.out.symm, rfl⟩

set_option maxHeartbeats 400000 in
theorem mayTouch_any (a b : ByteArray) (w : World) (hs : a.size + b.size ≤ maxLen) : Calls Tryz.prog 46 #[.string a, .string b] w fun e w' => e = .returned (.bool (!Wo.glue a.data.toList b.data.toList)) ∧ w' = w := by
  have HI := hid (show (!Wo.glue a.data.toList b.data.toList) = ((Wo.fst (a.data.toList ++ b.data.toList) : Int) == (a.size : Int)) by
    unfold Wo.glue
    rw [Bool.eq_iff_iff, Bool.not_eq_true', decide_eq_false_iff_not, beq_iff_eq, list_size]
    constructor
    · intro h; omega
    · intro h; omega)
  have hsz : (a ++ b).size ≤ maxLen := by rw [ByteArray.size_append]; exact hs
  have hov : ¬ 9223372036854775807 < a.size + b.size := by unfold maxLen at hs; omega
  go_enter Tryz.func46, Tryz.ntmps46
  go_wp2_with (go_at_call 75; refine (first_any (a ++ b) _ hsz).mono ?_; rintro e w' ⟨rfl, rfl⟩)
  go_ret
  exact ⟨ret_bool HI.out.symm, rfl⟩
end Go.Proofs.YtagppgncanimaaaGreatDoor
namespace Go.Proofs.YtagppgncanimaaaGreatDoor
open Go.RowKit

theorem run_indexByte (s : ByteArray) (c : Int) (w : World) : (callFunc 163 #[.string s, .int .u8 c]).run Tryz.prog w = .ok (.value (.int .i64 (Lib.indexByte s.data.toList c.toNat.toUInt8))) w := by
  rw [run_callFunc_extern Tryz.func163 (by kernel_rfl) (by kernel_rfl) (by kernel_rfl) (e := Extern.BytealgIndexByte.indexByte) (by kernel_rfl), Lib.run_indexByteString]
  rfl

set_option maxHeartbeats 400000 in
theorem Index_one (s : ByteArray) (c : UInt8) (w : World) :
    Calls Tryz.prog 144 #[.string s, .string ⟨#[c]⟩] w fun e w' => e = .returned (.int .i64 (Lib.indexByte s.data.toList c)) ∧ w' = w := by
  have hx : ∀ w : World, (callFunc 163 #[.string s, .int .u8 (((⟨#[c]⟩ : ByteArray)[0]'(by show 0 < 1; omega)).toNat : Int)]).run Tryz.prog w = .ok (.value (.int .i64 (Lib.indexByte s.data.toList c))) w := fun w => by
    have := run_indexByte s (c.toNat : Int) w
    have e : ((c.toNat : Int)).toNat.toUInt8 = c := by simp
    rw [e] at this
    exact this
  by_cases he : [c] = s.toList
  · have hb : ([c] == s.toList) = true := by rw [← he]; simp
    have HD := hid (show Lib.indexByte s.data.toList c = 0 by
      rw [← Lib.toList_data, ← he]; simp [Lib.indexByte])
    clear he
    go_enter Tryz.func144, Tryz.ntmps144
    go_wp2
    go_ret
    exact ⟨ret_int HD.out.symm, rfl⟩
  · have hb : ([c] == s.toList) = false := beq_eq_false_iff_ne.2 he
    clear he
    go_enter Tryz.func144, Tryz.ntmps144
    go_wp2
    go_ret
    exact ⟨rfl, rfl⟩

theorem index_hit (p t : List UInt8) (c : UInt8) (h : ∀ x ∈ p, x ≠ c) : Lib.indexByte (p ++ c :: t) c = (p.length : Int) := by
  induction p with
  | nil => simp [Lib.indexByte]
  | cons a p ih =>
    have e := ih (fun x hx => h x (List.mem_cons_of_mem _ hx))
    have ha : (a == c) = false := beq_eq_false_iff_ne.2 (h a (by simp))
    show Lib.indexByte (a :: (p ++ c :: t)) c = _
    unfold Lib.indexByte
    rw [ha, e]
    have : ((p.length : Int) == -1) = false := by rw [beq_eq_false_iff_ne]; omega
    rw [this]; simp
theorem index_miss (l : List UInt8) (c : UInt8) (h : ∀ x ∈ l, x ≠ c) : Lib.indexByte l c = -1 := by
  induction l with
  | nil => rfl
  | cons a p ih =>
    have e := ih (fun x hx => h x (List.mem_cons_of_mem _ hx))
    have ha : (a == c) = false := beq_eq_false_iff_ne.2 (h a (by simp))
    unfold Lib.indexByte
    rw [ha, e]; rfl
theorem split_at (l : List UInt8) (c : UInt8) : (∀ x ∈ l, x ≠ c) ∨ ∃ p t, l = p ++ c :: t ∧ ∀ x ∈ p, x ≠ c := by
  induction l with
  | nil => left; simp
  | cons a l ih =>
    by_cases h : a = c
    · right; exact ⟨[], l, by rw [h]; rfl, by simp⟩
    · rcases ih with ih | ⟨p, t, rfl, hp⟩
      · left; intro x hx; rcases List.mem_cons.1 hx with rfl | hx
        · exact h
        · exact ih x hx
      · right; refine ⟨a :: p, t, rfl, ?_⟩
        intro x hx; rcases List.mem_cons.1 hx with rfl | hx
        · exact h
        · exact hp x hx

/-- A text by its bytes. -/
abbrev tx (l : List UInt8) : ByteArray := ⟨l.toArray⟩
theorem tx_eq (s : ByteArray) : s = tx s.data.toList := rfl
theorem tx_size (l : List UInt8) : (tx l).size = l.length := by rw [Lib.size_eq]

set_option maxHeartbeats 400000 in
theorem cut_miss (l : List UInt8) (c : UInt8) (w : World) (h : ∀ x ∈ l, x ≠ c) :
    Calls Tryz.prog 114 #[.string (tx l), .string ⟨#[c]⟩] w fun e w' => e = .returned (.tuple #[.string (tx l), .string (tx []), .bool false]) ∧ ∃ n, w' = w.drewN n := by
  have q := fun w => Index_one (tx l) c w
  rw [show (tx l).data.toList = l from rfl, index_miss l c h] at q
  clear h
  go_enter Tryz.func114, Tryz.ntmps114
  go_wp2_with (go_at_call 144; refine (q _).mono ?_; rintro e w' ⟨rfl, rfl⟩)
  go_ret3
  exact ⟨rfl, 0, rfl⟩

set_option maxHeartbeats 400000 in
theorem cut_hit (p t : List UInt8) (c : UInt8) (w : World) (h : ∀ x ∈ p, x ≠ c) (hs : p.length + t.length + 1 ≤ maxLen) :
    Calls Tryz.prog 114 #[.string (tx (p ++ c :: t)), .string ⟨#[c]⟩] w fun e w' => e = .returned (.tuple #[.string (tx p), .string (tx t), .bool true]) ∧ ∃ n, w' = w.drewN n := by
  have q := fun w => Index_one (tx (p ++ c :: t)) c w
  rw [show (tx (p ++ c :: t)).data.toList = p ++ c :: t from rfl, index_hit p t c h] at q
  clear h
  unfold maxLen at hs
  have hsz : (tx (p ++ c :: t)).size = p.length + (t.length + 1) := by rw [tx_size]; simp
  have E1 := hid (show (tx (p ++ c :: t)).extract 0 p.length = tx p by
    rw [Lib.extract_eq]; congr 1; simp)
  have E2 := hid (show (tx (p ++ c :: t)).extract (p.length + 1) (tx (p ++ c :: t)).size = tx t by
    rw [Lib.extract_eq, hsz]; congr 1
    have : (p ++ c :: t).drop (p.length + 1) = t := by rw [List.drop_append]; simp
    rw [this, List.take_of_length_le (by omega)])
  obtain ⟨s, hsd⟩ : ∃ s, s = tx (p ++ c :: t) := ⟨_, rfl⟩
  rw [← hsd] at q E1 E2 hsz ⊢
  have HS := hid hsd
  clear hsd
  have HZ := hid hsz
  have hc1 : ((⟨#[c]⟩ : ByteArray).size : Int) = 1 := rfl
  have c1 : (0 : Int) ≤ (p.length : Int) := by omega
  have c2 : (p.length : Int) ≤ (s.size : Int) := by omega
  have c3 : (0 : Int) ≤ (p.length : Int) + 1 := by omega
  have c4 : (p.length : Int) + 1 ≤ (s.size : Int) := by omega
  clear hsz
  go_enter Tryz.func114, Tryz.ntmps114
  go_wp2_with (go_at_call 144; refine (q _).mono ?_; rintro e w' ⟨rfl, rfl⟩)
  go_quiet (fail)
  go_wp2
  go_ret3
  refine ⟨?_, _, rfl⟩
  rw [← E1.out, ← E2.out]
  rfl

set_option maxHeartbeats 400000 in
theorem Cut_miss (l : List UInt8) (c : UInt8) (w : World) (h : ∀ x ∈ l, x ≠ c) :
    Calls Tryz.prog 87 #[.string (tx l), .string ⟨#[c]⟩] w fun e w' => e = .returned (.tuple #[.string (tx l), .string (tx []), .bool false]) ∧ ∃ n, w' = w.drewN n := by
  have H := hid h
  clear h
  go_enter Tryz.func87, Tryz.ntmps87
  go_wp2_with (go_at_call 114; refine (cut_miss l c _ H.out).mono ?_; rintro e w' ⟨rfl, n, rfl⟩)
  go_ret3
  exact ⟨rfl, n, rfl⟩

set_option maxHeartbeats 400000 in
theorem Cut_hit (p t : List UInt8) (c : UInt8) (w : World) (h : ∀ x ∈ p, x ≠ c) (hs : p.length + t.length + 1 ≤ maxLen) :
    Calls Tryz.prog 87 #[.string (tx (p ++ c :: t)), .string ⟨#[c]⟩] w fun e w' => e = .returned (.tuple #[.string (tx p), .string (tx t), .bool true]) ∧ ∃ n, w' = w.drewN n := by
  have H := hid h
  clear h
  have q := fun w => cut_hit p t c w H.out hs
  obtain ⟨s, hsd⟩ : ∃ s, s = tx (p ++ c :: t) := ⟨_, rfl⟩
  rw [← hsd] at q ⊢
  clear hsd
  go_enter Tryz.func87, Tryz.ntmps87
  go_wp2_with (go_at_call 114; refine (q _).mono ?_; rintro e w' ⟨rfl, n, rfl⟩)
  go_ret3
  exact ⟨rfl, n, rfl⟩
end Go.Proofs.YtagppgncanimaaaGreatDoor
namespace Go.Proofs.YtagppgncanimaaaGreatDoor
open Go.RowKit

theorem free_of {w : World} {b o : Nat} {cs : Array Value} {t : TypeId} (h : w.heap[b]? = some (.cells cs t (0, 0))) : w.frozen? ⟨b, o, none⟩ = false := by
  simp [World.frozen?, h]
theorem cell_at {w : World} {b o : Nat} {cs : Array Value} {t : TypeId} {r : Nat × Nat} (h : w.heap[b]? = some (.cells cs t r)) : w.cell? ⟨b, o, none⟩ = cs[o]? := by
  simp [World.cell?, h]
theorem block_set {w : World} {b o : Nat} {cs : Array Value} {t : TypeId} (u : Value) (h : w.heap[b]? = some (.cells cs t (0, 0))) :
    (w.setCell ⟨b, o, none⟩ u).heap[b]? = some (.cells (cs.setIfInBounds o u) t (0, 0)) := by
  have hlt := lt_of_block h
  have h' : w.heap[b] = .cells cs t (0, 0) := by simpa [Array.getElem?_eq_getElem hlt] using h
  show (w.heap.modify b _)[b]? = _
  rw [Array.getElem?_eq_getElem (by simpa using hlt), Array.getElem_modify_self, h']
  rfl
theorem block_other {w : World} {b g o : Nat} {x : Obj} (u : Value) (h : w.heap[b]? = some x) (hne : b ≠ g) : (w.setCell ⟨g, o, none⟩ u).heap[b]? = some x := by
  rw [Below.heap_setCell _ _ _ _ hne]; exact h
theorem new_0 (w : World) (o : Obj) : (w.alloc o).heap[w.heap.size]? = some o := by
  show (w.heap.push o)[w.heap.size]? = _
  rw [Array.getElem?_push, if_pos rfl]
theorem new_1 (w : World) (o o' : Obj) : ((w.alloc o).alloc o').heap[w.heap.size + 1]? = some o' := by
  show ((w.heap.push o).push o')[w.heap.size + 1]? = _
  rw [Array.getElem?_push, if_pos (by simp)]
theorem new_old (w : World) (o : Obj) {k : Nat} {x : Obj} (h : w.heap[k]? = some x) : (w.alloc o).heap[k]? = some x := by
  have := lt_of_block h
  show (w.heap.push o)[k]? = _
  rw [Array.getElem?_push, if_neg (by omega), h]
theorem cells_some {w : World} {g : Nat} {cs : Array Value} {t : TypeId} (h : w.heap[g]? = some (.cells cs t (0, 0))) {x : Nat} (hx : x < cs.size) : ∃ v, w.cell? ⟨g, x, none⟩ = some v :=
  ⟨cs[x], by simp [World.cell?, h, hx]⟩
theorem below_block {B k : Nat} {w w' : World} (h : Below B w w') {x : Obj} (hx : w.heap[k]? = some x) (hk : k < B) : w'.heap[k]? = some x := (h.block k hk).trans hx
theorem below_drewN {B : Nat} {w w1 : World} {n : Nat} (h : Below B w w1) : Below B w (w1.drewN n) := h.trans ⟨rfl, rfl, rfl, Nat.le_refl _, fun _ _ => rfl⟩
theorem undrew {w w1 : World} (h : Below w.drew.heap.size w.drew w1) : Below w.heap.size w w1 := ⟨h.os, h.tape, h.output, h.size, h.block⟩
theorem below_two {w w1 w2 : World} (h1 : Below w.heap.size w w1) (h2 : Below w1.heap.size w1 w2) : Below w.heap.size w w2 := h1.trans (h2.mono h1.size)
theorem grown_of_below {a b : World} (r : Option Nat) (h : Below a.heap.size a b) : a.grownBy b r := ⟨h.os, h.tape, h.output, h.size, fun i hi _ => h.block i hi⟩
theorem grown_through {a b c : World} {r s : Option Nat} (h : a.grownBy b r) (k : b.grownBy c s) (hs : ∀ i, i < a.heap.size → some i ≠ r → some i ≠ s) : a.grownBy c r :=
  ⟨k.os.trans h.os, k.tape.trans h.tape, k.output.trans h.output, Nat.le_trans h.size k.size, fun i hi hne => (k.block i (Nat.lt_of_lt_of_le hi h.size) (hs i hi hne)).trans (h.block i hi hne)⟩
theorem shape_at {w : World} {b : Nat} {cs : Array Value} {t : TypeId} {r : Nat × Nat} (h : w.heap[b]? = some (.cells cs t r)) : w.shape? b = some (t, cs.size) := by
  simp [World.shape?, h]
/-- Cells stored one behind the other: the block. -/
def setAll (cs : Array Value) : Nat → List Value → Array Value
  | _, [] => cs
  | o, v :: r => setAll (cs.setIfInBounds o v) (o + 1) r
theorem setAll_size (vs : List Value) : ∀ (cs : Array Value) (o : Nat), (setAll cs o vs).size = cs.size := by
  induction vs with
  | nil => intro cs o; rfl
  | cons v r ih => intro cs o; show (setAll _ _ r).size = _; rw [ih]; simp
theorem block_setCells {b : Nat} {t : TypeId} (vs : List Value) : ∀ (o : Nat) (w : World) (cs : Array Value), w.heap[b]? = some (.cells cs t (0, 0)) → (w.setCells b o vs).heap[b]? = some (.cells (setAll cs o vs) t (0, 0)) := by
  induction vs with
  | nil => intro o w cs h; exact h
  | cons v r ih => intro o w cs h; exact ih (o + 1) _ _ (block_set v h)
end Go.Proofs.YtagppgncanimaaaGreatDoor
