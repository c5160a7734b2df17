/-
  Names and numbers, over lists of bytes. No program is named here.
  Words one behind the other: where a blank must stand between two, and that what is said is read as it was said. No program is named here.
  Texts as lines and words, over lists of bytes: letters, signs, the word with which a text begins, the words of a line, the lines of a text. No program is named here.
  The law CubeMeets: of any two texts it answers true.
-/
import Derived.Test.YtbfiggghpflioaaGreatDoorRefAnd
namespace Go.Proofs.YtbfiggghpflioaaGreatDoor.Cub
open Go.RowKit

/-- Has: the answer, the error. -/
def hasX (s : ByteArray) : Bool := s.data.toList.contains 120
def errH (c h : ByteArray) : Int := if hasX h = true then 10 else err2 h c
def hasB (c h : ByteArray) : Bool := !hasX h && insB h c

set_option maxRecDepth 8000 in
set_option maxHeartbeats 400000 in
theorem Has_any (c h : ByteArray) (w : World) :
    Calls Tryz.prog 65 #[.string c, .string h] w fun e w' => e = .returned (.tuple #[.bool (hasB c h), .int .i64 (errH c h)]) ∧ Below w.heap.size w w' := by
  rcases bool_two (hasX h) with hx | hx
  · have e1 : hasB c h = insB h c := by simp [hasB, hx]
    have e2 : errH c h = err2 h c := by simp [errH, hx]
    rw [e1, e2]
    have HX := hid hx
    clear hx e1 e2
    go_enter Tryz.func65, Tryz.ntmps65
    go_wp2_with fail
    have q := Contains_x h w
    rw [show h.data.toList.contains 120 = false from HX.out] at q
    refine q.mono ?_
    clear q
    rintro e w1 ⟨rfl, rfl⟩
    go_wp2_with fail
    refine (Inside_any h c _).mono ?_
    rintro e w2 ⟨rfl, hb2⟩
    go_wp2
    go_ret2
    exact ⟨rfl, hb2⟩
  · have e1 : hasB c h = false := by simp [hasB, hx]
    have e2 : errH c h = 10 := by simp [errH, hx]
    rw [e1, e2]
    have HX := hid hx
    clear hx e1 e2
    go_enter Tryz.func65, Tryz.ntmps65
    go_wp2_with fail
    have q := Contains_x h w
    rw [show h.data.toList.contains 120 = true from HX.out] at q
    refine q.mono ?_
    clear q
    rintro e w1 ⟨rfl, rfl⟩
    go_wp2
    go_ret2
    exact ⟨rfl, Below.refl _ _⟩

/-- One lies inside the other just if what both have in common is the one. -/
theorem inside_iff_meet {a b : List UInt8} (h : a.length = b.length) : Cu.insideB a b = (Cu.meetsB a b && (Cu.meetL a b == a)) := by
  rw [Bool.eq_iff_iff, Bool.and_eq_true, beq_iff_eq]
  unfold Cu.insideB Cu.meetsB
  rw [Cu.zip_all h, Cu.zip_all h]
  constructor
  · intro H
    refine ⟨fun i hi => ?_, ?_⟩
    · have := H i hi
      simp only [Bool.or_eq_true, beq_iff_eq] at this ⊢
      rcases this with e | e
      · exact Or.inl (Or.inl e)
      · exact Or.inr e
    · apply List.ext_getElem (Cu.meetL_length h)
      intro i h1 h2
      rw [Cu.meetL_at h i h2]
      have := H i h2
      simp only [Bool.or_eq_true, beq_iff_eq] at this
      split
      · rename_i e
        rw [beq_iff_eq] at e
        rcases this with f | f
        · exact f.symm
        · rw [e, f]
      · rfl
  · rintro ⟨H1, H2⟩ i hi
    have := H1 i hi
    simp only [Bool.or_eq_true, beq_iff_eq] at this ⊢
    rcases this with (e | e) | e
    · exact Or.inl e
    · have hg := Cu.meetL_at h i hi
      simp only [e, beq_self_eq_true, if_true] at hg
      have : (Cu.meetL a b)[i]'(by rw [Cu.meetL_length h]; exact hi) = a[i] := by simp only [H2]
      rw [hg] at this
      exact Or.inl this.symm
    · exact Or.inr e

theorem insB_meet (a b : ByteArray) : insB a b = (okB a b && ((meetS a b).data.toList == a.data.toList)) := by
  by_cases h : err2 a b = 0
  · obtain ⟨_, _, hs⟩ := err2_zero h
    rcases bool_two (okB a b) with ho | ho
    · have hm : Cu.meetsB a.data.toList b.data.toList = false := by simpa [okB, h] using ho
      rw [ho, insB, h, inside_iff_meet hs, hm]; rfl
    · rw [meetS_data ho, ho, insB, h, inside_iff_meet hs, (okB_zero ho).2]; rfl
  · have e1 : okB a b = false := by simp [okB, h]
    rw [e1]; simp [insB, h]

theorem errH_bad {c h : ByteArray} (hb : Cu.right c.data.toList = false ∨ (!hasX h && Cu.right h.data.toList) = false) : errH c h = 10 ∧ hasB c h = false := by
  rcases bool_two (hasX h) with hx | hx
  · have e : err2 h c = 10 := by
      unfold err2
      rw [if_neg]
      rintro ⟨h1, h2⟩
      rcases hb with e | e
      · rw [e] at h2; cases h2
      · rw [hx, h1] at e; cases e
    refine ⟨by simp [errH, hx, e], by simp [hasB, insB, e]⟩
  · exact ⟨by simp [errH, hx], by simp [hasB, hx]⟩

end Go.Proofs.YtbfiggghpflioaaGreatDoor.Cub
namespace Go.Proofs.YtbfiggghpflioaaGreatDoor
namespace Wo

def dg (x : Nat) : Bool := decide (48 ≤ x ∧ x ≤ 57)
def ltr (x : Nat) : Bool := decide ((97 ≤ x ∧ x ≤ 122) ∨ (65 ≤ x ∧ x ≤ 90) ∨ (48 ≤ x ∧ x ≤ 57) ∨ x = 95 ∨ x = 45)
def sgl (x : Nat) : Bool := [40, 41, 44, 124, 42, 43, 63, 46, 36, 61, 60, 62].contains x
def dbl (x y : Nat) : Bool := (x == 61 && y == 61) || (x == 60 && y == 61) || (x == 62 && y == 61) || (x == 45 && y == 62)
def blk (x : Nat) : Bool := x == 32 || x == 9

/-- Does a text begin with the sign ->? -/
def arr : List UInt8 → Bool
  | a :: b :: _ => a.toNat == 45 && b.toNat == 62
  | _ => false

/-- How many letters a text begins with, up to the sign ->. -/
def lets : List UInt8 → Nat
  | [] => 0
  | a :: t => if ltr a.toNat && !arr (a :: t) then lets t + 1 else 0

/-- How many bytes the word has with which a text begins. -/
def fst : List UInt8 → Nat
  | [] => 0
  | [a] => if sgl a.toNat then 1 else lets [a]
  | a :: b :: t => if dbl a.toNat b.toNat then 2 else if sgl a.toNat then 1 else lets (a :: b :: t)

theorem fst_one (a : UInt8) : fst [a] = if sgl a.toNat then 1 else lets [a] := rfl
theorem fst_two (a b : UInt8) (t : List UInt8) : fst (a :: b :: t) = if dbl a.toNat b.toNat then 2 else if sgl a.toNat then 1 else lets (a :: b :: t) := rfl
theorem lets_cons (a : UInt8) (t : List UInt8) : lets (a :: t) = if ltr a.toNat && !arr (a :: t) then lets t + 1 else 0 := rfl
theorem lets_le (l : List UInt8) : lets l ≤ l.length := by
  induction l with
  | nil => exact Nat.le_refl _
  | cons a t ih => rw [lets_cons]; split <;> simp <;> omega
theorem fst_le (l : List UInt8) : fst l ≤ l.length := by
  match l with
  | [] => exact Nat.le_refl _
  | [a] => rw [fst_one]; split; exact Nat.le_refl _; exact lets_le _
  | a :: b :: t =>
    rw [fst_two]
    split
    · simp
    · split
      · simp
      · exact lets_le _

/-- The words of a line, each with its column, and the column of the first byte with which none begins. -/
def toks : Nat → List UInt8 → Nat → List (List UInt8 × Nat) × Option Nat
  | 0, _, _ => ([], none)
  | _ + 1, [], _ => ([], none)
  | n + 1, a :: t, c =>
    if a.toNat = 35 then ([], none)
    else if blk a.toNat then toks n t (c + 1)
    else if fst (a :: t) = 0 then ([], some c)
    else (((a :: t).take (fst (a :: t)), c) :: (toks n ((a :: t).drop (fst (a :: t))) (c + fst (a :: t))).1, (toks n ((a :: t).drop (fst (a :: t))) (c + fst (a :: t))).2)

theorem toks_fuel (n m : Nat) (l : List UInt8) (c : Nat) (hn : l.length ≤ n) (hm : l.length ≤ m) : toks n l c = toks m l c := by
  induction n generalizing m l c with
  | zero =>
    have : l = [] := List.length_eq_zero_iff.1 (by omega)
    subst this
    cases m <;> rfl
  | succ n ih =>
    cases l with
    | nil => cases m <;> rfl
    | cons a t =>
      cases m with
      | zero => simp at hm
      | succ m =>
        simp only [List.length_cons] at hn hm
        unfold toks
        split
        · rfl
        · split
          · exact ih m t _ (by omega) (by omega)
          · split
            · rfl
            · rw [ih m _ _ (by simp only [List.length_drop, List.length_cons]; omega) (by simp only [List.length_drop, List.length_cons]; omega)]

def tk (l : List UInt8) (c : Nat) : List (List UInt8 × Nat) × Option Nat := toks l.length l c

theorem tk_nil (c : Nat) : tk [] c = ([], none) := rfl
theorem tk_hash (a : UInt8) (t : List UInt8) (c : Nat) (h : a.toNat = 35) : tk (a :: t) c = ([], none) := by
  show toks (t.length + 1) (a :: t) c = _
  unfold toks; rw [if_pos h]
theorem tk_blank (a : UInt8) (t : List UInt8) (c : Nat) (h : a.toNat ≠ 35) (h2 : blk a.toNat = true) : tk (a :: t) c = tk t (c + 1) := by
  show toks (t.length + 1) (a :: t) c = _
  conv => lhs; unfold toks
  rw [if_neg h, if_pos h2]; rfl
theorem tk_fault (a : UInt8) (t : List UInt8) (c : Nat) (h : a.toNat ≠ 35) (h2 : blk a.toNat = false) (h3 : fst (a :: t) = 0) : tk (a :: t) c = ([], some c) := by
  show toks (t.length + 1) (a :: t) c = _
  unfold toks
  rw [if_neg h, if_neg (by rw [h2]; simp), if_pos h3]
theorem tk_word (a : UInt8) (t : List UInt8) (c : Nat) (h : a.toNat ≠ 35) (h2 : blk a.toNat = false) (h3 : fst (a :: t) ≠ 0) :
    tk (a :: t) c = (((a :: t).take (fst (a :: t)), c) :: (tk ((a :: t).drop (fst (a :: t))) (c + fst (a :: t))).1, (tk ((a :: t).drop (fst (a :: t))) (c + fst (a :: t))).2) := by
  show toks (t.length + 1) (a :: t) c = _
  conv => lhs; unfold toks
  rw [if_neg h, if_neg (by rw [h2]; simp), if_neg h3]
  have e : toks t.length ((a :: t).drop (fst (a :: t))) (c + fst (a :: t)) = tk ((a :: t).drop (fst (a :: t))) (c + fst (a :: t)) :=
    toks_fuel _ _ _ _ (by simp only [List.length_drop, List.length_cons]; omega) (Nat.le_refl _)
  rw [e]

/-- What stands ahead of the first #. -/
def code (l : List UInt8) : List UInt8 := l.takeWhile (fun a => a.toNat != 35)

theorem ltr_35 {x : Nat} (h : x = 35) : ltr x = false := by subst h; decide
theorem sgl_35 {x : Nat} (h : x = 35) : sgl x = false := by subst h; decide
theorem dbl_35 {x y : Nat} (h : y = 35) : dbl x y = false := by subst h; simp [dbl]
theorem code_hash {a : UInt8} (t : List UInt8) (h : a.toNat = 35) : code (a :: t) = [] := by unfold code; rw [List.takeWhile_cons]; simp [h]
theorem code_cons {a : UInt8} (t : List UInt8) (h : a.toNat ≠ 35) : code (a :: t) = a :: code t := by unfold code; rw [List.takeWhile_cons]; simp [h]

theorem arr_code (l : List UInt8) : arr (code l) = arr l := by
  match l with
  | [] => rfl
  | [a] => by_cases h : a.toNat = 35 <;> simp [code, h, arr]
  | a :: b :: t =>
    by_cases h : a.toNat = 35
    · rw [code_hash _ h]; simp [arr, h]
    · rw [code_cons _ h]
      by_cases h2 : b.toNat = 35
      · rw [code_hash _ h2]; simp [arr, h2]
      · rw [code_cons _ h2]; rfl
theorem lets_code (l : List UInt8) : lets (code l) = lets l := by
  induction l with
  | nil => rfl
  | cons a t ih =>
    by_cases h : a.toNat = 35
    · rw [code_hash _ h, lets_cons, ltr_35 h]; rfl
    · have ha := arr_code (a :: t)
      rw [code_cons _ h] at ha ⊢
      rw [lets_cons, lets_cons, ha, ih]
theorem fst_code (l : List UInt8) : fst (code l) = fst l := by
  match l with
  | [] => rfl
  | [a] =>
    by_cases h : a.toNat = 35
    · rw [code_hash _ h, fst_one, lets_cons, ltr_35 h, sgl_35 h]; rfl
    · rw [code_cons _ h]; rfl
  | a :: b :: t =>
    have hl := lets_code (a :: b :: t)
    by_cases h : a.toNat = 35
    · rw [code_hash _ h, fst_two, lets_cons, ltr_35 h, sgl_35 h]; simp [dbl, h, fst]
    · rw [code_cons _ h] at hl ⊢
      by_cases h2 : b.toNat = 35
      · rw [code_hash _ h2] at hl ⊢
        rw [fst_two, dbl_35 h2, ← hl]; rfl
      · rw [code_cons _ h2] at hl ⊢
        rw [fst_two, fst_two, hl]

theorem code_drop (l : List UInt8) (k : Nat) (h : k ≤ (code l).length) : (code l).drop k = code (l.drop k) := by
  induction l generalizing k with
  | nil => simp [code] at h; subst h; rfl
  | cons a t ih =>
    by_cases ha : a.toNat = 35
    · rw [code_hash _ ha] at h ⊢; simp at h; subst h; simp [code_hash _ ha]
    · rw [code_cons _ ha] at h ⊢
      cases k with
      | zero => simp [code_cons _ ha]
      | succ k => simp only [List.drop_succ_cons]; exact ih k (by simpa using h)
theorem code_take (l : List UInt8) (k : Nat) (h : k ≤ (code l).length) : (code l).take k = l.take k := by
  induction l generalizing k with
  | nil => simp [code]
  | cons a t ih =>
    by_cases ha : a.toNat = 35
    · rw [code_hash _ ha] at h; simp at h; subst h; simp
    · rw [code_cons _ ha] at h ⊢
      cases k with
      | zero => simp
      | succ k => simp only [List.take_succ_cons]; rw [ih k (by simpa using h)]

/-- The words of a line are those of what stands ahead of the first #. -/
theorem tk_code (l : List UInt8) (c : Nat) : tk (code l) c = tk l c := by
  generalize hn : l.length = n
  induction n using Nat.strongRecOn generalizing l c with
  | ind n ih =>
    cases l with
    | nil => rfl
    | cons a t =>
      simp only [List.length_cons] at hn
      by_cases h : a.toNat = 35
      · rw [code_hash _ h, tk_hash _ _ _ h]; rfl
      · have hf := fst_code (a :: t)
        have hle := fst_le (code (a :: t))
        have hd := code_drop (a :: t) (fst (a :: t)) (by omega)
        have ht := code_take (a :: t) (fst (a :: t)) (by omega)
        rw [code_cons _ h] at hf hd ht ⊢
        cases hb : blk a.toNat with
        | true => rw [tk_blank _ _ _ h hb, tk_blank _ _ _ h hb]; exact ih t.length (by omega) t _ rfl
        | false =>
          by_cases h0 : fst (a :: t) = 0
          · rw [tk_fault _ _ _ h hb h0, tk_fault _ _ _ h hb (by omega)]
          · rw [tk_word _ _ _ h hb h0, tk_word _ _ _ h hb (by omega), hf, hd, ht, ih ((a :: t).drop (fst (a :: t))).length (by simp only [List.length_drop, List.length_cons]; omega) _ _ rfl]

/-- What comes behind blanks. -/
def skp (l : List UInt8) : List UInt8 := l.dropWhile (fun a => blk a.toNat)
theorem skp_le (l : List UInt8) : (skp l).length ≤ l.length := (List.dropWhile_suffix _).length_le
theorem blk_35 {x : Nat} (h : blk x = true) : x ≠ 35 := by rintro rfl; revert h; decide
theorem tk_skp (l : List UInt8) (c : Nat) : tk l c = tk (skp l) (c + (l.length - (skp l).length)) := by
  induction l generalizing c with
  | nil => rfl
  | cons a t ih =>
    cases hb : blk a.toNat with
    | true =>
      rw [tk_blank _ _ _ (blk_35 hb) hb, ih]
      have e : skp (a :: t) = skp t := by unfold skp; rw [List.dropWhile_cons]; simp [hb]
      rw [e]
      have := skp_le t
      congr 1
      simp only [List.length_cons]; omega
    | false =>
      have e : skp (a :: t) = a :: t := by unfold skp; rw [List.dropWhile_cons]; simp [hb]
      rw [e]; simp
theorem skp_head (l : List UInt8) : skp l = [] ∨ ∃ a t, skp l = a :: t ∧ blk a.toNat = false := by
  induction l with
  | nil => exact Or.inl rfl
  | cons a t ih =>
    cases hb : blk a.toNat with
    | true => have e : skp (a :: t) = skp t := by unfold skp; rw [List.dropWhile_cons]; simp [hb]
              rw [e]; exact ih
    | false => have e : skp (a :: t) = a :: t := by unfold skp; rw [List.dropWhile_cons]; simp [hb]
               exact Or.inr ⟨a, t, e, hb⟩

/-- No # in what stands ahead of the first #. -/
theorem code_clean (l : List UInt8) : ∀ a ∈ code l, a.toNat ≠ 35 := by
  intro a ha
  have := List.all_takeWhile (p := fun a : UInt8 => a.toNat != 35) (l := l)
  rw [List.all_eq_true] at this
  simpa using this a ha

/-- A text's lines. -/
def lns : List UInt8 → List (List UInt8)
  | [] => [[]]
  | a :: t => if a.toNat = 10 then [] :: lns t else match lns t with
    | [] => [[a]]
    | h :: r => (a :: h) :: r
theorem lns_ne (l : List UInt8) : lns l ≠ [] := by
  cases l with
  | nil => simp [lns]
  | cons a t => unfold lns; split; simp; split <;> simp
theorem lns_pre (p t : List UInt8) (hp : ∀ a ∈ p, a.toNat ≠ 10) : ∃ h r, lns t = h :: r ∧ lns (p ++ t) = (p ++ h) :: r := by
  induction p with
  | nil =>
    cases e : lns t with
    | nil => exact absurd e (lns_ne t)
    | cons h r => exact ⟨h, r, rfl, e⟩
  | cons a p ih =>
    obtain ⟨h, r, e1, e2⟩ := ih (fun x hx => hp x (List.mem_cons_of_mem _ hx))
    refine ⟨h, r, e1, ?_⟩
    show lns (a :: (p ++ t)) = _
    unfold lns
    rw [if_neg (hp a (by simp)), e2]
    rfl
theorem lns_cut (p t : List UInt8) (b : UInt8) (hp : ∀ a ∈ p, a.toNat ≠ 10) (hb : b.toNat = 10) : lns (p ++ b :: t) = p :: lns t := by
  obtain ⟨h, r, e1, e2⟩ := lns_pre p (b :: t) hp
  have : lns (b :: t) = [] :: lns t := by conv => lhs; unfold lns
                                          rw [if_pos hb]
  rw [this] at e1
  injection e1 with e3 e4
  rw [e2, ← e3, ← e4, List.append_nil]
theorem lns_last (p : List UInt8) (hp : ∀ a ∈ p, a.toNat ≠ 10) : lns p = [p] := by
  obtain ⟨h, r, e1, e2⟩ := lns_pre p [] hp
  have e : lns [] = [[]] := rfl
  rw [e] at e1
  injection e1 with e3 e4
  rw [List.append_nil] at e2
  rw [e2, ← e3, ← e4, List.append_nil]

/-- A word: its bytes, its line, its column. -/
abbrev Wd := List UInt8 × Nat × Nat
def wds (n : Nat) (l : List (List UInt8 × Nat)) : List Wd := l.map fun p => (p.1, n, p.2)
/-- The words of each line that has some, and the place of the first fault; the lines count from n on. -/
def rd : List (List UInt8) → Nat → List (List Wd) × Option (Nat × Nat)
  | [], _ => ([], none)
  | l :: ls, n =>
    match (tk l 1).2 with
    | some c => ([], some (n, c))
    | none => (if (tk l 1).1 = [] then (rd ls (n + 1)).1 else wds n (tk l 1).1 :: (rd ls (n + 1)).1, (rd ls (n + 1)).2)
theorem rd_fault {l : List UInt8} {ls : List (List UInt8)} {n c : Nat} (h : (tk l 1).2 = some c) : rd (l :: ls) n = ([], some (n, c)) := by
  unfold rd; rw [h]
theorem rd_none {l : List UInt8} {ls : List (List UInt8)} {n : Nat} (h : (tk l 1).2 = none) (h2 : (tk l 1).1 = []) : rd (l :: ls) n = rd ls (n + 1) := by
  conv => lhs; unfold rd
  rw [h]; simp [h2]
theorem rd_some {l : List UInt8} {ls : List (List UInt8)} {n : Nat} (h : (tk l 1).2 = none) (h2 : (tk l 1).1 ≠ []) : rd (l :: ls) n = (wds n (tk l 1).1 :: (rd ls (n + 1)).1, (rd ls (n + 1)).2) := by
  conv => lhs; unfold rd
  rw [h]; simp [h2]
/-- What a text is read as: its lines, a fault's line and column, an error's number. -/
def read (s : List UInt8) : List (List Wd) := match (rd (lns s) 1).2 with | none => (rd (lns s) 1).1 | some _ => []
def faultL (s : List UInt8) : Nat := match (rd (lns s) 1).2 with | none => 0 | some p => p.1
def faultC (s : List UInt8) : Nat := match (rd (lns s) 1).2 with | none => 0 | some p => p.2
def err (s : List UInt8) : Nat := match (rd (lns s) 1).2 with | none => 0 | some _ => 30

end Wo
end Go.Proofs.YtbfiggghpflioaaGreatDoor
namespace Go.Proofs.YtbfiggghpflioaaGreatDoor
namespace Wo

/-- Is it a word? -/
def isW (l : List UInt8) : Bool := decide (l ≠ [] ∧ fst l = l.length)
/-- Must a blank stand between two words? -/
def glue (a b : List UInt8) : Bool := decide (fst (a ++ b) ≠ a.length)
/-- What follows a word: the others, each apart where it must be. -/
def joinT : List UInt8 → List (List UInt8) → List UInt8
  | _, [] => []
  | a, b :: r => (if glue a b then 32 :: b else b) ++ joinT b r
def sayL : List (List UInt8) → List UInt8
  | [] => []
  | a :: r => a ++ joinT a r

/-- The first k words, said. -/
def sayTo (ls : List (List UInt8)) : Nat → List UInt8
  | 0 => []
  | k + 1 => sayTo ls k ++ (if 0 < k ∧ glue (ls.getD (k - 1) []) (ls.getD k []) = true then [32] else []) ++ ls.getD k []
theorem joinT_snoc (a : List UInt8) (ls : List (List UInt8)) (b : List UInt8) : joinT a (ls ++ [b]) = joinT a ls ++ (if glue ((a :: ls).getLast (by simp)) b then 32 :: b else b) := by
  induction ls generalizing a with
  | nil =>
    show (if glue a b then 32 :: b else b) ++ [] = [] ++ (if glue a b then 32 :: b else b)
    simp only [List.append_nil, List.nil_append]
  | cons c r ih =>
    show (if glue a c then 32 :: c else c) ++ joinT c (r ++ [b]) = ((if glue a c then 32 :: c else c) ++ joinT c r) ++ _
    rw [ih c, List.append_assoc, List.getLast_cons (show c :: r ≠ [] by simp)]
theorem sayTo_take (ls : List (List UInt8)) (k : Nat) (h : k ≤ ls.length) : sayTo ls k = sayL (ls.take k) := by
  induction k with
  | zero => simp [sayTo, sayL]
  | succ k ih =>
    have hk : k < ls.length := h
    have eg : ls.getD k [] = ls[k] := by rw [List.getD_eq_getElem?_getD, List.getElem?_eq_getElem hk]; rfl
    show sayTo ls k ++ _ ++ ls.getD k [] = _
    rw [ih (by omega), List.take_succ_eq_append_getElem hk, eg]
    cases k with
    | zero => simp [sayL, joinT]
    | succ k =>
      have eg2 : ls.getD k [] = ls[k]'(by omega) := by rw [List.getD_eq_getElem?_getD, List.getElem?_eq_getElem (by omega)]; rfl
      cases hls : ls.take (k + 1) with
      | nil =>
        have := congrArg List.length hls
        rw [List.length_take] at this
        simp only [List.length_nil] at this
        omega
      | cons a r =>
        show (a ++ joinT a r) ++ _ ++ _ = a ++ joinT a (r ++ [ls[k + 1]])
        rw [joinT_snoc]
        have hlast : (a :: r).getLast (by simp) = ls[k]'(by omega) := by
          have h1 : (ls.take (k + 1)).getLast? = some (ls[k]'(by omega)) := by
            rw [List.take_succ_eq_append_getElem (by omega), List.getLast?_concat]
          rw [hls, List.getLast?_eq_some_getLast (by simp)] at h1
          exact Option.some.inj h1
        rw [hlast]
        simp only [Nat.add_sub_cancel, eg2, Nat.zero_lt_succ, true_and]
        split <;> simp
theorem sayTo_all (ls : List (List UInt8)) : sayTo ls ls.length = sayL ls := by rw [sayTo_take _ _ (Nat.le_refl _), List.take_length]
end Wo
end Go.Proofs.YtbfiggghpflioaaGreatDoor
namespace Go.Proofs.YtbfiggghpflioaaGreatDoor
namespace Wo

/-- Is it a name? -/
def nameB (l : List UInt8) : Bool := decide (l ≠ [] ∧ l.length ≤ 64 ∧ dg (l.headD 0).toNat = false ∧ (l.headD 0).toNat ≠ 45 ∧ (l.all fun c => ltr c.toNat) = true)
theorem lets_all (l : List UInt8) : lets l = l.length ↔ (l.all fun c => ltr c.toNat) = true := by
  induction l with
  | nil => simp [lets]
  | cons a t ih =>
    have eq2 : ((a :: t).all fun c => ltr c.toNat) = true ↔ ltr a.toNat = true ∧ (t.all fun c => ltr c.toNat) = true := by rw [List.all_cons, Bool.and_eq_true]
    rw [eq2, lets_cons]
    constructor
    · intro h
      split at h
      · rename_i hx
        simp only [Bool.and_eq_true] at hx
        exact ⟨hx.1, ih.1 (by simp only [List.length_cons] at h; omega)⟩
      · simp at h
    · rintro ⟨h1, h2⟩
      have ha : arr (a :: t) = false := by
        cases t with
        | nil => rfl
        | cons b t =>
          rw [List.all_cons, Bool.and_eq_true] at h2
          show (a.toNat == 45 && b.toNat == 62) = false
          have : (b.toNat == 62) = false := by
            rw [beq_eq_false_iff_ne]
            intro e
            have := h2.1
            rw [e] at this
            exact absurd this (by decide)
          rw [this]; simp
      rw [if_pos (by rw [h1, ha]; rfl), ih.2 h2]; rfl
end Wo
end Go.Proofs.YtbfiggghpflioaaGreatDoor
