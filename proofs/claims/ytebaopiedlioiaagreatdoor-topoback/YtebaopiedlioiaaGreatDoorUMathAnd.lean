/-
  strings.Clone.
  Cells and blocks of memory: small laws that name no program.
  strings.Cut at a separator of one byte, strings.TrimLeft of blanks, strings.Clone.
  Package words: isWord, mayTouch, Name, Number.
  Package words: letters, Sign, first, isWord, mayTouch.
  Package words: digit, letter, Sign, letters, first, isWord, mayTouch.
  Rules as texts: the words of a line read as a rule, a text's rules, or the first fault. Plain mathematics: no program is named here.
-/
import Derived.Test.YtebaopiedlioiaaGreatDoorWMathAnd
import Derived.Lib.SlicesCompact
import Derived.Test.YtebaopiedlioiaaGreatDoorRows
import Derived.WalkKit
import Derived.WalkSpells
import Derived.WalkLawsBesides
import Derived.RegionTactic
import Derived.ChangeAlike
import Derived.Lib.Strings
import Derived.Deep.QuietTactic
import Derived.BigQuiet
import Derived.Lib.Bytealg
import Derived.Lib.IndexAny
import Derived.Lib.UnsafeStr
import Derived.Laws.IdiomCopy
import Derived.Defers
import Derived.Recover
import Derived.Deep.RegionHeld3
import Derived.Deep.RegionWith
import Derived.Deep.DrawnRows
import Derived.Deep.AppendLies
import Derived.Deep.OwnRows
import Derived.Lib.LazyBuf
namespace Go.Proofs.YtebaopiedlioiaaGreatDoor
namespace Ru
open Wo (Wd)

/-- A fault: its line, its column, the error. -/
abbrev Ft := Nat × Nat × Nat
def ft (w : Wd) (e : Nat) : Ft := (w.2.1, w.2.2, e)
/-- What stands behind a line's words. -/
def endW (l : List Wd) : Wd := match l.getLast? with
  | some w => ([], w.2.1, w.2.2 + w.1.length)
  | none => ([], 0, 0)
/-- The word that comes: the line's end, where there is none. -/
def nx (e : Wd) : List Wd → Wd
  | [] => e
  | w :: _ => w
@[simp] theorem nx_nil (e : Wd) : nx e [] = e := rfl
@[simp] theorem nx_cons (e w : Wd) (l : List Wd) : nx e (w :: l) = w := rfl
theorem endW_text (l : List Wd) : (endW l).1 = [] := by
  unfold endW; split <;> rfl

/-- A text put among others, in order. -/
def ins : List (List UInt8) → List UInt8 → List (List UInt8)
  | [], s => [s]
  | a :: t, s => if s < a then s :: a :: t else a :: ins t s
def put (l : List (List UInt8)) (s : List UInt8) : List (List UInt8) := if s ∈ l then l else ins l s
/-- Texts in order, each once. -/
def nrm (l : List (List UInt8)) : List (List UInt8) := l.foldl put []

abbrev Rise (l : List (List UInt8)) : Prop := l.Pairwise (· < ·)

theorem lt_ne {a b : List UInt8} (h : a ≤ b) (hne : a ≠ b) : a < b := Decidable.byContradiction fun q => hne (List.le_antisymm h (List.not_lt.1 q))
theorem lt_or {a b : List UInt8} (h : ¬ a < b) : b < a ∨ a = b := by
  rcases List.le_total a b with h1 | h1
  · by_cases e : a = b
    · exact Or.inr e
    · exact absurd (lt_ne h1 e) h
  · by_cases e : a = b
    · exact Or.inr e
    · exact Or.inl (lt_ne h1 (fun q => e q.symm))

theorem mem_ins (l : List (List UInt8)) (s x : List UInt8) : x ∈ ins l s ↔ x = s ∨ x ∈ l := by
  induction l with
  | nil => simp [ins]
  | cons a t ih =>
    unfold ins
    split
    · simp
    · simp only [List.mem_cons, ih]
      constructor
      · rintro (h | h | h)
        · exact Or.inr (Or.inl h)
        · exact Or.inl h
        · exact Or.inr (Or.inr h)
      · rintro (h | h | h)
        · exact Or.inr (Or.inl h)
        · exact Or.inl h
        · exact Or.inr (Or.inr h)
theorem rise_ins {l : List (List UInt8)} {s : List UInt8} (h : Rise l) (hs : s ∉ l) : Rise (ins l s) := by
  induction l with
  | nil => simp [ins, Rise]
  | cons a t ih =>
    have h1 := List.pairwise_cons.1 h
    unfold ins
    split
    · rename_i hlt
      refine List.pairwise_cons.2 ⟨fun b hb => ?_, h⟩
      rcases List.mem_cons.1 hb with rfl | hb
      · exact hlt
      · exact List.lt_trans hlt (h1.1 b hb)
    · rename_i hlt
      refine List.pairwise_cons.2 ⟨fun b hb => ?_, ih h1.2 (fun q => hs (List.mem_cons_of_mem _ q))⟩
      rcases (mem_ins t s b).1 hb with rfl | hb
      · rcases lt_or hlt with h | h
        · exact h
        · exact absurd (h ▸ List.mem_cons_self) hs
      · exact h1.1 b hb
theorem mem_put (l : List (List UInt8)) (s x : List UInt8) : x ∈ put l s ↔ x = s ∨ x ∈ l := by
  unfold put
  split
  · rename_i h
    constructor
    · exact Or.inr
    · rintro (rfl | h1)
      · exact h
      · exact h1
  · exact mem_ins l s x
theorem rise_put {l : List (List UInt8)} {s : List UInt8} (h : Rise l) : Rise (put l s) := by
  unfold put
  split
  · exact h
  · rename_i hs; exact rise_ins h hs
theorem foldl_put (l : List (List UInt8)) : ∀ acc, Rise acc → Rise (l.foldl put acc) ∧ ∀ x, x ∈ l.foldl put acc ↔ x ∈ acc ∨ x ∈ l := by
  induction l with
  | nil => intro acc h; exact ⟨h, fun x => by simp⟩
  | cons a t ih =>
    intro acc h
    obtain ⟨h1, h2⟩ := ih (put acc a) (rise_put h)
    refine ⟨h1, fun x => ?_⟩
    show x ∈ t.foldl put (put acc a) ↔ _
    rw [h2, mem_put, List.mem_cons]
    constructor
    · rintro ((h | h) | h)
      · exact Or.inr (Or.inl h)
      · exact Or.inl h
      · exact Or.inr (Or.inr h)
    · rintro (h | h | h)
      · exact Or.inl (Or.inr h)
      · exact Or.inl (Or.inl h)
      · exact Or.inr h
theorem rise_nrm (l : List (List UInt8)) : Rise (nrm l) := (foldl_put l [] List.Pairwise.nil).1
theorem mem_nrm (l : List (List UInt8)) (x : List UInt8) : x ∈ nrm l ↔ x ∈ l := by
  have := (foldl_put l [] List.Pairwise.nil).2 x
  unfold nrm
  simpa using this
theorem nrm_snoc (l : List (List UInt8)) (s : List UInt8) : nrm (l ++ [s]) = put (nrm l) s := by simp [nrm]
/-- Rising rows of the same texts are the same. -/
theorem rise_unique {a b : List (List UInt8)} (ha : Rise a) (hb : Rise b) (h : ∀ x, x ∈ a ↔ x ∈ b) : a = b := by
  induction a generalizing b with
  | nil =>
    cases b with
    | nil => rfl
    | cons y t => exact absurd ((h y).2 List.mem_cons_self) (by simp)
  | cons x s ih =>
    cases b with
    | nil => exact absurd ((h x).1 List.mem_cons_self) (by simp)
    | cons y t =>
      have hx := List.pairwise_cons.1 ha
      have hy := List.pairwise_cons.1 hb
      have e : x = y := by
        rcases List.mem_cons.1 ((h x).1 List.mem_cons_self) with e | e
        · exact e
        · rcases List.mem_cons.1 ((h y).2 List.mem_cons_self) with e2 | e2
          · exact e2.symm
          · exact absurd (List.lt_trans (hy.1 x e) (hx.1 y e2)) (List.lt_irrefl _)
      subst e
      congr 1
      refine ih hx.2 hy.2 fun z => ?_
      constructor
      · intro hz
        rcases List.mem_cons.1 ((h z).1 (List.mem_cons_of_mem _ hz)) with e | e
        · subst e; exact absurd (hx.1 z hz) (List.lt_irrefl _)
        · exact e
      · intro hz
        rcases List.mem_cons.1 ((h z).2 (List.mem_cons_of_mem _ hz)) with e | e
        · subst e; exact absurd (hy.1 z hz) (List.lt_irrefl _)
        · exact e

theorem upTo_succ (d : Array (List UInt8)) (m : Nat) : Lib.compactUpTo d (m + 1) = Lib.compactUpTo d m ++ (if Lib.keeps d m then [d[m]!] else []) := by
  unfold Lib.compactUpTo
  rw [List.range_succ, List.filter_append, List.map_append]
  congr 1
  simp only [List.filter_cons, List.filter_nil]
  split <;> rfl
/-- A row in order, put together: it rises, and has the same texts. -/
theorem compact_rise {z : List (List UInt8)} (h : z.Pairwise (· ≤ ·)) : Rise (Lib.compact z) ∧ ∀ x, x ∈ Lib.compact z ↔ x ∈ z := by
  have key : ∀ m, m ≤ z.length → Rise (Lib.compactUpTo z.toArray m) ∧ (∀ x, x ∈ Lib.compactUpTo z.toArray m ↔ x ∈ z.take m) ∧ (∀ x, x ∈ Lib.compactUpTo z.toArray m → 0 < m → x ≤ z.toArray[m - 1]!) := by
    intro m
    induction m with
    | zero => intro _; exact ⟨List.Pairwise.nil, fun x => by simp [Lib.compactUpTo], fun x _ h0 => absurd h0 (Nat.lt_irrefl 0)⟩
    | succ m ih =>
      intro hm
      obtain ⟨h1, h2, h3⟩ := ih (by omega)
      have hget : z.toArray[m]! = z[m] := by simp [show m < z.length by omega]
      have htake : z.take (m + 1) = z.take m ++ [z[m]] := by rw [List.take_succ_eq_append_getElem (by omega)]
      have hle : ∀ x ∈ z.take m, x ≤ z[m] := fun x hx => by
        obtain ⟨j, hj, rfl⟩ := List.getElem_of_mem hx
        simp only [List.length_take] at hj
        rw [List.getElem_take]
        exact List.pairwise_iff_getElem.1 h j m (by omega) (by omega) (by omega)
      rw [upTo_succ]
      have hlast : ∀ x, x ∈ Lib.compactUpTo z.toArray m → x ≤ z[m] := fun x hx => hle x ((h2 x).1 hx)
      rw [hget]
      cases hk : Lib.keeps z.toArray m with
      | true =>
        simp only [if_true]
        refine ⟨?_, fun x => ?_, fun x hx _ => ?_⟩
        · refine List.pairwise_append.2 ⟨h1, by simp, fun a ha b hb => ?_⟩
          rw [List.mem_singleton] at hb
          subst hb
          refine lt_ne (hlast a ha) (fun e => ?_)
          have hm0 : 0 < m := by
            rcases Nat.eq_zero_or_pos m with e0 | h0
            · subst e0; simp [Lib.compactUpTo] at ha
            · exact h0
          have hp : z.toArray[m - 1]! = z[m - 1] := by simp [show m - 1 < z.length by omega]
          have h4 := h3 a ha hm0
          rw [hp] at h4
          have h5 : z[m - 1] ≤ z[m] := List.pairwise_iff_getElem.1 h (m - 1) m (by omega) (by omega) (by omega)
          have e2 : z[m] = z[m - 1] := List.le_antisymm (e ▸ h4) h5
          have : Lib.keeps z.toArray m = false := Lib.keeps_neg hm0 (by rw [hget, hp]; exact e2)
          rw [hk] at this; exact absurd this (by decide)
        · rw [List.mem_append, h2, htake, List.mem_append]
        · show x ≤ z.toArray[m + 1 - 1]!
          rw [Nat.add_sub_cancel, hget]
          rcases List.mem_append.1 hx with hx | hx
          · exact hlast x hx
          · rw [List.mem_singleton.1 hx]; exact List.le_refl _
      | false =>
        simp only [Bool.false_eq_true, if_false, List.append_nil]
        refine ⟨h1, fun x => ?_, fun x hx _ => ?_⟩
        · rw [h2, htake, List.mem_append]
          constructor
          · exact Or.inl
          · rintro (h | h)
            · exact h
            · rw [List.mem_singleton] at h
              have hm0 : 0 < m := by
                rcases Nat.eq_zero_or_pos m with e0 | h0
                · subst e0; rw [Lib.keeps_lt_one _ 0 (by omega)] at hk; exact absurd hk (by decide)
                · exact h0
              have hp : z.toArray[m - 1]! = z[m - 1] := by simp [show m - 1 < z.length by omega]
              have e2 : z[m] = z[m - 1] := by
                by_cases e : z[m] = z[m - 1]
                · exact e
                · have : Lib.keeps z.toArray m = true := Lib.keeps_pos (by rw [hget, hp]; exact e)
                  rw [hk] at this; exact absurd this (by decide)
              rw [h, e2]
              have : z[m - 1] = (z.take m)[m - 1]'(by simp; omega) := by rw [List.getElem_take]
              rw [this]; exact List.getElem_mem _
        · show x ≤ z.toArray[m + 1 - 1]!
          rw [Nat.add_sub_cancel, hget]
          exact hlast x hx
  obtain ⟨h1, h2, _⟩ := key z.length (Nat.le_refl _)
  exact ⟨h1, fun x => by rw [show Lib.compact z = Lib.compactUpTo z.toArray z.length from rfl, h2, List.take_length]⟩
theorem compact_sort (l : List (List UInt8)) : Lib.compact (l.mergeSort fun x y => decide (x ≤ y)) = nrm l := by
  have hs : (l.mergeSort fun x y => decide (x ≤ y)).Pairwise (· ≤ ·) := by
    have := List.pairwise_mergeSort (le := fun x y => decide (x ≤ y)) (fun a b c h1 h2 => by simp at h1 h2 ⊢; exact List.le_trans h1 h2) (fun a b => by simp; exact List.le_total a b) l
    exact this.imp (fun h => by simpa using h)
  obtain ⟨h1, h2⟩ := compact_rise hs
  refine rise_unique h1 (rise_nrm l) fun x => ?_
  rw [h2, mem_nrm]
  exact (List.mergeSort_perm l _).mem_iff

/-- The ports behind a ( : the ) , the names, what is left; or a fault. -/
def pts (e : Wd) : List Wd → List (List UInt8) → Except Ft (Wd × List (List UInt8) × List Wd)
  | [], _ => .error (ft e 31)
  | [w], _ => if Wo.nameB w.1 = false then .error (ft w 31) else .error (ft e 51)
  | w :: v :: t, acc => if Wo.nameB w.1 = false then .error (ft w 31) else if v.1 = [44] then pts e t (acc ++ [w.1]) else if v.1 = [41] then .ok (v, acc ++ [w.1], t) else .error (ft v 51)
/-- The same behind a name, at the word that comes. -/
def ptsW (e v : Wd) (t : List Wd) (acc : List (List UInt8)) : Except Ft (Wd × List (List UInt8) × List Wd) :=
  if v.1 = [44] then pts e t acc else if v.1 = [41] then .ok (v, acc, t) else .error (ft v 51)
theorem pts_eq {e : Wd} (he : e.1 = []) (l : List Wd) (acc : List (List UInt8)) :
    pts e l acc = if Wo.nameB (nx e l).1 = false then .error (ft (nx e l) 31) else ptsW e (nx e l.tail) l.tail.tail (acc ++ [(nx e l).1]) := by
  match l with
  | [] => simp [pts, he, Wo.nameB]
  | [w] =>
    show (if Wo.nameB w.1 = false then Except.error (ft w 31) else Except.error (ft e 51)) = if Wo.nameB w.1 = false then .error (ft w 31) else ptsW e e [] (acc ++ [w.1])
    by_cases h : Wo.nameB w.1 = false
    · rw [if_pos h, if_pos h]
    · rw [if_neg h, if_neg h]
      simp [ptsW, he]
  | w :: v :: t =>
    rw [pts]
    rfl

/-- The number of an action's first word. -/
def kindN (s : List UInt8) : Nat :=
  if s = [100, 114, 111, 112] then 1 else if s = [100, 101, 108, 105, 118, 101, 114] then 2 else if s = [97, 108, 108] then 3 else if s = [97, 110, 121] then 4 else 0
theorem kindN_le (s : List UInt8) : kindN s ≤ 4 := by
  unfold kindN; repeat' split
  all_goals omega
structure Rl where
  prio : Nat
  mat : List UInt8
  kind : Nat
  ports : List (List UInt8)

/-- The ports with their brackets: what is between them in order, each once, and what is left. -/
def prt (e : Wd) (l : List Wd) : Except Ft (List (List UInt8) × List Wd) :=
  if (nx e l).1 ≠ [40] then .error (ft (nx e l) 51)
  else match pts e l.tail [] with
    | .error f => .error f
    | .ok (v, acc, t) => if 64 < (nrm acc).length then .error (ft v 3) else .ok (nrm acc, t)
def act (e : Wd) (l : List Wd) : Except Ft (Nat × List (List UInt8) × List Wd) :=
  if kindN (nx e l).1 = 0 then .error (ft (nx e l) 51)
  else if kindN (nx e l).1 ≤ 2 then .ok (kindN (nx e l).1, [], l.tail)
  else match prt e l.tail with
    | .error f => .error f
    | .ok (ps, t) => .ok (kindN (nx e l).1, ps, t)
def ruleT : List UInt8 := [114, 117, 108, 101]
def rul (width : Nat) (l : List Wd) : Except Ft Rl :=
  if (nx (endW l) l).1 ≠ ruleT then .error (ft (nx (endW l) l) 50)
  else if Wo.numB (nx (endW l) l.tail).1 = false then .error (ft (nx (endW l) l.tail) 32)
  else if Cub.Cu.right (nx (endW l) l.tail.tail).1 = false then .error (ft (nx (endW l) l.tail.tail) 10)
  else if (nx (endW l) l.tail.tail).1.length ≠ width then .error (ft (nx (endW l) l.tail.tail) 11)
  else match act (endW l) l.tail.tail.tail with
    | .error f => .error f
    | .ok (k, ps, t) => if (nx (endW l) t).1 ≠ [] then .error (ft (nx (endW l) t) 50) else .ok ⟨Wo.numV (nx (endW l) l.tail).1, (nx (endW l) l.tail.tail).1, k, ps⟩
def same (x y : Rl) : Bool := decide (x.prio = y.prio ∧ x.mat = y.mat)
def rds (width : Nat) : List (List Wd) → List Rl → Except Ft (List Rl)
  | [], acc => .ok acc
  | l :: r, acc => match rul width l with
    | .error f => .error f
    | .ok x => if acc.any (fun y => same y x) then .error (ft (nx (endW l) l) 52)
      else if 4096 ≤ acc.length then .error (ft (nx (endW l) l) 3) else rds width r (acc ++ [x])
/-- A text's rules, or its first fault. -/
def prs (s : List UInt8) (width : Int) : Except Ft (List Rl) :=
  if width < 1 ∨ 128 < width then .error (0, 0, 1)
  else if Wo.err s ≠ 0 then .error (Wo.faultL s, Wo.faultC s, Wo.err s)
  else rds width.toNat (Wo.read s) []
end Ru
end Go.Proofs.YtebaopiedlioiaaGreatDoor
namespace Go.Proofs.YtebaopiedlioiaaGreatDoor
open Go.RowKit

theorem hid {p : Prop} (h : p) : Hid p := h
theorem bool_two (b : Bool) : b = false ∨ b = true := by cases b <;> simp

/-- A byte as the program has it. -/
abbrev bv (c : UInt8) : Value := .int .u8 (c.toNat : Int)

set_option maxHeartbeats 400000 in
theorem digit_any (c : UInt8) (w : World) : Calls Tryz.prog 149 #[bv c] w fun e w' => e = .returned (.bool (Wo.dg c.toNat)) ∧ w' = w := by
  by_cases h : 48 ≤ (c.toNat : Int)
  · by_cases h2 : (c.toNat : Int) ≤ 57
    · have e : Wo.dg c.toNat = true := decide_eq_true (by omega)
      rw [e]
      go_enter Tryz.func149, Tryz.ntmps149
      go_wp2
      go_ret
      exact ⟨rfl, rfl⟩
    · have e : Wo.dg c.toNat = false := decide_eq_false (by omega)
      rw [e]
      have hd : decide ((c.toNat : Int) ≤ 57) = false := decide_eq_false h2
      go_enter Tryz.func149, Tryz.ntmps149
      go_wp2
      go_ret
      exact ⟨rfl, rfl⟩
  · have e : Wo.dg c.toNat = false := decide_eq_false (by omega)
    rw [e]
    have hd : decide (48 ≤ (c.toNat : Int)) = false := decide_eq_false h
    go_enter Tryz.func149, Tryz.ntmps149
    go_wp2
    go_ret
    exact ⟨rfl, rfl⟩

theorem ret_bool {a b : Bool} (h : a = b) : Ending.returned (.bool a) = .returned (.bool b) := by rw [h]

set_option maxHeartbeats 1000000 in
theorem letter_any (c : UInt8) (w : World) : Calls Tryz.prog 185 #[bv c] w fun e w' => e = .returned (.bool (Wo.ltr c.toNat)) ∧ w' = w := by
  go_enter Tryz.func185, Tryz.ntmps185
  go_wp2_with (go_at_call 149; refine (digit_any c _).mono ?_; rintro e w' ⟨rfl, rfl⟩)
  all_goals
    go_ret
    refine ⟨ret_bool ?_, rfl⟩
    try rename_i hd0
    try simp only [Wo.dg, decide_eq_true_eq] at *
    rw [Bool.eq_iff_iff]
    simp only [Wo.ltr, Bool.or_eq_true, decide_eq_true_eq, beq_iff_eq, true_iff]
    omega

set_option maxHeartbeats 400000 in
theorem HasPrefix_arr (s : ByteArray) (w : World) : Calls Tryz.prog 186 #[.string s, .string ⟨#[45, 62]⟩] w fun e w' => e = .returned (.bool (Wo.arr s.data.toList)) ∧ w' = w := by
  have key : Wo.arr s.data.toList = (decide (2 ≤ s.size) && ((s.extract 0 2).toList == [45, 62])) := by
    rw [Lib.extract_toList, Lib.size_eq]
    match s.data.toList with
    | [] => rfl
    | [a] => rfl
    | a :: b :: t =>
      simp only [Wo.arr, List.drop_zero, Nat.sub_zero, List.length_cons, List.take_succ_cons, List.take_zero]
      rw [Bool.eq_iff_iff]
      simp
      constructor
      · rintro ⟨h1, h2⟩; exact ⟨UInt8.toNat.inj h1, UInt8.toNat.inj h2⟩
      · rintro ⟨rfl, rfl⟩; exact ⟨rfl, rfl⟩
  rw [key]
  clear key
  by_cases h : 2 ≤ (s.size : Int)
  · have hn : decide (2 ≤ s.size) = true := decide_eq_true (by omega)
    rw [hn]
    clear hn
    go_enter Tryz.func186, Tryz.ntmps186
    go_wp2
    go_ret
    exact ⟨rfl, rfl⟩
  · have hn : decide (2 ≤ s.size) = false := decide_eq_false (by omega)
    rw [hn]
    clear hn
    have hd : decide (2 ≤ (s.size : Int)) = false := decide_eq_false h
    go_enter Tryz.func186, Tryz.ntmps186
    go_wp2
    go_ret
    exact ⟨rfl, rfl⟩
end Go.Proofs.YtebaopiedlioiaaGreatDoor
namespace Go.Proofs.YtebaopiedlioiaaGreatDoor
open Go.RowKit

theorem ret_int {k : IntKind} {a b : Int} (h : a = b) : Ending.returned (.int k a) = .returned (.int k b) := by rw [h]
theorem drop_at (s : ByteArray) (k : Nat) (h : k < s.size) : s.data.toList.drop k = s[k] :: s.data.toList.drop (k + 1) := by
  rw [List.drop_eq_getElem_cons (by simpa using h)]; rfl
theorem ext_drop (s : ByteArray) (k : Nat) : (s.extract k s.size).data.toList = s.data.toList.drop k := by
  rw [Lib.extract_data, Lib.size_eq, List.take_of_length_le (by simp)]
theorem ext_take (s : ByteArray) (k : Nat) : (s.extract 0 k).data.toList = s.data.toList.take k := by
  rw [Lib.extract_data]; simp

set_option maxHeartbeats 1000000 in
theorem letters_any (s : ByteArray) (w : World) (hs : s.size ≤ maxLen) : Calls Tryz.prog 150 #[.string s] w fun e w' => e = .returned (.int .i64 (Wo.lets s.data.toList : Int)) ∧ w' = w := by
  unfold maxLen at hs
  go_enter Tryz.func150, Tryz.ntmps150
  go_wp2
  go_loop [3] (fun n => ∃ k : Nat, k ≤ s.size ∧ n = .int .i64 k ∧ Hid (Wo.lets s.data.toList = k + Wo.lets (s.data.toList.drop k))) (fun n => s.size - (intOf n).toNat)
  case atStart => exact ⟨0, Nat.zero_le _, rfl, by show _ = _; simp⟩
  case round =>
    obtain ⟨k, hk, rfl, HL⟩ := hrel
    by_cases hlt : k < s.size
    · have HD := hid (drop_at s k hlt)
      have HE := hid (ext_drop s k)
      have hkI : (0 : Int) ≤ (k : Int) := by omega
      have hkI2 : (k : Int) < (s.size : Int) := by omega
      have hkI3 : (k : Int) ≤ (s.size : Int) := by omega
      rcases bool_two (Wo.ltr (s[k]'hlt).toNat) with h1 | h1
      · have HR := hid (show Wo.lets s.data.toList = k by rw [HL.out, HD.out, Wo.lets_cons, h1]; simp)
        have q : ∀ w, Calls Tryz.prog 185 #[bv (s[k]'hlt)] w fun e w' => e = .returned (.bool false) ∧ w' = w := fun w => h1 ▸ letter_any (s[k]'hlt) w
        clear h1
        go_wp2_with (go_at_call 185; refine (q _).mono ?_; rintro e w' ⟨rfl, rfl⟩)
        go_ret
        exact ⟨by rw [HR.out]; rfl, rfl⟩
      · have q : ∀ w, Calls Tryz.prog 185 #[bv (s[k]'hlt)] w fun e w' => e = .returned (.bool true) ∧ w' = w := fun w => h1 ▸ letter_any (s[k]'hlt) w
        have H1 := hid h1
        clear h1
        rcases bool_two (Wo.arr (s.data.toList.drop k)) with h2 | h2
        · have q2 : ∀ w, Calls Tryz.prog 186 #[.string (s.extract k s.size), .string ⟨#[45, 62]⟩] w fun e w' => e = .returned (.bool false) ∧ w' = w := fun w => by
            have := HasPrefix_arr (s.extract k s.size) w
            rw [HE.out, h2] at this; exact this
          have HR := hid (show Wo.lets s.data.toList = (k + 1) + Wo.lets (s.data.toList.drop (k + 1)) by
            rw [HL.out, HD.out, Wo.lets_cons, ← HD.out, H1.out, h2, if_pos (show (true && !false) = true from rfl)]; omega)
          clear h2
          go_wp2_with (first | (go_at_call 185; refine (q _).mono ?_; rintro e w' ⟨rfl, rfl⟩) | (go_at_call 186; refine (q2 _).mono ?_; rintro e w' ⟨rfl, rfl⟩))
          go_round
          case rel => exact ⟨k + 1, by omega, by go_num, HR⟩
          case measure => simp [intOf]; omega
        · have q2 : ∀ w, Calls Tryz.prog 186 #[.string (s.extract k s.size), .string ⟨#[45, 62]⟩] w fun e w' => e = .returned (.bool true) ∧ w' = w := fun w => by
            have := HasPrefix_arr (s.extract k s.size) w
            rw [HE.out, h2] at this; exact this
          have HR := hid (show Wo.lets s.data.toList = k by
            rw [HL.out, HD.out, Wo.lets_cons, ← HD.out, H1.out, h2]; simp)
          clear h2
          go_wp2_with (first | (go_at_call 185; refine (q _).mono ?_; rintro e w' ⟨rfl, rfl⟩) | (go_at_call 186; refine (q2 _).mono ?_; rintro e w' ⟨rfl, rfl⟩))
          go_ret
          exact ⟨by rw [HR.out]; rfl, rfl⟩
    · have HR := hid (show Wo.lets s.data.toList = k by
        rw [HL.out, List.drop_of_length_le (by rw [← Lib.size_eq]; omega)]; rfl)
      go_wp2
      go_ret
      exact ⟨by rw [HR.out]; rfl, rfl⟩

/-- Is a text a sign? -/
def sgn (l : List UInt8) : Bool := match l with
  | [a] => Wo.sgl a.toNat
  | [a, b] => Wo.dbl a.toNat b.toNat
  | _ => false
theorem b_eq (a b : UInt8) : (a == b) = (a.toNat == b.toNat) := by
  rw [Bool.eq_iff_iff, beq_iff_eq, beq_iff_eq]
  exact ⟨fun h => h ▸ rfl, UInt8.toNat.inj⟩
theorem sgn_list (l : List UInt8) : sgn l = (l == [61, 61] || l == [60, 61] || l == [62, 61] || l == [45, 62] || l == [40] || l == [41] || l == [44] || l == [124] || l == [42] || l == [43] || l == [63] || l == [46] || l == [36] || l == [61] || l == [60] || l == [62]) := by
  match l with
  | [] => rfl
  | [a] =>
    show Wo.sgl a.toNat = _
    rw [Bool.eq_iff_iff]
    simp [Wo.sgl, b_eq, or_assoc]
  | [a, b] =>
    show Wo.dbl a.toNat b.toNat = _
    simp [Wo.dbl, b_eq]
  | a :: b :: c :: t => simp [sgn]

set_option maxHeartbeats 1000000 in
theorem Sign_any (s : ByteArray) (w : World) : Calls Tryz.prog 196 #[.string s] w fun e w' => e = .returned (.bool (sgn s.data.toList)) ∧ w' = w := by
  have HG := hid (sgn_list s.toList)
  rw [show s.data.toList = s.toList from (Lib.toList_data s).symm]
  go_enter Tryz.func196, Tryz.ntmps196
  go_wp2
  all_goals
    go_ret
    refine ⟨ret_bool ?_, rfl⟩
    rw [HG.out]
    clear HG
    simp_all

/-- The word with which a text begins, its signs of at most m bytes looked for. -/
def fsA (l : List UInt8) : Nat → Nat
  | 0 => Wo.lets l
  | m + 1 => if sgn (l.take (m + 1)) then m + 1 else fsA l m
theorem fsA_fst (l : List UInt8) : Wo.fst l = fsA l (min 2 l.length) := by
  match l with
  | [] => rfl
  | [a] => rfl
  | a :: b :: t =>
    have : min 2 (a :: b :: t).length = 2 := by simp only [List.length_cons]; omega
    rw [this]; rfl

set_option maxHeartbeats 1000000 in
theorem first_any (s : ByteArray) (w : World) (hs : s.size ≤ maxLen) : Calls Tryz.prog 161 #[.string s] w fun e w' => e = .returned (.int .i64 (Wo.fst s.data.toList : Int)) ∧ w' = w := by
  have HF := hid (fsA_fst s.data.toList)
  have hmin : ∀ w : World, (Builtin.min_ #[3, 3] 3 #[.int .i64 2, .int .i64 (s.size : Int)]).run Tryz.prog w = .ok (.int .i64 ((min 2 s.size : Nat) : Int)) w := by
    intro w
    rw [run_min_int2]
    congr 2
    split <;> omega
  go_enter Tryz.func161, Tryz.ntmps161
  go_wp2
  go_loop [3] (fun n => ∃ m : Nat, m ≤ s.size ∧ m ≤ 2 ∧ n = .int .i64 m ∧ Hid (Wo.fst s.data.toList = fsA s.data.toList m)) (fun n => (intOf n).toNat)
  case atStart => exact ⟨min 2 s.size, by omega, by omega, rfl, by show _ = _; rw [HF.out, ← Lib.size_eq]⟩
  case round =>
    obtain ⟨m, hm, hm2, rfl, HM⟩ := hrel
    clear hmin
    cases m with
    | zero =>
      go_wp2_with (go_at_call 150; refine (letters_any s _ hs).mono ?_; rintro e w' ⟨rfl, rfl⟩)
      go_ret
      exact ⟨ret_int (by rw [HM.out]; rfl), rfl⟩
    | succ m =>
      have hI : (0 : Int) < ((m + 1 : Nat) : Int) := by omega
      have hI1 : (0 : Int) ≤ ((m + 1 : Nat) : Int) := by omega
      have hI2 : ((m + 1 : Nat) : Int) ≤ (s.size : Int) := by omega
      have q := fun w => Sign_any (s.extract 0 (m + 1)) w
      rw [ext_take] at q
      rcases bool_two (sgn (s.data.toList.take (m + 1))) with h | h
      · have HR := hid (show Wo.fst s.data.toList = fsA s.data.toList m by rw [HM.out, fsA, h]; rfl)
        rw [h] at q
        clear h
        go_wp2_with (go_at_call 196; refine (q _).mono ?_; rintro e w' ⟨rfl, rfl⟩)
        go_round
        case rel => exact ⟨m, by omega, by omega, by go_num, HR⟩
        case measure => simp [intOf]
      · have HR := hid (show Wo.fst s.data.toList = m + 1 by rw [HM.out, fsA, h]; rfl)
        rw [h] at q
        clear h
        go_wp2_with (go_at_call 196; refine (q _).mono ?_; rintro e w' ⟨rfl, rfl⟩)
        go_ret
        exact ⟨ret_int (by rw [HR.out]; rfl), rfl⟩
end Go.Proofs.YtebaopiedlioiaaGreatDoor
namespace Go.Proofs.YtebaopiedlioiaaGreatDoor
open Go.RowKit

theorem empty_of_size {s : ByteArray} (h : s.size = 0) : s.data.toList = [] := by
  rw [Lib.size_eq] at h; exact List.length_eq_zero_iff.1 h
theorem list_size (s : ByteArray) : s.data.toList.length = s.size := (Lib.size_eq s).symm
theorem toList_nil (s : ByteArray) : (s.toList == []) = decide (s.size = 0) := by
  rw [Lib.toList_data, Lib.size_eq]
  cases s.data.toList <;> simp

set_option maxHeartbeats 400000 in
theorem isWord_any (s : ByteArray) (w : World) (hs : s.size ≤ maxLen) : Calls Tryz.prog 142 #[.string s] w fun e w' => e = .returned (.bool (Wo.isW s.data.toList)) ∧ w' = w := by
  by_cases h0 : s.size = 0
  · have HI := hid (show Wo.isW s.data.toList = false by rw [empty_of_size h0]; rfl)
    have hn : (s.toList == []) = true := by rw [toList_nil, h0]; rfl
    clear h0
    go_enter Tryz.func142, Tryz.ntmps142
    go_wp2
    go_ret
    exact ⟨ret_bool HI.out.symm, rfl⟩
  · have hn : (s.toList == []) = false := by rw [toList_nil]; exact decide_eq_false h0
    have HI := hid (show Wo.isW s.data.toList = ((Wo.fst s.data.toList : Int) == (s.size : Int)) by
      have : s.data.toList ≠ [] := fun e => h0 (by rw [Lib.size_eq, e]; rfl)
      unfold Wo.isW
      rw [Bool.eq_iff_iff, decide_eq_true_iff, beq_iff_eq, list_size]
      exact ⟨fun h => by omega, fun h => ⟨this, by omega⟩⟩)
    clear h0
    go_enter Tryz.func142, Tryz.ntmps142
    go_wp2_with (go_at_call 161; refine (first_any s _ hs).mono ?_; rintro e w' ⟨rfl, rfl⟩)
    go_ret
    exact ⟨ret_bool HI.out.symm, rfl⟩

set_option maxHeartbeats 400000 in
theorem mayTouch_any (a b : ByteArray) (w : World) (hs : a.size + b.size ≤ maxLen) : Calls Tryz.prog 143 #[.string a, .string b] w fun e w' => e = .returned (.bool (!Wo.glue a.data.toList b.data.toList)) ∧ w' = w := by
  have HI := hid (show (!Wo.glue a.data.toList b.data.toList) = ((Wo.fst (a.data.toList ++ b.data.toList) : Int) == (a.size : Int)) by
    unfold Wo.glue
    rw [Bool.eq_iff_iff, Bool.not_eq_true', decide_eq_false_iff_not, beq_iff_eq, list_size]
    constructor
    · intro h; omega
    · intro h; omega)
  have hsz : (a ++ b).size ≤ maxLen := by rw [ByteArray.size_append]; exact hs
  have hov : ¬ 9223372036854775807 < a.size + b.size := by unfold maxLen at hs; omega
  go_enter Tryz.func143, Tryz.ntmps143
  go_wp2_with (go_at_call 161; refine (first_any (a ++ b) _ hsz).mono ?_; rintro e w' ⟨rfl, rfl⟩)
  go_ret
  exact ⟨ret_bool HI.out.symm, rfl⟩
end Go.Proofs.YtebaopiedlioiaaGreatDoor
namespace Go.Proofs.YtebaopiedlioiaaGreatDoor
open Go.RowKit

theorem run_indexByte (s : ByteArray) (c : Int) (w : World) : (callFunc 210 #[.string s, .int .u8 c]).run Tryz.prog w = .ok (.value (.int .i64 (Lib.indexByte s.data.toList c.toNat.toUInt8))) w := by
  rw [run_callFunc_extern Tryz.func210 (by kernel_rfl) (by kernel_rfl) (by kernel_rfl) (e := Extern.BytealgIndexByte.indexByte) (by kernel_rfl), Lib.run_indexByteString]
  rfl

set_option maxHeartbeats 400000 in
theorem Index_one (s : ByteArray) (c : UInt8) (w : World) :
    Calls Tryz.prog 158 #[.string s, .string ⟨#[c]⟩] w fun e w' => e = .returned (.int .i64 (Lib.indexByte s.data.toList c)) ∧ w' = w := by
  have hx : ∀ w : World, (callFunc 210 #[.string s, .int .u8 (((⟨#[c]⟩ : ByteArray)[0]'(by show 0 < 1; omega)).toNat : Int)]).run Tryz.prog w = .ok (.value (.int .i64 (Lib.indexByte s.data.toList c))) w := fun w => by
    have := run_indexByte s (c.toNat : Int) w
    have e : ((c.toNat : Int)).toNat.toUInt8 = c := by simp
    rw [e] at this
    exact this
  by_cases he : [c] = s.toList
  · have hb : ([c] == s.toList) = true := by rw [← he]; simp
    have HD := hid (show Lib.indexByte s.data.toList c = 0 by
      rw [← Lib.toList_data, ← he]; simp [Lib.indexByte])
    clear he
    go_enter Tryz.func158, Tryz.ntmps158
    go_wp2
    go_ret
    exact ⟨ret_int HD.out.symm, rfl⟩
  · have hb : ([c] == s.toList) = false := beq_eq_false_iff_ne.2 he
    clear he
    go_enter Tryz.func158, Tryz.ntmps158
    go_wp2
    go_ret
    exact ⟨rfl, rfl⟩

theorem index_hit (p t : List UInt8) (c : UInt8) (h : ∀ x ∈ p, x ≠ c) : Lib.indexByte (p ++ c :: t) c = (p.length : Int) := by
  induction p with
  | nil => simp [Lib.indexByte]
  | cons a p ih =>
    have e := ih (fun x hx => h x (List.mem_cons_of_mem _ hx))
    have ha : (a == c) = false := beq_eq_false_iff_ne.2 (h a (by simp))
    show Lib.indexByte (a :: (p ++ c :: t)) c = _
    unfold Lib.indexByte
    rw [ha, e]
    have : ((p.length : Int) == -1) = false := by rw [beq_eq_false_iff_ne]; omega
    rw [this]; simp
theorem index_miss (l : List UInt8) (c : UInt8) (h : ∀ x ∈ l, x ≠ c) : Lib.indexByte l c = -1 := by
  induction l with
  | nil => rfl
  | cons a p ih =>
    have e := ih (fun x hx => h x (List.mem_cons_of_mem _ hx))
    have ha : (a == c) = false := beq_eq_false_iff_ne.2 (h a (by simp))
    unfold Lib.indexByte
    rw [ha, e]; rfl
theorem split_at (l : List UInt8) (c : UInt8) : (∀ x ∈ l, x ≠ c) ∨ ∃ p t, l = p ++ c :: t ∧ ∀ x ∈ p, x ≠ c := by
  induction l with
  | nil => left; simp
  | cons a l ih =>
    by_cases h : a = c
    · right; exact ⟨[], l, by rw [h]; rfl, by simp⟩
    · rcases ih with ih | ⟨p, t, rfl, hp⟩
      · left; intro x hx; rcases List.mem_cons.1 hx with rfl | hx
        · exact h
        · exact ih x hx
      · right; refine ⟨a :: p, t, rfl, ?_⟩
        intro x hx; rcases List.mem_cons.1 hx with rfl | hx
        · exact h
        · exact hp x hx

/-- A text by its bytes. -/
abbrev tx (l : List UInt8) : ByteArray := ⟨l.toArray⟩
theorem tx_eq (s : ByteArray) : s = tx s.data.toList := rfl
theorem tx_size (l : List UInt8) : (tx l).size = l.length := by rw [Lib.size_eq]

set_option maxHeartbeats 400000 in
theorem cut_miss (l : List UInt8) (c : UInt8) (w : World) (h : ∀ x ∈ l, x ≠ c) :
    Calls Tryz.prog 125 #[.string (tx l), .string ⟨#[c]⟩] w fun e w' => e = .returned (.tuple #[.string (tx l), .string (tx []), .bool false]) ∧ ∃ n, w' = w.drewN n := by
  have q := fun w => Index_one (tx l) c w
  rw [show (tx l).data.toList = l from rfl, index_miss l c h] at q
  clear h
  go_enter Tryz.func125, Tryz.ntmps125
  go_wp2_with (go_at_call 158; refine (q _).mono ?_; rintro e w' ⟨rfl, rfl⟩)
  go_ret3
  exact ⟨rfl, 0, rfl⟩

set_option maxHeartbeats 400000 in
theorem cut_hit (p t : List UInt8) (c : UInt8) (w : World) (h : ∀ x ∈ p, x ≠ c) (hs : p.length + t.length + 1 ≤ maxLen) :
    Calls Tryz.prog 125 #[.string (tx (p ++ c :: t)), .string ⟨#[c]⟩] w fun e w' => e = .returned (.tuple #[.string (tx p), .string (tx t), .bool true]) ∧ ∃ n, w' = w.drewN n := by
  have q := fun w => Index_one (tx (p ++ c :: t)) c w
  rw [show (tx (p ++ c :: t)).data.toList = p ++ c :: t from rfl, index_hit p t c h] at q
  clear h
  unfold maxLen at hs
  have hsz : (tx (p ++ c :: t)).size = p.length + (t.length + 1) := by rw [tx_size]; simp
  have E1 := hid (show (tx (p ++ c :: t)).extract 0 p.length = tx p by
    rw [Lib.extract_eq]; congr 1; simp)
  have E2 := hid (show (tx (p ++ c :: t)).extract (p.length + 1) (tx (p ++ c :: t)).size = tx t by
    rw [Lib.extract_eq, hsz]; congr 1
    have : (p ++ c :: t).drop (p.length + 1) = t := by rw [List.drop_append]; simp
    rw [this, List.take_of_length_le (by omega)])
  obtain ⟨s, hsd⟩ : ∃ s, s = tx (p ++ c :: t) := ⟨_, rfl⟩
  rw [← hsd] at q E1 E2 hsz ⊢
  have HS := hid hsd
  clear hsd
  have HZ := hid hsz
  have hc1 : ((⟨#[c]⟩ : ByteArray).size : Int) = 1 := rfl
  have c1 : (0 : Int) ≤ (p.length : Int) := by omega
  have c2 : (p.length : Int) ≤ (s.size : Int) := by omega
  have c3 : (0 : Int) ≤ (p.length : Int) + 1 := by omega
  have c4 : (p.length : Int) + 1 ≤ (s.size : Int) := by omega
  clear hsz
  go_enter Tryz.func125, Tryz.ntmps125
  go_wp2_with (go_at_call 158; refine (q _).mono ?_; rintro e w' ⟨rfl, rfl⟩)
  go_quiet (fail)
  go_wp2
  go_ret3
  refine ⟨?_, _, rfl⟩
  rw [← E1.out, ← E2.out]
  rfl

set_option maxHeartbeats 400000 in
theorem Cut_miss (l : List UInt8) (c : UInt8) (w : World) (h : ∀ x ∈ l, x ≠ c) :
    Calls Tryz.prog 90 #[.string (tx l), .string ⟨#[c]⟩] w fun e w' => e = .returned (.tuple #[.string (tx l), .string (tx []), .bool false]) ∧ ∃ n, w' = w.drewN n := by
  have H := hid h
  clear h
  go_enter Tryz.func90, Tryz.ntmps90
  go_wp2_with (go_at_call 125; refine (cut_miss l c _ H.out).mono ?_; rintro e w' ⟨rfl, n, rfl⟩)
  go_ret3
  exact ⟨rfl, n, rfl⟩

set_option maxHeartbeats 400000 in
theorem Cut_hit (p t : List UInt8) (c : UInt8) (w : World) (h : ∀ x ∈ p, x ≠ c) (hs : p.length + t.length + 1 ≤ maxLen) :
    Calls Tryz.prog 90 #[.string (tx (p ++ c :: t)), .string ⟨#[c]⟩] w fun e w' => e = .returned (.tuple #[.string (tx p), .string (tx t), .bool true]) ∧ ∃ n, w' = w.drewN n := by
  have H := hid h
  clear h
  have q := fun w => cut_hit p t c w H.out hs
  obtain ⟨s, hsd⟩ : ∃ s, s = tx (p ++ c :: t) := ⟨_, rfl⟩
  rw [← hsd] at q ⊢
  clear hsd
  go_enter Tryz.func90, Tryz.ntmps90
  go_wp2_with (go_at_call 125; refine (q _).mono ?_; rintro e w' ⟨rfl, n, rfl⟩)
  go_ret3
  exact ⟨rfl, n, rfl⟩
end Go.Proofs.YtebaopiedlioiaaGreatDoor
namespace Go.Proofs.YtebaopiedlioiaaGreatDoor
open Go.RowKit

theorem free_of {w : World} {b o : Nat} {cs : Array Value} {t : TypeId} (h : w.heap[b]? = some (.cells cs t (0, 0))) : w.frozen? ⟨b, o, none⟩ = false := by
  simp [World.frozen?, h]
theorem cell_at {w : World} {b o : Nat} {cs : Array Value} {t : TypeId} {r : Nat × Nat} (h : w.heap[b]? = some (.cells cs t r)) : w.cell? ⟨b, o, none⟩ = cs[o]? := by
  simp [World.cell?, h]
theorem block_set {w : World} {b o : Nat} {cs : Array Value} {t : TypeId} (u : Value) (h : w.heap[b]? = some (.cells cs t (0, 0))) :
    (w.setCell ⟨b, o, none⟩ u).heap[b]? = some (.cells (cs.setIfInBounds o u) t (0, 0)) := by
  have hlt := lt_of_block h
  have h' : w.heap[b] = .cells cs t (0, 0) := by simpa [Array.getElem?_eq_getElem hlt] using h
  show (w.heap.modify b _)[b]? = _
  rw [Array.getElem?_eq_getElem (by simpa using hlt), Array.getElem_modify_self, h']
  rfl
theorem block_other {w : World} {b g o : Nat} {x : Obj} (u : Value) (h : w.heap[b]? = some x) (hne : b ≠ g) : (w.setCell ⟨g, o, none⟩ u).heap[b]? = some x := by
  rw [Below.heap_setCell _ _ _ _ hne]; exact h
theorem new_0 (w : World) (o : Obj) : (w.alloc o).heap[w.heap.size]? = some o := by
  show (w.heap.push o)[w.heap.size]? = _
  rw [Array.getElem?_push, if_pos rfl]
theorem new_1 (w : World) (o o' : Obj) : ((w.alloc o).alloc o').heap[w.heap.size + 1]? = some o' := by
  show ((w.heap.push o).push o')[w.heap.size + 1]? = _
  rw [Array.getElem?_push, if_pos (by simp)]
theorem new_old (w : World) (o : Obj) {k : Nat} {x : Obj} (h : w.heap[k]? = some x) : (w.alloc o).heap[k]? = some x := by
  have := lt_of_block h
  show (w.heap.push o)[k]? = _
  rw [Array.getElem?_push, if_neg (by omega), h]
theorem cells_some {w : World} {g : Nat} {cs : Array Value} {t : TypeId} (h : w.heap[g]? = some (.cells cs t (0, 0))) {x : Nat} (hx : x < cs.size) : ∃ v, w.cell? ⟨g, x, none⟩ = some v :=
  ⟨cs[x], by simp [World.cell?, h, hx]⟩
theorem below_block {B k : Nat} {w w' : World} (h : Below B w w') {x : Obj} (hx : w.heap[k]? = some x) (hk : k < B) : w'.heap[k]? = some x := (h.block k hk).trans hx
theorem below_drewN {B : Nat} {w w1 : World} {n : Nat} (h : Below B w w1) : Below B w (w1.drewN n) := h.trans ⟨rfl, rfl, rfl, Nat.le_refl _, fun _ _ => rfl⟩
theorem undrew {w w1 : World} (h : Below w.drew.heap.size w.drew w1) : Below w.heap.size w w1 := ⟨h.os, h.tape, h.output, h.size, h.block⟩
theorem below_two {w w1 w2 : World} (h1 : Below w.heap.size w w1) (h2 : Below w1.heap.size w1 w2) : Below w.heap.size w w2 := h1.trans (h2.mono h1.size)
theorem grown_of_below {a b : World} (r : Option Nat) (h : Below a.heap.size a b) : a.grownBy b r := ⟨h.os, h.tape, h.output, h.size, fun i hi _ => h.block i hi⟩
theorem grown_through {a b c : World} {r s : Option Nat} (h : a.grownBy b r) (k : b.grownBy c s) (hs : ∀ i, i < a.heap.size → some i ≠ r → some i ≠ s) : a.grownBy c r :=
  ⟨k.os.trans h.os, k.tape.trans h.tape, k.output.trans h.output, Nat.le_trans h.size k.size, fun i hi hne => (k.block i (Nat.lt_of_lt_of_le hi h.size) (hs i hi hne)).trans (h.block i hi hne)⟩
theorem shape_at {w : World} {b : Nat} {cs : Array Value} {t : TypeId} {r : Nat × Nat} (h : w.heap[b]? = some (.cells cs t r)) : w.shape? b = some (t, cs.size) := by
  simp [World.shape?, h]
/-- Cells stored one behind the other: the block. -/
def setAll (cs : Array Value) : Nat → List Value → Array Value
  | _, [] => cs
  | o, v :: r => setAll (cs.setIfInBounds o v) (o + 1) r
theorem setAll_size (vs : List Value) : ∀ (cs : Array Value) (o : Nat), (setAll cs o vs).size = cs.size := by
  induction vs with
  | nil => intro cs o; rfl
  | cons v r ih => intro cs o; show (setAll _ _ r).size = _; rw [ih]; simp
theorem block_setCells {b : Nat} {t : TypeId} (vs : List Value) : ∀ (o : Nat) (w : World) (cs : Array Value), w.heap[b]? = some (.cells cs t (0, 0)) → (w.setCells b o vs).heap[b]? = some (.cells (setAll cs o vs) t (0, 0)) := by
  induction vs with
  | nil => intro o w cs h; exact h
  | cons v r ih => intro o w cs h; exact ih (o + 1) _ _ (block_set v h)
end Go.Proofs.YtebaopiedlioiaaGreatDoor
namespace Go.Proofs.YtebaopiedlioiaaGreatDoor
open Go.RowKit

theorem Tryz.infoU8 : (Tryz.prog.info? 5).map (fun i => (i.zero, i.size, i.bytes)) = some (some (.int .u8 0), 1, 1) := by kernel_rfl
theorem Tryz.sizeU8 : ∀ w, (Go.sizeOf 5).run Tryz.prog w = .ok 1 w := fun w => by kernel_rfl
theorem Tryz.cellsU8 : Tryz.prog.cellsOf 5 = 1 := by kernel_rfl

/-- The bytes of a text as cells. -/
abbrev cellsOf (s : ByteArray) : List Value := s.data.toList.map fun x => Value.int .u8 (x.toNat : Int)

set_option maxHeartbeats 1000000 in
theorem clone_any (s : ByteArray) (w : World) (h0 : 0 < s.size) (hs : s.size ≤ 1048576) :
    Calls Tryz.prog 85 #[.string s] w fun e w' => e = .returned (.string s) ∧ Below w.heap.size w w' := by
  have hmk := run_make_row' (P := Tryz.prog) 87 5 (.int .u8 0) 1 Tryz.underlying87 Tryz.infoU8 rfl .i64 .i64 s.size (by omega) (by omega)
  have hblk : (w.alloc (.cells (madeCells #[.int .u8 0] s.size) 5)).heap[w.heap.size]? = some (.cells (madeCells #[.int .u8 0] s.size) 5 (0, 0)) := new_0 _ _
  have hsome : ∀ j, j < s.size → ((w.alloc (.cells (madeCells #[.int .u8 0] s.size) 5)).cell? ⟨w.heap.size, 0 + j, none⟩).isSome = true := fun j hj => by
      obtain ⟨v, hv⟩ := cells_some hblk (x := 0 + j) (by rw [size_madeCells]; omega)
      rw [hv]; rfl
  have hcp : ∀ ty, _ := fun ty => run_copy_string (P := Tryz.prog) (w.alloc (.cells (madeCells #[.int .u8 0] s.size) 5)) 87 9 ty 5 w.heap.size 0 s.size s.size s Tryz.underlying87 Tryz.sizeU8 (Nat.le_refl _) hsome (fun j _ => free_of hblk)
  have hb2 := block_setCells (cellsOf s) 0 _ _ hblk
  have hus : ∀ ty, _ := fun ty => Lib.run_unsafeString_row (P := Tryz.prog) ((w.alloc (.cells (madeCells #[.int .u8 0] s.size) 5)).setCells w.heap.size 0 (cellsOf s)) 168 3 ty 5 Tryz.underlying168 Tryz.cellsU8 w.heap.size s.size
    (by rw [shape_at hb2, setAll_size, size_madeCells]) s.data.toList (fun e => by rw [Lib.size_eq, e] at h0; exact absurd h0 (by simp)) (by rw [list_size]; exact Nat.le_refl _) (by rw [list_size]; omega) (fun j x hx => by
      have hj : j < s.data.toList.length := (List.getElem?_eq_some_iff.1 hx).1
      have := World.cell?_setCells_in w.heap.size (cellsOf s) 0 (w.alloc (.cells (madeCells #[.int .u8 0] s.size) 5)) (fun i hi => hsome i (by simpa [list_size] using hi)) j (by simpa using hj)
      have ea : (⟨w.heap.size, 0, none⟩ : Addr).add j = ⟨w.heap.size, 0 + j, none⟩ := by simp [Addr.add]; intro h; exact h.symm
      rw [ea, this]
      congr 1
      have e : s.data.toList[j] = x := (List.getElem?_eq_some_iff.1 hx).2
      simp only [List.getElem_map, e])
  rw [list_size] at hus
  have hnz : ((s.size : Int) == 0) = false := by rw [beq_eq_false_iff_ne]; omega
  have hI : (0 : Int) < (s.size : Int) := by omega
  clear hsome hblk
  go_enter Tryz.func85, Tryz.ntmps85
  go_wp2
  go_ret
  exact ⟨rfl, Lib.below_freeze (below_setCells (Nat.le_refl _) _ _ _ ((Below.refl _ _).alloc (Nat.le_refl _) _)) (p := ⟨w.heap.size, 0, none⟩) (Nat.le_refl _) _⟩

set_option maxHeartbeats 400000 in
theorem Clone_any (s : ByteArray) (w : World) (h0 : 0 < s.size) (hs : s.size ≤ 1048576) :
    Calls Tryz.prog 49 #[.string s] w fun e w' => e = .returned (.string s) ∧ Below w.heap.size w w' := by
  go_enter Tryz.func49, Tryz.ntmps49
  go_wp2_with (go_at_call 85; refine (clone_any s _ h0 hs).mono ?_; rintro e w' ⟨rfl, hb⟩)
  go_ret
  exact ⟨rfl, hb⟩
end Go.Proofs.YtebaopiedlioiaaGreatDoor
