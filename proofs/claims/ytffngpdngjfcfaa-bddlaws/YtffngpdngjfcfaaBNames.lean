/-
  nodes: an order as a list.
-/
import Derived.Test.YtffngpdngjfcfaaBVis
import Derived.Maps.RangeWalk
namespace Go.Proofs.Ytffngpdngjfcfaa
open Go.RowKit Go.Maps
open Bd (Nd)

/-- A node's number in an order: its old one, if it is left out. -/
def nm (acc : List Nat) (least m : Nat) : Nat := if m ∈ acc then least + acc.idxOf m else m
theorem idx_at {acc : List Nat} {m : Nat} (h : m ∈ acc) : acc[acc.idxOf m]? = some m := by
  have hlt := List.idxOf_lt_length_of_mem h
  rw [List.getElem?_eq_getElem hlt, List.getElem_idxOf hlt]
theorem idx_of {acc : List Nat} (hnd : acc.Nodup) {j m : Nat} (h : acc[j]? = some m) : acc.idxOf m = j := by
  have hj := Bd.getElem?_lt h
  have hm : m ∈ acc := List.mem_of_getElem? h
  have h2 := idx_at hm
  have hlt := List.idxOf_lt_length_of_mem hm
  rw [List.getElem?_eq_getElem hlt] at h2
  rw [List.getElem?_eq_getElem hj] at h
  exact (List.getElem_inj (h₀ := hlt) (h₁ := hj) hnd).1 (by rw [Option.some.inj h2, Option.some.inj h])

def rn (L : List Nd) (acc : List Nat) (least n : Nat) : Nd := ((L.getD (n - 2) (0, 0, 0)).1, nm acc least (L.getD (n - 2) (0, 0, 0)).2.1, nm acc least (L.getD (n - 2) (0, 0, 0)).2.2)

set_option maxHeartbeats 1000000 in
theorem name_any {w : World} {ob pb : Nat} {lv : Value} {L : List Nd} {least : Nat} {acc : List Nat} (hO : OrdAt w ob pb lv L least acc) (m : Nat) (hm : m < 9223372036854775808) :
    Calls Try.prog 90 #[.pointer (some ⟨ob, 0, none⟩), i6 m] w fun e w' => e = .returned (i6 (nm acc least m)) ∧ w' = w := by
  have c2 : w.cell? ⟨ob, 2, none⟩ = some (.map (some pb)) := by rw [cell_at hO.cells]; rfl
  obtain ⟨f, hf, hr, _⟩ := hO.place
  obtain ⟨kl, hkl⟩ := key_int (a := m) hm
  have hlook := MapOf.look hf kInt Try.underlying151 Try.underlying3 (zero_int _) hkl
  by_cases hin : m ∈ acc
  · have hfx : f (i6 m) = some ((least + acc.idxOf m : Nat) : Int) := (hr m).1 _ (idx_at hin)
    rw [hfx] at hlook
    simp only [Option.getD_some, Option.isSome_some, i6] at hlook
    have e : nm acc least m = least + acc.idxOf m := by unfold nm; rw [if_pos hin]
    rw [e]
    obtain ⟨q, hq⟩ : ∃ q, q = least + acc.idxOf m := ⟨_, rfl⟩
    rw [← hq] at hlook ⊢
    clear hO hf hr hfx hin hkl hq e
    go_enter Try.func90, Try.ntmps90
    go_wp2_with fail
    go_ret
    exact ⟨rfl, rfl⟩
  · have hfx : f (i6 m) = none := (hr m).2 hin
    rw [hfx] at hlook
    simp only [Option.getD_none, Option.isSome_none, i6] at hlook
    have e : nm acc least m = m := by unfold nm; rw [if_neg hin]
    rw [e]
    clear hO hf hr hfx hin hkl e
    go_enter Try.func90, Try.ntmps90
    go_wp2_with fail
    go_ret
    exact ⟨rfl, rfl⟩

def blanks (n : Nat) : Array Value := madeCells #[.int .i64 0, .int .i64 0, .int .i64 0] (n * 3)
theorem blanks_size (n : Nat) : (blanks n).size = n * 3 := size_madeCells _ _
theorem run_blanks (n : Nat) (hn : n ≤ 1073741826) (w : World) :
    (Instr.makeSlice 46 (.int .i64 (n : Int)) (.int .i64 (n : Int))).run Try.prog w = .ok (.slice (some ⟨w.heap.size, 0, none⟩) n n) (w.alloc (.cells (blanks n) 82)) := by
  obtain ⟨i, hi, hz0, hz1, hz2⟩ := info_parts Try.infoNode
  have := run_make (P := Try.prog) w 46 82 i (.agg #[i6 0, i6 0, i6 0]) Try.underlying46 hi hz0 .i64 .i64 n n (by omega) (by omega) (by rw [hz2]; omega) (by omega)
  rw [this, hz1]
  rfl

/-- Three cells stored one behind the other. -/
def set3 (cs : Array Value) (x : Nat) (a b c : Value) : Array Value := ((cs.setIfInBounds x a).setIfInBounds (x + 1) b).setIfInBounds (x + 2) c
theorem set3_size (cs : Array Value) (x : Nat) (a b c : Value) : (set3 cs x a b c).size = cs.size := by simp [set3]
theorem set3_get (cs : Array Value) (x : Nat) (a b c : Value) (hx : x + 2 < cs.size) (z : Nat) : (set3 cs x a b c)[z]? = if z = x then some a else if z = x + 1 then some b else if z = x + 2 then some c else cs[z]? := by
  simp only [set3, Array.getElem?_setIfInBounds, Array.size_setIfInBounds]
  by_cases h0 : z = x
  · subst h0
    rw [if_neg (by omega), if_neg (by omega), if_pos rfl, if_pos (by omega), if_pos rfl]
  · by_cases h1 : z = x + 1
    · subst h1
      rw [if_neg (by omega), if_pos rfl, if_pos (by omega), if_neg (by omega), if_pos rfl]
    · by_cases h2 : z = x + 2
      · subst h2
        rw [if_pos rfl, if_pos (by omega), if_neg (by omega), if_neg (by omega), if_pos rfl]
      · rw [if_neg (by omega), if_neg (by omega), if_neg (by omega), if_neg h0, if_neg h1, if_neg h2]

/-- The cells of the new list, as far as the numbers of which done is told. -/
def Laid (cs : Array Value) (L : List Nd) (acc : List Nat) (least : Nat) (left : Lit → Bool) : Prop :=
  cs.size = acc.length * 3 ∧ ∀ (j n : Nat), acc[j]? = some n → left (.int .i64 (n : Int)) = false → cs[j * 3]? = some (i6 (rn L acc least n).1) ∧ cs[j * 3 + 1]? = some (i6 (rn L acc least n).2.1) ∧ cs[j * 3 + 2]? = some (i6 (rn L acc least n).2.2)
theorem Laid.put {cs : Array Value} {L : List Nd} {acc : List Nat} {least : Nat} {left : Lit → Bool} (hnd : acc.Nodup) (h : Laid cs L acc least left) {j n : Nat} (hj : acc[j]? = some n) (left' : Lit → Bool) (hl : ∀ m : Nat, m ≠ n → left' (.int .i64 (m : Int)) = left (.int .i64 (m : Int))) :
    Laid (set3 cs (j * 3) (i6 (rn L acc least n).1) (i6 (rn L acc least n).2.1) (i6 (rn L acc least n).2.2)) L acc least left' := by
  have hjl := Bd.getElem?_lt hj
  refine ⟨by rw [set3_size]; exact h.1, ?_⟩
  intro i m hi hm
  have hil := Bd.getElem?_lt hi
  have hsz := h.1
  rw [set3_get _ _ _ _ _ (by omega), set3_get _ _ _ _ _ (by omega), set3_get _ _ _ _ _ (by omega)]
  by_cases e : i = j
  · subst e
    rw [hj] at hi
    cases hi
    rw [if_pos rfl, if_neg (by omega), if_pos rfl, if_neg (by omega), if_neg (by omega), if_pos rfl]
    exact ⟨rfl, rfl, rfl⟩
  · have hmn : m ≠ n := by
      intro e2
      subst e2
      rw [List.getElem?_eq_getElem hjl] at hj
      rw [List.getElem?_eq_getElem hil] at hi
      exact e ((List.getElem_inj (h₀ := hil) (h₁ := hjl) hnd).1 (by rw [Option.some.inj hi, Option.some.inj hj]))
    rw [hl m hmn] at hm
    have := h.2 i m hi hm
    rw [if_neg (by omega), if_neg (by omega), if_neg (by omega), if_neg (by omega), if_neg (by omega), if_neg (by omega), if_neg (by omega), if_neg (by omega), if_neg (by omega)]
    exact this
end Go.Proofs.Ytffngpdngjfcfaa
