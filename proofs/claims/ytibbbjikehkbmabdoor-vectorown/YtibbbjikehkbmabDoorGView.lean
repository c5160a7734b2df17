/-
  Vectors of versions: rows of stamps in memory.
-/
import Derived.Test.YtibbbjikehkbmabDoorGMath
import Derived.Test.YtibbbjikehkbmabDoorWMem
import Derived.WalkSpells
import Derived.WalkLawsBesides
import Derived.RegionTactic
import Derived.ChangeAlike
namespace Go.Proofs.YtibbbjikehkbmabDoor.Ve
open Go.RowKit

theorem hid {p : Prop} (h : p) : Hid p := h
theorem bool_two (b : Bool) : b = false ∨ b = true := by cases b <;> simp
/-- A row of stamps in memory. -/
def RowIn (w : World) (ao : Option Addr) (l : List St) : Prop := l = [] ∨ ∃ g o, ao = some ⟨g, o, none⟩ ∧ g < w.heap.size ∧ ∀ (j : Nat) (s : St), l[j]? = some s → w.cell? ⟨g, o + j * 2, none⟩ = some (.int .i64 s.1) ∧ w.cell? ⟨g, o + j * 2 + 1, none⟩ = some (.int .u64 (s.2 : Int))
theorem RowIn.below {w w' : World} {ao : Option Addr} {l : List St} (h : RowIn w ao l) (hb : Below w.heap.size w w') : RowIn w' ao l := by
  rcases h with h | ⟨g, o, e, hg, hc⟩
  · exact Or.inl h
  · exact Or.inr ⟨g, o, e, Nat.lt_of_lt_of_le hg hb.size, fun j s hj => ⟨(hb.cell (p := ⟨g, o + j * 2, none⟩) hg).trans (hc j s hj).1, (hb.cell (p := ⟨g, o + j * 2 + 1, none⟩) hg).trans (hc j s hj).2⟩⟩
/-- A vector as a value. -/
def VecV (w : World) (v : Value) (l : List St) : Prop := ∃ ao c, v = .slice ao l.length c ∧ l.length ≤ c ∧ (ao = none → c = 0) ∧ RowIn w ao l
theorem VecV.below {w w' : World} {v : Value} {l : List St} (h : VecV w v l) (hb : Below w.heap.size w w') : VecV w' v l := by
  obtain ⟨ao, c, e, hc, hn, h⟩ := h
  exact ⟨ao, c, e, hc, hn, h.below hb⟩
theorem vec_nil (w : World) : VecV w (.slice none 0 0) [] := ⟨none, 0, rfl, Nat.le_refl _, fun _ => rfl, Or.inl rfl⟩
/-- A row of vectors in memory. -/
def RowsIn (w : World) (ao : Option Addr) (ls : List (List St)) : Prop := ls = [] ∨ ∃ g o, ao = some ⟨g, o, none⟩ ∧ g < w.heap.size ∧ ∀ (j : Nat) (l : List St), ls[j]? = some l → ∃ v, w.cell? ⟨g, o + j, none⟩ = some v ∧ VecV w v l
theorem RowsIn.below {w w' : World} {ao : Option Addr} {ls : List (List St)} (h : RowsIn w ao ls) (hb : Below w.heap.size w w') : RowsIn w' ao ls := by
  rcases h with h | ⟨g, o, e, hg, hc⟩
  · exact Or.inl h
  · refine Or.inr ⟨g, o, e, Nat.lt_of_lt_of_le hg hb.size, fun j l hj => ?_⟩
    obtain ⟨v, h1, h2⟩ := hc j l hj
    exact ⟨v, (hb.cell (p := ⟨g, o + j, none⟩) hg).trans h1, h2.below hb⟩
def VecsV (w : World) (v : Value) (ls : List (List St)) : Prop := ∃ ao c, v = .slice ao ls.length c ∧ ls.length ≤ c ∧ (ao = none → c = 0) ∧ RowsIn w ao ls
theorem VecsV.below {w w' : World} {v : Value} {ls : List (List St)} (h : VecsV w v ls) (hb : Below w.heap.size w w') : VecsV w' v ls := by
  obtain ⟨ao, c, e, hc, hn, h⟩ := h
  exact ⟨ao, c, e, hc, hn, h.below hb⟩
theorem below_tr {w w1 w2 : World} (h1 : Below w.heap.size w w1) (h2 : Below w1.heap.size w1 w2) : Below w.heap.size w w2 := h1.trans (h2.mono h1.size)
theorem below_al (w : World) (o : Obj) : Below w.heap.size w (w.alloc o) := (Below.refl _ w).alloc (Nat.le_refl _) _
/-- The cells of stamps. -/
def flatS (l : List St) : List Value := l.flatMap fun s => [.int .i64 s.1, .int .u64 (s.2 : Int)]
theorem flatS_len (l : List St) : (flatS l).length = l.length * 2 := by
  induction l with
  | nil => rfl
  | cons s l ih =>
    show (_ :: _ :: flatS l).length = _
    simp only [List.length_cons, ih]; omega
theorem flatS_append (a b : List St) : flatS (a ++ b) = flatS a ++ flatS b := by simp [flatS]
theorem flatS_get {l : List St} : ∀ {i : Nat} {s : St}, l[i]? = some s → (flatS l)[i * 2]? = some (.int .i64 s.1) ∧ (flatS l)[i * 2 + 1]? = some (.int .u64 (s.2 : Int)) := by
  induction l with
  | nil => intro i s h; simp at h
  | cons a r ih =>
    intro i s h
    have e : flatS (a :: r) = .int .i64 a.1 :: .int .u64 (a.2 : Int) :: flatS r := rfl
    rw [e]
    cases i with
    | zero =>
      have : a = s := by simpa using h
      subst this
      exact ⟨rfl, rfl⟩
    | succ i =>
      obtain ⟨h0, h1⟩ := ih (by simpa using h)
      rw [show (i + 1) * 2 = i * 2 + 1 + 1 by omega]
      exact ⟨by simpa using h0, by simpa using h1⟩
theorem flatS_one (l : List St) : ∀ u ∈ flatS l, u.oneCell' = true := by
  intro u hu
  obtain ⟨q, hq, hu⟩ := List.mem_flatMap.1 hu
  simp only [List.mem_cons, List.not_mem_nil, or_false] at hu
  rcases hu with rfl | rfl <;> rfl
/-- A row of one's own that was built is a vector. -/
theorem vec_of_own {w : World} {B : Nat} {v : Value} {n : Nat} {l : List St} (h : w.ownsRow B 33 2 v n (flatS l)) : VecV w v l := by
  have hl := h.1
  rw [flatS_len] at hl
  have hn : n = l.length := by omega
  subst hn
  rcases h.2 with ⟨e, h0⟩ | ⟨g, cap, cur, e, hB, hh, hn, _, _, ht⟩
  · have : l = [] := List.eq_nil_of_length_eq_zero h0
    subst this
    exact ⟨none, 0, e, Nat.le_refl _, fun _ => rfl, Or.inl rfl⟩
  · refine ⟨some ⟨g, 0, none⟩, cap, e, hn, fun q => (by cases q), Or.inr ⟨g, 0, rfl, lt_of_block hh, fun j s hj => ?_⟩⟩
    obtain ⟨h0, h1⟩ := flatS_get hj
    have hjl := (List.getElem?_eq_some_iff.1 hj).1
    have key : ∀ (j : Nat) (u : Value), (flatS l)[j]? = some u → w.cell? ⟨g, j, none⟩ = some u := fun j u hj => by
      rw [cell_at hh, ← Array.getElem?_toList]
      rw [← ht, List.getElem?_take] at hj
      split at hj
      · exact hj
      · cases hj
    rw [Nat.zero_add]
    exact ⟨key _ _ h0, key _ _ h1⟩
theorem own_keptS {w w' : World} {B : Nat} {v : Value} {n : Nat} {xs : List Value} (h : w.ownsRow B 33 2 v n xs) (hb : Below w.heap.size w w') : w'.ownsRow B 33 2 v n xs := by
  obtain ⟨h1, h2⟩ := h
  refine ⟨h1, ?_⟩
  rcases h2 with h2 | ⟨g, cap, cur, e, hB, hh, r⟩
  · exact Or.inl h2
  · exact Or.inr ⟨g, cap, cur, e, hB, below_block hb hh (lt_of_block hh), r⟩
/-- The rest of a row from a place on. -/
theorem RowIn.drop {w : World} {g o : Nat} {l : List St} (h : RowIn w (some ⟨g, o, none⟩) l) (k : Nat) : RowIn w (some ⟨g, o + k * 2, none⟩) (l.drop k) := by
  rcases h with rfl | ⟨g', o', e, hg, hc⟩
  · left; simp
  · injection e with e
    injection e with e1 e2 _
    subst e1
    subst e2
    refine Or.inr ⟨g, o + k * 2, rfl, hg, fun j s hj => ?_⟩
    rw [List.getElem?_drop] at hj
    have := hc _ _ hj
    rw [show o + k * 2 + j * 2 = o + (k + j) * 2 by omega]
    exact this
theorem RowIn.take {w : World} {ao : Option Addr} {l : List St} (h : RowIn w ao l) (k : Nat) : RowIn w ao (l.take k) := by
  rcases h with rfl | ⟨g, o, e, hg, hc⟩
  · left; simp
  · refine Or.inr ⟨g, o, e, hg, fun j s hj => ?_⟩
    rw [List.getElem?_take] at hj
    split at hj
    · exact hc _ _ hj
    · cases hj
theorem block_oldS {w : World} {p : Addr} {u : Value} (h : w.cell? p = some u) : p.block < w.heap.size := by
  unfold World.cell? at h
  cases hh : w.heap[p.block]? with
  | none => simp [hh] at h
  | some o => exact lt_of_block hh
theorem addr_addS (g o i : Nat) : (⟨g, o, none⟩ : Addr).add i = ⟨g, o + i, none⟩ := by
  unfold Addr.add; split <;> simp_all
/-- One new vector in memory. -/
theorem cell_news {w : World} {cs : Array Value} {t : TypeId} (j : Nat) : (w.alloc (.cells cs t)).cell? ⟨w.heap.size, j, none⟩ = cs[j]? := by
  have h : (w.alloc (.cells cs t)).heap[w.heap.size]? = some (.cells cs t (0, 0)) := new_0 w _
  rw [cell_at h]
theorem info_stamp : (Tryd.prog.info? 33).map (fun i => (i.zero, i.size, i.bytes)) = some (some (.agg #[.int .i64 0, .int .u64 0]), 2, 16) := by kernel_rfl
theorem mixedV : Tryd.prog.follows .mixedOrders = true := by kernel_rfl
end Go.Proofs.YtibbbjikehkbmabDoor.Ve
