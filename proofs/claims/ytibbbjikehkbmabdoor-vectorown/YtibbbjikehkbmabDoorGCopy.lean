/-
  copyOf: a vector's copy in a row of one's own.
-/
import Derived.Test.YtibbbjikehkbmabDoorGOwn
import Derived.Maps.AppendAt
import Derived.Deep.Upon
namespace Go.Proofs.YtibbbjikehkbmabDoor.Ve
open Go.RowKit

theorem row_cells {w : World} {g o : Nat} {l : List St} (h : RowIn w (some ⟨g, o, none⟩) l) (j : Nat) (u : Value) (hj : (flatS l)[j]? = some u) : w.cell? ((⟨g, o, none⟩ : Addr).add j) = some u := by
  have hlt := (List.getElem?_eq_some_iff.1 hj).1
  rw [flatS_len] at hlt
  rw [addr_addS]
  rcases h with rfl | ⟨g', o', e, hg, hc⟩
  · simp at hlt
  · injection e with e
    injection e with e1 e2 _
    subst e1 e2
    obtain ⟨i, hi⟩ : ∃ i, i = j / 2 := ⟨_, rfl⟩
    obtain ⟨s, hs⟩ : ∃ s, l[i]? = some s := ⟨_, List.getElem?_eq_getElem (by omega)⟩
    obtain ⟨f0, f1⟩ := flatS_get hs
    obtain ⟨c0, c1⟩ := hc i s hs
    rcases Nat.mod_two_eq_zero_or_one j with q | q
    · have : j = i * 2 := by omega
      subst this
      rw [f0] at hj
      rw [c0, hj]
    · have : j = i * 2 + 1 := by omega
      subst this
      rw [f1] at hj
      rw [← Nat.add_assoc, c1, hj]
theorem own_mono {w : World} {B B' : Nat} {v : Value} {l : List St} (h : OwnS w B v l) (hb : B' ≤ B) : OwnS w B' v l := by
  obtain ⟨h1, h2⟩ := h
  refine ⟨h1, ?_⟩
  rcases h2 with h2 | ⟨g, cap, cur, e, hB, hh, r⟩
  · exact Or.inl h2
  · exact Or.inr ⟨g, cap, cur, e, Nat.le_trans hb hB, hh, r⟩
/-- append, under a name that the walk leaves. -/
def appC (ts : Array TypeId) (ty : TypeId) (args : Array Value) : Sem Value := Builtin.append_ ts ty args
theorem appC_fold {ts : Array TypeId} {ty : TypeId} {args : Array Value} : Builtin.append_ ts ty args = appC ts ty args := rfl
/-- All of a vector behind nothing. -/
theorem copy_run {w : World} {a : Option Addr} {n c : Nat} {l : List St} (h : VecV w (.slice a n c) l) (hl : l.length * 16 ≤ 140737488355328) :
    ∃ a' c' w', (appC #[23, 23] 23 #[.slice none 0 0, .slice a n c]).run Tryd.prog w = .ok (.slice a' n c') w' ∧ Hid (OwnS w' w.heap.size (.slice a' n c') l ∧ Below w.heap.size w w') := by
  obtain ⟨ao, c0, e, hc, hn, hr⟩ := h
  injection e with e1 e2 e3
  subst e1 e2 e3
  obtain ⟨i0, hi, hz0, hz1, hz2⟩ := info_parts info_stamp
  by_cases h0 : l = []
  · subst h0
    refine ⟨none, 0, w, ?_, World.ownsRow_nil _ _ _ _, Below.refl _ _⟩
    have hs : Src Tryd.prog i0.size 23 (.slice a 0 c) 0 [] w := by
      refine ⟨Or.inl ⟨_, Tryd.underlying23⟩, fun w' => ?_, ?_, ?_, by simp, fun u hu => by cases hu⟩
      · simp [Builtin.lenOf]
      · cases a <;> simp [Builtin.firstCells, loadCells, loadCellsFrom, go_sem]
      · cases a <;> simp [Builtin.firstCells, loadCells, loadCellsFrom, go_sem]
    exact run_append_nothing (P := Tryd.prog) w 23 23 23 33 i0 Tryd.underlying23 hi none 0 0 (Nat.le_refl _) (.slice a 0 c) hs
  · obtain ⟨g, o, rfl, hg, hcell⟩ := hr.resolve_left h0
    obtain ⟨v', w2, hrun, hown, hgr, _, _⟩ := run_append_own_at (P := Tryd.prog) w w.heap.size 23 23 33 i0 (.agg #[.int .i64 0, .int .u64 0]) 2 16 Tryd.underlying23 hi hz0 hz1 hz2 rfl (by decide) (.slice none 0 0) 0 [] (World.ownsRow_nil _ _ _ _) ⟨g, o, none⟩ l.length c (flatS l) (flatS_len l) (row_cells hr) (flatS_one l) (by unfold maxLen; omega) (by omega) (Nat.le_refl _)
    have ho : OwnS w2 w.heap.size v' l := by
      unfold OwnS
      rw [Nat.zero_add, List.nil_append] at hown
      exact hown
    obtain ⟨a', c', e'⟩ := ho.form
    subst e'
    exact ⟨a', c', w2, hrun, ho, (Below.refl _ w).grown hgr (Nat.le_refl _) (fun q hq => by cases hq)⟩
attribute [local go_sem ↓] appC_fold
theorem copyOf_any {w : World} {v : Value} {l : List St} (h : VecV w v l) (hl : l.length * 16 ≤ 140737488355328) :
    Calls Tryd.prog 18 #[v] w fun e w' => ∃ v', e = .returned v' ∧ OwnS w' w.heap.size v' l ∧ Below w.heap.size w w' := by
  obtain ⟨ao, c, e, -⟩ := id h
  obtain ⟨n, hn⟩ : ∃ n, n = l.length := ⟨_, rfl⟩
  rw [← hn] at e
  subst e
  obtain ⟨a', c', w', hrun, H⟩ := copy_run h hl
  clear h hn
  go_enter Tryd.func18, Tryd.ntmps18
  go_wp2
  go_ret
  exact ⟨_, rfl, H.out.1, H.out.2⟩
end Go.Proofs.YtibbbjikehkbmabDoor.Ve
