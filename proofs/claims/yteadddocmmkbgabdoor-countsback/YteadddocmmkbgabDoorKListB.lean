/-
  Package counts: List, Holds.
-/
import Derived.Test.YteadddocmmkbgabDoorKList
namespace Go.Proofs.YteadddocmmkbgabDoor.Co
open Go.RowKit Go.Shelf
attribute [local go_sem] Oper.semAt_some

/-- What Holds comes to. -/
def holdsP (t k : Int) (c : Nat) : Bool × Int := (!(breaksP t k c).2.1 && decide ((breaksP t k c).2.2 = 0), (breaksP t k c).2.2)
set_option maxRecDepth 100000 in
set_option maxHeartbeats 1000000 in
theorem Holds_any {t k : Int} {c : Nat} {w : World} (h64 : c < 18446744073709551616) :
    Calls Tryd.prog 8 #[.int .i64 t, .int .i64 k, .int .u64 (c : Int)] w fun e w' => e = .returned (.tuple #[.bool (holdsP t k c).1, .int .i64 (holdsP t k c).2]) ∧ Below w.heap.size w w' := by
  have HB := hid (Breaks_any (t := t) (k := k) (w := w) h64)
  have HR := hid (show holdsP t k c = (!(breaksP t k c).2.1 && decide ((breaksP t k c).2.2 = 0), (breaksP t k c).2.2) from rfl)
  obtain ⟨p, hp⟩ : ∃ p, p = breaksP t k c := ⟨_, rfl⟩
  rw [← hp] at HB HR
  clear hp
  obtain ⟨p1, p2, p3⟩ := p
  simp only at HB HR
  have he : (p3 == 0) = decide (p3 = 0) := by rw [Bool.eq_iff_iff]; simp
  go_enter Tryd.func8, Tryd.ntmps8
  go_wp2_with fail
  refine HB.out.mono ?_
  rintro e w1 ⟨rfl, hb1⟩
  rcases bool_two p2 with h2 | h2
  · subst h2
    go_wp2
    go_ret2
    exact ⟨by rw [HR.out]; rfl, hb1⟩
  · subst h2
    go_wp2
    go_ret2
    exact ⟨by rw [HR.out]; rfl, hb1⟩

theorem kbox_of {W W' : World} {bt bc : Nat} {t6 t7 : TypeId} {v6 v7 : Value} (h6 : Boxed W bt t6 v6) (h7 : Boxed W bc t7 v7) (k6 : Boxed W' bt t6 v6) (k7 : Boxed W' bc t7 v7) : KBox bt bc W W' := fun b hb ty v hv => by
  rcases hb with rfl | rfl
  · have k : W'.heap[b]? = _ := k6
    rw [← (show W.heap[b]? = _ from h6), show W.heap[b]? = _ from hv] at k
    exact k
  · have k : W'.heap[b]? = _ := k7
    rw [← (show W.heap[b]? = _ from h7), show W.heap[b]? = _ from hv] at k
    exact k
/-- A slice of numbers as a value. -/
def IntsV (w : World) (v : Value) (l : List Int) : Prop := ∃ ao cap, v = .slice ao l.length cap ∧ IsIn w ao l
theorem ints_of_row {w : World} {base : Nat} {v : Value} {n : Nat} {l : List Int} (h : w.ownsRow base 3 1 v n (l.map (Value.int .i64))) : IntsV w v l := by
  have hl := h.1
  simp at hl
  subst hl
  rcases h.2 with ⟨rfl, h0⟩ | ⟨g, cap, cur, rfl, _, hgb, _⟩
  · have : l = [] := List.eq_nil_of_length_eq_zero h0
    subst this
    exact ⟨none, 0, rfl, Or.inl rfl⟩
  · refine ⟨some ⟨g, 0, none⟩, cap, rfl, Or.inr ⟨g, 0, rfl, (Array.getElem?_eq_some_iff.1 hgb).1, fun j hj => ?_⟩⟩
    rw [h.cellAt (0 + j) (by omega), Nat.zero_add, List.getElem?_map, List.getElem?_eq_getElem hj, List.getD_eq_getElem?_getD, List.getElem?_eq_getElem hj]
    rfl
theorem IntsV.below {w w' : World} {v : Value} {l : List Int} (h : IntsV w v l) (hb : Below w.heap.size w w') : IntsV w' v l := by
  obtain ⟨ao, cap, e, h⟩ := h
  exact ⟨ao, cap, e, h.below hb⟩
/-- What List comes to. -/
def listP (t : Int) (c : Nat) : List Int × Int := if chkE t [c] = 0 then ((els t.toNat c).map (fun (n : Nat) => (n : Int)), 0) else ([], chkE t [c])
theorem Tryd.infoInt : (Tryd.prog.info? 3).map (fun i => (i.zero, i.size, i.bytes)) = some (some (.int .i64 0), 1, 8) := by kernel_rfl
/-- The numbers of some elements. -/
def intsOf {t : Nat} (l : List (El t)) : List Int := l.map fun x => (x.1 : Int)
theorem intsOf_snoc {t : Nat} (l : List (El t)) (x : El t) : intsOf (l ++ [x]) = intsOf l ++ [(x.1 : Int)] := by simp [intsOf]

end Go.Proofs.YteadddocmmkbgabDoor.Co
