/-
  Package counts: List, Holds.
-/
import Derived.Test.YteadddocmmkbgaaDoorKList
namespace Go.Proofs.YteadddocmmkbgaaDoor.Co
open Go.RowKit Go.Shelf
attribute [local go_sem] Oper.semAt_some

/-- What Holds comes to. -/
def holdsP (t k : Int) (c : Nat) : Bool × Int := (!(breaksP t k c).2.1 && decide ((breaksP t k c).2.2 = 0), (breaksP t k c).2.2)
set_option maxRecDepth 100000 in
set_option maxHeartbeats 1000000 in
theorem Holds_any {t k : Int} {c : Nat} {w : World} (h64 : c < 18446744073709551616) :
    Calls Tryd.prog 21 #[.int .i64 t, .int .i64 k, .int .u64 (c : Int)] w fun e w' => e = .returned (.tuple #[.bool (holdsP t k c).1, .int .i64 (holdsP t k c).2]) ∧ Below w.heap.size w w' := by
  have HB := hid (Breaks_any (t := t) (k := k) (w := w) h64)
  have HR := hid (show holdsP t k c = (!(breaksP t k c).2.1 && decide ((breaksP t k c).2.2 = 0), (breaksP t k c).2.2) from rfl)
  obtain ⟨p, hp⟩ : ∃ p, p = breaksP t k c := ⟨_, rfl⟩
  rw [← hp] at HB HR
  clear hp
  obtain ⟨p1, p2, p3⟩ := p
  simp only at HB HR
  have he : (p3 == 0) = decide (p3 = 0) := by rw [Bool.eq_iff_iff]; simp
  go_enter Tryd.func21, Tryd.ntmps21
  go_wp2_with fail
  refine HB.out.mono ?_
  rintro e w1 ⟨rfl, hb1⟩
  rcases bool_two p2 with h2 | h2
  · subst h2
    go_wp2
    go_ret2
    exact ⟨by rw [HR.out]; rfl, hb1⟩
  · subst h2
    go_wp2
    go_ret2
    exact ⟨by rw [HR.out]; rfl, hb1⟩

theorem kbox_of {W W' : World} {bt bc : Nat} {t6 t7 : TypeId} {v6 v7 : Value} (h6 : Boxed W bt t6 v6) (h7 : Boxed W bc t7 v7) (k6 : Boxed W' bt t6 v6) (k7 : Boxed W' bc t7 v7) : KBox bt bc W W' := fun b hb ty v hv => by
  rcases hb with rfl | rfl
  · have k : W'.heap[b]? = _ := k6
    rw [← (show W.heap[b]? = _ from h6), show W.heap[b]? = _ from hv] at k
    exact k
  · have k : W'.heap[b]? = _ := k7
    rw [← (show W.heap[b]? = _ from h7), show W.heap[b]? = _ from hv] at k
    exact k
/-- A slice of numbers as a value. -/
def IntsV (w : World) (v : Value) (l : List Int) : Prop := ∃ ao cap, v = .slice ao l.length cap ∧ IsIn w ao l
theorem ints_of_row {w : World} {base : Nat} {v : Value} {n : Nat} {l : List Int} (h : w.ownsRow base 3 1 v n (l.map (Value.int .i64))) : IntsV w v l := by
  have hl := h.1
  simp at hl
  subst hl
  rcases h.2 with ⟨rfl, h0⟩ | ⟨g, cap, cur, rfl, _, hgb, _⟩
  · have : l = [] := List.eq_nil_of_length_eq_zero h0
    subst this
    exact ⟨none, 0, rfl, Or.inl rfl⟩
  · refine ⟨some ⟨g, 0, none⟩, cap, rfl, Or.inr ⟨g, 0, rfl, (Array.getElem?_eq_some_iff.1 hgb).1, fun j hj => ?_⟩⟩
    rw [h.cellAt (0 + j) (by omega), Nat.zero_add, List.getElem?_map, List.getElem?_eq_getElem hj, List.getD_eq_getElem?_getD, List.getElem?_eq_getElem hj]
    rfl
theorem IntsV.below {w w' : World} {v : Value} {l : List Int} (h : IntsV w v l) (hb : Below w.heap.size w w') : IntsV w' v l := by
  obtain ⟨ao, cap, e, h⟩ := h
  exact ⟨ao, cap, e, h.below hb⟩
/-- What List comes to. -/
def listP (t : Int) (c : Nat) : List Int × Int := if chkE t [c] = 0 then ((els t.toNat c).map (fun (n : Nat) => (n : Int)), 0) else ([], chkE t [c])
theorem Tryd.infoInt : (Tryd.prog.info? 3).map (fun i => (i.zero, i.size, i.bytes)) = some (some (.int .i64 0), 1, 8) := by kernel_rfl
/-- The numbers of some elements. -/
def intsOf {t : Nat} (l : List (El t)) : List Int := l.map fun x => (x.1 : Int)
theorem intsOf_snoc {t : Nat} (l : List (El t)) (x : El t) : intsOf (l ++ [x]) = intsOf l ++ [(x.1 : Int)] := by simp [intsOf]

set_option maxRecDepth 100000 in
set_option maxHeartbeats 2000000 in
theorem List_any {t : Int} {c : Nat} {w : World} (h64 : c < 18446744073709551616) :
    Calls Tryd.prog 11 #[.int .i64 t, .int .u64 (c : Int)] w fun e w' => ∃ v, e = .returned (.tuple #[v, .int .i64 (listP t c).2]) ∧ IntsV w' v (listP t c).1 ∧ Below w.heap.size w w' := by
  have HC := hid (fun w' (b : Nat) (hb : Boxed w' b 24 (.int .u64 (c : Int))) => Check_any (t := t) (cap := 1) (n := 1) (l := [c]) rfl (by omega) (one_in hb) (by simpa using h64))
  obtain ⟨i0, hi, hz0, hz1, hz2⟩ := info_parts Tryd.infoInt
  refine (callsIn_wide (n := 9)).1 ?_
  refine callsIn_of_wp_marks Tryd.func11 rfl trivial ?_ rfl
  simp only [Tryd.ntmps11, List.size_toArray, List.length_cons, List.length_nil, Nat.reduceAdd, Nat.reduceSub, Array.replicate_succ, Array.replicate_zero, List.push_toArray, List.append_toArray, List.nil_append, List.cons_append]
  gi_wp2
  have b0 : Boxed (w.alloc (.cells #[.int .u64 (c : Int)] 24)) w.heap.size 24 (.int .u64 (c : Int)) := Boxed.new _ _ _
  have hB : Below w.heap.size w (w.alloc (.cells #[.int .u64 (c : Int)] 24)) := (Below.refl _ w).alloc (Nat.le_refl _) _
  refine ⟨trivial, ?_⟩
  refine (callsIn_wide.2 (HC.out _ _ b0)).mono ?_
  rintro e W1 ⟨rfl, hb1⟩
  have hB := below_tr hB hb1
  clear b0 hb1 HC
  by_cases h0 : chkE t [c] = 0
  · have HR := hid (show listP t c = ((els t.toNat c).map (fun (n : Nat) => (n : Int)), 0) by unfold listP; rw [if_pos h0])
    have hr := chk_range h0
    rw [h0]
    obtain ⟨m, rfl⟩ : ∃ m : Nat, t = (m : Int) := ⟨t.toNat, by omega⟩
    have hm : m ≤ 62 := by omega
    have HE := hid (fun w' => elements_any m c w')
    gi_wp2_with (refine ⟨trivial, ?_⟩; gi_at_call 33; refine (callsIn_wide.2 (HE.out _)).mono ?_; rintro e w' ⟨rfl, rfl⟩)
    obtain ⟨W2, hW2⟩ : ∃ W2, ((W1.alloc (.cells #[.slice none 0 0] 22)).alloc (.cells #[.int .i64 (m : Int)] 53)).alloc (.cells #[.int .u64 (c : Int)] 24) = W2 := ⟨_, rfl⟩
    have hB2 : Below W1.heap.size W1 W2 := by rw [← hW2]; exact (((Below.refl _ W1).alloc (Nat.le_refl _) _).alloc (by simp) _).alloc (by simp; omega) _
    have d5 : Boxed W2 W1.heap.size 22 (.slice none 0 0) := by rw [← hW2]; repeat (first | exact boxed_new (by simp) | refine Boxed.alloc ?_ _)
    have d6 : Boxed W2 (W1.heap.size + 1) 53 (.int .i64 (m : Int)) := by rw [← hW2]; repeat (first | exact boxed_new (by simp) | refine Boxed.alloc ?_ _)
    have d7 : Boxed W2 (W1.heap.size + 1 + 1) 24 (.int .u64 (c : Int)) := by rw [← hW2]; repeat (first | exact boxed_new (by simp) | refine Boxed.alloc ?_ _)
    rw [hW2]
    clear hW2
    have hB3 := below_tr hB hB2
    have z1 := hB.size
    have z6 := hB2.size
    have z7 := d7.lt
    refine wpIn_rangeFunc_ownG rfl (by omega) (gf := 48) (lb := #[.pointer (some ⟨W1.heap.size + 1, 0, none⟩), .pointer (some ⟨W1.heap.size + 1 + 1, 0, none⟩)]) rfl trivial (enters_of Tryd.func48 (by kernel_rfl) rfl)
      (els_stops (n := 9 - 1) (by omega) hm h64 W2 d6 d7) KBox.trans (fun W l o o' _ h hc _ => kBox_b W l o o' h hc) (Below.refl _ _) (fun _ => rfl)
      (fun pre W => (∃ v, Boxed W W1.heap.size 22 v ∧ W.ownsRow w.heap.size 3 1 v pre.length ((intsOf pre).map (Value.int .i64)) ∧ True) ∧ (Boxed W (W1.heap.size + 1) 53 (.int .i64 (m : Int)) ∧ Boxed W (W1.heap.size + 1 + 1) 24 (.int .u64 (c : Int))) ∧ Below w.heap.size w W)
      (fun _ _ _ => False)
      (OwnFrom.and (Own.from (holdsRow_own w.heap.size W1.heap.size 22 3 1 (fun pre => pre.length) (fun pre => (intsOf pre).map (Value.int .i64)) (fun pre v => True)) _) (OwnFrom.and (OwnFrom.and (Own.from (boxed_own _ _ (fun _ => _)) _) (Own.from (boxed_own _ _ (fun _ => _)) _)) (ownFrom_below (Nat.le_refl _) (by omega))))
      (fun _ _ _ _ _ hs _ _ => hs)
      ⟨⟨_, d5, World.ownsRow_nil _ _ _ _, trivial⟩, ⟨d6, d7⟩, hB3⟩ ?a1 ?assign ?body ?done ?stop
    case assign =>
      intro l x W K hK
      gi_wp2
      exact hK
    case body =>
      rintro l pre x W ⟨⟨v, hv, hrow, _⟩, ⟨e6, e7⟩, hB1⟩ hlt
      have hc := hv.cell
      gi_wp2_with (gi_at_builtin; refine wpListIn_append_own _ rfl _ _ 22 rfl w.heap.size 3 i0 (.int .i64 0) 1 8 Tryd.underlying22 hi hz0 hz1 hz2 rfl (by decide) _ _ _ rfl (hrow.alloc _) ⟨W.heap.size, 0, none⟩ 1 1 [.int .i64 (x.1 : Int)] rfl rfl (cell_one_new _ _ _) (by simp [Value.oneCell']) (by simp [maxLen]; omega) (by omega) (by have := hB1.size; simp; omega) ?_; intro v' w1 hown' hgrow _; obtain ⟨g', cap', rfl⟩ := ownsRow_succ hown'; have k6 := (e6.alloc _).kept hgrow (e6.not_row (by decide) hrow); have k7 := (e7.alloc _).kept hgrow (e7.not_row (by decide) hrow); obtain ⟨hv1, hv2, hr2, hk2, hb2⟩ := hv.appended (by decide) hrow hB1.size (by omega) hown' hgrow; have hc1 := hv1.cell; have hf1 := hv1.frozen)
      have k6' := k6.other (B' := W1.heap.size) (by omega) (.slice (some ⟨g', 0, none⟩) (pre.length + 1) cap')
      have k7' := k7.other (B' := W1.heap.size) (by omega) (.slice (some ⟨g', 0, none⟩) (pre.length + 1) cap')
      exact ⟨hk2.from _, kbox_of e6 e7 k6' k7', ⟨_, hv2, by rw [intsOf_snoc, List.length_append]; simpa using hr2, trivial⟩, ⟨k6', k7'⟩, hB1.trans hb2⟩
    case done =>
      rintro D ys W hD hS ⟨⟨v, hv, hrow, _⟩, ⟨e6, e7⟩, hB1⟩ hK
      have hc := hv.cell
      gi_wp2
      refine ⟨by simp, .inl ⟨_, _, rfl, run_takeDeferred hK, ?_⟩⟩
      have hrow' := ownsRow_putObj hrow (.deferred none) hK rfl
      have hl : intsOf ys = (els m c).map (fun (n : Nat) => (n : Int)) := by rw [← hS, List.map_map]; rfl
      rw [hl] at hrow'
      exact ⟨_, results_tmp2 rfl _ _ _, v, by rw [HR.out]; rfl, by rw [HR.out]; exact ints_of_row hrow', hB1.trans (belowK_b (w := w) (Nat.le_refl _) W D _ _ (by omega) hK rfl rfl)⟩
    case stop =>
      rintro D j pre W hD hS h hK
      exact h.elim
  · have h0' : (chkE t [c] == 0) = false := by simpa using h0
    have HR := hid (show listP t c = ([], chkE t [c]) by unfold listP; rw [if_neg h0])
    gi_wp2
    exact ⟨_, results_tmp2 rfl _ _ _, .slice none 0 0, by rw [HR.out]; rfl, by rw [HR.out]; exact ⟨none, 0, rfl, Or.inl rfl⟩, hB⟩
end Go.Proofs.YteadddocmmkbgaaDoor.Co
