/-
  Package counts: List, Breaks, Holds.
-/
import Derived.Test.YteadddocmmkbgaaDoorKFaceB
import Derived.Maps.AppendAt
namespace Go.Proofs.YteadddocmmkbgaaDoor.Co
open Go.RowKit Go.Shelf
attribute [local go_sem] Oper.semAt_some

/-- What Breaks comes to. -/
def breaksP (t k : Int) (c : Nat) : Int × Bool × Int := if chkE t [c] = 0 then (if k < 1 ∨ 3 < k then (0, false, 81) else match breaksN t.toNat k c with | some i => ((i : Int), true, 0) | none => (0, false, 0)) else (0, false, chkE t [c])
theorem boxed_new {W : World} {n : Nat} {t : TypeId} {v : Value} (h : n = W.heap.size) : Boxed (W.alloc (.cells #[v] t)) n t v := by subst h; exact Boxed.new W t v
theorem one_in {w : World} {b : Nat} {c : Nat} (h : Boxed w b 24 (.int .u64 (c : Int))) : CsIn w (some ⟨b, 0, none⟩) [c] :=
  Or.inr ⟨b, 0, rfl, h.lt, fun j hj => by
    obtain rfl : j = 0 := by simpa using hj
    exact h.cell⟩
theorem Boxed.on {w w' : World} {b n : Nat} {ty : TypeId} {v : Value} (h : Boxed w b ty v) (hb : Below n w w') (hn : b < n) : Boxed w' b ty v := (hb.block b hn).trans h

theorem breaks_found {m c : Nat} {k : Int} {p : List (El m)} {x : El m} (h : (p ++ [x]).map Subtype.val <+: els m c) (hp : ∀ y ∈ p, holdsB m k y.1 = true) (hx : holdsB m k x.1 = false) : breaksN m k c = some x.1 := by
  obtain ⟨r, hr⟩ := h
  unfold breaksN
  rw [← hr, List.map_append, List.append_assoc, List.find?_append, List.find?_eq_none.2 (by
    intro y hy
    obtain ⟨z, hz, rfl⟩ := List.mem_map.1 hy
    simp [hp z hz])]
  simp [hx]
theorem breaks_none {m c : Nat} {k : Int} {p : List (El m)} (h : p.map Subtype.val = els m c) (hp : ∀ y ∈ p, holdsB m k y.1 = true) : breaksN m k c = none := by
  unfold breaksN
  rw [← h, List.find?_eq_none]
  intro y hy
  obtain ⟨z, hz, rfl⟩ := List.mem_map.1 hy
  simp [hp z hz]
/-- The last of some elements. -/
def lastN {t : Nat} (l : List (El t)) : Int := match l.getLast? with | some x => (x.1 : Int) | none => 0
theorem lastN_snoc {t : Nat} (l : List (El t)) (x : El t) : lastN (l ++ [x]) = (x.1 : Int) := by simp [lastN]

set_option maxRecDepth 100000 in
set_option maxHeartbeats 2000000 in
theorem Breaks_any {t k : Int} {c : Nat} {w : World} (h64 : c < 18446744073709551616) :
    Calls Tryd.prog 23 #[.int .i64 t, .int .i64 k, .int .u64 (c : Int)] w fun e w' => e = .returned (.tuple #[.int .i64 (breaksP t k c).1, .bool (breaksP t k c).2.1, .int .i64 (breaksP t k c).2.2]) ∧ Below w.heap.size w w' := by
  have HC := hid (fun w' (b : Nat) (hb : Boxed w' b 24 (.int .u64 (c : Int))) => Check_any (t := t) (cap := 1) (n := 1) (l := [c]) rfl (by omega) (one_in hb) (by simpa using h64))
  refine (callsIn_wide (n := 9)).1 ?_
  refine callsIn_of_wp_marks Tryd.func23 rfl trivial ?_ rfl
  simp only [Tryd.ntmps23, List.size_toArray, List.length_cons, List.length_nil, Nat.reduceAdd, Nat.reduceSub, Array.replicate_succ, Array.replicate_zero, List.push_toArray, List.append_toArray, List.nil_append, List.cons_append]
  gi_wp2
  obtain ⟨W, hW⟩ : ∃ W, ((((((w.alloc (.cells #[.int .i64 t] 3)).alloc (.cells #[.int .i64 k] 3)).alloc (.cells #[.int .i64 0] 3)).alloc (.cells #[.bool false] 4)).alloc (.cells #[.int .i64 0] 25)).alloc (.cells #[.int .u64 (c : Int)] 24)) = W := ⟨_, rfl⟩
  have b0 : Boxed W w.heap.size 3 (.int .i64 t) := by rw [← hW]; repeat (first | exact boxed_new (by simp) | refine Boxed.alloc ?_ _)
  have b1 : Boxed W (w.heap.size + 1) 3 (.int .i64 k) := by rw [← hW]; repeat (first | exact boxed_new (by simp) | refine Boxed.alloc ?_ _)
  have b2 : Boxed W (w.heap.size + 1 + 1) 3 (.int .i64 0) := by rw [← hW]; repeat (first | exact boxed_new (by simp) | refine Boxed.alloc ?_ _)
  have b3 : Boxed W (w.heap.size + 1 + 1 + 1) 4 (.bool false) := by rw [← hW]; repeat (first | exact boxed_new (by simp) | refine Boxed.alloc ?_ _)
  have b4 : Boxed W (w.heap.size + 1 + 1 + 1 + 1) 25 (.int .i64 0) := by rw [← hW]; repeat (first | exact boxed_new (by simp) | refine Boxed.alloc ?_ _)
  have b5 : Boxed W (w.heap.size + 1 + 1 + 1 + 1 + 1) 24 (.int .u64 (c : Int)) := by rw [← hW]; repeat (first | exact boxed_new (by simp) | refine Boxed.alloc ?_ _)
  have z5 : W.heap.size = w.heap.size + 1 + 1 + 1 + 1 + 1 + 1 := by rw [← hW]; simp
  have hB : Below w.heap.size w W := by
    rw [← hW]
    exact ((((((Below.refl _ w).alloc (Nat.le_refl _) _).alloc (by simp) _).alloc (by simp; omega) _).alloc (by simp; omega) _).alloc (by simp; omega) _).alloc (by simp; omega) _
  rw [hW]
  clear hW
  refine ⟨trivial, ?_⟩
  refine (callsIn_wide.2 (HC.out _ _ b5)).mono ?_
  rintro e W1 ⟨rfl, hb1⟩
  have b0 := Boxed.on b0 hb1 b0.lt
  have b1 := Boxed.on b1 hb1 b1.lt
  have b2 := Boxed.on b2 hb1 b2.lt
  have b3 := Boxed.on b3 hb1 b3.lt
  have b4 := Boxed.on b4 hb1 b4.lt
  have hB := below_tr hB hb1
  have z5 := hb1.size
  have c0 := b0.cell
  have c1 := b1.cell
  have c2 := b2.cell
  have c3 := b3.cell
  have c4 := b4.cell
  have f2 := b2.frozen
  have f3 := b3.frozen
  have f4 := b4.frozen
  by_cases h0 : chkE t [c] = 0
  · have hr := chk_range h0
    obtain ⟨m, rfl⟩ : ∃ m : Nat, t = (m : Int) := ⟨t.toNat, by omega⟩
    have hm : m ≤ 62 := by omega
    have hmay := may_lt (chk_may h0 c (by simp))
    by_cases hk : k < 1 ∨ 3 < k
    · have HR := hid (show breaksP m k c = (0, false, 81) by unfold breaksP; rw [if_pos h0, if_pos hk])
      clear HC
      rcases Int.lt_or_le k 1 with hk1 | hk1
      · rw [h0]
        gi_wp2
        refine ⟨.tuple #[.int .i64 0, .bool false, .int .i64 81], ?_, by rw [HR.out], ?_⟩
        · simp [results, Tryd.f23, go_sem, c2, c3, c4]
        · exact ((hB.setCell (p := ⟨w.heap.size + 1 + 1, 0, none⟩) (by simp; omega) _).setCell (p := ⟨w.heap.size + 1 + 1 + 1, 0, none⟩) (by simp; omega) _).setCell (p := ⟨w.heap.size + 1 + 1 + 1 + 1, 0, none⟩) (by simp; omega) _
      · have hk3 : 3 < k := by omega
        rw [h0]
        gi_wp2
        refine ⟨.tuple #[.int .i64 0, .bool false, .int .i64 81], ?_, by rw [HR.out], ?_⟩
        · simp [results, Tryd.f23, go_sem, c2, c3, c4]
        · exact ((hB.setCell (p := ⟨w.heap.size + 1 + 1, 0, none⟩) (by simp; omega) _).setCell (p := ⟨w.heap.size + 1 + 1 + 1, 0, none⟩) (by simp; omega) _).setCell (p := ⟨w.heap.size + 1 + 1 + 1 + 1, 0, none⟩) (by simp; omega) _
    · have HR := hid (show breaksP m k c = match breaksN m k c with | some i => ((i : Int), true, 0) | none => (0, false, 0) by unfold breaksP; rw [if_pos h0, if_neg hk]; rfl)
      have hk1 : ¬ k < 1 := by omega
      have hk3 : ¬ 3 < k := by omega
      have HE := hid (fun w' => elements_any m c w')
      have HH := hid (fun (x : El m) w' => holds_any (t := m) (i := x.1) k w')
      rw [h0]
      clear HC
      gi_wp2_with (refine ⟨trivial, ?_⟩; gi_at_call 33; refine (callsIn_wide.2 (HE.out _)).mono ?_; rintro e w' ⟨rfl, rfl⟩)
      obtain ⟨W2, hW2⟩ : ∃ W2, (W1.alloc (.cells #[.int .i64 (m : Int)] 53)).alloc (.cells #[.int .u64 (c : Int)] 24) = W2 := ⟨_, rfl⟩
      have hB2 : Below W1.heap.size W1 W2 := by rw [← hW2]; exact ((Below.refl _ W1).alloc (Nat.le_refl _) _).alloc (by simp) _
      have d6 : Boxed W2 W1.heap.size 53 (.int .i64 (m : Int)) := by rw [← hW2]; repeat (first | exact boxed_new (by simp) | refine Boxed.alloc ?_ _)
      have d7 : Boxed W2 (W1.heap.size + 1) 24 (.int .u64 (c : Int)) := by rw [← hW2]; repeat (first | exact boxed_new (by simp) | refine Boxed.alloc ?_ _)
      rw [hW2]
      clear hW2 c0 c1 c2 c3 c4 f2 f3 f4
      have b0 := Boxed.on b0 hB2 b0.lt
      have b1 := Boxed.on b1 hB2 b1.lt
      have b2 := Boxed.on b2 hB2 b2.lt
      have b3 := Boxed.on b3 hB2 b3.lt
      have b4 := Boxed.on b4 hB2 b4.lt
      have hB := below_tr hB hB2
      have z6 := hB2.size
      refine wpIn_rangeFunc_ownG rfl (by omega) (gf := 48) (lb := #[.pointer (some ⟨W1.heap.size, 0, none⟩), .pointer (some ⟨W1.heap.size + 1, 0, none⟩)]) rfl trivial (enters_of Tryd.func48 (by kernel_rfl) rfl)
        (els_stops (n := 9 - 1) (by omega) hm h64 W2 d6 d7) KBox.trans (fun W l o o' _ h hc _ => kBox_b W l o o' h hc) (Below.refl _ _) (fun _ => rfl)
        (fun pre W => (((Boxed W w.heap.size 3 (.int .i64 (m : Int)) ∧ Boxed W (w.heap.size + 1) 3 (.int .i64 k)) ∧ (Boxed W (w.heap.size + 1 + 1) 3 (.int .i64 0) ∧ Boxed W (w.heap.size + 1 + 1 + 1) 4 (.bool false))) ∧ Boxed W (w.heap.size + 1 + 1 + 1 + 1) 25 (.int .i64 0)) ∧ (∀ x ∈ pre, holdsB m k x.1 = true) ∧ Below w.heap.size w W)
        (fun j pre W => ((Boxed W (w.heap.size + 1 + 1) 3 (.int .i64 (lastN pre)) ∧ Boxed W (w.heap.size + 1 + 1 + 1) 4 (.bool true)) ∧ Boxed W (w.heap.size + 1 + 1 + 1 + 1) 25 (.int .i64 0)) ∧ (j = .ret ∧ (∃ p x, pre = p ++ [x] ∧ (∀ y ∈ p, holdsB m k y.1 = true) ∧ holdsB m k x.1 = false)) ∧ Below w.heap.size w W)
        (OwnFrom.and (OwnFrom.and (OwnFrom.and (OwnFrom.and (Own.from (boxed_own _ _ (fun _ => _)) _) (Own.from (boxed_own _ _ (fun _ => _)) _)) (OwnFrom.and (Own.from (boxed_own _ _ (fun _ => _)) _) (Own.from (boxed_own _ _ (fun _ => _)) _))) (Own.from (boxed_own _ _ (fun _ => _)) _)) (OwnFrom.and (ownFrom_pure _ _) (ownFrom_below (Nat.le_refl _) (by omega))))
        (fun j => OwnFrom.and (OwnFrom.and (OwnFrom.and (Own.from (boxed_own _ _ (fun pre => .int .i64 (lastN pre))) _) (Own.from (boxed_own _ _ (fun _ => _)) _)) (Own.from (boxed_own _ _ (fun _ => _)) _)) (OwnFrom.and (ownFrom_pure _ _) (ownFrom_below (Nat.le_refl _) (by omega))))
        ⟨⟨⟨⟨b0, b1⟩, b2, b3⟩, b4⟩, fun x hx => (by cases hx), hB⟩ ?a1 ?assign ?body ?done ?stop
      case assign =>
        intro l x W K hK
        gi_wp2
        exact hK
      case body =>
        rintro l pre x W ⟨⟨⟨⟨d0, d1⟩, d2, d3⟩, d4⟩, hall, hB1⟩ _
        have c0 := d0.cell
        have c1 := d1.cell
        have c2 := d2.cell
        have c3 := d3.cell
        have c4 := d4.cell
        have f2 := d2.frozen
        have f3 := d3.frozen
        have f4 := d4.frozen
        have HAL := hid hall
        clear hall
        rcases bool_two (holdsB m k x.1) with hx | hx
        · have HX := hid (HH.out x)
          rw [hx] at HX
          gi_wp2_with (refine ⟨trivial, ?_⟩; gi_at_call 39; refine (CallsIn.inRound l (callsIn_wide.2 (HX.out _))).mono ?_; rintro e w' ⟨rfl, e'⟩; have ew := e'.symm; clear e'; subst ew)
          have g2 : W.grownBy (W.setCell ⟨w.heap.size + 1 + 1, 0, none⟩ (.int .i64 (x.1 : Int))) (some (w.heap.size + 1 + 1)) := grownBy_setCell' _ _ _
          have e2 := d2.set (.int .i64 (x.1 : Int))
          have e3 := d3.kept g2 (fun e => by injection e; omega)
          have e4 := d4.kept g2 (fun e => by injection e; omega)
          have g3 := grownBy_setCell' (W.setCell ⟨w.heap.size + 1 + 1, 0, none⟩ (.int .i64 (x.1 : Int))) (w.heap.size + 1 + 1 + 1) (.bool true)
          have e2 := e2.kept g3 (fun e => by injection e; omega)
          have e3 := e3.set (.bool true)
          have e4 := e4.kept g3 (fun e => by injection e; omega)
          have g4 := grownBy_setCell' ((W.setCell ⟨w.heap.size + 1 + 1, 0, none⟩ (.int .i64 (x.1 : Int))).setCell ⟨w.heap.size + 1 + 1 + 1, 0, none⟩ (.bool true)) (w.heap.size + 1 + 1 + 1 + 1) (.int .i64 0)
          have e2 := e2.kept g4 (fun e => by injection e; omega)
          have e3 := e3.kept g4 (fun e => by injection e; omega)
          have e4 := e4.set (.int .i64 0)
          exact ⟨(((KeepsOthers.setCell _ _ _).trans (KeepsOthers.setCell _ _ _)).trans (KeepsOthers.setCell _ _ _)).from _, ⟨⟨by rw [lastN_snoc]; exact e2, e3⟩, e4⟩, ⟨rfl, pre, x, rfl, HAL.out, hx⟩,
            ((hB1.setCell (p := ⟨w.heap.size + 1 + 1, 0, none⟩) (by simp; omega) _).setCell (p := ⟨w.heap.size + 1 + 1 + 1, 0, none⟩) (by simp; omega) _).setCell (p := ⟨w.heap.size + 1 + 1 + 1 + 1, 0, none⟩) (by simp; omega) _⟩
        · have HX := hid (HH.out x)
          rw [hx] at HX
          gi_wp2_with (refine ⟨trivial, ?_⟩; gi_at_call 39; refine (CallsIn.inRound l (callsIn_wide.2 (HX.out _))).mono ?_; rintro e w' ⟨rfl, e'⟩; have ew := e'.symm; clear e'; subst ew)
          exact ⟨KeepsFrom.refl _ _, fun b _ ty v hv => hv, ⟨⟨⟨d0, d1⟩, d2, d3⟩, d4⟩, fun y hy => by
            rcases List.mem_append.1 hy with hy | hy
            · exact HAL.out y hy
            · rw [List.mem_singleton.1 hy]; exact hx, hB1⟩
      case done =>
        rintro D ys W hD hS ⟨⟨⟨⟨d0, d1⟩, d2, d3⟩, d4⟩, hall, hB1⟩ hK
        have c2 := d2.cell
        have c3 := d3.cell
        have c4 := d4.cell
        have f2 := d2.frozen
        have f3 := d3.frozen
        have f4 := d4.frozen
        gi_wp2
        have hK' := ((((KeepsOthers.setCell W ⟨w.heap.size + 1 + 1, 0, none⟩ (.int .i64 0)).trans (KeepsOthers.setCell _ ⟨w.heap.size + 1 + 1 + 1, 0, none⟩ (.bool false))).trans (KeepsOthers.setCell _ ⟨w.heap.size + 1 + 1 + 1 + 1, 0, none⟩ (.int .i64 0))).same D _ hK rfl)
        refine ⟨by simp, .inl ⟨_, _, rfl, run_takeDeferred hK', ?_⟩⟩
        have g2 := grownBy_setCell' W (w.heap.size + 1 + 1) (.int .i64 0)
        have e2 := d2.set (.int .i64 0)
        have e3 := d3.kept g2 (fun e => by injection e; omega)
        have e4 := d4.kept g2 (fun e => by injection e; omega)
        have g3 := grownBy_setCell' (W.setCell ⟨w.heap.size + 1 + 1, 0, none⟩ (.int .i64 0)) (w.heap.size + 1 + 1 + 1) (.bool false)
        have e2 := e2.kept g3 (fun e => by injection e; omega)
        have e3 := e3.set (.bool false)
        have e4 := e4.kept g3 (fun e => by injection e; omega)
        have g4 := grownBy_setCell' ((W.setCell ⟨w.heap.size + 1 + 1, 0, none⟩ (.int .i64 0)).setCell ⟨w.heap.size + 1 + 1 + 1, 0, none⟩ (.bool false)) (w.heap.size + 1 + 1 + 1 + 1) (.int .i64 0)
        have e2 := e2.kept g4 (fun e => by injection e; omega)
        have e3 := e3.kept g4 (fun e => by injection e; omega)
        have e4 := e4.set (.int .i64 0)
        have hB3 := ((hB1.setCell (p := ⟨w.heap.size + 1 + 1, 0, none⟩) (by simp; omega) (.int .i64 0)).setCell (p := ⟨w.heap.size + 1 + 1 + 1, 0, none⟩) (by simp; omega) (.bool false)).setCell (p := ⟨w.heap.size + 1 + 1 + 1 + 1, 0, none⟩) (by simp; omega) (.int .i64 0)
        obtain ⟨W5, hW5⟩ : ∃ W5, ((W.setCell ⟨w.heap.size + 1 + 1, 0, none⟩ (.int .i64 0)).setCell ⟨w.heap.size + 1 + 1 + 1, 0, none⟩ (.bool false)).setCell ⟨w.heap.size + 1 + 1 + 1 + 1, 0, none⟩ (.int .i64 0) = W5 := ⟨_, rfl⟩
        rw [hW5] at hK' e2 e3 e4 hB3 ⊢
        have k2 := (e2.kept (grownBy_putObj' _ D (.deferred none)) (fun e => by cases e; rw [show W5.heap[_]? = _ from e2] at hK'; cases hK')).cell
        have k3 := (e3.kept (grownBy_putObj' _ D (.deferred none)) (fun e => by cases e; rw [show W5.heap[_]? = _ from e3] at hK'; cases hK')).cell
        have k4 := (e4.kept (grownBy_putObj' _ D (.deferred none)) (fun e => by cases e; rw [show W5.heap[_]? = _ from e4] at hK'; cases hK')).cell
        refine ⟨.tuple #[.int .i64 0, .bool false, .int .i64 0], ?_, ?_, hB3.trans (belowK_b (w := w) (Nat.le_refl _) W5 D _ _ (by omega) hK' rfl rfl)⟩
        · simp [results, Tryd.f23, go_sem, k2, k3, k4]
        · rw [HR.out, breaks_none hS hall]
      case stop =>
        rintro D j pre W hD hS ⟨⟨⟨d2, d3⟩, d4⟩, ⟨rfl, p, x, rfl, hp, hx⟩, hB1⟩ hK
        gi_wp2
        refine ⟨by simp, .inl ⟨_, _, rfl, run_takeDeferred hK, ?_⟩⟩
        have k2 := d2.kept (grownBy_putObj' _ D (.deferred none)) (fun e => by cases e; rw [show W.heap[_]? = _ from d2] at hK; cases hK)
        have k3 := d3.kept (grownBy_putObj' _ D (.deferred none)) (fun e => by cases e; rw [show W.heap[_]? = _ from d3] at hK; cases hK)
        have k4 := d4.kept (grownBy_putObj' _ D (.deferred none)) (fun e => by cases e; rw [show W.heap[_]? = _ from d4] at hK; cases hK)
        have c2 := k2.cell
        have c3 := k3.cell
        have c4 := k4.cell
        refine ⟨.tuple #[.int .i64 (x.1 : Int), .bool true, .int .i64 0], ?_, ?_, hB1.trans (belowK_b (w := w) (Nat.le_refl _) W D _ _ (by omega) hK rfl rfl)⟩
        · rw [lastN_snoc] at c2
          simp [results, Tryd.f23, go_sem, c2, c3, c4]
        · rw [HR.out, breaks_found hS hp hx]
  · have h0' : (chkE t [c] == 0) = false := by simpa using h0
    have HR := hid (show breaksP t k c = (0, false, chkE t [c]) by unfold breaksP; rw [if_neg h0])
    clear HC h0
    gi_wp2
    refine ⟨.tuple #[.int .i64 0, .bool false, .int .i64 (chkE t [c])], ?_, by rw [HR.out], ?_⟩
    · simp [results, Tryd.f23, go_sem, c2, c3, c4]
    · exact ((hB.setCell (p := ⟨w.heap.size + 1 + 1, 0, none⟩) (by simp; omega) _).setCell (p := ⟨w.heap.size + 1 + 1 + 1, 0, none⟩) (by simp; omega) _).setCell (p := ⟨w.heap.size + 1 + 1 + 1 + 1, 0, none⟩) (by simp; omega) _
end Go.Proofs.YteadddocmmkbgaaDoor.Co
