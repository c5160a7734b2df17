/-
  Package counts: the reader's element.
-/
import Derived.Test.YteadddocmmkbgaaDoorKRdA
import Derived.Test.YteadddocmmkbgaaDoorKQuiet
namespace Go.Proofs.YteadddocmmkbgaaDoor.Co
open Go.RowKit Go.Shelf
attribute [local go_sem] Oper.semAt_some

theorem RdAt.alloc {w : World} {rb t p : Nat} {s : List UInt8} (h : RdAt w rb t s p) (o : Obj) : RdAt (w.alloc o) rb t s p := ((World.grownBy_alloc w o none).block rb h.lt (by simp)).trans h
/-- What is found so far, as a value. -/
def fndI : Option Nat → Int
  | none => -1
  | some i => (i : Int)
def upEl {t : Nat} (s : List UInt8) (pre : List (El t)) : Option Nat × Nat := pre.foldl (fun q x => elStep t s q x.1) (none, 0)
theorem upEl_snoc {t : Nat} (s : List UInt8) (pre : List (El t)) (x : El t) : upEl s (pre ++ [x]) = elStep t s (upEl s pre) x.1 := by simp [upEl]
theorem upEl_all {t c : Nat} (s : List UInt8) {ys : List (El t)} (h : ys.map Subtype.val = els t c) : upEl s ys = elem t c s := by
  unfold upEl elem
  rw [← h, List.foldl_map]

theorem elem_far (t c : Nat) (s : List UInt8) : (elem t c s).2 ≤ s.length := by
  unfold elem
  have key : ∀ (l : List Nat) (q : Option Nat × Nat), q.2 ≤ s.length → (l.foldl (elStep t s) q).2 ≤ s.length := by
    intro l
    induction l with
    | nil => intro q h; exact h
    | cons x l ih =>
      intro q h
      refine ih _ ?_
      have := (al_le (wordT t x) s).2
      unfold elStep
      simp only
      split <;> split <;> first | exact this | exact h
  exact key _ _ (Nat.zero_le _)
/-- What a round of element keeps. -/
structure RX (w W w1 : World) (n rb : Nat) (v1 v2 : Value) : Prop where
  b0 : Boxed w1 n 86 (.pointer (some ⟨rb, 0, none⟩))
  b1 : Boxed w1 (n + 1) 3 v1
  b2 : Boxed w1 (n + 1 + 1) 3 v2
  kw : KeepsOthers W w1
  kb : KBox (n + 1 + 1 + 1) (n + 1 + 1 + 1 + 1) W w1
  below : Below n w w1
theorem RX.drewN {w W w1 : World} {n rb : Nat} {v1 v2 : Value} (h : RX w W w1 n rb v1 v2) (m : Nat) : RX w W (w1.drewN m) n rb v1 v2 :=
  ⟨h.b0, h.b1, h.b2, h.kw.trans (KeepsOthers.of_grownBy (grown_drewN w1 m none) (fun j o ej _ => by cases ej)), fun b hb ty v hv => h.kb b hb ty v hv, h.below.trans ⟨rfl, rfl, rfl, Nat.le_refl _, fun _ _ => rfl⟩⟩
theorem RX.set1 {w W w1 : World} {n rb : Nat} {v1 v2 : Value} (h : RX w W w1 n rb v1 v2) (v : Value) : RX w W (w1.setCell ⟨n + 1, 0, none⟩ v) n rb v v2 :=
  ⟨h.b0.other (by omega) v, h.b1.set v, h.b2.other (by omega) v, h.kw.trans (KeepsOthers.setCell _ _ _), fun b hb ty u hu => (h.kb b hb ty u hu).other (by rcases hb with rfl | rfl <;> omega) v, h.below.setCell (p := ⟨n + 1, 0, none⟩) (by simp) v⟩
theorem RX.set2 {w W w1 : World} {n rb : Nat} {v1 v2 : Value} (h : RX w W w1 n rb v1 v2) (v : Value) : RX w W (w1.setCell ⟨n + 1 + 1, 0, none⟩ v) n rb v1 v :=
  ⟨h.b0.other (by omega) v, h.b1.other (by omega) v, h.b2.set v, h.kw.trans (KeepsOthers.setCell _ _ _), fun b hb ty u hu => (h.kb b hb ty u hu).other (by rcases hb with rfl | rfl <;> omega) v, h.below.setCell (p := ⟨n + 1 + 1, 0, none⟩) (by simp; omega) v⟩
theorem RX.fin {w W w1 : World} {rb B : Nat} {v1 v2 : Value} {t : Nat} {s' : List UInt8} {pre : List (El t)} (h : RX w W w1 w.heap.size rb v1 v2) (e1 : v1 = .int .i64 (fndI (upEl s' pre).1)) (e2 : v2 = .int .i64 (((upEl s' pre).2 : Nat) : Int)) :
    KeepsFrom B W w1 ∧ KBox (w.heap.size + 1 + 1 + 1) (w.heap.size + 1 + 1 + 1 + 1) W w1 ∧ (Boxed w1 w.heap.size 86 (.pointer (some ⟨rb, 0, none⟩)) ∧ Boxed w1 (w.heap.size + 1) 3 (.int .i64 (fndI (upEl s' pre).1)) ∧ Boxed w1 (w.heap.size + 1 + 1) 3 (.int .i64 (((upEl s' pre).2 : Nat) : Int))) ∧ Below w.heap.size w w1 := by
  subst e1 e2
  exact ⟨h.kw.from _, h.kb, ⟨h.b0, h.b1, h.b2⟩, h.below⟩
/-- What element comes to, behind a place. -/
def elR (t c : Nat) (s : List UInt8) (p : Nat) : Except Nat (Value × Nat) := match elem t c (s.drop p) with
  | (none, far) => .error (p + far)
  | (some i, far) => .ok (.int .i64 (i : Int), p + far)
theorem elR_none {t c p far : Nat} {s : List UInt8} (h : (none, far) = elem t c (s.drop p)) : elR t c s p = .error (p + far) := by unfold elR; rw [← h]
theorem elR_some {t c p far i : Nat} {s : List UInt8} (h : (some i, far) = elem t c (s.drop p)) : elR t c s p = .ok (.int .i64 (i : Int), p + far) := by unfold elR; rw [← h]
theorem extract_drop (s : List UInt8) (p : Nat) : (tx s).extract p s.length = tx (s.drop p) := by
  have h : ((tx s).extract p (tx s).size).data.toList = s.drop p := by
    have := Lib.extract_data (tx s) p (tx s).size
    rw [this]
    show (s.drop p).take (s.length - p) = _
    rw [List.take_of_length_le (by rw [List.length_drop]; omega)]
  apply ByteArray.ext
  apply Array.ext'
  exact h
theorem alike_cut (a : List UInt8) {s s' : List UInt8} {p : Nat} (hs : s' = s.drop p) (ha : a.length ≤ 64) (w : World) : Calls Tryd.prog 63 #[.string (tx a), .string ((tx s).extract p s.length)] w fun e w' => e = .returned (.int .i64 (al a s' : Nat)) ∧ ∃ m, w' = w.drewN m := by
  rw [extract_drop, hs]
  exact alike_any a _ w ha

set_option maxRecDepth 100000 in
set_option maxHeartbeats 4000000 in
theorem element_any {w0 w : World} {rb t p c : Nat} {s : List UInt8} (hP : PowTab w0) (hB : Below w0.heap.size w0 w) (h : RdAt w rb t s p) (hp : p ≤ s.length) (hs : s.length ≤ 9223372036854775807) (ht : t ≤ 62) (hc : c < 18446744073709551616) :
    Calls Tryd.prog 57 #[.pointer (some ⟨rb, 0, none⟩), .int .u64 (c : Int)] w (RdPost w rb t s (elR t c s p)) := by
  refine (callsIn_wide (n := 9)).1 ?_
  refine callsIn_of_wp_marks Tryd.func57 rfl trivial ?_ rfl
  simp only [Tryd.ntmps57, List.size_toArray, List.length_cons, List.length_nil, Nat.reduceAdd, Nat.reduceSub, Array.replicate_succ, Array.replicate_zero, List.push_toArray, List.append_toArray, List.nil_append, List.cons_append]
  have HE := hid (fun w' => elements_any t c w')
  obtain ⟨c0, c1, c2, f2⟩ := h.cells
  have h1 := h.alloc (.cells #[.pointer (some ⟨rb, 0, none⟩)] 86)
  have h2 := h1.alloc (.cells #[.int .i64 (-1)] 3)
  have h3 := h2.alloc (.cells #[.int .i64 0] 3)
  have a0 := h3.cells.1
  gi_wp2_with (refine ⟨trivial, ?_⟩; gi_at_call 33; refine (callsIn_wide.2 (HE.out _)).mono ?_; rintro e w' ⟨rfl, rfl⟩)
  obtain ⟨W4, hW4⟩ : ∃ W4, ((((w.alloc (.cells #[.pointer (some ⟨rb, 0, none⟩)] 86)).alloc (.cells #[.int .i64 (-1)] 3)).alloc (.cells #[.int .i64 0] 3)).alloc (.cells #[.int .i64 (t : Int)] 53)).alloc (.cells #[.int .u64 (c : Int)] 24) = W4 := ⟨_, rfl⟩
  have b0 : Boxed W4 w.heap.size 86 (.pointer (some ⟨rb, 0, none⟩)) := by rw [← hW4]; repeat (first | exact boxed_new (by simp) | refine Boxed.alloc ?_ _)
  have b1 : Boxed W4 (w.heap.size + 1) 3 (.int .i64 (-1)) := by rw [← hW4]; repeat (first | exact boxed_new (by simp) | refine Boxed.alloc ?_ _)
  have b2 : Boxed W4 (w.heap.size + 1 + 1) 3 (.int .i64 0) := by rw [← hW4]; repeat (first | exact boxed_new (by simp) | refine Boxed.alloc ?_ _)
  have b3 : Boxed W4 (w.heap.size + 1 + 1 + 1) 53 (.int .i64 (t : Int)) := by rw [← hW4]; repeat (first | exact boxed_new (by simp) | refine Boxed.alloc ?_ _)
  have b4 : Boxed W4 (w.heap.size + 1 + 1 + 1 + 1) 24 (.int .u64 (c : Int)) := by rw [← hW4]; repeat (first | exact boxed_new (by simp) | refine Boxed.alloc ?_ _)
  have z4 : W4.heap.size = w.heap.size + 1 + 1 + 1 + 1 + 1 := by rw [← hW4]; simp
  have hB4 : Below w.heap.size w W4 := by
    rw [← hW4]
    exact (((((Below.refl _ w).alloc (Nat.le_refl _) _).alloc (by simp) _).alloc (by simp; omega) _).alloc (by simp; omega) _).alloc (by simp; omega) _
  rw [hW4]
  clear hW4 h1 h2 h3 a0 c0 c1 c2 f2
  obtain ⟨s', hs'⟩ : ∃ s', s' = s.drop p := ⟨_, rfl⟩
  refine wpIn_rangeFunc_ownG rfl (by omega) (gf := 48) (lb := #[.pointer (some ⟨w.heap.size + 1 + 1 + 1, 0, none⟩), .pointer (some ⟨w.heap.size + 1 + 1 + 1 + 1, 0, none⟩)]) rfl trivial (enters_of Tryd.func48 (by kernel_rfl) rfl)
    (els_stops (n := 9 - 1) (by omega) ht hc W4 b3 b4) KBox.trans (fun W l o o' _ h hc _ => kBox_b W l o o' h hc) (Below.refl _ _) (fun _ => rfl)
    (fun pre W => (Boxed W w.heap.size 86 (.pointer (some ⟨rb, 0, none⟩)) ∧ Boxed W (w.heap.size + 1) 3 (.int .i64 (fndI (upEl s' pre).1)) ∧ Boxed W (w.heap.size + 1 + 1) 3 (.int .i64 (((upEl s' pre).2 : Nat) : Int))) ∧ Below w.heap.size w W)
    (fun _ _ _ => False)
    (OwnFrom.and (OwnFrom.and (Own.from (boxed_own _ _ (fun _ => _)) _) (OwnFrom.and (Own.from (boxed_own _ _ (fun pre => .int .i64 (fndI (upEl s' pre).1))) _) (Own.from (boxed_own _ _ (fun pre => .int .i64 (((upEl s' pre).2 : Nat) : Int))) _))) (ownFrom_below (Nat.le_refl _) (by omega)))
    (fun _ _ _ _ _ hs _ _ => hs)
    ⟨⟨b0, b1, b2⟩, hB4⟩ ?a1 ?assign ?body ?done ?stop
  case assign =>
    intro l x W K hK
    gi_wp2
    exact hK
  case body =>
    rintro l pre x W ⟨⟨d0, d1, d2⟩, hB1⟩ _
    have hRd : RdAt W rb t s p := (hB1.block rb h.lt).trans h
    obtain ⟨r0, r1, r2, _⟩ := hRd.cells
    have c0 := d0.cell
    have c1 := d1.cell
    have c2 := d2.cell
    have f1 := d1.frozen
    have f2 := d2.frozen
    have hmx : Tryd.prog.follows .mixedOrders = true := by kernel_rfl
    have HT := hid (text_any (t := t) (i := x.1) ht x.2 (w := W) (hP.below (below_tr hB hB1)))
    gi_wp2_with (refine ⟨trivial, ?_⟩; gi_at_call 41; refine (CallsIn.inRound l (callsIn_wide.2 HT.out)).mono ?_; rintro e w1 ⟨rfl, hb1⟩; have hRd1 : RdAt w1 rb t s p := (hb1.block rb hRd.lt).trans hRd; obtain ⟨q0, q1, q2, _⟩ := hRd1.cells; have g0 := Boxed.on d0 hb1 d0.lt; have g1 := Boxed.on d1 hb1 d1.lt; have g2 := Boxed.on d2 hb1 d2.lt; have m0 := g0.cell; have m1 := g1.cell; have m2 := g2.cell; have k1 := g1.frozen; have k2 := g2.frozen)
    have hpI : (p : Int) ≤ (s.length : Int) := by omega
    have hp0 : (0 : Int) ≤ (p : Int) := by omega
    have HAL := hid (fun w' => alike_cut (wordT t x.1) (s := s) (p := p) (s' := s') hs' (by have := word_len ht x.2; omega) w')
    obtain ⟨N, hN⟩ : ∃ N, N = al (wordT t x.1) s' := ⟨_, rfl⟩
    obtain ⟨L, hL⟩ : ∃ L, L = (wordT t x.1).length := ⟨_, rfl⟩
    obtain ⟨⟨fo, fa⟩, hq⟩ : ∃ q, q = upEl s' pre := ⟨_, rfl⟩
    rw [← hq] at g1 g2 m1 m2
    rw [← hN] at HAL
    have HST := hid (show upEl s' (pre ++ [x]) = (if N = (if fa < N then (none, N) else (fo, fa)).2 ∧ N = L then (some x.1, (if fa < N then (none, N) else (fo, fa)).2) else (if fa < N then (none, N) else (fo, fa))) by rw [upEl_snoc, ← hq, hN, hL]; rfl)
    have hLI : ((wordT t x.1).length : Int) = (L : Int) := by rw [hL]
    have hNL : N ≤ L := by rw [hN, hL]; exact (al_le _ _).1
    have hL3 : L ≤ 3 := by rw [hL]; exact word_len ht x.2
    have HX := hid (show RX w W w1 w.heap.size rb (.int .i64 (fndI fo)) (.int .i64 (fa : Int)) from ⟨g0, g1, g2, KeepsOthers.of_grownBy (grown_of_below none hb1) (fun j o ej _ => by cases ej), fun b hb ty v hv => Boxed.on hv hb1 hv.lt, below_tr hB1 hb1⟩)
    simp only at m1 m2
    clear hs' hN hL hq d0 d1 d2 r0 r1 r2 c0 c1 c2 f1 f2 HT hb1 g0 g1 g2
    by_cases h1 : fa < N
    · have h1I : (fa : Int) < (N : Int) := by omega
      by_cases h2 : N = L
      · have HR := hid (show upEl s' (pre ++ [x]) = (some x.1, N) by rw [HST.out, if_pos h1, if_pos ⟨rfl, h2⟩])
        have h2I : ((N : Int) == (L : Int)) = true := by rw [h2]; simp
        clear h1 h2
        refine region_round l hmx (by kernel_rfl) (by kernel_rfl) ?_
        repeat (gi_big_quiet_step (fail))
        refine wpQuietIn_step (by go_simp; intros; trivial) (fun K hK => ?_)
        go_simp
        refine ⟨.int .i64 (N : Int), fun _ => ?_, hK _ ?_⟩
        · gi_at_call 63
          exact CallsIn.quiet_of (callsIn_wide.2 (HAL.out _))
        clear hK K
        repeat (gi_big_quiet_step (fail))
        refine wpQuietIn_nil ?_
        rintro _ ⟨nq, rfl⟩
        all_goals gi_wp2
        all_goals exact RX.fin (((HX.out.drewN _).set1 (.int .i64 (-1))).set2 (.int .i64 (N : Int)) |>.set1 (.int .i64 (x.1 : Int))) (by rw [HR.out]; rfl) (by rw [HR.out])
      · have HR := hid (show upEl s' (pre ++ [x]) = (none, N) by rw [HST.out, if_pos h1, if_neg (fun q => h2 q.2)])
        have h2I : ((N : Int) == (L : Int)) = false := by simp; omega
        clear h1 h2
        refine region_round l hmx (by kernel_rfl) (by kernel_rfl) ?_
        repeat (gi_big_quiet_step (fail))
        refine wpQuietIn_step (by go_simp; intros; trivial) (fun K hK => ?_)
        go_simp
        refine ⟨.int .i64 (N : Int), fun _ => ?_, hK _ ?_⟩
        · gi_at_call 63
          exact CallsIn.quiet_of (callsIn_wide.2 (HAL.out _))
        clear hK K
        repeat (gi_big_quiet_step (fail))
        refine wpQuietIn_nil ?_
        rintro _ ⟨nq, rfl⟩
        all_goals gi_wp2
        all_goals exact RX.fin (((HX.out.drewN _).set1 (.int .i64 (-1))).set2 (.int .i64 (N : Int))) (by rw [HR.out]; rfl) (by rw [HR.out])
    · have h1I : ¬ (fa : Int) < (N : Int) := by omega
      by_cases h2 : N = fa
      · by_cases h3 : N = L
        · have HR := hid (show upEl s' (pre ++ [x]) = (some x.1, fa) by rw [HST.out, if_neg h1, if_pos ⟨h2, h3⟩])
          have h2I : ((N : Int) == (fa : Int)) = true := by rw [h2]; simp
          have h3I : ((N : Int) == (L : Int)) = true := by rw [h3]; simp
          clear h1 h2 h3
          refine region_round l hmx (by kernel_rfl) (by kernel_rfl) ?_
          repeat (gi_big_quiet_step (fail))
          refine wpQuietIn_step (by go_simp; intros; trivial) (fun K hK => ?_)
          go_simp
          refine ⟨.int .i64 (N : Int), fun _ => ?_, hK _ ?_⟩
          · gi_at_call 63
            exact CallsIn.quiet_of (callsIn_wide.2 (HAL.out _))
          clear hK K
          repeat (gi_big_quiet_step (fail))
          refine wpQuietIn_nil ?_
          rintro _ ⟨nq, rfl⟩
          all_goals gi_wp2
          all_goals exact RX.fin ((HX.out.drewN _).set1 (.int .i64 (x.1 : Int))) (by rw [HR.out]; rfl) (by rw [HR.out])
        · have HR := hid (show upEl s' (pre ++ [x]) = (fo, fa) by rw [HST.out, if_neg h1, if_neg (fun q => h3 q.2)])
          have h2I : ((N : Int) == (fa : Int)) = true := by rw [h2]; simp
          have h3I : ((N : Int) == (L : Int)) = false := by simp; omega
          clear h1 h2 h3
          refine region_round l hmx (by kernel_rfl) (by kernel_rfl) ?_
          repeat (gi_big_quiet_step (fail))
          refine wpQuietIn_step (by go_simp; intros; trivial) (fun K hK => ?_)
          go_simp
          refine ⟨.int .i64 (N : Int), fun _ => ?_, hK _ ?_⟩
          · gi_at_call 63
            exact CallsIn.quiet_of (callsIn_wide.2 (HAL.out _))
          clear hK K
          repeat (gi_big_quiet_step (fail))
          refine wpQuietIn_nil ?_
          rintro _ ⟨nq, rfl⟩
          all_goals gi_wp2
          all_goals exact RX.fin (HX.out.drewN _) (by rw [HR.out]) (by rw [HR.out])
      · have HR := hid (show upEl s' (pre ++ [x]) = (fo, fa) by rw [HST.out, if_neg h1, if_neg (fun q => h2 q.1)])
        have h2I : ((N : Int) == (fa : Int)) = false := by simp; omega
        clear h1 h2
        refine region_round l hmx (by kernel_rfl) (by kernel_rfl) ?_
        repeat (gi_big_quiet_step (fail))
        refine wpQuietIn_step (by go_simp; intros; trivial) (fun K hK => ?_)
        go_simp
        refine ⟨.int .i64 (N : Int), fun _ => ?_, hK _ ?_⟩
        · gi_at_call 63
          exact CallsIn.quiet_of (callsIn_wide.2 (HAL.out _))
        clear hK K
        repeat (gi_big_quiet_step (fail))
        refine wpQuietIn_nil ?_
        rintro _ ⟨nq, rfl⟩
        all_goals gi_wp2
        all_goals exact RX.fin (HX.out.drewN _) (by rw [HR.out]) (by rw [HR.out])
  case done =>
    rintro D ys W hD hS ⟨⟨d0, d1, d2⟩, hB1⟩ hK
    have c0 := d0.cell
    have c1 := d1.cell
    have c2 := d2.cell
    have hRd : RdAt W rb t s p := (hB1.block rb h.lt).trans h
    obtain ⟨r0, r1, r2, rf⟩ := hRd.cells
    have hmx : Tryd.prog.follows .mixedOrders = true := by kernel_rfl
    have he : upEl s' ys = elem t c s' := upEl_all s' hS
    rw [he, hs'] at c1 c2 d1 d2
    have hfar : (elem t c (s.drop p)).2 ≤ (s.drop p).length := elem_far t c (s.drop p)
    rw [List.length_drop] at hfar
    obtain ⟨⟨fo, fa⟩, hq⟩ : ∃ q, q = elem t c (s.drop p) := ⟨_, rfl⟩
    rw [← hq] at c1 c2 d1 d2 hfar
    simp only at c1 c2 hfar
    have HQ := hid hq
    have hsum : (p : Int) + (fa : Int) ≤ 9223372036854775807 := by omega
    have hlt := h.lt
    have cc := fun v => ((show Boxed W.drew (w.heap.size + 1) 3 (.int .i64 (fndI fo)) from d1).kept (grown_set2 W.drew rb 2 v) (fun e => by injection e; omega)).cell
    have HRd := hid hRd
    have HG := hid (show w.grownBy (W.drew.setCell ⟨rb, 2, none⟩ (.int .i64 ((p : Int) + (fa : Int)))) (some rb) from grown_two (grown_of_below _ (show Below w.heap.size w W.drew from hB1.drew)) (grown_set2 _ _ _ _))
    have HR2 := hid (show RdAt (W.drew.setCell ⟨rb, 2, none⟩ (.int .i64 ((p : Int) + (fa : Int)))) rb t s (p + fa) by
      have := (show RdAt W.drew rb t s p from hRd).set (p + fa)
      rw [Int.natCast_add] at this
      exact this)
    have hK2 : (W.drew.setCell ⟨rb, 2, none⟩ (.int .i64 ((p : Int) + (fa : Int)))).heap[D]? = some (.deferred (some [])) := (KeepsOthers.setCell W.drew ⟨rb, 2, none⟩ (.int .i64 ((p : Int) + (fa : Int)))).same D _ hK rfl
    have HP2 := hid (show w.grownBy ((W.drew.setCell ⟨rb, 2, none⟩ (.int .i64 ((p : Int) + (fa : Int)))).putObj D (.deferred none)) (some rb) ∧ RdAt ((W.drew.setCell ⟨rb, 2, none⟩ (.int .i64 ((p : Int) + (fa : Int)))).putObj D (.deferred none)) rb t s (p + fa) by
      have hDr : rb ≠ D := by omega
      refine ⟨⟨HG.out.os, HG.out.tape, HG.out.output, Nat.le_trans HG.out.size (grownBy_putObj' _ D _).size, fun k hk hne => ?_⟩, ?_⟩
      · rw [(grownBy_putObj' _ D (.deferred none)).block k (Nat.lt_of_lt_of_le hk HG.out.size) (by simp; omega)]
        exact HG.out.block k hk hne
      · exact ((grownBy_putObj' _ D (.deferred none)).block rb HR2.out.lt (by simpa using hDr)).trans HR2.out)
    clear hs' he hq d0 d1 d2 hRd
    cases fo with
    | none =>
      simp only [fndI] at c1 cc
      gi_wp2
      gi_big_region_o
      gi_wp2
      refine ⟨by simp, .inl ⟨_, _, rfl, run_takeDeferred hK2, ?_⟩⟩
      exact ⟨HP2.out.1, Or.inr ⟨p + fa, elR_none HQ.out, rfl, HP2.out.2⟩⟩
    | some i =>
      simp only [fndI] at c1 cc
      gi_wp2
      gi_big_region_o
      gi_wp2
      refine ⟨by simp, .inl ⟨_, _, rfl, run_takeDeferred hK2, ?_⟩⟩
      refine ⟨_, results_tmp rfl _ _ _, HP2.out.1, Or.inl ⟨_, p + fa, elR_some HQ.out, rfl, HP2.out.2⟩⟩
  case stop =>
    rintro D j pre W _ _ h _
    exact h.elim
end Go.Proofs.YteadddocmmkbgaaDoor.Co
