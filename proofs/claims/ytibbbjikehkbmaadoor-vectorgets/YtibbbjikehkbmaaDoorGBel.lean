/-
  Below: the program's.
-/
import Derived.Test.YtibbbjikehkbmaaDoorGTog
import Derived.Test.YtibbbjikehkbmaaDoorGQuiet
import Derived.Test.YtibbbjikehkbmaaDoorGStep
import Derived.Test.YtibbbjikehkbmaaDoorGChk
namespace Go.Proofs.YtibbbjikehkbmaaDoor.Ve
open Go.RowKit Go.Shelf
attribute [local go_sem] Oper.semAt_some

/-- What Below comes to. -/
def belP (a b : List St) : Bool × Int := if chkN [a, b] = 0 then ((stepsV a b).all belB, 0) else (false, chkN [a, b])
theorem right_two {a b : List St} (h : chkN [a, b] = 0) : Right a ∧ Right b := by
  unfold chkN at h
  by_cases q : ∀ v ∈ [a, b], Right v
  · exact ⟨q a (by simp), q b (by simp)⟩
  · rw [if_neg q] at h; cases h
theorem chkN_two (l : List (List St)) : chkN l = 0 ∨ chkN l = 160 := by
  unfold chkN
  split
  · exact Or.inl rfl
  · exact Or.inr rfl
theorem vec_none {w : World} {v : Value} (h : VecV w v (Option.none (α := St)).toList) : ∃ a c, v = .slice a 0 c := by
  obtain ⟨a, c, e, _⟩ := h
  exact ⟨a, c, e⟩
theorem vec_one {w W : World} {v : Value} {s : St} (h : VecV w v (some s).toList) (hb : Below w.heap.size w W) : ∃ g o c, v = .slice (some ⟨g, o, none⟩) 1 c ∧ W.cell? ⟨g, o, none⟩ = some (.int .i64 s.1) ∧ W.cell? ⟨g, o + 1, none⟩ = some (.int .u64 (s.2 : Int)) := by
  obtain ⟨a, c, e, _, _, h⟩ := h.below hb
  rcases h with h | ⟨g, o, ea, _, hc⟩
  · cases h
  · subst ea
    have := hc 0 s rfl
    rw [Nat.zero_mul, Nat.add_zero] at this
    exact ⟨g, o, c, e, this.1, this.2⟩
theorem KIt.refl (n0 ba bb bc : Nat) (A : World) : KIt n0 ba bb bc A A := ⟨Below.refl _ _, fun _ _ _ _ h => h⟩
set_option maxRecDepth 100000 in
set_option maxHeartbeats 2000000 in
theorem Below_any {w : World} {va vb : Value} {a b : List St} (ha : VecV w va a) (hb : VecV w vb b) (la : a.length ≤ maxLen) (lb : b.length ≤ maxLen) :
    Calls Tryd.prog 21 #[va, vb] w fun e w' => e = .returned (.tuple #[.bool (belP a b).1, .int .i64 (belP a b).2]) ∧ Below w.heap.size w w' := by
  have HA := hid ha
  have HB := hid hb
  have HC := hid (fun W v (h : VecsV W v [a, b]) => Check_any h (by simp [maxLen]) (fun l hl => by simp at hl; rcases hl with rfl | rfl <;> assumption))
  obtain ⟨ao, ca, rfl, -, -, -⟩ := ha
  obtain ⟨bo, cb, rfl, -, -, -⟩ := hb
  obtain ⟨n, hn⟩ : ∃ n, n = a.length := ⟨_, rfl⟩
  obtain ⟨m, hm⟩ : ∃ m, m = b.length := ⟨_, rfl⟩
  rw [← hn] at HA la ⊢
  rw [← hm] at HB lb ⊢
  have HN := hid hn
  have HM := hid hm
  clear hn hm
  refine (callsIn_wide (n := 9)).1 ?_
  refine callsIn_of_wp_marks Tryd.func21 rfl trivial ?_ rfl
  simp only [Tryd.ntmps21, List.size_toArray, List.length_cons, List.length_nil, Nat.reduceAdd, Nat.reduceSub, Array.replicate_succ, Array.replicate_zero, List.push_toArray, List.append_toArray, List.nil_append, List.cons_append]
  gi_wp2
  obtain ⟨W0, hW0⟩ : ∃ W0, (w.alloc (.cells #[.bool false] 4)).alloc (.cells #[.int .i64 0] 25) = W0 := ⟨_, rfl⟩
  have hB0 : Below w.heap.size w W0 := by rw [← hW0]; exact ((Below.refl _ w).alloc (Nat.le_refl _) _).alloc (by simp) _
  have z0 : W0.heap.size = w.heap.size + 1 + 1 := by rw [← hW0]; simp
  have b4 : Boxed W0 w.heap.size 4 (.bool false) := by rw [← hW0]; repeat (first | exact boxed_new (by simp) | refine Boxed.alloc ?_ _)
  have b5 : Boxed W0 (w.heap.size + 1) 25 (.int .i64 0) := by rw [← hW0]; repeat (first | exact boxed_new (by simp) | refine Boxed.alloc ?_ _)
  have hB1 := below_al W0 (.cells #[.slice ao n ca, .slice bo m cb] 23)
  have hv := vecs_two (t := 23) (n := W0.heap.size) rfl (HA.out.below hB0) (HB.out.below hB0)
  rw [z0] at hv
  rw [hW0]
  clear hW0
  refine ⟨trivial, ?_⟩
  refine (callsIn_wide.2 (HC.out _ _ hv)).mono ?_
  rintro e W1 ⟨rfl, hb1⟩
  have hB2 := below_tr hB1 hb1
  have b4 := Boxed.on b4 hB2 b4.lt
  have b5 := Boxed.on b5 hB2 b5.lt
  have hB := below_tr hB0 hB2
  have z1 := hB2.size
  have c4 := b4.cell
  have c5 := b5.cell
  have f4 := b4.frozen
  have f5 := b5.frozen
  clear hB1 hb1 hB0 hv hB2 HC
  rcases chkN_two [a, b] with h0 | h0
  · obtain ⟨ra, rb⟩ := right_two h0
    have HR := hid (show belP a b = ((stepsV a b).all belB, 0) by unfold belP; rw [if_pos h0])
    have na := right_len ra
    have nb := right_len rb
    rw [h0]
    gi_wp2_with fail
    refine ⟨trivial, ?_⟩
    refine (callsIn_wide.2 (together_any _ _ ao bo n m ca cb rfl rfl W1)).mono ?_
    rintro e W2 ⟨rfl, hW2⟩
    have hB3 : Below W1.heap.size W1 W2 := by rw [hW2]; exact (((Below.refl _ W1).alloc (Nat.le_refl _) _).alloc (by simp) _).alloc (by simp; omega) _
    have xa : Boxed W2 W1.heap.size 22 (.slice ao n ca) := by rw [hW2]; repeat (first | exact boxed_new (by simp) | refine Boxed.alloc ?_ _)
    have xb : Boxed W2 (W1.heap.size + 1) 22 (.slice bo m cb) := by rw [hW2]; repeat (first | exact boxed_new (by simp) | refine Boxed.alloc ?_ _)
    have xc : Boxed W2 (W1.heap.size + 1 + 1) 63 cmpV := by rw [hW2]; repeat (first | exact boxed_new (by simp) | refine Boxed.alloc ?_ _)
    have z2 : W2.heap.size = W1.heap.size + 1 + 1 + 1 := by rw [hW2]; simp
    clear hW2
    have b4 := Boxed.on b4 hB3 b4.lt
    have b5 := Boxed.on b5 hB3 b5.lt
    have hB := below_tr hB hB3
    have z3 := hB3.size
    clear c4 c5 f4 f5
    gi_wp2_with fail
    refine range_own (own := fun q => q = W1.heap.size ∨ q = W1.heap.size + 1) (by omega) (gf := 42) (lb := #[.pointer (some ⟨W1.heap.size, 0, none⟩), .pointer (some ⟨W1.heap.size + 1, 0, none⟩), .pointer (some ⟨W1.heap.size + 1 + 1, 0, none⟩)]) rfl (enters_of Tryd.func42 (by kernel_rfl) rfl)
      (fun q hq => by omega) (tog_stops (nn := 9 - 1) (by omega) (w0 := w) (a := a) (b := b) hB HA.out HB.out na nb xa xb xc ⟨by omega, by omega, by omega, by omega, by omega⟩) KIt.trans (fun W l o o' hn h hc => kIt_b W l o o' (by omega) h hc) (fun _ => rfl)
      (fun pre W => (Boxed W w.heap.size 4 (.bool false) ∧ Boxed W (w.heap.size + 1) 25 (.int .i64 0)) ∧ (∀ x ∈ pre, belB x.1.2.2 = true) ∧ Below w.heap.size w W)
      (fun pre W => (Boxed W w.heap.size 4 (.bool false) ∧ Boxed W (w.heap.size + 1) 25 (.int .i64 0)) ∧ (∃ x ∈ pre, belB x.1.2.2 = false) ∧ Below w.heap.size w W)
      (OwnFrom.and (OwnFrom.and (Own.from (boxed_own _ _ (fun _ => _)) _) (Own.from (boxed_own _ _ (fun _ => _)) _)) (OwnFrom.and (ownFrom_pure _ _) (ownFrom_below (Nat.le_refl _) (by omega))))
      (OwnFrom.and (OwnFrom.and (Own.from (boxed_own _ _ (fun _ => _)) _) (Own.from (boxed_own _ _ (fun _ => _)) _)) (OwnFrom.and (ownFrom_pure _ _) (ownFrom_below (Nat.le_refl _) (by omega))))
      (Bears.and (Bears.and (bears_boxed (fun _ => _) (by omega)) (bears_boxed (fun _ => _) (by omega))) (Bears.and (bears_pure _) (bears_below (by omega) (by omega) (Nat.le_refl _))))
      (Bears.and (Bears.and (bears_boxed (fun _ => _) (by omega)) (bears_boxed (fun _ => _) (by omega))) (Bears.and (bears_pure _) (bears_below (by omega) (by omega) (Nat.le_refl _))))
      ⟨⟨b4, b5⟩, fun x hx => (by cases hx), hB⟩ ?a1 ?assign ?body ?done ?stop
    case assign =>
      intro l x W K hK
      gi_wp2
      exact hK
    case body =>
      rintro l pre x W ⟨⟨d4, d5⟩, hall, hB1⟩ _
      obtain ⟨hvl, hvr, -⟩ := x.2
      obtain ⟨⟨vl, vr, os, ot⟩, hq⟩ : ∃ q, q = x.1 := ⟨_, rfl⟩
      rw [← hq] at hvl hvr
      simp only [← hq]
      have HX := hid hq
      simp only at hvl hvr
      have HAL := hid hall
      have HB1 := hid hB1
      have HD := hid (And.intro d4 d5)
      have c4 := d4.cell
      have c5 := d5.cell
      have f4 := d4.frozen
      have f5 := d5.frozen
      have hmx : Tryd.prog.follows .mixedOrders = true := by kernel_rfl
      clear hall hB1 d4 d5 hq
      cases os with
      | none =>
        obtain ⟨al, cl, rfl⟩ := vec_none hvl
        clear hvl hvr
        gi_wp2
        exact ⟨KeepsFrom.refl _ _, KIt.refl _ _ _ _ _, HD.out, fun y hy => by
          rcases List.mem_append.1 hy with hy | hy
          · exact HAL.out y hy
          · rw [List.mem_singleton.1 hy, ← HX.out]; cases ot <;> rfl, HB1.out⟩
      | some s =>
        obtain ⟨gl, ol, cl, rfl, l0, l1⟩ := vec_one hvl HB1.out
        clear hvl
        cases ot with
        | none =>
          obtain ⟨ar, cr, rfl⟩ := vec_none hvr
          clear hvr
          gi_wp2_with fail
          refine region_round l hmx (by kernel_rfl) (by kernel_rfl) ?_
          repeat (gi_big_quiet_step (fail))
          refine wpQuietIn_nil ?_
          rintro _ ⟨nq, rfl⟩
          gi_wp2
          obtain ⟨k1, k2, k3⟩ := set_two (B := W2.heap.size) (v := .bool false) (v' := .int .i64 0) (by omega) (Nat.le_refl _) (by omega) HD.out HB1.out (W' := ((W.drewN nq).setCell ⟨w.heap.size, 0, none⟩ (.bool false)).setCell ⟨w.heap.size + 1, 0, none⟩ (.int .i64 0)) rfl
          exact ⟨k1, rfl, k2, ⟨x, by simp, by rw [← HX.out]; rfl⟩, k3⟩
        | some t =>
          obtain ⟨gr, or, cr, rfl, r0, r1⟩ := vec_one hvr HB1.out
          clear hvr
          by_cases hlt : t.2 < s.2
          · have hltI : (t.2 : Int) < (s.2 : Int) := by omega
            clear hlt
            gi_wp2_with fail
            refine region_round l hmx (by kernel_rfl) (by kernel_rfl) ?_
            repeat (gi_big_quiet_step (fail))
            refine wpQuietIn_nil ?_
            rintro _ ⟨nq, rfl⟩
            gi_wp2
            obtain ⟨k1, k2, k3⟩ := set_two (B := W2.heap.size) (v := .bool false) (v' := .int .i64 0) (by omega) (Nat.le_refl _) (by omega) HD.out HB1.out (W' := ((W.drewN nq).setCell ⟨w.heap.size, 0, none⟩ (.bool false)).setCell ⟨w.heap.size + 1, 0, none⟩ (.int .i64 0)) rfl
            exact ⟨k1, rfl, k2, ⟨x, by simp, by rw [← HX.out]; exact decide_eq_false (by omega)⟩, k3⟩
          · have hltI : ¬ (t.2 : Int) < (s.2 : Int) := by omega
            have hle : s.2 ≤ t.2 := by omega
            have HLE := hid hle
            clear hlt hle
            gi_wp2_with fail
            refine region_round l hmx (by kernel_rfl) (by kernel_rfl) ?_
            repeat (gi_big_quiet_step (fail))
            refine wpQuietIn_nil ?_
            rintro _ ⟨nq, rfl⟩
            gi_wp2
            exact ⟨(KeepsOthers.of_grownBy (grown_of_below none (below_drewN (Below.refl _ W))) (fun j o ej _ => by cases ej)).from _, ⟨below_drewN (Below.refl _ _), fun _ _ _ _ h => h⟩, HD.out, fun y hy => by
              rcases List.mem_append.1 hy with hy | hy
              · exact HAL.out y hy
              · rw [List.mem_singleton.1 hy, ← HX.out]; exact decide_eq_true HLE.out, below_drewN HB1.out⟩
    case done =>
      rintro D ys W hD hS ⟨⟨d4, d5⟩, hall, hB1⟩ hK
      have c4 := d4.cell
      have c5 := d5.cell
      have f4 := d4.frozen
      have f5 := d5.frozen
      have HS := hid (show (stepsV a b).all belB = true by
        rw [← hS, List.all_eq_true]
        intro y hy
        obtain ⟨z, hz, rfl⟩ := List.mem_map.1 hy
        exact hall z hz)
      clear hall
      gi_wp2
      obtain ⟨k1, ⟨k2, k3⟩, k4⟩ := set_two (B := W2.heap.size) (nq := 0) (v := .bool true) (v' := .int .i64 0) (by omega) (Nat.le_refl _) (by omega) ⟨d4, d5⟩ hB1 (W' := (W.setCell ⟨w.heap.size, 0, none⟩ (.bool true)).setCell ⟨w.heap.size + 1, 0, none⟩ (.int .i64 0)) rfl
      have hK' := k1.same D _ hD hK rfl
      refine ⟨by simp, .inl ⟨_, _, rfl, run_takeDeferred hK', ?_⟩⟩
      have q2 := (k2.kept (grownBy_putObj' _ D (.deferred none)) (fun e => by injection e with e; omega)).cell
      have q3 := (k3.kept (grownBy_putObj' _ D (.deferred none)) (fun e => by injection e with e; omega)).cell
      refine ⟨.tuple #[.bool true, .int .i64 0], ?_, by rw [HR.out, HS.out], k4.trans (belowK_b (w := w) (Nat.le_refl _) _ D _ _ (by omega) hK' rfl rfl)⟩
      simp [results, Tryd.f21, go_sem, q2, q3]
    case stop =>
      rintro D pre W hD hS ⟨⟨d4, d5⟩, ⟨x, hx, hxb⟩, hB1⟩ hK
      have HS := hid (show (stepsV a b).all belB = false by
        rw [List.all_eq_false]
        exact ⟨x.1.2.2, hS.subset (List.mem_map_of_mem hx), by rw [hxb]; decide⟩)
      clear hS hx hxb
      gi_wp2
      refine ⟨by simp, .inl ⟨_, _, rfl, run_takeDeferred hK, ?_⟩⟩
      have q2 := (d4.kept (grownBy_putObj' _ D (.deferred none)) (fun e => by injection e with e; omega)).cell
      have q3 := (d5.kept (grownBy_putObj' _ D (.deferred none)) (fun e => by injection e with e; omega)).cell
      refine ⟨.tuple #[.bool false, .int .i64 0], ?_, by rw [HR.out, HS.out], hB1.trans (belowK_b (w := w) (Nat.le_refl _) _ D _ _ (by omega) hK rfl rfl)⟩
      simp [results, Tryd.f21, go_sem, q2, q3]
  · have HR := hid (show belP a b = (false, 160) by unfold belP; rw [if_neg (by rw [h0]; decide), h0])
    rw [h0]
    clear h0
    gi_wp2
    refine ⟨.tuple #[.bool false, .int .i64 160], ?_, by rw [HR.out], ?_⟩
    · simp [results, Tryd.f21, go_sem, c4, c5]
    · exact (hB.setCell (p := ⟨w.heap.size, 0, none⟩) (by simp) _).setCell (p := ⟨w.heap.size + 1, 0, none⟩) (by simp) _
end Go.Proofs.YtibbbjikehkbmaaDoor.Ve
