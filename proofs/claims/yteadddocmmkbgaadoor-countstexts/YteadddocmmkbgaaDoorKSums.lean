/-
  Package counts: all sums of two sets.
-/
import Derived.Test.YteadddocmmkbgaaDoorKRound
namespace Go.Proofs.YteadddocmmkbgaaDoor.Co
open Go.RowKit Go.Shelf
attribute [local go_sem] Oper.semAt_some

/-- The sums so far. -/
def sumUp (t a : Nat) (pre : List (El t)) : Nat := pre.foldl (fun c x => c ||| addN t a x.1) 0
theorem sumUp_snoc (t a : Nat) (pre : List (El t)) (x : El t) : sumUp t a (pre ++ [x]) = sumUp t a pre ||| addN t a x.1 := by simp [sumUp]

theorem addN_lt {t a i : Nat} (ht : t ≤ 62) (hi : i ≤ t + 1) : addN t a i < 18446744073709551616 :=
  two_64 (lt_of_bits fun k hk => by
    cases e : (addN t a i).testBit k with
    | false => rfl
    | true => obtain ⟨j, _, h⟩ := (addN_bit ht hi).1 e; omega) ht
theorem sumUp_lt {t a : Nat} (ht : t ≤ 62) (pre : List (El t)) : sumUp t a pre < 18446744073709551616 := by
  have h : ∀ (l : List (El t)) (c : Nat), c < 2 ^ 64 → l.foldl (fun c x => c ||| addN t a x.1) c < 2 ^ 64 := by
    intro l
    induction l with
    | nil => intro c h; exact h
    | cons x l ih => intro c h; exact ih _ (Nat.or_lt_two_pow h (addN_lt ht x.2))
  exact h pre 0 (by decide)
theorem sumUp_or {t a : Nat} (ht : t ≤ 62) (pre : List (El t)) (x : El t) : bits .or .u64 (sumUp t a pre : Nat) (addN t a x.1 : Nat) = ((sumUp t a (pre ++ [x]) : Nat) : Int) := by
  rw [sumUp_snoc, u64_or_nat _ _ (sumUp_lt ht pre) (addN_lt ht x.2)]
theorem sumUp_all {t a b : Nat} (ht : t ≤ 62) (ha : a < 2 ^ (t + 2)) {ys : List (El t)} (h : ys.map Subtype.val = els t b) : sumUp t a ys = sumN t a b := by
  rw [← sums_fold ht ha, ← h, List.foldl_map]
  rfl

set_option maxRecDepth 100000 in
set_option maxHeartbeats 2000000 in
theorem sums_any {t a b : Nat} (ht : t ≤ 62) (ha : a < 2 ^ (t + 2)) (hb : b < 2 ^ (t + 2)) (w : World) :
    Calls Tryd.prog 35 #[.int .i64 (t : Int), .int .u64 (a : Int), .int .u64 (b : Int)] w fun e w' => e = .returned (.int .u64 (sumN t a b : Nat)) ∧ Below w.heap.size w w' := by
  refine (callsIn_wide (n := 9)).1 ?_
  refine callsIn_of_wp_marks Tryd.func35 rfl trivial ?_ rfl
  simp only [Tryd.ntmps35, List.size_toArray, List.length_cons, List.length_nil, Nat.reduceAdd, Nat.reduceSub, Array.replicate_succ, Array.replicate_zero, List.push_toArray, List.append_toArray, List.nil_append, List.cons_append]
  have HE := hid (fun w' => elements_any t b w')
  gi_wp2_with (refine ⟨trivial, ?_⟩; gi_at_call 33; refine (callsIn_wide.2 (HE.out _)).mono ?_; rintro e w' ⟨rfl, rfl⟩)
  obtain ⟨W0, hW0⟩ : ∃ W0, w.alloc (.cells #[.int .i64 (t : Int)] 53) = W0 := ⟨_, rfl⟩
  have b0 : Boxed W0 w.heap.size 53 (.int .i64 (t : Int)) := by rw [← hW0]; exact Boxed.new w _ _
  have z0 : W0.heap.size = w.heap.size + 1 := by rw [← hW0]; simp
  obtain ⟨W1, hW1⟩ : ∃ W1, W0.alloc (.cells #[.int .u64 (a : Int)] 24) = W1 := ⟨_, rfl⟩
  have b1 : Boxed W1 (w.heap.size + 1) 24 (.int .u64 (a : Int)) := by rw [← hW1, ← z0]; exact Boxed.new W0 _ _
  have z1 : W1.heap.size = w.heap.size + 1 + 1 := by rw [← hW1]; simp [z0]
  obtain ⟨W2, hW2⟩ : ∃ W2, W1.alloc (.cells #[.int .u64 0] 24) = W2 := ⟨_, rfl⟩
  have b2 : Boxed W2 (w.heap.size + 1 + 1) 24 (.int .u64 0) := by rw [← hW2, ← z1]; exact Boxed.new W1 _ _
  have z2 : W2.heap.size = w.heap.size + 1 + 1 + 1 := by rw [← hW2]; simp [z1]
  obtain ⟨W3, hW3⟩ : ∃ W3, W2.alloc (.cells #[.int .i64 (t : Int)] 53) = W3 := ⟨_, rfl⟩
  have b3 : Boxed W3 (w.heap.size + 1 + 1 + 1) 53 (.int .i64 (t : Int)) := by rw [← hW3, ← z2]; exact Boxed.new W2 _ _
  have z3 : W3.heap.size = w.heap.size + 1 + 1 + 1 + 1 := by rw [← hW3]; simp [z2]
  obtain ⟨W4, hW4⟩ : ∃ W4, W3.alloc (.cells #[.int .u64 (b : Int)] 24) = W4 := ⟨_, rfl⟩
  have b4 : Boxed W4 (w.heap.size + 1 + 1 + 1 + 1) 24 (.int .u64 (b : Int)) := by rw [← hW4, ← z3]; exact Boxed.new W3 _ _
  have z4 : W4.heap.size = w.heap.size + 1 + 1 + 1 + 1 + 1 := by rw [← hW4]; simp [z3]
  rw [hW0, hW1, hW2, hW3, hW4]
  have b0 : Boxed W4 w.heap.size 53 (.int .i64 (t : Int)) := by rw [← hW4, ← hW3, ← hW2, ← hW1]; exact (((b0.alloc _).alloc _).alloc _).alloc _
  have b1 : Boxed W4 (w.heap.size + 1) 24 (.int .u64 (a : Int)) := by rw [← hW4, ← hW3, ← hW2]; exact ((b1.alloc _).alloc _).alloc _
  have b2 : Boxed W4 (w.heap.size + 1 + 1) 24 (.int .u64 0) := by rw [← hW4, ← hW3]; exact (b2.alloc _).alloc _
  have b3 : Boxed W4 (w.heap.size + 1 + 1 + 1) 53 (.int .i64 (t : Int)) := by rw [← hW4]; exact b3.alloc _
  have hB : Below w.heap.size w W4 := by
    rw [← hW4, ← hW3, ← hW2, ← hW1, ← hW0]
    exact (((((Below.refl _ w).alloc (Nat.le_refl _) _).alloc (by simp) _).alloc (by simp; omega) _).alloc (by simp; omega) _).alloc (by simp; omega) _
  clear hW0 hW1 hW2 hW3 hW4 z0 z1 z2 z3
  have HA := hid (fun (x : El t) w' => add_any (a := a) ht x.2 w')
  have HZ := hid z4
  refine wpIn_rangeFunc_ownG rfl (by omega) (gf := 48) (lb := #[.pointer (some ⟨w.heap.size + 1 + 1 + 1, 0, none⟩), .pointer (some ⟨w.heap.size + 1 + 1 + 1 + 1, 0, none⟩)]) rfl trivial (enters_of Tryd.func48 (by kernel_rfl) rfl)
    (els_stops (n := 9 - 1) (by omega) ht (two_64 hb ht) W4 b3 b4) KBox.trans (fun W l o o' _ h hc _ => kBox_b W l o o' h hc) (Below.refl _ _) (fun _ => rfl)
    (fun pre W => (Boxed W w.heap.size 53 (.int .i64 (t : Int)) ∧ Boxed W (w.heap.size + 1) 24 (.int .u64 (a : Int)) ∧ Boxed W (w.heap.size + 1 + 1) 24 (.int .u64 ((sumUp t a pre : Nat) : Int))) ∧ Below w.heap.size w W)
    (fun _ _ _ => False)
    (OwnFrom.and (OwnFrom.and (Own.from (boxed_own _ _ (fun _ => _)) _) (OwnFrom.and (Own.from (boxed_own _ _ (fun _ => _)) _) (Own.from (boxed_own _ _ (fun pre => .int .u64 ((sumUp t a pre : Nat) : Int))) _))) (ownFrom_below (Nat.le_refl _) (by omega)))
    (fun _ _ _ _ _ hs _ _ => hs)
    ⟨⟨b0, b1, b2⟩, hB⟩
    (fun x => { tmps := #[.int .i64 t, .int .u64 a, .int .u64 b, .pointer (some ⟨w.heap.size, 0, none⟩), .pointer (some ⟨w.heap.size + 1, 0, none⟩), undef, .int .u64 0, .pointer (some ⟨w.heap.size + 1 + 1, 0, none⟩), .int .i64 (x.1 : Int), .int .i64 t, .int .u64 b, .func (.func 48) #[] #[.pointer (some ⟨w.heap.size + 1 + 1 + 1, 0, none⟩), .pointer (some ⟨w.heap.size + 1 + 1 + 1 + 1, 0, none⟩)], .int .i64 (x.1 : Int), undef, undef, undef, undef, undef, undef, undef], defers := [] }) ?assign ?body ?done ?stop
  case assign =>
    intro l x W K hK
    gi_wp2
    exact hK
  case body =>
    rintro l pre x W ⟨⟨d0, d1, d2⟩, hB1⟩ _
    have c0 := d0.cell
    have c1 := d1.cell
    have c2 := d2.cell
    have f2 := d2.frozen
    have hmx : Tryd.prog.follows .mixedOrders = true := by kernel_rfl
    have HO := hid (sumUp_or (a := a) ht pre x)
    gi_wp2
    gi_region_with_o (refine ⟨trivial, ?_⟩; gi_at_call 49; refine (CallsIn.inRound l (callsIn_wide.2 (HA.out x _))).mono ?_; rintro e w' ⟨rfl, m, rfl⟩)
    all_goals gi_wp2
    all_goals rw [HO.out]
    all_goals exact ⟨(round_keeps _ _ d2).from _, round_box _ _ (by omega) (by omega), ⟨round_other _ _ d0 (by omega), round_other _ _ d1 (by omega), round_set _ _ d2⟩, round_below _ _ hB1 (by omega)⟩
  case done =>
    rintro D ys W hD hS ⟨⟨d0, d1, d2⟩, hB1⟩ hK
    have c2 := d2.cell
    gi_wp2
    refine ⟨by simp, .inl ⟨_, _, rfl, run_takeDeferred hK, ?_⟩⟩
    refine ⟨_, results_tmp rfl _ _ _, ?_, hB1.trans (belowK_b (w := w) (Nat.le_refl _) W D _ _ (by omega) hK rfl rfl)⟩
    rw [sumUp_all ht ha hS]
    rfl
  case stop =>
    rintro D c pre W _ _ h _
    exact h.elim
end Go.Proofs.YteadddocmmkbgaaDoor.Co
