/-
  Package counts: the iterator over a set's elements.
-/
import Derived.Test.YteadddocmmkbgaaDoorKSmall
import Derived.RangeFuncNested
import Derived.RangeFuncBound
import Derived.RangeFuncCalls
import Derived.RangeFuncLeaves
import Derived.RangeFuncBox
import Derived.Shelf.Abstract
import Derived.Shelf.RegionOpen
import Derived.OwnWalkIn
import Derived.TacticsInMore
import Derived.LoopNIn
import Derived.LoopIn
namespace Go.Proofs.YteadddocmmkbgaaDoor.Co
open Go.RowKit Go.Shelf
attribute [local go_sem] Oper.semAt_some

/-- An element of t. -/
abbrev El (t : Nat) : Type := { x : Nat // x ≤ t + 1 }
/-- The boxes of the iterator's two variables stay. -/
def KBox (bt bc : Nat) (A B : World) : Prop := ∀ b, b = bt ∨ b = bc → ∀ ty v, Boxed A b ty v → Boxed B b ty v
theorem KBox.trans {bt bc : Nat} {A B C : World} (h : KBox bt bc A B) (k : KBox bt bc B C) : KBox bt bc A C := fun b hb ty v hv => k b hb ty v (h b hb ty v hv)
theorem kBox_b {bt bc : Nat} (W : World) (l : Nat) (o o' : Obj) (h : W.heap[l]? = some o) (hc : o.isCells = false) : KBox bt bc W (W.putObj l o') := fun b _ ty v hv =>
  hv.kept (grownBy_putObj' W l o') (fun e => by
    obtain rfl : b = l := by simpa using e
    rw [show W.heap[b]? = _ from hv] at h
    cases h
    cases hc)
theorem bool_two (b : Bool) : b = false ∨ b = true := by cases b <;> simp
/-- A round's two ends, as one. -/
theorem two_ends {e : Ending} {p q : Prop} (h : (e = .returned (.bool true) ∧ p) ∨ (e = .returned (.bool false) ∧ q)) : ∃ b, e = .returned (.bool b) ∧ Hid ((b = true ∧ p) ∨ (b = false ∧ q)) := by
  rcases h with ⟨h, hp⟩ | ⟨h, hq⟩
  · exact ⟨true, h, Or.inl ⟨rfl, hp⟩⟩
  · exact ⟨false, h, Or.inr ⟨rfl, hq⟩⟩
/-- The elements below k. -/
def upTo (c k : Nat) : List Nat := (List.range k).filter c.testBit
theorem upTo_len (c k : Nat) : (upTo c k).length ≤ k := by
  have := List.length_filter_le c.testBit (List.range k)
  rw [List.length_range] at this
  exact this
theorem upTo_succ (c k : Nat) : upTo c (k + 1) = if c.testBit k then upTo c k ++ [k] else upTo c k := by
  unfold upTo
  rw [List.range_succ, List.filter_append]
  split <;> simp_all
theorem upTo_pre {c : Nat} : ∀ {k m : Nat}, k ≤ m → upTo c k <+: upTo c m := by
  intro k m
  induction m with
  | zero => intro h; rw [show k = 0 by omega]; exact List.prefix_refl _
  | succ m ih =>
    intro h
    by_cases e : k = m + 1
    · subst e; exact List.prefix_refl _
    · refine (ih (by omega)).trans ?_
      rw [upTo_succ]
      split
      · exact List.prefix_append _ _
      · exact List.prefix_refl _
theorem and_bit (c k : Nat) (hc : c < 18446744073709551616) (hk : k < 64) : (bits .and .u64 (c : Int) ((2 : Int) ^ k) != 0) = c.testBit k := by
  have e : bits .and .u64 (c : Int) ((2 : Int) ^ k) = ((c &&& 2 ^ k : Nat) : Int) := by
    rw [← u64_and_nat _ _ hc (pow_lt64 hk)]
    simp
  rw [e]
  cases hb : c.testBit k with
  | true =>
    have h : c &&& 2 ^ k ≠ 0 := ne_zero_bit (k := k) (by rw [Nat.testBit_and, hb, Nat.testBit_two_pow]; simp)
    simp only [bne_iff_ne, ne_eq]
    omega
  | false =>
    have h : c &&& 2 ^ k = 0 := Nat.eq_of_testBit_eq fun j => by
      rw [Nat.testBit_and, Nat.testBit_two_pow]
      by_cases ej : k = j
      · subst ej; simp [hb]
      · simp [ej]
    rw [h]
    rfl
theorem elements_any (t c : Int) (w : World) : Calls Tryd.prog 33 #[.int .i64 t, .int .u64 c] w fun e w' =>
    e = .returned (.func (.func 48) #[] #[.pointer (some ⟨w.heap.size, 0, none⟩), .pointer (some ⟨w.heap.size + 1, 0, none⟩)]) ∧
    w' = (w.alloc (.cells #[.int .i64 t] 53)).alloc (.cells #[.int .u64 c] 24) := by
  go_enter Tryd.func33, Tryd.ntmps33
  go_wp2
  go_ret
  exact ⟨rfl, rfl⟩
set_option maxRecDepth 100000 in
set_option maxHeartbeats 1000000 in
theorem els_stops {n t c bt bc : Nat} (hn : 2 ≤ n) (ht : t ≤ 62) (hc : c < 18446744073709551616) (w : World) (hbt : Boxed w bt 53 (.int .i64 (t : Int))) (hbc : Boxed w bc 24 (.int .u64 (c : Int))) :
    SeqStopsK Fence.wide n Tryd.prog 48 #[.pointer (some ⟨bt, 0, none⟩), .pointer (some ⟨bc, 0, none⟩)] (fun x : El t => #[Value.int .i64 (x.1 : Int)]) (KBox bt bc)
      (fun xs => xs.map Subtype.val = els t c) (fun pre => pre.map Subtype.val <+: els t c) 64 w := fun l J Jx W hW hJ hJx hY h0 => by
  have hT : Boxed W bt 53 (.int .i64 (t : Int)) := (hW.block bt hbt.lt).trans hbt
  have hC : Boxed W bc 24 (.int .u64 (c : Int)) := (hW.block bc hbc.lt).trans hbc
  have ct := hT.cell
  have hn1 : 1 ≤ n := by omega
  have H1 := hid (more_any ht)
  refine callsIn_of_wp Tryd.func48 rfl trivial ?_ rfl
  simp only [Tryd.ntmps48, List.size_toArray, List.length_cons, List.length_nil, Nat.reduceAdd, Nat.reduceSub, Array.replicate_succ, Array.replicate_zero, List.push_toArray, List.append_toArray, List.nil_append, List.cons_append]
  gi_wp2_with (refine ⟨trivial, ?_⟩; gi_at_call 47; refine (callsIn_wide.2 (H1.out _)).mono ?_; rintro e w' ⟨rfl, e'⟩; have ew := e'.symm; clear e'; subst ew)
  gi_loopw [8] (fun i wr => ∃ (k : Nat) (pre : List (El t)), k ≤ t + 2 ∧ i = .int .i64 (k : Int) ∧ Hid (pre.map Subtype.val = upTo c k ∧ J pre wr ∧ Boxed wr bc 24 (.int .u64 (c : Int)))) (fun i _ => t + 2 - (intOf i).toNat)
  case atStart => exact ⟨0, [], by omega, rfl, rfl, h0, hC⟩
  case round =>
    obtain ⟨k, pre, hk, rfl, HR⟩ := hrel
    obtain ⟨hpre, hJ1, hC1⟩ := HR.out
    have HP := hid hpre
    by_cases hlt : k < t + 2
    · have cc := hC1.cell
      have hmx : Tryd.prog.follows .mixedOrders = true := by kernel_rfl
      have H2 := hid (alone_any (i := k) (by omega))
      have hlen : pre.length < 64 := by
        have : pre.length = (upTo c k).length := by rw [← hpre, List.length_map]
        have := upTo_len c k
        omega
      have hkI : (k : Int) < (t : Int) + 1 + 1 := by omega
      have hkN : k < t + 1 + 1 := by omega
      have hJd : J pre wr.drew := hJ pre wr wr.drew none hJ1 ⟨rfl, rfl, rfl, Nat.le_refl _, fun _ _ _ => rfl⟩ (fun r e => by cases e)
      obtain ⟨fn, tmps, assign, body, hy, hR⟩ := (hY pre ⟨k, by omega⟩ wr.drew hJd hlen).mono (fun e w hh => two_ends hh)
      have hd1 : 1 ≤ n - 1 := by omega
      have HX := hid hJ1
      have HC1 := hid hC1
      clear hJd hpre hJ1 hC1
      rcases bool_two (c.testBit k) with hb | hb
      · have hz : (bits .and .u64 (c : Int) ((2 : Int) ^ k) != 0) = false := (and_bit c k hc (by omega)).trans hb
        gi_wp2
        refine wpIn_region_quiet_lit rfl (by assumption) (by kernel_rfl) ?_
        gi_big_quiet_step (fail)
        gi_big_quiet_step (fail)
        refine wpQuietIn_step (by go_simp; intros; trivial) (fun K hK => ?_)
        go_simp
        refine ⟨.int .u64 ((2 ^ k : Nat) : Int), fun _ => ?_, hK _ ?_⟩
        · gi_at_call 29
          exact CallsIn.quiet_of_same (callsIn_wide.2 (H2.out _))
        clear hK K
        repeat (gi_big_quiet_step (fail))
        refine BigFrame.wpQuietIn_skip (by go_simp; intros; trivial) rfl ?_
        simp only [Act.put, List.setIfInBounds_toArray, List.set_cons_succ, List.set_cons_zero]
        repeat (gi_big_quiet_step (fail))
        refine wpQuietIn_nil ?_
        rintro _ ⟨nq, rfl⟩
        gi_wp2
        go_roundw
        case rel => exact ⟨k + 1, pre, by omega, by simp, by rw [upTo_succ, hb]; exact HP.out, hJ pre wr _ none HX.out ⟨rfl, rfl, rfl, Nat.le_refl _, fun _ _ _ => rfl⟩ (fun r e => by cases e), HC1.out⟩
        case measure => simp [intOf]; omega
      · have hz : (bits .and .u64 (c : Int) ((2 : Int) ^ k) != 0) = true := (and_bit c k hc (by omega)).trans hb
        have HPX : Hid ((pre ++ [(⟨k, by omega⟩ : El t)]).map Subtype.val <+: els t c) := by
          have e1 : (pre ++ [(⟨k, by omega⟩ : El t)]).map Subtype.val = upTo c (k + 1) := by
            rw [upTo_succ, if_pos hb, List.map_append, HP.out]; rfl
          show _ <+: upTo c (t + 2)
          rw [e1]
          exact upTo_pre (by omega)
        gi_wp2
        gi_region_with_o (first | (refine ⟨trivial, ?_⟩; gi_at_call 29; refine (callsIn_wide.2 (H2.out _)).mono ?_; rintro e w' ⟨rfl, e'⟩; have ew := e'.symm; clear e'; subst ew) | (refine hR.mono ?_; rintro e w' ⟨b, rfl, HE⟩))
        all_goals (rcases HE.out with ⟨rfl, hj, hkb⟩ | ⟨rfl, hjx⟩)
        all_goals gi_wp2
        all_goals first
          | (refine bodyPost_ret (results_none rfl _ _ _) rfl ?_
             exact ⟨⟨_, rfl⟩, .inr ⟨_, HPX.out, hjx⟩⟩)
          | skip
        all_goals go_roundw
        all_goals first
          | (simp [intOf]; done)
          | (simp [intOf]; omega)
          | skip
        all_goals exact ⟨k + 1, pre ++ [⟨k, by omega⟩], by omega, by simp, by rw [upTo_succ, if_pos hb, List.map_append, HP.out]; rfl, hj, hkb bc (Or.inr rfl) _ _ HC1.out⟩
    · have hke : k = t + 2 := by omega
      have hkI : ¬ (k : Int) < (t : Int) + 1 + 1 := by omega
      have hkN : ¬ k < t + 1 + 1 := by omega
      have HKE := hid hke
      clear hke
      gi_wp2
      go_end0
      exact ⟨⟨_, rfl⟩, .inl ⟨pre, by rw [els, ← upTo, ← HKE.out]; exact HP.out, HR.out.2.1⟩⟩
end Go.Proofs.YteadddocmmkbgaaDoor.Co
