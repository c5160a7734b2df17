/-
  The document's spans of any number of times, once or more, once or not.
  The document's spans of one behind the other.
  The document's either.
  The document's chained.
-/
import Derived.Test.YtnmmfbhmfcabhaaGreatDoorZIsAnd
import Derived.Test.YtnmmfbhmfcabhaaGreatDoorZAwakeAnd
import Derived.BigRegion
import Derived.BigQuiet
import Derived.Deep.RegionHeld3
namespace Go.Proofs.YtnmmfbhmfcabhaaGreatDoor
open Go.RowKit

theorem chainF_succ (k : Nat) (f g : Nat → Nat → Bool) (i j : Nat) : chainF (k + 1) f g i j = (chainF k f g i j || f i k && g k j) := by
  unfold chainF
  rw [List.range_succ, List.any_append]
  simp
theorem chainF_zero (f g : Nat → Nat → Bool) (i j : Nat) : chainF 0 f g i j = false := rfl
/-- While a row is made: by way of the first k places, and of the k-th up to a column. -/
def chN (n : Nat) (f g : Nat → Nat → Bool) (i k j a c : Nat) : Bool := if a < i then chainF n f g a c else if a = i then (chainF k f g i c || decide (c < j) && (f i k && g k c)) else false
theorem chN_zero (n : Nat) (f g : Nat → Nat → Bool) : chN n f g 0 0 0 = fun _ _ => false := by
  funext a c
  unfold chN
  rw [if_neg (by omega)]
  split
  · simp [chainF_zero]
  · rfl
theorem chN_put {n : Nat} {f g : Nat → Nat → Bool} {i k : Nat} (j : Nat) (h : f i k = true) {v : Bool} (hv : v = (chN n f g i k j i j || g k j)) : updF (chN n f g i k j) i j v = chN n f g i k (j + 1) := by
  funext a c
  have e : chN n f g i k j i j = chainF k f g i j := by unfold chN; rw [if_neg (by omega), if_pos rfl]; simp
  rw [e] at hv
  unfold updF
  by_cases h1 : a = i ∧ c = j
  · obtain ⟨rfl, rfl⟩ := h1
    rw [if_pos ⟨rfl, rfl⟩, hv]
    unfold chN
    rw [if_neg (by omega), if_pos rfl, h]
    simp
  · rw [if_neg h1]
    unfold chN
    by_cases h2 : a < i
    · rw [if_pos h2, if_pos h2]
    · rw [if_neg h2, if_neg h2]
      by_cases h3 : a = i
      · rw [if_pos h3, if_pos h3]
        have : decide (c < j) = decide (c < j + 1) := by rw [decide_eq_decide]; omega
        rw [this]
      · rw [if_neg h3, if_neg h3]
theorem chN_col {n : Nat} (f g : Nat → Nat → Bool) (i k a c : Nat) (hc : c < n) : chN n f g i k n a c = chN n f g i (k + 1) 0 a c := by
  unfold chN
  by_cases h2 : a < i
  · rw [if_pos h2, if_pos h2]
  · rw [if_neg h2, if_neg h2]
    by_cases h3 : a = i
    · rw [if_pos h3, if_pos h3, chainF_succ]
      simp [hc]
    · rw [if_neg h3, if_neg h3]
theorem chN_skip {n : Nat} {f g : Nat → Nat → Bool} {i k : Nat} (h : f i k = false) : chN n f g i k 0 = chN n f g i (k + 1) 0 := by
  funext a c
  unfold chN
  by_cases h2 : a < i
  · rw [if_pos h2, if_pos h2]
  · rw [if_neg h2, if_neg h2]
    by_cases h3 : a = i
    · rw [if_pos h3, if_pos h3, chainF_succ, h]
      simp
    · rw [if_neg h3, if_neg h3]
theorem chN_row (n : Nat) (f g : Nat → Nat → Bool) (i : Nat) : chN n f g i n 0 = chN n f g (i + 1) 0 0 := by
  funext a c
  unfold chN
  by_cases h2 : a < i
  · rw [if_pos h2, if_pos (by omega)]
  · rw [if_neg h2]
    by_cases h3 : a = i
    · rw [if_pos h3, if_pos (by omega), h3]
      simp
    · rw [if_neg h3, if_neg (by omega)]
      split
      · simp [chainF_zero]
      · rfl

set_option maxRecDepth 20000 in
set_option maxHeartbeats 2000000 in
theorem RChain_any {w : World} {n ga ca gb cb : Nat} {ra rb : Nat → Nat} {fa fb : Nat → Nat → Bool} {Ba Bb : Nat} (hn : n ≤ 1000) (hA : TabAt Ba w ga (n + 1) ra fa) (hB : TabAt Bb w gb (n + 1) rb fb) :
    Calls Tryz.prog 69 #[.slice (some ⟨ga, 0, none⟩) (n + 1) ca, .slice (some ⟨gb, 0, none⟩) (n + 1) cb] w fun e w' => TellT w (n + 1) (chainF (n + 1) fa fb) e w' := by
  have HT := hid (fun (W : World) => RTable_any (w := W) hn)
  have HA := hid (fun (W : World) (hb : Below w.heap.size w W) => hA.on hb)
  have HB := hid (fun (W : World) (hb : Below w.heap.size w W) => hB.on hb)
  obtain ⟨F, hF⟩ : ∃ F : Nat → Nat → Bool, F = chainF (n + 1) fa fb := ⟨_, rfl⟩
  have HF := hid hF
  obtain ⟨C, hC⟩ : ∃ C : Nat → Nat → Nat → Nat → Nat → Bool, C = chN (n + 1) fa fb := ⟨_, rfl⟩
  have HC := hid hC
  rw [← hF]
  clear hA hB hF hC
  have e1 : IntKind.i64.wrap ((n : Int) + 1 - 1) = n := by rw [IntKind.wrap_i64]; omega
  go_enter Tryz.func69, Tryz.ntmps69
  go_wp2_with fail
  refine (HT.out w).mono ?_
  rintro en w1 ⟨g, cap, rws, rfl, T1, L1⟩
  go_wp2_with fail
  have T0 := hid (show TabAt w.heap.size w1 g (n + 1) rws (C 0 0 0) by rw [HC.out, chN_zero]; exact T1.out)
  clear T1
  go_loopw [6] (fun x wr => ∃ i : Nat, i ≤ n + 1 ∧ x = .int .i64 i ∧ Hid (TabAt w.heap.size wr g (n + 1) rws (C i 0 0)) ∧ Hid (Below w.heap.size w wr)) (fun x _ => n + 1 - (intOf x).toNat)
  case atStart => exact ⟨0, Nat.zero_le _, rfl, T0, L1⟩
  case round =>
    obtain ⟨i, hi, rfl, TI, LI⟩ := hrel
    by_cases hlt : i < n + 1
    · have hiI : (i : Int) < (n : Int) + 1 := by omega
      have hi0 : (0 : Int) ≤ (i : Int) := by omega
      go_wp2_with fail
      go_loopw [7] (fun x wr => ∃ k : Nat, k ≤ n + 1 ∧ x = .int .i64 k ∧ Hid (TabAt w.heap.size wr g (n + 1) rws (C i k 0)) ∧ Hid (Below w.heap.size w wr)) (fun x _ => n + 1 - (intOf x).toNat)
      case atStart => exact ⟨0, Nat.zero_le _, rfl, TI, LI⟩
      case round =>
        obtain ⟨k, hk, rfl, TK, LK⟩ := hrel
        by_cases hklt : k < n + 1
        · have hkI : (k : Int) < (n : Int) + 1 := by omega
          have hk0 : (0 : Int) ≤ (k : Int) := by omega
          go_wp2_with fail
          cases hfa : fa i k with
          | false =>
            have TL := hid (show TabAt w.heap.size wr g (n + 1) rws (C i (k + 1) 0) by have := TK.out; rw [HC.out] at this ⊢; rw [← chN_skip hfa]; exact this)
            have HFA := hid hfa
            clear hfa
            go_loopw [8] (fun x wr => x = .int .i64 0 ∧ Hid (TabAt w.heap.size wr g (n + 1) rws (C i (k + 1) 0)) ∧ Hid (Below w.heap.size w wr)) (fun _ _ => 0)
            case atStart => exact ⟨rfl, TL, LK⟩
            case round =>
              obtain ⟨rfl, TJ, LJ⟩ := hrel
              have hN0 : (0 : Int) < (n : Int) + 1 := by omega
              have a0 := (HA.out _ LJ.out).cell i hlt
              have a1 := (HA.out _ LJ.out).at hlt hklt
              rw [HFA.out] at a1
              obtain ⟨x1, hx1⟩ : ∃ x1, x1 = ra i := ⟨_, rfl⟩
              rw [← hx1] at a0 a1
              clear hx1
              go_wp2
              exact ⟨⟨k + 1, by omega, by go_num, TJ, LJ⟩, by simp [intOf]; omega⟩
          | true =>
            have HFA := hid hfa
            clear hfa
            go_loopw [8] (fun x wr => ∃ j : Nat, j ≤ n + 1 ∧ x = .int .i64 j ∧ Hid (TabAt w.heap.size wr g (n + 1) rws (C i k j)) ∧ Hid (Below w.heap.size w wr)) (fun x _ => n + 1 - (intOf x).toNat)
            case atStart => exact ⟨0, Nat.zero_le _, rfl, TK, LK⟩
            case round =>
              obtain ⟨j, hj, rfl, TJ, LJ⟩ := hrel
              have a0 := (HA.out _ LJ.out).cell i hlt
              have a1 := (HA.out _ LJ.out).at hlt hklt
              rw [HFA.out] at a1
              obtain ⟨x1, hx1⟩ : ∃ x1, x1 = ra i := ⟨_, rfl⟩
              rw [← hx1] at a0 a1
              clear hx1
              by_cases hjlt : j < n + 1
              · have hjI : (j : Int) < (n : Int) + 1 := by omega
                have hj0 : (0 : Int) ≤ (j : Int) := by omega
                have b0 := (HB.out _ LJ.out).cell k hklt
                have b1 := (HB.out _ LJ.out).at hklt hjlt
                have o0 := TJ.out.cell i hlt
                have o1 := TJ.out.at hlt hjlt
                have o2 := TJ.out.free hlt j
                obtain ⟨x2, hx2⟩ : ∃ x2, x2 = rb k := ⟨_, rfl⟩
                obtain ⟨x3, hx3⟩ : ∃ x3, x3 = rws i := ⟨_, rfl⟩
                have PT := hid (fun (v : Bool) (hv : v = (C i k j i j || fb k j)) => (by
                  have := (TJ.out.put hlt j v).on (Below.refl _ _).drew
                  rw [HC.out] at this hv
                  rw [chN_put j HFA.out hv] at this
                  exact ⟨by rw [hx3, HC.out]; exact this, ((LJ.out.setCell (by rw [hx3]; exact (TJ.out.row i hlt).1) _).drew)⟩ : TabAt w.heap.size (wr.setCell ⟨x3, j, none⟩ (.bool v)).drew g (n + 1) rws (C i k (j + 1)) ∧ Below w.heap.size w (wr.setCell ⟨x3, j, none⟩ (.bool v)).drew))
                rw [← hx2] at b0 b1
                rw [← hx3] at o0 o1 o2
                clear hx2 hx3
                cases hq : C i k j i j with
                | true =>
                  rw [hq] at o1
                  have PT1 := hid (PT.out true (by rw [hq]; rfl))
                  clear hq PT
                  go_wp2_with fail
                  go_region
                  go_wp2
                  exact ⟨⟨j + 1, by omega, by go_num, PT1.out.1, PT1.out.2⟩, by simp [intOf]; omega⟩
                | false =>
                  rw [hq] at o1
                  obtain ⟨y, hy⟩ : ∃ y, y = fb k j := ⟨_, rfl⟩
                  rw [← hy] at b1
                  have PT1 := hid (PT.out y (by rw [hq, hy]; rfl))
                  clear hq PT hy
                  go_wp2_with fail
                  go_region
                  go_wp2
                  exact ⟨⟨j + 1, by omega, by go_num, PT1.out.1, PT1.out.2⟩, by simp [intOf]; omega⟩
              · have hjI : ¬ (j : Int) < (n : Int) + 1 := by omega
                obtain rfl : j = n + 1 := by omega
                have TL := hid (show TabAt w.heap.size wr g (n + 1) rws (C i (k + 1) 0) from TJ.out.congr fun a c _ hc => by rw [HC.out]; exact chN_col fa fb i k a c hc)
                go_wp2
                exact ⟨⟨k + 1, by omega, by go_num, TL, LJ⟩, by simp [intOf]; omega⟩
        · have hkI : ¬ (k : Int) < (n : Int) + 1 := by omega
          obtain rfl : k = n + 1 := by omega
          have TL := hid (show TabAt w.heap.size wr g (n + 1) rws (C (i + 1) 0 0) by have := TK.out; rw [HC.out] at this ⊢; rw [← chN_row]; exact this)
          go_wp2
          exact ⟨⟨i + 1, by omega, by go_num, TL, LK⟩, by simp [intOf]; omega⟩
    · have hiI : ¬ (i : Int) < (n : Int) + 1 := by omega
      obtain rfl : i = n + 1 := by omega
      have TL := hid (show TabAt w.heap.size wr g (n + 1) rws F from TI.out.congr fun a c ha _ => by rw [HC.out, HF.out]; unfold chN; rw [if_pos ha])
      go_wp2
      exact bodyPost_ret (v := .slice (some ⟨g, 0, none⟩) (n + 1) cap) (by simp [results, Tryz.results69, go_sem]) rfl ⟨g, cap, rws, rfl, TL, LI⟩
end Go.Proofs.YtnmmfbhmfcabhaaGreatDoor
namespace Go.Proofs.YtnmmfbhmfcabhaaGreatDoor
open Go.RowKit

set_option maxRecDepth 20000 in
set_option maxHeartbeats 2000000 in
theorem REither_any {w : World} {n ga ca gb cb : Nat} {ra rb : Nat → Nat} {fa fb : Nat → Nat → Bool} {Ba Bb : Nat} (hn : n ≤ 1000) (hA : TabAt Ba w ga (n + 1) ra fa) (hB : TabAt Bb w gb (n + 1) rb fb) :
    Calls Tryz.prog 70 #[.slice (some ⟨ga, 0, none⟩) (n + 1) ca, .slice (some ⟨gb, 0, none⟩) (n + 1) cb] w fun e w' => TellT w (n + 1) (fun i j => fa i j || fb i j) e w' := by
  have HT := hid (fun (W : World) => RTable_any (w := W) hn)
  have HA := hid (fun (W : World) (hb : Below w.heap.size w W) => hA.on hb)
  have HB := hid (fun (W : World) (hb : Below w.heap.size w W) => hB.on hb)
  obtain ⟨F, hF⟩ : ∃ F : Nat → Nat → Bool, F = fun i j => fa i j || fb i j := ⟨_, rfl⟩
  have HF := hid hF
  rw [← hF]
  clear hA hB hF
  have e1 : IntKind.i64.wrap ((n : Int) + 1 - 1) = n := by rw [IntKind.wrap_i64]; omega
  go_enter Tryz.func70, Tryz.ntmps70
  go_wp2_with fail
  refine (HT.out w).mono ?_
  rintro en w1 ⟨g, cap, rws, rfl, T1, L1⟩
  go_wp2_with fail
  obtain ⟨Z0, hZ0⟩ : ∃ Z0 : Nat → Nat → Bool, Z0 = fun _ _ => false := ⟨_, rfl⟩
  have T0 := hid (show TabAt w.heap.size w1 g (n + 1) rws (upTo 0 0 F Z0) by rw [upTo_zero, hZ0]; exact T1.out)
  clear T1 hZ0
  go_loopw [6] (fun x wr => ∃ i : Nat, i ≤ n + 1 ∧ x = .int .i64 i ∧ Hid (TabAt w.heap.size wr g (n + 1) rws (upTo i 0 F Z0)) ∧ Hid (Below w.heap.size w wr)) (fun x _ => n + 1 - (intOf x).toNat)
  case atStart => exact ⟨0, Nat.zero_le _, rfl, T0, L1⟩
  case round =>
    obtain ⟨i, hi, rfl, TI, LI⟩ := hrel
    by_cases hlt : i < n + 1
    · have hiI : (i : Int) < (n : Int) + 1 := by omega
      have hi0 : (0 : Int) ≤ (i : Int) := by omega
      go_wp2_with fail
      go_loopw [7] (fun x wr => ∃ j : Nat, j ≤ n + 1 ∧ x = .int .i64 j ∧ Hid (TabAt w.heap.size wr g (n + 1) rws (upTo i j F Z0)) ∧ Hid (Below w.heap.size w wr)) (fun x _ => n + 1 - (intOf x).toNat)
      case atStart => exact ⟨0, Nat.zero_le _, rfl, TI, LI⟩
      case round =>
        obtain ⟨j, hj, rfl, TJ, LJ⟩ := hrel
        by_cases hjlt : j < n + 1
        · have hjI : (j : Int) < (n : Int) + 1 := by omega
          have hj0 : (0 : Int) ≤ (j : Int) := by omega
          have a0 := (HA.out _ LJ.out).cell i hlt
          have a1 := (HA.out _ LJ.out).at hlt hjlt
          have b0 := (HB.out _ LJ.out).cell i hlt
          have b1 := (HB.out _ LJ.out).at hlt hjlt
          have o0 := TJ.out.cell i hlt
          have o1 := TJ.out.at hlt hjlt
          have o2 := TJ.out.free hlt j
          obtain ⟨x1, hx1⟩ : ∃ x1, x1 = ra i := ⟨_, rfl⟩
          obtain ⟨x2, hx2⟩ : ∃ x2, x2 = rb i := ⟨_, rfl⟩
          obtain ⟨x3, hx3⟩ : ∃ x3, x3 = rws i := ⟨_, rfl⟩
          obtain ⟨q, hq⟩ : ∃ q, q = upTo i j F Z0 i j := ⟨_, rfl⟩
          have PT := hid (fun (v : Bool) (hv : v = F i j) => (by
            have := (TJ.out.put hlt j v).on (Below.refl _ _).drew
            rw [hv, upTo_put] at this
            exact ⟨by rw [hv, hx3]; exact this, ((LJ.out.setCell (by rw [hx3]; exact (TJ.out.row i hlt).1) _).drew)⟩ : TabAt w.heap.size (wr.setCell ⟨x3, j, none⟩ (.bool v)).drew g (n + 1) rws (upTo i (j + 1) F Z0) ∧ Below w.heap.size w (wr.setCell ⟨x3, j, none⟩ (.bool v)).drew))
          rw [← hx1] at a0 a1
          rw [← hx2] at b0 b1
          rw [← hx3] at o0 o1 o2
          rw [← hq] at o1
          have HFF := hid (show F i j = (fa i j || fb i j) by rw [HF.out])
          clear hx1 hx2 hx3 hq
          cases hfa : fa i j with
          | true =>
            rw [hfa] at a1
            have PT1 := hid (PT.out true (by rw [HFF.out, hfa]; rfl))
            clear hfa PT HFF
            go_wp2_with fail
            go_region
            go_wp2
            exact ⟨⟨j + 1, by omega, by go_num, PT1.out.1, PT1.out.2⟩, by simp [intOf]; omega⟩
          | false =>
            rw [hfa] at a1
            obtain ⟨y, hy⟩ : ∃ y, y = fb i j := ⟨_, rfl⟩
            rw [← hy] at b1
            have PT1 := hid (PT.out y (by rw [HFF.out, hfa, hy]; rfl))
            clear hfa PT HFF hy
            go_wp2_with fail
            go_region
            go_wp2
            exact ⟨⟨j + 1, by omega, by go_num, PT1.out.1, PT1.out.2⟩, by simp [intOf]; omega⟩
        · have hjI : ¬ (j : Int) < (n : Int) + 1 := by omega
          obtain rfl : j = n + 1 := by omega
          have TK := hid (TJ.out.congr fun a c _ hc => upTo_row (n := n + 1) i F Z0 hc)
          go_wp2
          exact ⟨⟨i + 1, by omega, by go_num, TK, LJ⟩, by simp [intOf]; omega⟩
    · have hiI : ¬ (i : Int) < (n : Int) + 1 := by omega
      obtain rfl : i = n + 1 := by omega
      have TK := hid (TI.out.congr fun a c ha _ => upTo_all (n := n + 1) F Z0 ha)
      go_wp2
      exact bodyPost_ret (v := .slice (some ⟨g, 0, none⟩) (n + 1) cap) (by simp [results, Tryz.results70, go_sem]) rfl ⟨g, cap, rws, rfl, TK, LI⟩
end Go.Proofs.YtnmmfbhmfcabhaaGreatDoor
namespace Go.Proofs.YtnmmfbhmfcabhaaGreatDoor
open Go.RowKit

theorem seq_snoc {ps : Whos} {f g : Nat → Nat → Bool} {As : List Lng} {B : Lng} (hf : TabOf f (seqL As) ps) (hg : TabOf g B ps) : TabOf (chainF (ps.length + 1) f g) (seqL (As ++ [B])) ps :=
  (hf.chain hg).congr fun q => by
    rw [seqL_app]
    exact concL_congr (fun _ => Iff.rfl) (fun p => (seqL_one B p).symm) q
theorem alt_snoc {ps : Whos} {f g : Nat → Nat → Bool} {As : List Lng} {B : Lng} (hf : TabOf f (altL As) ps) (hg : TabOf g B ps) : TabOf (fun i j => f i j || g i j) (altL (As ++ [B])) ps :=
  (hf.or hg).congr fun q => by
    simp only [altL, List.mem_append, List.mem_singleton]
    constructor
    · rintro (⟨A, h, hA⟩ | h)
      · exact ⟨A, Or.inl h, hA⟩
      · exact ⟨B, Or.inr rfl, h⟩
    · rintro ⟨A, h | h, hA⟩
      · exact Or.inl ⟨A, h, hA⟩
      · subst h; exact Or.inr hA
theorem diag_put (i : Nat) (Z : Nat → Nat → Bool) (hZ : ∀ a c, Z a c = false) : updF (upTo i 0 diagF Z) i i true = upTo (i + 1) 0 diagF Z := by
  funext a c
  unfold updF upTo diagF
  by_cases h1 : a = i ∧ c = i
  · obtain ⟨rfl, rfl⟩ := h1
    rw [if_pos ⟨rfl, rfl⟩, if_pos (Or.inl (by omega))]
    simp
  · rw [if_neg h1]
    by_cases h2 : a < i
    · rw [if_pos (Or.inl h2), if_pos (Or.inl (by omega))]
    · rw [if_neg (by omega), hZ]
      by_cases h3 : a = i
      · subst h3
        rw [if_pos (Or.inl (by omega)), decide_eq_false (by intro e; exact h1 ⟨rfl, e.symm⟩)]
      · rw [if_neg (by omega)]
theorem map_snoc {ks : List Rx} {j : Nat} {k : Rx} (h : ks[j]? = some k) : (ks.take (j + 1)).map Rx.L = (ks.take j).map Rx.L ++ [k.L] := by rw [take_snocR h]; simp

set_option maxRecDepth 20000 in
set_option maxHeartbeats 2000000 in
theorem spans_seq {r : Rx} {ps : Whos} (hop : r.op = 4) (hm : r.kids.length ≤ 1000) (hn : ps.length ≤ 30) (ih : ∀ k ∈ r.kids, SpanC k ps) : SpanC r ps := by
  intro w v vp hS hP
  have HL := hid (show r.L = seqL (r.kids.map Rx.L) by rw [r.L_eq, if_pos hop])
  have HT := hid (fun (W : World) => RTable_any (w := W) (n := ps.length) (by omega))
  have HCH := hid (fun (W : World) (ga ca gb cb : Nat) (ra rb : Nat → Nat) (fa fb : Nat → Nat → Bool) (Ba Bb : Nat) (hA : TabAt Ba W ga (ps.length + 1) ra fa) (hB : TabAt Bb W gb (ps.length + 1) rb fb) => RChain_any (ca := ca) (cb := cb) (by omega) hA hB)
  have HIH := hid ih
  have HP := hid hP
  obtain ⟨ao, cap, rfl, hat⟩ := hS.at
  obtain ⟨po, pc, rfl, -⟩ := hP
  obtain ⟨n, hnn⟩ : ∃ n, n = ps.length := ⟨_, rfl⟩
  have HN := hid hnn
  obtain ⟨nm, hnmE⟩ : ∃ nm, nm = r.name := ⟨_, rfl⟩
  obtain ⟨ks, hks⟩ : ∃ ks, ks = r.kids := ⟨_, rfl⟩
  have HKS := hid hks
  rw [← hks] at hat hm HIH HL ⊢
  obtain ⟨m, hmm⟩ : ∃ m, m = ks.length := ⟨_, rfl⟩
  have HM := hid hmm
  have HAT := hid hat
  rw [← hmm] at hm ⊢
  rw [← hnn] at hn HT HCH HP ⊢
  rw [← hnmE, hop]
  have B0 := hid (show boxed w (.mk 4 nm []) (.slice ao m cap) (w.alloc (rxo 4 nm (.slice ao m cap))) from boxed.start _ _ _)
  clear hS hat hnn hnmE hks hmm hop ih
  go_enter Tryz.func42, Tryz.ntmps42
  go_wp2_with fail
  refine (HT.out _).mono ?_
  rintro en w1 ⟨g, cap1, rws, rfl, T1, L1⟩
  have B1 := hid (B0.out.on L1.out)
  obtain ⟨c0, c1, c2⟩ := B1.out.cells
  dsimp only [Rx.op, Rx.name] at c0 c1
  go_wp2_with fail
  obtain ⟨Z0, hZ0⟩ : ∃ Z0 : Nat → Nat → Bool, Z0 = fun _ _ => false := ⟨_, rfl⟩
  have T0 := hid (show TabAt (w.heap.size + 1) w1 g (n + 1) rws (upTo 0 0 diagF Z0) by rw [upTo_zero, hZ0]; have := T1.out; rw [World.size_alloc] at this; exact this)
  have HZ := hid (show ∀ a c, Z0 a c = false by rw [hZ0]; exact fun _ _ => rfl)
  clear T1 L1 hZ0 c0 c1 c2
  go_loopw [8] (fun x wr => ∃ i : Nat, i ≤ n + 1 ∧ x = .int .i64 i ∧ Hid (TabAt (w.heap.size + 1) wr g (n + 1) rws (upTo i 0 diagF Z0)) ∧ Hid (boxed w (.mk 4 nm []) (.slice ao m cap) wr)) (fun x _ => n + 1 - (intOf x).toNat)
  case atStart => exact ⟨0, Nat.zero_le _, rfl, T0, B1⟩
  case round =>
    obtain ⟨i, hi, rfl, TI, BI⟩ := hrel
    by_cases hlt : i ≤ n
    · have hiI : (i : Int) ≤ (n : Int) := by omega
      have hi0 : (0 : Int) ≤ (i : Int) := by omega
      have hiS : (i : Int) < (n : Int) + 1 := by omega
      have o0 := TI.out.cell i (by omega)
      have o1 := TI.out.at (i := i) (j := i) (by omega) (by omega)
      have o2 := TI.out.free (i := i) (by omega) i
      have PT := hid (show TabAt (w.heap.size + 1) (wr.setCell ⟨rws i, i, none⟩ (.bool true)) g (n + 1) rws (upTo (i + 1) 0 diagF Z0) ∧ boxed w (.mk 4 nm []) (.slice ao m cap) (wr.setCell ⟨rws i, i, none⟩ (.bool true)) by
        have := TI.out.put (i := i) (by omega) i true
        rw [diag_put i Z0 HZ.out] at this
        exact ⟨this, Below.setCell BI.out (TI.out.row i (by omega)).1 _⟩)
      obtain ⟨x3, hx3⟩ : ∃ x3, x3 = rws i := ⟨_, rfl⟩
      obtain ⟨y0, hy0⟩ : ∃ y0, y0 = upTo i 0 diagF Z0 i i := ⟨_, rfl⟩
      rw [← hx3] at o0 o1 o2 PT
      rw [← hy0] at o1
      clear hx3 hy0
      go_wp2
      exact ⟨⟨i + 1, by omega, by go_num, PT.out.1, PT.out.2⟩, by simp [intOf]; omega⟩
    · have hiI : ¬ (i : Int) ≤ (n : Int) := by omega
      have T3 := hid (show TabAt (w.heap.size + 1) wr g (n + 1) rws diagF from TI.out.congr fun a c ha _ => by unfold upTo; rw [if_pos (Or.inl (by omega))])
      go_wp2_with fail
      obtain ⟨f0, hf0⟩ : ∃ f0, f0 = diagF := ⟨_, rfl⟩
      have TF0 := hid (show TabAt (w.heap.size + 1) wr g (n + 1) rws f0 by rw [hf0]; exact T3.out)
      have OF0 := hid (show TabOf f0 (seqL ((ks.take 0).map Rx.L)) ps by rw [hf0]; exact TabOf.nil ps)
      clear hf0
      go_loopw [6, 9] (fun u x wr => ∃ k : Nat, ∃ g cap2 : Nat, ∃ rws : Nat → Nat, ∃ f : Nat → Nat → Bool, k ≤ m ∧ u = .slice (some ⟨g, 0, none⟩) (n + 1) cap2 ∧ x = .int .i64 k ∧ Hid (TabAt (w.heap.size + 1) wr g (n + 1) rws f) ∧ Hid (TabOf f (seqL ((ks.take k).map Rx.L)) ps) ∧ Hid (boxed w (.mk 4 nm []) (.slice ao m cap) wr)) (fun _ x _ => m - (intOf x).toNat)
      case atStart => exact ⟨0, g, cap1, rws, f0, Nat.zero_le _, rfl, rfl, TF0, OF0, BI⟩
      case round =>
        obtain ⟨k, g, cap2, rws, f, hk, rfl, rfl, TK, OK, BK⟩ := hrel
        obtain ⟨c0, c1, c2⟩ := BK.out.cells
        dsimp only [Rx.op, Rx.name] at c0 c1
        by_cases hklt : k < m
        · have hkI : (k : Int) < (m : Int) := by omega
          have hk0 : (0 : Int) ≤ (k : Int) := by omega
          obtain ⟨x, hx⟩ : ∃ x, ks[k]? = some x := ⟨ks[k]'(by rw [← HM.out]; exact hklt), List.getElem?_eq_getElem _⟩
          have hmem := List.mem_of_getElem? hx
          obtain ⟨kg, ko, rfl, hkg, hkc⟩ := HAT.out.resolve_left (fun e => by rw [e] at hmem; cases hmem)
          obtain ⟨u0, un, uc, a0, a1, a2, hun, hxs⟩ := hkc k x hx
          have LW := hid BK.out.low
          have q0 := (LW.out.cell (p := ⟨kg, ko + k * 3, none⟩) (by exact hkg)).trans a0
          have q1 := (LW.out.cell (p := ⟨kg, ko + k * 3 + 1, none⟩) (by exact hkg)).trans a1
          have q2 := (LW.out.cell (p := ⟨kg, ko + k * 3 + 2, none⟩) (by exact hkg)).trans a2
          have HC := hid (HIH.out x hmem wr _ _ (hxs.on LW.out) (HP.out.on LW.out))
          have HMS := hid (map_snoc hx)
          unfold SpanPost at HC
          rw [← HN.out] at HC
          clear hmem hx hkc a0 a1 a2 hun hxs
          go_wp2_with fail
          refine HC.out.mono ?_
          rintro en w2 ⟨fk, OX, g2, cap3, rw2, rfl, T2, L2⟩
          have B2 := hid (BK.out.on L2.out)
          have TK2 := hid (TK.out.on L2.out)
          have HC2 := hid (HCH.out w2 g cap2 g2 cap3 rws rw2 f fk _ _ TK2.out T2.out)
          have hls : w.heap.size + 1 ≤ w2.heap.size := by have := B2.out.size; simpa using this
          go_wp2_with fail
          refine HC2.out.mono ?_
          rintro en w3 ⟨g3, cap4, rw3, rfl, T3, L3⟩
          have B3 := hid (B2.out.on L3.out)
          have T4 := hid (T3.out.mono hls)
          have O4 := hid (show TabOf _ (seqL ((ks.take (k + 1)).map Rx.L)) ps by rw [HMS.out]; exact seq_snoc OK.out OX)
          rw [← HN.out] at O4
          clear c0 c1 c2 q0 q1 q2
          go_wp2
          exact ⟨⟨k + 1, g3, cap4, rw3, _, by omega, rfl, by go_num, T4, O4, B3⟩, by simp [intOf]; omega⟩
        · have hkI : ¬ (k : Int) < (m : Int) := by omega
          have HFIN := hid (show SpanPost w r ps (.returned (.slice (some ⟨g, 0, none⟩) (n + 1) cap2)) wr from ⟨f, by rw [HL.out]; have := OK.out; rw [List.take_of_length_le (by rw [← HM.out]; omega)] at this; exact this, g, cap2, rws, by rw [← HN.out], by rw [← HN.out]; exact TK.out.mono (Nat.le_succ _), BK.out.low⟩)
          go_wp2
          exact bodyPost_ret (v := .slice (some ⟨g, 0, none⟩) (n + 1) cap2) (by simp [results, Tryz.results42, go_sem]) rfl HFIN.out

set_option maxRecDepth 20000 in
set_option maxHeartbeats 2000000 in
theorem spans_alt {r : Rx} {ps : Whos} (hop : r.op = 5) (hm : r.kids.length ≤ 1000) (hn : ps.length ≤ 30) (ih : ∀ k ∈ r.kids, SpanC k ps) : SpanC r ps := by
  intro w v vp hS hP
  have HL := hid (show r.L = altL (r.kids.map Rx.L) by rw [r.L_eq, if_neg (by omega), if_pos hop])
  have HT := hid (fun (W : World) => RTable_any (w := W) (n := ps.length) (by omega))
  have HCH := hid (fun (W : World) (ga ca gb cb : Nat) (ra rb : Nat → Nat) (fa fb : Nat → Nat → Bool) (Ba Bb : Nat) (hA : TabAt Ba W ga (ps.length + 1) ra fa) (hB : TabAt Bb W gb (ps.length + 1) rb fb) => REither_any (ca := ca) (cb := cb) (by omega) hA hB)
  have HIH := hid ih
  have HP := hid hP
  obtain ⟨ao, cap, rfl, hat⟩ := hS.at
  obtain ⟨po, pc, rfl, -⟩ := hP
  obtain ⟨n, hnn⟩ : ∃ n, n = ps.length := ⟨_, rfl⟩
  have HN := hid hnn
  obtain ⟨nm, hnmE⟩ : ∃ nm, nm = r.name := ⟨_, rfl⟩
  obtain ⟨ks, hks⟩ : ∃ ks, ks = r.kids := ⟨_, rfl⟩
  have HKS := hid hks
  rw [← hks] at hat hm HIH HL ⊢
  obtain ⟨m, hmm⟩ : ∃ m, m = ks.length := ⟨_, rfl⟩
  have HM := hid hmm
  have HAT := hid hat
  rw [← hmm] at hm ⊢
  rw [← hnn] at hn HT HCH HP ⊢
  rw [← hnmE, hop]
  have B0 := hid (show boxed w (.mk 5 nm []) (.slice ao m cap) (w.alloc (rxo 5 nm (.slice ao m cap))) from boxed.start _ _ _)
  clear hS hat hnn hnmE hks hmm hop ih
  go_enter Tryz.func42, Tryz.ntmps42
  go_wp2_with fail
  refine (HT.out _).mono ?_
  rintro en w1 ⟨g, cap1, rws, rfl, T1, L1⟩
  have B1 := hid (B0.out.on L1.out)
  obtain ⟨c0, c1, c2⟩ := B1.out.cells
  dsimp only [Rx.op, Rx.name] at c0 c1
  go_wp2_with fail
  have T3 := hid (show TabAt (w.heap.size + 1) w1 g (n + 1) rws (fun _ _ => false) by have := T1.out; rw [World.size_alloc] at this; exact this)
  clear T1 L1 c0 c1 c2
  obtain ⟨f0, hf0⟩ : ∃ f0, f0 = (fun _ _ => false : Nat → Nat → Bool) := ⟨_, rfl⟩
  have TF0 := hid (show TabAt (w.heap.size + 1) w1 g (n + 1) rws f0 by rw [hf0]; exact T3.out)
  have OF0 := hid (show TabOf f0 (altL ((ks.take 0).map Rx.L)) ps by rw [hf0]; exact TabOf.none ps)
  clear hf0
  go_loopw [6, 10] (fun u x wr => ∃ k : Nat, ∃ g cap2 : Nat, ∃ rws : Nat → Nat, ∃ f : Nat → Nat → Bool, k ≤ m ∧ u = .slice (some ⟨g, 0, none⟩) (n + 1) cap2 ∧ x = .int .i64 k ∧ Hid (TabAt (w.heap.size + 1) wr g (n + 1) rws f) ∧ Hid (TabOf f (altL ((ks.take k).map Rx.L)) ps) ∧ Hid (boxed w (.mk 5 nm []) (.slice ao m cap) wr)) (fun _ x _ => m - (intOf x).toNat)
  case atStart => exact ⟨0, g, cap1, rws, f0, Nat.zero_le _, rfl, rfl, TF0, OF0, B1⟩
  case round =>
    obtain ⟨k, g, cap2, rws, f, hk, rfl, rfl, TK, OK, BK⟩ := hrel
    obtain ⟨c0, c1, c2⟩ := BK.out.cells
    dsimp only [Rx.op, Rx.name] at c0 c1
    by_cases hklt : k < m
    · have hkI : (k : Int) < (m : Int) := by omega
      have hk0 : (0 : Int) ≤ (k : Int) := by omega
      obtain ⟨x, hx⟩ : ∃ x, ks[k]? = some x := ⟨ks[k]'(by rw [← HM.out]; exact hklt), List.getElem?_eq_getElem _⟩
      have hmem := List.mem_of_getElem? hx
      obtain ⟨kg, ko, rfl, hkg, hkc⟩ := HAT.out.resolve_left (fun e => by rw [e] at hmem; cases hmem)
      obtain ⟨u0, un, uc, a0, a1, a2, hun, hxs⟩ := hkc k x hx
      have LW := hid BK.out.low
      have q0 := (LW.out.cell (p := ⟨kg, ko + k * 3, none⟩) (by exact hkg)).trans a0
      have q1 := (LW.out.cell (p := ⟨kg, ko + k * 3 + 1, none⟩) (by exact hkg)).trans a1
      have q2 := (LW.out.cell (p := ⟨kg, ko + k * 3 + 2, none⟩) (by exact hkg)).trans a2
      have HC := hid (HIH.out x hmem wr _ _ (hxs.on LW.out) (HP.out.on LW.out))
      have HMS := hid (map_snoc hx)
      unfold SpanPost at HC
      rw [← HN.out] at HC
      clear hmem hx hkc a0 a1 a2 hun hxs
      go_wp2_with fail
      refine HC.out.mono ?_
      rintro en w2 ⟨fk, OX, g2, cap3, rw2, rfl, T2, L2⟩
      have B2 := hid (BK.out.on L2.out)
      have TK2 := hid (TK.out.on L2.out)
      have HC2 := hid (HCH.out w2 g cap2 g2 cap3 rws rw2 f fk _ _ TK2.out T2.out)
      have hls : w.heap.size + 1 ≤ w2.heap.size := by have := B2.out.size; simpa using this
      go_wp2_with fail
      refine HC2.out.mono ?_
      rintro en w3 ⟨g3, cap4, rw3, rfl, T3, L3⟩
      have B3 := hid (B2.out.on L3.out)
      have T4 := hid (T3.out.mono hls)
      have O4 := hid (show TabOf _ (altL ((ks.take (k + 1)).map Rx.L)) ps by rw [HMS.out]; exact alt_snoc OK.out OX)
      clear c0 c1 c2 q0 q1 q2
      go_wp2
      exact ⟨⟨k + 1, g3, cap4, rw3, _, by omega, rfl, by go_num, T4, O4, B3⟩, by simp [intOf]; omega⟩
    · have hkI : ¬ (k : Int) < (m : Int) := by omega
      have HFIN := hid (show SpanPost w r ps (.returned (.slice (some ⟨g, 0, none⟩) (n + 1) cap2)) wr from ⟨f, by rw [HL.out]; have := OK.out; rw [List.take_of_length_le (by rw [← HM.out]; omega)] at this; exact this, g, cap2, rws, by rw [← HN.out], by rw [← HN.out]; exact TK.out.mono (Nat.le_succ _), BK.out.low⟩)
      go_wp2
      exact bodyPost_ret (v := .slice (some ⟨g, 0, none⟩) (n + 1) cap2) (by simp [results, Tryz.results42, go_sem]) rfl HFIN.out
end Go.Proofs.YtnmmfbhmfcabhaaGreatDoor
namespace Go.Proofs.YtnmmfbhmfcabhaaGreatDoor
open Go.RowKit

theorem orD_put (i : Nat) (f : Nat → Nat → Bool) : updF (upTo i 0 (orF f diagF) f) i i true = upTo (i + 1) 0 (orF f diagF) f := by
  funext a c
  unfold updF upTo orF diagF
  by_cases h1 : a = i ∧ c = i
  · obtain ⟨rfl, rfl⟩ := h1
    rw [if_pos ⟨rfl, rfl⟩, if_pos (Or.inl (by omega))]
    simp
  · rw [if_neg h1]
    by_cases h2 : a < i
    · rw [if_pos (Or.inl h2), if_pos (Or.inl (by omega))]
    · rw [if_neg (by omega)]
      by_cases h3 : a = i
      · subst h3
        rw [if_pos (Or.inl (by omega)), decide_eq_false (by intro e; exact h1 ⟨rfl, e.symm⟩)]
        simp
      · rw [if_neg (by omega)]
theorem TabOf.plus1 {f : Nat → Nat → Bool} {k : Rx} {ps : Whos} (h : TabOf f k.L ps) : TabOf (warF f (ps.length + 1)) (PlusL (altL ([k].map Rx.L))) ps := (TabOf.plus h).congr fun q => (PlusL.congr (altL_one k.L) q).symm
theorem TabOf.orD {f : Nat → Nat → Bool} {A : Lng} {ps : Whos} (h : TabOf f A ps) : TabOf (orF f diagF) (fun q => q = [] ∨ A q) ps := (h.or (TabOf.nil ps)).congr fun _ => or_comm
/-- What is read while a way over k is looked for. -/
theorem war_read {f : Nat → Nat → Bool} {k i j : Nat} : upTo i j (warF f (k + 1)) (warF f k) i j = warF f k i j ∧ upTo i j (warF f (k + 1)) (warF f k) i k = warF f k i k ∧ upTo i j (warF f (k + 1)) (warF f k) k j = warF f k k j := by
  unfold upTo
  refine ⟨by rw [if_neg (by omega)], ?_, ?_⟩
  · split
    · exact warF_col f k i
    · rfl
  · split
    · exact warF_row f k j
    · rfl

set_option maxRecDepth 20000 in
set_option maxHeartbeats 4000000 in
theorem spans_star {r : Rx} {ps : Whos} (hop : r.op = 6) (hm : r.kids.length = 1) (hn : ps.length ≤ 30) (ih : ∀ k ∈ r.kids, SpanC k ps) : SpanC r ps := by
  intro w v vp hS hP
  obtain ⟨k1, hk1⟩ := List.length_eq_one_iff.1 hm
  have HL := hid (show r.L = fun q => q = [] ∨ PlusL (altL ([k1].map Rx.L)) q by rw [r.L_eq, if_neg (by omega), if_neg (by omega), if_pos hop, hk1])
  have HT := hid (fun (W : World) => RTable_any (w := W) (n := ps.length) (by omega))
  have HIH := hid (ih k1 (by rw [hk1]; simp))
  have HP := hid hP
  obtain ⟨ao, cap, rfl, hat⟩ := hS.at
  obtain ⟨po, pc, rfl, -⟩ := hP
  obtain ⟨kg, ko, rfl, hkg, hkc⟩ := hat.resolve_left (fun e => by rw [e] at hk1; cases hk1)
  obtain ⟨u0, un, uc, a0, a1, a2, -, hxs⟩ := hkc 0 k1 (by rw [hk1]; rfl)
  rw [Nat.zero_mul, Nat.add_zero] at a0 a1 a2
  have HXS := hid hxs
  obtain ⟨n, hnn⟩ : ∃ n, n = ps.length := ⟨_, rfl⟩
  have HN := hid hnn
  obtain ⟨nm, hnmE⟩ : ∃ nm, nm = r.name := ⟨_, rfl⟩
  rw [← hnn] at hn HT HP ⊢
  rw [← hnmE, hop, hm]
  have B0 := hid (show boxed w (.mk 6 nm []) (.slice (some ⟨kg, ko, none⟩) 1 cap) (w.alloc (rxo 6 nm (.slice (some ⟨kg, ko, none⟩) 1 cap))) from boxed.start _ _ _)
  clear hS hat hnn hnmE hop ih hk1 hm hkc hxs
  go_enter Tryz.func42, Tryz.ntmps42
  go_wp2_with fail
  refine (HT.out _).mono ?_
  rintro en w1 ⟨g1, cap1, rws1, rfl, T1, L1⟩
  have B1 := hid (B0.out.on L1.out)
  obtain ⟨c0, c1, c2⟩ := B1.out.cells
  dsimp only [Rx.op, Rx.name] at c0 c1
  have LW := hid B1.out.low
  have q0 := (LW.out.cell (p := ⟨kg, ko, none⟩) (by exact hkg)).trans a0
  have q1 := (LW.out.cell (p := ⟨kg, ko + 1, none⟩) (by exact hkg)).trans a1
  have q2 := (LW.out.cell (p := ⟨kg, ko + 2, none⟩) (by exact hkg)).trans a2
  have HC := hid (HIH.out w1 _ _ (HXS.out.on LW.out) (HP.out.on LW.out))
  unfold SpanPost at HC
  rw [← HN.out] at HC
  clear T1 L1
  go_wp2_with fail
  refine HC.out.mono ?_
  rintro en w2 ⟨f0, OF, g, cap2, rws, rfl, T2a, L2⟩
  have B2 := hid (B1.out.on L2.out)
  have hls : w.heap.size + 1 ≤ w1.heap.size := by have := B1.out.size; simpa using this
  have T2 := hid (T2a.out.mono hls)
  have HOF := hid OF
  clear c0 c1 c2 q0 q1 q2 T2a L2 OF hls
  obtain ⟨c0, c1, c2⟩ := B2.out.cells
  dsimp only [Rx.op, Rx.name] at c0 c1
  go_wp2_with fail
  obtain ⟨W, hW⟩ : ∃ W, W = warF f0 := ⟨_, rfl⟩
  have HW := hid hW
  have TW := hid (show TabAt (w.heap.size + 1) w2 g (n + 1) rws (W 0) by rw [hW]; exact T2.out)
  clear hW T2
  go_loopw [11] (fun x wr => ∃ k : Nat, k ≤ n + 1 ∧ x = .int .i64 k ∧ Hid (TabAt (w.heap.size + 1) wr g (n + 1) rws (W k)) ∧ Hid (boxed w (.mk 6 nm []) (.slice (some ⟨kg, ko, none⟩) 1 cap) wr)) (fun x _ => n + 1 - (intOf x).toNat)
  case atStart => exact ⟨0, Nat.zero_le _, rfl, TW, B2⟩
  case round =>
    obtain ⟨k, hk, rfl, TK, BK⟩ := hrel
    by_cases hkl : k ≤ n
    · have hkI : (k : Int) ≤ (n : Int) := by omega
      have hk0 : (0 : Int) ≤ (k : Int) := by omega
      have hkS : (k : Int) < (n : Int) + 1 := by omega
      have TK0 := hid (show TabAt (w.heap.size + 1) wr g (n + 1) rws (upTo 0 0 (W (k + 1)) (W k)) by rw [upTo_zero]; exact TK.out)
      go_wp2_with fail
      go_loopw [12] (fun x wr => ∃ i : Nat, i ≤ n + 1 ∧ x = .int .i64 i ∧ Hid (TabAt (w.heap.size + 1) wr g (n + 1) rws (upTo i 0 (W (k + 1)) (W k))) ∧ Hid (boxed w (.mk 6 nm []) (.slice (some ⟨kg, ko, none⟩) 1 cap) wr)) (fun x _ => n + 1 - (intOf x).toNat)
      case atStart => exact ⟨0, Nat.zero_le _, rfl, TK0, BK⟩
      case round =>
        obtain ⟨i, hi, rfl, TI, BI⟩ := hrel
        by_cases hil : i ≤ n
        · have hiI : (i : Int) ≤ (n : Int) := by omega
          have hi0 : (0 : Int) ≤ (i : Int) := by omega
          have hiS : (i : Int) < (n : Int) + 1 := by omega
          go_wp2_with fail
          go_loopw [13] (fun x wr => ∃ j : Nat, j ≤ n + 1 ∧ x = .int .i64 j ∧ Hid (TabAt (w.heap.size + 1) wr g (n + 1) rws (upTo i j (W (k + 1)) (W k))) ∧ Hid (boxed w (.mk 6 nm []) (.slice (some ⟨kg, ko, none⟩) 1 cap) wr)) (fun x _ => n + 1 - (intOf x).toNat)
          case atStart => exact ⟨0, Nat.zero_le _, rfl, TI, BI⟩
          case round =>
            obtain ⟨j, hj, rfl, TJ, BJ⟩ := hrel
            by_cases hjl : j ≤ n
            · have hjI : (j : Int) ≤ (n : Int) := by omega
              have hj0 : (0 : Int) ≤ (j : Int) := by omega
              have hjS : (j : Int) < (n : Int) + 1 := by omega
              have o0 := TJ.out.cell i (by omega)
              have o1 := TJ.out.at (i := i) (j := j) (by omega) (by omega)
              have o2 := TJ.out.free (i := i) (by omega) j
              have o3 := TJ.out.at (i := i) (j := k) (by omega) (by omega)
              have o4 := TJ.out.cell k (by omega)
              have o5 := TJ.out.at (i := k) (j := j) (by omega) (by omega)
              have HRD := hid (war_read (f := f0) (k := k) (i := i) (j := j))
              rw [← HW.out] at HRD
              rw [HRD.out.1] at o1
              rw [HRD.out.2.1] at o3
              rw [HRD.out.2.2] at o5
              have PT := hid (fun (v : Bool) (hv : v = (W k i j || W k i k && W k k j)) => (by
                have := (TJ.out.put (i := i) (by omega) j v).on (Below.refl _ _).drew
                rw [show v = W (k + 1) i j by rw [hv, HW.out]; rfl, upTo_put] at this
                exact ⟨by rw [show v = W (k + 1) i j by rw [hv, HW.out]; rfl]; exact this, (Below.setCell BJ.out (TJ.out.row i (by omega)).1 _).drew⟩ : TabAt (w.heap.size + 1) (wr.setCell ⟨rws i, j, none⟩ (.bool v)).drew g (n + 1) rws (upTo i (j + 1) (W (k + 1)) (W k)) ∧ boxed w (.mk 6 nm []) (.slice (some ⟨kg, ko, none⟩) 1 cap) (wr.setCell ⟨rws i, j, none⟩ (.bool v)).drew))
              obtain ⟨x3, hx3⟩ : ∃ x3, x3 = rws i := ⟨_, rfl⟩
              obtain ⟨x4, hx4⟩ : ∃ x4, x4 = rws k := ⟨_, rfl⟩
              rw [← hx3] at o0 o1 o2 o3 PT
              rw [← hx4] at o4 o5
              clear hx3 hx4 HRD
              cases hx : W k i j with
              | true =>
                rw [hx] at o1
                have PT1 := hid (PT.out true (by rw [hx]; rfl))
                clear hx PT
                go_wp2_with fail
                go_region
                go_wp2
                exact ⟨⟨j + 1, by omega, by go_num, PT1.out.1, PT1.out.2⟩, by simp [intOf]; omega⟩
              | false =>
                rw [hx] at o1
                cases hy : W k i k with
                | true =>
                  rw [hy] at o3
                  obtain ⟨z, hz⟩ : ∃ z, z = W k k j := ⟨_, rfl⟩
                  rw [← hz] at o5
                  have PT1 := hid (PT.out z (by rw [hx, hy, hz]; rfl))
                  clear hx hy hz PT
                  go_wp2_with fail
                  go_region
                  go_wp2
                  exact ⟨⟨j + 1, by omega, by go_num, PT1.out.1, PT1.out.2⟩, by simp [intOf]; omega⟩
                | false =>
                  rw [hy] at o3
                  have PT1 := hid (PT.out false (by rw [hx, hy]; rfl))
                  clear hx hy PT
                  go_wp2_with fail
                  go_region
                  go_wp2
                  exact ⟨⟨j + 1, by omega, by go_num, PT1.out.1, PT1.out.2⟩, by simp [intOf]; omega⟩
            · have hjI : ¬ (j : Int) ≤ (n : Int) := by omega
              obtain rfl : j = n + 1 := by omega
              have TN := hid (TJ.out.congr fun a c _ hc => upTo_row (n := n + 1) i (W (k + 1)) (W k) hc)
              go_wp2
              exact ⟨⟨i + 1, by omega, by go_num, TN, BJ⟩, by simp [intOf]; omega⟩
        · have hiI : ¬ (i : Int) ≤ (n : Int) := by omega
          obtain rfl : i = n + 1 := by omega
          have TN := hid (show TabAt (w.heap.size + 1) wr g (n + 1) rws (W (k + 1)) from TI.out.congr fun a c ha _ => upTo_all (n := n + 1) (W (k + 1)) (W k) ha)
          go_wp2
          exact ⟨⟨k + 1, by omega, by go_num, TN, BI⟩, by simp [intOf]; omega⟩
    · have hkI : ¬ (k : Int) ≤ (n : Int) := by omega
      obtain rfl : k = n + 1 := by omega
      have T5 := hid (show TabAt (w.heap.size + 1) wr g (n + 1) rws (warF f0 (n + 1)) by rw [← HW.out]; exact TK.out)
      obtain ⟨c0, c1, c2⟩ := BK.out.cells
      dsimp only [Rx.op, Rx.name] at c0 c1
      go_wp2_with fail
      obtain ⟨f1, hf1⟩ : ∃ f1, f1 = warF f0 (n + 1) := ⟨_, rfl⟩
      have HF1 := hid hf1
      have TD := hid (show TabAt (w.heap.size + 1) wr g (n + 1) rws (upTo 0 0 (orF f1 diagF) f1) by rw [upTo_zero, hf1]; exact T5.out)
      have BD := hid BK.out
      clear hf1 c0 c1 c2
      go_loopw [14] (fun x wr => ∃ i : Nat, i ≤ n + 1 ∧ x = .int .i64 i ∧ Hid (TabAt (w.heap.size + 1) wr g (n + 1) rws (upTo i 0 (orF f1 diagF) f1)) ∧ Hid (boxed w (.mk 6 nm []) (.slice (some ⟨kg, ko, none⟩) 1 cap) wr)) (fun x _ => n + 1 - (intOf x).toNat)
      case atStart => exact ⟨0, Nat.zero_le _, rfl, TD, BD⟩
      case round =>
        obtain ⟨i, hi, rfl, TI, BI⟩ := hrel
        obtain ⟨c0, c1, c2⟩ := BI.out.cells
        dsimp only [Rx.op, Rx.name] at c0 c1
        by_cases hlt : i ≤ n
        · have hiI : (i : Int) ≤ (n : Int) := by omega
          have hi0 : (0 : Int) ≤ (i : Int) := by omega
          have hiS : (i : Int) < (n : Int) + 1 := by omega
          have o0 := TI.out.cell i (by omega)
          have o1 := TI.out.at (i := i) (j := i) (by omega) (by omega)
          have o2 := TI.out.free (i := i) (by omega) i
          have PT := hid (show TabAt (w.heap.size + 1) (wr.setCell ⟨rws i, i, none⟩ (.bool true)) g (n + 1) rws (upTo (i + 1) 0 (orF f1 diagF) f1) ∧ boxed w (.mk 6 nm []) (.slice (some ⟨kg, ko, none⟩) 1 cap) (wr.setCell ⟨rws i, i, none⟩ (.bool true)) by
            have := TI.out.put (i := i) (by omega) i true
            rw [orD_put i f1] at this
            exact ⟨this, Below.setCell BI.out (TI.out.row i (by omega)).1 _⟩)
          obtain ⟨x3, hx3⟩ : ∃ x3, x3 = rws i := ⟨_, rfl⟩
          obtain ⟨y0, hy0⟩ : ∃ y0, y0 = upTo i 0 (orF f1 diagF) f1 i i := ⟨_, rfl⟩
          rw [← hx3] at o0 o1 o2 PT
          rw [← hy0] at o1
          clear hx3 hy0
          go_wp2
          exact ⟨⟨i + 1, by omega, by go_num, PT.out.1, PT.out.2⟩, by simp [intOf]; omega⟩
        · have hiI : ¬ (i : Int) ≤ (n : Int) := by omega
          have TF := hid (show TabAt w.heap.size wr g (n + 1) rws (orF f1 diagF) from (TI.out.congr fun a c ha _ => by unfold upTo; rw [if_pos (Or.inl (by omega))]).mono (Nat.le_succ _))
          have HFIN := hid (show SpanPost w r ps (.returned (.slice (some ⟨g, 0, none⟩) (n + 1) cap2)) wr from ⟨orF f1 diagF, by rw [HL.out]; rw [HF1.out]; have := TabOf.plus1 HOF.out; rw [← HN.out] at this; exact this.orD, g, cap2, rws, by rw [← HN.out], by rw [← HN.out]; exact TF.out, BI.out.low⟩)
          go_wp2
          exact bodyPost_ret (v := .slice (some ⟨g, 0, none⟩) (n + 1) cap2) (by simp [results, Tryz.results42, go_sem]) rfl HFIN.out

set_option maxRecDepth 20000 in
set_option maxHeartbeats 4000000 in
theorem spans_plus {r : Rx} {ps : Whos} (hop : r.op = 7) (hm : r.kids.length = 1) (hn : ps.length ≤ 30) (ih : ∀ k ∈ r.kids, SpanC k ps) : SpanC r ps := by
  intro w v vp hS hP
  obtain ⟨k1, hk1⟩ := List.length_eq_one_iff.1 hm
  have HL := hid (show r.L = PlusL (altL ([k1].map Rx.L)) by rw [r.L_eq, if_neg (by omega), if_neg (by omega), if_neg (by omega), if_pos hop, hk1])
  have HT := hid (fun (W : World) => RTable_any (w := W) (n := ps.length) (by omega))
  have HIH := hid (ih k1 (by rw [hk1]; simp))
  have HP := hid hP
  obtain ⟨ao, cap, rfl, hat⟩ := hS.at
  obtain ⟨po, pc, rfl, -⟩ := hP
  obtain ⟨kg, ko, rfl, hkg, hkc⟩ := hat.resolve_left (fun e => by rw [e] at hk1; cases hk1)
  obtain ⟨u0, un, uc, a0, a1, a2, -, hxs⟩ := hkc 0 k1 (by rw [hk1]; rfl)
  rw [Nat.zero_mul, Nat.add_zero] at a0 a1 a2
  have HXS := hid hxs
  obtain ⟨n, hnn⟩ : ∃ n, n = ps.length := ⟨_, rfl⟩
  have HN := hid hnn
  obtain ⟨nm, hnmE⟩ : ∃ nm, nm = r.name := ⟨_, rfl⟩
  rw [← hnn] at hn HT HP ⊢
  rw [← hnmE, hop, hm]
  have B0 := hid (show boxed w (.mk 7 nm []) (.slice (some ⟨kg, ko, none⟩) 1 cap) (w.alloc (rxo 7 nm (.slice (some ⟨kg, ko, none⟩) 1 cap))) from boxed.start _ _ _)
  clear hS hat hnn hnmE hop ih hk1 hm hkc hxs
  go_enter Tryz.func42, Tryz.ntmps42
  go_wp2_with fail
  refine (HT.out _).mono ?_
  rintro en w1 ⟨g1, cap1, rws1, rfl, T1, L1⟩
  have B1 := hid (B0.out.on L1.out)
  obtain ⟨c0, c1, c2⟩ := B1.out.cells
  dsimp only [Rx.op, Rx.name] at c0 c1
  have LW := hid B1.out.low
  have q0 := (LW.out.cell (p := ⟨kg, ko, none⟩) (by exact hkg)).trans a0
  have q1 := (LW.out.cell (p := ⟨kg, ko + 1, none⟩) (by exact hkg)).trans a1
  have q2 := (LW.out.cell (p := ⟨kg, ko + 2, none⟩) (by exact hkg)).trans a2
  have HC := hid (HIH.out w1 _ _ (HXS.out.on LW.out) (HP.out.on LW.out))
  unfold SpanPost at HC
  rw [← HN.out] at HC
  clear T1 L1
  go_wp2_with fail
  refine HC.out.mono ?_
  rintro en w2 ⟨f0, OF, g, cap2, rws, rfl, T2a, L2⟩
  have B2 := hid (B1.out.on L2.out)
  have hls : w.heap.size + 1 ≤ w1.heap.size := by have := B1.out.size; simpa using this
  have T2 := hid (T2a.out.mono hls)
  have HOF := hid OF
  clear c0 c1 c2 q0 q1 q2 T2a L2 OF hls
  obtain ⟨c0, c1, c2⟩ := B2.out.cells
  dsimp only [Rx.op, Rx.name] at c0 c1
  go_wp2_with fail
  obtain ⟨W, hW⟩ : ∃ W, W = warF f0 := ⟨_, rfl⟩
  have HW := hid hW
  have TW := hid (show TabAt (w.heap.size + 1) w2 g (n + 1) rws (W 0) by rw [hW]; exact T2.out)
  clear hW T2
  go_loopw [11] (fun x wr => ∃ k : Nat, k ≤ n + 1 ∧ x = .int .i64 k ∧ Hid (TabAt (w.heap.size + 1) wr g (n + 1) rws (W k)) ∧ Hid (boxed w (.mk 7 nm []) (.slice (some ⟨kg, ko, none⟩) 1 cap) wr)) (fun x _ => n + 1 - (intOf x).toNat)
  case atStart => exact ⟨0, Nat.zero_le _, rfl, TW, B2⟩
  case round =>
    obtain ⟨k, hk, rfl, TK, BK⟩ := hrel
    by_cases hkl : k ≤ n
    · have hkI : (k : Int) ≤ (n : Int) := by omega
      have hk0 : (0 : Int) ≤ (k : Int) := by omega
      have hkS : (k : Int) < (n : Int) + 1 := by omega
      have TK0 := hid (show TabAt (w.heap.size + 1) wr g (n + 1) rws (upTo 0 0 (W (k + 1)) (W k)) by rw [upTo_zero]; exact TK.out)
      go_wp2_with fail
      go_loopw [12] (fun x wr => ∃ i : Nat, i ≤ n + 1 ∧ x = .int .i64 i ∧ Hid (TabAt (w.heap.size + 1) wr g (n + 1) rws (upTo i 0 (W (k + 1)) (W k))) ∧ Hid (boxed w (.mk 7 nm []) (.slice (some ⟨kg, ko, none⟩) 1 cap) wr)) (fun x _ => n + 1 - (intOf x).toNat)
      case atStart => exact ⟨0, Nat.zero_le _, rfl, TK0, BK⟩
      case round =>
        obtain ⟨i, hi, rfl, TI, BI⟩ := hrel
        by_cases hil : i ≤ n
        · have hiI : (i : Int) ≤ (n : Int) := by omega
          have hi0 : (0 : Int) ≤ (i : Int) := by omega
          have hiS : (i : Int) < (n : Int) + 1 := by omega
          go_wp2_with fail
          go_loopw [13] (fun x wr => ∃ j : Nat, j ≤ n + 1 ∧ x = .int .i64 j ∧ Hid (TabAt (w.heap.size + 1) wr g (n + 1) rws (upTo i j (W (k + 1)) (W k))) ∧ Hid (boxed w (.mk 7 nm []) (.slice (some ⟨kg, ko, none⟩) 1 cap) wr)) (fun x _ => n + 1 - (intOf x).toNat)
          case atStart => exact ⟨0, Nat.zero_le _, rfl, TI, BI⟩
          case round =>
            obtain ⟨j, hj, rfl, TJ, BJ⟩ := hrel
            by_cases hjl : j ≤ n
            · have hjI : (j : Int) ≤ (n : Int) := by omega
              have hj0 : (0 : Int) ≤ (j : Int) := by omega
              have hjS : (j : Int) < (n : Int) + 1 := by omega
              have o0 := TJ.out.cell i (by omega)
              have o1 := TJ.out.at (i := i) (j := j) (by omega) (by omega)
              have o2 := TJ.out.free (i := i) (by omega) j
              have o3 := TJ.out.at (i := i) (j := k) (by omega) (by omega)
              have o4 := TJ.out.cell k (by omega)
              have o5 := TJ.out.at (i := k) (j := j) (by omega) (by omega)
              have HRD := hid (war_read (f := f0) (k := k) (i := i) (j := j))
              rw [← HW.out] at HRD
              rw [HRD.out.1] at o1
              rw [HRD.out.2.1] at o3
              rw [HRD.out.2.2] at o5
              have PT := hid (fun (v : Bool) (hv : v = (W k i j || W k i k && W k k j)) => (by
                have := (TJ.out.put (i := i) (by omega) j v).on (Below.refl _ _).drew
                rw [show v = W (k + 1) i j by rw [hv, HW.out]; rfl, upTo_put] at this
                exact ⟨by rw [show v = W (k + 1) i j by rw [hv, HW.out]; rfl]; exact this, (Below.setCell BJ.out (TJ.out.row i (by omega)).1 _).drew⟩ : TabAt (w.heap.size + 1) (wr.setCell ⟨rws i, j, none⟩ (.bool v)).drew g (n + 1) rws (upTo i (j + 1) (W (k + 1)) (W k)) ∧ boxed w (.mk 7 nm []) (.slice (some ⟨kg, ko, none⟩) 1 cap) (wr.setCell ⟨rws i, j, none⟩ (.bool v)).drew))
              obtain ⟨x3, hx3⟩ : ∃ x3, x3 = rws i := ⟨_, rfl⟩
              obtain ⟨x4, hx4⟩ : ∃ x4, x4 = rws k := ⟨_, rfl⟩
              rw [← hx3] at o0 o1 o2 o3 PT
              rw [← hx4] at o4 o5
              clear hx3 hx4 HRD
              cases hx : W k i j with
              | true =>
                rw [hx] at o1
                have PT1 := hid (PT.out true (by rw [hx]; rfl))
                clear hx PT
                go_wp2_with fail
                go_region
                go_wp2
                exact ⟨⟨j + 1, by omega, by go_num, PT1.out.1, PT1.out.2⟩, by simp [intOf]; omega⟩
              | false =>
                rw [hx] at o1
                cases hy : W k i k with
                | true =>
                  rw [hy] at o3
                  obtain ⟨z, hz⟩ : ∃ z, z = W k k j := ⟨_, rfl⟩
                  rw [← hz] at o5
                  have PT1 := hid (PT.out z (by rw [hx, hy, hz]; rfl))
                  clear hx hy hz PT
                  go_wp2_with fail
                  go_region
                  go_wp2
                  exact ⟨⟨j + 1, by omega, by go_num, PT1.out.1, PT1.out.2⟩, by simp [intOf]; omega⟩
                | false =>
                  rw [hy] at o3
                  have PT1 := hid (PT.out false (by rw [hx, hy]; rfl))
                  clear hx hy PT
                  go_wp2_with fail
                  go_region
                  go_wp2
                  exact ⟨⟨j + 1, by omega, by go_num, PT1.out.1, PT1.out.2⟩, by simp [intOf]; omega⟩
            · have hjI : ¬ (j : Int) ≤ (n : Int) := by omega
              obtain rfl : j = n + 1 := by omega
              have TN := hid (TJ.out.congr fun a c _ hc => upTo_row (n := n + 1) i (W (k + 1)) (W k) hc)
              go_wp2
              exact ⟨⟨i + 1, by omega, by go_num, TN, BJ⟩, by simp [intOf]; omega⟩
        · have hiI : ¬ (i : Int) ≤ (n : Int) := by omega
          obtain rfl : i = n + 1 := by omega
          have TN := hid (show TabAt (w.heap.size + 1) wr g (n + 1) rws (W (k + 1)) from TI.out.congr fun a c ha _ => upTo_all (n := n + 1) (W (k + 1)) (W k) ha)
          go_wp2
          exact ⟨⟨k + 1, by omega, by go_num, TN, BI⟩, by simp [intOf]; omega⟩
    · have hkI : ¬ (k : Int) ≤ (n : Int) := by omega
      obtain rfl : k = n + 1 := by omega
      have T5 := hid (show TabAt (w.heap.size + 1) wr g (n + 1) rws (warF f0 (n + 1)) by rw [← HW.out]; exact TK.out)
      obtain ⟨c0, c1, c2⟩ := BK.out.cells
      dsimp only [Rx.op, Rx.name] at c0 c1
      go_wp2_with fail
      have HFIN := hid (show SpanPost w r ps (.returned (.slice (some ⟨g, 0, none⟩) (n + 1) cap2)) wr from ⟨warF f0 (n + 1), by rw [HL.out]; have := TabOf.plus1 HOF.out; rw [← HN.out] at this; exact this, g, cap2, rws, by rw [← HN.out], by rw [← HN.out]; exact T5.out.mono (Nat.le_succ _), BK.out.low⟩)
      have BD := hid BK.out
      go_loopw [14] (fun x wr => x = .int .i64 0 ∧ Hid (SpanPost w r ps (.returned (.slice (some ⟨g, 0, none⟩) (n + 1) cap2)) wr) ∧ Hid (boxed w (.mk 7 nm []) (.slice (some ⟨kg, ko, none⟩) 1 cap) wr)) (fun _ _ => 0)
      case atStart => exact ⟨rfl, HFIN, BD⟩
      case round =>
        obtain ⟨rfl, HF, BF⟩ := hrel
        clear c0 c1 c2
        obtain ⟨c0, c1, c2⟩ := BF.out.cells
        dsimp only [Rx.op, Rx.name] at c0 c1
        go_wp2
        exact bodyPost_ret (v := .slice (some ⟨g, 0, none⟩) (n + 1) cap2) (by simp [results, Tryz.results42, go_sem]) rfl HF.out

set_option maxRecDepth 20000 in
set_option maxHeartbeats 4000000 in
theorem spans_opt {r : Rx} {ps : Whos} (hop : r.op = 8) (hm : r.kids.length = 1) (hn : ps.length ≤ 30) (ih : ∀ k ∈ r.kids, SpanC k ps) : SpanC r ps := by
  intro w v vp hS hP
  obtain ⟨k1, hk1⟩ := List.length_eq_one_iff.1 hm
  have HL := hid (show r.L = fun q => q = [] ∨ altL ([k1].map Rx.L) q by rw [r.L_eq, if_neg (by omega), if_neg (by omega), if_neg (by omega), if_neg (by omega), if_pos hop, hk1])
  have HT := hid (fun (W : World) => RTable_any (w := W) (n := ps.length) (by omega))
  have HIH := hid (ih k1 (by rw [hk1]; simp))
  have HP := hid hP
  obtain ⟨ao, cap, rfl, hat⟩ := hS.at
  obtain ⟨po, pc, rfl, -⟩ := hP
  obtain ⟨kg, ko, rfl, hkg, hkc⟩ := hat.resolve_left (fun e => by rw [e] at hk1; cases hk1)
  obtain ⟨u0, un, uc, a0, a1, a2, -, hxs⟩ := hkc 0 k1 (by rw [hk1]; rfl)
  rw [Nat.zero_mul, Nat.add_zero] at a0 a1 a2
  have HXS := hid hxs
  obtain ⟨n, hnn⟩ : ∃ n, n = ps.length := ⟨_, rfl⟩
  have HN := hid hnn
  obtain ⟨nm, hnmE⟩ : ∃ nm, nm = r.name := ⟨_, rfl⟩
  rw [← hnn] at hn HT HP ⊢
  rw [← hnmE, hop, hm]
  have B0 := hid (show boxed w (.mk 8 nm []) (.slice (some ⟨kg, ko, none⟩) 1 cap) (w.alloc (rxo 8 nm (.slice (some ⟨kg, ko, none⟩) 1 cap))) from boxed.start _ _ _)
  clear hS hat hnn hnmE hop ih hk1 hm hkc hxs
  go_enter Tryz.func42, Tryz.ntmps42
  go_wp2_with fail
  refine (HT.out _).mono ?_
  rintro en w1 ⟨g1, cap1, rws1, rfl, T1, L1⟩
  have B1 := hid (B0.out.on L1.out)
  obtain ⟨c0, c1, c2⟩ := B1.out.cells
  dsimp only [Rx.op, Rx.name] at c0 c1
  have LW := hid B1.out.low
  have q0 := (LW.out.cell (p := ⟨kg, ko, none⟩) (by exact hkg)).trans a0
  have q1 := (LW.out.cell (p := ⟨kg, ko + 1, none⟩) (by exact hkg)).trans a1
  have q2 := (LW.out.cell (p := ⟨kg, ko + 2, none⟩) (by exact hkg)).trans a2
  have HC := hid (HIH.out w1 _ _ (HXS.out.on LW.out) (HP.out.on LW.out))
  unfold SpanPost at HC
  rw [← HN.out] at HC
  clear T1 L1
  go_wp2_with fail
  refine HC.out.mono ?_
  rintro en w2 ⟨f0, OF, g, cap2, rws, rfl, T2a, L2⟩
  have B2 := hid (B1.out.on L2.out)
  have hls : w.heap.size + 1 ≤ w1.heap.size := by have := B1.out.size; simpa using this
  have T2 := hid (T2a.out.mono hls)
  have HOF := hid OF
  clear c0 c1 c2 q0 q1 q2 T2a L2 OF hls
  obtain ⟨c0, c1, c2⟩ := B2.out.cells
  dsimp only [Rx.op, Rx.name] at c0 c1
  go_wp2_with fail
  obtain ⟨f1, hf1⟩ : ∃ f1, f1 = f0 := ⟨_, rfl⟩
  have HF1 := hid hf1
  have TD := hid (show TabAt (w.heap.size + 1) w2 g (n + 1) rws (upTo 0 0 (orF f1 diagF) f1) by rw [upTo_zero, hf1]; exact T2.out)
  have BD := hid B2.out
  clear hf1 c0 c1 c2
  go_loopw [14] (fun x wr => ∃ i : Nat, i ≤ n + 1 ∧ x = .int .i64 i ∧ Hid (TabAt (w.heap.size + 1) wr g (n + 1) rws (upTo i 0 (orF f1 diagF) f1)) ∧ Hid (boxed w (.mk 8 nm []) (.slice (some ⟨kg, ko, none⟩) 1 cap) wr)) (fun x _ => n + 1 - (intOf x).toNat)
  case atStart => exact ⟨0, Nat.zero_le _, rfl, TD, BD⟩
  case round =>
    obtain ⟨i, hi, rfl, TI, BI⟩ := hrel
    obtain ⟨c0, c1, c2⟩ := BI.out.cells
    dsimp only [Rx.op, Rx.name] at c0 c1
    by_cases hlt : i ≤ n
    · have hiI : (i : Int) ≤ (n : Int) := by omega
      have hi0 : (0 : Int) ≤ (i : Int) := by omega
      have hiS : (i : Int) < (n : Int) + 1 := by omega
      have o0 := TI.out.cell i (by omega)
      have o1 := TI.out.at (i := i) (j := i) (by omega) (by omega)
      have o2 := TI.out.free (i := i) (by omega) i
      have PT := hid (show TabAt (w.heap.size + 1) (wr.setCell ⟨rws i, i, none⟩ (.bool true)) g (n + 1) rws (upTo (i + 1) 0 (orF f1 diagF) f1) ∧ boxed w (.mk 8 nm []) (.slice (some ⟨kg, ko, none⟩) 1 cap) (wr.setCell ⟨rws i, i, none⟩ (.bool true)) by
        have := TI.out.put (i := i) (by omega) i true
        rw [orD_put i f1] at this
        exact ⟨this, Below.setCell BI.out (TI.out.row i (by omega)).1 _⟩)
      obtain ⟨x3, hx3⟩ : ∃ x3, x3 = rws i := ⟨_, rfl⟩
      obtain ⟨y0, hy0⟩ : ∃ y0, y0 = upTo i 0 (orF f1 diagF) f1 i i := ⟨_, rfl⟩
      rw [← hx3] at o0 o1 o2 PT
      rw [← hy0] at o1
      clear hx3 hy0
      go_wp2
      exact ⟨⟨i + 1, by omega, by go_num, PT.out.1, PT.out.2⟩, by simp [intOf]; omega⟩
    · have hiI : ¬ (i : Int) ≤ (n : Int) := by omega
      have TF := hid (show TabAt w.heap.size wr g (n + 1) rws (orF f1 diagF) from (TI.out.congr fun a c ha _ => by unfold upTo; rw [if_pos (Or.inl (by omega))]).mono (Nat.le_succ _))
      have HFIN := hid (show SpanPost w r ps (.returned (.slice (some ⟨g, 0, none⟩) (n + 1) cap2)) wr from ⟨orF f1 diagF, by rw [HL.out]; rw [HF1.out]; exact (HOF.out.congr fun q => (altL_one k1.L q).symm).orD, g, cap2, rws, by rw [← HN.out], by rw [← HN.out]; exact TF.out, BI.out.low⟩)
      go_wp2
      exact bodyPost_ret (v := .slice (some ⟨g, 0, none⟩) (n + 1) cap2) (by simp [results, Tryz.results42, go_sem]) rfl HFIN.out
end Go.Proofs.YtnmmfbhmfcabhaaGreatDoor
