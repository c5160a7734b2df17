/-
  A ref that was never told: find, answer, root, Keep.
-/
import Derived.Test.YtffngpdngjfcfaaBNoAns
namespace Go.Proofs.Ytffngpdngjfcfaa
open Go.RowKit Go.Maps

/-- No ref that the table told. -/
structure Bad (s : St) (bad : Int) : Prop where
  not0 : bad ≠ 0
  not1 : bad ≠ 1
  out : bad < (s.first : Int) ∨ (s.first : Int) + (s.roots.length : Int) ≤ bad
  hi : bad ≤ 9223372036854775807

/-- Numbers one behind the other, as a call is handed them. -/
def IntsAt (w : World) (v : Value) (xs : List Int) : Prop := ∃ b cap, v = .slice (some ⟨b, 0, none⟩) xs.length cap ∧ b < w.heap.size ∧ ∀ (i : Nat) (x : Int), xs[i]? = some x → w.cell? ⟨b, i, none⟩ = some (.int .i64 x)
theorem IntsAt.below {w w' : World} {v : Value} {xs : List Int} (h : IntsAt w v xs) (hb : Below w.heap.size w w') : IntsAt w' v xs := by
  obtain ⟨b, cap, hv, hl, hc⟩ := h
  exact ⟨b, cap, hv, Nat.lt_of_lt_of_le hl hb.size, fun i x hi => by rw [hb.cell hl]; exact hc i x hi⟩

/-- A list whose first number that is neither 0 nor 1 is bad. -/
def FirstBad (xs : List Int) (p : Nat) (bad : Int) : Prop := xs.length ≤ 3 ∧ xs[p]? = some bad ∧ ∀ (i : Nat) (x : Int), i < p → xs[i]? = some x → x = 0 ∨ x = 1

set_option maxHeartbeats 4000000 in
theorem find_bad {w : World} {y : Lay} {s : St} (hT : Tab w y s) (v : Value) (xs : List Int) (p : Nat) (bad : Int) (hI : IntsAt w v xs) (hF : FirstBad xs p bad) (hB : Bad s bad) :
    Calls Try.prog 77 #[.pointer (some ⟨y.tb, 0, none⟩), v] w fun e w' => e = .returned (.tuple #[.slice none 0 0, .bool false]) ∧ Below w.heap.size w w' := by
  obtain ⟨b, cap, rfl, hbl, hc⟩ := hI
  obtain ⟨hn3, hp, hpre⟩ := hF
  have HC := keep hc
  have HT := keep hT
  have HP := keep hp
  have HPRE := keep hpre
  have HBAD := keep hB
  have hsl := hT.small
  have hpn : p < xs.length := by
    rcases Nat.lt_or_ge p xs.length with h | h
    · exact h
    · rw [List.getElem?_eq_none h] at hp; cases hp
  obtain ⟨n, hnn⟩ : ∃ n, n = xs.length := ⟨_, rfl⟩
  have HNN := keep hnn
  have ltb := hT.lt y.own_tb
  rw [← hnn] at hn3 hpn ⊢
  have hfs : (s.first : Int) ≤ 1099511627776 := by omega
  have hrl : (s.roots.length : Int) ≤ 1073741824 := by omega
  clear hc hT hnn hp hpre hB hsl
  have hmk := run_zeros n (by omega)
  go_enter Try.func77, Try.ntmps77
  go_wp2
  go_loopw [14] (fun i wr => ∃ k : Nat, k ≤ p ∧ i = .int .i64 k ∧ (∃ cs, wr.heap[w.heap.size]? = some (.cells cs 3 (0, 0)) ∧ cs.size = n) ∧ Below w.heap.size w wr) (fun i _ => n - (intOf i).toNat)
  case atStart => exact ⟨0, Nat.zero_le _, rfl, ⟨zeros n, heap_alloc_new w _, zeros_size n⟩, (Below.refl _ _).alloc (Nat.le_refl _) _⟩
  case round =>
    obtain ⟨k, hk, rfl, ⟨cs, hcs, hsz⟩, hB⟩ := hrel
    have hkI : (k : Int) < (n : Int) := by omega
    have hk0 : (0 : Int) ≤ (k : Int) := by omega
    have hnI : (n : Int) ≤ 3 := by omega
    have HBW := keep hB
    by_cases hlt : k < p
    · obtain ⟨x, hx⟩ : ∃ x, xs[k]? = some x := ⟨xs[k]'(by have := HNN.out; omega), List.getElem?_eq_getElem _⟩
      have hcr : wr.cell? ⟨b, k, none⟩ = some (.int .i64 x) := by rw [hB.cell (by exact hbl)]; exact HC.out k x hx
      have e0 : wr.cell? ⟨w.heap.size, k, none⟩ = some (cs.getD k undef) := by
        rw [cell_at hcs, Array.getElem?_eq_getElem (by omega)]
        simp [Array.getD, show k < cs.size by omega]
      have ez : wr.frozen? ⟨w.heap.size, k, none⟩ = false := not_frozen hcs
      have HSTEP : Hid (∀ m : Int, (∃ cs', (wr.setCell ⟨w.heap.size, k, none⟩ (.int .i64 m)).heap[w.heap.size]? = some (.cells cs' 3 (0, 0)) ∧ cs'.size = n) ∧ Below w.heap.size w (wr.setCell ⟨w.heap.size, k, none⟩ (.int .i64 m))) := by
        intro m
        exact ⟨⟨cs.setIfInBounds k (.int .i64 m), set_block _ hcs, by simpa using hsz⟩, HBW.out.setCell (Nat.le_refl _) _⟩
      rcases HPRE.out k x hlt hx with rfl | rfl
      · clear hcs hx hB
        go_wp2
        go_roundw
        case rel =>
          obtain ⟨h1, h2⟩ := HSTEP.out 0
          exact ⟨k + 1, by omega, by go_num, h1, h2⟩
        case measure => simp [intOf]; omega
      · clear hcs hx hB
        go_wp2
        go_roundw
        case rel =>
          obtain ⟨h1, h2⟩ := HSTEP.out 1
          exact ⟨k + 1, by omega, by go_num, h1, h2⟩
        case measure => simp [intOf]; omega
    · have hkp : k = p := by omega
      subst hkp
      have hcr : wr.cell? ⟨b, k, none⟩ = some (.int .i64 bad) := by rw [hB.cell (by exact hbl)]; exact HC.out k bad HP.out
      obtain ⟨ao, rcap, hrs⟩ := HT.out.roots_slice
      have q0 : wr.cell? ⟨y.tb, 0, none⟩ = some (.int .i64 s.first) := by rw [hB.cell (by exact ltb)]; exact HT.out.cell0
      have q1 : wr.cell? ⟨y.tb, 1, none⟩ = some (.slice ao s.roots.length rcap) := by rw [hB.cell (by exact ltb), ← hrs]; exact HT.out.cell1
      have r0 : (bad == 0) = false := by rw [beq_eq_false_iff_ne]; exact HBAD.out.not0
      have r1 : (bad == 1) = false := by rw [beq_eq_false_iff_ne]; exact HBAD.out.not1
      obtain ⟨rl, hrl0⟩ : ∃ rl, rl = s.roots.length := ⟨_, rfl⟩
      have HRL := keep hrl0
      rw [← hrl0] at q1 hrl
      clear hrl0 hrs hcs hB
      rcases HBAD.out.out with ho | ho
      · have hnf : ¬ ((s.first : Int) ≤ bad) := by omega
        have hnd : decide ((s.first : Int) ≤ bad) = false := by simp; omega
        go_wp2
        go_quiet (fail)
        go_wp2
        go_ret2
        exact ⟨rfl, belowN HBW.out _⟩
      · have hf : (s.first : Int) ≤ bad := by omega
        have hw : IntKind.i64.wrap (bad - (s.first : Int)) = bad - (s.first : Int) := by have := HBAD.out.hi; rw [IntKind.wrap_i64]; omega
        have hw2 : wrap64 (bad - (s.first : Int)) = bad - (s.first : Int) := by have := HBAD.out.hi; unfold wrap64; omega
        have hn1 : ¬ (bad - (s.first : Int) < (rl : Int)) := by have := HRL.out; omega
        have hn2 : ¬ (bad < (rl : Int) + (s.first : Int)) := by omega
        clear ho
        go_wp2
        go_quiet (fail)
        go_wp2
        go_ret2
        exact ⟨rfl, belowN HBW.out _⟩

set_option maxHeartbeats 1000000 in
theorem answer_bad {w : World} {y : Lay} {s : St} (hT : Tab w y s) (v : Value) (xs : List Int) (p : Nat) (bad : Int) (hI : IntsAt w v xs) (hF : FirstBad xs p bad) (hB : Bad s bad) : AnsErr w (.pointer (some ⟨y.tb, 0, none⟩)) v 22 := by
  intro f
  have hb : Below w.heap.size w (((w.alloc (.cells #[.pointer (some ⟨y.tb, 0, none⟩)] 23)).alloc (.cells #[.int .i64 0] 25)).alloc (.cells #[.int .i64 0] 30)) := (((Below.refl _ _).alloc (Nat.le_refl _) _).alloc (by simp) _).alloc (by simp <;> omega) _
  have e1 : (w.alloc (.cells #[.pointer (some ⟨y.tb, 0, none⟩)] 23)).heap.size = w.heap.size + 1 := by simp
  have e2 : ((w.alloc (.cells #[.pointer (some ⟨y.tb, 0, none⟩)] 23)).alloc (.cells #[.int .i64 0] 25)).heap.size = w.heap.size + 1 + 1 := by simp
  have b1 : (((w.alloc (.cells #[.pointer (some ⟨y.tb, 0, none⟩)] 23)).alloc (.cells #[.int .i64 0] 25)).alloc (.cells #[.int .i64 0] 30)).heap[w.heap.size + 1]? = some (.cells #[.int .i64 0] 25 (0, 0)) := by
    rw [heap_alloc_old _ _ (by omega), ← e1]; exact heap_alloc_new _ _
  have b2 : (((w.alloc (.cells #[.pointer (some ⟨y.tb, 0, none⟩)] 23)).alloc (.cells #[.int .i64 0] 25)).alloc (.cells #[.int .i64 0] 30)).heap[w.heap.size + 1 + 1]? = some (.cells #[.int .i64 0] 30 (0, 0)) := by
    rw [← e2]; exact heap_alloc_new _ _
  have Q1 := keep (made_ok (hT.below hb))
  have e3 : (((w.alloc (.cells #[.pointer (some ⟨y.tb, 0, none⟩)] 23)).alloc (.cells #[.int .i64 0] 25)).alloc (.cells #[.int .i64 0] 30)).heap.size = w.heap.size + 1 + 1 + 1 := by simp
  have Q2 : Hid (Calls Try.prog 77 #[.pointer (some ⟨y.tb, 0, none⟩), v] (((w.alloc (.cells #[.pointer (some ⟨y.tb, 0, none⟩)] 23)).alloc (.cells #[.int .i64 0] 25)).alloc (.cells #[.int .i64 0] 30)) fun e w1 => e = .returned (.tuple #[.slice none 0 0, .bool false]) ∧
      w1.cell? ⟨w.heap.size + 1, 0, none⟩ = some (.int .i64 0) ∧ w1.frozen? ⟨w.heap.size + 1, 0, none⟩ = false ∧ w1.cell? ⟨w.heap.size + 1 + 1, 0, none⟩ = some (.int .i64 0) ∧ w1.frozen? ⟨w.heap.size + 1 + 1, 0, none⟩ = false ∧ Hid (Below w.heap.size w w1)) := by
    refine (find_bad (hT.below hb) v xs p bad (hI.below hb) hF hB).mono ?_
    rintro e w1 ⟨rfl, h1⟩
    have c1 : w1.heap[w.heap.size + 1]? = _ := (h1.block _ (by rw [e3]; omega)).trans b1
    have c2 : w1.heap[w.heap.size + 1 + 1]? = _ := (h1.block _ (by rw [e3]; omega)).trans b2
    exact ⟨rfl, by rw [cell_at c1]; rfl, not_frozen c1, by rw [cell_at c2]; rfl, not_frozen c2, hb.trans (h1.mono hb.size)⟩
  clear hT hI hF hB hb e1 e2 e3 b1 b2
  go_enter_defers Try.func45, Try.ntmps45
  go_wp2_with (first | (go_at_call 57; refine Q1.out.mono ?_; rintro e w' ⟨rfl, rfl⟩) | (go_at_call 77; refine Q2.out.mono ?_; rintro e w1 ⟨rfl, c1, f1, c2, f2, HB⟩))
  refine ⟨.tuple #[.int .i64 0, .int .i64 22], ?_, rfl, (HB.out.setCell (by show w.heap.size ≤ w.heap.size + 1; omega) _).setCell (by show w.heap.size ≤ w.heap.size + 1 + 1; omega) _⟩
  simp [results, Try.results45, go_sem, c1, c2]

theorem ints_new (w : World) (xs : List Int) : IntsAt (w.alloc (.cells (xs.map fun x => Value.int .i64 x).toArray 25)) (.slice (some ⟨w.heap.size, 0, none⟩) xs.length xs.length) xs := by
  refine ⟨w.heap.size, xs.length, rfl, by simp, fun i x hi => ?_⟩
  rw [cell_at (heap_alloc_new w _)]
  simp [hi]

set_option maxHeartbeats 1000000 in
theorem root_bad {w : World} {y : Lay} {s : St} (hT : Tab w y s) (bad : Int) (hB : Bad s bad) : RootErr w (.pointer (some ⟨y.tb, 0, none⟩)) (.int .i64 bad) 22 := by
  have q1 := made_ok hT
  have hb : Below w.heap.size w (w.alloc (.cells #[.int .i64 bad] 25)) := (Below.refl _ _).alloc (Nat.le_refl _) _
  have Q2 := keep (find_bad (hT.below hb) (.slice (some ⟨w.heap.size, 0, none⟩) 1 1) [bad] 0 bad (ints_new w [bad]) ⟨by simp, rfl, fun i x hi => by omega⟩ hB)
  have HB := keep hb
  clear hT hB hb
  unfold RootErr
  go_enter Try.func41, Try.ntmps41
  go_wp2_with (go_at_call 57; refine q1.mono ?_; rintro e w' ⟨rfl, rfl⟩)
  refine Q2.out.mono ?_
  rintro e w1 ⟨rfl, h1⟩
  have HB1 := keep (HB.out.trans (h1.mono HB.out.size))
  clear h1 q1
  go_wp2
  go_ret2
  exact ⟨rfl, HB1.out⟩

end Go.Proofs.Ytffngpdngjfcfaa
