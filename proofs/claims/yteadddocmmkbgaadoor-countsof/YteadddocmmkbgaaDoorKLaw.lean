/-
  Counts: the laws' walks: Of, Sums, Holds.
-/
import Derived.Test.YteadddocmmkbgaaDoorKAwake
import Derived.Test.YteadddocmmkbgaaDoorKRefC
namespace Go.Proofs.YteadddocmmkbgaaDoor.Co
open Go.RowKit Go.Shelf

set_option maxRecDepth 100000 in
set_option maxHeartbeats 1000000 in
theorem ints_any {w : World} {a b : Option Addr} {ca cb n : Nat} {l : List Int} (hl : l.length = n) (hn : n ≤ 64) (ha : IsIn w a l) (hb : IsIn w b l) :
    Calls Tryd.prog 13 #[.slice a n ca, .slice b n cb] w fun e w' => e = .returned (.bool true) ∧ Below w.heap.size w w' := by
  have HL := hid hl
  have HA := hid ha
  have HB := hid hb
  clear hl ha hb
  go_enter Tryd.func13, Tryd.ntmps13
  go_wp2_with fail
  go_loopw [5] (fun i wr => ∃ j : Nat, j ≤ n ∧ i = .int .i64 (j : Int) ∧ Hid (Below w.heap.size w wr)) (fun i _ => n - (intOf i).toNat)
  case atStart => exact ⟨0, Nat.zero_le _, rfl, Below.refl _ _⟩
  case round =>
    obtain ⟨j, hj, rfl, HJ⟩ := hrel
    by_cases hlt : j < n
    · obtain ⟨g, o, x, rfl, hg, hc, HCX⟩ := (HA.out.below HJ.out).at HL.out hlt
      obtain ⟨g', o', y, rfl, hg', hc', HCY⟩ := (HB.out.below HJ.out).at HL.out hlt
      have hxy : x = y := by
        have := HCX.out.1.symm.trans HCY.out.1
        injection this
      subst hxy
      have hkI : (j : Int) < (n : Int) := by omega
      have hk0 : (0 : Int) ≤ (j : Int) := by omega
      go_wp2_with fail
      go_quiet (fail)
      go_wp2
      go_roundw
      case rel => exact ⟨j + 1, by omega, by simp, HJ.out.trans ⟨rfl, rfl, rfl, Nat.le_refl _, fun _ _ => rfl⟩⟩
      case measure => simp [intOf]; omega
    · have hkI : ¬ (j : Int) < (n : Int) := by omega
      go_wp2
      go_ret
      exact ⟨rfl, HJ.out⟩

set_option maxRecDepth 100000 in
set_option maxHeartbeats 2000000 in
theorem kof_any {t : Int} {ao : Option Addr} {l : List Int} {n cap c : Nat} {w : World} (hl : l.length = n) (hN : n ≤ 9223372036854775807) (hin : IsIn w ao l) (h64 : ∀ x ∈ l, x < 9223372036854775808) (hc : c < 18446744073709551616) (hP : PowTab w) :
    Calls Tryd.prog 3 #[.int .i64 t, .slice ao n cap, .int .u64 (c : Int)] w fun e w' => e = .returned (.bool true) ∧ Below w.heap.size w w' := by
  have HP := hid hP
  have HA := hid (Of_any (t := t) (cap := cap) hl hN hin h64)
  have HB := hid (fun w' (hb : Below w.heap.size w w') => ROf_any (t := t) (cap := cap) hl hN (hin.below hb) h64)
  have HX := hid (fun w' => List_any (t := t) (c := c) (w := w') hc)
  have HY := hid (fun w' => RList_any (t := t) (c := c) (w := w') hc)
  have HLL := hid (show (listP t c).1.length ≤ 64 by
    unfold listP
    split
    · rename_i h0
      have := chk_range h0
      have e : els t.toNat c = upTo c (t.toNat + 2) := rfl
      have h1 := upTo_len c (t.toNat + 2)
      simp only [List.length_map]
      rw [e]
      omega
    · simp)
  obtain ⟨⟨p1, p2⟩, hp⟩ : ∃ p, p = ofP t l := ⟨_, rfl⟩
  obtain ⟨⟨q1, q2⟩, hq⟩ : ∃ q, q = listP t c := ⟨_, rfl⟩
  rw [← hp] at HA HB
  rw [← hq] at HX HY HLL
  clear hp hq hP hin h64 hl
  simp only at HA HB HX HY HLL
  go_enter Tryd.func3, Tryd.ntmps3
  go_wp2_with fail
  refine HA.out.mono ?_
  rintro e w1 ⟨rfl, hb1⟩
  have B1 := hid hb1
  clear hb1
  go_wp2_with fail
  refine (HB.out _ B1.out).mono ?_
  rintro e w2 ⟨rfl, hb2⟩
  have B2 := hid (below_tr B1.out hb2)
  clear hb2
  go_wp2_with fail
  refine (HX.out _).mono ?_
  rintro e w3 ⟨v, rfl, hv, hb3⟩
  have B3 := hid (below_tr B2.out hb3)
  obtain ⟨xa, xc, rfl, hx⟩ := hv
  have HXI := hid hx
  clear hb3 hx
  go_wp2_with fail
  refine (HY.out _).mono ?_
  rintro e w4 ⟨v, rfl, hv, hb4⟩
  have B4 := hid (below_tr B3.out hb4)
  obtain ⟨ya, yc, rfl, hy⟩ := hv
  have HI := hid (ints_any (ca := xc) (cb := yc) rfl HLL.out (HXI.out.below hb4) hy)
  clear hb4 hy
  go_wp2_with fail
  refine HI.out.mono ?_
  rintro e w5 ⟨rfl, hb5⟩
  have B5 := hid (below_tr B4.out hb5)
  have HK := hid (kawake (HP.out.below B5.out))
  clear hb5
  go_wp2_with fail
  refine HK.out.mono ?_
  rintro e w6 ⟨rfl, hb6⟩
  have B6 := hid (below_tr B5.out hb6)
  clear hb6
  go_wp2
  go_ret
  exact ⟨rfl, B6.out⟩
set_option maxRecDepth 100000 in
set_option maxHeartbeats 2000000 in
theorem ksums_any {t : Int} {ao : Option Addr} {l : List Nat} {n cap : Nat} {w : World} (hl : l.length = n) (hN : n ≤ 9223372036854775807) (hin : CsIn w ao l) (h64 : ∀ c ∈ l, c < 18446744073709551616) (hP : PowTab w) :
    Calls Tryd.prog 4 #[.int .i64 t, .slice ao n cap] w fun e w' => e = .returned (.bool true) ∧ Below w.heap.size w w' := by
  have HP := hid hP
  have HA := hid (Sum_any (t := t) (cap := cap) hl hN hin h64)
  have HB := hid (fun w' (hb : Below w.heap.size w w') => RSum_any (t := t) (cap := cap) hl hN (hin.below hb) h64)
  have HX := hid (fun w' (hb : Below w.heap.size w w') => Union_any (t := t) (cap := cap) hl hN (hin.below hb) h64)
  have HY := hid (fun w' (hb : Below w.heap.size w w') => RUnion_any (t := t) (cap := cap) hl hN (hin.below hb) h64)
  have HC := hid (fun w' (hb : Below w.heap.size w w') => Check_any (t := t) (cap := cap) hl hN (hin.below hb) h64)
  have HD := hid (fun w' (hb : Below w.heap.size w w') => RCheck_any (t := t) (cap := cap) hl hN (hin.below hb) h64)
  obtain ⟨⟨p1, p2⟩, hp⟩ : ∃ p, p = sumP t l := ⟨_, rfl⟩
  obtain ⟨⟨q1, q2⟩, hq⟩ : ∃ q, q = unionP t l := ⟨_, rfl⟩
  obtain ⟨r, hr⟩ : ∃ r, r = chkE t l := ⟨_, rfl⟩
  rw [← hp] at HA HB
  rw [← hq] at HX HY
  rw [← hr] at HC HD
  clear hp hq hr hP hin h64 hl
  simp only at HA HB HX HY
  go_enter Tryd.func4, Tryd.ntmps4
  go_wp2_with fail
  refine HA.out.mono ?_
  rintro e w1 ⟨rfl, hb1⟩
  have B1 := hid hb1
  clear hb1
  go_wp2_with fail
  refine (HB.out _ B1.out).mono ?_
  rintro e w2 ⟨rfl, hb2⟩
  have B2 := hid (below_tr B1.out hb2)
  clear hb2
  go_wp2_with fail
  refine (HX.out _ B2.out).mono ?_
  rintro e w3 ⟨rfl, hb3⟩
  have B3 := hid (below_tr B2.out hb3)
  clear hb3
  go_wp2_with fail
  refine (HY.out _ B3.out).mono ?_
  rintro e w4 ⟨rfl, hb4⟩
  have B4 := hid (below_tr B3.out hb4)
  clear hb4
  go_wp2_with fail
  refine (HC.out _ B4.out).mono ?_
  rintro e w5 ⟨rfl, hb5⟩
  have B5 := hid (below_tr B4.out hb5)
  clear hb5
  go_wp2_with fail
  refine (HD.out _ B5.out).mono ?_
  rintro e w' ⟨rfl, e'⟩
  have ew := e'.symm
  clear e'
  subst ew
  have HK := hid (kawake (HP.out.below B5.out))
  go_wp2_with fail
  refine HK.out.mono ?_
  rintro e w6 ⟨rfl, hb6⟩
  have B6 := hid (below_tr B5.out hb6)
  clear hb6
  go_wp2
  go_ret
  exact ⟨rfl, B6.out⟩

set_option maxRecDepth 100000 in
set_option maxHeartbeats 2000000 in
theorem kholds_any {t k : Int} {c : Nat} {w : World} (h64 : c < 18446744073709551616) (hP : PowTab w) :
    Calls Tryd.prog 5 #[.int .i64 t, .int .i64 k, .int .u64 (c : Int)] w fun e w' => e = .returned (.bool true) ∧ Below w.heap.size w w' := by
  have HP := hid hP
  have HA := hid (fun w' => Holds_any (t := t) (k := k) (w := w') h64)
  have HB := hid (fun w' => RHolds_any (t := t) (k := k) (w := w') h64)
  have HX := hid (fun w' => Breaks_any (t := t) (k := k) (w := w') h64)
  have HY := hid (fun w' => RBreaks_any (t := t) (k := k) (w := w') h64)
  obtain ⟨⟨p1, p2⟩, hp⟩ : ∃ p, p = holdsP t k c := ⟨_, rfl⟩
  obtain ⟨⟨q1, q2, q3⟩, hq⟩ : ∃ q, q = breaksP t k c := ⟨_, rfl⟩
  rw [← hp] at HA HB
  rw [← hq] at HX HY
  clear hp hq hP
  simp only at HA HB HX HY
  go_enter Tryd.func5, Tryd.ntmps5
  go_wp2_with fail
  refine (HA.out _).mono ?_
  rintro e w1 ⟨rfl, hb1⟩
  have B1 := hid hb1
  clear hb1
  go_wp2_with fail
  refine (HB.out _).mono ?_
  rintro e w2 ⟨rfl, hb2⟩
  have B2 := hid (below_tr B1.out hb2)
  clear hb2
  go_wp2_with fail
  refine (HX.out _).mono ?_
  rintro e w3 ⟨rfl, hb3⟩
  have B3 := hid (below_tr B2.out hb3)
  clear hb3
  go_wp2_with fail
  refine (HY.out _).mono ?_
  rintro e w4 ⟨rfl, hb4⟩
  have B4 := hid (below_tr B3.out hb4)
  clear hb4
  have HK := hid (kawake (HP.out.below B4.out))
  go_wp2_with fail
  refine HK.out.mono ?_
  rintro e w6 ⟨rfl, hb6⟩
  have B6 := hid (below_tr B4.out hb6)
  clear hb6
  go_wp2
  go_ret
  exact ⟨rfl, B6.out⟩
end Go.Proofs.YteadddocmmkbgaaDoor.Co
