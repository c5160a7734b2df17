/-
  Counts: the document's own calls: Bound, In, one, may, Check.
-/
import Derived.Test.YteadddocmmkbgaaDoorKFaceB
namespace Go.Proofs.YteadddocmmkbgaaDoor.Co
open Go.RowKit Go.Shelf

theorem CsIn.at {w : World} {ao : Option Addr} {l : List Nat} {n j : Nat} (h : CsIn w ao l) (hl : l.length = n) (hj : j < n) :
    ∃ g o c, ao = some ⟨g, o, none⟩ ∧ g < w.heap.size ∧ w.cell? ⟨g, o + j, none⟩ = some (.int .u64 (c : Nat)) ∧ Hid (l[j]? = some c ∧ l.take (j + 1) = l.take j ++ [c] ∧ c ∈ l) := by
  have hjl : j < l.length := by rw [hl]; exact hj
  have e : l[j]? = some (l.getD j 0) := by rw [List.getD_eq_getElem?_getD, List.getElem?_eq_getElem hjl]; rfl
  rcases h with h | ⟨g, o, ea, hg, hc⟩
  · rw [h] at hjl; simp at hjl
  · exact ⟨g, o, _, ea, hg, hc j hjl, e, by rw [List.take_add_one, e]; rfl, List.mem_of_getElem? e⟩
theorem IsIn.at {w : World} {ao : Option Addr} {l : List Int} {n j : Nat} (h : IsIn w ao l) (hl : l.length = n) (hj : j < n) :
    ∃ g o c, ao = some ⟨g, o, none⟩ ∧ g < w.heap.size ∧ w.cell? ⟨g, o + j, none⟩ = some (.int .i64 c) ∧ Hid (l[j]? = some c ∧ l.take (j + 1) = l.take j ++ [c] ∧ c ∈ l) := by
  have hjl : j < l.length := by rw [hl]; exact hj
  have e : l[j]? = some (l.getD j 0) := by rw [List.getD_eq_getElem?_getD, List.getElem?_eq_getElem hjl]; rfl
  rcases h with h | ⟨g, o, ea, hg, hc⟩
  · rw [h] at hjl; simp at hjl
  · exact ⟨g, o, _, ea, hg, hc j hjl, e, by rw [List.take_add_one, e]; rfl, List.mem_of_getElem? e⟩
theorem has_bit (x j : Nat) (hx : x < 18446744073709551616) : (bits .and .u64 ((x : Int) / 2 ^ j) 1 == 1) = x.testBit j := by
  have e : ((x : Int) / 2 ^ j) = ((x / 2 ^ j : Nat) : Int) := by simp
  rw [e]
  have := u64_and_nat (x / 2 ^ j) 1 (Nat.lt_of_le_of_lt (Nat.div_le_self _ _) hx) (by omega)
  rw [show (1 : Int) = ((1 : Nat) : Int) from rfl, this, nat_mask1, Nat.testBit_eq_decide_div_mod_eq]
  rw [Bool.eq_iff_iff]
  simp only [beq_iff_eq, decide_eq_true_eq]
  omega
theorem RBound_any (t : Int) (w : World) : Calls Tryd.prog 31 #[.int .i64 t] w fun e w' => e = .returned (.bool (decide (0 ≤ t ∧ t ≤ 62))) ∧ w' = w := by
  by_cases h1 : 0 ≤ t
  · have e : decide (0 ≤ t ∧ t ≤ 62) = decide (t ≤ 62) := by simp [h1]
    rw [e]
    go_enter Tryd.func31, Tryd.ntmps31
    go_wp2
    go_ret
    exact ⟨rfl, rfl⟩
  · have e : decide (0 ≤ t ∧ t ≤ 62) = false := by simp [h1]
    rw [e]
    go_enter Tryd.func31, Tryd.ntmps31
    go_wp2
    go_ret
    exact ⟨rfl, rfl⟩
theorem RIn_any {c i : Nat} (hi : i < 64) (hc : c < 18446744073709551616) (w : World) : Calls Tryd.prog 34 #[.int .u64 (c : Int), .int .i64 (i : Int)] w fun e w' => e = .returned (.bool (c.testBit i)) ∧ w' = w := by
  go_enter Tryd.func34, Tryd.ntmps34
  go_wp2
  go_ret
  refine ⟨?_, rfl⟩
  rw [← has_bit c i hc]
  rfl
theorem Rone_any {i : Nat} (hi : i < 64) (w : World) : Calls Tryd.prog 32 #[.int .i64 (i : Int)] w fun e w' => e = .returned (.int .u64 ((2 ^ i : Nat) : Int)) ∧ w' = w := by
  go_enter Tryd.func32, Tryd.ntmps32
  go_wp2
  go_ret
  refine ⟨?_, rfl⟩
  rw [← pow_mod hi, ← wrap_pow]
  rfl
set_option maxRecDepth 100000 in
set_option maxHeartbeats 1000000 in
theorem Rmay_any {t c : Nat} (ht : t ≤ 62) (hc : c < 18446744073709551616) (w : World) : Calls Tryd.prog 38 #[.int .i64 (t : Int), .int .u64 (c : Int)] w fun e w' => e = .returned (.bool (mayB t c)) ∧ w' = w := by
  have HI := hid (fun (i : Nat) (hi : i < 64) w' => RIn_any (c := c) hi hc w')
  go_enter Tryd.func38, Tryd.ntmps38
  go_wp2_with fail
  go_loopw [5] (fun i wr => ∃ j : Nat, t + 2 ≤ j ∧ j ≤ 64 ∧ i = .int .i64 (j : Int) ∧ wr = w ∧ Hid (∀ k, t + 2 ≤ k → k < j → c.testBit k = false)) (fun i _ => 64 - (intOf i).toNat)
  case atStart => exact ⟨t + 2, by omega, by omega, by simp, rfl, fun k h1 h2 => by omega⟩
  case round =>
    obtain ⟨j, hj, hj2, rfl, hwr, HJ⟩ := hrel
    subst hwr
    by_cases hlt : j < 64
    · have HIj := hid (HI.out j hlt wr)
      have hkI : (j : Int) < 64 := by omega
      rcases bool_two (c.testBit j) with hb | hb
      · rw [hb] at HIj
        go_wp2_with fail
        refine HIj.out.mono ?_
        rintro e w' ⟨rfl, e'⟩
        have ew := e'.symm
        clear e'
        subst ew
        go_wp2
        go_roundw
        case rel => exact ⟨j + 1, by omega, by omega, by simp, trivial, fun k h1 h2 => by
          by_cases e : k = j
          · rw [e]; exact hb
          · exact HJ.out k h1 (by omega)⟩
        case measure => simp [intOf]; omega
      · rw [hb] at HIj
        go_wp2_with fail
        refine HIj.out.mono ?_
        rintro e w' ⟨rfl, e'⟩
        have ew := e'.symm
        clear e'
        subst ew
        go_wp2
        go_ret
        refine ⟨?_, rfl⟩
        have : mayB t c = false := by
          cases hm : mayB t c with
          | false => rfl
          | true => have := bit_lt (may_lt hm) hb; omega
        rw [this]
        rfl
    · have hje : j = 64 := by omega
      have HM := hid (show mayB t c = (c != 0) by
        subst hje
        have : c < 2 ^ (t + 2) := lt_of_bits fun k hk => by
          by_cases h : k < 64
          · exact HJ.out k hk h
          · cases hb : c.testBit k with
            | false => rfl
            | true =>
              have e : (2 : Nat) ^ 64 = 18446744073709551616 := by decide
              have := bit_lt (t := 62) (by rw [e]; exact hc) hb
              omega
        simp [mayB, this])
      subst hje
      go_wp2
      go_ret
      refine ⟨?_, rfl⟩
      rw [HM.out]
      show Ending.returned (Value.bool ((c : Int) != 0)) = _
      congr 2
      rw [Bool.eq_iff_iff]
      simp
set_option maxRecDepth 100000 in
set_option maxHeartbeats 1000000 in
theorem RCheck_any {t : Int} {ao : Option Addr} {l : List Nat} {n cap : Nat} {w : World} (hl : l.length = n) (hN : n ≤ 9223372036854775807) (hin : CsIn w ao l) (h64 : ∀ c ∈ l, c < 18446744073709551616) :
    Calls Tryd.prog 20 #[.int .i64 t, .slice ao n cap] w fun e w' => e = .returned (.int .i64 (chkE t l)) ∧ w' = w := by
  have HL := hid hl
  have HIN := hid hin
  have HBd := hid (RBound_any t w)
  clear hl hin
  by_cases h0 : 0 ≤ t ∧ t ≤ 62
  · rw [decide_eq_true h0] at HBd
    obtain ⟨m, rfl⟩ : ∃ m : Nat, t = (m : Int) := ⟨t.toNat, by omega⟩
    have hm : m ≤ 62 := by omega
    have HR := hid (show chkE (m : Int) l = if l.all (mayB m) then 0 else 80 by unfold chkE; rw [if_neg (by omega)]; rfl)
    clear h0
    go_enter Tryd.func20, Tryd.ntmps20
    go_wp2_with fail
    refine HBd.out.mono ?_
    rintro e w' ⟨rfl, e'⟩
    have ew := e'.symm
    clear e'
    subst ew
    go_wp2_with fail
    go_loopw [5] (fun i wr => ∃ j : Nat, j ≤ n ∧ i = .int .i64 (j : Int) ∧ wr = w ∧ Hid (∀ c ∈ l.take j, mayB m c = true)) (fun i _ => n - (intOf i).toNat)
    case atStart => exact ⟨0, Nat.zero_le _, rfl, rfl, fun c hc => by simp at hc⟩
    case round =>
      obtain ⟨j, hj, rfl, hwr, HJ⟩ := hrel
      subst hwr
      by_cases hlt : j < n
      · obtain ⟨g, o, c, rfl, hg, hc, HCX⟩ := HIN.out.at HL.out hlt
        have HY := hid (Rmay_any hm (h64 c HCX.out.2.2) wr)
        have hkI : (j : Int) < (n : Int) := by omega
        have hk0 : (0 : Int) ≤ (j : Int) := by omega
        have hjN : (j : Int) < 9223372036854775807 := by omega
        rcases bool_two (mayB m c) with hd | hd
        · rw [hd] at HY
          go_wp2_with fail
          refine HY.out.mono ?_
          rintro e w' ⟨rfl, e'⟩
          have ew := e'.symm
          clear e'
          subst ew
          go_wp2
          go_ret
          refine ⟨?_, rfl⟩
          rw [HR.out, if_neg (by
            intro h
            have := List.all_eq_true.1 h c HCX.out.2.2
            rw [hd] at this
            cases this)]
          rfl
        · rw [hd] at HY
          go_wp2_with fail
          refine HY.out.mono ?_
          rintro e w' ⟨rfl, e'⟩
          have ew := e'.symm
          clear e'
          subst ew
          go_wp2
          go_roundw
          case rel => exact ⟨j + 1, by omega, by simp, trivial, fun x hx => by
            rw [HCX.out.2.1] at hx
            rcases List.mem_append.1 hx with hx | hx
            · exact HJ.out x hx
            · rw [List.mem_singleton.1 hx]; exact hd⟩
          case measure => simp [intOf]; omega
      · have hje : j = n := by omega
        have hkI : ¬ (j : Int) < (n : Int) := by omega
        have HT := hid (show l.take j = l by rw [hje, ← HL.out]; exact List.take_length)
        clear hje
        go_wp2
        go_ret
        refine ⟨?_, rfl⟩
        rw [HR.out, if_pos (List.all_eq_true.2 (by have := HJ.out; rw [HT.out] at this; exact this))]
        rfl
  · rw [decide_eq_false h0] at HBd
    have HR := hid (show chkE t l = 1 by unfold chkE; rw [if_pos (by omega)])
    clear h0
    go_enter Tryd.func20, Tryd.ntmps20
    go_wp2_with fail
    refine HBd.out.mono ?_
    rintro e w' ⟨rfl, e'⟩
    have ew := e'.symm
    clear e'
    subst ew
    go_wp2
    go_ret
    exact ⟨by rw [HR.out]; rfl, rfl⟩
end Go.Proofs.YteadddocmmkbgaaDoor.Co
