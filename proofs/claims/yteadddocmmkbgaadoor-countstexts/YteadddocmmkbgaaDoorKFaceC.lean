/-
  Package counts: Union of any sets.
-/
import Derived.Test.YteadddocmmkbgaaDoorKFaceB
namespace Go.Proofs.YteadddocmmkbgaaDoor.Co
open Go.RowKit Go.Shelf

set_option maxRecDepth 100000 in
set_option maxHeartbeats 1000000 in
theorem Union_any {t : Int} {ao : Option Addr} {l : List Nat} {n cap : Nat} {w : World} (hl : l.length = n) (hN : n ≤ 9223372036854775807) (hin : CsIn w ao l) (h64 : ∀ c ∈ l, c < 18446744073709551616) :
    Calls Tryd.prog 17 #[.int .i64 t, .slice ao n cap] w fun e w' => e = .returned (.tuple #[.int .u64 ((unionP t l).1 : Nat), .int .i64 (unionP t l).2]) ∧ Below w.heap.size w w' := by
  have HC := hid (Check_any (t := t) (cap := cap) hl hN hin h64)
  have HL := hid hl
  have HIN := hid hin
  clear hl hin
  by_cases h0 : chkE t l = 0
  · have HR := hid (show unionP t l = if l = [] then (0, 80) else (orL l, 0) by unfold unionP; rw [if_pos h0])
    have HM := hid (chk_may h0)
    have hr := chk_range h0
    rw [h0] at HC
    obtain ⟨m, rfl⟩ : ∃ m : Nat, t = (m : Int) := ⟨t.toNat, by omega⟩
    have hm : m ≤ 62 := by omega
    clear h0 hr
    by_cases hz : n = 0
    · subst hz
      have hl0 : l = [] := List.eq_nil_of_length_eq_zero HL.out
      rw [if_pos hl0] at HR
      clear hl0
      go_enter Tryd.func17, Tryd.ntmps17
      go_wp2_with fail
      refine HC.out.mono ?_
      rintro e w1 ⟨rfl, hb1⟩
      go_wp2
      go_ret2
      exact ⟨by rw [HR.out]; rfl, hb1⟩
    have hl0 : l ≠ [] := fun e => hz (by rw [← HL.out, e]; rfl)
    rw [if_neg hl0] at HR
    clear hl0
    have hz' : ((n : Int) == 0) = false := by simpa using hz
    go_enter Tryd.func17, Tryd.ntmps17
    go_wp2_with fail
    refine HC.out.mono ?_
    rintro e w1 ⟨rfl, hb1⟩
    have HB := hid hb1
    clear hb1
    go_wp2_with fail
    go_loopw [21, 7] (fun i c wr => ∃ j : Nat, j ≤ n ∧ i = .int .i64 (j : Int) ∧ c = .int .u64 ((orL (l.take j) : Nat) : Int) ∧ Hid (Below w.heap.size w wr)) (fun i _ _ => n - (intOf i).toNat)
    case atStart => exact ⟨0, Nat.zero_le _, rfl, rfl, HB.out⟩
    case round =>
      obtain ⟨j, hj, rfl, rfl, HJ⟩ := hrel
      by_cases hlt : j < n
      · have hjl : j < l.length := by rw [HL.out]; exact hlt
        obtain ⟨g, o, rfl, hg, hc⟩ : ∃ g o, ao = some ⟨g, o, none⟩ ∧ g < wr.heap.size ∧ wr.cell? ⟨g, o + j, none⟩ = some (.int .u64 ((l.getD j 0 : Nat) : Int)) := by
          rcases HIN.out.below HJ.out with h | ⟨g, o, e, hg, hc⟩
          · rw [h] at hjl; simp at hjl
          · exact ⟨g, o, e, hg, hc j hjl⟩
        obtain ⟨c, hcv⟩ : ∃ c, l.getD j 0 = c := ⟨_, rfl⟩
        have hcm : l[j]? = some c := by rw [← hcv, List.getD_eq_getElem?_getD, List.getElem?_eq_getElem hjl]; rfl
        rw [hcv] at hc
        have hmay := HM.out c (List.mem_of_getElem? hcm)
        have HTK := hid (show l.take (j + 1) = l.take j ++ [c] by rw [List.take_add_one, hcm]; rfl)
        have HLT := hid (or_lt (t := m) (l := l.take j) (fun c hc => may_lt (HM.out c (List.mem_of_mem_take hc))))
        have HS := hid (u64_or_nat _ _ (two_64 HLT.out hm) (two_64 (may_lt hmay) hm))
        obtain ⟨C, hC⟩ : ∃ C, C = orL (l.take j) := ⟨_, rfl⟩
        rw [← hC] at HS
        rw [← hC]
        have HCq := hid hC
        have hkI : (j : Int) < (n : Int) := by omega
        have hk0 : (0 : Int) ≤ (j : Int) := by omega
        have hjN : (j : Int) < 9223372036854775807 := by omega
        clear hcm hjl hcv hC
        go_wp2
        go_roundw
        case rel =>
          refine ⟨j + 1, by omega, by simp, ?_, HJ.out⟩
          rw [HTK.out, orL_snoc, ← HCq.out, HS.out]
        case measure => simp [intOf]; omega
      · have hje : j = n := by omega
        have hkI : ¬ (j : Int) < (n : Int) := by omega
        have HT := hid (show l.take j = l by rw [hje, ← HL.out]; exact List.take_length)
        clear hje
        go_wp2
        go_ret2
        refine ⟨?_, HJ.out⟩
        rw [HR.out, HT.out]
        rfl
  · have h0' : (chkE t l == 0) = false := by simpa using h0
    have HR := hid (show unionP t l = (0, chkE t l) by unfold unionP; rw [if_neg h0])
    obtain ⟨q, hq⟩ : ∃ q, q = chkE t l := ⟨_, rfl⟩
    rw [← hq] at HR HC h0'
    clear hq h0
    go_enter Tryd.func17, Tryd.ntmps17
    go_wp2_with fail
    refine HC.out.mono ?_
    rintro e w1 ⟨rfl, hb1⟩
    have HB := hid hb1
    clear hb1
    go_wp2
    go_ret2
    exact ⟨by rw [HR.out]; rfl, HB.out⟩
end Go.Proofs.YteadddocmmkbgaaDoor.Co
