/-
  Package counts: Sum, Union of any sets.
-/
import Derived.Test.YteadddocmmkbgaaDoorKFace
namespace Go.Proofs.YteadddocmmkbgaaDoor.Co
open Go.RowKit Go.Shelf

theorem below_tr {w w1 w2 : World} (h : Below w.heap.size w w1) (k : Below w1.heap.size w1 w2) : Below w.heap.size w w2 := h.trans (k.mono h.size)
theorem sum_lt {t : Nat} (l : List Nat) : l.foldl (sumN t) 1 < 2 ^ (t + 2) := by
  rcases List.eq_nil_or_concat l with rfl | ⟨l, x, rfl⟩
  · show 1 < _
    have : 2 ^ 1 ≤ 2 ^ (t + 2) := Nat.pow_le_pow_right (by omega) (by omega)
    omega
  · rw [List.concat_eq_append, List.foldl_append]
    exact sumN_lt _ _ _
theorem or_lt {t : Nat} {l : List Nat} (h : ∀ c ∈ l, c < 2 ^ (t + 2)) : orL l < 2 ^ (t + 2) := by
  have key : ∀ (l : List Nat) (a : Nat), a < 2 ^ (t + 2) → (∀ c ∈ l, c < 2 ^ (t + 2)) → l.foldl (fun a b => a ||| b) a < 2 ^ (t + 2) := by
    intro l
    induction l with
    | nil => intro a ha _; exact ha
    | cons x l ih => intro a ha hl; exact ih _ (Nat.or_lt_two_pow ha (hl x (by simp))) (fun c hc => hl c (by simp [hc]))
  exact key l 0 (Nat.pow_pos (by omega)) h
theorem orL_snoc (l : List Nat) (c : Nat) : orL (l ++ [c]) = orL l ||| c := by unfold orL; rw [List.foldl_append]; rfl

set_option maxRecDepth 100000 in
set_option maxHeartbeats 1000000 in
theorem Sum_any {t : Int} {ao : Option Addr} {l : List Nat} {n cap : Nat} {w : World} (hl : l.length = n) (hN : n ≤ 9223372036854775807) (hin : CsIn w ao l) (h64 : ∀ c ∈ l, c < 18446744073709551616) :
    Calls Tryd.prog 15 #[.int .i64 t, .slice ao n cap] w fun e w' => e = .returned (.tuple #[.int .u64 ((sumP t l).1 : Nat), .int .i64 (sumP t l).2]) ∧ Below w.heap.size w w' := by
  have HC := hid (Check_any (t := t) (cap := cap) hl hN hin h64)
  have HL := hid hl
  have HIN := hid hin
  clear hl hin
  by_cases h0 : chkE t l = 0
  · have HR := hid (show sumP t l = (l.foldl (sumN t.toNat) 1, 0) by unfold sumP; rw [if_pos h0])
    have HM := hid (chk_may h0)
    have hr := chk_range h0
    rw [h0] at HC
    obtain ⟨m, rfl⟩ : ∃ m : Nat, t = (m : Int) := ⟨t.toNat, by omega⟩
    have hm : m ≤ 62 := by omega
    have HA := hid (fun w' => alone_any (i := 0) (by omega) w')
    clear h0 hr
    go_enter Tryd.func15, Tryd.ntmps15
    go_wp2_with fail
    refine HC.out.mono ?_
    rintro e w1 ⟨rfl, hb1⟩
    have HB := hid hb1
    clear hb1
    go_wp2_with fail
    refine (HA.out _).mono ?_
    rintro e w' ⟨rfl, e'⟩
    have ew := e'.symm
    clear e'
    subst ew
    go_wp2_with fail
    go_loopw [19, 7] (fun i c wr => ∃ j : Nat, j ≤ n ∧ i = .int .i64 (j : Int) ∧ c = .int .u64 (((l.take j).foldl (sumN m) 1 : Nat) : Int) ∧ Hid (Below w.heap.size w wr)) (fun i _ _ => n - (intOf i).toNat)
    case atStart => exact ⟨0, Nat.zero_le _, rfl, rfl, HB.out⟩
    case round =>
      obtain ⟨j, hj, rfl, rfl, HJ⟩ := hrel
      by_cases hlt : j < n
      · have hjl : j < l.length := by rw [HL.out]; exact hlt
        obtain ⟨g, o, rfl, hg, hc⟩ : ∃ g o, ao = some ⟨g, o, none⟩ ∧ g < wr.heap.size ∧ wr.cell? ⟨g, o + j, none⟩ = some (.int .u64 ((l.getD j 0 : Nat) : Int)) := by
          rcases HIN.out.below HJ.out with h | ⟨g, o, e, hg, hc⟩
          · rw [h] at hjl; simp at hjl
          · exact ⟨g, o, e, hg, hc j hjl⟩
        obtain ⟨c, hcv⟩ : ∃ c, l.getD j 0 = c := ⟨_, rfl⟩
        have hcm : l[j]? = some c := by rw [← hcv, List.getD_eq_getElem?_getD, List.getElem?_eq_getElem hjl]; rfl
        rw [hcv] at hc
        have hmay := HM.out c (List.mem_of_getElem? hcm)
        have HTK := hid (show l.take (j + 1) = l.take j ++ [c] by rw [List.take_add_one, hcm]; rfl)
        have HS := hid (sums_any (t := m) (a := (l.take j).foldl (sumN m) 1) (b := c) hm (sum_lt _) (may_lt hmay) wr)
        obtain ⟨C, hC⟩ : ∃ C, C = (l.take j).foldl (sumN m) 1 := ⟨_, rfl⟩
        rw [← hC] at HS
        rw [← hC]
        have HCq := hid hC
        have hkI : (j : Int) < (n : Int) := by omega
        have hk0 : (0 : Int) ≤ (j : Int) := by omega
        have hjN : (j : Int) < 9223372036854775807 := by omega
        clear hcm hjl hcv hC
        go_wp2_with fail
        refine HS.out.mono ?_
        rintro e w2 ⟨rfl, hb2⟩
        have HB2 := hid (below_tr HJ.out hb2)
        clear hb2
        go_wp2
        go_roundw
        case rel =>
          refine ⟨j + 1, by omega, by simp, ?_, HB2.out⟩
          rw [HTK.out, List.foldl_append, ← HCq.out]
          rfl
        case measure => simp [intOf]; omega
      · have hje : j = n := by omega
        have hkI : ¬ (j : Int) < (n : Int) := by omega
        have HT := hid (show l.take j = l by rw [hje, ← HL.out]; exact List.take_length)
        clear hje
        go_wp2
        go_ret2
        refine ⟨?_, HJ.out⟩
        rw [HR.out, HT.out]
        rfl
  · have h0' : (chkE t l == 0) = false := by simpa using h0
    have HR := hid (show sumP t l = (0, chkE t l) by unfold sumP; rw [if_neg h0])
    obtain ⟨q, hq⟩ : ∃ q, q = chkE t l := ⟨_, rfl⟩
    rw [← hq] at HR HC h0'
    clear hq h0
    go_enter Tryd.func15, Tryd.ntmps15
    go_wp2_with fail
    refine HC.out.mono ?_
    rintro e w1 ⟨rfl, hb1⟩
    have HB := hid hb1
    clear hb1
    go_wp2
    go_ret2
    exact ⟨by rw [HR.out]; rfl, HB.out⟩
end Go.Proofs.YteadddocmmkbgaaDoor.Co
