/-
  Package counts: Check of any sets.
-/
import Derived.Test.YteadddocmmkbgaaDoorKRound
import Derived.Deep.RegionHeld2
namespace Go.Proofs.YteadddocmmkbgaaDoor.Co
open Go.RowKit Go.Shelf

/-- A slice of sets in memory. -/
def CsIn (w : World) (ao : Option Addr) (l : List Nat) : Prop := l = [] ∨ ∃ g o, ao = some ⟨g, o, none⟩ ∧ g < w.heap.size ∧ ∀ j, j < l.length → w.cell? ⟨g, o + j, none⟩ = some (.int .u64 ((l.getD j 0 : Nat) : Int))
theorem CsIn.below {w w' : World} {ao : Option Addr} {l : List Nat} (h : CsIn w ao l) (hb : Below w.heap.size w w') : CsIn w' ao l := by
  rcases h with h | ⟨g, o, e, hg, hc⟩
  · exact Or.inl h
  · exact Or.inr ⟨g, o, e, Nat.lt_of_lt_of_le hg hb.size, fun j hj => (hb.cell (p := ⟨g, o + j, none⟩) hg).trans (hc j hj)⟩
/-- Check's number. -/
def chkE (t : Int) (l : List Nat) : Int := if t < 0 ∨ 62 < t then 1 else if l.all (mayB t.toNat) then 0 else 80
theorem not_bits (c t : Nat) (hc : c < 18446744073709551616) (ht : t ≤ 62) : (bits .andNot .u64 (c : Int) ((2 ^ (t + 2) - 1 : Nat) : Int) != 0) = !decide (c < 2 ^ (t + 2)) := by
  have hp : 2 ^ (t + 2) ≤ 2 ^ 64 := Nat.pow_le_pow_right (by omega) (by omega)
  have e64 : (2 : Nat) ^ 64 = 18446744073709551616 := by decide
  have h0 : 0 < 2 ^ (t + 2) := Nat.pow_pos (by omega)
  rw [u64_andNot_nat _ _ hc (by omega)]
  have eM : 18446744073709551615 - (2 ^ (t + 2) - 1) = 2 ^ 64 - ((2 ^ (t + 2) - 1) + 1) := by rw [e64]; omega
  rw [eM]
  have hbit : ∀ k, (c &&& 2 ^ 64 - ((2 ^ (t + 2) - 1) + 1)).testBit k = (c.testBit k && (decide (k < 64) && !decide (k < t + 2))) := by
    intro k
    rw [Nat.testBit_and, Nat.testBit_two_pow_sub_succ (by omega), Nat.testBit_two_pow_sub_one]
  by_cases hd : c < 2 ^ (t + 2)
  · have : c &&& 2 ^ 64 - ((2 ^ (t + 2) - 1) + 1) = 0 := Nat.eq_of_testBit_eq fun k => by
      rw [hbit, Nat.zero_testBit]
      cases hk : c.testBit k with
      | false => rfl
      | true => simp [bit_lt hd hk]
    rw [this]
    simp [hd]
  · have : c &&& 2 ^ 64 - ((2 ^ (t + 2) - 1) + 1) ≠ 0 := by
      intro h0
      refine hd (lt_of_bits fun k hk => ?_)
      cases hb : c.testBit k with
      | false => rfl
      | true =>
        have h1 := hbit k
        rw [h0, Nat.zero_testBit, hb] at h1
        have h64 : k < 64 := bit_lt (t := 62) (by rw [e64]; exact hc) hb
        have : ¬ k < t + 2 := by omega
        simp [h64, this] at h1
    simp only [hd, decide_false, Bool.not_false, bne_iff_ne, ne_eq]
    omega
set_option maxRecDepth 100000 in
set_option maxHeartbeats 1000000 in
theorem Check_any {t : Int} {ao : Option Addr} {l : List Nat} {n cap : Nat} {w : World} (hl : l.length = n) (hN : n ≤ 9223372036854775807) (hin : CsIn w ao l) (h64 : ∀ c ∈ l, c < 18446744073709551616) :
    Calls Tryd.prog 19 #[.int .i64 t, .slice ao n cap] w fun e w' => e = .returned (.int .i64 (chkE t l)) ∧ Below w.heap.size w w' := by
  have HL := hid hl
  have HIN := hid hin
  clear hl hin
  by_cases h1 : t < 0
  · have HR := hid (show chkE t l = 1 by unfold chkE; rw [if_pos (Or.inl h1)])
    go_enter Tryd.func19, Tryd.ntmps19
    go_wp2
    go_ret
    exact ⟨by rw [HR.out]; rfl, Below.refl _ _⟩
  by_cases h2 : 62 < t
  · have HR := hid (show chkE t l = 1 by unfold chkE; rw [if_pos (Or.inr h2)])
    go_enter Tryd.func19, Tryd.ntmps19
    go_wp2
    go_ret
    exact ⟨by rw [HR.out]; rfl, Below.refl _ _⟩
  obtain ⟨m, rfl⟩ : ∃ m : Nat, t = (m : Int) := ⟨t.toNat, by omega⟩
  have hm : m ≤ 62 := by omega
  have HA := hid (fun w' => all_any hm w')
  have HR := hid (show chkE (m : Int) l = if l.all (mayB m) then 0 else 80 by unfold chkE; rw [if_neg (by omega)]; rfl)
  have hn0 : (0 : Int) ≤ (m : Int) := by omega
  clear h1
  go_enter Tryd.func19, Tryd.ntmps19
  go_wp2_with fail
  go_loopw [15] (fun i wr => ∃ j : Nat, j ≤ n ∧ i = .int .i64 (j : Int) ∧ wr = w ∧ Hid (∀ c ∈ l.take j, mayB m c = true)) (fun i _ => n - (intOf i).toNat)
  case atStart => exact ⟨0, Nat.zero_le _, rfl, rfl, fun c hc => by simp at hc⟩
  case round =>
    obtain ⟨j, hj, rfl, hwr, HJ⟩ := hrel
    subst hwr
    by_cases hlt : j < n
    · have hjl : j < l.length := by rw [HL.out]; exact hlt
      obtain ⟨g, o, rfl, hg, hc⟩ : ∃ g o, ao = some ⟨g, o, none⟩ ∧ g < wr.heap.size ∧ wr.cell? ⟨g, o + j, none⟩ = some (.int .u64 ((l.getD j 0 : Nat) : Int)) := by
        rcases HIN.out with h | ⟨g, o, e, hg, hc⟩
        · rw [h] at hjl; simp at hjl
        · exact ⟨g, o, e, hg, hc j hjl⟩
      obtain ⟨c, hcv⟩ : ∃ c, l.getD j 0 = c := ⟨_, rfl⟩
      have hcm : l[j]? = some c := by rw [← hcv, List.getD_eq_getElem?_getD, List.getElem?_eq_getElem hjl]; rfl
      rw [hcv] at hc
      have h64c := h64 c (List.mem_of_getElem? hcm)
      have HTK := hid (show l.take (j + 1) = l.take j ++ [c] by rw [List.take_add_one, hcm]; rfl)
      have HM := hid (List.mem_of_getElem? hcm)
      have hkI : (j : Int) < (n : Int) := by omega
      have hk0 : (0 : Int) ≤ (j : Int) := by omega
      have hjN : (j : Int) < 9223372036854775807 := by omega
      clear hcm hjl hcv
      by_cases hz : c = 0
      · subst hz
        go_wp2
        go_ret
        refine ⟨?_, Below.refl _ _⟩
        rw [HR.out, if_neg (by
          intro h
          have := List.all_eq_true.1 h 0 HM.out
          simp [mayB] at this)]
        rfl
      · have hz' : ((c : Int) == 0) = false := by simpa using hz
        have HN := hid (not_bits c m h64c hm)
        rcases bool_two (decide (c < 2 ^ (m + 2))) with hd | hd
        · rw [hd] at HN
          have hq := HN.out
          go_wp2_with fail
          refine (HA.out _).mono ?_
          rintro e w' ⟨rfl, e'⟩
          have ew := e'.symm
          clear e'
          subst ew
          go_wp2
          go_ret
          refine ⟨?_, Below.refl _ _⟩
          rw [HR.out, if_neg (by
            intro h
            have := List.all_eq_true.1 h c HM.out
            rw [mayB, hd] at this
            simp at this)]
          rfl
        · rw [hd] at HN
          have hq := HN.out
          go_wp2_with fail
          refine (HA.out _).mono ?_
          rintro e w' ⟨rfl, e'⟩
          have ew := e'.symm
          clear e'
          subst ew
          go_wp2
          go_roundw
          case rel => exact ⟨j + 1, by omega, by simp, trivial, fun x hx => by
            rw [HTK.out] at hx
            rcases List.mem_append.1 hx with hx | hx
            · exact HJ.out x hx
            · rw [List.mem_singleton.1 hx, mayB, hd]; simpa using hz⟩
          case measure => simp [intOf]; omega
    · have hje : j = n := by omega
      have hkI : ¬ (j : Int) < (n : Int) := by omega
      have HT := hid (show l.take j = l by rw [hje, ← HL.out]; exact List.take_length)
      clear hje
      go_wp2
      go_ret
      refine ⟨?_, Below.refl _ _⟩
      rw [HR.out, if_pos (List.all_eq_true.2 (by have := HJ.out; rw [HT.out] at this; exact this))]
      rfl
end Go.Proofs.YteadddocmmkbgaaDoor.Co
