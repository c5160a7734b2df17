/-
  Sign, Name, Number: the document's own; the law WordsKinds.
-/
import Derived.Test.YtalmcdhohoplpaaDoorWRefK
namespace Go.Proofs.YtalmcdhohoplpaaDoor
open Go.RowKit

theorem sgn_two (l : List UInt8) : sgn l = (dblL l || (decide (l.length = 1) && Wo.sgl (l.headD 0).toNat)) := by
  rw [dblL_two]
  match l with
  | [] => rfl
  | [a] => simp [sgn]
  | [a, b] => simp [sgn]
  | a :: b :: c :: t => simp [sgn]

set_option maxHeartbeats 1000000 in
theorem RSign_any (s : ByteArray) (w : World) : Calls Tryd.prog 18 #[.string s] w fun e w' => e = .returned (.bool (sgn s.data.toList)) ∧ w' = w := by
  have HG := hid (sgn_two s.data.toList)
  rcases bool_two (dblL s.data.toList) with h | h
  · have q : ∀ w, Calls Tryd.prog 28 #[.string s] w fun e w' => e = .returned (.bool false) ∧ w' = w := fun w => h ▸ double_any s w
    by_cases h1 : s.size = 1
    · have hp : 0 < s.size := by omega
      have HI := hid (show sgn s.data.toList = Wo.sgl (s[0]'hp).toNat by rw [HG.out, h, headD_at s hp, list_size, h1]; simp)
      have hI : ((s.size : Int) == 1) = true := by rw [beq_iff_eq]; omega
      have hI0 : (0 : Int) < (s.size : Int) := by omega
      clear h h1
      go_enter Tryd.func18, Tryd.ntmps18
      go_wp2_with (first | (go_at_call 28; refine (q _).mono ?_; rintro e w' ⟨rfl, rfl⟩) | (go_at_call 29; refine (single_any (s[0]'hp) _).mono ?_; rintro e w' ⟨rfl, rfl⟩))
      go_ret
      exact ⟨ret_bool HI.out.symm, rfl⟩
    · have HI := hid (show sgn s.data.toList = false by rw [HG.out, h, list_size, decide_eq_false h1]; rfl)
      have hI : ((s.size : Int) == 1) = false := by rw [beq_eq_false_iff_ne]; omega
      clear h h1
      go_enter Tryd.func18, Tryd.ntmps18
      go_wp2_with (go_at_call 28; refine (q _).mono ?_; rintro e w' ⟨rfl, rfl⟩)
      go_ret
      exact ⟨ret_bool HI.out.symm, rfl⟩
  · have q : ∀ w, Calls Tryd.prog 28 #[.string s] w fun e w' => e = .returned (.bool true) ∧ w' = w := fun w => h ▸ double_any s w
    have HI := hid (show sgn s.data.toList = true by rw [HG.out, h]; rfl)
    clear h
    go_enter Tryd.func18, Tryd.ntmps18
    go_wp2_with (go_at_call 28; refine (q _).mono ?_; rintro e w' ⟨rfl, rfl⟩)
    go_ret
    exact ⟨ret_bool HI.out.symm, rfl⟩

set_option maxHeartbeats 2000000 in
theorem RName_any (s : ByteArray) (w : World) (hs : s.size ≤ maxLen) : Calls Tryd.prog 16 #[.string s] w fun e w' => e = .returned (.bool (Wo.nameB s.data.toList)) ∧ w' = w := by
  unfold maxLen at hs
  go_enter Tryd.func16, Tryd.ntmps16
  go_wp2
  go_loop [3] (fun i => ∃ k : Nat, k ≤ s.size ∧ i = .int .i64 k ∧ Hid ((s.data.toList.take k).all (fun c => Wo.ltr c.toNat) = true)) (fun i => s.size - (intOf i).toNat)
  case atStart => exact ⟨0, Nat.zero_le _, rfl, rfl⟩
  case round =>
    obtain ⟨k, hk, rfl, HA⟩ := hrel
    by_cases hlt : k < s.size
    · have hkI : (0 : Int) ≤ (k : Int) := by omega
      have hkI2 : (k : Int) < (s.size : Int) := by omega
      have HT := hid (take_snoc s k hlt)
      rcases bool_two (Wo.ltr (s[k]'hlt).toNat) with hd | hd
      · have q : ∀ w, Calls Tryd.prog 27 #[bv (s[k]'hlt)] w fun e w' => e = .returned (.bool false) ∧ w' = w := fun w => hd ▸ Rletter_any (s[k]'hlt) w
        have HE := hid (show Wo.nameB s.data.toList = false from decide_eq_false (fun h => by have := all_at h.2.2.2.2 hlt; rw [hd] at this; exact absurd this (by simp)))
        clear hd
        go_wp2_with (go_at_call 27; refine (q _).mono ?_; rintro e w' ⟨rfl, rfl⟩)
        go_ret
        exact ⟨ret_bool HE.out.symm, rfl⟩
      · have q : ∀ w, Calls Tryd.prog 27 #[bv (s[k]'hlt)] w fun e w' => e = .returned (.bool true) ∧ w' = w := fun w => hd ▸ Rletter_any (s[k]'hlt) w
        have HA2 := hid (show (s.data.toList.take (k + 1)).all (fun c => Wo.ltr c.toNat) = true by rw [HT.out, List.all_append, HA.out]; simp [hd])
        clear hd
        go_wp2_with (go_at_call 27; refine (q _).mono ?_; rintro e w' ⟨rfl, rfl⟩)
        go_round
        case rel => exact ⟨k + 1, by omega, by go_num, HA2⟩
        case measure => simp [intOf]; omega
    · have HA2 := hid (show s.data.toList.all (fun c => Wo.ltr c.toNat) = true by have := HA.out; rw [take_all s (by omega)] at this; exact this)
      by_cases h0 : s.size = 0
      · have HI := hid (show Wo.nameB s.data.toList = false by rw [empty_of_size h0]; rfl)
        have hn : (s.toList == []) = true := by rw [toList_nil, h0]; rfl
        clear h0
        go_wp2
        go_ret
        exact ⟨ret_bool HI.out.symm, rfl⟩
      · have hn : (s.toList == []) = false := by rw [toList_nil]; exact decide_eq_false h0
        have hp : 0 < s.size := by omega
        have hp0 : (0 : Int) < (s.size : Int) := by omega
        have hh := headD_at s hp
        have hne : s.data.toList ≠ [] := fun e => h0 (by rw [Lib.size_eq, e]; rfl)
        by_cases h64 : s.size ≤ 64
        · have hI : (s.size : Int) ≤ 64 := by omega
          rcases bool_two (Wo.dg (s[0]'hp).toNat) with h1 | h1
          · have q : ∀ w, Calls Tryd.prog 25 #[bv (s[0]'hp)] w fun e w' => e = .returned (.bool false) ∧ w' = w := fun w => h1 ▸ Rdigit_any (s[0]'hp) w
            have HI := hid (show Wo.nameB s.data.toList = (((s[0]'hp).toNat : Int) != 45) by
              unfold Wo.nameB
              rw [Bool.eq_iff_iff, decide_eq_true_iff, bne_iff_ne, hh, list_size]
              exact ⟨fun h => by have := h.2.2.2.1; omega, fun h => ⟨hne, by omega, h1, by omega, HA2.out⟩⟩)
            clear h0 hh hne h1
            go_wp2_with (go_at_call 25; refine (q _).mono ?_; rintro e w' ⟨rfl, rfl⟩)
            go_ret
            exact ⟨ret_bool HI.out.symm, rfl⟩
          · have q : ∀ w, Calls Tryd.prog 25 #[bv (s[0]'hp)] w fun e w' => e = .returned (.bool true) ∧ w' = w := fun w => h1 ▸ Rdigit_any (s[0]'hp) w
            have HI := hid (show Wo.nameB s.data.toList = false from decide_eq_false (fun h => by have := h.2.2.1; rw [hh, h1] at this; exact absurd this (by simp)))
            clear h0 hh hne h1
            go_wp2_with (go_at_call 25; refine (q _).mono ?_; rintro e w' ⟨rfl, rfl⟩)
            go_ret
            exact ⟨ret_bool HI.out.symm, rfl⟩
        · have HI := hid (show Wo.nameB s.data.toList = false from decide_eq_false (fun h => by have := h.2.1; rw [list_size] at this; omega))
          have hI : decide ((s.size : Int) ≤ 64) = false := decide_eq_false (by omega)
          clear h0 hh hne
          go_wp2
          go_ret
          exact ⟨ret_bool HI.out.symm, rfl⟩
end Go.Proofs.YtalmcdhohoplpaaDoor
