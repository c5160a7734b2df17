/-
  Number: the document's own; the law WordsKinds.
-/
import Derived.Test.YtalmcdhohoplpaaDoorWRefN
namespace Go.Proofs.YtalmcdhohoplpaaDoor
open Go.RowKit

set_option maxHeartbeats 2000000 in
theorem RNumber_any (s : ByteArray) (w : World) : Calls Tryd.prog 14 #[.string s] w fun e w' => e = .returned (.tuple #[.int .i64 (Wo.numV s.data.toList), .int .i64 (Wo.numE s.data.toList)]) ∧ w' = w := by
  by_cases h0 : s.size = 0
  · have e := Wo.num_bad (show Wo.numB s.data.toList = false by rw [empty_of_size h0]; rfl)
    rw [e.1, e.2]
    have hn : (s.toList == []) = true := by rw [toList_nil, h0]; rfl
    clear h0 e
    go_enter Tryd.func14, Tryd.ntmps14
    go_wp2
    go_ret2
    exact ⟨rfl, rfl⟩
  · have hn : (s.toList == []) = false := by rw [toList_nil]; exact decide_eq_false h0
    have hp : 0 < s.size := by omega
    have hp0 : (0 : Int) < (s.size : Int) := by omega
    have hh := headD_at s hp
    have hne : s.data.toList ≠ [] := fun e => h0 (by rw [Lib.size_eq, e]; rfl)
    by_cases hz : 1 < s.size ∧ (s[0]'hp).toNat = 48
    · have e := Wo.num_bad (show Wo.numB s.data.toList = false from decide_eq_false (fun h => by have := h.2.1; rw [hh, list_size] at this; omega))
      rw [e.1, e.2]
      obtain ⟨hz1, hz2⟩ := hz
      have hI : (1 : Int) < (s.size : Int) := by omega
      have hc : (((s[0]'hp).toNat : Int) == 48) = true := by rw [beq_iff_eq]; omega
      clear h0 hh hne e hz2
      go_enter Tryd.func14, Tryd.ntmps14
      go_wp2
      go_ret2
      exact ⟨rfl, rfl⟩
    · have HZ := hid hz
      have HH := hid hh
      have HNE := hid hne
      have hg : ((((s[0]'hp).toNat : Int) == 48) = true ∧ decide ((1 : Int) < (s.size : Int)) = false) ∨ (((s[0]'hp).toNat : Int) == 48) = false := by
        by_cases h1 : (s[0]'hp).toNat = 48
        · left; exact ⟨by rw [beq_iff_eq]; omega, decide_eq_false (fun h => hz ⟨by omega, h1⟩)⟩
        · right; rw [beq_eq_false_iff_ne]; omega
      clear h0 hh hne hz
      by_cases h10 : 10 < s.size
      · have e := Wo.num_bad (Wo.num_long (l := s.data.toList) (by rw [list_size]; exact h10))
        rw [e.1, e.2]
        have hI : (10 : Int) < (s.size : Int) := by omega
        clear e
        rcases hg with ⟨hc, h1⟩ | hc
        all_goals
          go_enter Tryd.func14, Tryd.ntmps14
          go_wp2
          go_ret2
          exact ⟨rfl, rfl⟩
      · have hI : decide ((10 : Int) < (s.size : Int)) = false := decide_eq_false (by omega)
        have hnum := hid (fun (h : Wo.allD s.data.toList = true) (h2 : Wo.decN s.data.toList ≤ 2147483647) => (show Wo.numB s.data.toList = true from decide_eq_true ⟨HNE.out, by rw [HH.out, list_size]; have := HZ.out; omega, h, h2⟩))
        rcases hg with ⟨hc, h1⟩ | hc
        all_goals
          go_enter Tryd.func14, Tryd.ntmps14
          go_wp2
          go_loop [4, 5] (fun n i => ∃ k m : Nat, k ≤ s.size ∧ m ≤ 9999999999 ∧ i = .int .i64 k ∧ n = .int .i64 m ∧ Hid (m = Wo.decN (s.data.toList.take k)) ∧ Hid (Wo.allD (s.data.toList.take k) = true)) (fun _ i => s.size - (intOf i).toNat)
          case atStart => exact ⟨0, 0, Nat.zero_le _, Nat.zero_le _, rfl, rfl, rfl, rfl⟩
          case round =>
            obtain ⟨k, m, hk, hm, rfl, rfl, HM, HA⟩ := hrel
            by_cases hlt : k < s.size
            · have hkI : (0 : Int) ≤ (k : Int) := by omega
              have hkI2 : (k : Int) < (s.size : Int) := by omega
              have HT := hid (take_snoc s k hlt)
              rcases bool_two (Wo.dg (s[k]'hlt).toNat) with hd | hd
              · have q : ∀ w, Calls Tryd.prog 25 #[bv (s[k]'hlt)] w fun e w' => e = .returned (.bool false) ∧ w' = w := fun w => hd ▸ Rdigit_any (s[k]'hlt) w
                have HE := hid (Wo.num_bad (show Wo.numB s.data.toList = false from decide_eq_false (fun h => by have := all_at h.2.2.1 hlt; rw [hd] at this; exact absurd this (by simp))))
                clear hd
                go_wp2_with (go_at_call 25; refine (q _).mono ?_; rintro e w' ⟨rfl, rfl⟩)
                go_ret2
                exact ⟨by rw [HE.out.1, HE.out.2]; rfl, rfl⟩
              · have q : ∀ w, Calls Tryd.prog 25 #[bv (s[k]'hlt)] w fun e w' => e = .returned (.bool true) ∧ w' = w := fun w => hd ▸ Rdigit_any (s[k]'hlt) w
                have hdd := of_decide_eq_true hd
                have hd1 : (48 : Int) ≤ ((s[k]'hlt).toNat : Int) := by omega
                have hd2 : ((s[k]'hlt).toNat : Int) ≤ 57 := by omega
                have HN := hid (show m * 10 + ((s[k]'hlt).toNat - 48) = Wo.decN (s.data.toList.take (k + 1)) by rw [HT.out, Wo.decN_snoc, ← HM.out, Nat.mul_comm])
                have HA2 := hid (show Wo.allD (s.data.toList.take (k + 1)) = true by
                  have := HA.out
                  unfold Wo.allD at this ⊢
                  rw [HT.out, List.all_append, this]; simp [hd])
                have hle : m * 10 + ((s[k]'hlt).toNat - 48) ≤ 9999999999 := by
                  rw [HN.out]; exact Wo.decN_ten _ HA2.out (by rw [List.length_take]; omega)
                clear hd hdd
                go_wp2_with (go_at_call 25; refine (q _).mono ?_; rintro e w' ⟨rfl, rfl⟩)
                go_round
                case rel => exact ⟨k + 1, m * 10 + ((s[k]'hlt).toNat - 48), by omega, hle, by go_num, by congr 1; omega, HN, HA2⟩
                case measure => simp [intOf]; omega
            · have HM2 := hid (show m = Wo.decN s.data.toList by have := HM.out; rw [take_all s (by omega)] at this; exact this)
              have HA2 := hid (show Wo.allD s.data.toList = true by have := HA.out; rw [take_all s (by omega)] at this; exact this)
              by_cases hb : 2147483647 < m
              · have hbI : (2147483647 : Int) < (m : Int) := by omega
                have HE := hid (Wo.num_bad (show Wo.numB s.data.toList = false from decide_eq_false (fun h => by have := h.2.2.2; rw [← HM2.out] at this; omega)))
                clear hb
                go_wp2
                go_ret2
                exact ⟨by rw [HE.out.1, HE.out.2]; rfl, rfl⟩
              · have hbI : decide ((2147483647 : Int) < (m : Int)) = false := decide_eq_false (by omega)
                have HE := hid (Wo.num_good (hnum.out HA2.out (by rw [← HM2.out]; omega)))
                clear hb
                go_wp2
                go_ret2
                exact ⟨by rw [HE.out.1, HE.out.2, ← HM2.out]; rfl, rfl⟩

set_option maxRecDepth 4000 in
set_option maxHeartbeats 2000000 in
theorem kinds_any (s : ByteArray) (w : World) (hs : s.size ≤ maxLen) : Calls Tryd.prog 4 #[.string s] w fun e w' => e = .returned (.bool true) ∧ Below w.heap.size w w' := by
  have q1 := fun w => Number_any s w hs
  have q2 := fun w => RNumber_any s w
  have q3 := fun w => Name_any s w hs
  have q4 := fun w => RName_any s w hs
  have q5 := fun w => Sign_any s w
  have q6 := fun w => RSign_any s w
  obtain ⟨a, ha⟩ : ∃ a, a = Wo.numV s.data.toList := ⟨_, rfl⟩
  obtain ⟨b, hb⟩ : ∃ b, b = Wo.numE s.data.toList := ⟨_, rfl⟩
  obtain ⟨c, hc⟩ : ∃ c, c = Wo.nameB s.data.toList := ⟨_, rfl⟩
  obtain ⟨d, hd⟩ : ∃ d, d = sgn s.data.toList := ⟨_, rfl⟩
  rw [← ha, ← hb] at q1 q2
  rw [← hc] at q3 q4
  rw [← hd] at q5 q6
  clear ha hb hc hd
  go_enter Tryd.func4, Tryd.ntmps4
  go_wp2_with (first | (go_at_call 13; refine (q1 _).mono ?_; rintro e w' ⟨rfl, rfl⟩) | (go_at_call 14; refine (q2 _).mono ?_; rintro e w' ⟨rfl, rfl⟩) | (go_at_call 15; refine (q3 _).mono ?_; rintro e w' ⟨rfl, rfl⟩) | (go_at_call 16; refine (q4 _).mono ?_; rintro e w' ⟨rfl, rfl⟩) | (go_at_call 17; refine (q5 _).mono ?_; rintro e w' ⟨rfl, rfl⟩) | (go_at_call 18; refine (q6 _).mono ?_; rintro e w' ⟨rfl, rfl⟩) | (go_at_call 9; refine (alive_any _).mono ?_; rintro e w9 ⟨rfl, hb9⟩))
  go_ret
  exact ⟨rfl, hb9⟩
end Go.Proofs.YtalmcdhohoplpaaDoor
