/-
  Names, numbers, signs: the program's.
-/
import Derived.Test.YtalmcdhohoplpaaDoorWAlive
import Derived.Test.YtalmcdhohoplpaaDoorWKindM
namespace Go.Proofs.YtalmcdhohoplpaaDoor
open Go.RowKit

theorem headD_at (s : ByteArray) (h : 0 < s.size) : s.data.toList.headD 0 = s[0] := by
  have := drop_at s 0 h
  rw [List.drop_zero] at this
  rw [this]; rfl
theorem take_snoc (s : ByteArray) (k : Nat) (h : k < s.size) : s.data.toList.take (k + 1) = s.data.toList.take k ++ [s[k]] := by
  rw [List.take_succ_eq_append_getElem (by simpa using h)]; rfl
theorem take_all (s : ByteArray) {k : Nat} (h : s.size ≤ k) : s.data.toList.take k = s.data.toList := List.take_of_length_le (by rw [list_size]; exact h)

set_option maxHeartbeats 1000000 in
theorem Name_any (s : ByteArray) (w : World) (hs : s.size ≤ maxLen) : Calls Tryd.prog 15 #[.string s] w fun e w' => e = .returned (.bool (Wo.nameB s.data.toList)) ∧ w' = w := by
  by_cases h0 : s.size = 0
  · have HI := hid (show Wo.nameB s.data.toList = false by rw [empty_of_size h0]; rfl)
    have hn : (s.toList == []) = true := by rw [toList_nil, h0]; rfl
    clear h0
    go_enter Tryd.func15, Tryd.ntmps15
    go_wp2
    go_ret
    exact ⟨ret_bool HI.out.symm, rfl⟩
  · have hn : (s.toList == []) = false := by rw [toList_nil]; exact decide_eq_false h0
    have hp : 0 < s.size := by omega
    have hh := headD_at s hp
    have hne : s.data.toList ≠ [] := fun e => h0 (by rw [Lib.size_eq, e]; rfl)
    by_cases h64 : 64 < s.size
    · have HI := hid (show Wo.nameB s.data.toList = false from decide_eq_false (fun h => by have := h.2.1; rw [list_size] at this; omega))
      have hI : (64 : Int) < (s.size : Int) := by omega
      clear h0 hh hne
      go_enter Tryd.func15, Tryd.ntmps15
      go_wp2
      go_ret
      exact ⟨ret_bool HI.out.symm, rfl⟩
    · have hI : decide ((64 : Int) < (s.size : Int)) = false := decide_eq_false (by omega)
      rcases bool_two (Wo.dg (s[0]'hp).toNat) with h1 | h1
      · have q : ∀ w, Calls Tryd.prog 24 #[bv (s[0]'hp)] w fun e w' => e = .returned (.bool false) ∧ w' = w := fun w => h1 ▸ digit_any (s[0]'hp) w
        by_cases h45 : (s[0]'hp).toNat = 45
        · have HI := hid (show Wo.nameB s.data.toList = false from decide_eq_false (fun h => by have := h.2.2.2.1; rw [hh] at this; exact this h45))
          have hc : (((s[0]'hp).toNat : Int) == 45) = true := by rw [beq_iff_eq]; omega
          clear h0 hh hne h1 h45
          go_enter Tryd.func15, Tryd.ntmps15
          go_wp2_with (go_at_call 24; refine (q _).mono ?_; rintro e w' ⟨rfl, rfl⟩)
          go_ret
          exact ⟨ret_bool HI.out.symm, rfl⟩
        · have hc : (((s[0]'hp).toNat : Int) == 45) = false := by rw [beq_eq_false_iff_ne]; omega
          have HI := hid (show Wo.nameB s.data.toList = ((Wo.lets s.data.toList : Int) == (s.size : Int)) by
            unfold Wo.nameB
            rw [Bool.eq_iff_iff, decide_eq_true_iff, beq_iff_eq, hh, ← Wo.lets_all, list_size]
            exact ⟨fun h => by have := h.2.2.2.2; omega, fun h => ⟨hne, by omega, h1, h45, by omega⟩⟩)
          clear h0 hh hne h1 h45
          go_enter Tryd.func15, Tryd.ntmps15
          go_wp2_with (first | (go_at_call 24; refine (q _).mono ?_; rintro e w' ⟨rfl, rfl⟩) | (go_at_call 26; refine (letters_any s _ hs).mono ?_; rintro e w' ⟨rfl, rfl⟩))
          go_ret
          exact ⟨ret_bool HI.out.symm, rfl⟩
      · have q : ∀ w, Calls Tryd.prog 24 #[bv (s[0]'hp)] w fun e w' => e = .returned (.bool true) ∧ w' = w := fun w => h1 ▸ digit_any (s[0]'hp) w
        have HI := hid (show Wo.nameB s.data.toList = false from decide_eq_false (fun h => by have := h.2.2.1; rw [hh, h1] at this; exact absurd this (by simp)))
        clear h0 hh hne h1
        go_enter Tryd.func15, Tryd.ntmps15
        go_wp2_with (go_at_call 24; refine (q _).mono ?_; rintro e w' ⟨rfl, rfl⟩)
        go_ret
        exact ⟨ret_bool HI.out.symm, rfl⟩

theorem all_cut {l : List UInt8} {f : UInt8 → Bool} {k : Nat} (h : l.all f = true) : (l.take k).all f = true := by
  rw [List.all_eq_true] at h ⊢
  exact fun x hx => h x (List.mem_of_mem_take hx)
theorem all_at {s : ByteArray} {f : UInt8 → Bool} {k : Nat} (h : s.data.toList.all f = true) (hk : k < s.size) : f (s[k]'hk) = true := by
  rw [List.all_eq_true] at h
  exact h _ (by have : s[k]'hk = s.data.toList[k]'(by rw [list_size]; exact hk) := rfl
                rw [this]; exact List.getElem_mem _)

set_option maxHeartbeats 2000000 in
theorem Number_any (s : ByteArray) (w : World) (hs : s.size ≤ maxLen) : Calls Tryd.prog 13 #[.string s] w fun e w' => e = .returned (.tuple #[.int .i64 (Wo.numV s.data.toList), .int .i64 (Wo.numE s.data.toList)]) ∧ w' = w := by
  unfold maxLen at hs
  by_cases h0 : s.size = 0
  · have e := Wo.num_bad (show Wo.numB s.data.toList = false by rw [empty_of_size h0]; rfl)
    rw [e.1, e.2]
    have hn : (s.toList == []) = true := by rw [toList_nil, h0]; rfl
    clear h0 e
    go_enter Tryd.func13, Tryd.ntmps13
    go_wp2
    go_ret2
    exact ⟨rfl, rfl⟩
  · have hn : (s.toList == []) = false := by rw [toList_nil]; exact decide_eq_false h0
    have hp : 0 < s.size := by omega
    have hh := headD_at s hp
    have hne : s.data.toList ≠ [] := fun e => h0 (by rw [Lib.size_eq, e]; rfl)
    by_cases hz : 1 < s.size ∧ (s[0]'hp).toNat = 48
    · have e := Wo.num_bad (show Wo.numB s.data.toList = false from decide_eq_false (fun h => by have := h.2.1; rw [hh, list_size] at this; omega))
      rw [e.1, e.2]
      obtain ⟨hz1, hz2⟩ := hz
      have hI : (1 : Int) < (s.size : Int) := by omega
      have hc : (((s[0]'hp).toNat : Int) == 48) = true := by rw [beq_iff_eq]; omega
      clear h0 hh hne e hz2
      go_enter Tryd.func13, Tryd.ntmps13
      go_wp2
      go_ret2
      exact ⟨rfl, rfl⟩
    · have HZ := hid hz
      have HH := hid hh
      have HNE := hid hne
      have hg : (1 < s.size ∧ (((s[0]'hp).toNat : Int) == 48) = false) ∨ ¬ 1 < s.size := by
        by_cases h1 : 1 < s.size
        · left; exact ⟨h1, by rw [beq_eq_false_iff_ne]; intro e; exact hz ⟨h1, by omega⟩⟩
        · right; exact h1
      clear h0 hh hne hz
      have hg' : ((1 : Int) < (s.size : Int) ∧ (((s[0]'hp).toNat : Int) == 48) = false) ∨ decide ((1 : Int) < (s.size : Int)) = false := by
        rcases hg with ⟨h1, h2⟩ | h1
        · exact Or.inl ⟨by omega, h2⟩
        · exact Or.inr (decide_eq_false (by omega))
      clear hg
      have hnum := hid (fun (h : Wo.allD s.data.toList = true) (h2 : Wo.decN s.data.toList ≤ 2147483647) => (show Wo.numB s.data.toList = true from decide_eq_true ⟨HNE.out, by rw [HH.out, list_size]; have := HZ.out; omega, h, h2⟩))
      rcases hg' with ⟨h1, hc⟩ | h1
      all_goals
        go_enter Tryd.func13, Tryd.ntmps13
        go_wp2
        go_loop [4, 20] (fun n i => ∃ k m : Nat, k ≤ s.size ∧ m ≤ 2147483647 ∧ i = .int .i64 k ∧ n = .int .i64 m ∧ Hid (m = Wo.decN (s.data.toList.take k)) ∧ Hid (Wo.allD (s.data.toList.take k) = true)) (fun _ i => s.size - (intOf i).toNat)
        case atStart => exact ⟨0, 0, Nat.zero_le _, Nat.zero_le _, rfl, rfl, rfl, rfl⟩
        case round =>
          obtain ⟨k, m, hk, hm, rfl, rfl, HM, HA⟩ := hrel
          by_cases hlt : k < s.size
          · have hkI : (0 : Int) ≤ (k : Int) := by omega
            have hkI2 : (k : Int) < (s.size : Int) := by omega
            have HT := hid (take_snoc s k hlt)
            rcases bool_two (Wo.dg (s[k]'hlt).toNat) with hd | hd
            · have q : ∀ w, Calls Tryd.prog 24 #[bv (s[k]'hlt)] w fun e w' => e = .returned (.bool false) ∧ w' = w := fun w => hd ▸ digit_any (s[k]'hlt) w
              have HE := hid (Wo.num_bad (show Wo.numB s.data.toList = false from decide_eq_false (fun h => by have := all_at h.2.2.1 hlt; rw [hd] at this; exact absurd this (by simp))))
              clear hd
              go_wp2_with (go_at_call 24; refine (q _).mono ?_; rintro e w' ⟨rfl, rfl⟩)
              go_ret2
              exact ⟨by rw [HE.out.1, HE.out.2]; rfl, rfl⟩
            · have q : ∀ w, Calls Tryd.prog 24 #[bv (s[k]'hlt)] w fun e w' => e = .returned (.bool true) ∧ w' = w := fun w => hd ▸ digit_any (s[k]'hlt) w
              have hdd := of_decide_eq_true hd
              have hd1 : (48 : Int) ≤ ((s[k]'hlt).toNat : Int) := by omega
              have hd2 : ((s[k]'hlt).toNat : Int) ≤ 57 := by omega
              have HN := hid (show 10 * m + ((s[k]'hlt).toNat - 48) = Wo.decN (s.data.toList.take (k + 1)) by rw [HT.out, Wo.decN_snoc, ← HM.out])
              have HA2 := hid (show Wo.allD (s.data.toList.take (k + 1)) = true by
                have := HA.out
                unfold Wo.allD at this ⊢
                rw [HT.out, List.all_append, this]; simp [hd])
              clear hd hdd
              by_cases hb : 2147483647 < 10 * m + ((s[k]'hlt).toNat - 48)
              · have hbI : (2147483647 : Int) < 10 * (m : Int) + (((s[k]'hlt).toNat : Int) - 48) := by omega
                have HE := hid (Wo.num_bad (show Wo.numB s.data.toList = false from decide_eq_false (fun h => by
                  have h1 := Wo.decN_mono (s.data.toList.take (k + 1)) (s.data.toList.drop (k + 1))
                  rw [List.take_append_drop, ← HN.out] at h1
                  have := h.2.2.2
                  omega)))
                clear hb
                go_wp2_with (go_at_call 24; refine (q _).mono ?_; rintro e w' ⟨rfl, rfl⟩)
                go_ret2
                exact ⟨by rw [HE.out.1, HE.out.2]; rfl, rfl⟩
              · have hbI : decide ((2147483647 : Int) < 10 * (m : Int) + (((s[k]'hlt).toNat : Int) - 48)) = false := decide_eq_false (by omega)
                go_wp2_with (go_at_call 24; refine (q _).mono ?_; rintro e w' ⟨rfl, rfl⟩)
                go_round
                case rel => exact ⟨k + 1, 10 * m + ((s[k]'hlt).toNat - 48), by omega, by omega, by go_num, by congr 1; omega, HN, HA2⟩
                case measure => simp [intOf]; omega
          · have HE := hid (show Wo.numV s.data.toList = m ∧ Wo.numE s.data.toList = 0 by
              have e1 := HM.out
              have e2 := HA.out
              rw [take_all s (by omega)] at e1 e2
              have := Wo.num_good (hnum.out e2 (by omega))
              exact ⟨by rw [this.1, e1], this.2⟩)
            go_wp2
            go_ret2
            exact ⟨by rw [HE.out.1, HE.out.2]; rfl, rfl⟩
end Go.Proofs.YtalmcdhohoplpaaDoor
