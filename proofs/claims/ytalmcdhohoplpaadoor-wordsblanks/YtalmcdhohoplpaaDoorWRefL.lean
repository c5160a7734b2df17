/-
  The document's own reckoning of a line: the word that begins at a place, the words of a line.
-/
import Derived.Test.YtalmcdhohoplpaaDoorWRefM
namespace Go.Proofs.YtalmcdhohoplpaaDoor
open Go.RowKit

theorem fst_dbl {d : List UInt8} (h : 2 ≤ d.length) (h2 : dblL (d.take 2) = true) : Wo.fst d = 2 := by
  match d, h, h2 with
  | a :: b :: t, _, h2 =>
    have h3 := h2
    rw [dblL_two] at h3
    have h4 : Wo.dbl a.toNat b.toNat = true := h3
    rw [Wo.fst_two, h4]; rfl
theorem fst_rest {d : List UInt8} (h0 : d ≠ []) (h : d.length < 2 ∨ dblL (d.take 2) = false) : Wo.fst d = if Wo.sgl (d.headD 0).toNat then 1 else Wo.lets d := by
  match d, h0, h with
  | [a], _, _ => rfl
  | a :: b :: t, _, h =>
    have h3 : dblL ((a :: b :: t).take 2) = false := by
      rcases h with h | h
      · simp at h; omega
      · exact h
    rw [dblL_two] at h3
    have h4 : Wo.dbl a.toNat b.toNat = false := h3
    rw [Wo.fst_two, h4]; rfl
theorem arr_take {d : List UInt8} (h : 2 ≤ d.length) : (d.take 2 == [45, 62]) = Wo.arr d := by
  match d, h with
  | a :: b :: t, _ => simp [Wo.arr, b_eq]
theorem arr_short {d : List UInt8} (h : d.length < 2) : Wo.arr d = false := by
  match d, h with
  | [], _ => rfl
  | [a], _ => rfl
theorem ext_two (s : ByteArray) (k : Nat) : (s.extract k (k + 2)).data.toList = (s.data.toList.drop k).take 2 := by
  rw [Lib.extract_data]; congr 1; omega

set_option maxHeartbeats 2000000 in
theorem next_any (s : ByteArray) (k : Nat) (w : World) (hk : k < s.size) (hs : s.size ≤ 1048576) : Calls Tryd.prog 40 #[.string s, .int .i64 (k : Int)] w fun e w' => e = .returned (.int .i64 (Wo.fst (s.data.toList.drop k) : Int)) ∧ w' = w := by
  have HD := hid (drop_at s k hk)
  have hdl : (s.data.toList.drop k).length = s.size - k := by rw [List.length_drop, list_size]
  have hdn : s.data.toList.drop k ≠ [] := by rw [HD.out]; simp
  have hhd : (s.data.toList.drop k).headD 0 = s[k]'hk := by rw [HD.out]; rfl
  have hkI : (0 : Int) ≤ (k : Int) := by omega
  have hkI2 : (k : Int) < (s.size : Int) := by omega
  have hkI3 : (k : Int) ≤ (k : Int) + 2 := by omega
  by_cases hd : k + 2 ≤ s.size ∧ dblL ((s.data.toList.drop k).take 2) = true
  · obtain ⟨h2, hb⟩ := hd
    have HE := hid (fst_dbl (d := s.data.toList.drop k) (by omega) hb)
    have q : ∀ w, Calls Tryd.prog 28 #[.string (s.extract k (k + 2))] w fun e w' => e = .returned (.bool true) ∧ w' = w := fun w => by
      have := double_any (s.extract k (k + 2)) w
      rw [ext_two, hb] at this; exact this
    have hI : (k : Int) + 2 ≤ (s.size : Int) := by omega
    clear hb hdl hdn hhd
    go_enter Tryd.func40, Tryd.ntmps40
    go_wp2_with (go_at_call 28; refine (q _).mono ?_; rintro e w' ⟨rfl, rfl⟩)
    go_ret
    exact ⟨ret_int (by rw [HE.out]; rfl), rfl⟩
  · have HE := hid (fst_rest hdn (show (s.data.toList.drop k).length < 2 ∨ dblL ((s.data.toList.drop k).take 2) = false by
      by_cases h2 : k + 2 ≤ s.size
      · right
        cases hq : dblL ((s.data.toList.drop k).take 2) with
        | false => rfl
        | true => exact absurd ⟨h2, hq⟩ hd
      · left; omega))
    rw [hhd] at HE
    have hg : ((k : Int) + 2 ≤ (s.size : Int) ∧ ∀ w, Calls Tryd.prog 28 #[.string (s.extract k (k + 2))] w fun e w' => e = .returned (.bool false) ∧ w' = w) ∨ decide ((k : Int) + 2 ≤ (s.size : Int)) = false := by
      by_cases h2 : k + 2 ≤ s.size
      · left
        refine ⟨by omega, fun w => ?_⟩
        have := double_any (s.extract k (k + 2)) w
        rw [ext_two] at this
        cases hq : dblL ((s.data.toList.drop k).take 2) with
        | false => rw [hq] at this; exact this
        | true => exact absurd ⟨h2, hq⟩ hd
      · right; exact decide_eq_false (by omega)
    clear hd hdl hdn hhd
    rcases bool_two (Wo.sgl (s[k]'hk).toNat) with h1 | h1
    · have q1 : ∀ w, Calls Tryd.prog 29 #[bv (s[k]'hk)] w fun e w' => e = .returned (.bool false) ∧ w' = w := fun w => h1 ▸ single_any (s[k]'hk) w
      have HF := hid (show Wo.fst (s.data.toList.drop k) = Wo.lets (s.data.toList.drop k) by rw [HE.out, h1]; rfl)
      clear h1 HE
      rcases hg with ⟨hI, q⟩ | hI
      all_goals
        go_enter Tryd.func40, Tryd.ntmps40
        go_wp2_with (first | (go_at_call 29; refine (q1 _).mono ?_; rintro e w' ⟨rfl, rfl⟩) | (go_at_call 28; refine (q _).mono ?_; rintro e w' ⟨rfl, rfl⟩))
        go_loop [5] (fun n => ∃ m : Nat, m ≤ s.size ∧ k ≤ m ∧ n = .int .i64 m ∧ Hid (Wo.lets (s.data.toList.drop k) = (m - k) + Wo.lets (s.data.toList.drop m))) (fun n => s.size - (intOf n).toNat)
        case atStart => exact ⟨k, by omega, Nat.le_refl _, rfl, by show _ = _; simp⟩
        case round =>
          obtain ⟨m, hm, hkm, rfl, HL⟩ := hrel
          by_cases hlt : m < s.size
          · have HDM := hid (drop_at s m hlt)
            have hml : (s.data.toList.drop m).length = s.size - m := by rw [List.length_drop, list_size]
            have hmI : (0 : Int) ≤ (m : Int) := by omega
            have hmI2 : (m : Int) < (s.size : Int) := by omega
            have hmI3 : (m : Int) ≤ (m : Int) + 2 := by omega
            rcases bool_two (Wo.ltr (s[m]'hlt).toNat) with h1 | h1
            · have HR := hid (show Wo.lets (s.data.toList.drop k) = m - k by rw [HL.out, HDM.out, Wo.lets_cons, h1]; simp)
              have q3 : ∀ w, Calls Tryd.prog 27 #[bv (s[m]'hlt)] w fun e w' => e = .returned (.bool false) ∧ w' = w := fun w => h1 ▸ Rletter_any (s[m]'hlt) w
              clear h1
              go_wp2_with (go_at_call 27; refine (q3 _).mono ?_; rintro e w' ⟨rfl, rfl⟩)
              go_ret
              exact ⟨ret_int (by rw [HF.out, HR.out]; omega), rfl⟩
            · have q3 : ∀ w, Calls Tryd.prog 27 #[bv (s[m]'hlt)] w fun e w' => e = .returned (.bool true) ∧ w' = w := fun w => h1 ▸ Rletter_any (s[m]'hlt) w
              have H1 := hid h1
              clear h1
              by_cases h2 : m + 2 ≤ s.size
              · have h2I : (m : Int) + 2 ≤ (s.size : Int) := by omega
                have ha : ((s.extract m (m + 2)).toList == [45, 62]) = Wo.arr (s.data.toList.drop m) := by
                  rw [Lib.toList_data, ext_two]; exact arr_take (by omega)
                rcases bool_two (Wo.arr (s.data.toList.drop m)) with h3 | h3
                · rw [h3] at ha
                  have HR := hid (show Wo.lets (s.data.toList.drop k) = (m + 1 - k) + Wo.lets (s.data.toList.drop (m + 1)) by
                    rw [HL.out, HDM.out, Wo.lets_cons, ← HDM.out, H1.out, h3, if_pos (show (true && !false) = true from rfl)]; omega)
                  clear h3
                  go_wp2_with (go_at_call 27; refine (q3 _).mono ?_; rintro e w' ⟨rfl, rfl⟩)
                  go_round
                  case rel => exact ⟨m + 1, by omega, by omega, by go_num, HR⟩
                  case measure => simp [intOf]; omega
                · rw [h3] at ha
                  have HR := hid (show Wo.lets (s.data.toList.drop k) = m - k by
                    rw [HL.out, HDM.out, Wo.lets_cons, ← HDM.out, H1.out, h3]; simp)
                  clear h3
                  go_wp2_with (go_at_call 27; refine (q3 _).mono ?_; rintro e w' ⟨rfl, rfl⟩)
                  go_ret
                  exact ⟨ret_int (by rw [HF.out, HR.out]; omega), rfl⟩
              · have h2I : decide ((m : Int) + 2 ≤ (s.size : Int)) = false := decide_eq_false (by omega)
                have h3 : Wo.arr (s.data.toList.drop m) = false := arr_short (by omega)
                have HR := hid (show Wo.lets (s.data.toList.drop k) = (m + 1 - k) + Wo.lets (s.data.toList.drop (m + 1)) by
                  rw [HL.out, HDM.out, Wo.lets_cons, ← HDM.out, H1.out, h3, if_pos (show (true && !false) = true from rfl)]; omega)
                clear h3
                go_wp2_with (go_at_call 27; refine (q3 _).mono ?_; rintro e w' ⟨rfl, rfl⟩)
                go_round
                case rel => exact ⟨m + 1, by omega, by omega, by go_num, HR⟩
                case measure => simp [intOf]; omega
          · have HR := hid (show Wo.lets (s.data.toList.drop k) = m - k by
              rw [HL.out, List.drop_of_length_le (by rw [list_size]; omega)]; rfl)
            go_wp2
            go_ret
            exact ⟨ret_int (by rw [HF.out, HR.out]; omega), rfl⟩
    · have q1 : ∀ w, Calls Tryd.prog 29 #[bv (s[k]'hk)] w fun e w' => e = .returned (.bool true) ∧ w' = w := fun w => h1 ▸ single_any (s[k]'hk) w
      have HF := hid (show Wo.fst (s.data.toList.drop k) = 1 by rw [HE.out, h1]; rfl)
      clear h1 HE
      rcases hg with ⟨hI, q⟩ | hI
      all_goals
        go_enter Tryd.func40, Tryd.ntmps40
        go_wp2_with (first | (go_at_call 29; refine (q1 _).mono ?_; rintro e w' ⟨rfl, rfl⟩) | (go_at_call 28; refine (q _).mono ?_; rintro e w' ⟨rfl, rfl⟩))
        go_ret
        exact ⟨ret_int (by rw [HF.out]; rfl), rfl⟩
end Go.Proofs.YtalmcdhohoplpaaDoor
