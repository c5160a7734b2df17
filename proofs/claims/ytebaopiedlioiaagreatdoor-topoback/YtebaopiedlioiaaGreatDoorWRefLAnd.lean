/-
  few: the first texts of a slice that came in, each cut off.
  The law WordsLines: of any text it answers true.
  Same: two rows of the same lines.
  The document's own reckoning of a text: the walk of Lines.
  The document's own reckoning of a text: Lines.
  The document's own reckoning of a line: the walk of line.
  The document's own reckoning of a line: the word that begins at a place, the words of a line.
-/
import Derived.Test.YtebaopiedlioiaaGreatDoorWBuildAnd
import Derived.SliceStrings
namespace Go.Proofs.YtebaopiedlioiaaGreatDoor
open Go.RowKit

theorem fst_dbl {d : List UInt8} (h : 2 ≤ d.length) (h2 : dblL (d.take 2) = true) : Wo.fst d = 2 := by
  match d, h, h2 with
  | a :: b :: t, _, h2 =>
    have h3 := h2
    rw [dblL_two] at h3
    have h4 : Wo.dbl a.toNat b.toNat = true := h3
    rw [Wo.fst_two, h4]; rfl
theorem fst_rest {d : List UInt8} (h0 : d ≠ []) (h : d.length < 2 ∨ dblL (d.take 2) = false) : Wo.fst d = if Wo.sgl (d.headD 0).toNat then 1 else Wo.lets d := by
  match d, h0, h with
  | [a], _, _ => rfl
  | a :: b :: t, _, h =>
    have h3 : dblL ((a :: b :: t).take 2) = false := by
      rcases h with h | h
      · simp at h; omega
      · exact h
    rw [dblL_two] at h3
    have h4 : Wo.dbl a.toNat b.toNat = false := h3
    rw [Wo.fst_two, h4]; rfl
theorem arr_take {d : List UInt8} (h : 2 ≤ d.length) : (d.take 2 == [45, 62]) = Wo.arr d := by
  match d, h with
  | a :: b :: t, _ => simp [Wo.arr, b_eq]
theorem arr_short {d : List UInt8} (h : d.length < 2) : Wo.arr d = false := by
  match d, h with
  | [], _ => rfl
  | [a], _ => rfl
theorem ext_two (s : ByteArray) (k : Nat) : (s.extract k (k + 2)).data.toList = (s.data.toList.drop k).take 2 := by
  rw [Lib.extract_data]; congr 1; omega

set_option maxHeartbeats 2000000 in
theorem next_any (s : ByteArray) (k : Nat) (w : World) (hk : k < s.size) (hs : s.size ≤ 1048576) : Calls Tryz.prog 100 #[.string s, .int .i64 (k : Int)] w fun e w' => e = .returned (.int .i64 (Wo.fst (s.data.toList.drop k) : Int)) ∧ w' = w := by
  have HD := hid (drop_at s k hk)
  have hdl : (s.data.toList.drop k).length = s.size - k := by rw [List.length_drop, list_size]
  have hdn : s.data.toList.drop k ≠ [] := by rw [HD.out]; simp
  have hhd : (s.data.toList.drop k).headD 0 = s[k]'hk := by rw [HD.out]; rfl
  have hkI : (0 : Int) ≤ (k : Int) := by omega
  have hkI2 : (k : Int) < (s.size : Int) := by omega
  have hkI3 : (k : Int) ≤ (k : Int) + 2 := by omega
  by_cases hd : k + 2 ≤ s.size ∧ dblL ((s.data.toList.drop k).take 2) = true
  · obtain ⟨h2, hb⟩ := hd
    have HE := hid (fst_dbl (d := s.data.toList.drop k) (by omega) hb)
    have q : ∀ w, Calls Tryz.prog 140 #[.string (s.extract k (k + 2))] w fun e w' => e = .returned (.bool true) ∧ w' = w := fun w => by
      have := double_any (s.extract k (k + 2)) w
      rw [ext_two, hb] at this; exact this
    have hI : (k : Int) + 2 ≤ (s.size : Int) := by omega
    clear hb hdl hdn hhd
    go_enter Tryz.func100, Tryz.ntmps100
    go_wp2_with (go_at_call 140; refine (q _).mono ?_; rintro e w' ⟨rfl, rfl⟩)
    go_ret
    exact ⟨ret_int (by rw [HE.out]; rfl), rfl⟩
  · have HE := hid (fst_rest hdn (show (s.data.toList.drop k).length < 2 ∨ dblL ((s.data.toList.drop k).take 2) = false by
      by_cases h2 : k + 2 ≤ s.size
      · right
        cases hq : dblL ((s.data.toList.drop k).take 2) with
        | false => rfl
        | true => exact absurd ⟨h2, hq⟩ hd
      · left; omega))
    rw [hhd] at HE
    have hg : ((k : Int) + 2 ≤ (s.size : Int) ∧ ∀ w, Calls Tryz.prog 140 #[.string (s.extract k (k + 2))] w fun e w' => e = .returned (.bool false) ∧ w' = w) ∨ decide ((k : Int) + 2 ≤ (s.size : Int)) = false := by
      by_cases h2 : k + 2 ≤ s.size
      · left
        refine ⟨by omega, fun w => ?_⟩
        have := double_any (s.extract k (k + 2)) w
        rw [ext_two] at this
        cases hq : dblL ((s.data.toList.drop k).take 2) with
        | false => rw [hq] at this; exact this
        | true => exact absurd ⟨h2, hq⟩ hd
      · right; exact decide_eq_false (by omega)
    clear hd hdl hdn hhd
    rcases bool_two (Wo.sgl (s[k]'hk).toNat) with h1 | h1
    · have q1 : ∀ w, Calls Tryz.prog 141 #[bv (s[k]'hk)] w fun e w' => e = .returned (.bool false) ∧ w' = w := fun w => h1 ▸ single_any (s[k]'hk) w
      have HF := hid (show Wo.fst (s.data.toList.drop k) = Wo.lets (s.data.toList.drop k) by rw [HE.out, h1]; rfl)
      clear h1 HE
      rcases hg with ⟨hI, q⟩ | hI
      all_goals
        go_enter Tryz.func100, Tryz.ntmps100
        go_wp2_with (first | (go_at_call 141; refine (q1 _).mono ?_; rintro e w' ⟨rfl, rfl⟩) | (go_at_call 140; refine (q _).mono ?_; rintro e w' ⟨rfl, rfl⟩))
        go_loop [5] (fun n => ∃ m : Nat, m ≤ s.size ∧ k ≤ m ∧ n = .int .i64 m ∧ Hid (Wo.lets (s.data.toList.drop k) = (m - k) + Wo.lets (s.data.toList.drop m))) (fun n => s.size - (intOf n).toNat)
        case atStart => exact ⟨k, by omega, Nat.le_refl _, rfl, by show _ = _; simp⟩
        case round =>
          obtain ⟨m, hm, hkm, rfl, HL⟩ := hrel
          by_cases hlt : m < s.size
          · have HDM := hid (drop_at s m hlt)
            have hml : (s.data.toList.drop m).length = s.size - m := by rw [List.length_drop, list_size]
            have hmI : (0 : Int) ≤ (m : Int) := by omega
            have hmI2 : (m : Int) < (s.size : Int) := by omega
            have hmI3 : (m : Int) ≤ (m : Int) + 2 := by omega
            rcases bool_two (Wo.ltr (s[m]'hlt).toNat) with h1 | h1
            · have HR := hid (show Wo.lets (s.data.toList.drop k) = m - k by rw [HL.out, HDM.out, Wo.lets_cons, h1]; simp)
              have q3 : ∀ w, Calls Tryz.prog 80 #[bv (s[m]'hlt)] w fun e w' => e = .returned (.bool false) ∧ w' = w := fun w => h1 ▸ Rletter_any (s[m]'hlt) w
              clear h1
              go_wp2_with (go_at_call 80; refine (q3 _).mono ?_; rintro e w' ⟨rfl, rfl⟩)
              go_ret
              exact ⟨ret_int (by rw [HF.out, HR.out]; omega), rfl⟩
            · have q3 : ∀ w, Calls Tryz.prog 80 #[bv (s[m]'hlt)] w fun e w' => e = .returned (.bool true) ∧ w' = w := fun w => h1 ▸ Rletter_any (s[m]'hlt) w
              have H1 := hid h1
              clear h1
              by_cases h2 : m + 2 ≤ s.size
              · have h2I : (m : Int) + 2 ≤ (s.size : Int) := by omega
                have ha : ((s.extract m (m + 2)).toList == [45, 62]) = Wo.arr (s.data.toList.drop m) := by
                  rw [Lib.toList_data, ext_two]; exact arr_take (by omega)
                rcases bool_two (Wo.arr (s.data.toList.drop m)) with h3 | h3
                · rw [h3] at ha
                  have HR := hid (show Wo.lets (s.data.toList.drop k) = (m + 1 - k) + Wo.lets (s.data.toList.drop (m + 1)) by
                    rw [HL.out, HDM.out, Wo.lets_cons, ← HDM.out, H1.out, h3, if_pos (show (true && !false) = true from rfl)]; omega)
                  clear h3
                  go_wp2_with (go_at_call 80; refine (q3 _).mono ?_; rintro e w' ⟨rfl, rfl⟩)
                  go_round
                  case rel => exact ⟨m + 1, by omega, by omega, by go_num, HR⟩
                  case measure => simp [intOf]; omega
                · rw [h3] at ha
                  have HR := hid (show Wo.lets (s.data.toList.drop k) = m - k by
                    rw [HL.out, HDM.out, Wo.lets_cons, ← HDM.out, H1.out, h3]; simp)
                  clear h3
                  go_wp2_with (go_at_call 80; refine (q3 _).mono ?_; rintro e w' ⟨rfl, rfl⟩)
                  go_ret
                  exact ⟨ret_int (by rw [HF.out, HR.out]; omega), rfl⟩
              · have h2I : decide ((m : Int) + 2 ≤ (s.size : Int)) = false := decide_eq_false (by omega)
                have h3 : Wo.arr (s.data.toList.drop m) = false := arr_short (by omega)
                have HR := hid (show Wo.lets (s.data.toList.drop k) = (m + 1 - k) + Wo.lets (s.data.toList.drop (m + 1)) by
                  rw [HL.out, HDM.out, Wo.lets_cons, ← HDM.out, H1.out, h3, if_pos (show (true && !false) = true from rfl)]; omega)
                clear h3
                go_wp2_with (go_at_call 80; refine (q3 _).mono ?_; rintro e w' ⟨rfl, rfl⟩)
                go_round
                case rel => exact ⟨m + 1, by omega, by omega, by go_num, HR⟩
                case measure => simp [intOf]; omega
          · have HR := hid (show Wo.lets (s.data.toList.drop k) = m - k by
              rw [HL.out, List.drop_of_length_le (by rw [list_size]; omega)]; rfl)
            go_wp2
            go_ret
            exact ⟨ret_int (by rw [HF.out, HR.out]; omega), rfl⟩
    · have q1 : ∀ w, Calls Tryz.prog 141 #[bv (s[k]'hk)] w fun e w' => e = .returned (.bool true) ∧ w' = w := fun w => h1 ▸ single_any (s[k]'hk) w
      have HF := hid (show Wo.fst (s.data.toList.drop k) = 1 by rw [HE.out, h1]; rfl)
      clear h1 HE
      rcases hg with ⟨hI, q⟩ | hI
      all_goals
        go_enter Tryz.func100, Tryz.ntmps100
        go_wp2_with (first | (go_at_call 141; refine (q1 _).mono ?_; rintro e w' ⟨rfl, rfl⟩) | (go_at_call 140; refine (q _).mono ?_; rintro e w' ⟨rfl, rfl⟩))
        go_ret
        exact ⟨ret_int (by rw [HF.out]; rfl), rfl⟩
end Go.Proofs.YtebaopiedlioiaaGreatDoor
namespace Go.Proofs.YtebaopiedlioiaaGreatDoor
open Go.RowKit

/-- What comes of a line by the document's own reckoning. -/
def RLine (w : World) (n : Nat) (l : List UInt8) (e : Ending) (w' : World) : Prop :=
  Below w.heap.size w w' ∧ ((∃ c : Nat, (Wo.tk l 1).2 = some (c + 1) ∧ e = .returned (.tuple #[.slice none 0 0, .int .i64 c])) ∨
    (∃ v, (Wo.tk l 1).2 = none ∧ e = .returned (.tuple #[v, .int .i64 (-1)]) ∧ w'.ownsRow w.heap.size 74 3 v (Wo.tk l 1).1.length (flatW (Wo.wds n (Wo.tk l 1).1))))

theorem blk_two (x : Nat) : Wo.blk x = (((x : Int) == 32) || ((x : Int) == 9)) := by
  unfold Wo.blk
  rw [Bool.eq_iff_iff]
  simp only [Bool.or_eq_true, beq_iff_eq]
  omega
theorem ext_word (l : List UInt8) (k m : Nat) : (tx l).extract k (k + m) = tx ((l.drop k).take m) := by
  rw [Lib.extract_eq]; congr 3; omega

set_option maxRecDepth 4000 in
set_option maxHeartbeats 2000000 in
theorem line_any (l : List UInt8) (n : Nat) (w : World) (hl : l.length ≤ 1048576) (_ : n ≤ 4194304) :
    Calls Tryz.prog 60 #[.string (tx l), .int .i64 (n : Int)] w fun e w' => RLine w n l e w' := by
  obtain ⟨s, hs⟩ : ∃ s, s = tx l := ⟨_, rfl⟩
  have hsl : s.data.toList = l := by rw [hs]
  have hsz : s.size = l.length := by rw [hs, tx_size]
  rw [← hs]
  have HS := hid hs
  have HSL := hid hsl
  have HSZ := hid hsz
  have hss : s.size ≤ 1048576 := by omega
  clear hs hsl hsz
  obtain ⟨i0, hi, hz0, hz1, hz2⟩ := info_parts Tryz.infoWord
  have HI := hid hi
  have HZ0 := hid hz0
  have HZ1 := hid hz1
  have HZ2 := hid hz2
  clear hi hz0 hz1 hz2
  go_enter Tryz.func60, Tryz.ntmps60
  go_wp2
  go_loopw [6, 7] (fun v a wr => ∃ (k : Nat) (ws : List (List UInt8 × Nat)), k ≤ s.size ∧ a = .int .i64 k ∧ ws.length ≤ k ∧ Hid (wr.ownsRow w.heap.size 74 3 v ws.length (flatW (Wo.wds n ws))) ∧ Hid (Wo.tk l 1 = (ws ++ (Wo.tk (l.drop k) (k + 1)).1, (Wo.tk (l.drop k) (k + 1)).2)) ∧ Hid (Below w.heap.size w wr)) (fun _ a _ => s.size - (intOf a).toNat)
  case atStart => exact ⟨0, [], Nat.zero_le _, rfl, Nat.le_refl _, World.ownsRow_nil _ _ _ _, by show _ = _; simp, Below.refl _ _⟩
  case round =>
    obtain ⟨k, ws, hk, rfl, hwk, HO, HT, HB⟩ := hrel
    obtain ⟨ao, cap, rfl⟩ := own_form HO.out
    have hbs := HB.out.size
    by_cases hlt : k < s.size
    · have HD := hid (show l.drop k = (s[k]'hlt) :: l.drop (k + 1) by rw [← HSL.out]; exact drop_at s k hlt)
      have hkI : (0 : Int) ≤ (k : Int) := by omega
      have hkI2 : (k : Int) < (s.size : Int) := by omega
      by_cases h35 : (s[k]'hlt).toNat = 35
      · have hb : (((s[k]'hlt).toNat : Int) != 35) = false := by simp [h35]
        have HE := hid (show (Wo.tk l 1).2 = none ∧ (Wo.tk l 1).1 = ws by rw [HT.out, HD.out, Wo.tk_hash _ _ _ h35]; simp)
        clear h35
        go_wp2
        go_ret2
        refine ⟨HB.out, Or.inr ⟨_, HE.out.1, rfl, ?_⟩⟩
        rw [HE.out.2]; exact HO.out
      · have hb : (((s[k]'hlt).toNat : Int) != 35) = true := by rw [bne_iff_ne]; omega
        have H35 := hid h35
        clear h35
        rcases bool_two (Wo.blk (s[k]'hlt).toNat) with hbl | hbl
        · have hbl2 := hbl
          rw [blk_two, Bool.or_eq_false_iff] at hbl2
          obtain ⟨hb1, hb2⟩ := hbl2
          have HBL := hid hbl
          clear hbl
          have q := fun w => next_any s k w hlt hss
          rw [HSL.out] at q
          by_cases hf : Wo.fst (l.drop k) = 0
          · rw [hf] at q
            have HE := hid (show (Wo.tk l 1).2 = some (k + 1) by
              have h0 := hf
              rw [HD.out] at h0
              rw [HT.out, HD.out, Wo.tk_fault _ _ _ H35.out HBL.out h0])
            clear hf
            go_wp2_with (go_at_call 100; refine (q _).mono ?_; rintro e w' ⟨rfl, rfl⟩)
            go_ret2
            exact ⟨HB.out, Or.inl ⟨k, HE.out, rfl⟩⟩
          · obtain ⟨m, hm⟩ : ∃ m, m = Wo.fst (l.drop k) := ⟨_, rfl⟩
            have hle : m ≤ s.size - k := by have := Wo.fst_le (l.drop k); rw [List.length_drop] at this; have := HSZ.out; omega
            rw [← hm] at q hf
            have hm0 : ((m : Int) == 0) = false := by rw [beq_eq_false_iff_ne]; omega
            have hmI1 : (k : Int) ≤ (k : Int) + (m : Int) := by omega
            have hmI2 : (k : Int) + (m : Int) ≤ (s.size : Int) := by omega
            have HEX := hid (show s.extract k (k + m) = tx ((l.drop k).take m) by rw [HS.out]; exact ext_word l k m)
            have HTT := hid (show Wo.tk l 1 = ((ws ++ [((l.drop k).take m, k + 1)]) ++ (Wo.tk (l.drop (k + m)) (k + m + 1)).1, (Wo.tk (l.drop (k + m)) (k + m + 1)).2) by
              have h0 : Wo.fst ((s[k]'hlt) :: l.drop (k + 1)) ≠ 0 := by rw [← HD.out, ← hm]; exact hf
              rw [HT.out, HD.out, Wo.tk_word _ _ _ H35.out HBL.out h0, ← HD.out, ← hm, List.drop_drop]
              have e1 : k + 1 + m = k + m + 1 := by omega
              rw [e1]; simp)
            have HM := hid hf
            clear hf hm
            go_wp2_with (first | (go_at_call 100; refine (q _).mono ?_; rintro e w' ⟨rfl, rfl⟩) | (at_builtin; refine wpList_append_own_at _ rfl _ _ 70 rfl w.heap.size 74 i0 (.agg #[.string ⟨#[]⟩, .int .i64 0, .int .i64 0]) 3 32 Tryz.underlying70 HI.out HZ0.out HZ1.out HZ2.out rfl (by decide) (.slice ao ws.length cap) ws.length (flatW (Wo.wds n ws)) rfl (HO.out.alloc _) ⟨World.heap _ |>.size, 0, none⟩ 1 1 [.string (s.extract k (k + m)), .int .i64 (n : Int), .int .i64 ((k : Int) + 1)] rfl rfl (new_cells _ #[.string (s.extract k (k + m)), .int .i64 (n : Int), .int .i64 ((k : Int) + 1)] _ _ rfl) ?c2 ?c3 ?c4 ?c5 ?_))
            case c2 => simp [Value.oneCell']
            case c3 => unfold maxLen; omega
            case c4 => omega
            case c5 => simp; omega
            intro v' w5 hown5 hgrow5 _ _
            obtain ⟨a5, cap5, rfl⟩ := own_form hown5
            have HO5 := hid (show w5.ownsRow w.heap.size 74 3 (.slice a5 (ws.length + 1) cap5) (ws ++ [((l.drop k).take m, k + 1)]).length (flatW (Wo.wds n (ws ++ [((l.drop k).take m, k + 1)]))) by
              rw [HEX.out] at hown5
              rw [wds_snoc, flatW_snoc, List.length_append, List.length_singleton]
              exact hown5)
            have HB5 := hid (show Below w.heap.size w w5 from (HB.out.alloc hbs _).grown hgrow5 (by simp; omega) (fun i hi => (HO.out.lt i hi).1))
            clear hown5 hgrow5
            go_wp2
            go_roundw
            case rel => exact ⟨k + m, ws ++ [((l.drop k).take m, k + 1)], by omega, by go_num, by rw [List.length_append, List.length_singleton]; have := HM.out; omega, HO5, HTT, HB5⟩
            case measure => have := HM.out; simp [intOf]; omega
        · have hb3 : ((((s[k]'hlt).toNat : Int) == 32) = true) ∨ ((((s[k]'hlt).toNat : Int) == 32) = false ∧ (((s[k]'hlt).toNat : Int) == 9) = true) := by
            have := hbl
            rw [blk_two] at this
            cases h1 : (((s[k]'hlt).toNat : Int) == 32) with
            | true => left; rfl
            | false => right; rw [h1] at this; exact ⟨rfl, by simpa using this⟩
          have HTT := hid (show Wo.tk l 1 = (ws ++ (Wo.tk (l.drop (k + 1)) (k + 1 + 1)).1, (Wo.tk (l.drop (k + 1)) (k + 1 + 1)).2) by
            rw [HT.out, HD.out, Wo.tk_blank _ _ _ H35.out hbl])
          clear hbl
          rcases hb3 with hb1 | ⟨hb1, hb2⟩
          all_goals
            go_wp2
            go_roundw
            case rel => exact ⟨k + 1, ws, by omega, by go_num, by omega, HO, HTT, HB⟩
            case measure => simp [intOf]; omega
    · have HE := hid (show (Wo.tk l 1).2 = none ∧ (Wo.tk l 1).1 = ws by
        have e : l.drop k = [] := List.drop_of_length_le (by rw [← HSZ.out]; omega)
        rw [HT.out, e, Wo.tk_nil]; simp)
      go_wp2
      go_ret2
      refine ⟨HB.out, Or.inr ⟨_, HE.out.1, rfl, ?_⟩⟩
      rw [HE.out.2]; exact HO.out
end Go.Proofs.YtebaopiedlioiaaGreatDoor
namespace Go.Proofs.YtebaopiedlioiaaGreatDoor
open Go.RowKit

theorem tk_col (l : List UInt8) (c d : Nat) (h : (Wo.tk l c).2 = some d) : c ≤ d ∧ d ≤ c + l.length := by
  generalize hn : l.length = n
  induction n using Nat.strongRecOn generalizing l c with
  | ind n ih =>
    cases l with
    | nil => rw [Wo.tk_nil] at h; cases h
    | cons a t =>
      simp only [List.length_cons] at hn
      by_cases h35 : a.toNat = 35
      · rw [Wo.tk_hash _ _ _ h35] at h; cases h
      · cases hb : Wo.blk a.toNat with
        | true =>
          rw [Wo.tk_blank _ _ _ h35 hb] at h
          have := ih t.length (by omega) t (c + 1) h rfl
          omega
        | false =>
          by_cases h0 : Wo.fst (a :: t) = 0
          · rw [Wo.tk_fault _ _ _ h35 hb h0] at h
            simp only [Option.some.injEq] at h
            omega
          · rw [Wo.tk_word _ _ _ h35 hb h0] at h
            have hle := Wo.fst_le (a :: t)
            simp only [List.length_cons] at hle
            have := ih ((a :: t).drop (Wo.fst (a :: t))).length (by rw [List.length_drop, List.length_cons]; omega) _ _ h rfl
            rw [List.length_drop, List.length_cons] at this
            omega

/-- The lines from a place on. -/
def fromL (l : List UInt8) (f : Nat) : List (List UInt8) := if f ≤ l.length then Wo.lns (l.drop f) else []
def seg (l : List UInt8) (f k : Nat) : List UInt8 := (l.drop f).take (k - f)
theorem seg_len (l : List UInt8) (f k : Nat) : (seg l f k).length ≤ l.length := by unfold seg; rw [List.length_take, List.length_drop]; omega
theorem seg_zero (l : List UInt8) (f : Nat) : seg l f f = [] := by simp [seg]
theorem seg_snoc {l : List UInt8} {f k : Nat} {c : UInt8} (hf : f ≤ k) (hc : l[k]? = some c) : seg l f (k + 1) = seg l f k ++ [c] := by
  unfold seg
  have hk : k < l.length := (List.getElem?_eq_some_iff.1 hc).1
  have e : k + 1 - f = (k - f) + 1 := by omega
  have hlt : k - f < (l.drop f).length := by rw [List.length_drop]; omega
  rw [e, List.take_succ_eq_append_getElem hlt]
  congr 2
  rw [List.getElem_drop]
  have : f + (k - f) = k := by omega
  have h2 := (List.getElem?_eq_some_iff.1 hc).2
  simp only [this, h2]
theorem from_cut {l : List UInt8} {f k : Nat} {c : UInt8} (hf : f ≤ k) (hc : l[k]? = some c) (h10 : c.toNat = 10) (hs : ∀ a ∈ seg l f k, a.toNat ≠ 10) : fromL l f = seg l f k :: fromL l (k + 1) := by
  have hk : k < l.length := (List.getElem?_eq_some_iff.1 hc).1
  unfold fromL
  rw [if_pos (by omega), if_pos (by omega)]
  have e : l.drop f = seg l f k ++ c :: l.drop (k + 1) := by
    unfold seg
    have h1 : (l.drop f).drop (k - f) = c :: l.drop (k + 1) := by
      rw [List.drop_drop]
      have : f + (k - f) = k := by omega
      rw [this, List.drop_eq_getElem_cons hk, (List.getElem?_eq_some_iff.1 hc).2]
    rw [← h1, List.take_append_drop]
  rw [e]
  exact Wo.lns_cut _ _ c hs h10
theorem from_last {l : List UInt8} {f : Nat} (hf : f ≤ l.length) (hs : ∀ a ∈ seg l f l.length, a.toNat ≠ 10) : fromL l f = seg l f l.length :: fromL l (l.length + 1) := by
  unfold fromL
  rw [if_pos hf, if_neg (by omega)]
  have e : l.drop f = seg l f l.length := by unfold seg; rw [List.take_of_length_le (by rw [List.length_drop]; omega)]
  rw [e]
  exact Wo.lns_last _ hs
theorem ext_seg (l : List UInt8) {f k : Nat} : (tx l).extract f k = tx (seg l f k) := by
  rw [Lib.extract_eq]; rfl
theorem at_bytes (l : List UInt8) (s : ByteArray) (h : s.data.toList = l) {k : Nat} (hk : k < s.size) : l[k]? = some (s[k]'hk) := by
  rw [← h]
  exact List.getElem?_eq_getElem (by rw [list_size]; exact hk)

/-- What holds while a text is reckoned. -/
structure TInv (w : World) (l : List UInt8) (v : Value) (ls : List (List Wo.Wd)) (f n k : Nat) (wr : World) : Prop where
  rows : LinesAt wr w.heap.size v ls
  below : Below w.heap.size w wr
  all : Wo.rd (Wo.lns l) 1 = (ls ++ (Wo.rd (fromL l f) n).1, (Wo.rd (fromL l f) n).2)
  clean : ∀ a ∈ seg l f k, a.toNat ≠ 10
  le : f ≤ k
  num : n ≤ f + 1
  few : ls.length ≤ f
  fin : k ≤ l.length ∨ (k = l.length + 1 ∧ f = l.length + 1)
theorem TInv.start (w : World) (l : List UInt8) : TInv w l (.slice none 0 0) [] 0 1 0 w := {
  rows := LinesAt.nil _ _
  below := Below.refl _ _
  all := by simp [fromL]
  clean := by rw [seg_zero]; simp
  le := Nat.le_refl _
  num := by omega
  few := by simp
  fin := Or.inl (Nat.zero_le _) }
section
variable {w : World} {l : List UInt8} {v : Value} {ls : List (List Wo.Wd)} {f n k : Nat} {wr : World}
theorem TInv.step (h : TInv w l v ls f n k wr) {c : UInt8} (hc : l[k]? = some c) (h10 : c.toNat ≠ 10) : TInv w l v ls f n (k + 1) wr := {
  h with
  clean := by
    rw [seg_snoc h.le hc]
    intro a ha
    rcases List.mem_append.1 ha with ha | ha
    · exact h.clean a ha
    · rw [List.mem_singleton] at ha; subst ha; exact h10
  le := by have := h.le; omega
  fin := Or.inl (List.getElem?_eq_some_iff.1 hc).1 }
theorem TInv.cut (h : TInv w l v ls f n k wr) (hk : (∃ c, l[k]? = some c ∧ c.toNat = 10) ∨ k = l.length) : fromL l f = seg l f k :: fromL l (k + 1) := by
  rcases hk with ⟨c, hc, h10⟩ | rfl
  · exact from_cut h.le hc h10 h.clean
  · exact from_last h.le h.clean
theorem TInv.finK (h : TInv w l v ls f n k wr) (hk : (∃ c, l[k]? = some c ∧ c.toNat = 10) ∨ k = l.length) : k + 1 ≤ l.length ∨ (k + 1 = l.length + 1 ∧ k + 1 = l.length + 1) := by
  rcases hk with ⟨c, hc, _⟩ | rfl
  · exact Or.inl (List.getElem?_eq_some_iff.1 hc).1
  · exact Or.inr ⟨rfl, rfl⟩
theorem TInv.next0 (h : TInv w l v ls f n k wr) (hk : (∃ c, l[k]? = some c ∧ c.toNat = 10) ∨ k = l.length) (h2 : (Wo.tk (seg l f k) 1).2 = none) (h1 : (Wo.tk (seg l f k) 1).1 = []) {w1 : World} (hb : Below wr.heap.size wr w1) : TInv w l v ls (k + 1) (n + 1) (k + 1) w1 := {
  rows := h.rows.below hb
  below := h.below.trans (hb.mono h.below.size)
  all := by rw [h.all, h.cut hk, Wo.rd_none h2 h1]
  clean := by rw [seg_zero]; simp
  le := Nat.le_refl _
  num := by have := h.num; have := h.le; omega
  few := by have := h.few; have := h.le; omega
  fin := h.finK hk }
theorem TInv.next1 (h : TInv w l v ls f n k wr) (hk : (∃ c, l[k]? = some c ∧ c.toNat = 10) ∨ k = l.length) (h2 : (Wo.tk (seg l f k) 1).2 = none) (h1 : (Wo.tk (seg l f k) 1).1 ≠ []) {w1 w2 : World} (hb : Below wr.heap.size wr w1)
    {x v' : Value} (hx : w1.ownsRow w.heap.size 74 3 x (Wo.tk (seg l f k) 1).1.length (flatW (Wo.wds n (Wo.tk (seg l f k) 1).1))) {vs : List Value} (hvs : w1.ownsRow w.heap.size 70 1 v ls.length vs) (hvl : vs.length = ls.length)
    (hvi : ∀ (i : Nat) (x : List Wo.Wd), ls[i]? = some x → ∃ u, vs[i]? = some u ∧ w1.ownsRow w.heap.size 74 3 u x.length (flatW x))
    {o : Obj} (ho : w2.ownsRow w.heap.size 70 1 v' (ls.length + 1) (vs ++ [x])) (hg2 : (w1.alloc o).grownBy w2 v.ownBlock) : TInv w l v' (ls ++ [Wo.wds n (Wo.tk (seg l f k) 1).1]) (k + 1) (n + 1) (k + 1) w2 := by
  have hlr : (Wo.wds n (Wo.tk (seg l f k) 1).1).length = (Wo.tk (seg l f k) 1).1.length := by simp [Wo.wds]
  have hva := hvs.alloc o
  have hx' : (w1.alloc o).ownsRow w.heap.size 74 3 x (Wo.wds n (Wo.tk (seg l f k) 1).1).length (flatW (Wo.wds n (Wo.tk (seg l f k) 1).1)) := by rw [hlr]; exact hx.alloc o
  have hrows := LinesAt.snoc hva hvl (fun i y hy => by obtain ⟨q, hq, hq2⟩ := hvi i y hy; exact ⟨q, hq, hq2.alloc o⟩) hx' ho hg2
  have b1 : Below w.heap.size w w1 := h.below.trans (hb.mono h.below.size)
  have b2 : Below w.heap.size w (w1.alloc o) := b1.alloc b1.size _
  exact {
    rows := hrows
    below := b2.grown hg2 b2.size (fun i hi => (hva.lt i hi).1)
    all := by rw [h.all, h.cut hk, Wo.rd_some h2 h1]; simp
    clean := by rw [seg_zero]; simp
    le := Nat.le_refl _
    num := by have := h.num; have := h.le; omega
    few := by have := h.few; have := h.le; simp; omega
    fin := h.finK hk }
theorem TInv.fault (h : TInv w l v ls f n k wr) (hk : (∃ c, l[k]? = some c ∧ c.toNat = 10) ∨ k = l.length) {c : Nat} (h2 : (Wo.tk (seg l f k) 1).2 = some c) : (Wo.rd (Wo.lns l) 1).2 = some (n, c) := by
  rw [h.all, h.cut hk, Wo.rd_fault h2]
theorem TInv.done (h : TInv w l v ls f n k wr) (hk : l.length < k) : (Wo.rd (Wo.lns l) 1).2 = none ∧ (Wo.rd (Wo.lns l) 1).1 = ls := by
  have hf : f = l.length + 1 := by rcases h.fin with h' | h' <;> omega
  have e : fromL l f = [] := by unfold fromL; rw [if_neg (by omega)]
  rw [h.all, e]
  exact ⟨rfl, by simp [Wo.rd]⟩
end
end Go.Proofs.YtebaopiedlioiaaGreatDoor
namespace Go.Proofs.YtebaopiedlioiaaGreatDoor
open Go.RowKit

set_option maxRecDepth 4000 in
set_option maxHeartbeats 2000000 in
theorem RLines_any (l : List UInt8) (w : World) (hl : l.length ≤ 1048576) :
    Calls Tryz.prog 29 #[.string (tx l)] w fun e w' => ∃ v, e = .returned (.tuple #[v, .int .i64 (Wo.faultL l), .int .i64 (Wo.faultC l), .int .i64 (Wo.err l)]) ∧ Hid (LinesAt w' w.heap.size v (Wo.read l)) ∧ Below w.heap.size w w' := by
  obtain ⟨s, hs⟩ : ∃ s, s = tx l := ⟨_, rfl⟩
  have hsl : s.data.toList = l := by rw [hs]
  have hsz : s.size = l.length := by rw [hs, tx_size]
  rw [← hs]
  have HS := hid hs
  have HSL := hid hsl
  have HSZ := hid hsz
  have hss : s.size ≤ 1048576 := by omega
  clear hs hsl hsz
  have hI0 : decide ((1048576 : Int) < (s.size : Int)) = false := decide_eq_false (by omega)
  obtain ⟨i0, hi, hz0, hz1, hz2⟩ := info_parts Tryz.infoWords
  have HI := hid hi
  have HZ0 := hid hz0
  have HZ1 := hid hz1
  have HZ2 := hid hz2
  clear hi hz0 hz1 hz2
  go_enter Tryz.func29, Tryz.ntmps29
  go_wp2
  clear hI0
  go_loopw [6, 7, 8, 9] (fun v a b i wr => ∃ ls f n k, a = .int .i64 ((f : Nat) : Int) ∧ b = .int .i64 ((n : Nat) : Int) ∧ i = .int .i64 ((k : Nat) : Int) ∧ Hid (TInv w l v ls f n k wr)) (fun _ _ _ i _ => s.size + 1 - (intOf i).toNat)
  case atStart => exact ⟨[], 0, 1, 0, rfl, rfl, rfl, TInv.start w l⟩
  case round =>
    obtain ⟨ls, f, n, k, rfl, rfl, rfl, J⟩ := hrel
    obtain ⟨ao, cap, rfl⟩ := J.out.rows.form
    have hfk := J.out.le
    have hnf := J.out.num
    have hlf := J.out.few
    have hbs := J.out.below.size
    have hkf : k ≤ s.size + 1 := by rw [HSZ.out]; rcases J.out.fin with h | h <;> omega
    by_cases hle : k ≤ s.size
    · have hkI : (0 : Int) ≤ (k : Int) := by omega
      have hkI2 : (k : Int) ≤ (s.size : Int) := by omega
      have hfI : (0 : Int) ≤ (f : Int) := by omega
      have hfI2 : (f : Int) ≤ (k : Int) := by omega
      by_cases hgo : ∃ h : k < s.size, (s[k]'h).toNat ≠ 10
      · obtain ⟨hlt, h10⟩ := hgo
        have hkI3 : (k : Int) < (s.size : Int) := by omega
        have hb : (((s[k]'hlt).toNat : Int) != 10) = true := by rw [bne_iff_ne]; omega
        have J2 := hid (J.out.step (at_bytes l s HSL.out hlt) h10)
        clear h10
        go_wp2
        go_roundw
        case rel => exact ⟨ls, f, n, k + 1, rfl, rfl, by go_num, J2⟩
        case measure => simp [intOf]; omega
      · have hk10 : (∃ c, l[k]? = some c ∧ c.toNat = 10) ∨ k = l.length := by
          by_cases hlt : k < s.size
          · left
            refine ⟨_, at_bytes l s HSL.out hlt, ?_⟩
            by_cases h10 : (s[k]'hlt).toNat = 10
            · exact h10
            · exact absurd ⟨hlt, h10⟩ hgo
          · right; rw [← HSZ.out]; omega
        have hgate : (∃ hlt : k < s.size, (k : Int) < (s.size : Int) ∧ (((s[k]'hlt).toNat : Int) != 10) = false) ∨ ¬ k < s.size := by
          by_cases hlt : k < s.size
          · left
            refine ⟨hlt, by omega, ?_⟩
            by_cases h10 : (s[k]'hlt).toNat = 10
            · simp [h10]
            · exact absurd ⟨hlt, h10⟩ hgo
          · right; exact hlt
        have HK := hid hk10
        have HEX := hid (show s.extract f k = tx (seg l f k) by rw [HS.out]; exact ext_seg l)
        have hsg := seg_len l f k
        have q := fun w => line_any (seg l f k) n w (by omega) (by omega)
        rw [← HEX.out] at q
        clear hk10 hgo
        rcases hgate with ⟨hlt, hg1, hg2⟩ | hg1
        all_goals
          go_wp2_with fail
          refine (q _).mono ?_
          rintro e w1 ⟨hb1, ⟨c, hf, rfl⟩ | ⟨x, hno, rfl, hx⟩⟩
          · obtain ⟨e1, e2, e3, e4⟩ := text_fault (J.out.fault HK.out hf)
            have HE := hid (And.intro e1 (And.intro e2 (And.intro e3 e4)))
            have HCM := hid (tk_col _ _ _ hf).2
            clear e1 e2 e3 e4 hf
            have hcI : (0 : Int) ≤ (c : Int) := by omega
            have hcm : c ≤ 1048576 := by have := HCM.out; omega
            go_wp2
            rw [HE.out.1, HE.out.2.1, HE.out.2.2.1, HE.out.2.2.2]
            refine bodyPost_ret (v := .tuple #[.slice none 0 0, .int .i64 n, .int .i64 ((c + 1 : Nat) : Int), .int .i64 30]) (by simp [results, Tryz.results29, go_sem]) rfl ⟨_, rfl, LinesAt.nil _ _, J.out.below.trans (hb1.mono hbs)⟩
          · obtain ⟨a1, cap1, rfl⟩ := own_form hx
            have HX := hid (hx.mono hbs)
            have HNO := hid hno
            clear hx hno
            have hs1 := hb1.size
            by_cases hz : (Wo.tk (seg l f k) 1).1 = []
            · have hlz : ((Wo.tk (seg l f k) 1).1.length : Int) = 0 := by rw [hz]; rfl
              have J2 := hid (J.out.next0 HK.out HNO.out hz hb1)
              clear hz
              go_wp2
              go_roundw
              case rel => exact ⟨ls, k + 1, n + 1, k + 1, by go_num, by go_num, by go_num, J2⟩
              case measure => simp [intOf]; omega
            · have hlz : (0 : Int) < ((Wo.tk (seg l f k) 1).1.length : Int) := by
                have : (Wo.tk (seg l f k) 1).1.length ≠ 0 := fun e => hz (List.length_eq_zero_iff.1 e)
                omega
              obtain ⟨vs, hvs, hvl, hvi⟩ : LinesAt w1 w.heap.size (.slice ao ls.length cap) ls := J.out.rows.below hb1
              have HVS := hid hvs
              have HVL := hid hvl
              have HVI := hid hvi
              have HZ := hid hz
              clear hvs hvl hvi hz
              go_wp2_with (first | (at_builtin; refine wpList_append_own_at _ rfl _ _ 56 rfl w.heap.size 70 i0 (.slice none 0 0) 1 24 Tryz.underlying56 HI.out HZ0.out HZ1.out HZ2.out rfl (by decide) (.slice ao ls.length cap) ls.length vs rfl (HVS.out.alloc _) ⟨w1.heap.size, 0, none⟩ 1 1 [.slice a1 (Wo.tk (seg l f k) 1).1.length cap1] rfl rfl (new_cells _ #[.slice a1 (Wo.tk (seg l f k) 1).1.length cap1] _ _ rfl) ?c2 ?c3 ?c4 ?c5 ?_))
              case c2 => simp [Value.oneCell']
              case c3 => unfold maxLen; omega
              case c4 => omega
              case c5 => simp; omega
              intro v' w3 hown3 hgrow3 _ _
              obtain ⟨a3, cap3, rfl⟩ := own_form hown3
              have J3 := hid (J.out.next1 HK.out HNO.out HZ.out hb1 HX.out HVS.out HVL.out HVI.out hown3 hgrow3)
              clear hown3 hgrow3
              go_wp2
              go_roundw
              case rel => exact ⟨_, k + 1, n + 1, k + 1, by go_num, by go_num, by go_num, J3⟩
              case measure => simp [intOf]; omega
    · obtain ⟨e1, e2⟩ := J.out.done (by rw [← HSZ.out]; omega)
      obtain ⟨k1, k2, k3, k4⟩ := text_well e1
      have HE := hid (And.intro k1 (And.intro k2 (And.intro k3 k4)))
      have HE2 := hid e2
      clear e1 e2 k1 k2 k3 k4
      have hkI : decide ((k : Int) ≤ (s.size : Int)) = false := decide_eq_false (by omega)
      go_wp2
      rw [HE.out.1, HE.out.2.1, HE.out.2.2.1, HE.out.2.2.2, HE2.out]
      refine bodyPost_ret (v := .tuple #[.slice ao ls.length cap, .int .i64 0, .int .i64 0, .int .i64 0]) (by simp [results, Tryz.results29, go_sem]) rfl ⟨_, rfl, J.out.rows, J.out.below⟩
end Go.Proofs.YtebaopiedlioiaaGreatDoor
namespace Go.Proofs.YtebaopiedlioiaaGreatDoor
open Go.RowKit

theorem own_le {w : World} {B : Nat} {e : TypeId} {size : Nat} {v : Value} {n : Nat} {xs : List Value} (h : w.ownsRow B e size v n xs) : n ≤ maxLen := by
  rcases h.2 with ⟨_, rfl⟩ | ⟨g, cap, cur, _, _, _, h1, h2, _⟩
  · exact Nat.zero_le _
  · omega
theorem flatW_at {ws : List Wo.Wd} {i : Nat} {x : Wo.Wd} (h : ws[i]? = some x) : (flatW ws)[i * 3]? = some (.string (tx x.1)) ∧ (flatW ws)[i * 3 + 1]? = some (.int .i64 x.2.1) ∧ (flatW ws)[i * 3 + 2]? = some (.int .i64 x.2.2) := by
  induction ws generalizing i with
  | nil => simp at h
  | cons y l ih =>
    cases i with
    | zero =>
      simp at h
      subst h
      simp [flatW, wcl]
    | succ i =>
      have := ih (i := i) (by simpa using h)
      have e : ∀ j, (flatW (y :: l))[(i + 1) * 3 + j]? = (flatW l)[i * 3 + j]? := by
        intro j
        have : (i + 1) * 3 + j = (i * 3 + j) + 3 := by omega
        rw [this]
        simp [flatW, wcl]
      exact ⟨by rw [← Nat.add_zero ((i + 1) * 3), e]; exact this.1, by rw [e]; exact this.2.1, by rw [e]; exact this.2.2⟩

/-- Rows of words in cells that a walk can load: of line i the slice, of its word k the three cells. -/
structure Shown (w : World) (g : Nat) (ls : List (List Wo.Wd)) (G : Nat → Nat) (C : Nat → Nat) : Prop where
  line : ∀ (i : Nat) (x : List Wo.Wd), ls[i]? = some x → 0 < x.length → w.cell? ⟨g, i, none⟩ = some (.slice (some ⟨G i, 0, none⟩) x.length (C i))
  word : ∀ (i : Nat) (x : List Wo.Wd), ls[i]? = some x → 0 < x.length → ∀ (k : Nat) (y : Wo.Wd), x[k]? = some y → w.cell? ⟨G i, k * 3, none⟩ = some (.string (tx y.1)) ∧ w.cell? ⟨G i, k * 3 + 1, none⟩ = some (.int .i64 y.2.1) ∧ w.cell? ⟨G i, k * 3 + 2, none⟩ = some (.int .i64 y.2.2)
theorem LinesAt.shown {w : World} {B : Nat} {v : Value} {ls : List (List Wo.Wd)} (h : LinesAt w B v ls) (h0 : 0 < ls.length) (hne : ∀ x ∈ ls, 0 < x.length) : ∃ g cap G C, v = .slice (some ⟨g, 0, none⟩) ls.length cap ∧ ls.length ≤ maxLen ∧ (∀ x ∈ ls, x.length ≤ maxLen) ∧ Shown w g ls G C := by
  obtain ⟨vs, ho, hl, hi⟩ := h
  obtain ⟨g, cap, rfl, hg, hc⟩ := own_some ho h0
  have key : ∀ i : Nat, ∃ G C : Nat, ∀ x : List Wo.Wd, ls[i]? = some x → vs[i]? = some (Value.slice (some ⟨G, 0, none⟩) x.length C) ∧ x.length ≤ maxLen ∧ ∀ j u, (flatW x)[j]? = some u → w.cell? ⟨G, j, none⟩ = some u := by
    intro i
    cases hx : ls[i]? with
    | none => exact ⟨0, 0, fun x h => by cases h⟩
    | some x =>
      obtain ⟨u, hu, hown⟩ := hi i x hx
      obtain ⟨g2, cap2, rfl, hg2, hc2⟩ := own_some hown (hne x (List.mem_of_getElem? hx))
      refine ⟨g2, cap2, fun y hy => ?_⟩
      cases hy
      exact ⟨hu, own_le hown, hc2⟩
  refine ⟨g, cap, fun i => (key i).choose, fun i => (key i).choose_spec.choose, rfl, own_le ho, ?_, ⟨?_, ?_⟩⟩
  · intro x hx
    obtain ⟨i, hi', rfl⟩ := List.mem_iff_getElem.1 hx
    exact ((key i).choose_spec.choose_spec _ (List.getElem?_eq_getElem hi')).2.1
  · intro i x hx _
    exact hc i _ ((key i).choose_spec.choose_spec x hx).1
  · intro i x hx _ k y hy
    have h3 := ((key i).choose_spec.choose_spec x hx).2.2
    obtain ⟨f1, f2, f3⟩ := flatW_at hy
    exact ⟨h3 _ _ f1, h3 _ _ f2, h3 _ _ f3⟩

theorem drawn_twice (w : World) (a b : Nat) : ∃ m, (w.drewN a).drewN b = w.drewN m := ⟨a + b, by simp only [World.drewN, Nat.add_assoc]⟩

theorem rd_ne (ls : List (List UInt8)) (n : Nat) : ∀ x ∈ (Wo.rd ls n).1, 0 < x.length := by
  induction ls generalizing n with
  | nil => intro x hx; exact absurd hx (by simp [Wo.rd])
  | cons l ls ih =>
    intro x hx
    cases h : (Wo.tk l 1).2 with
    | some c => rw [Wo.rd_fault h] at hx; exact absurd hx (by simp)
    | none =>
      by_cases hz : (Wo.tk l 1).1 = []
      · rw [Wo.rd_none h hz] at hx; exact ih _ x hx
      · rw [Wo.rd_some h hz] at hx
        rcases List.mem_cons.1 hx with rfl | hx
        · simp only [Wo.wds, List.length_map]
          exact List.length_pos_iff.2 hz
        · exact ih _ x hx
theorem read_ne (s : List UInt8) : ∀ x ∈ Wo.read s, 0 < x.length := by
  unfold Wo.read
  split
  · exact rd_ne _ _
  · intro x hx; exact absurd hx (by simp)
end Go.Proofs.YtebaopiedlioiaaGreatDoor
namespace Go.Proofs.YtebaopiedlioiaaGreatDoor
open Go.RowKit

/-- The first bytes of a text. -/
def cutT (s : ByteArray) : List UInt8 := s.data.toList.take 4000
theorem cutT_len (s : ByteArray) : (cutT s).length ≤ 4000 := by unfold cutT; rw [List.length_take]; omega

end Go.Proofs.YtebaopiedlioiaaGreatDoor
namespace Go.Proofs.YtebaopiedlioiaaGreatDoor
open Go.RowKit

theorem Tryz.infoString : (Tryz.prog.info? 9).map (fun i => (i.zero, i.size, i.bytes)) = some (some (.string ⟨#[]⟩), 1, 16) := by kernel_rfl

/-- What is known of a slice of texts that came in. -/
def Came (w : World) (a0 : Option Addr) (len cap : Nat) (ss : List ByteArray) : Prop :=
  (a0 = none ∧ len = 0 ∧ cap = 0 ∧ ss = []) ∨ ∃ a, a0 = some a ∧ len ≤ cap ∧ cap ≤ maxLen ∧ ss.length = cap ∧ (∀ i, i < ss.length → w.cell? (a.add i) = some (.string (ss.getD i ByteArray.empty))) ∧ ∀ s ∈ ss, s.size ≤ maxLen
theorem addr_add (g o i : Nat) : (⟨g, o, none⟩ : Addr).add i = ⟨g, o + i, none⟩ := by
  unfold Addr.add; split <;> simp_all
theorem addr_of {w : World} {a : Addr} {v : Value} (h : w.cell? (a.add 0) = some v) : (∃ g o, a = ⟨g, o, none⟩) ∧ a.block < w.heap.size := by
  have e : a.add 0 = a := by unfold Addr.add; simp
  rw [e] at h
  obtain ⟨g, o, sp⟩ := a
  have hlt : g < w.heap.size := by
    unfold World.cell? at h
    cases hh : w.heap[g]? with
    | none => simp [hh] at h
    | some x => exact lt_of_block hh
  refine ⟨?_, hlt⟩
  cases sp with
  | none => exact ⟨g, o, rfl⟩
  | some s =>
    exfalso
    unfold World.cell? at h
    simp only [Option.isSome_some, if_true] at h
    split at h <;> cases h

/-- The first k texts, each cut off. -/
def fewT (ss : List ByteArray) (k : Nat) : List (List UInt8) := (ss.take k).map cutT
def svs (ls : List (List UInt8)) : List Value := ls.map fun l => .string (tx l)
theorem fewT_len {ss : List ByteArray} {k : Nat} (h : k ≤ ss.length) : (fewT ss k).length = k := by simp [fewT]; omega
theorem fewT_snoc {ss : List ByteArray} {k : Nat} (h : k < ss.length) : fewT ss (k + 1) = fewT ss k ++ [cutT (ss.getD k ByteArray.empty)] := by
  unfold fewT
  rw [List.take_succ_eq_append_getElem h, List.map_append, List.getD_eq_getElem?_getD, List.getElem?_eq_getElem h]
  rfl
theorem fewT_short (ss : List ByteArray) (k : Nat) : ∀ l ∈ fewT ss k, l.length ≤ 4000 := by
  intro l hl
  obtain ⟨s, _, rfl⟩ := List.mem_map.1 hl
  exact cutT_len s
theorem own_txs {w : World} {B : Nat} {v : Value} {ls : List (List UInt8)} (h : w.ownsRow B 9 1 v ls.length (svs ls)) : Txs w v ls := by
  by_cases h0 : 0 < ls.length
  · obtain ⟨g, cap, rfl, hg, hc⟩ := own_some h h0
    refine ⟨_, cap, rfl, Or.inr ⟨g, 0, rfl, hg, fun i hi => ?_⟩⟩
    rw [Nat.zero_add]
    refine hc i _ ?_
    simp [svs, List.getD_eq_getElem?_getD, List.getElem?_eq_getElem hi]
  · have : ls = [] := List.length_eq_zero_iff.1 (by omega)
    subst this
    obtain ⟨ao, cap, rfl⟩ := own_form h
    exact Txs.nil _ _ _

/-- How many texts are looked at. -/
def fewL (ss : List ByteArray) (len : Nat) : List (List UInt8) := fewT ss (min len 60)
theorem fewL_len (ss : List ByteArray) (len : Nat) : (fewL ss len).length ≤ 60 := by unfold fewL fewT; simp; omega
end Go.Proofs.YtebaopiedlioiaaGreatDoor
