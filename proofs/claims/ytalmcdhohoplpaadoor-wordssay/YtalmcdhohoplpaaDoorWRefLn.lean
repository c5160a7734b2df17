/-
  The document's own reckoning of a line: the walk of line.
-/
import Derived.Test.YtalmcdhohoplpaaDoorWRefL
namespace Go.Proofs.YtalmcdhohoplpaaDoor
open Go.RowKit

/-- What comes of a line by the document's own reckoning. -/
def RLine (w : World) (n : Nat) (l : List UInt8) (e : Ending) (w' : World) : Prop :=
  Below w.heap.size w w' ∧ ((∃ c : Nat, (Wo.tk l 1).2 = some (c + 1) ∧ e = .returned (.tuple #[.slice none 0 0, .int .i64 c])) ∨
    (∃ v, (Wo.tk l 1).2 = none ∧ e = .returned (.tuple #[v, .int .i64 (-1)]) ∧ w'.ownsRow w.heap.size 45 3 v (Wo.tk l 1).1.length (flatW (Wo.wds n (Wo.tk l 1).1))))

theorem blk_two (x : Nat) : Wo.blk x = (((x : Int) == 32) || ((x : Int) == 9)) := by
  unfold Wo.blk
  rw [Bool.eq_iff_iff]
  simp only [Bool.or_eq_true, beq_iff_eq]
  omega
theorem ext_word (l : List UInt8) (k m : Nat) : (tx l).extract k (k + m) = tx ((l.drop k).take m) := by
  rw [Lib.extract_eq]; congr 3; omega

set_option maxRecDepth 4000 in
set_option maxHeartbeats 2000000 in
theorem line_any (l : List UInt8) (n : Nat) (w : World) (hl : l.length ≤ 1048576) (_ : n ≤ 4194304) :
    Calls Tryd.prog 23 #[.string (tx l), .int .i64 (n : Int)] w fun e w' => RLine w n l e w' := by
  obtain ⟨s, hs⟩ : ∃ s, s = tx l := ⟨_, rfl⟩
  have hsl : s.data.toList = l := by rw [hs]
  have hsz : s.size = l.length := by rw [hs, tx_size]
  rw [← hs]
  have HS := hid hs
  have HSL := hid hsl
  have HSZ := hid hsz
  have hss : s.size ≤ 1048576 := by omega
  clear hs hsl hsz
  obtain ⟨i0, hi, hz0, hz1, hz2⟩ := info_parts Tryd.infoWord
  have HI := hid hi
  have HZ0 := hid hz0
  have HZ1 := hid hz1
  have HZ2 := hid hz2
  clear hi hz0 hz1 hz2
  go_enter Tryd.func23, Tryd.ntmps23
  go_wp2
  go_loopw [6, 7] (fun v a wr => ∃ (k : Nat) (ws : List (List UInt8 × Nat)), k ≤ s.size ∧ a = .int .i64 k ∧ ws.length ≤ k ∧ Hid (wr.ownsRow w.heap.size 45 3 v ws.length (flatW (Wo.wds n ws))) ∧ Hid (Wo.tk l 1 = (ws ++ (Wo.tk (l.drop k) (k + 1)).1, (Wo.tk (l.drop k) (k + 1)).2)) ∧ Hid (Below w.heap.size w wr)) (fun _ a _ => s.size - (intOf a).toNat)
  case atStart => exact ⟨0, [], Nat.zero_le _, rfl, Nat.le_refl _, World.ownsRow_nil _ _ _ _, by show _ = _; simp, Below.refl _ _⟩
  case round =>
    obtain ⟨k, ws, hk, rfl, hwk, HO, HT, HB⟩ := hrel
    obtain ⟨ao, cap, rfl⟩ := own_form HO.out
    have hbs := HB.out.size
    by_cases hlt : k < s.size
    · have HD := hid (show l.drop k = (s[k]'hlt) :: l.drop (k + 1) by rw [← HSL.out]; exact drop_at s k hlt)
      have hkI : (0 : Int) ≤ (k : Int) := by omega
      have hkI2 : (k : Int) < (s.size : Int) := by omega
      by_cases h35 : (s[k]'hlt).toNat = 35
      · have hb : (((s[k]'hlt).toNat : Int) != 35) = false := by simp [h35]
        have HE := hid (show (Wo.tk l 1).2 = none ∧ (Wo.tk l 1).1 = ws by rw [HT.out, HD.out, Wo.tk_hash _ _ _ h35]; simp)
        clear h35
        go_wp2
        go_ret2
        refine ⟨HB.out, Or.inr ⟨_, HE.out.1, rfl, ?_⟩⟩
        rw [HE.out.2]; exact HO.out
      · have hb : (((s[k]'hlt).toNat : Int) != 35) = true := by rw [bne_iff_ne]; omega
        have H35 := hid h35
        clear h35
        rcases bool_two (Wo.blk (s[k]'hlt).toNat) with hbl | hbl
        · have hbl2 := hbl
          rw [blk_two, Bool.or_eq_false_iff] at hbl2
          obtain ⟨hb1, hb2⟩ := hbl2
          have HBL := hid hbl
          clear hbl
          have q := fun w => next_any s k w hlt hss
          rw [HSL.out] at q
          by_cases hf : Wo.fst (l.drop k) = 0
          · rw [hf] at q
            have HE := hid (show (Wo.tk l 1).2 = some (k + 1) by
              have h0 := hf
              rw [HD.out] at h0
              rw [HT.out, HD.out, Wo.tk_fault _ _ _ H35.out HBL.out h0])
            clear hf
            go_wp2_with (go_at_call 40; refine (q _).mono ?_; rintro e w' ⟨rfl, rfl⟩)
            go_ret2
            exact ⟨HB.out, Or.inl ⟨k, HE.out, rfl⟩⟩
          · obtain ⟨m, hm⟩ : ∃ m, m = Wo.fst (l.drop k) := ⟨_, rfl⟩
            have hle : m ≤ s.size - k := by have := Wo.fst_le (l.drop k); rw [List.length_drop] at this; have := HSZ.out; omega
            rw [← hm] at q hf
            have hm0 : ((m : Int) == 0) = false := by rw [beq_eq_false_iff_ne]; omega
            have hmI1 : (k : Int) ≤ (k : Int) + (m : Int) := by omega
            have hmI2 : (k : Int) + (m : Int) ≤ (s.size : Int) := by omega
            have HEX := hid (show s.extract k (k + m) = tx ((l.drop k).take m) by rw [HS.out]; exact ext_word l k m)
            have HTT := hid (show Wo.tk l 1 = ((ws ++ [((l.drop k).take m, k + 1)]) ++ (Wo.tk (l.drop (k + m)) (k + m + 1)).1, (Wo.tk (l.drop (k + m)) (k + m + 1)).2) by
              have h0 : Wo.fst ((s[k]'hlt) :: l.drop (k + 1)) ≠ 0 := by rw [← HD.out, ← hm]; exact hf
              rw [HT.out, HD.out, Wo.tk_word _ _ _ H35.out HBL.out h0, ← HD.out, ← hm, List.drop_drop]
              have e1 : k + 1 + m = k + m + 1 := by omega
              rw [e1]; simp)
            have HM := hid hf
            clear hf hm
            go_wp2_with (first | (go_at_call 40; refine (q _).mono ?_; rintro e w' ⟨rfl, rfl⟩) | (at_builtin; refine wpList_append_own_at _ rfl _ _ 43 rfl w.heap.size 45 i0 (.agg #[.string ⟨#[]⟩, .int .i64 0, .int .i64 0]) 3 32 Tryd.underlying43 HI.out HZ0.out HZ1.out HZ2.out rfl (by decide) (.slice ao ws.length cap) ws.length (flatW (Wo.wds n ws)) rfl (HO.out.alloc _) ⟨World.heap _ |>.size, 0, none⟩ 1 1 [.string (s.extract k (k + m)), .int .i64 (n : Int), .int .i64 ((k : Int) + 1)] rfl rfl (new_cells _ #[.string (s.extract k (k + m)), .int .i64 (n : Int), .int .i64 ((k : Int) + 1)] _ _ rfl) ?c2 ?c3 ?c4 ?c5 ?_))
            case c2 => simp [Value.oneCell']
            case c3 => unfold maxLen; omega
            case c4 => omega
            case c5 => simp; omega
            intro v' w5 hown5 hgrow5 _ _
            obtain ⟨a5, cap5, rfl⟩ := own_form hown5
            have HO5 := hid (show w5.ownsRow w.heap.size 45 3 (.slice a5 (ws.length + 1) cap5) (ws ++ [((l.drop k).take m, k + 1)]).length (flatW (Wo.wds n (ws ++ [((l.drop k).take m, k + 1)]))) by
              rw [HEX.out] at hown5
              rw [wds_snoc, flatW_snoc, List.length_append, List.length_singleton]
              exact hown5)
            have HB5 := hid (show Below w.heap.size w w5 from (HB.out.alloc hbs _).grown hgrow5 (by simp; omega) (fun i hi => (HO.out.lt i hi).1))
            clear hown5 hgrow5
            go_wp2
            go_roundw
            case rel => exact ⟨k + m, ws ++ [((l.drop k).take m, k + 1)], by omega, by go_num, by rw [List.length_append, List.length_singleton]; have := HM.out; omega, HO5, HTT, HB5⟩
            case measure => have := HM.out; simp [intOf]; omega
        · have hb3 : ((((s[k]'hlt).toNat : Int) == 32) = true) ∨ ((((s[k]'hlt).toNat : Int) == 32) = false ∧ (((s[k]'hlt).toNat : Int) == 9) = true) := by
            have := hbl
            rw [blk_two] at this
            cases h1 : (((s[k]'hlt).toNat : Int) == 32) with
            | true => left; rfl
            | false => right; rw [h1] at this; exact ⟨rfl, by simpa using this⟩
          have HTT := hid (show Wo.tk l 1 = (ws ++ (Wo.tk (l.drop (k + 1)) (k + 1 + 1)).1, (Wo.tk (l.drop (k + 1)) (k + 1 + 1)).2) by
            rw [HT.out, HD.out, Wo.tk_blank _ _ _ H35.out hbl])
          clear hbl
          rcases hb3 with hb1 | ⟨hb1, hb2⟩
          all_goals
            go_wp2
            go_roundw
            case rel => exact ⟨k + 1, ws, by omega, by go_num, by omega, HO, HTT, HB⟩
            case measure => simp [intOf]; omega
    · have HE := hid (show (Wo.tk l 1).2 = none ∧ (Wo.tk l 1).1 = ws by
        have e : l.drop k = [] := List.drop_of_length_le (by rw [← HSZ.out]; omega)
        rw [HT.out, e, Wo.tk_nil]; simp)
      go_wp2
      go_ret2
      refine ⟨HB.out, Or.inr ⟨_, HE.out.1, rfl, ?_⟩⟩
      rw [HE.out.2]; exact HO.out
end Go.Proofs.YtalmcdhohoplpaaDoor
