/-
  The document's own reckoning of a text: the walk of Lines.
-/
import Derived.Test.YtalmcdhohoplpaaDoorWRefT
namespace Go.Proofs.YtalmcdhohoplpaaDoor
open Go.RowKit

set_option maxRecDepth 4000 in
set_option maxHeartbeats 2000000 in
theorem RLines_any (l : List UInt8) (w : World) (hl : l.length ≤ 1048576) :
    Calls Tryd.prog 11 #[.string (tx l)] w fun e w' => ∃ v, e = .returned (.tuple #[v, .int .i64 (Wo.faultL l), .int .i64 (Wo.faultC l), .int .i64 (Wo.err l)]) ∧ Hid (LinesAt w' w.heap.size v (Wo.read l)) ∧ Below w.heap.size w w' := by
  obtain ⟨s, hs⟩ : ∃ s, s = tx l := ⟨_, rfl⟩
  have hsl : s.data.toList = l := by rw [hs]
  have hsz : s.size = l.length := by rw [hs, tx_size]
  rw [← hs]
  have HS := hid hs
  have HSL := hid hsl
  have HSZ := hid hsz
  have hss : s.size ≤ 1048576 := by omega
  clear hs hsl hsz
  have hI0 : decide ((1048576 : Int) < (s.size : Int)) = false := decide_eq_false (by omega)
  obtain ⟨i0, hi, hz0, hz1, hz2⟩ := info_parts Tryd.infoWords
  have HI := hid hi
  have HZ0 := hid hz0
  have HZ1 := hid hz1
  have HZ2 := hid hz2
  clear hi hz0 hz1 hz2
  go_enter Tryd.func11, Tryd.ntmps11
  go_wp2
  clear hI0
  go_loopw [6, 7, 8, 9] (fun v a b i wr => ∃ ls f n k, a = .int .i64 ((f : Nat) : Int) ∧ b = .int .i64 ((n : Nat) : Int) ∧ i = .int .i64 ((k : Nat) : Int) ∧ Hid (TInv w l v ls f n k wr)) (fun _ _ _ i _ => s.size + 1 - (intOf i).toNat)
  case atStart => exact ⟨[], 0, 1, 0, rfl, rfl, rfl, TInv.start w l⟩
  case round =>
    obtain ⟨ls, f, n, k, rfl, rfl, rfl, J⟩ := hrel
    obtain ⟨ao, cap, rfl⟩ := J.out.rows.form
    have hfk := J.out.le
    have hnf := J.out.num
    have hlf := J.out.few
    have hbs := J.out.below.size
    have hkf : k ≤ s.size + 1 := by rw [HSZ.out]; rcases J.out.fin with h | h <;> omega
    by_cases hle : k ≤ s.size
    · have hkI : (0 : Int) ≤ (k : Int) := by omega
      have hkI2 : (k : Int) ≤ (s.size : Int) := by omega
      have hfI : (0 : Int) ≤ (f : Int) := by omega
      have hfI2 : (f : Int) ≤ (k : Int) := by omega
      by_cases hgo : ∃ h : k < s.size, (s[k]'h).toNat ≠ 10
      · obtain ⟨hlt, h10⟩ := hgo
        have hkI3 : (k : Int) < (s.size : Int) := by omega
        have hb : (((s[k]'hlt).toNat : Int) != 10) = true := by rw [bne_iff_ne]; omega
        have J2 := hid (J.out.step (at_bytes l s HSL.out hlt) h10)
        clear h10
        go_wp2
        go_roundw
        case rel => exact ⟨ls, f, n, k + 1, rfl, rfl, by go_num, J2⟩
        case measure => simp [intOf]; omega
      · have hk10 : (∃ c, l[k]? = some c ∧ c.toNat = 10) ∨ k = l.length := by
          by_cases hlt : k < s.size
          · left
            refine ⟨_, at_bytes l s HSL.out hlt, ?_⟩
            by_cases h10 : (s[k]'hlt).toNat = 10
            · exact h10
            · exact absurd ⟨hlt, h10⟩ hgo
          · right; rw [← HSZ.out]; omega
        have hgate : (∃ hlt : k < s.size, (k : Int) < (s.size : Int) ∧ (((s[k]'hlt).toNat : Int) != 10) = false) ∨ ¬ k < s.size := by
          by_cases hlt : k < s.size
          · left
            refine ⟨hlt, by omega, ?_⟩
            by_cases h10 : (s[k]'hlt).toNat = 10
            · simp [h10]
            · exact absurd ⟨hlt, h10⟩ hgo
          · right; exact hlt
        have HK := hid hk10
        have HEX := hid (show s.extract f k = tx (seg l f k) by rw [HS.out]; exact ext_seg l)
        have hsg := seg_len l f k
        have q := fun w => line_any (seg l f k) n w (by omega) (by omega)
        rw [← HEX.out] at q
        clear hk10 hgo
        rcases hgate with ⟨hlt, hg1, hg2⟩ | hg1
        all_goals
          go_wp2_with fail
          refine (q _).mono ?_
          rintro e w1 ⟨hb1, ⟨c, hf, rfl⟩ | ⟨x, hno, rfl, hx⟩⟩
          · obtain ⟨e1, e2, e3, e4⟩ := text_fault (J.out.fault HK.out hf)
            have HE := hid (And.intro e1 (And.intro e2 (And.intro e3 e4)))
            have HCM := hid (tk_col _ _ _ hf).2
            clear e1 e2 e3 e4 hf
            have hcI : (0 : Int) ≤ (c : Int) := by omega
            have hcm : c ≤ 1048576 := by have := HCM.out; omega
            go_wp2
            rw [HE.out.1, HE.out.2.1, HE.out.2.2.1, HE.out.2.2.2]
            refine bodyPost_ret (v := .tuple #[.slice none 0 0, .int .i64 n, .int .i64 ((c + 1 : Nat) : Int), .int .i64 30]) (by simp [results, Tryd.results11, go_sem]) rfl ⟨_, rfl, LinesAt.nil _ _, J.out.below.trans (hb1.mono hbs)⟩
          · obtain ⟨a1, cap1, rfl⟩ := own_form hx
            have HX := hid (hx.mono hbs)
            have HNO := hid hno
            clear hx hno
            have hs1 := hb1.size
            by_cases hz : (Wo.tk (seg l f k) 1).1 = []
            · have hlz : ((Wo.tk (seg l f k) 1).1.length : Int) = 0 := by rw [hz]; rfl
              have J2 := hid (J.out.next0 HK.out HNO.out hz hb1)
              clear hz
              go_wp2
              go_roundw
              case rel => exact ⟨ls, k + 1, n + 1, k + 1, by go_num, by go_num, by go_num, J2⟩
              case measure => simp [intOf]; omega
            · have hlz : (0 : Int) < ((Wo.tk (seg l f k) 1).1.length : Int) := by
                have : (Wo.tk (seg l f k) 1).1.length ≠ 0 := fun e => hz (List.length_eq_zero_iff.1 e)
                omega
              obtain ⟨vs, hvs, hvl, hvi⟩ : LinesAt w1 w.heap.size (.slice ao ls.length cap) ls := J.out.rows.below hb1
              have HVS := hid hvs
              have HVL := hid hvl
              have HVI := hid hvi
              have HZ := hid hz
              clear hvs hvl hvi hz
              go_wp2_with (first | (at_builtin; refine wpList_append_own_at _ rfl _ _ 22 rfl w.heap.size 43 i0 (.slice none 0 0) 1 24 Tryd.underlying22 HI.out HZ0.out HZ1.out HZ2.out rfl (by decide) (.slice ao ls.length cap) ls.length vs rfl (HVS.out.alloc _) ⟨w1.heap.size, 0, none⟩ 1 1 [.slice a1 (Wo.tk (seg l f k) 1).1.length cap1] rfl rfl (new_cells _ #[.slice a1 (Wo.tk (seg l f k) 1).1.length cap1] _ _ rfl) ?c2 ?c3 ?c4 ?c5 ?_))
              case c2 => simp [Value.oneCell']
              case c3 => unfold maxLen; omega
              case c4 => omega
              case c5 => simp; omega
              intro v' w3 hown3 hgrow3 _ _
              obtain ⟨a3, cap3, rfl⟩ := own_form hown3
              have J3 := hid (J.out.next1 HK.out HNO.out HZ.out hb1 HX.out HVS.out HVL.out HVI.out hown3 hgrow3)
              clear hown3 hgrow3
              go_wp2
              go_roundw
              case rel => exact ⟨_, k + 1, n + 1, k + 1, by go_num, by go_num, by go_num, J3⟩
              case measure => simp [intOf]; omega
    · obtain ⟨e1, e2⟩ := J.out.done (by rw [← HSZ.out]; omega)
      obtain ⟨k1, k2, k3, k4⟩ := text_well e1
      have HE := hid (And.intro k1 (And.intro k2 (And.intro k3 k4)))
      have HE2 := hid e2
      clear e1 e2 k1 k2 k3 k4
      have hkI : decide ((k : Int) ≤ (s.size : Int)) = false := decide_eq_false (by omega)
      go_wp2
      rw [HE.out.1, HE.out.2.1, HE.out.2.2.1, HE.out.2.2.2, HE2.out]
      refine bodyPost_ret (v := .tuple #[.slice ao ls.length cap, .int .i64 0, .int .i64 0, .int .i64 0]) (by simp [results, Tryd.results11, go_sem]) rfl ⟨_, rfl, J.out.rows, J.out.below⟩
end Go.Proofs.YtalmcdhohoplpaaDoor
