/-
  Merge: the document's.
-/
import Derived.Test.YtibbbjikehkbmabDoorGRMrg
namespace Go.Proofs.YtibbbjikehkbmabDoor.Ve
open Go.RowKit

set_option maxRecDepth 20000 in
set_option maxHeartbeats 4000000 in
theorem RMerge_any {w : World} {v : Value} {ls : List (List St)} (h : VecsV w v ls) (hm : ls.length ≤ maxLen) (hml : ∀ l ∈ ls, l.length ≤ maxLen) :
    Calls Tryd.prog 10 #[v] w fun e w' => ∃ v', e = .returned (.tuple #[v', .bool (mrgP ls).2.1, .int .i64 (mrgP ls).2.2]) ∧ VecV w' v' (mrgP ls).1 ∧ Below w.heap.size w w' := by
  have HC := hid (RCheck_any h hm hml)
  obtain ⟨ao, c, rfl, -, -, hrow⟩ := h
  obtain ⟨n, hn⟩ : ∃ n, n = ls.length := ⟨_, rfl⟩
  rw [← hn] at HC hm ⊢
  have HN := hid hn
  have HROW := hid hrow
  have HML := hid hml
  unfold maxLen at hm
  clear hn hrow hml
  rcases chkN_two ls with h0 | h0
  · rw [h0] at HC
    have HR := hid (right_all h0)
    have HCH := hid h0
    clear h0
    go_enter Tryd.func10, Tryd.ntmps10
    go_wp2_with fail
    refine HC.out.mono ?_
    rintro e w1 ⟨rfl, hd⟩
    have HB1 := hid (drew_below hd)
    clear hd
    go_wp2_with fail
    go_loopw [6, 7, 8, 9, 10] (fun vo vi _ _ _ wr => ∃ (i : Nat) (a : Option Addr) (m cc : Nat), i ≤ n ∧ vi = .int .i64 i ∧ vo = .slice a m cc ∧ Hid (m = (joinS (preS ls i 0)).length ∧ agrS (preS ls i 0)) ∧ Hid (Below w.heap.size w wr ∧ VecV wr (.slice a m cc) (joinS (preS ls i 0)))) (fun _ vi _ _ _ _ => n - (intOf vi).toNat)
    case atStart => exact ⟨0, none, 0, 0, Nat.zero_le _, rfl, rfl, ⟨by simp [preS, joinS], by simp [preS, agrS]⟩, HB1.out, by rw [show joinS (preS ls 0 0) = [] by simp [preS, joinS]]; exact vec_nil _⟩
    case round =>
      obtain ⟨i, a, m, cc, hi, rfl, rfl, HMA, HBV⟩ := hrel
      by_cases hlt : i < n
      · obtain ⟨l, hl⟩ : ∃ l, ls[i]? = some l := ⟨_, List.getElem?_eq_getElem (by rw [← HN.out]; exact hlt)⟩
        obtain ⟨g, o, rfl, hg, hc⟩ := HROW.out.resolve_left (fun e => by rw [e] at hl; simp at hl)
        obtain ⟨vl, hvl, al, cl, rfl, -, -, hrl⟩ := hc i l hl
        have hll := HML.out l (List.mem_of_getElem? hl)
        obtain ⟨ml, hmm⟩ : ∃ ml, ml = l.length := ⟨_, rfl⟩
        rw [← hmm] at hvl hll
        have HM := hid hmm
        have HL := hid hl
        have HRL := hid hrl
        have HVL := hid hvl
        have HG := hid hg
        have iI : (i : Int) < (n : Int) := by omega
        have i0 : (0 : Int) ≤ (i : Int) := by omega
        unfold maxLen at hll
        rename World => wo
        clear hl hrl hc hmm hvl hg
        go_wp2_with fail
        go_loopw [6, 8, 9, 10] (fun vo vk _ _ wr => ∃ (k : Nat) (a : Option Addr) (m cc : Nat), k ≤ ml ∧ vk = .int .i64 k ∧ vo = .slice a m cc ∧ Hid (m = (joinS (preS ls i k)).length ∧ agrS (preS ls i k)) ∧ Hid (Below w.heap.size w wr ∧ VecV wr (.slice a m cc) (joinS (preS ls i k)))) (fun _ vk _ _ _ => ml - (intOf vk).toNat)
        case atStart => exact ⟨0, a, m, cc, Nat.zero_le _, rfl, rfl, HMA.out, HBV.out⟩
        case round =>
          clear HMA HBV
          obtain ⟨k, a, m, cc, hk, rfl, rfl, HMA, HBV⟩ := hrel
          have z0 := (HBV.out.1.cell (p := ⟨g, o + i, none⟩) HG.out).trans HVL.out
          by_cases hkm : k < ml
          · obtain ⟨s, hs⟩ : ∃ s, l[k]? = some s := ⟨_, List.getElem?_eq_getElem (by rw [← HM.out]; exact hkm)⟩
            obtain ⟨g', o', rfl, hg', hc'⟩ := (HRL.out.below HBV.out.1).resolve_left (fun e => by rw [e] at hs; simp at hs)
            obtain ⟨c0, c1⟩ := hc' k _ hs
            have HNX := hid (preS_next HL.out hs)
            have HD := hid (preS_right HR.out i k)
            have HDN := hid (preS_right HR.out i (k + 1))
            have hrj := (mem_joinS HD.out).1
            have kI : (k : Int) < (ml : Int) := by omega
            have k0 : (0 : Int) ≤ (k : Int) := by omega
            have HF := hid (RFind_any HBV.out.2 (by have := right_len hrj; unfold maxLen; omega) s.1)
            have HPT := hid (RPut_any HBV.out.2 hrj s)
            obtain ⟨⟨q, ok⟩, hq⟩ : ∃ q, q = fndP (joinS (preS ls i k)) s.1 := ⟨_, rfl⟩
            rw [← hq] at HF
            have HQ := hid hq
            obtain ⟨d, u⟩ := s
            simp only at c0 c1 HF HPT
            clear hs hc' hrj hq hkm
            rcases bool_two ok with hok | hok
            · subst hok
              have HJ := hid (show joinS (preS ls i (k + 1)) = putV (joinS (preS ls i k)) (d, u) by rw [HNX.out, join_put HD.out (Or.inl (by rw [← HQ.out]))])
              have HA2 := hid (show agrS (preS ls i (k + 1)) by rw [HNX.out]; exact (agr_snoc HD.out HMA.out.2).2 (fun hb => by rw [← HQ.out] at hb; cases hb))
              go_wp2_with fail
              refine HF.out.mono ?_
              rintro e w' ⟨rfl, e'⟩
              have ew := e'.symm
              clear e'
              subst ew
              go_wp2_with fail
              refine HPT.out.mono ?_
              rintro e w3 ⟨v3, rfl, hv3, hb3⟩
              have HV3 := hid hv3
              obtain ⟨a3, c3, e3, -⟩ := hv3
              subst e3
              have HB3 := hid (HBV.out.1.trans (hb3.mono HBV.out.1.size))
              obtain ⟨m3, hm3⟩ : ∃ m3, m3 = (putV (joinS (preS ls i k)) (d, u)).length := ⟨_, rfl⟩
              rw [← hm3] at HV3 ⊢
              have HM3 := hid hm3
              clear hb3 hm3
              go_wp2
              go_roundw
              case rel => exact ⟨k + 1, a3, m3, c3, by omega, by go_num, rfl, ⟨by rw [HJ.out]; exact HM3.out, HA2.out⟩, HB3.out, by rw [HJ.out]; exact HV3.out⟩
              case measure => simp [intOf]; omega
            · subst hok
              by_cases hqu : q = u
              · have hqe := hqu.symm
                clear hqu
                subst hqe
                have hne : ((u : Int) != (u : Int)) = false := by simp
                have HJ := hid (show joinS (preS ls i (k + 1)) = putV (joinS (preS ls i k)) (d, u) by rw [HNX.out, join_put HD.out (Or.inr (by rw [← HQ.out]; exact Nat.le_refl _))])
                have HA2 := hid (show agrS (preS ls i (k + 1)) by rw [HNX.out]; exact (agr_snoc HD.out HMA.out.2).2 (fun _ => by rw [← HQ.out]))
                go_wp2_with fail
                refine HF.out.mono ?_
                rintro e w' ⟨rfl, e'⟩
                have ew := e'.symm
                clear e'
                subst ew
                go_wp2_with fail
                refine HPT.out.mono ?_
                rintro e w3 ⟨v3, rfl, hv3, hb3⟩
                have HV3 := hid hv3
                obtain ⟨a3, c3, e3, -⟩ := hv3
                subst e3
                have HB3 := hid (HBV.out.1.trans (hb3.mono HBV.out.1.size))
                obtain ⟨m3, hm3⟩ : ∃ m3, m3 = (putV (joinS (preS ls i k)) (d, u)).length := ⟨_, rfl⟩
                rw [← hm3] at HV3 ⊢
                have HM3 := hid hm3
                clear hb3 hm3
                go_wp2
                go_roundw
                case rel => exact ⟨k + 1, a3, m3, c3, by omega, by go_num, rfl, ⟨by rw [HJ.out]; exact HM3.out, HA2.out⟩, HB3.out, by rw [HJ.out]; exact HV3.out⟩
                case measure => simp [intOf]; omega
              · have hne : ((q : Int) != (u : Int)) = true := by rw [bne_iff_ne]; omega
                have hne2 : (q != u) = true := by rw [bne_iff_ne]; exact hqu
                have HE := hid (show mrgP ls = ([], false, 0) by
                  unfold mrgP
                  rw [if_pos HCH.out, if_neg (preS_no (i := i) (k := k + 1) (fun hh => hqu (by
                    rw [HNX.out] at hh
                    have := (agr_snoc HD.out HMA.out.2).1 hh (by rw [← HQ.out])
                    rw [← HQ.out] at this
                    exact this)))])
                clear hqu
                go_wp2_with fail
                refine HF.out.mono ?_
                rintro e w' ⟨rfl, e'⟩
                have ew := e'.symm
                clear e'
                subst ew
                go_wp2
                refine bodyPost_ret (results_tmp3 (fn := Tryd.f10) rfl _ _ _) rfl ?_
                exact ⟨.slice none 0 0, by rw [HE.out]; rfl, by rw [HE.out]; exact vec_nil _, HBV.out.1⟩
          · have hkm' : k = ml := by omega
            have HJ := hid (show preS ls i k = preS ls (i + 1) 0 from preS_row HL.out (by rw [hkm', HM.out]))
            have kI : ¬ (k : Int) < (ml : Int) := by omega
            clear hkm'
            go_wp2
            go_roundw
            case rel => exact ⟨i + 1, a, m, cc, by omega, by go_num, rfl, by rw [← HJ.out]; exact HMA.out, by rw [← HJ.out]; exact HBV.out⟩
            case measure => simp [intOf]; omega
      · have hin : i = n := by omega
        have iI : ¬ (i : Int) < (n : Int) := by omega
        have HP := hid (preS_end (ls := ls) (i := i) (by rw [hin, HN.out]))
        have HE := hid (show mrgP ls = (joinS ls.flatten, true, 0) by
          unfold mrgP
          rw [if_pos HCH.out, if_pos (by rw [← HP.out]; exact HMA.out.2)])
        clear hin
        go_wp2
        refine bodyPost_ret (results_tmp3 (fn := Tryd.f10) rfl _ _ _) rfl ?_
        exact ⟨_, by rw [HE.out]; rfl, by rw [HE.out, ← HP.out]; exact HBV.out.2, HBV.out.1⟩
  · rw [h0] at HC
    have HE := hid (show mrgP ls = ([], false, 160) by unfold mrgP; rw [if_neg (by rw [h0]; decide), h0])
    clear h0
    go_enter Tryd.func10, Tryd.ntmps10
    go_wp2_with fail
    refine HC.out.mono ?_
    rintro e w1 ⟨rfl, hd⟩
    go_wp2
    refine bodyPost_ret (results_tmp3 (fn := Tryd.f10) rfl _ _ _) rfl ?_
    exact ⟨.slice none 0 0, by rw [HE.out]; rfl, by rw [HE.out]; exact vec_nil _, drew_below hd⟩
end Go.Proofs.YtibbbjikehkbmabDoor.Ve
