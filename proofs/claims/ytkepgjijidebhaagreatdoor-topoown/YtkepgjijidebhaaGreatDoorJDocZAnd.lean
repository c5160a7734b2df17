/-
  The document's Same of two topologies, exactly; its Texts.
  The law's own run: alive.
  The law's own topology: what it is parsed as.
  The document's Parse: the walk.
-/
import Derived.Test.YtkepgjijidebhaaGreatDoorJParBAnd
import Derived.Test.YtkepgjijidebhaaGreatDoorJDone
import Derived.Test.YtkepgjijidebhaaGreatDoorWRefLAnd
import Derived.Deep.CutBlock
import Derived.Test.YtkepgjijidebhaaGreatDoorWRefSAnd
import Derived.Test.YtkepgjijidebhaaGreatDoorJDocKAnd
namespace Go.Proofs.YtkepgjijidebhaaGreatDoor
open Go.RowKit
open Wo (Wd)
namespace Dt

set_option maxRecDepth 20000 in
set_option maxHeartbeats 4000000 in
theorem RParse11_any (s : List UInt8) (w : World) (hs : s.length ≤ 1048576) : Calls Tryz.prog 10 #[.string (tx s)] w fun en w' => RPrsQ w s en w' := by
  obtain ⟨W0, hW0⟩ : ∃ W0, W0 = w.alloc (tobJ (.int .i64 0) (.slice none 0 0) (.slice none 0 0)) := ⟨_, rfl⟩
  obtain ⟨R, hR⟩ : ∃ R, R = w.heap.size := ⟨_, rfl⟩
  have hb0 : Below w.heap.size w W0 := by rw [hW0]; exact (Below.refl _ _).alloc (Nat.le_refl _) _
  have ht0 : W0.heap[R]? = some (tobJ (.int .i64 0) (.slice none 0 0) (.slice none 0 0)) := by rw [hW0, hR]; exact new_0 _ _
  have hs0 : W0.heap.size = R + 1 := by rw [hW0, hR]; simp
  have HB0 := hid hb0
  have HT0 := hid ht0
  have HRW := hid hR
  clear hb0 ht0
  -- the end of each way: the result is stored
  have HEND := hid (fun (X : World) (a b c : Value) (hb : Below W0.heap.size W0 X) => (by
    have hXR : X.heap[R]? = some (tobJ (.int .i64 0) (.slice none 0 0) (.slice none 0 0)) := (hb.block R (by omega)).trans HT0.out
    obtain ⟨V, hV, hv, bV, vk⟩ := par_box (X := X) (a := a) (b := b) (c := c) hXR
    refine ⟨⟨by rw [cell_at hXR]; rfl, by rw [cell_at hXR]; rfl, by rw [cell_at hXR]; rfl⟩, ⟨free_of hXR, free_of hXR, free_of hXR⟩, by rw [← hV]; exact hv, ?_, fun k hk => by rw [← hV]; exact vk k hk⟩
    rw [← hV, ← HRW.out]
    have h0 := HB0.out
    refine ⟨bV.os.trans (hb.os.trans h0.os), bV.tape.trans (hb.tape.trans h0.tape), bV.output.trans (hb.output.trans h0.output), ?_, fun k hk => ?_⟩
    · have := bV.size; have := hb.size; omega
    · rw [vk k (by omega), hb.block k (by omega), h0.block k (by rw [← HRW.out]; exact hk)] : (X.cell? ⟨R, 0, none⟩ = some (.int .i64 0) ∧ X.cell? ⟨R, 1, none⟩ = some (.slice none 0 0) ∧ X.cell? ⟨R, 2, none⟩ = some (.slice none 0 0)) ∧ (X.frozen? ⟨R, 0, none⟩ = false ∧ X.frozen? ⟨R, 1, none⟩ = false ∧ X.frozen? ⟨R, 2, none⟩ = false) ∧ ((((X.setCell ⟨R, 0, none⟩ a).setCell ⟨R, 1, none⟩ b).setCell ⟨R, 2, none⟩ c).cell? ⟨R, 0, none⟩ = some a ∧ (((X.setCell ⟨R, 0, none⟩ a).setCell ⟨R, 1, none⟩ b).setCell ⟨R, 2, none⟩ c).cell? ⟨R, 1, none⟩ = some b ∧ (((X.setCell ⟨R, 0, none⟩ a).setCell ⟨R, 1, none⟩ b).setCell ⟨R, 2, none⟩ c).cell? ⟨R, 2, none⟩ = some c) ∧ Below w.heap.size w (((X.setCell ⟨R, 0, none⟩ a).setCell ⟨R, 1, none⟩ b).setCell ⟨R, 2, none⟩ c) ∧ ∀ k, k ≠ R → (((X.setCell ⟨R, 0, none⟩ a).setCell ⟨R, 1, none⟩ b).setCell ⟨R, 2, none⟩ c).heap[k]? = X.heap[k]?))
  have HN := hid (RLines_any s W0 hs)
  by_cases he : Wo.err s = 0
  case neg =>
    obtain ⟨hne, herr⟩ : Wo.err s = 30 ∧ prsT s = .error (Wo.faultL s, Wo.faultC s, Wo.err s) := by
      refine ⟨?_, by unfold prsT; rw [if_pos he]⟩
      unfold Wo.err at he ⊢
      split at he
      · exact absurd rfl he
      · rfl
    have HE := hid herr
    rw [hne] at HN HE
    obtain ⟨a, ha⟩ : ∃ a, a = Wo.faultL s := ⟨_, rfl⟩
    obtain ⟨b, hb⟩ : ∃ b, b = Wo.faultC s := ⟨_, rfl⟩
    rw [← ha, ← hb] at HN HE
    clear ha hb herr hne he
    go_enter Tryz.func10, Tryz.ntmps10
    go_wp2_with fail
    rw [← hR, ← hW0]
    clear hW0 hR
    refine HN.out.mono ?_
    rintro en w1 ⟨v, rfl, HL, hb1⟩
    obtain ⟨ao, cap, rfl⟩ := HL.out.form
    obtain ⟨⟨n0, n1, n2⟩, ⟨m0, m1, m2⟩, ⟨v0, v1, v2⟩, hV, -⟩ := HEND.out w1 (.int .i64 0) (.slice none 0 0) (.slice none 0 0) hb1
    have HV := hid hV
    clear hV hb1
    go_wp2
    refine bodyPost_ret (v := .tuple #[.agg #[.int .i64 0, .slice none 0 0, .slice none 0 0], .int .i64 a, .int .i64 b, .int .i64 30]) (by simp [results, Tryz.results10, go_sem, v0, v1, v2]) rfl ?_
    exact ⟨HV.out, Or.inl ⟨(a, b, 30), HE.out, rfl⟩⟩
  case pos =>
    have hpr := hid (show prsT s = readT (Wo.read s) by unfold prsT; rw [if_neg (fun q => q he)])
    have hfz : Wo.faultL s = 0 ∧ Wo.faultC s = 0 := by
      unfold Wo.err at he
      unfold Wo.faultL Wo.faultC
      cases h : (Wo.rd (Wo.lns s) 1).2 with
      | none => exact ⟨rfl, rfl⟩
      | some p => rw [h] at he; cases he
    rw [hfz.1, hfz.2, he] at HN
    have hlsn := (read_boundsJ s).1
    obtain ⟨ls, hls⟩ : ∃ ls, ls = Wo.read s := ⟨_, rfl⟩
    have HLF := hid (fun (v : Value) (w1 : World) (q : LinesAt w1 W0.heap.size v (Wo.read s)) (h0 : 0 < (Wo.read s).length) => lines_forJ q hs h0)
    rw [← hls] at HN hpr HLF hlsn
    have hl9 : ls.length ≤ 1048577 := by omega
    clear he hfz hls hlsn
    go_enter Tryz.func10, Tryz.ntmps10
    go_wp2_with fail
    rw [← hR, ← hW0]
    clear hW0 hR
    refine HN.out.mono ?_
    rintro en w1 ⟨v, rfl, HL, hb1⟩
    have HB1 := hid hb1
    have hsz1 : W0.heap.size ≤ w1.heap.size := hb1.size
    clear hb1
    by_cases h0 : 0 < ls.length
    case neg =>
      obtain ⟨ao, cap, rfl⟩ := HL.out.form
      have e0 : ls = [] := List.length_eq_zero_iff.1 (by omega)
      have HE := hid (hpr.out.trans (show readT ls = .error (0, 0, 110) by rw [e0]; rfl))
      have hl0 : ls.length = 0 := by omega
      rw [hl0]
      obtain ⟨⟨n0, n1, n2⟩, ⟨m0, m1, m2⟩, ⟨v0, v1, v2⟩, hV, -⟩ := HEND.out w1 (.int .i64 0) (.slice none 0 0) (.slice none 0 0) HB1.out
      have HV := hid hV
      clear e0 h0 hV
      go_wp2
      refine bodyPost_ret (v := .tuple #[.agg #[.int .i64 0, .slice none 0 0, .slice none 0 0], .int .i64 0, .int .i64 0, .int .i64 110]) (by simp [results, Tryz.results10, go_sem, v0, v1, v2]) rfl ?_
      exact ⟨HV.out, Or.inl ⟨(0, 0, 110), HE.out, rfl⟩⟩
    case pos =>
      obtain ⟨g, cap, G, C, rfl, hLs⟩ := HLF.out v w1 HL.out h0
      have HLS := hid hLs
      obtain ⟨L, hL⟩ : ∃ L, L = ls.length := ⟨_, rfl⟩
      have HLL := hid hL
      rw [← hL] at h0 hl9 ⊢
      obtain ⟨N, hN⟩ : ∃ N, N = w1.heap.size := ⟨_, rfl⟩
      obtain ⟨W2, hW2⟩ : ∃ W2, W2 = w1.alloc (.cells #[.int .i64 0, .slice none 0 0, .slice none 0 0, .slice none 0 0] 68) := ⟨_, rfl⟩
      have I0 := hid (show RpI N w1 TSt.nil [] [] (.slice none 0 0) (.slice none 0 0) W2 from by
        rw [hW2, hN]
        exact ⟨new_0 _ _, DvO.nil _ _, rfl, World.ownsRow_nil _ _ _ _, (Below.refl _ _).alloc (Nat.le_refl _) _, by simp, TOk.nil, Sim.nil⟩)
      have HNN := hid hN
      have hRN : R < N := by omega
      have hL1 : ¬ ((L : Int) = 0) := by omega
      have hL2 : ¬ (L = 0) := by omega
      have hL3 : ((L : Int) == 0) = false := by rw [beq_eq_false_iff_ne]; exact hL1
      have hL4 : (L == 0) = false := by rw [beq_eq_false_iff_ne]; exact hL2
      clear hLs hL
      go_upto_block 0 with fail
      rw [← hN, ← hW2]
      clear hN hW2
      go_cut [] (fun wx => ∃ (s' : TSt) (vs : List (To.Dv × Value × Value)) (ns : List NmZ) (c1 cn : Value), Hid (RpI N w1 s' vs ns c1 cn wx ∧ rdsT 0 TSt.nil ls = .ok s'))
      case first =>
        go_wp2_with fail
        go_loopw [11, 12, 13] (fun i _ _ wr => ∃ (k : Nat) (s' : TSt) (vs : List (To.Dv × Value × Value)) (ns : List NmZ) (c1 cn : Value), k ≤ L ∧ i = .int .i64 k ∧ Hid (RpI N w1 s' vs ns c1 cn wr ∧ rdsT 0 TSt.nil ls = rdsT k s' (ls.drop k))) (fun i _ _ _ => L - (intOf i).toNat)
        case atStart => exact ⟨0, TSt.nil, [], [], _, _, Nat.zero_le _, rfl, hid ⟨I0.out, rfl⟩⟩
        case round =>
          obtain ⟨k, s1, vs, ns, c1, cn, hk, rfl, HI⟩ := hrel
          rename World => wr
          by_cases hlt : k < L
          · have hkI : (k : Int) < (L : Int) := by omega
            have hk0 : (0 : Int) ≤ (k : Int) := by omega
            obtain ⟨x, hx⟩ : ∃ x, ls[k]? = some x := ⟨_, List.getElem?_eq_getElem (by rw [← HLL.out]; exact hlt)⟩
            have hsm := HLS.out.small x (List.mem_of_getElem? hx)
            obtain ⟨a, t, hat⟩ : ∃ a t, x = a :: t := by
              cases x with
              | nil => exact absurd hsm.1 (by simp)
              | cons a t => exact ⟨a, t, rfl⟩
            subst hat
            have hLr := HLS.out.below (by have h := HI.out.1.low; rw [HNN.out] at h; exact h)
            have hck := hLr.line k _ hx
            have hgr := hLr.word k _ hx
            obtain ⟨rb, hrb⟩ : ∃ rb, rb = wr.heap.size := ⟨_, rfl⟩
            obtain ⟨ro, hro⟩ : ∃ ro : Obj, ro = .cells #[.slice (some ⟨G k, 0, none⟩) (a :: t).length (C k), .int .i64 0, .int .i64 0, .int .i64 0, .int .i64 0] 72 := ⟨_, rfl⟩
            have hNr : N < rb := by have := HI.out.1.size; omega
            have hgN : G k < N := by have := (HLS.out.word k _ hx).1; rw [HNN.out]; exact this
            have RF := hid (show RfAt (wr.alloc ro) rb (G k) (a :: t) 0 0 0 0 from by
              rw [hro, hrb]
              exact ⟨⟨C k, new_0 _ _⟩, ⟨⟨by simp; exact Nat.lt_succ_of_lt hgr.1, fun i y hy => by
                have e : (wr.alloc (.cells #[.slice (some ⟨G k, 0, none⟩) (a :: t).length (C k), .int .i64 0, .int .i64 0, .int .i64 0, .int .i64 0] 72)).heap[G k]? = wr.heap[G k]? := heap_old _ _ hgr.1
                obtain ⟨q1, q2, q3⟩ := hgr.2 i y hy
                exact ⟨by rw [World.cell?_of_block e]; exact q1, by rw [World.cell?_of_block e]; exact q2, by rw [World.cell?_of_block e]; exact q3⟩⟩, hsm.1, hsm.2.2, hsm.2.1⟩, by have := hgr.1; omega, Nat.zero_le _⟩)
            have HW := hid (Word_any RF.out)
            have hwt : ∀ w : World, (Instr.field 74 (wv a) 0).run Tryz.prog w = .ok (.string (tx a.1)) w := fun w => wv_text a w
            rw [show atW (a :: t) 0 = a from rfl] at HW
            obtain ⟨m, hm⟩ : ∃ m, m = (a :: t).length := ⟨_, rfl⟩
            have HM := hid hm
            rw [← hm] at hck hro
            have HX := hid hx
            clear hx hsm hLr hgr hm
            rw [hro, hrb] at HW
            go_wp2_with fail
            rw [← hrb] at HW ⊢
            rw [← hro] at HW ⊢
            clear hck
            refine HW.out.mono ?_
            rintro en w2 ⟨rfl, hb2⟩
            have R2 := hid (RF.out.on hb2)
            have I2 := hid ((HI.out.1.on ((Below.refl _ _).alloc (Nat.le_refl _) ro)).on hb2)
            clear hb2 HW RF hro hrb
            have HRB := hid (show ∃ cs fr, w2.heap[rb]? = some (.cells cs 72 fr) from by obtain ⟨cap, hc⟩ := R2.out.blk; exact ⟨_, _, hc⟩)
            have hw2 : N < w2.heap.size := I2.out.size
            have hgr : G k ≠ N := by omega
            have HSZ := hid (show (Ru.nx (Ru.endW (a :: t)) t).1.length ≤ 1048576 from atW_short R2.out.ok 1)
            have hpb := I2.out.p
            go_upto_block 2 with fail
            go_cut [] (fun wx => Hid (LnP N w1 rb (G k) (a :: t) (linT k s1 a (Ru.endW (a :: t)) t) wx))
            case first =>
              by_cases hkz : k = 0
              · subst hkz
                have HWD := hid (Rwidth_any R2.out hpb (by omega) hgr)
                have HLW := hid (lin_width (s := s1) a t)
                go_wp2_with fail
                refine HWD.out.mono ?_
                rintro en w3 ⟨rfl, hg3, ⟨n, j, he, hp3, hr3⟩ | ⟨f, j, he, hf, hr3⟩⟩
                · have hn9 : n ≤ 128 := by
                    unfold widD at he
                    split at he
                    · cases he
                    · exact wid_ok he
                  have HF := hid (show LnP N w1 rb (G 0) (a :: t) (linT 0 s1 a (Ru.endW (a :: t)) t) w3 from .inl ⟨_, vs, ns, c1, cn, j, by rw [HLW.out, he], I2.out.width hg3 (.inr HRB.out) n hn9 hp3 (by omega) hNr, hr3⟩)
                  clear he hp3 hr3 hg3
                  go_wp2_with fail
                  go_meet
                  exact hid HF.out
                · have HF := hid (show LnP N w1 rb (G 0) (a :: t) (linT 0 s1 a (Ru.endW (a :: t)) t) w3 from .inr ⟨f, j, by rw [HLW.out, he], hf, ⟨hg3.os.trans I2.out.low.os, hg3.tape.trans I2.out.low.tape, hg3.output.trans I2.out.low.output, Nat.le_trans I2.out.low.size hg3.size, fun q hq => (hg3.block q (by omega) (by omega) (by omega)).trans (I2.out.low.block q hq)⟩, Nat.lt_of_lt_of_le hw2 hg3.size, hr3⟩)
                  clear he hf hr3 hg3
                  go_wp2_with fail
                  go_meet
                  exact hid HF.out
              · have e1 : ((k : Int) == 0) = false := by rw [beq_eq_false_iff_ne]; omega
                have e2 : (k == 0) = false := by rw [beq_eq_false_iff_ne]; exact hkz
                have HKZ := hid hkz
                obtain ⟨nv, nc, hcn⟩ := own_formJ I2.out.nms
                obtain ⟨dv, dc, hc1⟩ := own_formJ I2.out.dvs.row
                subst hcn; subst hc1
                obtain ⟨R3w, hR3w⟩ : ∃ W, W = w2.setCell ⟨rb, 1, none⟩ (.int .i64 1) := ⟨_, rfl⟩
                have hm1 : 1 ≤ (a :: t).length := by simp
                have R3 := hid (show RfAt R3w rb (G k) (a :: t) 1 0 0 0 from by rw [hR3w]; exact R2.out.step 1 hm1)
                have I3 := hid (show RpI N w1 s1 vs ns (.slice dv vs.length dc) (.slice nv ns.length nc) R3w from by
                  obtain ⟨cs, fr, hrb⟩ := HRB.out
                  rw [hR3w]
                  exact I2.out.reader (grownSet _) hrb hNr)
                have HRB3 := hid (show ∃ cs fr, R3w.heap[rb]? = some (.cells cs 72 fr) from by obtain ⟨cap, hc⟩ := R3.out.blk; exact ⟨_, _, hc⟩)
                have hw3 : N < R3w.heap.size := I3.out.size
                have hnms : vs.map (·.1.name) = s1.nms := by unfold TSt.nms; rw [← I3.out.ofs, List.map_map]; rfl
                have HNMS := hid hnms
                obtain ⟨c1', c2', c3', c4', f1', f2', f3', f4'⟩ := R2.out.cells
                clear hpb hnms
                by_cases hd : a.1 = To.deviceT
                · have e3 : (a.1 == [100, 101, 118, 105, 99, 101]) = true := by rw [hd]; rfl
                  have HDV := hid (Rdevice11_any (B := N + 1) R3.out I3.out.p (by omega) hgr hw3 I3.out.dvs rfl (fun e => by have := (I3.out.dvs.row.lt _ e).1; omega) (by have := I3.out.ok.dl; rw [← I3.out.ofs, List.length_map] at this; exact this))
                  rw [HNMS.out] at HDV
                  have HLD := hid (lin_dev (s := s1) HKZ.out hd t)
                  clear hd hkz
                  go_wp2_with fail
                  rw [← hR3w]
                  clear hR3w c1' c2' c3' c4' f1' f2' f3' f4'
                  refine HDV.out.mono ?_
                  rintro en w3 ⟨rfl, hg3, ⟨d, vc, vp, v', j, he, hp3, hd3, hr3⟩ | ⟨f, j, he, hf, hr3⟩⟩
                  · have HF := hid (show LnP N w1 rb (G k) (a :: t) (linT k s1 a (Ru.endW (a :: t)) t) w3 from by
                      obtain ⟨cs, fr, hrb⟩ := HRB3.out
                      exact .inl ⟨_, _, ns, v', _, j, by rw [HLD.out]; exact (by rw [show To.dev a (Ru.endW (a :: t)) s1.nms t = .ok d from he]), I3.out.device hg3 hrb hNr hp3 hd3 he HSZ.out, hr3⟩)
                    clear he hp3 hr3 hg3 hd3
                    go_wp2_with fail
                    go_meet
                    exact hid HF.out
                  · have HF := hid (show LnP N w1 rb (G k) (a :: t) (linT k s1 a (Ru.endW (a :: t)) t) w3 from .inr ⟨f, j, by rw [HLD.out]; exact (by rw [show To.dev a (Ru.endW (a :: t)) s1.nms t = .error f from he]), hf, ⟨hg3.os.trans I3.out.low.os, hg3.tape.trans I3.out.low.tape, hg3.output.trans I3.out.low.output, Nat.le_trans I3.out.low.size hg3.size, fun q hq => (hg3.block q (by omega) (by omega) (by omega) (fun e => by have := (I3.out.dvs.row.lt q e).1; omega)).trans (I3.out.low.block q hq)⟩, Nat.lt_of_lt_of_le hw3 hg3.size, hr3⟩)
                    clear he hf hr3 hg3
                    go_wp2_with fail
                    go_meet
                    exact hid HF.out
                · have e3 : (a.1 == [100, 101, 118, 105, 99, 101]) = false := by rw [beq_eq_false_iff_ne]; exact hd
                  by_cases hl : a.1 = To.linkT
                  · have e4 : (a.1 == [108, 105, 110, 107]) = true := by rw [hl]; rfl
                    have HLK := hid (Rlink11_any (B := N + 1) R3.out I3.out.p (by omega) hgr hw3 (fun W hW => by
                      obtain ⟨cs, fr, hrb⟩ := HRB3.out
                      exact (dvo_kept I3.out.dvs hrb hW).lies) I3.out.nms rfl (by obtain ⟨cs, fr, hrb⟩ := HRB3.out; exact own_notJ I3.out.nms hrb Tryz.namNeR) (fun e => by have := (I3.out.nms.lt _ e).1; omega) (own_notJ I3.out.nms I3.out.p Tryz.namNeP) (by have := I3.out.ok.dl; rw [← I3.out.ofs, List.length_map] at this; omega) (by have := I3.out.ok.ll; rw [I3.out.sim.ls, List.length_map] at this; exact this))
                    rw [I3.out.ofs] at HLK
                    have HLD := hid (lin_link I3.out.sim HKZ.out hl t)
                    clear hd hl hkz
                    go_wp2_with fail
                    rw [← hR3w]
                    clear hR3w c1' c2' c3' c4' f1' f2' f3' f4'
                    refine HLK.out.mono ?_
                    rintro en w3 ⟨rfl, hg3, ⟨q, v', j, he, hp3, hn3, hv3, hr3⟩ | ⟨f, j, he, hf, hr3⟩⟩
                    · have HF := hid (show LnP N w1 rb (G k) (a :: t) (linT k s1 a (Ru.endW (a :: t)) t) w3 from by
                        obtain ⟨cs, fr, hrb⟩ := HRB3.out
                        exact .inl ⟨_, vs, _, _, v', j, by rw [HLD.out, he], I3.out.link hg3 hrb hNr hp3 hn3 he, hr3⟩)
                      clear he hp3 hr3 hg3 hn3 hv3
                      go_wp2_with fail
                      go_meet
                      exact hid HF.out
                    · have HF := hid (show LnP N w1 rb (G k) (a :: t) (linT k s1 a (Ru.endW (a :: t)) t) w3 from .inr ⟨f, j, by rw [HLD.out, he], hf, ⟨hg3.os.trans I3.out.low.os, hg3.tape.trans I3.out.low.tape, hg3.output.trans I3.out.low.output, Nat.le_trans I3.out.low.size hg3.size, fun q hq => (hg3.block q (by omega) (by omega) (by omega) (fun e => by have := (I3.out.nms.lt q e).1; omega)).trans (I3.out.low.block q hq)⟩, Nat.lt_of_lt_of_le hw3 hg3.size, hr3⟩)
                      clear he hf hr3 hg3
                      go_wp2_with fail
                      go_meet
                      exact hid HF.out
                  · have e4 : (a.1 == [108, 105, 110, 107]) = false := by rw [beq_eq_false_iff_ne]; exact hl
                    have HFL := hid (Fail_any R2.out 110)
                    rw [show atW (a :: t) 0 = a from rfl] at HFL
                    have HLD := hid (lin_none (s := s1) HKZ.out hd hl t)
                    have hrl := R2.out.lt
                    clear hd hl hkz hR3w c1' c2' c3' c4' f1' f2' f3' f4'
                    go_wp2_with fail
                    refine HFL.out.mono ?_
                    rintro en w3 ⟨rfl, hr3, hg3⟩
                    have HF := hid (show LnP N w1 rb (G k) (a :: t) (linT k s1 a (Ru.endW (a :: t)) t) w3 from .inr ⟨_, 0, HLD.out, by show (110 : Nat) ≠ 0; decide, ⟨hg3.os.trans I2.out.low.os, hg3.tape.trans I2.out.low.tape, hg3.output.trans I2.out.low.output, Nat.le_trans I2.out.low.size hg3.size, fun q hq => (hg3.block q (by omega) (fun e => by injection e; omega)).trans (I2.out.low.block q hq)⟩, Nat.lt_of_lt_of_le hw2 hg3.size, hr3⟩)
                    clear hr3 hg3
                    go_wp2_with fail
                    go_meet
                    exact hid HF.out
            case rest =>
              rename World => w4
              rcases hcut.out with ⟨s2, vs2, ns2, c12, cn2, j, hr, hI, hR⟩ | ⟨f, j, hr, hf, hb4, hN4, hR⟩
              · have HNX := hid (show RpI N w1 s2 vs2 ns2 c12 cn2 w4 ∧ rdsT 0 TSt.nil ls = rdsT (k + 1) s2 (ls.drop (k + 1)) from ⟨hI, run_next HI.out.2 HX.out hr⟩)
                obtain ⟨d1, d2, d3, d4, -⟩ := hR.cells
                clear hr hI hR hcut hpb
                go_wp2
                go_roundw
                case rel => exact ⟨k + 1, s2, vs2, ns2, c12, cn2, by omega, by go_num, HNX⟩
                case measure => simp [intOf]; omega
              · have HER := hid (hpr.out.trans (run_error HI.out.2 HX.out hr))
                obtain ⟨d1, d2, d3, d4, -⟩ := hR.cells
                obtain ⟨fa, fb, fc⟩ := f
                simp only at hf d2 d3 d4 hR
                have hb0 : Below W0.heap.size W0 w4 := HB1.out.trans ((HNN.out ▸ hb4 : Below w1.heap.size w1 w4).mono hsz1)
                obtain ⟨⟨n0, n1, n2⟩, ⟨m0, m1, m2⟩, ⟨v0, v1, v2⟩, hV, hvk⟩ := HEND.out w4 (.int .i64 0) (.slice none 0 0) (.slice none 0 0) hb0
                have HV := hid hV
                have hne : ¬ rb = R := by omega
                have SV : (((w4.setCell ⟨R, 0, none⟩ (.int .i64 0)).setCell ⟨R, 1, none⟩ (.slice none 0 0)).setCell ⟨R, 2, none⟩ (.slice none 0 0)).cell? ⟨rb, 2, none⟩ = some (.int .i64 fa) ∧ (((w4.setCell ⟨R, 0, none⟩ (.int .i64 0)).setCell ⟨R, 1, none⟩ (.slice none 0 0)).setCell ⟨R, 2, none⟩ (.slice none 0 0)).cell? ⟨rb, 3, none⟩ = some (.int .i64 fb) ∧ (((w4.setCell ⟨R, 0, none⟩ (.int .i64 0)).setCell ⟨R, 1, none⟩ (.slice none 0 0)).setCell ⟨R, 2, none⟩ (.slice none 0 0)).cell? ⟨rb, 4, none⟩ = some (.int .i64 fc) := by
                  have e := hvk rb hne
                  exact ⟨(World.cell?_of_block (by exact e)).trans d2, (World.cell?_of_block (by exact e)).trans d3, (World.cell?_of_block (by exact e)).trans d4⟩
                have h1 : ((fc : Int) != 0) = true := by rw [bne_iff_ne]; omega
                have h2 : ((fc : Int) == 0) = false := by rw [beq_eq_false_iff_ne]; omega
                have h3 : (fc != 0) = true := by rw [bne_iff_ne]; exact hf
                have h4 : ¬ fc = 0 := hf
                clear hr hR hcut hb4 hb0 hV hvk hpb
                go_wp2_with fail
                go_region_held3 (fun W => W.cell? ⟨rb, 2, none⟩ = some (.int .i64 fa) ∧ W.cell? ⟨rb, 3, none⟩ = some (.int .i64 fb) ∧ W.cell? ⟨rb, 4, none⟩ = some (.int .i64 fc)) (first | (go_keep; done) | exact SV) (fail)
                go_wp2
                refine bodyPost_ret (v := .tuple #[.agg #[.int .i64 0, .slice none 0 0, .slice none 0 0], .int .i64 fa, .int .i64 fb, .int .i64 fc]) (by simp [results, Tryz.results10, go_sem, v0, v1, v2]) rfl ?_
                exact ⟨HV.out.drew, Or.inl ⟨(fa, fb, fc), HER.out, rfl⟩⟩
          · have hkI : ¬ (k : Int) < (L : Int) := by omega
            have HDN := hid (show rdsT 0 TSt.nil ls = .ok s1 from by
              rw [HI.out.2, List.drop_eq_nil_of_le (by rw [← HLL.out]; omega)]; rfl)
            go_wp2_with fail
            go_meet
            exact ⟨s1, vs, ns, c1, cn, hid ⟨HI.out.1, HDN.out⟩⟩
      case rest =>
        obtain ⟨s1, vs, ns, c1, cn, hI⟩ := hcut
        rename World => w5
        have HI := hid hI.out.1
        have HRD := hid (show readT ls = if s1.ds = [] then .error (0, 0, 113) else .ok s1 from by
          unfold readT
          rw [if_neg (fun e => by rw [e] at HLL; have := HLL.out; simp at this; omega), hI.out.2])
        obtain ⟨dv, dc, hc1⟩ := own_formJ HI.out.dvs.row
        obtain ⟨nv, nc, hcn⟩ := own_formJ HI.out.nms
        subst hc1; subst hcn
        obtain ⟨M, hM⟩ : ∃ M, M = vs.length := ⟨_, rfl⟩
        have HMM := hid hM
        have hpb := HI.out.p
        have hlow := HI.out.low
        have q1 : w5.cell? ⟨N, 1, none⟩ = some (.slice dv M dc) := by rw [cell_at hpb, hM]; rfl
        have hb0 : Below W0.heap.size W0 w5 := HB1.out.trans ((HNN.out ▸ hlow : Below w1.heap.size w1 w5).mono hsz1)
        have HBW := hid hb0
        clear hI hlow hM
        by_cases hz : M = 0
        · subst hz
          have HE := hid (hpr.out.trans (show readT ls = .error (0, 0, 113) by
            have hv : vs = [] := List.eq_nil_of_length_eq_zero HMM.out.symm
            rw [HRD.out, if_pos (by rw [← HI.out.ofs, hv]; rfl)]))
          obtain ⟨⟨n0, n1, n2⟩, ⟨m0, m1, m2⟩, ⟨v0, v1, v2⟩, hV, -⟩ := HEND.out w5 (.int .i64 0) (.slice none 0 0) (.slice none 0 0) hb0
          have HV := hid hV
          clear hV hb0 hpb
          go_wp2
          refine bodyPost_ret (v := .tuple #[.agg #[.int .i64 0, .slice none 0 0, .slice none 0 0], .int .i64 0, .int .i64 0, .int .i64 113]) (by simp [results, Tryz.results10, go_sem, v0, v1, v2]) rfl ?_
          exact ⟨HV.out, Or.inl ⟨(0, 0, 113), HE.out, rfl⟩⟩
        · have HOK := hid (hpr.out.trans (show readT ls = .ok s1 by
            rw [HRD.out, if_neg (fun e => hz (by rw [HMM.out]; have := HI.out.ofs; rw [e] at this; simpa using this))]))
          have hnms : vs.map (·.1.name) = s1.nms := by unfold TSt.nms; rw [← HI.out.ofs, List.map_map]; rfl
          have HDN := hid (Rdone_any (B := N + 1) hpb HI.out.dvs rfl HI.out.nms rfl (by have := HI.out.ok.dl; rw [← HI.out.ofs, List.length_map] at this; exact this) (by have := HI.out.ok.ll; rw [HI.out.sim.ls, List.length_map] at this; exact this) (fun q hq => by rw [hnms]; exact HI.out.sim.mem q hq) HI.out.size)
          have e1 : ((M : Int) == 0) = false := by rw [beq_eq_false_iff_ne]; omega
          have e2 : (M == 0) = false := by rw [beq_eq_false_iff_ne]; exact hz
          clear hnms hb0 hpb
          go_wp2_with fail
          refine HDN.out.mono ?_
          rintro en w6 ⟨ds', ls', x1, x2, rfl, p1, p2, p3, p4, hd, hl, hg6⟩
          obtain ⟨xv, xc, hx1⟩ := own_formJ hd.row
          obtain ⟨yv, yc, hx2⟩ := own_formJ hl
          obtain ⟨dn, hdn⟩ : ∃ dn, dn = ds'.length := ⟨_, rfl⟩
          obtain ⟨lm, hlm⟩ : ∃ lm, lm = ls'.length := ⟨_, rfl⟩
          rw [← hdn] at hx1
          rw [← hlm] at hx2
          subst hx1; subst hx2
          have hb6 : Below W0.heap.size W0 w6 := ⟨hg6.os.trans HBW.out.os, hg6.tape.trans HBW.out.tape, hg6.output.trans HBW.out.output, Nat.le_trans HBW.out.size hg6.size, fun q hq => (hg6.block q (by have := HBW.out.size; omega) (fun e => by injection e; omega)).trans (HBW.out.block q hq)⟩
          obtain ⟨⟨n0, n1, n2⟩, ⟨m0, m1, m2⟩, ⟨v0, v1, v2⟩, hV, hvk⟩ := HEND.out w6 (.int .i64 s1.wid) (.slice xv dn xc) (.slice yv lm yc) hb6
          have HFN := hid (show RPrsQ w s (.returned (.tuple #[.agg #[.int .i64 s1.wid, .slice xv dn xc, .slice yv lm yc], .int .i64 0, .int .i64 0, .int .i64 0])) (((w6.setCell ⟨R, 0, none⟩ (.int .i64 s1.wid)).setCell ⟨R, 1, none⟩ (.slice xv dn xc)).setCell ⟨R, 2, none⟩ (.slice yv lm yc)) from by
            have hbase : w.heap.size ≤ N + 1 := by rw [← HRW.out]; omega
            have hk : ∀ (e : TypeId) (sz : Nat) (v : Value) (m : Nat) (xs : List Value), w6.ownsRow (N + 1) e sz v m xs → (((w6.setCell ⟨R, 0, none⟩ (.int .i64 s1.wid)).setCell ⟨R, 1, none⟩ (.slice xv dn xc)).setCell ⟨R, 2, none⟩ (.slice yv lm yc)).ownsRow w.heap.size e sz v m xs := fun e sz v m xs hu => own_baseJ (own_sameJ hu fun k q => hvk k (by have := (hu.lt k q).1; omega)) hbase
            exact ⟨hV, Or.inr ⟨s1, vs, ns, ds', ls', _, _, HOK.out, HI.out.ok, HI.out.sim, HI.out.ofs, rfl, p1, p2, p3, p4.imp (fun h => Int.not_lt.2 h), ⟨hk _ _ _ _ _ hd.row, fun q hq => hk _ _ _ _ _ (hd.cls q hq), fun q hq => hk _ _ _ _ _ (hd.prt q hq)⟩, hk _ _ _ _ _ hl⟩⟩)
          clear hV hvk p1 p2 p3 p4 hd hl hg6 hdn hlm hb6
          go_wp2
          refine bodyPost_ret (v := .tuple #[.agg #[.int .i64 s1.wid, .slice xv dn xc, .slice yv lm yc], .int .i64 0, .int .i64 0, .int .i64 0]) (by simp [results, Tryz.results10, go_sem, v0, v1, v2]) rfl ?_
          exact HFN.out
end Dt
end Go.Proofs.YtkepgjijidebhaaGreatDoor
namespace Go.Proofs.YtkepgjijidebhaaGreatDoor
open Go.RowKit
open Wo (Wd)

abbrev kText : List UInt8 := [119, 105, 100, 116, 104, 32, 52, 10, 100, 101, 118, 105, 99, 101, 32, 98, 32, 112, 111, 114, 116, 32, 112, 44, 113, 10, 100, 101, 118, 105, 99, 101, 32, 97, 32, 99, 108, 97, 115, 115, 32, 99, 111, 114, 101, 32, 112, 111, 114, 116, 32, 112, 10, 108, 105, 110, 107, 32, 98, 32, 113, 32, 45, 62, 32, 97, 32, 112, 10]
abbrev kB : To.Dv := ⟨[98], [], [[112], [113]]⟩
abbrev kA : To.Dv := ⟨[97], [[99, 111, 114, 101]], [[112]]⟩
abbrev kSt : TSt := ⟨4, [kB, kA], [⟨0, [113], 1, [112]⟩], [(0, [113]), (1, [112])]⟩
theorem k_prs : prsT kText = .ok kSt := by kernel_rfl
/-- The devices and the link in order. -/
theorem k_order {vs ds' : List (To.Dv × Value × Value)} {ls' : List To.Lk} (hv : vs.map (·.1) = [kB, kA]) (hp : ds'.Perm vs) (hs : ds'.Pairwise (fun a b => ¬ b.1.name < a.1.name)) (hl : ls'.Perm ([⟨0, [113], 1, [112]⟩].map (renL (posF vs ds')))) :
    (∃ a b, ds' = [a, b] ∧ a.1 = kA ∧ b.1 = kB) ∧ ls' = [⟨0, [112], 1, [113]⟩] := by
  obtain ⟨v0, v1, rfl, h0, h1⟩ : ∃ v0 v1, vs = [v0, v1] ∧ v0.1 = kB ∧ v1.1 = kA := by
    rcases vs with _ | ⟨v0, _ | ⟨v1, _ | ⟨v2, r⟩⟩⟩
    · cases hv
    · simp at hv
    · simp only [List.map_cons, List.map_nil, List.cons.injEq, and_true] at hv
      exact ⟨v0, v1, rfl, hv.1, hv.2⟩
    · simp at hv
  have hd : ds' = [v1, v0] := by
    have hlen := hp.length_eq
    rcases ds' with _ | ⟨d0, _ | ⟨d1, _ | ⟨d2, r⟩⟩⟩
    · simp at hlen
    · simp at hlen
    · have m0 : d0 ∈ [v0, v1] := hp.mem_iff.1 (by simp)
      have hs' : ¬ d1.1.name < d0.1.name := by simpa using hs
      rcases List.mem_cons.1 m0 with e | e
      · subst e
        have := hp.cons_inv
        have e1 : d1 = v1 := by simpa using this
        subst e1
        rw [h0, h1] at hs'
        exact absurd (by decide) hs'
      · have e' : d0 = v1 := by simpa using e
        subst e'
        have hp2 : [d0, d1].Perm [d0, v0] := hp.trans (List.Perm.swap _ _ _)
        have e1 : d1 = v0 := by simpa using hp2.cons_inv
        rw [e1]
    · simp at hlen
  subst hd
  refine ⟨⟨v1, v0, rfl, h1, h0⟩, ?_⟩
  have f0 : posF [v0, v1] [v1, v0] 0 = 1 := by
    unfold posF
    simp only [List.map_cons, List.map_nil, h0, h1]
    decide
  have f1 : posF [v0, v1] [v1, v0] 1 = 0 := by
    unfold posF
    simp only [List.map_cons, List.map_nil, h0, h1]
    decide
  have e : renL (posF [v0, v1] [v1, v0]) ⟨0, [113], 1, [112]⟩ = ⟨0, [112], 1, [113]⟩ := by
    unfold renL
    simp only [f0, f1]
    rw [if_pos (by decide)]
  rw [List.map_cons, List.map_nil, e] at hl
  exact List.perm_singleton.1 hl
end Go.Proofs.YtkepgjijidebhaaGreatDoor
namespace Go.Proofs.YtkepgjijidebhaaGreatDoor
open Go.RowKit

theorem lkEqJ (d d' a a' : Int) (m m' p p' : List UInt8) (w : World) : (binOp .eql 83 (.agg #[.int .i64 d, .string (tx m), .int .i64 a, .string (tx p)]) (.agg #[.int .i64 d', .string (tx m'), .int .i64 a', .string (tx p')])).run Tryz.prog w = .ok (.bool (decide (d = d' ∧ m = m' ∧ a = a' ∧ p = p'))) w := by
  have u0 := Tryz.underlying83
  have st : Tryz.prog.stoodInHeld 83 = false := by kernel_rfl
  have a0 := fun w => part_intJ w #[.int .i64 d, .string (tx m), .int .i64 a, .string (tx p)] 0 _ rfl
  have a1 := fun w => part_strJ w #[.int .i64 d, .string (tx m), .int .i64 a, .string (tx p)] 1 _ rfl
  have a2 := fun w => part_intJ w #[.int .i64 d, .string (tx m), .int .i64 a, .string (tx p)] 2 _ rfl
  have a3 := fun w => part_strJ w #[.int .i64 d, .string (tx m), .int .i64 a, .string (tx p)] 3 _ rfl
  have b0 := fun w => part_intJ w #[.int .i64 d', .string (tx m'), .int .i64 a', .string (tx p')] 0 _ rfl
  have b1 := fun w => part_strJ w #[.int .i64 d', .string (tx m'), .int .i64 a', .string (tx p')] 1 _ rfl
  have b2 := fun w => part_intJ w #[.int .i64 d', .string (tx m'), .int .i64 a', .string (tx p')] 2 _ rfl
  have b3 := fun w => part_strJ w #[.int .i64 d', .string (tx m'), .int .i64 a', .string (tx p')] 3 _ rfl
  unfold binOp
  simp only
  unfold Op.equal Op.maxDepth
  rw [Op.equalIn]
  by_cases h1 : d = d'
  · have e1 : (d == d') = true := by rw [h1]; simp
    by_cases h2 : m = m'
    · have e2 : (m == m') = true := by rw [h2]; simp
      by_cases h3 : a = a'
      · have e3 : (a == a') = true := by rw [h3]; simp
        by_cases h4 : p = p'
        · have e4 : (p == p') = true := by rw [h4]; simp
          rw [decide_eq_true ⟨h1, h2, h3, h4⟩]
          clear h1 h2 h3 h4
          simp [run_underlying u0, st, a0, a1, a2, a3, b0, b1, b2, b3, eq_intJ, eq_strJ, e1, e2, e3, e4, Result.andThen]
        · have e4 : (p == p') = false := beq_eq_false_iff_ne.2 h4
          rw [decide_eq_false (fun q => h4 q.2.2.2)]
          clear h1 h2 h3 h4
          simp [run_underlying u0, st, a0, a1, a2, a3, b0, b1, b2, b3, eq_intJ, eq_strJ, e1, e2, e3, e4, Result.andThen]
      · have e3 : (a == a') = false := beq_eq_false_iff_ne.2 h3
        rw [decide_eq_false (fun q => h3 q.2.2.1)]
        clear h1 h2 h3
        simp [run_underlying u0, st, a0, a1, a2, b0, b1, b2, eq_intJ, eq_strJ, e1, e2, e3, Result.andThen]
    · have e2 : (m == m') = false := beq_eq_false_iff_ne.2 h2
      rw [decide_eq_false (fun q => h2 q.2.1)]
      clear h1 h2
      simp [run_underlying u0, st, a0, a1, b0, b1, eq_intJ, eq_strJ, e1, e2, Result.andThen]
  · have e1 : (d == d') = false := beq_eq_false_iff_ne.2 h1
    rw [decide_eq_false (fun q => h1 q.1)]
    clear h1
    simp [run_underlying u0, st, a0, b0, eq_intJ, e1, Result.andThen]

set_option maxRecDepth 20000 in
set_option maxHeartbeats 1000000 in
theorem alive11 (w : World) : Calls Tryz.prog 12 #[] w fun e w' => e = .returned (.bool true) ∧ Below w.heap.size w w' := by
  have hEQ : ∀ w : World, (binOp .eql 83 (.agg #[.int .i64 0, .string (tx [112]), .int .i64 1, .string (tx [113])]) (.agg #[.int .i64 0, .string ⟨#[112]⟩, .int .i64 1, .string ⟨#[113]⟩])).run Tryz.prog w = .ok (.bool true) w := fun w => lkEqJ 0 0 1 1 [112] [112] [113] [113] w
  have HP := hid (oParse_any kText w (by decide))
  go_enter Tryz.func12, Tryz.ntmps12
  go_wp2_with fail
  refine HP.out.mono ?_
  rintro en w1 ⟨hb, ⟨f, hf, _⟩ | ⟨t, vs, ds', ls', c1, c2, hr, hok, hof, rfl, p1, p2, p3, p4, hd, hl⟩⟩
  · rw [k_prs] at hf; cases hf
  · rw [k_prs] at hr
    injection hr with hr
    subst hr
    obtain ⟨⟨a, b, rfl, ha, hbb⟩, rfl⟩ := k_order hof p1 p2 p3
    obtain ⟨g, cp, rfl, hg, hc⟩ := own_some hd.row (by simp)
    obtain ⟨g2, cp2, rfl, hg2, hc2⟩ := own_some hl (by simp)
    have d0 : w1.cell? ⟨g, 0, none⟩ = some (.string (tx [97])) := by
      have := hc 0 _ rfl
      rw [ha] at this
      exact this
    have l0 : w1.cell? ⟨g2, 0, none⟩ = some (.int .i64 0) := hc2 0 _ rfl
    have l1 : w1.cell? ⟨g2, 1, none⟩ = some (.string (tx [112])) := hc2 1 _ rfl
    have l2 : w1.cell? ⟨g2, 2, none⟩ = some (.int .i64 1) := hc2 2 _ rfl
    have l3 : w1.cell? ⟨g2, 3, none⟩ = some (.string (tx [113])) := hc2 3 _ rfl
    have HL := hid (show LkV w1 (.slice (some ⟨g2, 0, none⟩) 1 cp2) [(0, [112], 1, [113])] from ⟨_, _, rfl, Or.inr ⟨g2, 0, rfl, hg2, fun i q hq => by
      rcases i with _ | i
      · have e : q = (0, [112], 1, [113]) := by simpa using hq.symm
        subst e
        exact ⟨l0, l1, l2, l3⟩
      · simp at hq⟩⟩)
    have HB := hid hb
    clear hb hc hc2 hd hl p1 p2 p3 p4 hof hok ha hbb
    simp only [List.length_cons, List.length_nil, Nat.zero_add]
    have hpv : peerV (peerJ 0 [112] [(0, [112], 1, [113])]) = .tuple #[.int .i64 1, .string (tx [113]), .bool true] := rfl
    obtain ⟨W2, hW2⟩ : ∃ W2, W2 = w1.alloc (.cells #[.int .i64 4, .slice (some ⟨g, 0, none⟩) 2 cp, .slice (some ⟨g2, 0, none⟩) 1 cp2] 25) := ⟨_, rfl⟩
    have b2 : Below w1.heap.size w1 W2 := by rw [hW2]; exact (Below.refl _ _).alloc (Nat.le_refl _) _
    have ht : W2.heap[w1.heap.size]? = some (.cells #[.int .i64 4, .slice (some ⟨g, 0, none⟩) 2 cp, .slice (some ⟨g2, 0, none⟩) 1 cp2] 25) := by rw [hW2]; exact new_0 _ _
    have HT := hid ht
    have HB2 := hid b2
    have HPE := hid (oPeer_any (x0 := .int .i64 4) (x1 := .slice (some ⟨g, 0, none⟩) 2 cp) (HL.out.below b2) 0 [112] (fun q hq => by
      have e : q = (0, [112], 1, [113]) := by simpa using hq
      subst e
      exact ⟨by decide, by decide⟩) (by decide))
    rw [hpv] at HPE
    clear b2 ht hpv
    go_wp2_with fail
    rw [← hW2]
    clear hW2
    refine HPE.out.mono ?_
    rintro en w2 ⟨rfl, hb3⟩
    have hs2 : w1.heap.size < W2.heap.size := lt_of_block HT.out
    have hk : ∀ k, k < w1.heap.size → w2.heap[k]? = w1.heap[k]? := fun k q => (hb3.block k (by omega)).trans (HB2.out.block k q)
    have ht2 := (hb3.block _ hs2).trans HT.out
    have t0 : w2.cell? ⟨w1.heap.size, 0, none⟩ = some (.int .i64 4) := by rw [cell_at ht2]; rfl
    have t1 : w2.cell? ⟨w1.heap.size, 1, none⟩ = some (.slice (some ⟨g, 0, none⟩) 2 cp) := by rw [cell_at ht2]; rfl
    have t2 : w2.cell? ⟨w1.heap.size, 2, none⟩ = some (.slice (some ⟨g2, 0, none⟩) 1 cp2) := by rw [cell_at ht2]; rfl
    have e0 := (World.cell?_of_block (a := ⟨g, 0, none⟩) (hk g hg)).trans d0
    have m0 := (World.cell?_of_block (a := ⟨g2, 0, none⟩) (hk g2 hg2)).trans l0
    have m1 := (World.cell?_of_block (a := ⟨g2, 1, none⟩) (hk g2 hg2)).trans l1
    have m2 := (World.cell?_of_block (a := ⟨g2, 2, none⟩) (hk g2 hg2)).trans l2
    have m3 := (World.cell?_of_block (a := ⟨g2, 3, none⟩) (hk g2 hg2)).trans l3
    have HB3 := hid (show Below w.heap.size w w2 from by
      have h1 := HB.out
      have h2 := HB2.out
      exact ⟨hb3.os.trans (h2.os.trans h1.os), hb3.tape.trans (h2.tape.trans h1.tape), hb3.output.trans (h2.output.trans h1.output), by have := hb3.size; have := h1.size; omega, fun i hi => (hk i (by have := h1.size; omega)).trans (h1.block i hi)⟩)
    clear hk ht2 hb3 d0 l0 l1 l2 l3
    go_wp2
    go_ret
    exact ⟨rfl, HB3.out⟩
end Go.Proofs.YtkepgjijidebhaaGreatDoor
namespace Go.Proofs.YtkepgjijidebhaaGreatDoor
open Go.RowKit

set_option maxRecDepth 20000 in
set_option maxHeartbeats 2000000 in
theorem RTexts_exact {w : World} {v1 v2 : Value} {xs ys : List (List UInt8)} (h1 : Txs w v1 xs) (h2 : Txs w v2 ys) (hn : xs.length ≤ maxLen) (hm : ys.length ≤ maxLen) :
    Calls Tryz.prog 36 #[v1, v2] w fun e w' => e = .returned (.bool (decide (xs = ys))) ∧ ∃ n, w' = w.drewN n := by
  obtain ⟨a1, c1, rfl, r1⟩ := h1
  obtain ⟨a2, c2, rfl, r2⟩ := h2
  have HR1 := hid r1
  have HR2 := hid r2
  obtain ⟨n, hnn⟩ : ∃ n, n = xs.length := ⟨_, rfl⟩
  obtain ⟨m, hmm⟩ : ∃ m, m = ys.length := ⟨_, rfl⟩
  have HN := hid hnn
  have HM := hid hmm
  rw [← hnn] at hn ⊢
  rw [← hmm] at hm ⊢
  unfold maxLen at hn hm
  clear r1 r2 hnn hmm
  by_cases hq : n = m
  · subst hq
    have hne : ((n : Int) != (n : Int)) = false := by simp
    go_enter Tryz.func36, Tryz.ntmps36
    go_wp2_with fail
    go_loopw [5] (fun i wr => ∃ k : Nat, k ≤ n ∧ i = .int .i64 k ∧ Hid (∀ i, i < k → xs[i]? = ys[i]?) ∧ Hid (∃ m, wr = w.drewN m)) (fun i _ => n - (intOf i).toNat)
    case atStart => exact ⟨0, Nat.zero_le _, rfl, hid fun i h => absurd h (Nat.not_lt_zero _), hid ⟨0, rfl⟩⟩
    case round =>
      obtain ⟨k, hk, rfl, hA, hB⟩ := hrel
      by_cases hlt : k < n
      · obtain ⟨x, hx⟩ : ∃ x, xs[k]? = some x := ⟨_, List.getElem?_eq_getElem (by have := HN.out; omega)⟩
        obtain ⟨y, hy⟩ : ∃ y, ys[k]? = some y := ⟨_, List.getElem?_eq_getElem (by have := HM.out; omega)⟩
        obtain ⟨g, o, rfl, hg, hc⟩ := HR1.out.resolve_left (fun e => by rw [e] at hx; simp at hx)
        obtain ⟨g', o', rfl, hg', hc'⟩ := HR2.out.resolve_left (fun e => by rw [e] at hy; simp at hy)
        have e0 : wr.heap = w.heap := by obtain ⟨m, hm⟩ := hB.out; rw [hm]; rfl
        have d1 := hc k (by have := HN.out; omega)
        have d2 := hc' k (by have := HM.out; omega)
        rw [List.getD_eq_getElem?_getD, hx] at d1
        rw [List.getD_eq_getElem?_getD, hy] at d2
        have y1 := (World.cell?_of_block (w' := wr) (a := ⟨g, o + k, none⟩) (by rw [e0])).trans d1
        have y2 := (World.cell?_of_block (w' := wr) (a := ⟨g', o' + k, none⟩) (by rw [e0])).trans d2
        simp only [Option.getD_some] at y1 y2
        have kI : (k : Int) < (n : Int) := by omega
        have k0 : (0 : Int) ≤ (k : Int) := by omega
        have HX := hid hx
        have HY := hid hy
        clear hx hy hc hc' e0 d1 d2
        by_cases e : x = y
        · have HA2 := hid (show ∀ i, i < k + 1 → xs[i]? = ys[i]? from fun i hi => by
            by_cases q : i = k
            · rw [q, HX.out, HY.out, e]
            · exact hA.out i (by omega))
          subst e
          have hne2 : (x != x) = false := by simp
          go_wp2_with fail
          go_quiet (fail)
          go_wp2
          go_roundw
          case rel => exact ⟨k + 1, by omega, by go_num, HA2, hid (drew_more hB.out)⟩
          case measure => simp [intOf]; omega
        · have e1 : (x != y) = true := by rw [bne_iff_ne]; exact e
          have e2 : (x == y) = false := by rw [beq_eq_false_iff_ne]; exact e
          have HE := hid (show decide (xs = ys) = false from decide_eq_false (fun q => e (by
            have h1 := HX.out
            rw [q, HY.out] at h1
            injection h1 with h1
            exact h1.symm)))
          clear e
          go_wp2_with fail
          go_quiet (fail)
          go_wp2
          go_ret
          exact ⟨by rw [HE.out]; rfl, drew_more hB.out⟩
      · have hkn : k = n := by omega
        have HE := hid (show decide (xs = ys) = true from decide_eq_true (by
          apply List.ext_getElem?
          intro i
          by_cases q : i < n
          · exact hA.out i (by omega)
          · rw [List.getElem?_eq_none (by have := HN.out; omega), List.getElem?_eq_none (by have := HM.out; omega)]))
        go_wp2
        go_ret
        exact ⟨by rw [HE.out]; rfl, hB.out⟩
  · have HE := hid (show decide (xs = ys) = false from decide_eq_false (fun q => hq (by rw [HN.out, HM.out, q])))
    have hne : ((n : Int) != (m : Int)) = true := by rw [bne_iff_ne]; omega
    have hne2 : (n != m) = true := by rw [bne_iff_ne]; exact hq
    go_enter Tryz.func36, Tryz.ntmps36
    go_wp2
    go_ret
    exact ⟨by rw [HE.out]; rfl, 0, rfl⟩

theorem lkNeJ (d d' a a' : Int) (m m' p p' : List UInt8) (w : World) : (binOp .neq 83 (.agg #[.int .i64 d, .string (tx m), .int .i64 a, .string (tx p)]) (.agg #[.int .i64 d', .string (tx m'), .int .i64 a', .string (tx p')])).run Tryz.prog w = .ok (.bool (!decide (d = d' ∧ m = m' ∧ a = a' ∧ p = p'))) w := by
  have u0 := Tryz.underlying83
  have st : Tryz.prog.stoodInHeld 83 = false := by kernel_rfl
  have a0 := fun w => part_intJ w #[.int .i64 d, .string (tx m), .int .i64 a, .string (tx p)] 0 _ rfl
  have a1 := fun w => part_strJ w #[.int .i64 d, .string (tx m), .int .i64 a, .string (tx p)] 1 _ rfl
  have a2 := fun w => part_intJ w #[.int .i64 d, .string (tx m), .int .i64 a, .string (tx p)] 2 _ rfl
  have a3 := fun w => part_strJ w #[.int .i64 d, .string (tx m), .int .i64 a, .string (tx p)] 3 _ rfl
  have b0 := fun w => part_intJ w #[.int .i64 d', .string (tx m'), .int .i64 a', .string (tx p')] 0 _ rfl
  have b1 := fun w => part_strJ w #[.int .i64 d', .string (tx m'), .int .i64 a', .string (tx p')] 1 _ rfl
  have b2 := fun w => part_intJ w #[.int .i64 d', .string (tx m'), .int .i64 a', .string (tx p')] 2 _ rfl
  have b3 := fun w => part_strJ w #[.int .i64 d', .string (tx m'), .int .i64 a', .string (tx p')] 3 _ rfl
  unfold binOp
  simp only
  unfold Op.equal Op.maxDepth
  rw [Op.equalIn]
  by_cases h1 : d = d'
  · have e1 : (d == d') = true := by rw [h1]; simp
    by_cases h2 : m = m'
    · have e2 : (m == m') = true := by rw [h2]; simp
      by_cases h3 : a = a'
      · have e3 : (a == a') = true := by rw [h3]; simp
        by_cases h4 : p = p'
        · have e4 : (p == p') = true := by rw [h4]; simp
          rw [decide_eq_true ⟨h1, h2, h3, h4⟩]
          clear h1 h2 h3 h4
          simp [run_underlying u0, st, a0, a1, a2, a3, b0, b1, b2, b3, eq_intJ, eq_strJ, e1, e2, e3, e4, Result.andThen]
        · have e4 : (p == p') = false := beq_eq_false_iff_ne.2 h4
          rw [decide_eq_false (fun q => h4 q.2.2.2)]
          clear h1 h2 h3 h4
          simp [run_underlying u0, st, a0, a1, a2, a3, b0, b1, b2, b3, eq_intJ, eq_strJ, e1, e2, e3, e4, Result.andThen]
      · have e3 : (a == a') = false := beq_eq_false_iff_ne.2 h3
        rw [decide_eq_false (fun q => h3 q.2.2.1)]
        clear h1 h2 h3
        simp [run_underlying u0, st, a0, a1, a2, b0, b1, b2, eq_intJ, eq_strJ, e1, e2, e3, Result.andThen]
    · have e2 : (m == m') = false := beq_eq_false_iff_ne.2 h2
      rw [decide_eq_false (fun q => h2 q.2.1)]
      clear h1 h2
      simp [run_underlying u0, st, a0, a1, b0, b1, eq_intJ, eq_strJ, e1, e2, Result.andThen]
  · have e1 : (d == d') = false := beq_eq_false_iff_ne.2 h1
    rw [decide_eq_false (fun q => h1 q.1)]
    clear h1
    simp [run_underlying u0, st, a0, b0, eq_intJ, e1, Result.andThen]

/-- Two devices alike. -/
def dvE (x y : To.Dv) : Bool := (decide (x.name = y.name) && decide (x.cls = y.cls)) && decide (x.prt = y.prt)
def lkE (x y : LkZ) : Bool := decide (x.1 = y.1 ∧ x.2.1 = y.2.1 ∧ x.2.2.1 = y.2.2.1 ∧ x.2.2.2 = y.2.2.2)
def sameT (wd : Int) (ds : List To.Dv) (ls : List LkZ) (wd' : Int) (ds' : List To.Dv) (ls' : List LkZ) : Bool := (decide (wd = wd') && (decide (ds.length = ds'.length) && decide (ls.length = ls'.length))) && (allN ds.length (fun i => dvE (ds.getD i dv0) (ds'.getD i dv0)) && allN ls.length (fun i => lkE (ls.getD i lk0) (ls'.getD i lk0)))
end Go.Proofs.YtkepgjijidebhaaGreatDoor
