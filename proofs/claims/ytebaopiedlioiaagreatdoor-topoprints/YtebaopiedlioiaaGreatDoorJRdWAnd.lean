/-
  The law's own topology: what it is parsed as.
  topo.Parse of any text.
  topo.Parse: a text's topology, or its first fault.
  The topology of a text's lines, or its first fault: the walk of read.
-/
import Derived.Test.YtebaopiedlioiaaGreatDoorJKndAnd
import Derived.Test.YtebaopiedlioiaaGreatDoorWSkipAnd
import Derived.Test.YtebaopiedlioiaaGreatDoorWRefSAnd
namespace Go.Proofs.YtebaopiedlioiaaGreatDoor
open Go.RowKit
open Wo (Wd)

theorem endW_none (l : List Wd) : (Ru.endW l).1 = [] := by
  unfold Ru.endW
  split <;> rfl

set_option maxRecDepth 4000 in
set_option maxHeartbeats 4000000 in
theorem oread_any {w : World} {g : Nat} {ls : List (List Wd)} {G C : Nat → Nat} (hL : LsJ w g ls G C) (cap : Nat) (hne : ls ≠ []) (hn : ls.length ≤ 1048577) :
    Calls Tryz.prog 28 #[.slice (some ⟨g, 0, none⟩) ls.length cap] w fun en w' => RdPost w ls en w' := by
  have hmf : ∀ (fn : Fn) (first cap : Array Value) (w : World), (Instr.makeFunc fn first cap).run Tryz.prog w = .ok (.func fn first cap) w := fun _ _ _ _ => rfl
  have hmm : ∀ w : World, (Instr.makeMap 107 none).run Tryz.prog w = .ok (.map (some w.heap.size)) (w.alloc (.map #[] 0)) := fun _ => by kernel_rfl
  have hmn : ∀ w : World, (Instr.makeMap 109 none).run Tryz.prog w = .ok (.map (some w.heap.size)) (w.alloc (.map #[] 0)) := fun _ => by kernel_rfl
  have hnf : ∀ (fn : Fn) (first cap : Array Value) (w : World), (binOp .neq 1 (.func fn first cap) .nilFunc).run Tryz.prog w = .ok (.bool true) w := fun _ _ _ _ => by kernel_rfl
  have hnn0 : ∀ (w : World), (binOp .neq 1 .nilFunc .nilFunc).run Tryz.prog w = .ok (.bool false) w := fun _ => by kernel_rfl
  obtain ⟨n, hnn⟩ : ∃ n, ls.length = n := ⟨_, rfl⟩
  have h0 : 0 < ls.length := List.length_pos_iff.2 hne
  rw [hnn] at h0 hn ⊢
  have HNN := hid hnn
  have HL := hid hL
  have HNE := hid hne
  have hgl := hL.old
  obtain ⟨W7, hW7, hz7, hst⟩ := RdI.start w
  have HST := hid hst
  have HZ7 := hid hz7
  clear hL hne hnn hst hz7
  go_enter_defers Tryz.func28, Tryz.ntmps28
  go_wp2_with fail
  refine (omust_yes _ ([], 0, 0) 110 _).mono ?_
  rintro en w0 ⟨rfl, rfl⟩
  go_wp2_with fail
  rw [← hW7]
  clear hW7
  refine (okinds (w.heap.size + 4) W7).mono ?_
  rintro en W8 ⟨rfl, hk8, hb8⟩
  rw [HZ7.out] at hk8 hb8 ⊢
  have I0 := hid (HST.out W8 hk8 hb8)
  clear hk8 hb8
  go_wp2_with fail
  go_loopw [23] (fun i wr => ∃ (k : Nat) (s : TSt) (vs : List (To.Dv × Value × Value)) (c1 c2 : Value), k ≤ n ∧ i = .int .i64 k ∧ Hid (RdI w.heap.size w s vs c1 c2 wr) ∧ Hid (rdsT 0 TSt.nil ls = rdsT k s (ls.drop k))) (fun i _ => n - (intOf i).toNat)
  case atStart => exact ⟨0, TSt.nil, [], _, _, Nat.zero_le _, rfl, I0, hid rfl⟩
  case round =>
    obtain ⟨k, s, vs, c1, c2, hk, rfl, hI, hR⟩ := hrel
    by_cases hkn : k < n
    · have hkl : k < ls.length := by rw [HNN.out]; exact hkn
      obtain ⟨ln, hln⟩ : ∃ ln, ls[k]? = some ln := ⟨_, List.getElem?_eq_getElem hkl⟩
      have hsm := HL.out.small ln (List.mem_of_getElem? hln)
      obtain ⟨a, t, rfl⟩ : ∃ a t, ln = a :: t := by
        cases ln with
        | nil => exact absurd hsm.1 (by simp)
        | cons a t => exact ⟨a, t, rfl⟩
      have HLN := hid hln
      have hz := hI.out.size
      have hLr := HL.out.below hI.out.below
      have y0 := hLr.line k _ hln
      obtain ⟨hG, hW⟩ := hLr.word k _ hln
      have hG0 := (HL.out.word k _ hln).1
      have hcp := HL.out.cap k _ hln
      obtain ⟨gk, hgk⟩ : ∃ gk, G k = gk := ⟨_, rfl⟩
      obtain ⟨ck, hck⟩ : ∃ ck, C k = ck := ⟨_, rfl⟩
      rw [hgk] at y0 hG hW hG0
      rw [hck] at y0 hcp
      have HRW := hid hI.out.r
      have HBG := hid (show Calls Tryz.prog 58 #[.pointer (some ⟨w.heap.size + 4, 0, none⟩), .slice (some ⟨gk, 0, none⟩) (t.length + 1) ck] wr fun en w' => en = .returned (.tuple #[]) ∧ JOn wr w' (w.heap.size + 4) gk (.int .i64 s.wid) c1 c2 (.map (some (w.heap.size + 2))) (.map (some (w.heap.size + 3))) a t (Ru.endW (a :: t)) from by
        obtain ⟨d5, d6, d7, d8, d9, d10, d11, d12, d13, d14, hc⟩ := HRW.out
        exact obegin_any hc hG hW (by omega) (by simpa using hcp.1) (by have := hcp.2; unfold maxLen at this; omega) (fun x hx => hsm.2.2 x hx))
      obtain ⟨e, he⟩ : ∃ e, Ru.endW (a :: t) = e := ⟨_, rfl⟩
      have HSH := hid (show ShortJ e t from ⟨by rw [← he]; exact endW_none _, fun x hx => (hsm.2.2 x (List.mem_cons_of_mem _ hx)).1⟩)
      have HE := hid he
      rw [he] at HBG
      have hkI : (k : Int) < (n : Int) := by omega
      have hk0 : (0 : Int) ≤ (k : Int) := by omega
      obtain ⟨tl, htl⟩ : ∃ tl, t.length + 1 = tl := ⟨_, rfl⟩
      rw [htl] at HBG
      rw [List.length_cons, htl] at y0
      clear hln hsm hLr hG hW hcp hgk hck he hkl htl
      go_wp2_with fail
      refine HBG.out.mono ?_
      rintro en w1 ⟨rfl, hJ1⟩
      have J1 := hid hJ1
      obtain ⟨o1, cp1, -, ⟨q5, q6, q7⟩, -⟩ := hJ1.rd.cells
      have hlk := kndO_look (w := w1) (b := w.heap.size + 7) (rb := w.heap.size + 4) ((hJ1.on.block _ (by omega) (fun q => by injection q with q; omega)).trans hI.out.knd) a.1
      have I1 := hid (hI.out.on hI.out.ok.wd hJ1)
      clear hJ1
      change w1.cell? ⟨w.heap.size + 1 + 1 + 1 + 1, 5, none⟩ = _ at q5
      change w1.cell? ⟨w.heap.size + 1 + 1 + 1 + 1, 6, none⟩ = _ at q6
      change w1.cell? ⟨w.heap.size + 1 + 1 + 1 + 1, 7, none⟩ = _ at q7
      by_cases hw : a.1 = To.widthT
      · have hv : kndV (w.heap.size + 4) a.1 = mvJ 92 (w.heap.size + 4) := by unfold kndV; rw [if_pos hw]
        rw [hv] at hlk
        change _ = Result.ok (Value.func (.func 92) #[.pointer (some ⟨w.heap.size + 1 + 1 + 1 + 1, 0, none⟩)] #[]) _ at hlk
        have hbw : (a.1 == [119, 105, 100, 116, 104]) = true := by rw [hw]; rfl
        have HW := hid hw
        clear hv hw
        by_cases hk00 : k = 0
        · subst hk00
          go_wp2_with fail
          refine (omust_yes _ a 110 w1).mono ?_
          rintro en w2 ⟨rfl, rfl⟩
          have J2 := hid (J1.out.alloc (wob a))
          have I2 := hid (hI.out.on hI.out.ok.wd J2.out)
          have HWD := hid (owidth_any J2.out.rd HSH.out.nx)
          clear hlk hbw q5 q6 q7
          go_wp2_with fail
          refine HWD.out.mono ?_
          rintro en w3 (⟨m, hwd, rfl, hJ3⟩ | ⟨f, hwd, q, rfl, hF, hg⟩)
          · have I3 := hid (I2.out.on (wid_ok hwd) hJ3)
            have R3 := hid (run_next hR.out HLN.out (show linT 0 s a (Ru.endW (a :: t)) t = .ok { s with wid := m } by rw [HE.out]; unfold linT; rw [if_pos HW.out, if_pos rfl, hwd]))
            clear hJ3 hwd
            go_wp2
            exact ⟨⟨1, _, _, _, _, by omega, by simp, I3, R3⟩, by simp [intOf]; omega⟩
          · obtain ⟨b1, b2, b3⟩ := I2.out.gave (Gr2.ofA hg)
            exact oleave rfl rfl b1 b2 b3 hF (run_error hR.out HLN.out (by rw [HE.out]; unfold linT; rw [if_pos HW.out, if_pos rfl, hwd]))
        · have hk3 : ((k : Int) == 0) = false := by rw [beq_eq_false_iff_ne]; omega
          go_wp2_with fail
          refine (omust_raw I1.out.r false a 110).mono ?_
          rintro en w2 (⟨HB, -⟩ | ⟨-, q, rfl, hF, hg⟩)
          · exact absurd HB.out (by decide)
          · obtain ⟨b1, b2, b3⟩ := I1.out.gave (Gr2.ofA hg)
            exact oleave rfl rfl b1 b2 b3 hF (run_error hR.out HLN.out (by rw [HE.out]; unfold linT; rw [if_pos HW.out, if_neg hk00]))
      · have hbw : (a.1 == [119, 105, 100, 116, 104]) = false := by rw [beq_eq_false_iff_ne]; exact hw
        have HW := hid hw
        clear hw
        by_cases hk00 : k = 0
        · subst hk00
          have hvs : kndV (w.heap.size + 4) a.1 = Value.func (.func 93) #[.pointer (some ⟨w.heap.size + 1 + 1 + 1 + 1, 0, none⟩)] #[] ∨ kndV (w.heap.size + 4) a.1 = Value.func (.func 94) #[.pointer (some ⟨w.heap.size + 1 + 1 + 1 + 1, 0, none⟩)] #[] ∨ kndV (w.heap.size + 4) a.1 = Value.nilFunc := by
            unfold kndV
            rw [if_neg HW.out]
            by_cases h1 : a.1 = To.deviceT
            · rw [if_pos h1]; exact Or.inl rfl
            · rw [if_neg h1]
              by_cases h2 : a.1 = To.linkT
              · rw [if_pos h2]; exact Or.inr (Or.inl rfl)
              · rw [if_neg h2]; exact Or.inr (Or.inr rfl)
          rcases hvs with hv | hv | hv <;> (
            rw [hv] at hlk
            clear hv
            go_wp2_with fail
            refine (omust_raw I1.out.r false a 110).mono ?_
            rintro en w2 (⟨HB, -⟩ | ⟨-, q, rfl, hF, hg⟩)
            · exact absurd HB.out (by decide)
            · obtain ⟨b1, b2, b3⟩ := I1.out.gave (Gr2.ofA hg)
              exact oleave rfl rfl b1 b2 b3 hF (run_error hR.out HLN.out (by rw [HE.out]; unfold linT; rw [if_neg HW.out, if_pos rfl])))
        · have hk3 : ((k : Int) == 0) = false := by rw [beq_eq_false_iff_ne]; omega
          by_cases hd : a.1 = To.deviceT
          · have hv : kndV (w.heap.size + 4) a.1 = mvJ 93 (w.heap.size + 4) := by unfold kndV; rw [if_neg HW.out, if_pos hd]
            rw [hv] at hlk
            change _ = Result.ok (Value.func (.func 93) #[.pointer (some ⟨w.heap.size + 1 + 1 + 1 + 1, 0, none⟩)] #[]) _ at hlk
            have HD := hid hd
            clear hv hd
            go_wp2_with fail
            refine (omust_yes _ a 110 w1).mono ?_
            rintro en w2 ⟨rfl, rfl⟩
            have J2 := hid (J1.out.alloc (wob a))
            have I2 := hid (hI.out.on hI.out.ok.wd J2.out)
            have hN8 : w.heap.size + 8 ≤ (w1.alloc (wob a)).heap.size := I2.out.size
            have HDV := hid (odevice_any (B := w.heap.size + 8) J2.out.rd HSH.out I2.out.num (by omega) (by omega) I2.out.dvs.row (by rw [← List.length_map (f := fun q : To.Dv × Value × Value => q.1), I2.out.ofs]; simp [TSt.nms]) (by have h1 := I2.out.ok.dl; have h2 := congrArg List.length I2.out.ofs; rw [List.length_map] at h2; simp only at h1 h2; omega) (I2.out.far (by omega)).1 (I2.out.far (by omega)).1 (I2.out.far (by omega)).1 hN8)
            clear hlk hbw q5 q6 q7
            go_wp2_with fail
            refine HDV.out.mono ?_
            intro en w3 hq
            cases hdv : To.dev a e s.nms t with
            | ok d =>
              have hq' := hq
              rw [show To.dev a e ({ s with wid := s.wid } : TSt).nms t = .ok d from hdv] at hq'
              obtain ⟨vs', c1', rfl, hI3⟩ := I2.out.device HSH.out.nx hdv hq'
              have I3 := hid hI3
              have R3 := hid (run_next hR.out HLN.out (show linT k s a (Ru.endW (a :: t)) t = .ok { s with ds := s.ds ++ [d] } by rw [HE.out]; unfold linT; rw [if_neg HW.out, if_neg hk00, if_pos HD.out, hdv]))
              clear hI3 hq hq'
              go_wp2
              exact ⟨⟨k + 1, _, _, _, _, by omega, by simp, I3, R3⟩, by simp [intOf]; omega⟩
            | error f =>
              rcases hq with ⟨d', vc, vp, v', h1, _⟩ | ⟨f', h1, q, rfl, hF, hg⟩
              · rw [show To.dev a e ({ s with wid := s.wid } : TSt).nms t = .error f from hdv] at h1; cases h1
              · obtain ⟨b1, b2, b3⟩ := I2.out.gave (Gr2.ofA hg)
                exact oleave rfl rfl b1 b2 b3 hF (run_error hR.out HLN.out (by rw [HE.out]; unfold linT; rw [if_neg HW.out, if_neg hk00, if_pos HD.out, show To.dev a e s.nms t = .error f' from h1]))
          · by_cases hl : a.1 = To.linkT
            · have hv : kndV (w.heap.size + 4) a.1 = mvJ 94 (w.heap.size + 4) := by unfold kndV; rw [if_neg HW.out, if_neg hd, if_pos hl]
              rw [hv] at hlk
              change _ = Result.ok (Value.func (.func 94) #[.pointer (some ⟨w.heap.size + 1 + 1 + 1 + 1, 0, none⟩)] #[]) _ at hlk
              have HD := hid (And.intro hd hl)
              clear hv hd hl
              go_wp2_with fail
              refine (omust_yes _ a 110 w1).mono ?_
              rintro en w2 ⟨rfl, rfl⟩
              have J2 := hid (J1.out.alloc (wob a))
              have I2 := hid (hI.out.on hI.out.ok.wd J2.out)
              have hN8 : w.heap.size + 8 ≤ (w1.alloc (wob a)).heap.size := I2.out.size
              have HLV := hid (olink_any (B := w.heap.size + 8) (hp := fun p m => hasP s.ds p m) (JL.start J2.out.rd I2.out.num I2.out.tak) (by omega) (by omega) (by omega) (by omega) HSH.out (by have := I2.out.ok.dl; simp only [TSt.nms, List.length_map]; simp only at this; omega) (by have h1 := I2.out.ok.kl; have h2 := I2.out.ok.ll; simp only at h1 h2 ⊢; omega) I2.out.lks I2.out.ok.ll (I2.out.far (by omega)).2 (I2.out.far (by omega)).2 (I2.out.far (by omega)).2 (I2.out.far (by omega)).2 hN8 (fun W p m hW _ => by have := ohasPort_gr2 I2.out.dvs (by omega) (by omega) W p m hW; rw [I2.out.ofs] at this; exact this))
              clear hlk hbw q5 q6 q7
              go_wp2_with fail
              refine HLV.out.mono ?_
              intro en w3 hq
              cases hdv : lnkJ (fun p m => hasP s.ds p m) s.nms s.ks a e s.ls.length t with
              | ok ab =>
                obtain ⟨la, lb⟩ := ab
                have hq' := hq
                rw [show lnkJ (fun p m => hasP s.ds p m) ({ s with wid := s.wid } : TSt).nms ({ s with wid := s.wid } : TSt).ks a e ({ s with wid := s.wid } : TSt).ls.length t = .ok (la, lb) from hdv] at hq'
                obtain ⟨c2', rfl, hI3⟩ := I2.out.link hdv hq'
                have I3 := hid hI3
                have R3 := hid (run_next hR.out HLN.out (show linT k s a (Ru.endW (a :: t)) t = .ok { s with ls := s.ls ++ [jndL la lb], ks := s.ks ++ [la] ++ [lb] } by rw [HE.out]; unfold linT; rw [if_neg HW.out, if_neg hk00, if_neg HD.out.1, if_pos HD.out.2, hdv]))
                clear hI3 hq hq'
                go_wp2
                exact ⟨⟨k + 1, _, _, _, _, by omega, by simp, I3, R3⟩, by simp [intOf]; omega⟩
              | error f =>
                rcases hq with ⟨a', b', v', h1, _⟩ | ⟨f', h1, q, rfl, hF, hg⟩
                · rw [show lnkJ (fun p m => hasP s.ds p m) ({ s with wid := s.wid } : TSt).nms ({ s with wid := s.wid } : TSt).ks a e ({ s with wid := s.wid } : TSt).ls.length t = .error f from hdv] at h1; cases h1
                · obtain ⟨b1, b2, b3⟩ := I2.out.gave hg
                  exact oleave rfl rfl b1 b2 b3 hF (run_error hR.out HLN.out (by rw [HE.out]; unfold linT; rw [if_neg HW.out, if_neg hk00, if_neg HD.out.1, if_pos HD.out.2, show lnkJ (fun p m => hasP s.ds p m) s.nms s.ks a e s.ls.length t = .error f' from h1]))
            · have hv : kndV (w.heap.size + 4) a.1 = Value.nilFunc := by unfold kndV; rw [if_neg HW.out, if_neg hd, if_neg hl]
              rw [hv] at hlk
              have HD := hid (And.intro hd hl)
              clear hv hd hl
              go_wp2_with fail
              refine (omust_raw I1.out.r false a 110).mono ?_
              rintro en w2 (⟨HB, -⟩ | ⟨-, q, rfl, hF, hg⟩)
              · exact absurd HB.out (by decide)
              · obtain ⟨b1, b2, b3⟩ := I1.out.gave (Gr2.ofA hg)
                exact oleave rfl rfl b1 b2 b3 hF (run_error hR.out HLN.out (by rw [HE.out]; unfold linT; rw [if_neg HW.out, if_neg hk00, if_neg HD.out.1, if_neg HD.out.2]))
    · have hkn' : k = n := by omega
      subst hkn'
      have HRUN := hid (show rdsT 0 TSt.nil ls = .ok s from by
        rw [hR.out, ← HNN.out, List.drop_length]
        rfl)
      obtain ⟨d5, d6, d7, d8, d9, d10, d11, d12, d13, d14, hraw⟩ := hI.out.r
      have HRAW := hid hraw
      obtain ⟨dv, dc, hc1⟩ := own_formJ hI.out.dvs.row
      obtain ⟨lv, lc, hc2⟩ := own_formJ hI.out.lks
      subst hc1 hc2
      have q1 : wr.cell? ⟨w.heap.size + 1 + 1 + 1 + 1, 1, none⟩ = some (.slice dv vs.length dc) := by rw [cell_at hraw]; rfl
      have n0 : wr.cell? ⟨w.heap.size + 1 + 1 + 1 + 1 + 1, 0, none⟩ = some (.string ⟨#[]⟩) := by rw [cell_at hI.out.now]; rfl
      have n1 : wr.cell? ⟨w.heap.size + 1 + 1 + 1 + 1 + 1, 1, none⟩ = some (.int .i64 0) := by rw [cell_at hI.out.now]; rfl
      have n2 : wr.cell? ⟨w.heap.size + 1 + 1 + 1 + 1 + 1, 2, none⟩ = some (.int .i64 0) := by rw [cell_at hI.out.now]; rfl
      clear hraw
      obtain ⟨vn, hvn⟩ : ∃ vn, vs.length = vn := ⟨_, rfl⟩
      obtain ⟨bv, hbv⟩ : ∃ bv, decide (0 < vn) = bv := ⟨_, rfl⟩
      rw [hvn] at q1
      have HVN := hid hvn
      have HBV := hid hbv
      clear hvn
      go_wp2_with fail
      refine (omust_raw hI.out.r bv ([], 0, 0) 113).mono ?_
      rintro en w2 (⟨HB, rfl, rfl⟩ | ⟨HB, q, rfl, hF, hg⟩)
      rotate_left
      · obtain ⟨b1, b2, b3⟩ := hI.out.gave (Gr2.ofA hg)
        refine oleave rfl rfl b1 b2 b3 hF ?_
        have h0 : vs = [] := by
          have h1 := HBV.out
          rw [HB.out] at h1
          have h2 := of_decide_eq_false h1
          have h3 := HVN.out
          exact List.eq_nil_of_length_eq_zero (by omega)
        have h4 : s.ds = [] := by rw [← hI.out.ofs, h0]; rfl
        unfold readT
        rw [if_neg HNE.out, HRUN.out]
        show (if s.ds = [] then _ else _) = _
        rw [if_pos h4]
        rfl
      have I2 := hid (hI.out.grew (w' := wr.alloc (wob ([], 0, 0))) ((Below.refl _ _).alloc (Nat.le_refl _) _))
      have hnm : vs.map (·.1.name) = s.nms := by unfold TSt.nms; rw [← hI.out.ofs, List.map_map]; rfl
      have hvl : vs.length = s.ds.length := by rw [← hI.out.ofs, List.length_map]
      have HOR := hid (show Calls Tryz.prog 59 #[.pointer (some ⟨w.heap.size + 4, 0, none⟩)] (wr.alloc (wob ([], 0, 0))) fun en w' => en = .returned (.tuple #[]) ∧ OrdQ (w.heap.size + 8) (wr.alloc (wob ([], 0, 0))) (.slice dv vs.length dc) (.slice lv s.ls.length lc) vs s.ls w' from by
        obtain ⟨d5, d6, d7, d8, d9, d10, d11, d12, d13, d14, hr⟩ := I2.out.r
        exact oorder_any hr I2.out.dvs I2.out.lks (by rw [hnm]; exact I2.out.num) (by rw [hnm]; exact I2.out.ok.nd) (by rw [hvl]; exact I2.out.ok.dl) I2.out.ok.ll (by omega) (by omega) (by omega) (fun l hl => by rw [hvl]; exact I2.out.ok.at_ l hl) (fun d hd => I2.out.ok.sm d.1 (by rw [← I2.out.ofs]; exact List.mem_map_of_mem hd)))
      clear q1 n0 n1 n2 hnm hvl
      go_wp2_with fail
      refine HOR.out.mono ?_
      rintro en w3 ⟨rfl, hO⟩
      have HO := hid hO
      obtain ⟨ds', ls', -, -, -, -, -, -, -, -, -, -, hkeep⟩ := hO
      have hz2 := I2.out.size
      have ek : ∀ k, k < w.heap.size + 8 → w3.heap[k]? = (wr.alloc (wob ([], 0, 0))).heap[k]? := fun k hk => hkeep k (by omega) (I2.out.far hk).1 (I2.out.far hk).2
      obtain ⟨d5', d6', d7', d8', d9', d10', d11', d12', d13', d14', hr3⟩ := I2.out.r
      have hr3' := (ek (w.heap.size + 4) (by omega)).trans hr3
      have ht3 := (ek w.heap.size (by omega)).trans I2.out.t
      have hf3 := (ek (w.heap.size + 1) (by omega)).trans I2.out.f
      have r0 : w3.cell? ⟨w.heap.size + 1 + 1 + 1 + 1, 0, none⟩ = some (.int .i64 s.wid) := by rw [cell_at hr3']; rfl
      have r1 : w3.cell? ⟨w.heap.size + 1 + 1 + 1 + 1, 1, none⟩ = some (.slice dv vs.length dc) := by rw [cell_at hr3']; rfl
      have r2 : w3.cell? ⟨w.heap.size + 1 + 1 + 1 + 1, 2, none⟩ = some (.slice lv s.ls.length lc) := by rw [cell_at hr3']; rfl
      have t0 : w3.cell? ⟨w.heap.size, 0, none⟩ = some (.int .i64 0) := by rw [cell_at ht3]; rfl
      have t1 : w3.cell? ⟨w.heap.size, 1, none⟩ = some (.slice none 0 0) := by rw [cell_at ht3]; rfl
      have t2 : w3.cell? ⟨w.heap.size, 2, none⟩ = some (.slice none 0 0) := by rw [cell_at ht3]; rfl
      have u0 : w3.cell? ⟨w.heap.size + 1, 0, none⟩ = some (.int .i64 0) := by rw [cell_at hf3]; rfl
      have u1 : w3.cell? ⟨w.heap.size + 1, 1, none⟩ = some (.int .i64 0) := by rw [cell_at hf3]; rfl
      have u2 : w3.cell? ⟨w.heap.size + 1, 2, none⟩ = some (.int .i64 0) := by rw [cell_at hf3]; rfl
      have ft0 : w3.frozen? ⟨w.heap.size, 0, none⟩ = false := free_of ht3
      have ft1 : w3.frozen? ⟨w.heap.size, 1, none⟩ = false := free_of ht3
      have ft2 : w3.frozen? ⟨w.heap.size, 2, none⟩ = false := free_of ht3
      have fu0 : w3.frozen? ⟨w.heap.size + 1, 0, none⟩ = false := free_of hf3
      have fu1 : w3.frozen? ⟨w.heap.size + 1, 1, none⟩ = false := free_of hf3
      have fu2 : w3.frozen? ⟨w.heap.size + 1, 2, none⟩ = false := free_of hf3
      obtain ⟨V, hV, ⟨v0, v1, v2, v3, v4, v5⟩, bV, vk⟩ := rd_boxes (a := .int .i64 s.wid) (b := .slice dv vs.length dc) (c := .slice lv s.ls.length lc) ht3 hf3
      have HFN := hid (rd_done I2.out HO.out bV vk (show readT ls = .ok s from by
        have h0 : s.ds ≠ [] := fun q => by
          have h1 := HBV.out
          rw [HB.out] at h1
          have h2 := of_decide_eq_true h1
          have h3 := HVN.out
          have h4 := congrArg List.length I2.out.ofs
          rw [List.length_map, q, List.length_nil] at h4
          omega
        unfold readT
        rw [if_neg HNE.out, HRUN.out]
        show (if s.ds = [] then _ else _) = _
        rw [if_neg h0]))
      clear hr3 hr3' ht3 hf3 vk bV
      go_wp2
      rw [← hV]
      refine leaves_cons (f := 55) (args := #[.pointer (some ⟨w.heap.size + 4, 0, none⟩), .pointer (some ⟨w.heap.size, 0, none⟩), .pointer (some ⟨w.heap.size + 1, 0, none⟩)]) (by simp) (by simp [go_sem]) ?_
      refine (ocaught_not _ _ _ _).mono ?_
      rintro e u' w'' ⟨rfl, rfl, rfl⟩
      refine ⟨.tuple #[.agg #[.int .i64 s.wid, .slice dv vs.length dc, .slice lv s.ls.length lc], .agg #[.int .i64 0, .int .i64 0, .int .i64 0]], ?_, HFN.out⟩
      simp [results, Tryz.results28, go_sem, v0, v1, v2, v3, v4, v5]
end Go.Proofs.YtebaopiedlioiaaGreatDoor
namespace Go.Proofs.YtebaopiedlioiaaGreatDoor
open Go.RowKit
open Wo (Wd)

theorem tk_boundsJ (l : List UInt8) (c : Nat) : (Wo.tk l c).1.length ≤ l.length ∧ ∀ p ∈ (Wo.tk l c).1, p.2 ≤ c + l.length := by
  generalize hn : l.length = n
  induction n using Nat.strongRecOn generalizing l c with
  | ind n ih =>
    cases l with
    | nil => rw [Wo.tk_nil]; exact ⟨by simp, fun p hp => absurd hp (by simp)⟩
    | cons a t =>
      simp only [List.length_cons] at hn
      by_cases h35 : a.toNat = 35
      · rw [Wo.tk_hash _ _ _ h35]; exact ⟨by simp, fun p hp => absurd hp (by simp)⟩
      · cases hb : Wo.blk a.toNat with
        | true =>
          rw [Wo.tk_blank _ _ _ h35 hb]
          obtain ⟨h1, h2⟩ := ih t.length (by omega) t (c + 1) rfl
          exact ⟨by omega, fun p hp => by have := h2 p hp; omega⟩
        | false =>
          by_cases h0 : Wo.fst (a :: t) = 0
          · rw [Wo.tk_fault _ _ _ h35 hb h0]; exact ⟨by simp, fun p hp => absurd hp (by simp)⟩
          · rw [Wo.tk_word _ _ _ h35 hb h0]
            have hle := Wo.fst_le (a :: t)
            simp only [List.length_cons] at hle
            obtain ⟨h1, h2⟩ := ih ((a :: t).drop (Wo.fst (a :: t))).length (by rw [List.length_drop, List.length_cons]; omega) _ (c + Wo.fst (a :: t)) rfl
            rw [List.length_drop, List.length_cons] at h1 h2
            refine ⟨by simp only [List.length_cons]; omega, fun p hp => ?_⟩
            rcases List.mem_cons.1 hp with rfl | hp
            · show c ≤ _; omega
            · have := h2 p hp; omega
theorem lns_boundsJ (s : List UInt8) : (Wo.lns s).length ≤ s.length + 1 ∧ ∀ l ∈ Wo.lns s, l.length ≤ s.length := by
  induction s with
  | nil => exact ⟨by simp [Wo.lns], fun l hl => by simp [Wo.lns] at hl; simp [hl]⟩
  | cons a t ih =>
    unfold Wo.lns
    split
    · refine ⟨by simp only [List.length_cons]; have := ih.1; omega, fun l hl => ?_⟩
      rcases List.mem_cons.1 hl with rfl | hl
      · simp
      · have := ih.2 l hl; simp only [List.length_cons]; omega
    · cases e : Wo.lns t with
      | nil => exact absurd e (Wo.lns_ne t)
      | cons h r =>
        rw [e] at ih
        refine ⟨by have := ih.1; simp only [List.length_cons] at this ⊢; omega, fun l hl => ?_⟩
        rcases List.mem_cons.1 hl with rfl | hl
        · have := ih.2 h List.mem_cons_self; simp only [List.length_cons]; omega
        · have := ih.2 l (List.mem_cons_of_mem _ hl); simp only [List.length_cons]; omega
theorem rd_boundsJ (m : Nat) (ls : List (List UInt8)) (n : Nat) (h : ∀ l ∈ ls, l.length ≤ m) : (Wo.rd ls n).1.length ≤ ls.length ∧ ∀ x ∈ (Wo.rd ls n).1, x.length ≤ m ∧ ∀ y ∈ x, y.1.length ≤ m ∧ y.2.2 ≤ m + 1 := by
  induction ls generalizing n with
  | nil => exact ⟨by simp [Wo.rd], fun x hx => absurd hx (by simp [Wo.rd])⟩
  | cons l ls ih =>
    obtain ⟨i1, i2⟩ := ih (n + 1) (fun q hq => h q (List.mem_cons_of_mem _ hq))
    have hl := h l List.mem_cons_self
    cases e : (Wo.tk l 1).2 with
    | some c => rw [Wo.rd_fault e]; exact ⟨by simp, fun x hx => absurd hx (by simp)⟩
    | none =>
      by_cases hz : (Wo.tk l 1).1 = []
      · rw [Wo.rd_none e hz]; exact ⟨by simp only [List.length_cons]; omega, i2⟩
      · rw [Wo.rd_some e hz]
        refine ⟨by simp only [List.length_cons]; omega, fun x hx => ?_⟩
        rcases List.mem_cons.1 hx with rfl | hx
        · obtain ⟨b1, b2⟩ := tk_boundsJ l 1
          refine ⟨by simp only [Wo.wds, List.length_map]; omega, fun y hy => ?_⟩
          simp only [Wo.wds, List.mem_map] at hy
          obtain ⟨p, hp, rfl⟩ := hy
          have h1 := tk_len l 1 p hp
          have h2 := b2 p hp
          exact ⟨by show p.1.length ≤ m; omega, by show p.2 ≤ m + 1; omega⟩
        · exact i2 x hx
theorem read_boundsJ (s : List UInt8) : (Wo.read s).length ≤ s.length + 1 ∧ ∀ x ∈ Wo.read s, 0 < x.length ∧ x.length ≤ s.length ∧ ∀ y ∈ x, y.1.length ≤ s.length ∧ y.2.2 ≤ s.length + 1 := by
  obtain ⟨l1, l2⟩ := lns_boundsJ s
  obtain ⟨r1, r2⟩ := rd_boundsJ s.length (Wo.lns s) 1 l2
  refine ⟨?_, fun x hx => ⟨read_ne s x hx, ?_⟩⟩
  · unfold Wo.read
    split
    · omega
    · simp
  · unfold Wo.read at hx
    split at hx
    · exact r2 x hx
    · exact absurd hx (by simp)
theorem lines_forJ {w : World} {B : Nat} {v : Value} {s : List UInt8} (h : LinesAt w B v (Wo.read s)) (hs : s.length ≤ 1048576) (h0 : 0 < (Wo.read s).length) : ∃ g cap G C, v = .slice (some ⟨g, 0, none⟩) (Wo.read s).length cap ∧ LsJ w g (Wo.read s) G C := by
  obtain ⟨vs, ho, hl, hi⟩ := h
  obtain ⟨rb1, rb2⟩ := read_boundsJ s
  obtain ⟨g, cap, rfl, hg, hc⟩ := own_some ho h0
  have key : ∀ i : Nat, ∃ G C : Nat, ∀ x : List Wd, (Wo.read s)[i]? = some x → vs[i]? = some (Value.slice (some ⟨G, 0, none⟩) x.length C) ∧ (G < w.heap.size ∧ ∀ (j : Nat) (y : Wd), x[j]? = some y → w.cell? ⟨G, j * 3, none⟩ = some (.string (tx y.1)) ∧ w.cell? ⟨G, j * 3 + 1, none⟩ = some (.int .i64 y.2.1) ∧ w.cell? ⟨G, j * 3 + 2, none⟩ = some (.int .i64 y.2.2)) ∧ x.length ≤ C ∧ C ≤ maxLen := by
    intro i
    cases hx : (Wo.read s)[i]? with
    | none => exact ⟨0, 0, fun x h => by cases h⟩
    | some x =>
      obtain ⟨u, hu, hown⟩ := hi i x hx
      obtain ⟨g2, cap2, rfl, hg2, hc2⟩ := own_some hown (rb2 x (List.mem_of_getElem? hx)).1
      refine ⟨g2, cap2, fun y hy => ?_⟩
      cases hy
      refine ⟨hu, ⟨hg2, fun k y hy => ?_⟩, ?_⟩
      · obtain ⟨f1, f2, f3⟩ := flatW_at hy
        exact ⟨hc2 _ _ f1, hc2 _ _ f2, hc2 _ _ f3⟩
      · rcases hown.2 with ⟨e, _⟩ | ⟨g3, c3, cur, e, _, _, h1, h2, _⟩
        · cases e
        · simp only [Value.slice.injEq] at e
          rw [e.2.2]; exact ⟨h1, h2⟩
  refine ⟨g, cap, fun i => (key i).choose, fun i => (key i).choose_spec.choose, rfl, ⟨hg, fun i x hx => ?_, fun i x hx => ?_, fun i x hx => ?_, fun x hx => ?_⟩⟩
  · exact hc i _ ((key i).choose_spec.choose_spec x hx).1
  · exact ((key i).choose_spec.choose_spec x hx).2.1
  · exact ((key i).choose_spec.choose_spec x hx).2.2
  · obtain ⟨h1, h2, h3⟩ := rb2 x hx
    exact ⟨h1, by omega, fun y hy => by have := h3 y hy; omega⟩

set_option maxRecDepth 4000 in
set_option maxHeartbeats 2000000 in
theorem oread_none (ao : Option Addr) (cap : Nat) (w : World) :
    Calls Tryz.prog 28 #[.slice ao 0 cap] w fun en w' => RdPost w [] en w' := by
  have hmf : ∀ (fn : Fn) (first cap : Array Value) (w : World), (Instr.makeFunc fn first cap).run Tryz.prog w = .ok (.func fn first cap) w := fun _ _ _ _ => rfl
  have hmm : ∀ w : World, (Instr.makeMap 107 none).run Tryz.prog w = .ok (.map (some w.heap.size)) (w.alloc (.map #[] 0)) := fun _ => by kernel_rfl
  have hmn : ∀ w : World, (Instr.makeMap 109 none).run Tryz.prog w = .ok (.map (some w.heap.size)) (w.alloc (.map #[] 0)) := fun _ => by kernel_rfl
  obtain ⟨W1, h1⟩ : ∃ W1, W1 = w.alloc (tobJ (.int .i64 0) (.slice none 0 0) (.slice none 0 0)) := ⟨_, rfl⟩
  obtain ⟨W2, h2⟩ : ∃ W2, W2 = W1.alloc (fobJ (.int .i64 0) (.int .i64 0) (.int .i64 0)) := ⟨_, rfl⟩
  obtain ⟨W4, h4⟩ : ∃ W4, W4 = (W2.alloc (.map #[] 0)).alloc (.map #[] 0) := ⟨_, rfl⟩
  obtain ⟨W5, h5⟩ : ∃ W5, W5 = W4.alloc (.cells #[.int .i64 0, .slice none 0 0, .slice none 0 0, .map (some (w.heap.size + 1 + 1)), .map (some (w.heap.size + 1 + 1 + 1)), .string ⟨#[]⟩, .int .i64 0, .int .i64 0, .slice none 0 0, .string ⟨#[]⟩, .int .i64 0, .int .i64 0, .int .i64 0, .int .i64 0, .int .i64 0] 111) := ⟨_, rfl⟩
  obtain ⟨W6, h6⟩ : ∃ W6, W6 = W5.alloc (.cells #[.string ⟨#[]⟩, .int .i64 0, .int .i64 0] 74) := ⟨_, rfl⟩
  have s1 : W1.heap.size = w.heap.size + 1 := by rw [h1]; simp only [World.size_alloc]
  have s2 : W2.heap.size = w.heap.size + 2 := by rw [h2]; simp only [World.size_alloc, s1]
  have s4 : W4.heap.size = w.heap.size + 4 := by rw [h4]; simp only [World.size_alloc, s2]
  have s5 : W5.heap.size = w.heap.size + 5 := by rw [h5]; simp only [World.size_alloc, s4]
  have s6 : W6.heap.size = w.heap.size + 6 := by rw [h6]; simp only [World.size_alloc, s5]
  have e6 : ∀ k, k < w.heap.size + 5 → W6.heap[k]? = W5.heap[k]? := fun k q => by rw [h6, heap_old _ _ (by omega)]
  have e5 : ∀ k, k < w.heap.size + 4 → W6.heap[k]? = W4.heap[k]? := fun k q => by rw [e6 k (by omega), h5, heap_old _ _ (by omega)]
  have e3 : ∀ k, k < w.heap.size + 2 → W6.heap[k]? = W2.heap[k]? := fun k q => by rw [e5 k (by omega), h4, heap_old _ _ (by simp only [World.size_alloc]; omega), heap_old _ _ (by omega)]
  have e2 : ∀ k, k < w.heap.size + 1 → W6.heap[k]? = W1.heap[k]? := fun k q => by rw [e3 k (by omega), h2, heap_old _ _ (by omega)]
  have e1 : ∀ k, k < w.heap.size → W6.heap[k]? = w.heap[k]? := fun k q => by rw [e2 k (by omega), h1, heap_old _ _ (by omega)]
  have HR := hid (show RawR W6 (w.heap.size + 4) (.int .i64 0) (.slice none 0 0) (.slice none 0 0) (.map (some (w.heap.size + 2))) (.map (some (w.heap.size + 3))) from ⟨.string ⟨#[]⟩, .int .i64 0, .int .i64 0, .slice none 0 0, .string ⟨#[]⟩, .int .i64 0, .int .i64 0, .int .i64 0, .int .i64 0, .int .i64 0, (e6 _ (by omega)).trans (by rw [h5]; exact new_atJ _ s4.symm)⟩)
  have HT := hid (show W6.heap[w.heap.size]? = some (tobJ (.int .i64 0) (.slice none 0 0) (.slice none 0 0)) from (e2 _ (by omega)).trans (by rw [h1]; exact new_0 _ _))
  have HF := hid (show W6.heap[w.heap.size + 1]? = some (fobJ (.int .i64 0) (.int .i64 0) (.int .i64 0)) from (e3 _ (by omega)).trans (by rw [h2]; exact new_atJ _ s1.symm))
  have HB := hid (show Below w.heap.size w W6 from ⟨by rw [h6, h5, h4, h2, h1]; rfl, by rw [h6, h5, h4, h2, h1]; rfl, by rw [h6, h5, h4, h2, h1]; rfl, by omega, e1⟩)
  have HS := hid s6
  have HW : W6 = ((((((w.alloc (tobJ (.int .i64 0) (.slice none 0 0) (.slice none 0 0))).alloc (fobJ (.int .i64 0) (.int .i64 0) (.int .i64 0))).alloc (.map #[] 0)).alloc (.map #[] 0)).alloc (.cells #[.int .i64 0, .slice none 0 0, .slice none 0 0, .map (some (w.heap.size + 1 + 1)), .map (some (w.heap.size + 1 + 1 + 1)), .string ⟨#[]⟩, .int .i64 0, .int .i64 0, .slice none 0 0, .string ⟨#[]⟩, .int .i64 0, .int .i64 0, .int .i64 0, .int .i64 0, .int .i64 0] 111)).alloc (.cells #[.string ⟨#[]⟩, .int .i64 0, .int .i64 0] 74)) := by rw [h6, h5, h4, h2, h1]
  clear h1 h2 h4 h5 h6 s1 s2 s4 s5 s6 e6 e5 e3 e2 e1
  go_enter_defers Tryz.func28, Tryz.ntmps28
  go_wp2_with fail
  rw [← HW]
  clear HW
  refine (omust_raw HR.out false ([], 0, 0) 110).mono ?_
  rintro en w2 (⟨HB2, -⟩ | ⟨-, q, rfl, hF, hg⟩)
  · exact absurd HB2.out (by decide)
  · have hs := HS.out
    refine oleave rfl rfl ?_ ((hg.block w.heap.size (by omega) (fun q => by injection q with q; omega)).trans HT.out) ((hg.block (w.heap.size + 1) (by omega) (fun q => by injection q with q; omega)).trans HF.out) hF rfl
    exact ⟨hg.os.trans HB.out.os, hg.tape.trans HB.out.tape, hg.output.trans HB.out.output, Nat.le_trans HB.out.size hg.size, fun k hk => (hg.block k (by omega) (fun q => by injection q with q; omega)).trans (HB.out.block k hk)⟩
end Go.Proofs.YtebaopiedlioiaaGreatDoor
namespace Go.Proofs.YtebaopiedlioiaaGreatDoor
open Go.RowKit
open Wo (Wd)

/-- What Parse of a text comes to. -/
def prsT (s : List UInt8) : Except Ru.Ft TSt := if Wo.err s ≠ 0 then .error (Wo.faultL s, Wo.faultC s, Wo.err s) else readT (Wo.read s)
/-- What Parse leaves. -/
def PrsQ (w : World) (s : List UInt8) (en : Ending) (w' : World) : Prop :=
  Below w.heap.size w w' ∧ ((∃ f : Ru.Ft, prsT s = .error f ∧ en = .returned (.tuple #[.agg #[.int .i64 0, .slice none 0 0, .slice none 0 0], .int .i64 f.1, .int .i64 f.2.1, .int .i64 f.2.2])) ∨
    (∃ t vs ds' ls' c1 c2, prsT s = .ok t ∧ TOk t ∧ vs.map (·.1) = t.ds ∧ en = .returned (.tuple #[.agg #[.int .i64 t.wid, c1, c2], .int .i64 0, .int .i64 0, .int .i64 0]) ∧ ds'.Perm vs ∧ ds'.Pairwise (fun a b => ¬ b.1.name < a.1.name) ∧ ls'.Perm (t.ls.map (renL (posF vs ds'))) ∧ ls'.Pairwise (fun a b => ¬ ocE b.a b.p a.a a.p < 0) ∧ DvO w.heap.size w' c1 ds' ∧ w'.ownsRow w.heap.size 83 4 c2 ls'.length (flatL ls')))

/-- What the result holds when Parse is done. -/
theorem par_box {X : World} {N : Nat} {x0 x1 x2 a b c : Value} (ht : X.heap[N]? = some (tobJ x0 x1 x2)) : ∃ V, V = ((X.setCell ⟨N, 0, none⟩ a).setCell ⟨N, 1, none⟩ b).setCell ⟨N, 2, none⟩ c ∧ (V.cell? ⟨N, 0, none⟩ = some a ∧ V.cell? ⟨N, 1, none⟩ = some b ∧ V.cell? ⟨N, 2, none⟩ = some c) ∧ Below N X V ∧ ∀ k, k ≠ N → V.heap[k]? = X.heap[k]? := by
  have vt : (((X.setCell ⟨N, 0, none⟩ a).setCell ⟨N, 1, none⟩ b).setCell ⟨N, 2, none⟩ c).heap[N]? = some (tobJ a b c) := block_set (o := 2) c (block_set (o := 1) b (block_set (o := 0) a ht))
  refine ⟨_, rfl, ⟨by rw [cell_at vt]; rfl, by rw [cell_at vt]; rfl, by rw [cell_at vt]; rfl⟩, ?_, fun k h1 => ?_⟩
  · repeat (refine Below.setCell ?_ (by dsimp only; omega) _)
    exact Below.refl _ _
  · rw [Below.heap_setCell _ _ _ _ h1, Below.heap_setCell _ _ _ _ h1, Below.heap_setCell _ _ _ _ h1]

set_option maxRecDepth 4000 in
set_option maxHeartbeats 1000000 in
theorem oParse_any (s : List UInt8) (w : World) (hs : s.length ≤ 1048576) : Calls Tryz.prog 9 #[.string (tx s)] w fun en w' => PrsQ w s en w' := by
  obtain ⟨W0, hW0⟩ : ∃ W0, W0 = w.alloc (tobJ (.int .i64 0) (.slice none 0 0) (.slice none 0 0)) := ⟨_, rfl⟩
  have hb0 : Below w.heap.size w W0 := by rw [hW0]; exact (Below.refl _ _).alloc (Nat.le_refl _) _
  have ht0 : W0.heap[w.heap.size]? = some (tobJ (.int .i64 0) (.slice none 0 0) (.slice none 0 0)) := by rw [hW0]; exact new_0 _ _
  have HB0 := hid hb0
  have HT0 := hid ht0
  clear hb0 ht0
  have HN := hid (Lines_any s W0 hs)
  by_cases he : Wo.err s = 0
  · have HE := hid he
    have hpr := hid (show prsT s = readT (Wo.read s) by unfold prsT; rw [if_neg (fun q => q he)])
    have hfz : Wo.faultL s = 0 ∧ Wo.faultC s = 0 := by
      unfold Wo.err at he
      unfold Wo.faultL Wo.faultC
      cases h : (Wo.rd (Wo.lns s) 1).2 with
      | none => exact ⟨rfl, rfl⟩
      | some p => rw [h] at he; cases he
    rw [hfz.1, hfz.2, he] at HN
    have HRD := hid (fun (v : Value) (w1 : World) (hL : LinesAt w1 W0.heap.size v (Wo.read s)) => (by
      by_cases h0 : 0 < (Wo.read s).length
      · obtain ⟨g, cap, G, C, rfl, hLs⟩ := lines_forJ hL hs h0
        exact oread_any hLs cap (fun q => by rw [q] at h0; exact absurd h0 (Nat.not_lt_zero _)) (by have := (read_boundsJ s).1; omega)
      · obtain ⟨ao, cap, rfl⟩ := hL.form
        have e0 : Wo.read s = [] := List.length_eq_zero_iff.1 (by omega)
        rw [e0]
        exact oread_none ao cap w1 : Calls Tryz.prog 28 #[v] w1 fun en w' => RdPost w1 (Wo.read s) en w'))
    clear he hfz
    go_enter Tryz.func9, Tryz.ntmps9
    go_wp2_with fail
    rw [← hW0]
    clear hW0
    refine HN.out.mono ?_
    rintro en w1 ⟨v, rfl, HL, hb1⟩
    obtain ⟨ao, cap, rfl⟩ := HL.out.form
    go_wp2_with fail
    refine (HRD.out _ _ HL.out).mono ?_
    rintro en w2 ⟨hb2, ⟨f, hf, rfl⟩ | ⟨t, vs, ds', ls', c1, c2, hr, hok, hof, rfl, p1, p2, p3, p4, hd, hl⟩⟩
    · have HB := hid (hb1.trans (hb2.mono hb1.size))
      have HF := hid (hpr.out.trans hf)
      clear hf hb1 hb2
      obtain ⟨X, hX⟩ : ∃ X, X = (w2.alloc (tobJ (.int .i64 0) (.slice none 0 0) (.slice none 0 0))).alloc (fobJ (.int .i64 f.1) (.int .i64 f.2.1) (.int .i64 f.2.2)) := ⟨_, rfl⟩
      have hN2 : w.heap.size < w2.heap.size := by have := HB.out.size; have := lt_of_block HT0.out; omega
      have bX : Below w2.heap.size w2 X := by rw [hX]; exact ((Below.refl _ _).alloc (Nat.le_refl _) _).alloc (by simp) _
      have hXt : X.heap[w2.heap.size]? = some (tobJ (.int .i64 0) (.slice none 0 0) (.slice none 0 0)) := by rw [hX]; exact new_old _ _ (new_0 _ _)
      have hXf : X.heap[w2.heap.size + 1]? = some (fobJ (.int .i64 f.1) (.int .i64 f.2.1) (.int .i64 f.2.2)) := by rw [hX]; exact new_1 _ _ _
      have hXn : X.heap[w.heap.size]? = some (tobJ (.int .i64 0) (.slice none 0 0) (.slice none 0 0)) := (bX.block _ hN2).trans ((HB.out.block _ (lt_of_block HT0.out)).trans HT0.out)
      have x0 : X.cell? ⟨w2.heap.size, 0, none⟩ = some (.int .i64 0) := by rw [cell_at hXt]; rfl
      have x1 : X.cell? ⟨w2.heap.size, 1, none⟩ = some (.slice none 0 0) := by rw [cell_at hXt]; rfl
      have x2 : X.cell? ⟨w2.heap.size, 2, none⟩ = some (.slice none 0 0) := by rw [cell_at hXt]; rfl
      have y0 : X.cell? ⟨w2.heap.size + 1, 0, none⟩ = some (.int .i64 f.1) := by rw [cell_at hXf]; rfl
      have y1 : X.cell? ⟨w2.heap.size + 1, 1, none⟩ = some (.int .i64 f.2.1) := by rw [cell_at hXf]; rfl
      have y2 : X.cell? ⟨w2.heap.size + 1, 2, none⟩ = some (.int .i64 f.2.2) := by rw [cell_at hXf]; rfl
      have n0 : X.cell? ⟨w.heap.size, 0, none⟩ = some (.int .i64 0) := by rw [cell_at hXn]; rfl
      have n1 : X.cell? ⟨w.heap.size, 1, none⟩ = some (.slice none 0 0) := by rw [cell_at hXn]; rfl
      have n2 : X.cell? ⟨w.heap.size, 2, none⟩ = some (.slice none 0 0) := by rw [cell_at hXn]; rfl
      have m0 : X.frozen? ⟨w.heap.size, 0, none⟩ = false := free_of hXn
      have m1 : X.frozen? ⟨w.heap.size, 1, none⟩ = false := free_of hXn
      have m2 : X.frozen? ⟨w.heap.size, 2, none⟩ = false := free_of hXn
      obtain ⟨V, hV, ⟨v0, v1, v2⟩, bV, vk⟩ := par_box (X := X) (a := .int .i64 0) (b := .slice none 0 0) (c := .slice none 0 0) hXn
      have hne : ¬ w2.heap.size = w.heap.size := by omega
      have hne1 : ¬ w2.heap.size + 1 = w.heap.size := by omega
      have HBV := hid (show Below w.heap.size w V from by
        have h1 := HB0.out
        have h2 := HB.out
        exact ⟨bV.os.trans (bX.os.trans (h2.os.trans h1.os)), bV.tape.trans (bX.tape.trans (h2.tape.trans h1.tape)), bV.output.trans (bX.output.trans (h2.output.trans h1.output)), by have := bV.size; have := bX.size; have := h2.size; have := h1.size; omega, fun k hk => (bV.block k hk).trans ((bX.block k (by omega)).trans ((h2.block k (by have := h1.size; omega)).trans (h1.block k hk)))⟩)
      have SV : V.cell? ⟨w2.heap.size, 0, none⟩ = some (.int .i64 0) ∧ V.cell? ⟨w2.heap.size, 1, none⟩ = some (.slice none 0 0) ∧ V.cell? ⟨w2.heap.size, 2, none⟩ = some (.slice none 0 0) ∧ V.cell? ⟨w2.heap.size + 1, 0, none⟩ = some (.int .i64 f.1) ∧ V.cell? ⟨w2.heap.size + 1, 1, none⟩ = some (.int .i64 f.2.1) ∧ V.cell? ⟨w2.heap.size + 1, 2, none⟩ = some (.int .i64 f.2.2) := by
        have e0 := vk w2.heap.size hne
        have e1 := vk (w2.heap.size + 1) hne1
        exact ⟨(World.cell?_of_block (by exact e0)).trans x0, (World.cell?_of_block (by exact e0)).trans x1, (World.cell?_of_block (by exact e0)).trans x2, (World.cell?_of_block (by exact e1)).trans y0, (World.cell?_of_block (by exact e1)).trans y1, (World.cell?_of_block (by exact e1)).trans y2⟩
      rw [hV] at SV v0 v1 v2 HBV
      clear hXt hXf hXn bX bV vk hV
      go_wp2_with fail
      rw [← hX]
      clear hX
      go_region_held3 (fun W => W.cell? ⟨w2.heap.size, 0, none⟩ = some (.int .i64 0) ∧ W.cell? ⟨w2.heap.size, 1, none⟩ = some (.slice none 0 0) ∧ W.cell? ⟨w2.heap.size, 2, none⟩ = some (.slice none 0 0) ∧ W.cell? ⟨w2.heap.size + 1, 0, none⟩ = some (.int .i64 f.1) ∧ W.cell? ⟨w2.heap.size + 1, 1, none⟩ = some (.int .i64 f.2.1) ∧ W.cell? ⟨w2.heap.size + 1, 2, none⟩ = some (.int .i64 f.2.2)) (first | (go_keep; done) | exact SV) (fail)
      go_wp2
      refine bodyPost_ret (v := .tuple #[.agg #[.int .i64 0, .slice none 0 0, .slice none 0 0], .int .i64 f.1, .int .i64 f.2.1, .int .i64 f.2.2]) (by simp [results, Tryz.results9, go_sem, v0, v1, v2]) rfl ?_
      exact ⟨HBV.out.drew, Or.inl ⟨f, HF.out, rfl⟩⟩
    · obtain ⟨dv, dc, hc1⟩ := own_formJ hd.row
      obtain ⟨lv, lc, hc2⟩ := own_formJ hl
      obtain ⟨dn, hdn⟩ : ∃ dn, ds'.length = dn := ⟨_, rfl⟩
      obtain ⟨lm, hlm⟩ : ∃ lm, ls'.length = lm := ⟨_, rfl⟩
      rw [hdn] at hc1
      rw [hlm] at hc2
      subst hc1 hc2
      have HB := hid (hb1.trans (hb2.mono hb1.size))
      have HB1 := hid hb1
      have HF := hid (hpr.out.trans hr)
      have HX := hid (And.intro hok (And.intro hof (And.intro p1 (And.intro p2 (And.intro p3 (And.intro p4 (And.intro hd hl)))))))
      clear hr hb1 hb2 hok hof p1 p2 p3 p4 hd hl hdn hlm
      obtain ⟨X, hX⟩ : ∃ X, X = (w2.alloc (tobJ (.int .i64 t.wid) (.slice dv dn dc) (.slice lv lm lc))).alloc (fobJ (.int .i64 0) (.int .i64 0) (.int .i64 0)) := ⟨_, rfl⟩
      have hN2 : w.heap.size < w2.heap.size := by have := HB.out.size; have := lt_of_block HT0.out; omega
      have bX : Below w2.heap.size w2 X := by rw [hX]; exact ((Below.refl _ _).alloc (Nat.le_refl _) _).alloc (by simp) _
      have hXt : X.heap[w2.heap.size]? = some (tobJ (.int .i64 t.wid) (.slice dv dn dc) (.slice lv lm lc)) := by rw [hX]; exact new_old _ _ (new_0 _ _)
      have hXf : X.heap[w2.heap.size + 1]? = some (fobJ (.int .i64 0) (.int .i64 0) (.int .i64 0)) := by rw [hX]; exact new_1 _ _ _
      have hXn : X.heap[w.heap.size]? = some (tobJ (.int .i64 0) (.slice none 0 0) (.slice none 0 0)) := (bX.block _ hN2).trans ((HB.out.block _ (lt_of_block HT0.out)).trans HT0.out)
      have x0 : X.cell? ⟨w2.heap.size, 0, none⟩ = some (.int .i64 t.wid) := by rw [cell_at hXt]; rfl
      have x1 : X.cell? ⟨w2.heap.size, 1, none⟩ = some (.slice dv dn dc) := by rw [cell_at hXt]; rfl
      have x2 : X.cell? ⟨w2.heap.size, 2, none⟩ = some (.slice lv lm lc) := by rw [cell_at hXt]; rfl
      have y0 : X.cell? ⟨w2.heap.size + 1, 0, none⟩ = some (.int .i64 0) := by rw [cell_at hXf]; rfl
      have y1 : X.cell? ⟨w2.heap.size + 1, 1, none⟩ = some (.int .i64 0) := by rw [cell_at hXf]; rfl
      have y2 : X.cell? ⟨w2.heap.size + 1, 2, none⟩ = some (.int .i64 0) := by rw [cell_at hXf]; rfl
      have n0 : X.cell? ⟨w.heap.size, 0, none⟩ = some (.int .i64 0) := by rw [cell_at hXn]; rfl
      have n1 : X.cell? ⟨w.heap.size, 1, none⟩ = some (.slice none 0 0) := by rw [cell_at hXn]; rfl
      have n2 : X.cell? ⟨w.heap.size, 2, none⟩ = some (.slice none 0 0) := by rw [cell_at hXn]; rfl
      have m0 : X.frozen? ⟨w.heap.size, 0, none⟩ = false := free_of hXn
      have m1 : X.frozen? ⟨w.heap.size, 1, none⟩ = false := free_of hXn
      have m2 : X.frozen? ⟨w.heap.size, 2, none⟩ = false := free_of hXn
      obtain ⟨V, hV, ⟨v0, v1, v2⟩, bV, vk⟩ := par_box (X := X) (a := .int .i64 t.wid) (b := .slice dv dn dc) (c := .slice lv lm lc) hXn
      have hne : ¬ w2.heap.size = w.heap.size := by omega
      have hne1 : ¬ w2.heap.size + 1 = w.heap.size := by omega
      have HBV := hid (show Below w.heap.size w V from by
        have h1 := HB0.out
        have h2 := HB.out
        exact ⟨bV.os.trans (bX.os.trans (h2.os.trans h1.os)), bV.tape.trans (bX.tape.trans (h2.tape.trans h1.tape)), bV.output.trans (bX.output.trans (h2.output.trans h1.output)), by have := bV.size; have := bX.size; have := h2.size; have := h1.size; omega, fun k hk => (bV.block k hk).trans ((bX.block k (by omega)).trans ((h2.block k (by have := h1.size; omega)).trans (h1.block k hk)))⟩)
      have SV : V.cell? ⟨w2.heap.size, 0, none⟩ = some (.int .i64 t.wid) ∧ V.cell? ⟨w2.heap.size, 1, none⟩ = some (.slice dv dn dc) ∧ V.cell? ⟨w2.heap.size, 2, none⟩ = some (.slice lv lm lc) ∧ V.cell? ⟨w2.heap.size + 1, 0, none⟩ = some (.int .i64 0) ∧ V.cell? ⟨w2.heap.size + 1, 1, none⟩ = some (.int .i64 0) ∧ V.cell? ⟨w2.heap.size + 1, 2, none⟩ = some (.int .i64 0) := by
        have e0 := vk w2.heap.size hne
        have e1 := vk (w2.heap.size + 1) hne1
        exact ⟨(World.cell?_of_block (by exact e0)).trans x0, (World.cell?_of_block (by exact e0)).trans x1, (World.cell?_of_block (by exact e0)).trans x2, (World.cell?_of_block (by exact e1)).trans y0, (World.cell?_of_block (by exact e1)).trans y1, (World.cell?_of_block (by exact e1)).trans y2⟩
      have HFN := hid (show PrsQ w s (.returned (.tuple #[.agg #[.int .i64 t.wid, .slice dv dn dc, .slice lv lm lc], .int .i64 0, .int .i64 0, .int .i64 0])) V.drew from by
        obtain ⟨hok, hof, p1, p2, p3, p4, hd, hl⟩ := HX.out
        have hw1 : w.heap.size < w1.heap.size := by have := HB1.out.size; have := lt_of_block HT0.out; omega
        have hk : ∀ k, w1.heap.size ≤ k → k < w2.heap.size → V.drew.heap[k]? = w2.heap[k]? := fun k h1 h2 => (show V.heap[k]? = _ from (vk k (by omega)).trans (bX.block k h2))
        refine ⟨HBV.out.drew, Or.inr ⟨t, vs, ds', ls', _, _, HF.out, hok, hof, rfl, p1, p2, p3, p4, ⟨?_, fun q hq => ?_, fun q hq => ?_⟩, ?_⟩⟩
        · exact own_sameJ (own_baseJ hd.row (by omega)) fun k q => hk k (hd.row.lt k q).1 (hd.row.lt k q).2
        · have hc := hd.cls q hq
          exact own_sameJ (own_baseJ hc (by omega)) fun k r => hk k (hc.lt k r).1 (hc.lt k r).2
        · have hc := hd.prt q hq
          exact own_sameJ (own_baseJ hc (by omega)) fun k r => hk k (hc.lt k r).1 (hc.lt k r).2
        · exact own_sameJ (own_baseJ hl (by omega)) fun k q => hk k (hl.lt k q).1 (hl.lt k q).2)
      rw [hV] at SV v0 v1 v2 HBV HFN
      clear hXt hXf hXn bX bV vk hV
      go_wp2_with fail
      rw [← hX]
      clear hX
      go_region_held3 (fun W => W.cell? ⟨w2.heap.size, 0, none⟩ = some (.int .i64 t.wid) ∧ W.cell? ⟨w2.heap.size, 1, none⟩ = some (.slice dv dn dc) ∧ W.cell? ⟨w2.heap.size, 2, none⟩ = some (.slice lv lm lc) ∧ W.cell? ⟨w2.heap.size + 1, 0, none⟩ = some (.int .i64 0) ∧ W.cell? ⟨w2.heap.size + 1, 1, none⟩ = some (.int .i64 0) ∧ W.cell? ⟨w2.heap.size + 1, 2, none⟩ = some (.int .i64 0)) (first | (go_keep; done) | exact SV) (fail)
      go_wp2
      refine bodyPost_ret (v := .tuple #[.agg #[.int .i64 t.wid, .slice dv dn dc, .slice lv lm lc], .int .i64 0, .int .i64 0, .int .i64 0]) (by simp [results, Tryz.results9, go_sem, v0, v1, v2]) rfl ?_
      exact HFN.out
  · obtain ⟨hne, herr⟩ : Wo.err s = 30 ∧ prsT s = .error (Wo.faultL s, Wo.faultC s, Wo.err s) := by
      refine ⟨?_, by unfold prsT; rw [if_pos he]⟩
      unfold Wo.err at he ⊢
      split at he
      · exact absurd rfl he
      · rfl
    have HE := hid herr
    rw [hne] at HN HE
    obtain ⟨a, ha⟩ : ∃ a, a = Wo.faultL s := ⟨_, rfl⟩
    obtain ⟨b, hb⟩ : ∃ b, b = Wo.faultC s := ⟨_, rfl⟩
    rw [← ha, ← hb] at HN HE
    clear ha hb herr hne he
    go_enter Tryz.func9, Tryz.ntmps9
    go_wp2_with fail
    rw [← hW0]
    clear hW0
    refine HN.out.mono ?_
    rintro en w1 ⟨v, rfl, HL, hb1⟩
    obtain ⟨ao, cap, rfl⟩ := HL.out.form
    have hXn : w1.heap[w.heap.size]? = some (tobJ (.int .i64 0) (.slice none 0 0) (.slice none 0 0)) := (hb1.block _ (lt_of_block HT0.out)).trans HT0.out
    have n0 : w1.cell? ⟨w.heap.size, 0, none⟩ = some (.int .i64 0) := by rw [cell_at hXn]; rfl
    have n1 : w1.cell? ⟨w.heap.size, 1, none⟩ = some (.slice none 0 0) := by rw [cell_at hXn]; rfl
    have n2 : w1.cell? ⟨w.heap.size, 2, none⟩ = some (.slice none 0 0) := by rw [cell_at hXn]; rfl
    have m0 : w1.frozen? ⟨w.heap.size, 0, none⟩ = false := free_of hXn
    have m1 : w1.frozen? ⟨w.heap.size, 1, none⟩ = false := free_of hXn
    have m2 : w1.frozen? ⟨w.heap.size, 2, none⟩ = false := free_of hXn
    obtain ⟨V, hV, ⟨v0, v1, v2⟩, bV, vk⟩ := par_box (X := w1) (a := .int .i64 0) (b := .slice none 0 0) (c := .slice none 0 0) hXn
    have HBV := hid (show Below w.heap.size w V from by
      have h1 := HB0.out
      have h2 := hb1
      exact ⟨bV.os.trans (h2.os.trans h1.os), bV.tape.trans (h2.tape.trans h1.tape), bV.output.trans (h2.output.trans h1.output), by have := bV.size; have := h2.size; have := h1.size; omega, fun k hk => (bV.block k hk).trans ((h2.block k (by have := h1.size; omega)).trans (h1.block k hk))⟩)
    rw [hV] at v0 v1 v2 HBV
    clear hXn bV vk hb1 hV
    go_wp2
    refine bodyPost_ret (v := .tuple #[.agg #[.int .i64 0, .slice none 0 0, .slice none 0 0], .int .i64 a, .int .i64 b, .int .i64 30]) (by simp [results, Tryz.results9, go_sem, v0, v1, v2]) rfl ?_
    exact ⟨HBV.out, Or.inl ⟨(a, b, 30), HE.out, rfl⟩⟩
end Go.Proofs.YtebaopiedlioiaaGreatDoor
namespace Go.Proofs.YtebaopiedlioiaaGreatDoor
open Go.RowKit
open Wo (Wd)

abbrev kText : List UInt8 := [119, 105, 100, 116, 104, 32, 52, 10, 100, 101, 118, 105, 99, 101, 32, 98, 32, 112, 111, 114, 116, 32, 112, 44, 113, 10, 100, 101, 118, 105, 99, 101, 32, 97, 32, 99, 108, 97, 115, 115, 32, 99, 111, 114, 101, 32, 112, 111, 114, 116, 32, 112, 10, 108, 105, 110, 107, 32, 98, 32, 113, 32, 45, 62, 32, 97, 32, 112, 10]
abbrev kB : To.Dv := ⟨[98], [], [[112], [113]]⟩
abbrev kA : To.Dv := ⟨[97], [[99, 111, 114, 101]], [[112]]⟩
abbrev kSt : TSt := ⟨4, [kB, kA], [⟨0, [113], 1, [112]⟩], [(0, [113]), (1, [112])]⟩
theorem k_prs : prsT kText = .ok kSt := by kernel_rfl
/-- The devices and the link in order. -/
theorem k_order {vs ds' : List (To.Dv × Value × Value)} {ls' : List To.Lk} (hv : vs.map (·.1) = [kB, kA]) (hp : ds'.Perm vs) (hs : ds'.Pairwise (fun a b => ¬ b.1.name < a.1.name)) (hl : ls'.Perm ([⟨0, [113], 1, [112]⟩].map (renL (posF vs ds')))) :
    (∃ a b, ds' = [a, b] ∧ a.1 = kA ∧ b.1 = kB) ∧ ls' = [⟨0, [112], 1, [113]⟩] := by
  obtain ⟨v0, v1, rfl, h0, h1⟩ : ∃ v0 v1, vs = [v0, v1] ∧ v0.1 = kB ∧ v1.1 = kA := by
    rcases vs with _ | ⟨v0, _ | ⟨v1, _ | ⟨v2, r⟩⟩⟩
    · cases hv
    · simp at hv
    · simp only [List.map_cons, List.map_nil, List.cons.injEq, and_true] at hv
      exact ⟨v0, v1, rfl, hv.1, hv.2⟩
    · simp at hv
  have hd : ds' = [v1, v0] := by
    have hlen := hp.length_eq
    rcases ds' with _ | ⟨d0, _ | ⟨d1, _ | ⟨d2, r⟩⟩⟩
    · simp at hlen
    · simp at hlen
    · have m0 : d0 ∈ [v0, v1] := hp.mem_iff.1 (by simp)
      have hs' : ¬ d1.1.name < d0.1.name := by simpa using hs
      rcases List.mem_cons.1 m0 with e | e
      · subst e
        have := hp.cons_inv
        have e1 : d1 = v1 := by simpa using this
        subst e1
        rw [h0, h1] at hs'
        exact absurd (by decide) hs'
      · have e' : d0 = v1 := by simpa using e
        subst e'
        have hp2 : [d0, d1].Perm [d0, v0] := hp.trans (List.Perm.swap _ _ _)
        have e1 : d1 = v0 := by simpa using hp2.cons_inv
        rw [e1]
    · simp at hlen
  subst hd
  refine ⟨⟨v1, v0, rfl, h1, h0⟩, ?_⟩
  have f0 : posF [v0, v1] [v1, v0] 0 = 1 := by
    unfold posF
    simp only [List.map_cons, List.map_nil, h0, h1]
    decide
  have f1 : posF [v0, v1] [v1, v0] 1 = 0 := by
    unfold posF
    simp only [List.map_cons, List.map_nil, h0, h1]
    decide
  have e : renL (posF [v0, v1] [v1, v0]) ⟨0, [113], 1, [112]⟩ = ⟨0, [112], 1, [113]⟩ := by
    unfold renL
    simp only [f0, f1]
    rw [if_pos (by decide)]
  rw [List.map_cons, List.map_nil, e] at hl
  exact List.perm_singleton.1 hl
end Go.Proofs.YtebaopiedlioiaaGreatDoor
