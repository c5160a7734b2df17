/-
  When a link may stand where it stands, as the program asks it. Plain mathematics: no program is named here.
  The words and the text of a topology, and what may be said of one that may be. Plain mathematics: no program is named here.
  A topology that came in as an argument, opened.
  Topologies that came in, the first devices and links of them; what follows for those that may be.
  The law's few: at most 40 devices and links of a topology.
  The document's Check of a topology.
-/
import Derived.Test.YtebaopiedlioiaaGreatDoorJDocL
import Derived.Deep.LoopGhost
import Derived.WalkKit
import Derived.ProofKit
import Derived.OpenShut
import Derived.ShutString
import Derived.Deep.Slices
import Derived.ChangeArms
import Derived.SliceStrings
import Derived.Test.YtebaopiedlioiaaGreatDoorWBuildAnd
import Derived.Lib.ItoaNum
import Derived.Test.YtebaopiedlioiaaGreatDoorWRefSAnd
namespace Go.Proofs.YtebaopiedlioiaaGreatDoor
open Go.RowKit

/-- The number of Check. -/
def chkT (wd : Int) (ds : List To.Dv) (ls : List LkZ) : Int := if topB wd ds ls = true then 0 else 113
theorem chkT_bad {wd : Int} {ds : List To.Dv} {ls : List LkZ} (h : topB wd ds ls = false) : chkT wd ds ls = 113 := by unfold chkT; rw [h]; rfl
theorem chkT_good {wd : Int} {ds : List To.Dv} {ls : List LkZ} (h : topB wd ds ls = true) : chkT wd ds ls = 0 := by unfold chkT; rw [h]; rfl
theorem topB_head {wd : Int} {ds : List To.Dv} {ls : List LkZ} (h : ¬ (1 ≤ wd ∧ wd ≤ 128 ∧ 1 ≤ ds.length ∧ ds.length ≤ 256 ∧ ls.length ≤ 4096)) : topB wd ds ls = false := by
  unfold topB
  by_cases h1 : 1 ≤ wd ∧ wd ≤ 128
  · rw [decide_eq_true h1, decide_eq_false (fun q => h ⟨h1.1, h1.2, q⟩)]; rfl
  · rw [decide_eq_false h1]; rfl
theorem topB_rest {wd : Int} {ds : List To.Dv} {ls : List LkZ} (h : 1 ≤ wd ∧ wd ≤ 128 ∧ 1 ≤ ds.length ∧ ds.length ≤ 256 ∧ ls.length ≤ 4096) : topB wd ds ls = (allN ds.length (dvB ds) && allN ls.length (lkB ds ls)) := by
  unfold topB
  rw [decide_eq_true ⟨h.1, h.2.1⟩, decide_eq_true h.2.2]; rfl
/-- What stands still while a topology is looked at. -/
structure TpI (w : World) (wd vd vl : Value) (wr : World) : Prop where
  top : wr.heap[w.heap.size]? = some (topJ wd vd vl)
  below : Below w.heap.size w wr
theorem TpI.on {w : World} {wd vd vl : Value} {wr w' : World} (h : TpI w wd vd vl wr) (hb : Below wr.heap.size wr w') : TpI w wd vd vl w' :=
  ⟨(hb.block _ (lt_of_block h.top)).trans h.top, ⟨hb.os.trans h.below.os, hb.tape.trans h.below.tape, hb.output.trans h.below.output, Nat.le_trans h.below.size hb.size, fun i hi => (hb.block i (Nat.lt_of_lt_of_le hi h.below.size)).trans (h.below.block i hi)⟩⟩
theorem TpI.drewN {w : World} {wd vd vl : Value} {wr : World} (h : TpI w wd vd vl wr) (n : Nat) : TpI w wd vd vl (wr.drewN n) := ⟨h.top, below_drewN h.below⟩
abbrev dvOJ (nm : List UInt8) (u v : Value) : Obj := .cells #[.string (tx nm), u, v] 80
theorem dvOJ_cells {w : World} {g : Nat} {nm : List UInt8} {u v : Value} (h : w.heap[g]? = some (dvOJ nm u v)) : w.cell? ⟨g, 0, none⟩ = some (.string (tx nm)) ∧ w.cell? ⟨g, 1, none⟩ = some u ∧ w.cell? ⟨g, 2, none⟩ = some v := by
  refine ⟨?_, ?_, ?_⟩ <;> (rw [cell_at h]; rfl)
/-- Texts of devices that are not too long for the model. -/
def DvShort (ds : List (To.Dv × Value × Value)) : Prop := ∀ q ∈ ds, q.1.name.length ≤ maxLen ∧ (∀ p ∈ q.1.cls, p.length ≤ maxLen) ∧ ∀ p ∈ q.1.prt, p.length ≤ maxLen
theorem DvL.below {w w' : World} {v : Value} {ds : List (To.Dv × Value × Value)} (h : DvL w v ds) (hb : Below w.heap.size w w') : DvL w' v ds := by
  refine ⟨?_, fun q hq => ⟨(h.cls q hq).1.below hb, (h.cls q hq).2⟩, fun q hq => ⟨(h.prt q hq).1.below hb, (h.prt q hq).2⟩⟩
  obtain ⟨av, cap, h1, h2⟩ := h.form
  refine ⟨av, cap, h1, h2.imp id ?_⟩
  rintro ⟨G, o, h3, h4, h5⟩
  refine ⟨G, o, h3, Nat.lt_of_lt_of_le h4 hb.size, fun i q hq => ?_⟩
  obtain ⟨q1, q2, q3⟩ := h5 i q hq
  exact ⟨(World.cell?_of_block (a := ⟨G, _, none⟩) (hb.block G h4)).trans q1, (World.cell?_of_block (a := ⟨G, _, none⟩) (hb.block G h4)).trans q2, (World.cell?_of_block (a := ⟨G, _, none⟩) (hb.block G h4)).trans q3⟩

set_option maxRecDepth 20000 in
set_option maxHeartbeats 2000000 in
theorem RCheckT_any {w : World} {wd : Int} {vd vl : Value} {ds : List (To.Dv × Value × Value)} {ls : List LkZ} (hD : DvL w vd ds) (hL : LkV w vl ls) (hz : DvShort ds) (hdn : ds.length ≤ maxLen) (hln : ls.length ≤ maxLen) :
    Calls Tryz.prog 17 #[.agg #[.int .i64 wd, vd, vl]] w fun e w' => e = .returned (.int .i64 (chkT wd (ds.map (·.1)) ls)) ∧ Below w.heap.size w w' := by
  have HD := hid hD
  have HL := hid hL
  have HZ := hid hz
  obtain ⟨dv, dc, hvd, hdv⟩ := hD.form
  obtain ⟨lv, lc, hvl, -⟩ := hL.form
  obtain ⟨N, hN⟩ : ∃ N, N = ds.length := ⟨_, rfl⟩
  obtain ⟨M, hM⟩ : ∃ M, M = ls.length := ⟨_, rfl⟩
  have HDV := hid hdv
  rw [← hN] at hvd hdn
  rw [← hM] at hvl hln
  unfold maxLen at hdn hln
  subst hvd; subst hvl
  have HN := hid hN
  have HM := hid hM
  have HHD := hid (show ¬ (1 ≤ wd ∧ wd ≤ 128 ∧ 1 ≤ N ∧ N ≤ 256 ∧ M ≤ 4096) → chkT wd (ds.map (·.1)) ls = 113 from fun q => chkT_bad (topB_head (by rw [List.length_map, ← hN, ← hM]; exact q)))
  have HB := hid (fun (o : Obj) => (show Below w.heap.size w (w.alloc o) from (Below.refl _ _).alloc (Nat.le_refl _) _))
  clear hD hL hz hdv hN hM
  by_cases q1 : wd < 1
  · have HE := hid (HHD.out (by omega))
    go_enter Tryz.func17, Tryz.ntmps17
    go_wp2
    go_ret
    exact ⟨by rw [HE.out]; rfl, HB.out _⟩
  have d1 : decide (wd < 1) = false := decide_eq_false q1
  by_cases q2 : 128 < wd
  · have HE := hid (HHD.out (by omega))
    go_enter Tryz.func17, Tryz.ntmps17
    go_wp2
    go_ret
    exact ⟨by rw [HE.out]; rfl, HB.out _⟩
  have d2 : decide (128 < wd) = false := decide_eq_false q2
  by_cases q3 : N = 0
  · have HE := hid (HHD.out (by omega))
    subst q3
    go_enter Tryz.func17, Tryz.ntmps17
    go_wp2
    go_ret
    exact ⟨by rw [HE.out]; rfl, HB.out _⟩
  have d3 : decide ((N : Int) < 1) = false := decide_eq_false (by omega)
  by_cases q4 : (256 : Int) < (N : Int)
  · have HE := hid (HHD.out (by omega))
    go_enter Tryz.func17, Tryz.ntmps17
    go_wp2
    go_ret
    exact ⟨by rw [HE.out]; rfl, HB.out _⟩
  have d4 : decide ((256 : Int) < (N : Int)) = false := decide_eq_false q4
  by_cases q5 : (4096 : Int) < (M : Int)
  · have HE := hid (HHD.out (by omega))
    go_enter Tryz.func17, Tryz.ntmps17
    go_wp2
    go_ret
    exact ⟨by rw [HE.out]; rfl, HB.out _⟩
  have d5 : decide ((4096 : Int) < (M : Int)) = false := decide_eq_false q5
  have HCB := hid (show topB wd (ds.map (·.1)) ls = (allN N (dvB (ds.map (·.1))) && allN M (lkB (ds.map (·.1)) ls)) by
    rw [topB_rest (by rw [List.length_map, ← HN.out, ← HM.out]; omega), List.length_map, ← HN.out, ← HM.out])
  have I0 := hid (show TpI w (.int .i64 wd) (.slice dv N dc) (.slice lv M lc) (w.alloc (topJ (.int .i64 wd) (.slice dv N dc) (.slice lv M lc))) from ⟨new_0 _ _, HB.out _⟩)
  go_enter Tryz.func17, Tryz.ntmps17
  go_wp2_with fail
  go_loopw [3] (fun i wr => ∃ k : Nat, k ≤ N ∧ i = .int .i64 k ∧ Hid (TpI w (.int .i64 wd) (.slice dv N dc) (.slice lv M lc) wr) ∧ Hid (∀ i, i < k → dvB (ds.map (·.1)) i = true)) (fun i _ => N - (intOf i).toNat)
  case atStart => exact ⟨0, Nat.zero_le _, rfl, I0, hid fun i h => absurd h (Nat.not_lt_zero _)⟩
  case round =>
    obtain ⟨k, hk, rfl, hI, hA⟩ := hrel
    obtain ⟨t0, t1, t2⟩ := topJ_cells hI.out.top
    by_cases hlt : k < N
    · obtain ⟨⟨qd, uv, pv⟩, hq⟩ : ∃ z, ds[k]? = some z := ⟨_, List.getElem?_eq_getElem (by have := HN.out; omega)⟩
      obtain ⟨D, od, rfl, hDl, hdc⟩ := HDV.out.resolve_left (fun e => by rw [e] at hq; simp at hq)
      obtain ⟨hz1, hz2, hz3⟩ := HZ.out _ (List.mem_of_getElem? hq)
      obtain ⟨htc, hlc⟩ := HD.out.cls _ (List.mem_of_getElem? hq)
      obtain ⟨htp, hlp⟩ := HD.out.prt _ (List.mem_of_getElem? hq)
      simp only at hz1 hz2 hz3 htc hlc htp hlp
      have HDB := hid (show dvB (ds.map (·.1)) k = (((Wo.nameB qd.name && (decide (k = 0) || decide (((ds.map (·.1)).getD (k - 1) dv0).name < qd.name))) && nmsB 16 qd.cls) && nmsB 64 qd.prt) by
        unfold dvB
        rw [getD_at (show (ds.map (·.1))[k]? = some qd by rw [List.getElem?_map, hq]; rfl)])
      have HU := hid (fun w' => RName_any (tx qd.name) w' (by rw [tx_size]; exact hz1))
      rw [show (tx qd.name).data.toList = qd.name from by simp] at HU
      have HW := hid (fun (W : World) (hb : Below wr.heap.size wr W) => (show Below w.heap.size w W from (hI.out.on hb).below))
      have hwD : wr.heap[D]? = w.heap[D]? := hI.out.below.block D hDl
      obtain ⟨z0, z1, z2⟩ := hdc k _ hq
      have y0 := (World.cell?_of_block (a := ⟨D, od + k * 3, none⟩) hwD).trans z0
      have y1 := (World.cell?_of_block (a := ⟨D, od + k * 3 + 1, none⟩) hwD).trans z1
      have y2 := (World.cell?_of_block (a := ⟨D, od + k * 3 + 2, none⟩) hwD).trans z2
      simp only at y0 y1 y2
      have kI : (k : Int) < (N : Int) := by omega
      have k0I : (0 : Int) ≤ (k : Int) := by omega
      obtain ⟨W5, hW5⟩ : ∃ W5, W5 = wr.alloc (dvOJ qd.name uv pv) := ⟨_, rfl⟩
      obtain ⟨kb, hkb⟩ : ∃ kb, kb = wr.heap.size := ⟨_, rfl⟩
      have hb5 : Below wr.heap.size wr W5 := by rw [hW5]; exact (Below.refl _ _).alloc (Nat.le_refl _) _
      have h5 : W5.heap[kb]? = some (dvOJ qd.name uv pv) := by rw [hW5, hkb]; exact new_0 _ _
      have HI5 := hid (hI.out.on hb5)
      have HB5 := hid (HW.out _ hb5)
      have HDC := hid hdc
      have hwD5 : W5.heap[D]? = w.heap[D]? := HB5.out.block D hDl
      obtain ⟨r0, r1, r2⟩ := dvOJ_cells h5
      obtain ⟨s0, s1, s2⟩ := topJ_cells HI5.out.top
      obtain ⟨ac, cc, hvc, -⟩ := id htc
      obtain ⟨ap, cp, hvp, -⟩ := id htp
      have HNC := hid (fun (W : World) (hb : Below w.heap.size w W) => Rnames_any (htc.below hb) hz2 hlc 16)
      have HNP := hid (fun (W : World) (hb : Below w.heap.size w W) => Rnames_any (htp.below hb) hz3 hlp 64)
      subst hvc; subst hvp
      obtain ⟨Lc, hLc⟩ : ∃ L, L = qd.cls.length := ⟨_, rfl⟩
      obtain ⟨Lp, hLp⟩ : ∃ L, L = qd.prt.length := ⟨_, rfl⟩
      rw [← hLc, ← hLp] at hW5
      rw [← hLc] at HNC r1 y1
      rw [← hLp] at HNP r2 y2
      have HWD5 := hid hwD5
      clear hb5 h5 z0 z1 z2 hwD hz1 hz2 hz3 htc hlc htp hlp hLc hLp hdc hwD5
      have HQ := hid hq
      clear hq
      go_upto_region 7 with fail
      rw [← hW5, ← hkb]
      clear hW5 hkb y0 y1 y2 t0 t1 t2
      go_cut [75] (fun c wx => c = .bool (!dvB (ds.map (·.1)) k) ∧ Hid (TpI w (.int .i64 wd) (.slice (some ⟨D, od, none⟩) N dc) (.slice lv M lc) wx))
      case first =>
        cases hn : Wo.nameB qd.name with
        | false =>
          have HE := hid (show dvB (ds.map (·.1)) k = false by rw [HDB.out, hn]; rfl)
          rw [hn] at HU
          clear hn
          go_quiet (first | (go_at_call 42; exact Calls.quiet_of ((HU.out _).mono fun _ _ q => ⟨q.1, 0, q.2⟩)) | (go_at_call_of 43 (Value.int .i64 16); exact Calls.quiet_of (HNC.out _ (below_drewN HB5.out))) | (go_at_call_of 43 (Value.int .i64 64); exact Calls.quiet_of (HNP.out _ (below_drewN HB5.out))))
          go_wp2
          go_meet
          exact ⟨by rw [HE.out]; rfl, hid (HI5.out.drewN _)⟩
        | true =>
          have HN1 := hid hn
          rw [hn] at HU
          clear hn
          by_cases q6 : k = 0
          · have d6 : decide (0 < k) = false := decide_eq_false (by omega)
            have HFM := hid (show (decide (k = 0) || decide (((ds.map (·.1)).getD (k - 1) dv0).name < qd.name)) = true by rw [decide_eq_true q6]; rfl)
            clear q6
            cases hc : nmsB 16 qd.cls with
            | false =>
              have HE := hid (show dvB (ds.map (·.1)) k = false by rw [HDB.out, HN1.out, HFM.out, hc]; rfl)
              rw [hc] at HNC
              clear hc
              go_quiet (first | (go_at_call 42; exact Calls.quiet_of ((HU.out _).mono fun _ _ q => ⟨q.1, 0, q.2⟩)) | (go_at_call_of 43 (Value.int .i64 16); exact Calls.quiet_of (HNC.out _ (below_drewN HB5.out))) | (go_at_call_of 43 (Value.int .i64 64); exact Calls.quiet_of (HNP.out _ (below_drewN HB5.out))))
              go_wp2
              go_meet
              exact ⟨by rw [HE.out]; rfl, hid (HI5.out.drewN _)⟩
            | true =>
              have HC1 := hid hc
              rw [hc] at HNC
              clear hc
              cases hp : nmsB 64 qd.prt with
              | false =>
                have HE := hid (show dvB (ds.map (·.1)) k = false by rw [HDB.out, HN1.out, HFM.out, HC1.out, hp]; rfl)
                rw [hp] at HNP
                clear hp
                go_quiet (first | (go_at_call 42; exact Calls.quiet_of ((HU.out _).mono fun _ _ q => ⟨q.1, 0, q.2⟩)) | (go_at_call_of 43 (Value.int .i64 16); exact Calls.quiet_of (HNC.out _ (below_drewN HB5.out))) | (go_at_call_of 43 (Value.int .i64 64); exact Calls.quiet_of (HNP.out _ (below_drewN HB5.out))))
                go_wp2
                go_meet
                exact ⟨by rw [HE.out]; rfl, hid (HI5.out.drewN _)⟩
              | true =>
                have HE := hid (show dvB (ds.map (·.1)) k = true by rw [HDB.out, HN1.out, HFM.out, HC1.out, hp]; rfl)
                rw [hp] at HNP
                clear hp
                go_quiet (first | (go_at_call 42; exact Calls.quiet_of ((HU.out _).mono fun _ _ q => ⟨q.1, 0, q.2⟩)) | (go_at_call_of 43 (Value.int .i64 16); exact Calls.quiet_of (HNC.out _ (below_drewN HB5.out))) | (go_at_call_of 43 (Value.int .i64 64); exact Calls.quiet_of (HNP.out _ (below_drewN HB5.out))))
                go_wp2
                go_meet
                exact ⟨by rw [HE.out]; rfl, hid (HI5.out.drewN _)⟩
          · obtain ⟨t, ht⟩ : ∃ t, k = t + 1 := ⟨k - 1, by omega⟩
            have q7 : 0 < k := by omega
            have w1 : IntKind.i64.wrap ((k : Int) - 1) = (t : Int) := by rw [IntKind.wrap_i64]; omega
            obtain ⟨⟨qe, ue, ve⟩, he⟩ : ∃ z, ds[t]? = some z := ⟨_, List.getElem?_eq_getElem (by have := HN.out; omega)⟩
            have e0 := (World.cell?_of_block (a := ⟨D, od + t * 3, none⟩) HWD5.out).trans (HDC.out t _ he).1
            simp only at e0
            have HFM := hid (show (decide (k = 0) || decide (((ds.map (·.1)).getD (k - 1) dv0).name < qd.name)) = decide (qe.name < qd.name) by
              rw [decide_eq_false q6, show k - 1 = t by omega, getD_at (show (ds.map (·.1))[t]? = some qe by rw [List.getElem?_map, he]; rfl)]; rfl)
            have tI : (t : Int) < (N : Int) := by omega
            have t0I : (0 : Int) ≤ (t : Int) := by omega
            clear q6 ht he
            by_cases ql : qe.name < qd.name
            · have l4 : Op.bytesLess qe.name qd.name = true := by rw [bytesLess_eq]; exact decide_eq_true ql
              have HQL := hid (decide_eq_true ql)
              clear ql
              cases hc : nmsB 16 qd.cls with
              | false =>
                have HE := hid (show dvB (ds.map (·.1)) k = false by rw [HDB.out, HN1.out, HFM.out, HQL.out, hc]; rfl)
                rw [hc] at HNC
                clear hc
                go_quiet (first | (go_at_call 42; exact Calls.quiet_of ((HU.out _).mono fun _ _ q => ⟨q.1, 0, q.2⟩)) | (go_at_call_of 43 (Value.int .i64 16); exact Calls.quiet_of (HNC.out _ (below_drewN HB5.out))) | (go_at_call_of 43 (Value.int .i64 64); exact Calls.quiet_of (HNP.out _ (below_drewN HB5.out))))
                go_wp2
                go_meet
                exact ⟨by rw [HE.out]; rfl, hid (HI5.out.drewN _)⟩
              | true =>
                have HC1 := hid hc
                rw [hc] at HNC
                clear hc
                cases hp : nmsB 64 qd.prt with
                | false =>
                  have HE := hid (show dvB (ds.map (·.1)) k = false by rw [HDB.out, HN1.out, HFM.out, HQL.out, HC1.out, hp]; rfl)
                  rw [hp] at HNP
                  clear hp
                  go_quiet (first | (go_at_call 42; exact Calls.quiet_of ((HU.out _).mono fun _ _ q => ⟨q.1, 0, q.2⟩)) | (go_at_call_of 43 (Value.int .i64 16); exact Calls.quiet_of (HNC.out _ (below_drewN HB5.out))) | (go_at_call_of 43 (Value.int .i64 64); exact Calls.quiet_of (HNP.out _ (below_drewN HB5.out))))
                  go_wp2
                  go_meet
                  exact ⟨by rw [HE.out]; rfl, hid (HI5.out.drewN _)⟩
                | true =>
                  have HE := hid (show dvB (ds.map (·.1)) k = true by rw [HDB.out, HN1.out, HFM.out, HQL.out, HC1.out, hp]; rfl)
                  rw [hp] at HNP
                  clear hp
                  go_quiet (first | (go_at_call 42; exact Calls.quiet_of ((HU.out _).mono fun _ _ q => ⟨q.1, 0, q.2⟩)) | (go_at_call_of 43 (Value.int .i64 16); exact Calls.quiet_of (HNC.out _ (below_drewN HB5.out))) | (go_at_call_of 43 (Value.int .i64 64); exact Calls.quiet_of (HNP.out _ (below_drewN HB5.out))))
                  go_wp2
                  go_meet
                  exact ⟨by rw [HE.out]; rfl, hid (HI5.out.drewN _)⟩
            · have l4 : Op.bytesLess qe.name qd.name = false := by rw [bytesLess_eq]; exact decide_eq_false ql
              have HE := hid (show dvB (ds.map (·.1)) k = false by rw [HDB.out, HN1.out, HFM.out, decide_eq_false ql]; rfl)
              clear ql
              go_quiet (first | (go_at_call 42; exact Calls.quiet_of ((HU.out _).mono fun _ _ q => ⟨q.1, 0, q.2⟩)) | (go_at_call_of 43 (Value.int .i64 16); exact Calls.quiet_of (HNC.out _ (below_drewN HB5.out))) | (go_at_call_of 43 (Value.int .i64 64); exact Calls.quiet_of (HNP.out _ (below_drewN HB5.out))))
              go_wp2
              go_meet
              exact ⟨by rw [HE.out]; rfl, hid (HI5.out.drewN _)⟩
      case rest =>
        obtain ⟨rfl, hI2⟩ := hcut
        cases hb : dvB (ds.map (·.1)) k with
        | false =>
          have HE := hid (show chkT wd (ds.map (·.1)) ls = 113 from chkT_bad (by rw [HCB.out, allN_false hlt hb]; rfl))
          clear hb
          go_wp2
          go_ret
          exact ⟨by rw [HE.out]; rfl, hI2.out.below⟩
        | true =>
          have HA2 := hid (show ∀ i, i < k + 1 → dvB (ds.map (·.1)) i = true from fun i hi => by
            by_cases e : i = k
            · rw [e]; exact hb
            · exact hA.out i (by omega))
          clear hb
          go_wp2
          go_roundw
          case rel => exact ⟨k + 1, by omega, by go_num, hI2, HA2⟩
          case measure => simp [intOf]; omega
    · have hkN : k = N := by omega
      have hkI : ¬ (k : Int) < (N : Int) := by omega
      have HA1 := hid (show allN N (dvB (ds.map (·.1))) = true from allN_iff.2 fun i hi => hA.out i (by omega))
      have HLK := hid (fun (W : World) (hb : Below w.heap.size w W) (j : Nat) (hj : j < M) => (Rlink_any (wd := .int .i64 wd) (k := j) (HD.out.below hb) (HL.out.below hb) (by rw [← HM.out]; exact hj) (by rw [← HN.out]; omega) (by rw [← HM.out]; omega)))
      clear hA hkN
      go_wp2_with fail
      go_loopw [5] (fun i wz => ∃ j : Nat, j ≤ M ∧ i = .int .i64 j ∧ Hid (TpI w (.int .i64 wd) (.slice dv N dc) (.slice lv M lc) wz) ∧ Hid (∀ i, i < j → lkB (ds.map (·.1)) ls i = true)) (fun i _ => M - (intOf i).toNat)
      case atStart => exact ⟨0, Nat.zero_le _, rfl, hI, hid fun i h => absurd h (Nat.not_lt_zero _)⟩
      case round =>
        obtain ⟨j, hj, rfl, hJ, hA⟩ := hrel
        rename World => wz
        obtain ⟨t0, t1, t2⟩ := topJ_cells hJ.out.top
        by_cases hlt2 : j < M
        · have jI : (j : Int) < (M : Int) := by omega
          have HLJ := hid (HLK.out _ hJ.out.below j hlt2)
          obtain ⟨bl, hbl⟩ : ∃ bl, bl = lkB (ds.map (·.1)) ls j := ⟨_, rfl⟩
          have HBL := hid hbl
          rw [← hbl] at HLJ
          clear hbl
          go_wp2_with fail
          refine HLJ.out.mono ?_
          rintro en w6 ⟨rfl, hb6⟩
          have HJ6 := hid (hJ.out.on hb6)
          clear hb6
          cases bl with
          | false =>
            have HE := hid (show chkT wd (ds.map (·.1)) ls = 113 from chkT_bad (by rw [HCB.out, HA1.out, allN_false hlt2 HBL.out.symm]; rfl))
            go_wp2
            go_ret
            exact ⟨by rw [HE.out]; rfl, HJ6.out.below⟩
          | true =>
            have HA2 := hid (show ∀ i, i < j + 1 → lkB (ds.map (·.1)) ls i = true from fun i hi => by
              by_cases e : i = j
              · rw [e]; exact HBL.out.symm
              · exact hA.out i (by omega))
            go_wp2
            go_roundw
            case rel => exact ⟨j + 1, by omega, by go_num, HJ6, HA2⟩
            case measure => simp [intOf]; omega
        · have hjI : ¬ (j : Int) < (M : Int) := by omega
          have HE := hid (show chkT wd (ds.map (·.1)) ls = 0 from chkT_good (by
            rw [HCB.out, HA1.out, allN_iff.2 fun i hi => hA.out i (by omega)]; rfl))
          go_wp2
          go_ret
          exact ⟨by rw [HE.out]; rfl, hJ.out.below⟩
end Go.Proofs.YtebaopiedlioiaaGreatDoor
namespace Go.Proofs.YtebaopiedlioiaaGreatDoor
open Go.RowKit

set_option maxRecDepth 20000 in
set_option maxHeartbeats 2000000 in
theorem ofew_any {w : World} {wd : Int} {dv lv : Option Addr} {N dc M lc : Nat} (hN : N ≤ dc) (hM : M ≤ lc) (hd : N = 0 ∨ ∃ g o, dv = some ⟨g, o, none⟩) (hl : M = 0 ∨ ∃ g o, lv = some ⟨g, o, none⟩) :
    Calls Tryz.prog 13 #[.agg #[.int .i64 wd, .slice dv N dc, .slice lv M lc]] w fun e w' => e = .returned (.agg #[.int .i64 wd, .slice dv (min N 40) dc, .slice lv (min M 40) lc]) ∧ Below w.heap.size w w' := by
  by_cases q1 : (40 : Int) < (N : Int)
  · obtain ⟨g, o, rfl⟩ := hd.resolve_left (by omega)
    have e1 : min N 40 = 40 := by omega
    have c1 : (40 : Int) ≤ (dc : Int) := by omega
    rw [e1]
    by_cases q2 : (40 : Int) < (M : Int)
    · obtain ⟨g', o', rfl⟩ := hl.resolve_left (by omega)
      have e2 : min M 40 = 40 := by omega
      have c2 : (40 : Int) ≤ (lc : Int) := by omega
      rw [e2]
      clear hd hl e1 e2 hN hM
      go_enter Tryz.func13, Tryz.ntmps13
      go_wp2
      exact bodyPost_ret (v := .agg #[.int .i64 wd, .slice (some ⟨g, o, none⟩) 40 dc, .slice (some ⟨g', o', none⟩) 40 lc]) (by simp [results, Tryz.results13, go_sem]) rfl ⟨rfl, ((Below.refl _ _).alloc (Nat.le_refl _) _).alloc (by simp) _⟩
    · have e2 : min M 40 = M := by omega
      rw [e2]
      clear hd hl e1 e2 hN hM
      go_enter Tryz.func13, Tryz.ntmps13
      go_wp2
      exact bodyPost_ret (v := .agg #[.int .i64 wd, .slice (some ⟨g, o, none⟩) 40 dc, .slice lv M lc]) (by simp [results, Tryz.results13, go_sem]) rfl ⟨rfl, ((Below.refl _ _).alloc (Nat.le_refl _) _).alloc (by simp) _⟩
  · have e1 : min N 40 = N := by omega
    rw [e1]
    by_cases q2 : (40 : Int) < (M : Int)
    · obtain ⟨g', o', rfl⟩ := hl.resolve_left (by omega)
      have e2 : min M 40 = 40 := by omega
      have c2 : (40 : Int) ≤ (lc : Int) := by omega
      rw [e2]
      clear hd hl e1 e2 hN hM
      go_enter Tryz.func13, Tryz.ntmps13
      go_wp2
      exact bodyPost_ret (v := .agg #[.int .i64 wd, .slice dv N dc, .slice (some ⟨g', o', none⟩) 40 lc]) (by simp [results, Tryz.results13, go_sem]) rfl ⟨rfl, ((Below.refl _ _).alloc (Nat.le_refl _) _).alloc (by simp) _⟩
    · have e2 : min M 40 = M := by omega
      rw [e2]
      clear hd hl e1 e2 hN hM
      go_enter Tryz.func13, Tryz.ntmps13
      go_wp2
      exact bodyPost_ret (v := .agg #[.int .i64 wd, .slice dv N dc, .slice lv M lc]) (by simp [results, Tryz.results13, go_sem]) rfl ⟨rfl, ((Below.refl _ _).alloc (Nat.le_refl _) _).alloc (by simp) _⟩
end Go.Proofs.YtebaopiedlioiaaGreatDoor
namespace Go.Proofs.YtebaopiedlioiaaGreatDoor
open Go.RowKit

theorem DvL.take {w : World} {dv : Option Addr} {N dc : Nat} {ds : List (To.Dv × Value × Value)} (h : DvL w (.slice dv N dc) ds) (k : Nat) : DvL w (.slice dv (min N k) dc) (ds.take k) := by
  obtain ⟨av, cap, e, h2⟩ := h.form
  injection e with e1 e2 e3
  subst e1; subst e2; subst e3
  refine ⟨⟨dv, dc, by rw [List.length_take, Nat.min_comm], ?_⟩, fun q hq => h.cls q (List.mem_of_mem_take hq), fun q hq => h.prt q (List.mem_of_mem_take hq)⟩
  rcases h2 with e | ⟨G, o, e1, e2, e3⟩
  · left; rw [e]; simp
  · right
    refine ⟨G, o, e1, e2, fun i q hq => e3 i q ?_⟩
    rw [List.getElem?_take] at hq
    split at hq
    · exact hq
    · cases hq
theorem LkV.take {w : World} {lv : Option Addr} {M lc : Nat} {ls : List LkZ} (h : LkV w (.slice lv M lc) ls) (k : Nat) : LkV w (.slice lv (min M k) lc) (ls.take k) := by
  obtain ⟨av, cap, e, h2⟩ := h.form
  injection e with e1 e2 e3
  subst e1; subst e2; subst e3
  refine ⟨⟨lv, lc, by rw [List.length_take, Nat.min_comm], ?_⟩⟩
  rcases h2 with e | ⟨G, o, e1, e2, e3⟩
  · left; rw [e]; simp
  · right
    refine ⟨G, o, e1, e2, fun i q hq => e3 i q ?_⟩
    rw [List.getElem?_take] at hq
    split at hq
    · exact hq
    · cases hq
/-- Where a row lies that is not empty. -/
theorem DvL.addr {w : World} {dv : Option Addr} {N dc : Nat} {ds : List (To.Dv × Value × Value)} (h : DvL w (.slice dv N dc) ds) : N = 0 ∨ ∃ g o, dv = some ⟨g, o, none⟩ := by
  obtain ⟨av, cap, e, h2⟩ := h.form
  injection e with e1 e2 e3
  subst e1; subst e2; subst e3
  rcases h2 with e | ⟨G, o, e1, -⟩
  · left; rw [e]; rfl
  · exact .inr ⟨G, o, e1⟩
theorem LkV.addr {w : World} {lv : Option Addr} {M lc : Nat} {ls : List LkZ} (h : LkV w (.slice lv M lc) ls) : M = 0 ∨ ∃ g o, lv = some ⟨g, o, none⟩ := by
  obtain ⟨av, cap, e, h2⟩ := h.form
  injection e with e1 e2 e3
  subst e1; subst e2; subst e3
  rcases h2 with e | ⟨G, o, e1, -⟩
  · left; rw [e]; rfl
  · exact .inr ⟨G, o, e1⟩
theorem DvShort.take {ds : List (To.Dv × Value × Value)} (h : DvShort ds) (k : Nat) : DvShort (ds.take k) := fun q hq => h q (List.mem_of_mem_take hq)
theorem nameB_len {l : List UInt8} (h : Wo.nameB l = true) : l.length ≤ 64 := by
  unfold Wo.nameB at h
  exact (of_decide_eq_true h).2.1
theorem nmsB_len {most : Nat} {l : List (List UInt8)} (h : nmsB most l = true) : ∀ p ∈ l, p.length ≤ 64 := by
  intro p hp
  obtain ⟨i, hi⟩ := List.getElem?_of_mem hp
  unfold nmsB at h
  simp only [Bool.and_eq_true] at h
  have := allN_iff.1 h.1 i (List.getElem?_eq_some_iff.1 hi).1
  unfold nmB at this
  simp only [Bool.and_eq_true] at this
  rw [getD_at hi] at this
  exact nameB_len this.1
/-- Of a topology that may be the ports of links are short. -/
theorem topB_short {wd : Int} {ds : List To.Dv} {ls : List LkZ} (h : topB wd ds ls = true) : ∀ q ∈ ls, q.2.1.length ≤ 1048576 ∧ q.2.2.2.length ≤ 1048576 := by
  intro q hq
  unfold topB at h
  simp only [Bool.and_eq_true] at h
  obtain ⟨i, hi⟩ := List.getElem?_of_mem hq
  have h1 := allN_iff.1 h.2.2 i (List.getElem?_eq_some_iff.1 hi).1
  have h2 := allN_iff.1 h.2.1
  have hp : ∀ {a : Int} {p : List UInt8}, hasP ds a p = true → p.length ≤ 64 := by
    intro a p hh
    unfold hasP at hh
    split at hh
    · cases hd : ds[a.toNat]? with
      | none => rw [hd] at hh; cases hh
      | some d =>
        rw [hd] at hh
        have h3 := h2 a.toNat (List.getElem?_eq_some_iff.1 hd).1
        unfold dvB at h3
        simp only [Bool.and_eq_true] at h3
        rw [getD_at hd] at h3
        exact nmsB_len h3.2 p (List.contains_iff_mem.1 hh)
    · cases hh
  unfold lkB at h1
  rw [getD_at hi] at h1
  simp only [Bool.and_eq_true] at h1
  exact ⟨Nat.le_trans (hp h1.2.1.1) (by decide), Nat.le_trans (hp h1.2.1.2) (by decide)⟩
end Go.Proofs.YtebaopiedlioiaaGreatDoor
namespace Go.Proofs.YtebaopiedlioiaaGreatDoor
open Go.ChangeShapes Go.WideShapes Go.ChangeAt Go.RowKit

theorem structOfJ {P : Program} {t : TypeId} {l : List (TypeId × Nat)} (h : (match P.underlying t with | some (.struct fs) => decide (fs.toList.map (fun f => (f.type, f.offset)) = l) | _ => false) = true) : ∃ fs, P.underlying t = some (.struct fs) ∧ fs.toList.map (fun f => (f.type, f.offset)) = l := by
  split at h
  · rename_i fs e
    exact ⟨fs, e, of_decide_eq_true h⟩
  · cases h
theorem fieldOfJ {fs : Array Field} {l : List (TypeId × Nat)} (h : fs.toList.map (fun f => (f.type, f.offset)) = l) {i : Nat} {ty : TypeId} {off : Nat} (hi : l[i]? = some (ty, off)) : ∃ f, fs[i]? = some f ∧ f.type = ty ∧ f.offset = off := by
  rw [← h, List.getElem?_map, Option.map_eq_some_iff] at hi
  obtain ⟨f, hf, e⟩ := hi
  simp only [Prod.mk.injEq] at e
  exact ⟨f, by simpa using hf, e.1, e.2⟩
theorem addrAddJ (g o i : Nat) : (⟨g, o, none⟩ : Addr).add i = ⟨g, o + i, none⟩ := by
  unfold Addr.add; split <;> simp_all
theorem addrOfJ {w : World} {a : Addr} {v : Value} (h : w.cell? (a.add 0) = some v) : (∃ g o, a = ⟨g, o, none⟩) ∧ a.block < w.heap.size := by
  have e : a.add 0 = a := by unfold Addr.add; simp
  rw [e] at h
  obtain ⟨g, o, sp⟩ := a
  have hlt : g < w.heap.size := World.block_lt_of_cell? w _ h
  refine ⟨?_, hlt⟩
  cases sp with
  | none => exact ⟨g, o, rfl⟩
  | some s =>
    exfalso
    unfold World.cell? at h
    simp only [Option.isSome_some, if_true] at h
    split at h <;> cases h

section
variable {H : Type} {enc : TypeId × Value → H} {w : World} {base : Nat} {held : Bool}

/-- Texts that came in. -/
theorem open_textsJ {fuel : Nat} {v : Value} {x : DataW H × List MemPlace} (h : DataW.trod enc Tryz.prog w base (fun _ => true) held fuel 47 [v] = some x) : ∃ ps : List (List UInt8), Txs w v ps ∧ ps.length ≤ maxLen ∧ ∀ p ∈ ps, p.length ≤ maxLen := by
  rcases open_strings Tryz.underlying47 Tryz.underlying9 (by kernel_rfl) h with ⟨hcs, _⟩ | ⟨a, len, cap, ss, hcs, _, hl, hm, hz, _, hcell, hws⟩
  · simp only [List.cons.injEq, and_true] at hcs
    exact ⟨[], by rw [hcs]; exact Txs.nil _ _ _, by simp, fun p hp => absurd hp (by simp)⟩
  · simp only [List.cons.injEq, and_true] at hcs
    simp only [if_true] at hz
    have hlen : ((ss.take len).map (fun s => s.data.toList)).length = len := by rw [List.length_map, List.length_take]; omega
    refine ⟨(ss.take len).map (fun s => s.data.toList), ?_, by rw [hlen]; omega, fun p hp => ?_⟩
    · refine ⟨some a, cap, by rw [hlen, hcs], ?_⟩
      by_cases h0 : len = 0
      · exact Or.inl (by rw [h0]; simp)
      · obtain ⟨⟨g, o, rfl⟩, hb⟩ := addrOfJ (hcell 0 (by omega))
        refine Or.inr ⟨g, o, rfl, hb, fun i hi => ?_⟩
        rw [hlen] at hi
        have := hcell i (by omega)
        rw [addrAddJ] at this
        rw [this]
        have hi2 : i < ss.length := by omega
        simp [List.getD_eq_getElem?_getD, List.getElem?_map, hi, List.getElem?_eq_getElem hi2]
    · obtain ⟨s, hs, rfl⟩ := List.mem_map.1 hp
      have := hws s (List.mem_of_mem_take hs)
      rw [list_size]; exact this

set_option maxRecDepth 100000 in
theorem open_dv {fuel : Nat} {cs : List Value} {x : DataW H × List MemPlace} (h : DataW.trod enc Tryz.prog w base (fun _ => true) held fuel 80 cs = some x) :
    ∃ q : To.Dv × Value × Value, cs = [.string (tx q.1.name), q.2.1, q.2.2] ∧ q.1.name.length ≤ maxLen ∧ Txs w q.2.1 q.1.cls ∧ q.1.cls.length ≤ maxLen ∧ (∀ p ∈ q.1.cls, p.length ≤ maxLen) ∧ Txs w q.2.2 q.1.prt ∧ q.1.prt.length ≤ maxLen ∧ ∀ p ∈ q.1.prt, p.length ≤ maxLen := by
  obtain ⟨fs, hfs, hl⟩ := structOfJ (P := Tryz.prog) (t := 80) (l := [(9, 0), (47, 1), (47, 2)]) (by kernel_rfl)
  obtain ⟨xs, n, _, _, hlen, hxl, hf⟩ := DataW.trod_struct hfs h
  have hc : Tryz.prog.cellsOf 80 = 3 := by kernel_rfl
  rw [hc] at hlen
  have hsz : fs.size = 3 := by have := congrArg List.length hl; simpa using this
  match cs, hlen with
  | [c0, c1, c2], _ =>
    obtain ⟨f0, e0, t0, o0⟩ := fieldOfJ hl (i := 0) rfl
    obtain ⟨f1, e1, t1, o1⟩ := fieldOfJ hl (i := 1) rfl
    obtain ⟨f2, e2, t2, o2⟩ := fieldOfJ hl (i := 2) rfl
    have g0 := hf 0 f0 e0
    have g1 := hf 1 f1 e1
    have g2 := hf 2 f2 e2
    rw [t0, o0, show Tryz.prog.cellsOf 9 = 1 by kernel_rfl, List.getElem?_eq_getElem (show 0 < xs.length by omega)] at g0
    rw [t1, o1, show Tryz.prog.cellsOf 47 = 1 by kernel_rfl, List.getElem?_eq_getElem (show 1 < xs.length by omega)] at g1
    rw [t2, o2, show Tryz.prog.cellsOf 47 = 1 by kernel_rfl, List.getElem?_eq_getElem (show 2 < xs.length by omega)] at g2
    obtain ⟨m, hm1, _, hms⟩ := DataW.trod_string Tryz.underlying9 g0
    simp at hm1
    subst hm1
    have g1' : DataW.trod enc Tryz.prog w base (fun _ => true) held n 47 [c1] = some xs[1] := by simpa using g1
    have g2' : DataW.trod enc Tryz.prog w base (fun _ => true) held n 47 [c2] = some xs[2] := by simpa using g2
    obtain ⟨zs, hz, hzl, hzm⟩ := open_textsJ g1'
    obtain ⟨ys, hy, hyl, hym⟩ := open_textsJ g2'
    exact ⟨(⟨m.data.toList, zs, ys⟩, c1, c2), rfl, by rw [list_size]; exact hms, hz, hzl, hzm, hy, hyl, hym⟩

set_option maxRecDepth 100000 in
theorem open_lk {fuel : Nat} {cs : List Value} {x : DataW H × List MemPlace} (h : DataW.trod enc Tryz.prog w base (fun _ => true) held fuel 83 cs = some x) :
    ∃ q : LkZ, cs = [.int .i64 q.1, .string (tx q.2.1), .int .i64 q.2.2.1, .string (tx q.2.2.2)] ∧ q.2.1.length ≤ maxLen ∧ q.2.2.2.length ≤ maxLen := by
  obtain ⟨fs, hfs, hl⟩ := structOfJ (P := Tryz.prog) (t := 83) (l := [(3, 0), (9, 1), (3, 2), (9, 3)]) (by kernel_rfl)
  obtain ⟨xs, n, _, _, hlen, hxl, hf⟩ := DataW.trod_struct hfs h
  have hc : Tryz.prog.cellsOf 83 = 4 := by kernel_rfl
  rw [hc] at hlen
  have hsz : fs.size = 4 := by have := congrArg List.length hl; simpa using this
  match cs, hlen with
  | [c0, c1, c2, c3], _ =>
    obtain ⟨f0, e0, t0, o0⟩ := fieldOfJ hl (i := 0) rfl
    obtain ⟨f1, e1, t1, o1⟩ := fieldOfJ hl (i := 1) rfl
    obtain ⟨f2, e2, t2, o2⟩ := fieldOfJ hl (i := 2) rfl
    obtain ⟨f3, e3, t3, o3⟩ := fieldOfJ hl (i := 3) rfl
    have g0 := hf 0 f0 e0
    have g1 := hf 1 f1 e1
    have g2 := hf 2 f2 e2
    have g3 := hf 3 f3 e3
    rw [t0, o0, show Tryz.prog.cellsOf 3 = 1 by kernel_rfl, List.getElem?_eq_getElem (show 0 < xs.length by omega)] at g0
    rw [t1, o1, show Tryz.prog.cellsOf 9 = 1 by kernel_rfl, List.getElem?_eq_getElem (show 1 < xs.length by omega)] at g1
    rw [t2, o2, show Tryz.prog.cellsOf 3 = 1 by kernel_rfl, List.getElem?_eq_getElem (show 2 < xs.length by omega)] at g2
    rw [t3, o3, show Tryz.prog.cellsOf 9 = 1 by kernel_rfl, List.getElem?_eq_getElem (show 3 < xs.length by omega)] at g3
    obtain ⟨a, ha, _, _⟩ := DataW.trod_int Tryz.underlying3 g0
    obtain ⟨p, hp, _, hps⟩ := DataW.trod_string Tryz.underlying9 g1
    obtain ⟨b, hb, _, _⟩ := DataW.trod_int Tryz.underlying3 g2
    obtain ⟨q, hq, _, hqs⟩ := DataW.trod_string Tryz.underlying9 g3
    simp at ha hp hb hq
    subst ha hp hb hq
    exact ⟨(a, p.data.toList, b, q.data.toList), rfl, by rw [list_size]; exact hps, by rw [list_size]; exact hqs⟩

/-- Devices that came in. -/
theorem open_dvs {fuel : Nat} {v : Value} {x : DataW H × List MemPlace} (h : DataW.trod enc Tryz.prog w base (fun _ => true) held fuel 22 [v] = some x) : ∃ (dv : Option Addr) (N dc : Nat) (ds : List (To.Dv × Value × Value)), v = .slice dv N dc ∧ DvL w (.slice dv N dc) ds ∧ N ≤ dc ∧ N ≤ maxLen ∧ DvShort ds := by
  rcases DataW.trod_slice Tryz.underlying22 h with ⟨hcs, _⟩ | ⟨a, len, cap, elems, rest, n2, hn2, hcs, _, _, hlc, hlm, hel, helem, _, _⟩
  · simp only [List.cons.injEq, and_true] at hcs
    exact ⟨none, 0, 0, [], hcs, ⟨⟨none, 0, rfl, .inl rfl⟩, fun q hq => absurd hq (by simp), fun q hq => absurd hq (by simp)⟩, Nat.le_refl _, by simp, fun q hq => absurd hq (by simp)⟩
  · simp only [List.cons.injEq, and_true] at hcs
    subst hcs
    rw [show Tryz.prog.cellsOf 80 = 3 by kernel_rfl] at helem
    have each : ∀ i, i < len → ∃ q : To.Dv × Value × Value, (w.cell? (a.add (i * 3)) = some (.string (tx q.1.name)) ∧ w.cell? ((a.add (i * 3)).add 1) = some q.2.1 ∧ w.cell? ((a.add (i * 3)).add 2) = some q.2.2) ∧ q.1.name.length ≤ maxLen ∧ Txs w q.2.1 q.1.cls ∧ q.1.cls.length ≤ maxLen ∧ (∀ p ∈ q.1.cls, p.length ≤ maxLen) ∧ Txs w q.2.2 q.1.prt ∧ q.1.prt.length ≤ maxLen ∧ ∀ p ∈ q.1.prt, p.length ≤ maxLen := by
      intro i hi
      have h1 := helem i hi
      rw [List.getElem?_eq_getElem (show i < elems.length by omega), Option.bind_eq_some_iff] at h1
      obtain ⟨cs', h2, h3⟩ := h1
      obtain ⟨_, _, hcell⟩ := World.cells?_some h2
      obtain ⟨q, rfl, h4⟩ := open_dv h3
      have c0 := hcell 0 (by omega)
      have e0 : (a.add (i * 3)).add 0 = a.add (i * 3) := by unfold Addr.add; simp
      rw [e0] at c0
      exact ⟨q, ⟨c0, hcell 1 (by omega), hcell 2 (by omega)⟩, h4⟩
    by_cases h0 : len = 0
    · subst h0
      exact ⟨some a, 0, cap, [], rfl, ⟨⟨some a, cap, rfl, .inl rfl⟩, fun q hq => absurd hq (by simp), fun q hq => absurd hq (by simp)⟩, Nat.zero_le _, by simp, fun q hq => absurd hq (by simp)⟩
    have : Inhabited (To.Dv × Value × Value) := ⟨(⟨[], [], []⟩, .bool false, .bool false)⟩
    obtain ⟨q, hq⟩ := Go.Deep.choose_lt each
    obtain ⟨⟨g, o, rfl⟩, hb⟩ := addrOfJ (v := .string (tx (q 0).1.name)) (by have := (hq 0 (by omega)).1.1; rw [Nat.zero_mul] at this; exact this)
    have hall : ∀ z ∈ (List.range len).map q, ∃ i, i < len ∧ q i = z := fun z hz => by
      obtain ⟨i, hi, rfl⟩ := List.mem_map.1 hz
      exact ⟨i, List.mem_range.1 hi, rfl⟩
    refine ⟨_, len, cap, (List.range len).map q, rfl, ⟨⟨_, cap, by simp, .inr ⟨g, o, rfl, hb, fun i p hp => ?_⟩⟩, fun z hz => ?_, fun z hz => ?_⟩, hlc, by omega, fun z hz => ?_⟩
    · rw [List.getElem?_map, Option.map_eq_some_iff] at hp
      obtain ⟨i', hi', rfl⟩ := hp
      obtain ⟨hi, rfl⟩ := List.getElem?_eq_some_iff.1 hi'
      simp only [List.length_range] at hi
      simp only [List.getElem_range]
      obtain ⟨⟨c0, c1, c2⟩, -⟩ := hq i hi
      rw [addrAddJ] at c0 c1 c2
      rw [addrAddJ] at c1 c2
      exact ⟨c0, c1, c2⟩
    · obtain ⟨i, hi, rfl⟩ := hall z hz
      exact ⟨(hq i hi).2.2.1, (hq i hi).2.2.2.1⟩
    · obtain ⟨i, hi, rfl⟩ := hall z hz
      exact ⟨(hq i hi).2.2.2.2.2.1, (hq i hi).2.2.2.2.2.2.1⟩
    · obtain ⟨i, hi, rfl⟩ := hall z hz
      exact ⟨(hq i hi).2.1, (hq i hi).2.2.2.2.1, (hq i hi).2.2.2.2.2.2.2⟩

/-- Ports of links that are not too long for the model. -/
def LkShort (ls : List LkZ) : Prop := ∀ q ∈ ls, q.2.1.length ≤ maxLen ∧ q.2.2.2.length ≤ maxLen
/-- Links that came in. -/
theorem open_lks {fuel : Nat} {v : Value} {x : DataW H × List MemPlace} (h : DataW.trod enc Tryz.prog w base (fun _ => true) held fuel 23 [v] = some x) : ∃ (lv : Option Addr) (M lc : Nat) (ls : List LkZ), v = .slice lv M lc ∧ LkV w (.slice lv M lc) ls ∧ M ≤ lc ∧ M ≤ maxLen ∧ LkShort ls := by
  rcases DataW.trod_slice Tryz.underlying23 h with ⟨hcs, _⟩ | ⟨a, len, cap, elems, rest, n2, hn2, hcs, _, _, hlc, hlm, hel, helem, _, _⟩
  · simp only [List.cons.injEq, and_true] at hcs
    exact ⟨none, 0, 0, [], hcs, ⟨none, 0, rfl, .inl rfl⟩, Nat.le_refl _, by simp, fun q hq => absurd hq (by simp)⟩
  · simp only [List.cons.injEq, and_true] at hcs
    subst hcs
    rw [show Tryz.prog.cellsOf 83 = 4 by kernel_rfl] at helem
    have each : ∀ i, i < len → ∃ q : LkZ, (w.cell? (a.add (i * 4)) = some (.int .i64 q.1) ∧ w.cell? ((a.add (i * 4)).add 1) = some (.string (tx q.2.1)) ∧ w.cell? ((a.add (i * 4)).add 2) = some (.int .i64 q.2.2.1) ∧ w.cell? ((a.add (i * 4)).add 3) = some (.string (tx q.2.2.2))) ∧ q.2.1.length ≤ maxLen ∧ q.2.2.2.length ≤ maxLen := by
      intro i hi
      have h1 := helem i hi
      rw [List.getElem?_eq_getElem (show i < elems.length by omega), Option.bind_eq_some_iff] at h1
      obtain ⟨cs', h2, h3⟩ := h1
      obtain ⟨_, _, hcell⟩ := World.cells?_some h2
      obtain ⟨q, rfl, h4⟩ := open_lk h3
      have c0 := hcell 0 (by omega)
      have e0 : (a.add (i * 4)).add 0 = a.add (i * 4) := by unfold Addr.add; simp
      rw [e0] at c0
      exact ⟨q, ⟨c0, hcell 1 (by omega), hcell 2 (by omega), hcell 3 (by omega)⟩, h4⟩
    by_cases h0 : len = 0
    · subst h0
      exact ⟨some a, 0, cap, [], rfl, ⟨some a, cap, rfl, .inl rfl⟩, Nat.zero_le _, by simp, fun q hq => absurd hq (by simp)⟩
    have : Inhabited LkZ := ⟨(0, [], 0, [])⟩
    obtain ⟨q, hq⟩ := Go.Deep.choose_lt each
    obtain ⟨⟨g, o, rfl⟩, hb⟩ := addrOfJ (v := .int .i64 (q 0).1) (by have := (hq 0 (by omega)).1.1; rw [Nat.zero_mul] at this; exact this)
    refine ⟨_, len, cap, (List.range len).map q, rfl, ⟨_, cap, by simp, .inr ⟨g, o, rfl, hb, fun i p hp => ?_⟩⟩, hlc, by omega, fun z hz => ?_⟩
    · rw [List.getElem?_map, Option.map_eq_some_iff] at hp
      obtain ⟨i', hi', rfl⟩ := hp
      obtain ⟨hi, rfl⟩ := List.getElem?_eq_some_iff.1 hi'
      simp only [List.length_range] at hi
      simp only [List.getElem_range]
      obtain ⟨⟨c0, c1, c2, c3⟩, -⟩ := hq i hi
      rw [addrAddJ] at c0 c1 c2 c3
      rw [addrAddJ] at c1 c2 c3
      exact ⟨c0, c1, c2, c3⟩
    · obtain ⟨i, hi, rfl⟩ := List.mem_map.1 hz
      exact (hq i (List.mem_range.1 hi)).2

set_option maxRecDepth 100000 in
/-- A topology that came in. -/
theorem open_topo {fuel : Nat} {cs : List Value} {x : DataW H × List MemPlace} (h : DataW.trod enc Tryz.prog w base (fun _ => true) held fuel 25 cs = some x) :
    ∃ (wd : Int) (dv : Option Addr) (N dc : Nat) (lv : Option Addr) (M lc : Nat) (ds : List (To.Dv × Value × Value)) (ls : List LkZ), cs = [.int .i64 wd, .slice dv N dc, .slice lv M lc] ∧ DvL w (.slice dv N dc) ds ∧ LkV w (.slice lv M lc) ls ∧ N ≤ dc ∧ M ≤ lc ∧ N ≤ maxLen ∧ M ≤ maxLen ∧ DvShort ds ∧ LkShort ls := by
  obtain ⟨fs, hfs, hl⟩ := structOfJ (P := Tryz.prog) (t := 25) (l := [(3, 0), (22, 1), (23, 2)]) (by kernel_rfl)
  obtain ⟨xs, n, _, _, hlen, hxl, hf⟩ := DataW.trod_struct hfs h
  have hc : Tryz.prog.cellsOf 25 = 3 := by kernel_rfl
  rw [hc] at hlen
  have hsz : fs.size = 3 := by have := congrArg List.length hl; simpa using this
  match cs, hlen with
  | [c0, c1, c2], _ =>
    obtain ⟨f0, e0, t0, o0⟩ := fieldOfJ hl (i := 0) rfl
    obtain ⟨f1, e1, t1, o1⟩ := fieldOfJ hl (i := 1) rfl
    obtain ⟨f2, e2, t2, o2⟩ := fieldOfJ hl (i := 2) rfl
    have g0 := hf 0 f0 e0
    have g1 := hf 1 f1 e1
    have g2 := hf 2 f2 e2
    rw [t0, o0, show Tryz.prog.cellsOf 3 = 1 by kernel_rfl, List.getElem?_eq_getElem (show 0 < xs.length by omega)] at g0
    rw [t1, o1, show Tryz.prog.cellsOf 22 = 1 by kernel_rfl, List.getElem?_eq_getElem (show 1 < xs.length by omega)] at g1
    rw [t2, o2, show Tryz.prog.cellsOf 23 = 1 by kernel_rfl, List.getElem?_eq_getElem (show 2 < xs.length by omega)] at g2
    obtain ⟨wd, hw, _, _⟩ := DataW.trod_int Tryz.underlying3 g0
    simp at hw
    subst hw
    have g1' : DataW.trod enc Tryz.prog w base (fun _ => true) held n 22 [c1] = some xs[1] := by simpa using g1
    have g2' : DataW.trod enc Tryz.prog w base (fun _ => true) held n 23 [c2] = some xs[2] := by simpa using g2
    obtain ⟨dv, N, dc, ds, rfl, hD, h1, h2, h3⟩ := open_dvs g1'
    obtain ⟨lv, M, lc, ls, rfl, hL, h4, h5, h6⟩ := open_lks g2'
    exact ⟨wd, dv, N, dc, lv, M, lc, ds, ls, rfl, hD, hL, h1, h4, h2, h5, h3, h6⟩
end
end Go.Proofs.YtebaopiedlioiaaGreatDoor
namespace Go.Proofs.YtebaopiedlioiaaGreatDoor

theorem joinT_lenJ (c : Nat) (ls : List (List UInt8)) : ∀ a, (∀ l ∈ ls, l.length ≤ c) → (Wo.joinT a ls).length ≤ ls.length * (c + 1) := by
  induction ls with
  | nil => intro a _; simp [Wo.joinT]
  | cons b r ih =>
    intro a h
    have e : Wo.joinT a (b :: r) = (if Wo.glue a b then 32 :: b else b) ++ Wo.joinT b r := rfl
    have h1 := ih b (fun l hl => h l (List.mem_cons_of_mem _ hl))
    have h2 := h b (by simp)
    rw [e, List.length_append, List.length_cons, Nat.add_mul, Nat.one_mul]
    split
    · rw [List.length_cons]; omega
    · omega
theorem sayS_short {c : Nat} {ls : List (List UInt8)} (h : ∀ l ∈ ls, l.length ≤ c) : (sayS ls).length ≤ ls.length * (c + 1) := by
  unfold sayS
  split
  · cases ls with
    | nil => simp [Wo.sayL]
    | cons a r =>
      have h1 := joinT_lenJ c r a (fun l hl => h l (List.mem_cons_of_mem _ hl))
      have h2 := h a (by simp)
      show (a ++ Wo.joinT a r).length ≤ _
      rw [List.length_append, List.length_cons, Nat.add_mul, Nat.one_mul]
      omega
  · simp
/-- Names behind the word that tells what they are of, the first so many. -/
def mkS (k : List UInt8) (ns : List (List UInt8)) : Nat → List (List UInt8)
  | 0 => []
  | j + 1 => mkS k ns j ++ [if j = 0 then k else [44], ns.getD j []]
theorem mkS_len (k : List UInt8) (ns : List (List UInt8)) (j : Nat) : (mkS k ns j).length = 2 * j := by
  induction j with
  | zero => rfl
  | succ j ih => rw [mkS, List.length_append, ih]; simp; omega
theorem mkS_short {k : List UInt8} {ns : List (List UInt8)} (hk : k.length ≤ 64) (hn : ∀ p ∈ ns, p.length ≤ 64) (j : Nat) : ∀ l ∈ mkS k ns j, l.length ≤ 64 := by
  induction j with
  | zero => intro l hl; cases hl
  | succ j ih =>
    intro l hl
    rw [mkS, List.mem_append] at hl
    rcases hl with hl | hl
    · exact ih l hl
    · simp only [List.mem_cons, List.not_mem_nil, or_false] at hl
      rcases hl with rfl | rfl
      · split
        · exact hk
        · decide
      · rw [List.getD_eq_getElem?_getD]
        cases e : ns[j]? with
        | none => simp
        | some p => exact hn p (List.mem_of_getElem? e)
/-- A device's words. -/
def dvW (d : To.Dv) : List (List UInt8) := ([To.deviceT, d.name] ++ mkS To.classT d.cls d.cls.length) ++ mkS To.portT d.prt d.prt.length
/-- A link's words. -/
def lkW (ds : List To.Dv) (x : LkZ) : List (List UInt8) := [To.linkT, (ds.getD x.1.toNat dv0).name, x.2.1, To.arrowT, (ds.getD x.2.2.1.toNat dv0).name, x.2.2.2]
def wdW (n : Nat) : List (List UInt8) := [To.widthT, Lib.decDigits n]
def dvsT (ds : List To.Dv) : List UInt8 := ds.flatMap fun d => sayS (dvW d) ++ [10]
def lksT (ds : List To.Dv) (ls : List LkZ) : List UInt8 := ls.flatMap fun x => sayS (lkW ds x) ++ [10]
/-- A topology's text. -/
def tpT (wd : Nat) (ds : List To.Dv) (ls : List LkZ) : List UInt8 := ((sayS (wdW wd) ++ [10]) ++ dvsT ds) ++ lksT ds ls
theorem dvsT_snoc {ds : List To.Dv} {k : Nat} {d : To.Dv} (h : ds[k]? = some d) : dvsT (ds.take (k + 1)) = (dvsT (ds.take k) ++ sayS (dvW d)) ++ [10] := by
  unfold dvsT
  rw [List.take_add_one, h, Option.toList, List.flatMap_append]
  simp
theorem lksT_snoc (ds : List To.Dv) {ls : List LkZ} {k : Nat} {x : LkZ} (h : ls[k]? = some x) : lksT ds (ls.take (k + 1)) = (lksT ds (ls.take k) ++ sayS (lkW ds x)) ++ [10] := by
  unfold lksT
  rw [List.take_add_one, h, Option.toList, List.flatMap_append]
  simp
/-- A device whose texts are short. -/
structure DvOk (d : To.Dv) : Prop where
  name : d.name.length ≤ 64
  cls : ∀ p ∈ d.cls, p.length ≤ 64
  prt : ∀ p ∈ d.prt, p.length ≤ 64
  cn : d.cls.length ≤ 16
  pn : d.prt.length ≤ 64
/-- A link whose ends are ports of devices. -/
structure LkOk (ds : List To.Dv) (x : LkZ) : Prop where
  a0 : 0 ≤ x.1
  an : x.1.toNat < ds.length
  b0 : 0 ≤ x.2.2.1
  bn : x.2.2.1.toNat < ds.length
  p : x.2.1.length ≤ 64
  q : x.2.2.2.length ≤ 64
theorem nmsB_most {most : Nat} {l : List (List UInt8)} (h : nmsB most l = true) : l.length ≤ most := by
  unfold nmsB at h
  simp only [Bool.and_eq_true, decide_eq_true_eq] at h
  exact h.2
theorem dvB_ok {ds : List To.Dv} {i : Nat} {d : To.Dv} (hd : ds[i]? = some d) (h : dvB ds i = true) : DvOk d := by
  unfold dvB at h
  simp only [Bool.and_eq_true] at h
  rw [getD_at hd] at h
  exact ⟨nameB_len h.1.1.1, nmsB_len h.1.2, nmsB_len h.2, nmsB_most h.1.2, nmsB_most h.2⟩
/-- What a topology that may be has. -/
structure TopOk (wd : Int) (ds : List To.Dv) (ls : List LkZ) : Prop where
  w1 : 1 ≤ wd
  w2 : wd ≤ 128
  d1 : 1 ≤ ds.length
  d2 : ds.length ≤ 256
  l2 : ls.length ≤ 4096
  dv : ∀ d ∈ ds, DvOk d
  lk : ∀ x ∈ ls, LkOk ds x
theorem topB_ok {wd : Int} {ds : List To.Dv} {ls : List LkZ} (h : topB wd ds ls = true) : TopOk wd ds ls := by
  unfold topB at h
  simp only [Bool.and_eq_true, decide_eq_true_eq] at h
  obtain ⟨⟨⟨h1, h2⟩, h3, h4, h5⟩, h6, h7⟩ := h
  have hdv : ∀ d ∈ ds, DvOk d := fun d hd => by
    obtain ⟨i, hi⟩ := List.getElem?_of_mem hd
    exact dvB_ok hi (allN_iff.1 h6 i (List.getElem?_eq_some_iff.1 hi).1)
  have hp : ∀ {a : Int} {p : List UInt8}, hasP ds a p = true → 0 ≤ a ∧ a.toNat < ds.length ∧ p.length ≤ 64 := by
    intro a p hh
    unfold hasP at hh
    split at hh
    · rename_i h0
      cases hd : ds[a.toNat]? with
      | none => rw [hd] at hh; cases hh
      | some d =>
        rw [hd] at hh
        exact ⟨h0, (List.getElem?_eq_some_iff.1 hd).1, (hdv d (List.mem_of_getElem? hd)).prt p (List.contains_iff_mem.1 hh)⟩
    · cases hh
  refine ⟨h1, h2, h3, h4, h5, hdv, fun x hx => ?_⟩
  obtain ⟨i, hi⟩ := List.getElem?_of_mem hx
  have h8 := allN_iff.1 h7 i (List.getElem?_eq_some_iff.1 hi).1
  unfold lkB at h8
  rw [getD_at hi] at h8
  simp only [Bool.and_eq_true] at h8
  obtain ⟨q1, q2, q3⟩ := hp h8.2.1.1
  obtain ⟨q4, q5, q6⟩ := hp h8.2.1.2
  exact ⟨q1, q2, q4, q5, q3, q6⟩
theorem dvW_short {d : To.Dv} (h : DvOk d) : (∀ l ∈ dvW d, l.length ≤ 64) ∧ (dvW d).length ≤ 162 := by
  constructor
  · intro l hl
    unfold dvW at hl
    simp only [List.mem_append, List.mem_cons, List.not_mem_nil, or_false] at hl
    rcases hl with ((rfl | rfl) | hl) | hl
    · decide
    · exact h.name
    · exact mkS_short (by decide) h.cls _ l hl
    · exact mkS_short (by decide) h.prt _ l hl
  · unfold dvW
    rw [List.length_append, List.length_append, mkS_len, mkS_len]
    have := h.cn
    have := h.pn
    simp
    omega
theorem lkW_short {ds : List To.Dv} {x : LkZ} (hd : ∀ d ∈ ds, DvOk d) (h : LkOk ds x) : (∀ l ∈ lkW ds x, l.length ≤ 64) ∧ (lkW ds x).length = 6 := by
  have hn : ∀ i : Nat, (ds.getD i dv0).name.length ≤ 64 := fun i => by
    rw [List.getD_eq_getElem?_getD]
    cases e : ds[i]? with
    | none => decide
    | some d => exact (hd d (List.mem_of_getElem? e)).name
  refine ⟨fun l hl => ?_, rfl⟩
  unfold lkW at hl
  simp only [List.mem_cons, List.not_mem_nil, or_false] at hl
  rcases hl with rfl | rfl | rfl | rfl | rfl | rfl
  · decide
  · exact hn _
  · exact h.p
  · decide
  · exact hn _
  · exact h.q
theorem dvsT_len (ds : List To.Dv) (h : ∀ d ∈ ds, DvOk d) : (dvsT ds).length ≤ ds.length * 10531 := by
  induction ds with
  | nil => simp [dvsT]
  | cons d r ih =>
    have h1 := ih (fun y hy => h y (List.mem_cons_of_mem _ hy))
    obtain ⟨h2, h3⟩ := dvW_short (h d (by simp))
    have h4 := sayS_short h2
    have e : dvsT (d :: r) = (sayS (dvW d) ++ [10]) ++ dvsT r := rfl
    have := Nat.mul_le_mul_right 65 h3
    rw [e, List.length_append, List.length_append]
    simp only [List.length_cons, List.length_nil, Nat.add_mul]
    omega
theorem lksT_len (ds : List To.Dv) (ls : List LkZ) (hd : ∀ d ∈ ds, DvOk d) (h : ∀ x ∈ ls, LkOk ds x) : (lksT ds ls).length ≤ ls.length * 391 := by
  induction ls with
  | nil => simp [lksT]
  | cons x r ih =>
    have h1 := ih (fun y hy => h y (List.mem_cons_of_mem _ hy))
    obtain ⟨h2, h3⟩ := lkW_short hd (h x (by simp))
    have h4 := sayS_short h2
    have e : lksT ds (x :: r) = (sayS (lkW ds x) ++ [10]) ++ lksT ds r := rfl
    rw [h3] at h4
    rw [e, List.length_append, List.length_append]
    simp only [List.length_cons, List.length_nil, Nat.add_mul]
    omega
end Go.Proofs.YtebaopiedlioiaaGreatDoor
namespace Go.Proofs.YtebaopiedlioiaaGreatDoor

theorem ocE_lt {p q : Int} {m n : List UInt8} : ocE p m q n < 0 ↔ p < q ∨ (p = q ∧ m < n) := by
  unfold ocE ocI
  by_cases h1 : p < q
  · simp [h1]
  · by_cases h2 : q < p
    · simp only [h1, if_false, h2, if_true]
      rw [if_neg (show ¬ (1 : Int) = 0 by decide)]
      constructor
      · intro h; exact absurd h (by decide)
      · rintro (h | ⟨h, _⟩)
        · exact h.elim
        · omega
    · have e : p = q := by omega
      subst e
      simp only [Int.lt_irrefl, if_false, if_true, true_and, false_or]
      unfold ocL
      by_cases h3 : m < n
      · simp [h3]
      · by_cases h4 : n < m
        · simp [h3, h4]
        · simp [h3, h4]
/-- The ends of links. -/
def keysJ (ls : List LkZ) : List (Nat × List UInt8) := ls.flatMap fun x => [(x.1.toNat, x.2.1), (x.2.2.1.toNat, x.2.2.2)]
theorem keysJ_snoc {ls : List LkZ} {k : Nat} {x : LkZ} (h : ls[k]? = some x) : keysJ (ls.take (k + 1)) = (keysJ (ls.take k) ++ [(x.1.toNat, x.2.1)]) ++ [(x.2.2.1.toNat, x.2.2.2)] := by
  unfold keysJ
  rw [List.take_add_one, h, Option.toList, List.flatMap_append]
  simp
theorem keysJ_len (ls : List LkZ) : (keysJ ls).length = 2 * ls.length := by
  induction ls with
  | nil => rfl
  | cons x r ih => rw [keysJ, List.flatMap_cons, List.length_append, show (List.flatMap (fun x : LkZ => [(x.1.toNat, x.2.1), (x.2.2.1.toNat, x.2.2.2)]) r).length = 2 * r.length from ih]; simp; omega
theorem keysJ_mem {ls : List LkZ} {j : Nat} (hp : ∀ (i : Nat) (y : LkZ), i < j → ls[i]? = some y → 0 ≤ y.1 ∧ 0 ≤ y.2.2.1) {d : Int} {p : List UInt8} (hd : 0 ≤ d) : (d.toNat, p) ∈ keysJ (ls.take j) ↔ ∃ (i : Nat) (y : LkZ), i < j ∧ ls[i]? = some y ∧ atB y d p = true := by
  unfold keysJ
  rw [List.mem_flatMap]
  constructor
  · rintro ⟨y, hy, hm⟩
    obtain ⟨i, hi⟩ := List.getElem?_of_mem hy
    rw [List.getElem?_take] at hi
    split at hi
    · rename_i hij
      obtain ⟨h1, h2⟩ := hp i y hij hi
      refine ⟨i, y, hij, hi, atB_iff.2 ?_⟩
      simp only [List.mem_cons, List.not_mem_nil, or_false, Prod.mk.injEq] at hm
      rcases hm with ⟨e1, e2⟩ | ⟨e1, e2⟩
      · exact Or.inl ⟨by omega, e2.symm⟩
      · exact Or.inr ⟨by omega, e2.symm⟩
    · cases hi
  · rintro ⟨i, y, hij, hi, ha⟩
    refine ⟨y, List.mem_of_getElem? (i := i) (by rw [List.getElem?_take, if_pos hij]; exact hi), ?_⟩
    rcases atB_iff.1 ha with ⟨e1, e2⟩ | ⟨e1, e2⟩
    · rw [e1, e2]; simp
    · rw [e1, e2]; simp
theorem hasP_bound {ds : List To.Dv} {a : Int} {p : List UInt8} (h : hasP ds a p = true) : 0 ≤ a ∧ a < ds.length := by
  unfold hasP at h
  split at h
  · rename_i h0
    cases hd : ds[a.toNat]? with
    | none => rw [hd] at h; cases h
    | some d => have := (List.getElem?_eq_some_iff.1 hd).1; omega
  · cases h
theorem befB_iff {x y : LkZ} : befB x y = true ↔ ocE x.1 x.2.1 y.1 y.2.1 < 0 := by
  rw [ocE_lt]
  unfold befB
  split
  · rename_i e
    rw [decide_eq_true_eq]
    constructor
    · intro h; exact Or.inr ⟨e, h⟩
    · rintro (h | h)
      · omega
      · exact h.2
  · rename_i e
    rw [decide_eq_true_eq]
    constructor
    · intro h; exact Or.inl h
    · rintro (h | h)
      · exact h
      · exact absurd h.1 e
/-- A link may stand where it stands, if those ahead of it may: as the program asks it. -/
theorem lkB_iff {ds : List To.Dv} {ls : List LkZ} {j : Nat} {x : LkZ} (hx : ls[j]? = some x) (hpre : ∀ i, i < j → lkB ds ls i = true) :
    lkB ds ls j = true ↔ (j = 0 ∨ ocE (ls.getD (j - 1) lk0).1 (ls.getD (j - 1) lk0).2.1 x.1 x.2.1 < 0) ∧ hasP ds x.1 x.2.1 = true ∧ hasP ds x.2.2.1 x.2.2.2 = true ∧ ocE x.1 x.2.1 x.2.2.1 x.2.2.2 < 0 ∧ (x.1.toNat, x.2.1) ∉ keysJ (ls.take j) ∧ (x.2.2.1.toNat, x.2.2.2) ∉ keysJ (ls.take j) ++ [(x.1.toNat, x.2.1)] := by
  have hp : ∀ (i : Nat) (y : LkZ), i < j → ls[i]? = some y → 0 ≤ y.1 ∧ 0 ≤ y.2.2.1 := fun i y hi hy => by
    have h := hpre i hi
    unfold lkB at h
    rw [getD_at hy] at h
    simp only [Bool.and_eq_true] at h
    exact ⟨(hasP_bound h.2.1.1).1, (hasP_bound h.2.1.2).1⟩
  have hg : ∀ {d : Int} {p : List UInt8}, 0 ≤ d → ((d.toNat, p) ∉ keysJ (ls.take j) ↔ ∀ k, k < j → atB (ls.getD k lk0) d p = false) := fun {d p} hd => by
    rw [keysJ_mem hp hd]
    constructor
    · intro h k hk
      rw [Bool.eq_false_iff]
      intro q
      have hj := (List.getElem?_eq_some_iff.1 hx).1
      obtain ⟨y, hy⟩ : ∃ y, ls[k]? = some y := ⟨_, List.getElem?_eq_getElem (by omega)⟩
      rw [getD_at hy] at q
      exact h ⟨k, y, hk, hy, q⟩
    · rintro h ⟨i, y, hi, hy, q⟩
      have := h i hi
      rw [getD_at hy, q] at this
      cases this
  unfold lkB
  rw [getD_at hx]
  simp only [Bool.and_eq_true]
  constructor
  · rintro ⟨hf, ⟨ha, hb⟩, hG⟩
    obtain ⟨a0, an⟩ := hasP_bound ha
    obtain ⟨b0, bn⟩ := hasP_bound hb
    unfold lkF at hf
    simp only [Bool.and_eq_true, Bool.or_eq_true, Bool.not_eq_true', decide_eq_true_eq, decide_eq_false_iff_not] at hf
    obtain ⟨_, _, h3, h4, h5⟩ := hf
    have hG1 := allN_iff.1 (show allN j _ = true from hG)
    have hlt : ocE x.1 x.2.1 x.2.2.1 x.2.2.2 < 0 := ocE_lt.2 (by
      rcases h4 with q | q
      · left; omega
      · by_cases e : x.1 = x.2.2.1
        · exact Or.inr ⟨e, q⟩
        · left; omega)
    have hk : ∀ k, k < j → atB (ls.getD k lk0) x.1 x.2.1 = false ∧ atB (ls.getD k lk0) x.2.2.1 x.2.2.2 = false := fun k hk => by
      have := hG1 k hk
      simp only [Bool.not_eq_true', Bool.or_eq_false_iff] at this
      exact this
    refine ⟨h5.imp id befB_iff.1, ha, hb, hlt, (hg a0).2 fun k q => (hk k q).1, ?_⟩
    rw [List.mem_append, List.mem_singleton]
    rintro (q | q)
    · exact (hg b0).2 (fun k q => (hk k q).2) q
    · injection q with q1 q2
      rcases ocE_lt.1 hlt with r | ⟨r1, r2⟩
      · omega
      · rw [q2] at r2
        exact List.lt_irrefl _ r2
  · rintro ⟨h1, ha, hb, hlt, k1, k2⟩
    obtain ⟨a0, an⟩ := hasP_bound ha
    obtain ⟨b0, bn⟩ := hasP_bound hb
    rw [List.mem_append, not_or] at k2
    refine ⟨?_, ⟨ha, hb⟩, allN_iff.2 fun k hk => ?_⟩
    · unfold lkF
      simp only [Bool.and_eq_true, Bool.or_eq_true, Bool.not_eq_true', decide_eq_true_eq, decide_eq_false_iff_not]
      refine ⟨a0, bn, ?_, ?_, h1.imp id befB_iff.2⟩
      · rcases ocE_lt.1 hlt with r | r <;> omega
      · rcases ocE_lt.1 hlt with r | r
        · left; omega
        · exact Or.inr r.2
    · rw [(hg a0).1 k1 k hk, (hg b0).1 k2.1 k hk]
      rfl
/-- Devices' part of a topology that may not be. -/
theorem topB_dvs {wd : Int} {ds : List To.Dv} {ls : List LkZ} {k : Nat} (hk : k < ds.length) (h : dvB ds k = false) : topB wd ds ls = false := by
  unfold topB
  rw [allN_false hk h]
  simp
theorem topB_lks {wd : Int} {ds : List To.Dv} {ls : List LkZ} {k : Nat} (hk : k < ls.length) (h : lkB ds ls k = false) : topB wd ds ls = false := by
  unfold topB
  rw [allN_false hk h]
  simp
theorem topB_all {wd : Int} {ds : List To.Dv} {ls : List LkZ} (h0 : 1 ≤ wd ∧ wd ≤ 128) (h1 : 1 ≤ ds.length ∧ ds.length ≤ 256 ∧ ls.length ≤ 4096) (h2 : ∀ k, k < ds.length → dvB ds k = true) (h3 : ∀ k, k < ls.length → lkB ds ls k = true) : topB wd ds ls = true := by
  unfold topB
  rw [decide_eq_true h0, decide_eq_true h1, allN_iff.2 h2, allN_iff.2 h3]
  rfl
end Go.Proofs.YtebaopiedlioiaaGreatDoor
