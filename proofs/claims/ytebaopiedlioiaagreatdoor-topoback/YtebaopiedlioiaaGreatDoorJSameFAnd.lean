/-
  TopoBack: what is printed is parsed as the same topology, and what is parsed, printed and parsed stays, for whatever topology and text come in: the card.
  The law TopoBack: what is printed is parsed as the same topology, and what is parsed, printed and parsed stays.
  slices.EqualFunc of devices; the program's Same.
-/
import Derived.Test.YtebaopiedlioiaaGreatDoorJLPrtAnd
import Derived.Test.YtebaopiedlioiaaGreatDoorJItoaAnd
import Derived.Test.YtebaopiedlioiaaGreatDoorRows
import Derived.Test.YtebaopiedlioiaaGreatDoorCards
import Derived.Test.YtebaopiedlioiaaGreatDoorTie
import Derived.Test.YtebaopiedlioiaaGreatDoorJDocKAnd
import Derived.WalkKit
import Derived.ProofKit
import Derived.OpenShut
import Derived.ShutString
import Derived.Lay
import Derived.LaidOnce
import Derived.SevenTiedAt
import Derived.LaidSub
import Derived.MakeChecks
namespace Go.Proofs.YtebaopiedlioiaaGreatDoor
open Go.RowKit

theorem Below.upF {w a b : World} (h1 : Below w.heap.size w a) (h2 : Below a.heap.size a b) : Below w.heap.size w b :=
  ⟨h2.os.trans h1.os, h2.tape.trans h1.tape, h2.output.trans h1.output, Nat.le_trans h1.size h2.size, fun i hi => (h2.block i (Nat.lt_of_lt_of_le hi h1.size)).trans (h1.block i hi)⟩

set_option maxRecDepth 20000 in
set_option maxHeartbeats 2000000 in
theorem oEqDevices_any {w : World} {v1 v2 : Value} {ds ds' : List (To.Dv × Value × Value)} (hD : DvL w v1 ds) (hD' : DvL w v2 ds') (hn : ds.length ≤ maxLen) (hm : ds'.length ≤ maxLen) :
    Calls Tryz.prog 45 #[v1, v2, .func (.func 46) #[] #[]] w fun e w' => e = .returned (.bool (decide (ds.length = ds'.length) && allN ds.length fun i => dvE ((ds.map (·.1)).getD i dv0) ((ds'.map (·.1)).getD i dv0))) ∧ Below w.heap.size w w' := by
  have HD := hid hD
  have HD' := hid hD'
  obtain ⟨a1, c1, rfl, r1⟩ := hD.form
  obtain ⟨a2, c2, rfl, r2⟩ := hD'.form
  have HR1 := hid r1
  have HR2 := hid r2
  obtain ⟨n, hnn⟩ : ∃ n, n = ds.length := ⟨_, rfl⟩
  obtain ⟨m, hmm⟩ : ∃ m, m = ds'.length := ⟨_, rfl⟩
  have HN := hid hnn
  have HM := hid hmm
  rw [← hnn] at hn ⊢
  rw [← hmm] at hm ⊢
  unfold maxLen at hn hm
  clear r1 r2 hnn hmm hD hD'
  by_cases hq : n = m
  · obtain ⟨B, hBB⟩ : ∃ B, B = (decide (n = m) && allN n fun i => dvE ((ds.map (·.1)).getD i dv0) ((ds'.map (·.1)).getD i dv0)) := ⟨_, rfl⟩
    have HBB := hid (show B = allN n fun i => dvE ((ds.map (·.1)).getD i dv0) ((ds'.map (·.1)).getD i dv0) by rw [hBB, decide_eq_true hq, Bool.true_and])
    rw [← hBB]
    clear hBB
    subst hq
    have hne : ((n : Int) != (n : Int)) = false := by simp
    go_enter Tryz.func45, Tryz.ntmps45
    go_wp2_with fail
    go_loopw [17] (fun i wr => ∃ k : Nat, k ≤ n ∧ i = .int .i64 k ∧ Hid (∀ i, i < k → dvE ((ds.map (·.1)).getD i dv0) ((ds'.map (·.1)).getD i dv0) = true) ∧ Hid (Below w.heap.size w wr)) (fun i _ => n - (intOf i).toNat)
    case atStart => exact ⟨0, Nat.zero_le _, rfl, hid fun i h => absurd h (Nat.not_lt_zero _), hid (Below.refl _ _)⟩
    case round =>
      obtain ⟨k, hk, rfl, hA, hI⟩ := hrel
      by_cases hlt : k < n
      · obtain ⟨⟨qx, ux, vx⟩, hx⟩ : ∃ z, ds[k]? = some z := ⟨_, List.getElem?_eq_getElem (by have := HN.out; omega)⟩
        obtain ⟨⟨qy, uy, vy⟩, hy⟩ : ∃ z, ds'[k]? = some z := ⟨_, List.getElem?_eq_getElem (by have := HM.out; omega)⟩
        obtain ⟨D, od, rfl, hDl, hdc⟩ := HR1.out.resolve_left (fun e => by rw [e] at hx; simp at hx)
        obtain ⟨D', od', rfl, hDl', hdc'⟩ := HR2.out.resolve_left (fun e => by rw [e] at hy; simp at hy)
        have hw1 : wr.heap[D]? = w.heap[D]? := hI.out.block D hDl
        have hw2 : wr.heap[D']? = w.heap[D']? := hI.out.block D' hDl'
        obtain ⟨z0, z1, z2⟩ := hdc k _ hx
        obtain ⟨z3, z4, z5⟩ := hdc' k _ hy
        have y0 := (World.cell?_of_block (a := ⟨D, od + k * 3, none⟩) hw1).trans z0
        have y1 := (World.cell?_of_block (a := ⟨D, od + k * 3 + 1, none⟩) hw1).trans z1
        have y2 := (World.cell?_of_block (a := ⟨D, od + k * 3 + 2, none⟩) hw1).trans z2
        have y3 := (World.cell?_of_block (a := ⟨D', od' + k * 3, none⟩) hw2).trans z3
        have y4 := (World.cell?_of_block (a := ⟨D', od' + k * 3 + 1, none⟩) hw2).trans z4
        have y5 := (World.cell?_of_block (a := ⟨D', od' + k * 3 + 2, none⟩) hw2).trans z5
        simp only at y0 y1 y2 y3 y4 y5
        have y3a := alloc_cell y3 (cell_ltP y3)
        have y4a := alloc_cell y4 (cell_ltP y4)
        have y5a := alloc_cell y5 (cell_ltP y5)
        have kI : (k : Int) < (n : Int) := by omega
        have k0I : (0 : Int) ≤ (k : Int) := by omega
        have HDE := hid (show dvE ((ds.map (·.1)).getD k dv0) ((ds'.map (·.1)).getD k dv0) = dvE qx qy by
          rw [getD_at (show (ds.map (·.1))[k]? = some qx by rw [List.getElem?_map, hx]; rfl), getD_at (show (ds'.map (·.1))[k]? = some qy by rw [List.getElem?_map, hy]; rfl)])
        obtain ⟨hc1, hl1⟩ := HD.out.cls _ (List.mem_of_getElem? hx)
        obtain ⟨hp1, hm1⟩ := HD.out.prt _ (List.mem_of_getElem? hx)
        obtain ⟨hc2, hl2⟩ := HD'.out.cls _ (List.mem_of_getElem? hy)
        obtain ⟨hp2, hm2⟩ := HD'.out.prt _ (List.mem_of_getElem? hy)
        simp only at hc1 hl1 hp1 hm1 hc2 hl2 hp2 hm2
        have HSD := hid (fun (W : World) (hb : Below w.heap.size w W) => osameDevice_any (hc1.below hb) (hp1.below hb) (hc2.below hb) (hp2.below hb) hl1 hm1 hl2 hm2)
        obtain ⟨b1, e1, g1, -⟩ := hc1
        obtain ⟨b2, e2, g2, -⟩ := hc2
        obtain ⟨b3, e3, g3, -⟩ := hp1
        obtain ⟨b4, e4, g4, -⟩ := hp2
        subst g1; subst g2; subst g3; subst g4
        obtain ⟨L1, g1⟩ : ∃ L, L = qx.cls.length := ⟨_, rfl⟩
        obtain ⟨L2, g2⟩ : ∃ L, L = qy.cls.length := ⟨_, rfl⟩
        obtain ⟨L3, g3⟩ : ∃ L, L = qx.prt.length := ⟨_, rfl⟩
        obtain ⟨L4, g4⟩ : ∃ L, L = qy.prt.length := ⟨_, rfl⟩
        obtain ⟨nx, hnx⟩ : ∃ z, z = qx.name := ⟨_, rfl⟩
        obtain ⟨ny, hny⟩ : ∃ z, z = qy.name := ⟨_, rfl⟩
        obtain ⟨bd, hbd⟩ : ∃ z, z = dvE qx qy := ⟨_, rfl⟩
        rw [← g1] at y1
        rw [← g2] at y4 y4a
        rw [← g3] at y2
        rw [← g4] at y5 y5a
        rw [← hnx] at y0
        rw [← hny] at y3 y3a
        rw [← g1, ← g2, ← g3, ← g4, ← hnx, ← hny, ← hbd] at HSD
        rw [← hbd] at HDE
        clear z0 z1 z2 z3 z4 z5 hx hy hdc hdc' hw1 hw2 hl1 hl2 hm1 hm2 g1 g2 g3 g4 hbd hnx hny
        have A1 := two_boxes wr (dvOJ nx (.slice b1 L1 e1) (.slice b3 L3 e3)) (dvOJ ny (.slice b2 L2 e2) (.slice b4 L4 e4))
        obtain ⟨W1, hW1⟩ : ∃ W1, W1 = (wr.alloc (dvOJ nx (.slice b1 L1 e1) (.slice b3 L3 e3))).alloc (dvOJ ny (.slice b2 L2 e2) (.slice b4 L4 e4)) := ⟨_, rfl⟩
        have hx0 : W1.heap[wr.heap.size]? = some (dvOJ nx (.slice b1 L1 e1) (.slice b3 L3 e3)) := by rw [hW1]; exact A1.1
        have hx1 : W1.heap[wr.heap.size + 1]? = some (dvOJ ny (.slice b2 L2 e2) (.slice b4 L4 e4)) := by rw [hW1]; exact A1.2.1
        have HB1 := hid (show Below w.heap.size w W1 from Below.upF hI.out (by rw [hW1]; exact ((Below.refl _ _).alloc (Nat.le_refl _) _).alloc (by simp) _))
        obtain ⟨r0, r1, r2⟩ := dvOJ_cells hx0
        obtain ⟨u0, u1, u2⟩ := dvOJ_cells hx1
        clear A1 hx0 hx1
        go_upto_region 7 with fail
        rw [← hW1]
        clear hW1 y0 y1 y2 y3 y4 y5 y3a y4a y5a
        go_wp2_with fail
        refine (HSD.out _ HB1.out).mono ?_
        rintro en w6 ⟨rfl, hb6⟩
        have HB6 := hid (Below.upF HB1.out hb6)
        clear hb6 r0 r1 r2 u0 u1 u2
        cases bd with
        | false =>
          have HE := hid (show B = false by rw [HBB.out, allN_false hlt HDE.out])
          go_wp2
          go_ret
          exact ⟨by rw [HE.out]; rfl, HB6.out⟩
        | true =>
          have HA2 := hid (show ∀ i, i < k + 1 → dvE ((ds.map (·.1)).getD i dv0) ((ds'.map (·.1)).getD i dv0) = true from fun i hi => by
            by_cases e : i = k
            · rw [e]; exact HDE.out
            · exact hA.out i (by omega))
          go_wp2
          go_roundw
          case rel => exact ⟨k + 1, by omega, by go_num, HA2, HB6⟩
          case measure => simp [intOf]; omega
      · have hkn : k = n := by omega
        have HE := hid (show B = true by rw [HBB.out, allN_iff.2 fun i hi => hA.out i (by omega)])
        go_wp2
        go_ret
        exact ⟨by rw [HE.out]; rfl, hI.out⟩
  · have HE := hid (show (decide (n = m) && allN n fun i => dvE ((ds.map (·.1)).getD i dv0) ((ds'.map (·.1)).getD i dv0)) = false from by rw [decide_eq_false hq]; rfl)
    have hne : ((n : Int) != (m : Int)) = true := by rw [bne_iff_ne]; omega
    have hne2 : (n != m) = true := by rw [bne_iff_ne]; exact hq
    go_enter Tryz.func45, Tryz.ntmps45
    go_wp2
    go_ret
    exact ⟨by first | rfl | (rw [HE.out]; rfl), Below.refl _ _⟩

set_option maxRecDepth 20000 in
set_option maxHeartbeats 2000000 in
theorem oSame_any {w : World} {wd wd' : Int} {vd vl vd' vl' : Value} {ds ds' : List (To.Dv × Value × Value)} {ls ls' : List LkZ} (hD : DvL w vd ds) (hL : LkV w vl ls) (hD' : DvL w vd' ds') (hL' : LkV w vl' ls') (hdn : ds.length ≤ maxLen) (hln : ls.length ≤ maxLen) (hdn' : ds'.length ≤ maxLen) (hln' : ls'.length ≤ maxLen) :
    Calls Tryz.prog 18 #[.agg #[.int .i64 wd, vd, vl], .agg #[.int .i64 wd', vd', vl']] w fun e w' => e = .returned (.bool (sameT wd (ds.map (·.1)) ls wd' (ds'.map (·.1)) ls')) ∧ Below w.heap.size w w' := by
  have HED := hid (fun (W : World) (hb : Below w.heap.size w W) => oEqDevices_any (hD.below hb) (hD'.below hb) hdn hdn')
  have HEL := hid (fun (W : World) (hb : Below w.heap.size w W) => oEqLinks_any (hL.below hb) (hL'.below hb) hln hln')
  obtain ⟨dv, dc, hvd, -⟩ := hD.form
  obtain ⟨lv, lc, hvl, -⟩ := hL.form
  obtain ⟨dv', dc', hvd', -⟩ := hD'.form
  obtain ⟨lv', lc', hvl', -⟩ := hL'.form
  obtain ⟨N, hN⟩ : ∃ N, N = ds.length := ⟨_, rfl⟩
  obtain ⟨M, hM⟩ : ∃ M, M = ls.length := ⟨_, rfl⟩
  obtain ⟨N', hN'⟩ : ∃ N, N = ds'.length := ⟨_, rfl⟩
  obtain ⟨M', hM'⟩ : ∃ M, M = ls'.length := ⟨_, rfl⟩
  rw [← hN] at hvd HED
  rw [← hM] at hvl HEL
  rw [← hN'] at hvd' HED
  rw [← hM'] at hvl' HEL
  subst hvd; subst hvl; subst hvd'; subst hvl'
  obtain ⟨B1, hB1⟩ : ∃ B, B = (decide (N = N') && allN N fun i => dvE ((ds.map (·.1)).getD i dv0) ((ds'.map (·.1)).getD i dv0)) := ⟨_, rfl⟩
  obtain ⟨B2, hB2⟩ : ∃ B, B = (decide (M = M') && allN M fun i => lkE (ls.getD i lk0) (ls'.getD i lk0)) := ⟨_, rfl⟩
  obtain ⟨S, hS⟩ : ∃ S, S = sameT wd (ds.map (·.1)) ls wd' (ds'.map (·.1)) ls' := ⟨_, rfl⟩
  have HS := hid (show S = (decide (wd = wd') && (B1 && B2)) by
    rw [hS, hB1, hB2]
    unfold sameT
    rw [List.length_map, List.length_map, ← hN, ← hM, ← hN', ← hM']
    cases decide (wd = wd') <;> cases decide (N = N') <;> cases decide (M = M') <;> simp)
  rw [← hB1] at HED
  rw [← hB2] at HEL
  rw [← hS]
  clear hS hB1 hB2 hN hM hN' hM' hD hL hD' hL' hdn hln hdn' hln'
  obtain ⟨W1, hW1⟩ : ∃ W1, W1 = (w.alloc (topJ (.int .i64 wd) (.slice dv N dc) (.slice lv M lc))).alloc (topJ (.int .i64 wd') (.slice dv' N' dc') (.slice lv' M' lc')) := ⟨_, rfl⟩
  have A1 := two_boxes w (topJ (.int .i64 wd) (.slice dv N dc) (.slice lv M lc)) (topJ (.int .i64 wd') (.slice dv' N' dc') (.slice lv' M' lc'))
  have hx0 : W1.heap[w.heap.size]? = some (topJ (.int .i64 wd) (.slice dv N dc) (.slice lv M lc)) := by rw [hW1]; exact A1.1
  have hx1 : W1.heap[w.heap.size + 1]? = some (topJ (.int .i64 wd') (.slice dv' N' dc') (.slice lv' M' lc')) := by rw [hW1]; exact A1.2.1
  have HB1 := hid (show Below w.heap.size w W1 from by rw [hW1]; exact ((Below.refl _ _).alloc (Nat.le_refl _) _).alloc (by simp) _)
  have HT := hid (fun (W : World) (hb : Below W1.heap.size W1 W) => (show W.cell? ⟨w.heap.size, 2, none⟩ = some (.slice lv M lc) ∧ W.cell? ⟨w.heap.size + 1, 2, none⟩ = some (.slice lv' M' lc') from
    ⟨(topJ_cells ((hb.block _ (lt_of_block hx0)).trans hx0)).2.2, (topJ_cells ((hb.block _ (lt_of_block hx1)).trans hx1)).2.2⟩))
  obtain ⟨r0, r1, r2⟩ := topJ_cells hx0
  obtain ⟨u0, u1, u2⟩ := topJ_cells hx1
  clear A1 hx0 hx1
  by_cases q1 : wd = wd'
  · have HQ := hid (decide_eq_true q1)
    subst q1
    have e1 : (wd == wd) = true := by simp
    go_enter Tryz.func18, Tryz.ntmps18
    go_upto_region 1 with fail
    rw [← hW1]
    clear hW1
    go_wp2_with fail
    refine (HED.out _ HB1.out).mono ?_
    rintro en w6 ⟨rfl, hb6⟩
    have HB6 := hid (Below.upF HB1.out hb6)
    obtain ⟨t2, t3⟩ := HT.out w6 hb6
    clear hb6 r0 r1 r2 u0 u1 u2
    cases B1 with
    | false =>
      have HE := hid (show S = false by rw [HS.out, Bool.false_and, Bool.and_false])
      go_wp2
      go_ret
      exact ⟨by rw [HE.out]; rfl, HB6.out⟩
    | true =>
      have HE := hid (show S = B2 by rw [HS.out, HQ.out, Bool.true_and, Bool.true_and])
      go_wp2_with fail
      refine (HEL.out _ HB6.out).mono ?_
      rintro en w7 ⟨rfl, n7, rfl⟩
      go_wp2
      go_ret
      exact ⟨by rw [HE.out]; rfl, below_drewN HB6.out⟩
  · have e1 : (wd == wd') = false := by rw [beq_eq_false_iff_ne]; exact q1
    have HE := hid (show S = false by rw [HS.out, decide_eq_false q1]; rfl)
    clear q1
    go_enter Tryz.func18, Tryz.ntmps18
    go_upto_region 1 with fail
    rw [← hW1]
    clear hW1
    go_wp2
    go_ret
    exact ⟨by rw [HE.out]; rfl, HB1.out⟩
end Go.Proofs.YtebaopiedlioiaaGreatDoor
namespace Go.Proofs.YtebaopiedlioiaaGreatDoor
open Go.RowKit

theorem tpT_len40 {wd : Int} {wn : Nat} {ds : List To.Dv} {ls : List LkZ} (h : TopOk wd ds ls) (hw : wn ≤ 128) (hd : ds.length ≤ 40) (hl : ls.length ≤ 40) : (tpT wn ds ls).length ≤ 1048576 := by
  have h1 := dvsT_len ds h.dv
  have h2 := lksT_len ds ls h.dv h.lk
  have h3 : (sayS (wdW wn)).length ≤ 130 := sayS_short (c := 64) (ls := wdW wn) (fun z hz => by
    unfold wdW at hz
    simp only [List.mem_cons, List.not_mem_nil, or_false] at hz
    rcases hz with rfl | rfl
    · decide
    · have : ∀ n : Nat, n ≤ 128 → (Lib.decDigits n).length ≤ 64 := by decide +kernel
      exact this _ hw)
  unfold tpT
  simp only [List.length_append, List.length_cons, List.length_nil]
  omega
theorem sameT_one (wd : Int) (ds : List To.Dv) (ls : List LkZ) : sameT wd ds ls wd ds ls = true := by
  unfold sameT
  rw [decide_eq_true rfl, decide_eq_true rfl, decide_eq_true rfl, allN_iff.2 fun i _ => by unfold dvE; simp, allN_iff.2 fun i _ => by unfold lkE; simp]
  rfl
theorem DvShort.of_ok {wd : Int} {vs : List (To.Dv × Value × Value)} {ls : List LkZ} (h : TopOk wd (vs.map (·.1)) ls) : DvShort vs := fun q hq => by
  have := h.dv q.1 (List.mem_map.2 ⟨q, hq, rfl⟩)
  have hm : (64 : Nat) ≤ maxLen := by unfold maxLen; omega
  exact ⟨Nat.le_trans this.name hm, fun p hp => Nat.le_trans (this.cls p hp) hm, fun p hp => Nat.le_trans (this.prt p hp) hm⟩
set_option maxRecDepth 20000 in
/-- A topology that was parsed is printed and parsed: what the law asks. -/
theorem again_all {w W : World} {wd N dc M lc n : Nat} {dv lv : Option Addr} {vs : List (To.Dv × Value × Value)} {js : List LkZ} (hW : Below w.heap.size w W) (hT : PowTab w) (hb : topB (wd : Int) (vs.map (·.1)) js = true) (hl : (tpT wd (vs.map (·.1)) js).length ≤ 2 * n + 5000) (hn : n ≤ 3000) (hD : DvL W (.slice dv N dc) vs) (hL : LkV W (.slice lv M lc) js) :
    ∃ X : List UInt8, (∀ W', Below W.heap.size W W' → Calls Tryz.prog 14 #[.agg #[.int .i64 wd, .slice dv N dc, .slice lv M lc]] W' fun en w' => en = .returned (.tuple #[.string (tx X), .int .i64 0]) ∧ Below W'.heap.size W' w') ∧
      (∀ W', Calls Tryz.prog 9 #[.string (tx X)] W' fun en w' => ∃ (us : List (To.Dv × Value × Value)) (c1 c2 : Value), en = .returned (.tuple #[.agg #[.int .i64 wd, c1, c2], .int .i64 0, .int .i64 0, .int .i64 0]) ∧ DvL w' c1 us ∧ us.map (·.1) = vs.map (·.1) ∧ LkV w' c2 js ∧ Below W'.heap.size W' w') ∧
      vs.length ≤ 256 ∧ js.length ≤ 4096 := by
  have hok := topB_ok hb
  obtain ⟨es, hes⟩ : ∃ es, es = vs.map (·.1) := ⟨_, rfl⟩
  have h1 : vs.length ≤ 256 := by have := hok.d2; rwa [List.length_map] at this
  rw [← hes] at hb hl
  obtain ⟨X, hX⟩ : ∃ X, X = tpT wd es js := ⟨_, rfl⟩
  have hlen : X.length ≤ 1048576 := by rw [hX]; omega
  have hP : ∀ W', Below W.heap.size W W' → Calls Tryz.prog 14 #[.agg #[.int .i64 wd, .slice dv N dc, .slice lv M lc]] W' fun en w' => en = .returned (.tuple #[.string (tx X), .int .i64 0]) ∧ Below W'.heap.size W' w' := fun W' hb' => by
    have h := oPrintT_any (wd := (wd : Int)) (hD.below hb') (hL.below hb') (DvShort.of_ok hok) (hT.below (hW.trans (hb'.mono hW.size)))
    rw [← hes] at h
    have e : prtV wd es js = .tuple #[.string (tx X), .int .i64 0] := by
      unfold prtV
      rw [if_pos hb, Int.toNat_natCast, hX]
    rw [e] at h
    exact h
  have hB := fun W' => Bk.parse_back hb W' (by rw [← hX]; exact hlen)
  rw [← hX] at hB
  rw [← hes]
  exact ⟨X, hP, hB, h1, hok.l2⟩

set_option maxRecDepth 20000 in
set_option maxHeartbeats 8000000 in
theorem tback_at (s t : ByteArray) (l : List UInt8) {w : World} {wd : Int} {dv lv : Option Addr} {N dc M lc : Nat} {ds : List (To.Dv × Value × Value)} {ls : List LkZ} (hD : DvL w (.slice dv N dc) ds) (hL : LkV w (.slice lv M lc) ls) (hN : N ≤ dc) (hM : M ≤ lc) (hz : DvShort ds) (hT : PowTab w) (ht : t = tx l) (hl : l.length ≤ 3000) (hs : (¬ 3000 < s.size ∧ t = s) ∨ (3000 < s.size ∧ t = s.extract 0 3000)) :
    Calls Tryz.prog 5 #[.agg #[.int .i64 wd, .slice dv N dc, .slice lv M lc], .string s] w fun e w' => e = .returned (.bool true) ∧ Below w.heap.size w w' := by
  have HAL := hid alive11
  have HFW := hid (fun W => ofew_any (w := W) (wd := wd) hN hM hD.addr hL.addr)
  have HD := hid (hD.take 40)
  have HL := hid (hL.take 40)
  have HZ := hid (hz.take 40)
  have HT := hid hT
  have HPA := hid (fun W => Bk.parse_text l W (Nat.le_trans hl (by decide)))
  rw [← ht] at HPA
  have HLN := hid hl
  obtain ⟨n, hn⟩ : ∃ n, n = min N 40 := ⟨_, rfl⟩
  obtain ⟨k, hk⟩ : ∃ k, k = min M 40 := ⟨_, rfl⟩
  rw [← hn] at HD HFW
  rw [← hk] at HL HFW
  obtain ⟨es, hes⟩ : ∃ es, es = ds.take 40 := ⟨_, rfl⟩
  obtain ⟨js, hjs⟩ : ∃ js, js = ls.take 40 := ⟨_, rfl⟩
  rw [← hes] at HD HZ
  rw [← hjs] at HL
  have hel : es.length ≤ 40 := by rw [hes, List.length_take]; omega
  have hjl : js.length ≤ 40 := by rw [hjs, List.length_take]; omega
  have HEL := hid hel
  have HJL := hid hjl
  have HP := hid (fun (W : World) (hb : Below w.heap.size w W) => oPrintT_any (wd := wd) (HD.out.below hb) (HL.out.below hb) HZ.out (HT.out.below hb))
  clear hD hL hN hM hz hT hn hk hes hjs hel hjl ht hl
  obtain ⟨W0, hW0⟩ : ∃ W0, W0 = w.alloc (topJ (.int .i64 wd) (.slice dv N dc) (.slice lv M lc)) := ⟨_, rfl⟩
  have hb0 : Below w.heap.size w W0 := by rw [hW0]; exact (Below.refl _ _).alloc (Nat.le_refl _) _
  have h0 : W0.heap[w.heap.size]? = some (topJ (.int .i64 wd) (.slice dv N dc) (.slice lv M lc)) := by rw [hW0]; exact new_0 _ _
  have HB0 := hid hb0
  have H0 := hid h0
  clear hb0 h0
  rcases hs with ⟨h, rfl⟩ | ⟨h, rfl⟩
  · have hI : ¬ ((3000 : Int) < (t.size : Int)) := by omega
    go_enter Tryz.func5, Tryz.ntmps5
    go_wp2_with fail
    rw [← hW0]
    clear hW0
    refine (HFW.out _).mono ?_
    rintro en w1 ⟨rfl, hb1⟩
    have h1 := (hb1.block _ (lt_of_block H0.out)).trans H0.out
    obtain ⟨V, hV, hv0, hvb, hvk, hvs⟩ := top_box (a := .int .i64 wd) (b := .slice dv n dc) (c := .slice lv k lc) h1
    have I0 := hid (show TpI w (.int .i64 wd) (.slice dv n dc) (.slice lv k lc) V from ⟨hv0, ⟨hvb.os.trans (hb1.os.trans HB0.out.os), hvb.tape.trans (hb1.tape.trans HB0.out.tape), hvb.output.trans (hb1.output.trans HB0.out.output), by have := hb1.size; have := HB0.out.size; omega, fun i hi => by rw [hvk i (by omega), hb1.block i (by have := HB0.out.size; omega), HB0.out.block i hi]⟩⟩)
    obtain ⟨c0, c1, c2⟩ := topJ_cells h1
    have f0 : w1.frozen? ⟨w.heap.size, 0, none⟩ = false := free_of h1
    have f1 : w1.frozen? ⟨w.heap.size, 1, none⟩ = false := free_of h1
    have f2 : w1.frozen? ⟨w.heap.size, 2, none⟩ = false := free_of h1
    obtain ⟨t0, t1, t2⟩ := topJ_cells hv0
    clear hvb hvk hvs hv0 h1 hb1 HB0 H0
    go_upto_region 2 with fail
    rw [← hV]
    clear hV c0 c1 c2 f0 f1 f2
    cases hb : topB wd (es.map (·.1)) js with
    | false =>
      have HP1 := hid (HP.out V I0.out.below)
      unfold prtV at HP1
      rw [hb, if_neg (by decide)] at HP1
      clear hb HP
      go_wp2_with fail
      refine HP1.out.mono ?_
      rintro en w2 ⟨rfl, hb2⟩
      have HBW := hid (I0.out.on hb2).below
      clear hb2 t0 t1 t2 HP1
      go_wp2_with fail
      refine (HPA.out _).mono ?_
      rintro en w6 ⟨hb6, ⟨ea, eb, ec, hec, rfl⟩ | ⟨vd, vs, ks, c1, c2, hvb, hvl, rfl, hD6, hL6⟩⟩
      · have HB6 := hid (HBW.out.trans (hb6.mono HBW.out.size))
        have hec1 : (ec != 0) = true := by rw [bne_iff_ne]; exact hec
        have hec2 : (ec == 0) = false := by rw [beq_eq_false_iff_ne]; exact hec
        clear hb6
        have HBF := hid (fun (o : Obj) (w' : World) (h : Below (w6.alloc o).heap.size (w6.alloc o) w') => (HB6.out.alloc HB6.out.size o).trans (h.mono (HB6.out.alloc HB6.out.size o).size))
        go_wp2_with fail
        refine (HAL.out _).mono ?_
        rintro en w7 ⟨rfl, hb7⟩
        have HB7 := hid (HBF.out _ _ hb7)
        clear hb7
        go_wp2
        go_ret
        exact ⟨rfl, HB7.out⟩
      · have HB6 := hid (HBW.out.trans (hb6.mono HBW.out.size))
        obtain ⟨a6, k6, hc1, -⟩ := id hD6.form
        obtain ⟨a7, k7, hc2, -⟩ := id hL6.form
        subst hc1 hc2
        obtain ⟨X6, hPR, hPB, hvn, hkn⟩ := again_all HB6.out HT.out hvb hvl HLN.out hD6 hL6
        have HPR := hid hPR
        have HPB := hid hPB
        have HD6 := hid hD6
        have HL6 := hid hL6
        have HVN := hid (And.intro hvn hkn)
        obtain ⟨n6, hn6⟩ : ∃ n, n = vs.length := ⟨_, rfl⟩
        obtain ⟨n7, hn7⟩ : ∃ n, n = ks.length := ⟨_, rfl⟩
        rw [← hn6] at HPR HD6 ⊢
        rw [← hn7] at HPR HL6 ⊢
        clear hb6 hvb hvl hD6 hL6 hPR hPB hvn hkn hn6 hn7
        obtain ⟨W6, hW6⟩ : ∃ W6, W6 = w6.alloc (topJ (.int .i64 vd) (.slice a6 n6 k6) (.slice a7 n7 k7)) := ⟨_, rfl⟩
        obtain ⟨N6, hN6⟩ : ∃ N6, N6 = w6.heap.size := ⟨_, rfl⟩
        have hb6 : Below w6.heap.size w6 W6 := by rw [hW6]; exact (Below.refl _ _).alloc (Nat.le_refl _) _
        have H6 := hid (show W6.heap[N6]? = some (topJ (.int .i64 vd) (.slice a6 n6 k6) (.slice a7 n7 k7)) by rw [hW6, hN6]; exact new_0 _ _)
        have HB6' := hid hb6
        have HP6 := hid (HPR.out W6 hb6)
        obtain ⟨t0, t1, t2⟩ := topJ_cells H6.out
        clear hb6
        go_upto_region 10 with fail
        rw [← hN6, ← hW6]
        clear hW6 hN6
        go_wp2_with fail
        refine HP6.out.mono ?_
        rintro en w7 ⟨rfl, hb7⟩
        have B7 := hid (HB6'.out.trans (hb7.mono HB6'.out.size))
        have H7 := hid ((hb7.block _ (lt_of_block H6.out)).trans H6.out)
        clear hb7 t0 t1 t2 HP6 H6 HB6'
        go_wp2_with fail
        refine (HPB.out _).mono ?_
        rintro en w8 ⟨us2, c1, c2, rfl, hD8, hu8, hL8, hb8⟩
        obtain ⟨a8, k8, hc1, -⟩ := id hD8.form
        obtain ⟨a9, k9, hc2, -⟩ := id hL8.form
        subst hc1 hc2
        have HU8 := hid (show us2.length = vs.length by have := congrArg List.length hu8; rwa [List.length_map, List.length_map] at this)
        obtain ⟨n8, hn8⟩ : ∃ n, n = us2.length := ⟨_, rfl⟩
        obtain ⟨n9, hn9⟩ : ∃ n, n = ks.length := ⟨_, rfl⟩
        rw [← hn8] at hD8 ⊢
        rw [← hn9] at hL8 ⊢
        have B8 := hid (B7.out.trans (hb8.mono B7.out.size))
        have H8 := hid ((hb8.block _ (lt_of_block H7.out)).trans H7.out)
        obtain ⟨W9, hW9⟩ : ∃ W9, W9 = w8.alloc (topJ (.int .i64 vd) (.slice a8 n8 k8) (.slice a9 n9 k9)) := ⟨_, rfl⟩
        obtain ⟨N9, hN9⟩ : ∃ N9, N9 = w8.heap.size := ⟨_, rfl⟩
        have hb9 : Below w8.heap.size w8 W9 := by rw [hW9]; exact (Below.refl _ _).alloc (Nat.le_refl _) _
        have B9 := hid (B8.out.trans (hb9.mono B8.out.size))
        have H9 := hid (show W9.heap[N9]? = some (topJ (.int .i64 vd) (.slice a8 n8 k8) (.slice a9 n9 k9)) by rw [hW9, hN9]; exact new_0 _ _)
        have G9 := hid ((hb9.block _ (lt_of_block H8.out)).trans H8.out)
        have HS := hid (show Calls Tryz.prog 11 #[.agg #[.int .i64 vd, .slice a8 n8 k8, .slice a9 n9 k9], .agg #[.int .i64 vd, .slice a6 n6 k6, .slice a7 n7 k7]] W9 fun e w' => e = .returned (.bool true) ∧ Below W9.heap.size W9 w' from by
          have h1 := HVN.out
          have h2 := HU8.out
          have q := RSameT_any (wd := (vd : Int)) (wd' := (vd : Int)) (hD8.below hb9) (hL8.below hb9) (HD6.out.below B9.out) (HL6.out.below B9.out) (by unfold maxLen; omega) (by unfold maxLen; omega)
          rw [hu8, sameT_one] at q
          exact q)
        have HBW9 := hid (HB6.out.trans (B9.out.mono HB6.out.size))
        obtain ⟨t0, t1, t2⟩ := topJ_cells G9.out
        obtain ⟨r0, r1, r2⟩ := topJ_cells H9.out
        clear hD8 hL8 hu8 hb8 hb9 hn8 hn9 HPB HPR HD6 HL6 HVN HU8 B7 B8 H7 H8
        go_upto_region 14 with fail
        rw [← hN9, ← hW9]
        clear hW9 hN9
        go_wp2_with fail
        refine HS.out.mono ?_
        rintro en w10 ⟨rfl, hb10⟩
        have HB10 := hid (HBW9.out.trans (hb10.mono HBW9.out.size))
        clear hb10 t0 t1 t2 r0 r1 r2
        go_wp2_with fail
        refine (HAL.out _).mono ?_
        rintro en w11 ⟨rfl, hb11⟩
        have HB11 := hid (HB10.out.trans (hb11.mono HB10.out.size))
        go_wp2
        go_ret
        exact ⟨rfl, HB11.out⟩
    | true =>
      have hok := topB_ok hb
      have HP1 := hid (HP.out V I0.out.below)
      unfold prtV at HP1
      rw [if_pos hb] at HP1
      obtain ⟨wn, hwn⟩ : ∃ n : Nat, wd = (n : Int) := ⟨wd.toNat, by have := hok.w1; omega⟩
      subst hwn
      rw [Int.toNat_natCast] at HP1
      have HBK := hid (fun W => Bk.parse_back hb W (tpT_len40 hok (by have := hok.w2; omega) (by rw [List.length_map]; exact HEL.out) HJL.out))
      have HSM := hid (fun (W : World) (us : List (To.Dv × Value × Value)) (c1 c2 : Value) (h : us.map (·.1) = es.map (·.1)) (h1 : DvL W c1 us) (h2 : LkV W c2 js) (hb : Below w.heap.size w W) => (by
        have hu : us.length ≤ maxLen := by have := congrArg List.length h; rw [List.length_map, List.length_map] at this; have := HEL.out; unfold maxLen; omega
        have he : es.length ≤ maxLen := by have := HEL.out; unfold maxLen; omega
        have hj : js.length ≤ maxLen := by have := HJL.out; unfold maxLen; omega
        have q := oSame_any (wd := (wn : Int)) (wd' := (wn : Int)) h1 h2 (HD.out.below hb) (HL.out.below hb) hu hj he hj
        rw [h, sameT_one] at q
        exact q : Calls Tryz.prog 18 #[.agg #[.int .i64 wn, c1, c2], .agg #[.int .i64 wn, .slice dv n dc, .slice lv k lc]] W fun e w' => e = .returned (.bool true) ∧ Below W.heap.size W w'))
      obtain ⟨X, hX⟩ : ∃ X, X = tpT wn (es.map (·.1)) js := ⟨_, rfl⟩
      rw [← hX] at HP1 HBK
      clear hb hX hok HP
      go_wp2_with fail
      refine HP1.out.mono ?_
      rintro en w2 ⟨rfl, hb2⟩
      have I2 := hid (I0.out.on hb2)
      clear hb2 t0 t1 t2 HP1 I0
      go_wp2_with fail
      refine (HBK.out _).mono ?_
      rintro en w3 ⟨us, c1, c2, rfl, hD3, hu3, hL3, hb3⟩
      have I3 := hid (I2.out.on hb3)
      have HD3 := hid hD3
      have HL3 := hid hL3
      have HU3 := hid hu3
      obtain ⟨a3, k3, hc1, -⟩ := hD3.form
      obtain ⟨a4, k4, hc2, -⟩ := hL3.form
      obtain ⟨n3, hn3⟩ : ∃ n, n = us.length := ⟨_, rfl⟩
      obtain ⟨n4, hn4⟩ : ∃ n, n = js.length := ⟨_, rfl⟩
      rw [← hn3] at hc1
      rw [← hn4] at hc2
      subst hc1 hc2
      clear hn3 hn4 hD3 hL3 hu3 HBK I2 hb3
      obtain ⟨W4, hW4⟩ : ∃ W4, W4 = w3.alloc (topJ (.int .i64 wn) (.slice a3 n3 k3) (.slice a4 n4 k4)) := ⟨_, rfl⟩
      obtain ⟨N4, hN4⟩ : ∃ N4, N4 = w3.heap.size := ⟨_, rfl⟩
      have hb4 : Below w3.heap.size w3 W4 := by rw [hW4]; exact (Below.refl _ _).alloc (Nat.le_refl _) _
      have H4 := hid (show W4.heap[N4]? = some (topJ (.int .i64 wn) (.slice a3 n3 k3) (.slice a4 n4 k4)) by rw [hW4, hN4]; exact new_0 _ _)
      have I4 := hid (I3.out.on hb4)
      have HS := hid (HSM.out W4 us _ _ HU3.out (HD3.out.below hb4) (HL3.out.below hb4) I4.out.below)
      obtain ⟨t0, t1, t2⟩ := topJ_cells I4.out.top
      obtain ⟨r0, r1, r2⟩ := topJ_cells H4.out
      clear hb4 I3 HSM HD3 HL3 HU3
      go_upto_region 5 with fail
      rw [← hN4, ← hW4]
      clear hW4 hN4
      go_wp2_with fail
      refine HS.out.mono ?_
      rintro en w5 ⟨rfl, hb5⟩
      have HBW := hid (I4.out.on hb5).below
      clear hb5 t0 t1 t2 r0 r1 r2 HS I4 H4
      go_wp2_with fail
      refine (HPA.out _).mono ?_
      rintro en w6 ⟨hb6, ⟨ea, eb, ec, hec, rfl⟩ | ⟨vd, vs, ks, c1, c2, hvb, hvl, rfl, hD6, hL6⟩⟩
      · have HB6 := hid (HBW.out.trans (hb6.mono HBW.out.size))
        have hec1 : (ec != 0) = true := by rw [bne_iff_ne]; exact hec
        have hec2 : (ec == 0) = false := by rw [beq_eq_false_iff_ne]; exact hec
        clear hb6
        have HBF := hid (fun (o : Obj) (w' : World) (h : Below (w6.alloc o).heap.size (w6.alloc o) w') => (HB6.out.alloc HB6.out.size o).trans (h.mono (HB6.out.alloc HB6.out.size o).size))
        go_wp2_with fail
        refine (HAL.out _).mono ?_
        rintro en w7 ⟨rfl, hb7⟩
        have HB7 := hid (HBF.out _ _ hb7)
        clear hb7
        go_wp2
        go_ret
        exact ⟨rfl, HB7.out⟩
      · have HB6 := hid (HBW.out.trans (hb6.mono HBW.out.size))
        obtain ⟨a6, k6, hc1, -⟩ := id hD6.form
        obtain ⟨a7, k7, hc2, -⟩ := id hL6.form
        subst hc1 hc2
        obtain ⟨X6, hPR, hPB, hvn, hkn⟩ := again_all HB6.out HT.out hvb hvl HLN.out hD6 hL6
        have HPR := hid hPR
        have HPB := hid hPB
        have HD6 := hid hD6
        have HL6 := hid hL6
        have HVN := hid (And.intro hvn hkn)
        obtain ⟨n6, hn6⟩ : ∃ n, n = vs.length := ⟨_, rfl⟩
        obtain ⟨n7, hn7⟩ : ∃ n, n = ks.length := ⟨_, rfl⟩
        rw [← hn6] at HPR HD6 ⊢
        rw [← hn7] at HPR HL6 ⊢
        clear hb6 hvb hvl hD6 hL6 hPR hPB hvn hkn hn6 hn7
        obtain ⟨W6, hW6⟩ : ∃ W6, W6 = w6.alloc (topJ (.int .i64 vd) (.slice a6 n6 k6) (.slice a7 n7 k7)) := ⟨_, rfl⟩
        obtain ⟨N6, hN6⟩ : ∃ N6, N6 = w6.heap.size := ⟨_, rfl⟩
        have hb6 : Below w6.heap.size w6 W6 := by rw [hW6]; exact (Below.refl _ _).alloc (Nat.le_refl _) _
        have H6 := hid (show W6.heap[N6]? = some (topJ (.int .i64 vd) (.slice a6 n6 k6) (.slice a7 n7 k7)) by rw [hW6, hN6]; exact new_0 _ _)
        have HB6' := hid hb6
        have HP6 := hid (HPR.out W6 hb6)
        obtain ⟨t0, t1, t2⟩ := topJ_cells H6.out
        clear hb6
        go_upto_region 10 with fail
        rw [← hN6, ← hW6]
        clear hW6 hN6
        go_wp2_with fail
        refine HP6.out.mono ?_
        rintro en w7 ⟨rfl, hb7⟩
        have B7 := hid (HB6'.out.trans (hb7.mono HB6'.out.size))
        have H7 := hid ((hb7.block _ (lt_of_block H6.out)).trans H6.out)
        clear hb7 t0 t1 t2 HP6 H6 HB6'
        go_wp2_with fail
        refine (HPB.out _).mono ?_
        rintro en w8 ⟨us2, c1, c2, rfl, hD8, hu8, hL8, hb8⟩
        obtain ⟨a8, k8, hc1, -⟩ := id hD8.form
        obtain ⟨a9, k9, hc2, -⟩ := id hL8.form
        subst hc1 hc2
        have HU8 := hid (show us2.length = vs.length by have := congrArg List.length hu8; rwa [List.length_map, List.length_map] at this)
        obtain ⟨n8, hn8⟩ : ∃ n, n = us2.length := ⟨_, rfl⟩
        obtain ⟨n9, hn9⟩ : ∃ n, n = ks.length := ⟨_, rfl⟩
        rw [← hn8] at hD8 ⊢
        rw [← hn9] at hL8 ⊢
        have B8 := hid (B7.out.trans (hb8.mono B7.out.size))
        have H8 := hid ((hb8.block _ (lt_of_block H7.out)).trans H7.out)
        obtain ⟨W9, hW9⟩ : ∃ W9, W9 = w8.alloc (topJ (.int .i64 vd) (.slice a8 n8 k8) (.slice a9 n9 k9)) := ⟨_, rfl⟩
        obtain ⟨N9, hN9⟩ : ∃ N9, N9 = w8.heap.size := ⟨_, rfl⟩
        have hb9 : Below w8.heap.size w8 W9 := by rw [hW9]; exact (Below.refl _ _).alloc (Nat.le_refl _) _
        have B9 := hid (B8.out.trans (hb9.mono B8.out.size))
        have H9 := hid (show W9.heap[N9]? = some (topJ (.int .i64 vd) (.slice a8 n8 k8) (.slice a9 n9 k9)) by rw [hW9, hN9]; exact new_0 _ _)
        have G9 := hid ((hb9.block _ (lt_of_block H8.out)).trans H8.out)
        have HS := hid (show Calls Tryz.prog 11 #[.agg #[.int .i64 vd, .slice a8 n8 k8, .slice a9 n9 k9], .agg #[.int .i64 vd, .slice a6 n6 k6, .slice a7 n7 k7]] W9 fun e w' => e = .returned (.bool true) ∧ Below W9.heap.size W9 w' from by
          have h1 := HVN.out
          have h2 := HU8.out
          have q := RSameT_any (wd := (vd : Int)) (wd' := (vd : Int)) (hD8.below hb9) (hL8.below hb9) (HD6.out.below B9.out) (HL6.out.below B9.out) (by unfold maxLen; omega) (by unfold maxLen; omega)
          rw [hu8, sameT_one] at q
          exact q)
        have HBW9 := hid (HB6.out.trans (B9.out.mono HB6.out.size))
        obtain ⟨t0, t1, t2⟩ := topJ_cells G9.out
        obtain ⟨r0, r1, r2⟩ := topJ_cells H9.out
        clear hD8 hL8 hu8 hb8 hb9 hn8 hn9 HPB HPR HD6 HL6 HVN HU8 B7 B8 H7 H8
        go_upto_region 14 with fail
        rw [← hN9, ← hW9]
        clear hW9 hN9
        go_wp2_with fail
        refine HS.out.mono ?_
        rintro en w10 ⟨rfl, hb10⟩
        have HB10 := hid (HBW9.out.trans (hb10.mono HBW9.out.size))
        clear hb10 t0 t1 t2 r0 r1 r2
        go_wp2_with fail
        refine (HAL.out _).mono ?_
        rintro en w11 ⟨rfl, hb11⟩
        have HB11 := hid (HB10.out.trans (hb11.mono HB10.out.size))
        go_wp2
        go_ret
        exact ⟨rfl, HB11.out⟩
  · have hI : (3000 : Int) < (s.size : Int) := by omega
    have hI2 : (3000 : Int) ≤ (s.size : Int) := by omega
    go_enter Tryz.func5, Tryz.ntmps5
    go_wp2_with fail
    rw [← hW0]
    clear hW0
    refine (HFW.out _).mono ?_
    rintro en w1 ⟨rfl, hb1⟩
    have h1 := (hb1.block _ (lt_of_block H0.out)).trans H0.out
    obtain ⟨V, hV, hv0, hvb, hvk, hvs⟩ := top_box (a := .int .i64 wd) (b := .slice dv n dc) (c := .slice lv k lc) h1
    have I0 := hid (show TpI w (.int .i64 wd) (.slice dv n dc) (.slice lv k lc) V from ⟨hv0, ⟨hvb.os.trans (hb1.os.trans HB0.out.os), hvb.tape.trans (hb1.tape.trans HB0.out.tape), hvb.output.trans (hb1.output.trans HB0.out.output), by have := hb1.size; have := HB0.out.size; omega, fun i hi => by rw [hvk i (by omega), hb1.block i (by have := HB0.out.size; omega), HB0.out.block i hi]⟩⟩)
    obtain ⟨c0, c1, c2⟩ := topJ_cells h1
    have f0 : w1.frozen? ⟨w.heap.size, 0, none⟩ = false := free_of h1
    have f1 : w1.frozen? ⟨w.heap.size, 1, none⟩ = false := free_of h1
    have f2 : w1.frozen? ⟨w.heap.size, 2, none⟩ = false := free_of h1
    obtain ⟨t0, t1, t2⟩ := topJ_cells hv0
    clear hvb hvk hvs hv0 h1 hb1 HB0 H0
    go_upto_region 2 with fail
    rw [← hV]
    clear hV c0 c1 c2 f0 f1 f2
    cases hb : topB wd (es.map (·.1)) js with
    | false =>
      have HP1 := hid (HP.out V I0.out.below)
      unfold prtV at HP1
      rw [hb, if_neg (by decide)] at HP1
      clear hb HP
      go_wp2_with fail
      refine HP1.out.mono ?_
      rintro en w2 ⟨rfl, hb2⟩
      have HBW := hid (I0.out.on hb2).below
      clear hb2 t0 t1 t2 HP1
      go_wp2_with fail
      refine (HPA.out _).mono ?_
      rintro en w6 ⟨hb6, ⟨ea, eb, ec, hec, rfl⟩ | ⟨vd, vs, ks, c1, c2, hvb, hvl, rfl, hD6, hL6⟩⟩
      · have HB6 := hid (HBW.out.trans (hb6.mono HBW.out.size))
        have hec1 : (ec != 0) = true := by rw [bne_iff_ne]; exact hec
        have hec2 : (ec == 0) = false := by rw [beq_eq_false_iff_ne]; exact hec
        clear hb6
        have HBF := hid (fun (o : Obj) (w' : World) (h : Below (w6.alloc o).heap.size (w6.alloc o) w') => (HB6.out.alloc HB6.out.size o).trans (h.mono (HB6.out.alloc HB6.out.size o).size))
        go_wp2_with fail
        refine (HAL.out _).mono ?_
        rintro en w7 ⟨rfl, hb7⟩
        have HB7 := hid (HBF.out _ _ hb7)
        clear hb7
        go_wp2
        go_ret
        exact ⟨rfl, HB7.out⟩
      · have HB6 := hid (HBW.out.trans (hb6.mono HBW.out.size))
        obtain ⟨a6, k6, hc1, -⟩ := id hD6.form
        obtain ⟨a7, k7, hc2, -⟩ := id hL6.form
        subst hc1 hc2
        obtain ⟨X6, hPR, hPB, hvn, hkn⟩ := again_all HB6.out HT.out hvb hvl HLN.out hD6 hL6
        have HPR := hid hPR
        have HPB := hid hPB
        have HD6 := hid hD6
        have HL6 := hid hL6
        have HVN := hid (And.intro hvn hkn)
        obtain ⟨n6, hn6⟩ : ∃ n, n = vs.length := ⟨_, rfl⟩
        obtain ⟨n7, hn7⟩ : ∃ n, n = ks.length := ⟨_, rfl⟩
        rw [← hn6] at HPR HD6 ⊢
        rw [← hn7] at HPR HL6 ⊢
        clear hb6 hvb hvl hD6 hL6 hPR hPB hvn hkn hn6 hn7
        obtain ⟨W6, hW6⟩ : ∃ W6, W6 = w6.alloc (topJ (.int .i64 vd) (.slice a6 n6 k6) (.slice a7 n7 k7)) := ⟨_, rfl⟩
        obtain ⟨N6, hN6⟩ : ∃ N6, N6 = w6.heap.size := ⟨_, rfl⟩
        have hb6 : Below w6.heap.size w6 W6 := by rw [hW6]; exact (Below.refl _ _).alloc (Nat.le_refl _) _
        have H6 := hid (show W6.heap[N6]? = some (topJ (.int .i64 vd) (.slice a6 n6 k6) (.slice a7 n7 k7)) by rw [hW6, hN6]; exact new_0 _ _)
        have HB6' := hid hb6
        have HP6 := hid (HPR.out W6 hb6)
        obtain ⟨t0, t1, t2⟩ := topJ_cells H6.out
        clear hb6
        go_upto_region 10 with fail
        rw [← hN6, ← hW6]
        clear hW6 hN6
        go_wp2_with fail
        refine HP6.out.mono ?_
        rintro en w7 ⟨rfl, hb7⟩
        have B7 := hid (HB6'.out.trans (hb7.mono HB6'.out.size))
        have H7 := hid ((hb7.block _ (lt_of_block H6.out)).trans H6.out)
        clear hb7 t0 t1 t2 HP6 H6 HB6'
        go_wp2_with fail
        refine (HPB.out _).mono ?_
        rintro en w8 ⟨us2, c1, c2, rfl, hD8, hu8, hL8, hb8⟩
        obtain ⟨a8, k8, hc1, -⟩ := id hD8.form
        obtain ⟨a9, k9, hc2, -⟩ := id hL8.form
        subst hc1 hc2
        have HU8 := hid (show us2.length = vs.length by have := congrArg List.length hu8; rwa [List.length_map, List.length_map] at this)
        obtain ⟨n8, hn8⟩ : ∃ n, n = us2.length := ⟨_, rfl⟩
        obtain ⟨n9, hn9⟩ : ∃ n, n = ks.length := ⟨_, rfl⟩
        rw [← hn8] at hD8 ⊢
        rw [← hn9] at hL8 ⊢
        have B8 := hid (B7.out.trans (hb8.mono B7.out.size))
        have H8 := hid ((hb8.block _ (lt_of_block H7.out)).trans H7.out)
        obtain ⟨W9, hW9⟩ : ∃ W9, W9 = w8.alloc (topJ (.int .i64 vd) (.slice a8 n8 k8) (.slice a9 n9 k9)) := ⟨_, rfl⟩
        obtain ⟨N9, hN9⟩ : ∃ N9, N9 = w8.heap.size := ⟨_, rfl⟩
        have hb9 : Below w8.heap.size w8 W9 := by rw [hW9]; exact (Below.refl _ _).alloc (Nat.le_refl _) _
        have B9 := hid (B8.out.trans (hb9.mono B8.out.size))
        have H9 := hid (show W9.heap[N9]? = some (topJ (.int .i64 vd) (.slice a8 n8 k8) (.slice a9 n9 k9)) by rw [hW9, hN9]; exact new_0 _ _)
        have G9 := hid ((hb9.block _ (lt_of_block H8.out)).trans H8.out)
        have HS := hid (show Calls Tryz.prog 11 #[.agg #[.int .i64 vd, .slice a8 n8 k8, .slice a9 n9 k9], .agg #[.int .i64 vd, .slice a6 n6 k6, .slice a7 n7 k7]] W9 fun e w' => e = .returned (.bool true) ∧ Below W9.heap.size W9 w' from by
          have h1 := HVN.out
          have h2 := HU8.out
          have q := RSameT_any (wd := (vd : Int)) (wd' := (vd : Int)) (hD8.below hb9) (hL8.below hb9) (HD6.out.below B9.out) (HL6.out.below B9.out) (by unfold maxLen; omega) (by unfold maxLen; omega)
          rw [hu8, sameT_one] at q
          exact q)
        have HBW9 := hid (HB6.out.trans (B9.out.mono HB6.out.size))
        obtain ⟨t0, t1, t2⟩ := topJ_cells G9.out
        obtain ⟨r0, r1, r2⟩ := topJ_cells H9.out
        clear hD8 hL8 hu8 hb8 hb9 hn8 hn9 HPB HPR HD6 HL6 HVN HU8 B7 B8 H7 H8
        go_upto_region 14 with fail
        rw [← hN9, ← hW9]
        clear hW9 hN9
        go_wp2_with fail
        refine HS.out.mono ?_
        rintro en w10 ⟨rfl, hb10⟩
        have HB10 := hid (HBW9.out.trans (hb10.mono HBW9.out.size))
        clear hb10 t0 t1 t2 r0 r1 r2
        go_wp2_with fail
        refine (HAL.out _).mono ?_
        rintro en w11 ⟨rfl, hb11⟩
        have HB11 := hid (HB10.out.trans (hb11.mono HB10.out.size))
        go_wp2
        go_ret
        exact ⟨rfl, HB11.out⟩
    | true =>
      have hok := topB_ok hb
      have HP1 := hid (HP.out V I0.out.below)
      unfold prtV at HP1
      rw [if_pos hb] at HP1
      obtain ⟨wn, hwn⟩ : ∃ n : Nat, wd = (n : Int) := ⟨wd.toNat, by have := hok.w1; omega⟩
      subst hwn
      rw [Int.toNat_natCast] at HP1
      have HBK := hid (fun W => Bk.parse_back hb W (tpT_len40 hok (by have := hok.w2; omega) (by rw [List.length_map]; exact HEL.out) HJL.out))
      have HSM := hid (fun (W : World) (us : List (To.Dv × Value × Value)) (c1 c2 : Value) (h : us.map (·.1) = es.map (·.1)) (h1 : DvL W c1 us) (h2 : LkV W c2 js) (hb : Below w.heap.size w W) => (by
        have hu : us.length ≤ maxLen := by have := congrArg List.length h; rw [List.length_map, List.length_map] at this; have := HEL.out; unfold maxLen; omega
        have he : es.length ≤ maxLen := by have := HEL.out; unfold maxLen; omega
        have hj : js.length ≤ maxLen := by have := HJL.out; unfold maxLen; omega
        have q := oSame_any (wd := (wn : Int)) (wd' := (wn : Int)) h1 h2 (HD.out.below hb) (HL.out.below hb) hu hj he hj
        rw [h, sameT_one] at q
        exact q : Calls Tryz.prog 18 #[.agg #[.int .i64 wn, c1, c2], .agg #[.int .i64 wn, .slice dv n dc, .slice lv k lc]] W fun e w' => e = .returned (.bool true) ∧ Below W.heap.size W w'))
      obtain ⟨X, hX⟩ : ∃ X, X = tpT wn (es.map (·.1)) js := ⟨_, rfl⟩
      rw [← hX] at HP1 HBK
      clear hb hX hok HP
      go_wp2_with fail
      refine HP1.out.mono ?_
      rintro en w2 ⟨rfl, hb2⟩
      have I2 := hid (I0.out.on hb2)
      clear hb2 t0 t1 t2 HP1 I0
      go_wp2_with fail
      refine (HBK.out _).mono ?_
      rintro en w3 ⟨us, c1, c2, rfl, hD3, hu3, hL3, hb3⟩
      have I3 := hid (I2.out.on hb3)
      have HD3 := hid hD3
      have HL3 := hid hL3
      have HU3 := hid hu3
      obtain ⟨a3, k3, hc1, -⟩ := hD3.form
      obtain ⟨a4, k4, hc2, -⟩ := hL3.form
      obtain ⟨n3, hn3⟩ : ∃ n, n = us.length := ⟨_, rfl⟩
      obtain ⟨n4, hn4⟩ : ∃ n, n = js.length := ⟨_, rfl⟩
      rw [← hn3] at hc1
      rw [← hn4] at hc2
      subst hc1 hc2
      clear hn3 hn4 hD3 hL3 hu3 HBK I2 hb3
      obtain ⟨W4, hW4⟩ : ∃ W4, W4 = w3.alloc (topJ (.int .i64 wn) (.slice a3 n3 k3) (.slice a4 n4 k4)) := ⟨_, rfl⟩
      obtain ⟨N4, hN4⟩ : ∃ N4, N4 = w3.heap.size := ⟨_, rfl⟩
      have hb4 : Below w3.heap.size w3 W4 := by rw [hW4]; exact (Below.refl _ _).alloc (Nat.le_refl _) _
      have H4 := hid (show W4.heap[N4]? = some (topJ (.int .i64 wn) (.slice a3 n3 k3) (.slice a4 n4 k4)) by rw [hW4, hN4]; exact new_0 _ _)
      have I4 := hid (I3.out.on hb4)
      have HS := hid (HSM.out W4 us _ _ HU3.out (HD3.out.below hb4) (HL3.out.below hb4) I4.out.below)
      obtain ⟨t0, t1, t2⟩ := topJ_cells I4.out.top
      obtain ⟨r0, r1, r2⟩ := topJ_cells H4.out
      clear hb4 I3 HSM HD3 HL3 HU3
      go_upto_region 5 with fail
      rw [← hN4, ← hW4]
      clear hW4 hN4
      go_wp2_with fail
      refine HS.out.mono ?_
      rintro en w5 ⟨rfl, hb5⟩
      have HBW := hid (I4.out.on hb5).below
      clear hb5 t0 t1 t2 r0 r1 r2 HS I4 H4
      go_wp2_with fail
      refine (HPA.out _).mono ?_
      rintro en w6 ⟨hb6, ⟨ea, eb, ec, hec, rfl⟩ | ⟨vd, vs, ks, c1, c2, hvb, hvl, rfl, hD6, hL6⟩⟩
      · have HB6 := hid (HBW.out.trans (hb6.mono HBW.out.size))
        have hec1 : (ec != 0) = true := by rw [bne_iff_ne]; exact hec
        have hec2 : (ec == 0) = false := by rw [beq_eq_false_iff_ne]; exact hec
        clear hb6
        have HBF := hid (fun (o : Obj) (w' : World) (h : Below (w6.alloc o).heap.size (w6.alloc o) w') => (HB6.out.alloc HB6.out.size o).trans (h.mono (HB6.out.alloc HB6.out.size o).size))
        go_wp2_with fail
        refine (HAL.out _).mono ?_
        rintro en w7 ⟨rfl, hb7⟩
        have HB7 := hid (HBF.out _ _ hb7)
        clear hb7
        go_wp2
        go_ret
        exact ⟨rfl, HB7.out⟩
      · have HB6 := hid (HBW.out.trans (hb6.mono HBW.out.size))
        obtain ⟨a6, k6, hc1, -⟩ := id hD6.form
        obtain ⟨a7, k7, hc2, -⟩ := id hL6.form
        subst hc1 hc2
        obtain ⟨X6, hPR, hPB, hvn, hkn⟩ := again_all HB6.out HT.out hvb hvl HLN.out hD6 hL6
        have HPR := hid hPR
        have HPB := hid hPB
        have HD6 := hid hD6
        have HL6 := hid hL6
        have HVN := hid (And.intro hvn hkn)
        obtain ⟨n6, hn6⟩ : ∃ n, n = vs.length := ⟨_, rfl⟩
        obtain ⟨n7, hn7⟩ : ∃ n, n = ks.length := ⟨_, rfl⟩
        rw [← hn6] at HPR HD6 ⊢
        rw [← hn7] at HPR HL6 ⊢
        clear hb6 hvb hvl hD6 hL6 hPR hPB hvn hkn hn6 hn7
        obtain ⟨W6, hW6⟩ : ∃ W6, W6 = w6.alloc (topJ (.int .i64 vd) (.slice a6 n6 k6) (.slice a7 n7 k7)) := ⟨_, rfl⟩
        obtain ⟨N6, hN6⟩ : ∃ N6, N6 = w6.heap.size := ⟨_, rfl⟩
        have hb6 : Below w6.heap.size w6 W6 := by rw [hW6]; exact (Below.refl _ _).alloc (Nat.le_refl _) _
        have H6 := hid (show W6.heap[N6]? = some (topJ (.int .i64 vd) (.slice a6 n6 k6) (.slice a7 n7 k7)) by rw [hW6, hN6]; exact new_0 _ _)
        have HB6' := hid hb6
        have HP6 := hid (HPR.out W6 hb6)
        obtain ⟨t0, t1, t2⟩ := topJ_cells H6.out
        clear hb6
        go_upto_region 10 with fail
        rw [← hN6, ← hW6]
        clear hW6 hN6
        go_wp2_with fail
        refine HP6.out.mono ?_
        rintro en w7 ⟨rfl, hb7⟩
        have B7 := hid (HB6'.out.trans (hb7.mono HB6'.out.size))
        have H7 := hid ((hb7.block _ (lt_of_block H6.out)).trans H6.out)
        clear hb7 t0 t1 t2 HP6 H6 HB6'
        go_wp2_with fail
        refine (HPB.out _).mono ?_
        rintro en w8 ⟨us2, c1, c2, rfl, hD8, hu8, hL8, hb8⟩
        obtain ⟨a8, k8, hc1, -⟩ := id hD8.form
        obtain ⟨a9, k9, hc2, -⟩ := id hL8.form
        subst hc1 hc2
        have HU8 := hid (show us2.length = vs.length by have := congrArg List.length hu8; rwa [List.length_map, List.length_map] at this)
        obtain ⟨n8, hn8⟩ : ∃ n, n = us2.length := ⟨_, rfl⟩
        obtain ⟨n9, hn9⟩ : ∃ n, n = ks.length := ⟨_, rfl⟩
        rw [← hn8] at hD8 ⊢
        rw [← hn9] at hL8 ⊢
        have B8 := hid (B7.out.trans (hb8.mono B7.out.size))
        have H8 := hid ((hb8.block _ (lt_of_block H7.out)).trans H7.out)
        obtain ⟨W9, hW9⟩ : ∃ W9, W9 = w8.alloc (topJ (.int .i64 vd) (.slice a8 n8 k8) (.slice a9 n9 k9)) := ⟨_, rfl⟩
        obtain ⟨N9, hN9⟩ : ∃ N9, N9 = w8.heap.size := ⟨_, rfl⟩
        have hb9 : Below w8.heap.size w8 W9 := by rw [hW9]; exact (Below.refl _ _).alloc (Nat.le_refl _) _
        have B9 := hid (B8.out.trans (hb9.mono B8.out.size))
        have H9 := hid (show W9.heap[N9]? = some (topJ (.int .i64 vd) (.slice a8 n8 k8) (.slice a9 n9 k9)) by rw [hW9, hN9]; exact new_0 _ _)
        have G9 := hid ((hb9.block _ (lt_of_block H8.out)).trans H8.out)
        have HS := hid (show Calls Tryz.prog 11 #[.agg #[.int .i64 vd, .slice a8 n8 k8, .slice a9 n9 k9], .agg #[.int .i64 vd, .slice a6 n6 k6, .slice a7 n7 k7]] W9 fun e w' => e = .returned (.bool true) ∧ Below W9.heap.size W9 w' from by
          have h1 := HVN.out
          have h2 := HU8.out
          have q := RSameT_any (wd := (vd : Int)) (wd' := (vd : Int)) (hD8.below hb9) (hL8.below hb9) (HD6.out.below B9.out) (HL6.out.below B9.out) (by unfold maxLen; omega) (by unfold maxLen; omega)
          rw [hu8, sameT_one] at q
          exact q)
        have HBW9 := hid (HB6.out.trans (B9.out.mono HB6.out.size))
        obtain ⟨t0, t1, t2⟩ := topJ_cells G9.out
        obtain ⟨r0, r1, r2⟩ := topJ_cells H9.out
        clear hD8 hL8 hu8 hb8 hb9 hn8 hn9 HPB HPR HD6 HL6 HVN HU8 B7 B8 H7 H8
        go_upto_region 14 with fail
        rw [← hN9, ← hW9]
        clear hW9 hN9
        go_wp2_with fail
        refine HS.out.mono ?_
        rintro en w10 ⟨rfl, hb10⟩
        have HB10 := hid (HBW9.out.trans (hb10.mono HBW9.out.size))
        clear hb10 t0 t1 t2 r0 r1 r2
        go_wp2_with fail
        refine (HAL.out _).mono ?_
        rintro en w11 ⟨rfl, hb11⟩
        have HB11 := hid (HB10.out.trans (hb11.mono HB10.out.size))
        go_wp2
        go_ret
        exact ⟨rfl, HB11.out⟩

theorem tback_any (s : ByteArray) {w : World} {wd : Int} {dv lv : Option Addr} {N dc M lc : Nat} {ds : List (To.Dv × Value × Value)} {ls : List LkZ} (hD : DvL w (.slice dv N dc) ds) (hL : LkV w (.slice lv M lc) ls) (hN : N ≤ dc) (hM : M ≤ lc) (hz : DvShort ds) (hT : PowTab w) :
    Calls Tryz.prog 5 #[.agg #[.int .i64 wd, .slice dv N dc, .slice lv M lc], .string s] w fun e w' => e = .returned (.bool true) ∧ Below w.heap.size w w' := by
  by_cases h : 3000 < s.size
  · exact tback_at s _ (s.data.toList.take 3000) hD hL hN hM hz hT (by rw [Lib.extract_eq]; rfl) (by rw [List.length_take]; omega) (Or.inr ⟨h, rfl⟩)
  · exact tback_at s s s.data.toList hD hL hN hM hz hT (by unfold tx; rfl) (by rw [list_size]; omega) (Or.inl ⟨h, rfl⟩)
end Go.Proofs.YtebaopiedlioiaaGreatDoor
namespace Go.Proofs.YtebaopiedlioiaaGreatDoor
open Go.ChangeShapes Go.WideShapes Go.ChangeAt Go.RowKit
open Go.ChangeMaps (open_string shut_string)

theorem JCBck.laidOut : laidOutB Tryz.prog = true := by kernel_rfl
theorem JCBck.pow {W : World} (h : laidMetH Tryz.prog Rows.topoBackRow.laid W) : PowTab W := by
  rw [MakeChecks.laidMetH_plain _ _ _ (by kernel_rfl)] at h
  have hF := h.filter (fun x => x.1 == "internal/strconv.uint64pow10")
  rw [show Rows.topoBackRow.laid.filter (fun x => x.1 == "internal/strconv.uint64pow10") = [("internal/strconv.uint64pow10", Lib.tabData .u64 Lib.pow10Tab)] by kernel_rfl] at hF
  exact Lib.tabIs_of_head (g := 0) (t := 220) (e := 184) (n := 20) (by kernel_rfl) (by kernel_rfl) (by kernel_rfl) (by kernel_rfl) (by kernel_rfl) (by kernel_rfl) hF
theorem JCBck.own : ownKnob Tryz.prog.godebug = none := by kernel_rfl

set_option maxRecDepth 100000 in
set_option maxHeartbeats 2000000 in
theorem JCBck.lifted (os : Os) (started : os.Started) (H : Type) (enc : TypeId × Value → H) :
    ReturnsInHanded {} Tryz.checked os 5 .any (fun w args => (Rows.topoBackSpec.pre enc Tryz.prog Tryz.f5 [] false w args ∧ laidMetH Tryz.prog Rows.topoBackRow.laid w) ∧ sizedMet enc Tryz.prog Tryz.f5 (OpenSpec.ofChange Rows.topoBackSpec) false w args)
      (Rows.topoBackSpec.post enc Tryz.prog Tryz.f5 false true false false) := by
  refine returnsInHanded_of_change_and (C := Tryz.checked) (X := fun w _ => laidMetH Tryz.prog Rows.topoBackRow.laid w) (fun _ _ _ hh h => h.of_heap hh) JCBck.own started (by kernel_rfl) Tryz.func5
    (ChangeSpec.witness_shaped (enc := enc) (C := Tryz.checked) (os := os) (X := fun w _ => laidMetH Tryz.prog Rows.topoBackRow.laid w) false (World.laidAll Tryz.prog os Rows.topoBackRow.laid) #[.agg #[.int .i64 0, .slice none 0 0, .slice none 0 0], .string ByteArray.empty] 8 (World.laidAll_os _ _ _)
      (World.shaped_of_ZipB (by kernel_rfl) (by kernel_rfl)) (by kernel_rfl) (by kernel_rfl) (by kernel_rfl)
      (by rw [MakeChecks.laidMetH_plain _ _ _ (by kernel_rfl)]; exact laidMet_laidAll _ (by kernel_rfl) (by kernel_rfl))) ?_
  intro W base args ds gs before hval0 hW _ _ hL0w _
  have hval : ∀ (j : Nat) t v, Tryz.f5.params[j]? = some t → args[j]? = some v → Value.okWide Tryz.prog W .any base t v := hval0
  have hW' := hW
  obtain ⟨p, q, hA0, hV, rfl, _, _⟩ := hW
  have hA : DataW.TrodAll enc Tryz.prog W 0 (fun _ => true) true Tryz.f5.params.toList args.toList ds p := hA0
  rw [Tryz.params5] at hA hval
  obtain ⟨v0, vs0, d0, ds0, p0, q0, hargs, rfl, rfl, h0, r0⟩ := trodAll_cons hA
  obtain ⟨v1, vs1, d1, ds1, p1, q1, rfl, rfl, rfl, h1, r1⟩ := trodAll_cons r0
  obtain ⟨rfl, rfl, rfl⟩ := trodAll_nil r1
  obtain rfl : args = #[v0, v1] := by cases args; simp_all
  obtain ⟨rfl, rfl⟩ := trodVars_none hV
  obtain ⟨fs, hfs, _⟩ := structOfJ (P := Tryz.prog) (t := 25) (l := [(3, 0), (22, 1), (23, 2)]) (by kernel_rfl)
  obtain ⟨cs0, rfl, hcs0⟩ := okWide_struct hfs (hval 0 25 v0 rfl rfl)
  have k0 := h0
  have lt0 : ∀ x ∈ p0, x.block < W.heap.size := by obtain ⟨m, hm⟩ := k0; exact DataW.trod_lt m _ _ _ hm
  obtain ⟨wd0, dv0, N0, dc0, lv0, M0, lc0, es0, js0, hr0, hD0, hL0, hN0, hM0, hn0, hm0, hz0, hs0⟩ : ∃ (wd : Int) (dv : Option Addr) (N dc : Nat) (lv : Option Addr) (M lc : Nat) (ds : List (To.Dv × Value × Value)) (ls : List LkZ), cs0 = #[.int .i64 wd, .slice dv N dc, .slice lv M lc] ∧ DvL W (.slice dv N dc) ds ∧ LkV W (.slice lv M lc) ls ∧ N ≤ dc ∧ M ≤ lc ∧ N ≤ maxLen ∧ M ≤ maxLen ∧ DvShort ds ∧ LkShort ls := by
    obtain ⟨m, hm⟩ := h0
    obtain ⟨wd, dv, N, dc, lv, M, lc, ds, ls, e1, e2⟩ := open_topo hm
    refine ⟨wd, dv, N, dc, lv, M, lc, ds, ls, ?_, e2⟩
    apply Array.toList_inj.1
    simpa [Value.cells] using e1
  subst hr0
  obtain ⟨s1, rfl, rfl, rfl, ws1⟩ := open_string Tryz.underlying9 (hval 1 9 v1 rfl rfl) h1
  simp only [List.append_nil] at hW'
  refine (tback_any s1 (wd := wd0) hD0 hL0 hN0 hM0 hz0 (JCBck.pow hL0w)).mono fun e W' ⟨he, hb⟩ => ?_
  subst he
  exact ⟨_, rfl, _, _, _, [], _, [], hW', trodAll_mk1 (shut_bool Tryz.underlying4 _), (trodAll_cons_mk (Below.trod JCBck.laidOut (by kernel_rfl) (of_decide_eq_true (by kernel_rfl)) k0 hb lt0) (trodAll_cons_mk (shut_string Tryz.underlying9 ws1) trodAll_mk0)), rfl, hb.frame _, fun h => by cases h⟩

theorem JCBck.holds : Rows.TopoBackSaid :=
  OpenClaim.holds_of_wide 5 Tryz.f5 rfl rfl rfl rfl rfl rfl rfl ⟨rfl, rfl, rfl, rfl, rfl⟩ rfl rfl rfl rfl rfl (by kernel_rfl) Tryz.func5 (by kernel_rfl)
    (of_decide_eq_true (by kernel_rfl)) (by unfold Func.isWrapper; first | (rw [if_pos (by decide +kernel)]; kernel_rfl) | (rw [if_neg (by decide +kernel)]; exact ⟨rfl, rfl⟩))
    (fun os started H enc _ => JCBck.lifted os started H enc)

theorem TopoBack_holds : Rows.TopoBackCardSaid :=
  Claim7.holds_tied_plain_at .later [] [.data, .data, .data, .data, .pinned] true (true, "0620ee3e491877ded258c3de5b83ee95dbbb9082b4e3ac5f8d4f2dfacaa3ec88") false JCBck.holds (fun _ h => by cases h) (by kernel_rfl) (fun _ h => by cases h) topoBack_row_tie rfl ⟨rfl, rfl⟩ (by kernel_rfl) rfl
    (fun f fn hf hfn => by
      obtain rfl : f = 5 := Option.some.inj ((show Tryz.prog.funcNamed "milestone/milestonelaw11.TopoBack" = some 5 by kernel_rfl).symm.trans hf) |>.symm
      obtain rfl : fn = Tryz.f5 := (Option.some.inj (Tryz.func5.symm.trans hfn)).symm
      exact ⟨by kernel_rfl, fun j t ht => by
        rw [Tryz.params5] at ht
        have hm : t ∈ [25, 9] := by simpa using Array.mem_of_getElem? ht
        have hall : ([25, 9].all fun u => !Tryz.prog.wantsStandIn u) = true := by kernel_rfl
        exact (show Tryz.prog.wantsStandIn t = false by simpa using List.all_eq_true.1 hall t hm)⟩)
    (by kernel_rfl)
#print axioms TopoBack_holds
end Go.Proofs.YtebaopiedlioiaaGreatDoor
