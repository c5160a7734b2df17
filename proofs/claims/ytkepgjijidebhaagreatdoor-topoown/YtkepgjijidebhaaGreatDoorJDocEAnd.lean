/-
  The law TopoParses: both Parse come to the same topology, or to the same fault.
  The document's Same of any two topologies.
-/
import Derived.Test.YtkepgjijidebhaaGreatDoorJDocZAnd
import Derived.Test.YtkepgjijidebhaaGreatDoorJDocKAnd
namespace Go.Proofs.YtkepgjijidebhaaGreatDoor
open Go.RowKit

/-- What stands still while two topologies are held against each other. -/
structure TwI (w : World) (a b : Obj) (wr : World) : Prop where
  one : wr.heap[w.heap.size]? = some a
  two : wr.heap[w.heap.size + 1]? = some b
  below : Below w.heap.size w wr
theorem TwI.on {w : World} {a b : Obj} {wr w' : World} (h : TwI w a b wr) (hb : Below wr.heap.size wr w') : TwI w a b w' :=
  ⟨(hb.block _ (lt_of_block h.one)).trans h.one, (hb.block _ (lt_of_block h.two)).trans h.two, ⟨hb.os.trans h.below.os, hb.tape.trans h.below.tape, hb.output.trans h.below.output, Nat.le_trans h.below.size hb.size, fun i hi => (hb.block i (Nat.lt_of_lt_of_le hi h.below.size)).trans (h.below.block i hi)⟩⟩
theorem two_boxes (w : World) (a b : Obj) : ((w.alloc a).alloc b).drew.heap[w.heap.size]? = some a ∧ ((w.alloc a).alloc b).drew.heap[w.heap.size + 1]? = some b ∧ Below w.heap.size w ((w.alloc a).alloc b).drew :=
  ⟨new_old _ _ (new_0 _ _), new_1 _ _ _, (((Below.refl _ _).alloc (Nat.le_refl _) _).alloc (by simp) _).drew⟩

set_option maxRecDepth 20000 in
set_option maxHeartbeats 2000000 in
theorem RSameT_any {w : World} {wd wd' : Int} {vd vl vd' vl' : Value} {ds ds' : List (To.Dv × Value × Value)} {ls ls' : List LkZ} (hD : DvL w vd ds) (hL : LkV w vl ls) (hD' : DvL w vd' ds') (hL' : LkV w vl' ls') (hdn : ds.length ≤ maxLen) (hln : ls.length ≤ maxLen) :
    Calls Tryz.prog 11 #[.agg #[.int .i64 wd, vd, vl], .agg #[.int .i64 wd', vd', vl']] w fun e w' => e = .returned (.bool (sameT wd (ds.map (·.1)) ls wd' (ds'.map (·.1)) ls')) ∧ Below w.heap.size w w' := by
  have HD := hid hD
  have HD' := hid hD'
  obtain ⟨dv, dc, hvd, hdv⟩ := hD.form
  obtain ⟨lv, lc, hvl, hlv⟩ := hL.form
  obtain ⟨dv', dc', hvd', hdv'⟩ := hD'.form
  obtain ⟨lv', lc', hvl', hlv'⟩ := hL'.form
  obtain ⟨N, hN⟩ : ∃ N, N = ds.length := ⟨_, rfl⟩
  obtain ⟨M, hM⟩ : ∃ M, M = ls.length := ⟨_, rfl⟩
  obtain ⟨N', hN'⟩ : ∃ N, N = ds'.length := ⟨_, rfl⟩
  obtain ⟨M', hM'⟩ : ∃ M, M = ls'.length := ⟨_, rfl⟩
  have HDV := hid hdv
  have HLV := hid hlv
  have HDV' := hid hdv'
  have HLV' := hid hlv'
  rw [← hN] at hvd hdn
  rw [← hM] at hvl hln
  rw [← hN'] at hvd'
  rw [← hM'] at hvl'
  unfold maxLen at hdn hln
  subst hvd; subst hvl; subst hvd'; subst hvl'
  have HS := hid (show sameT wd (ds.map (·.1)) ls wd' (ds'.map (·.1)) ls' = ((decide (wd = wd') && (decide (N = N') && decide (M = M'))) && (allN N (fun i => dvE ((ds.map (·.1)).getD i dv0) ((ds'.map (·.1)).getD i dv0)) && allN M (fun i => lkE (ls.getD i lk0) (ls'.getD i lk0)))) by
    unfold sameT; rw [List.length_map, List.length_map, ← hN, ← hM, ← hN', ← hM'])
  have HN := hid hN
  have HM := hid hM
  have HN' := hid hN'
  have HM' := hid hM'
  have HB := hid (fun (a b : Obj) => (show Below w.heap.size w ((w.alloc a).alloc b) from ((Below.refl _ _).alloc (Nat.le_refl _) _).alloc (by simp) _))
  clear hD hL hD' hL' hdv hlv hdv' hlv' hN hM hN' hM'
  by_cases q1 : wd = wd'
  case neg =>
    have e1 : (wd != wd') = true := by rw [bne_iff_ne]; exact q1
    have e2 : (wd == wd') = false := by rw [beq_eq_false_iff_ne]; exact q1
    have HE := hid (show sameT wd (ds.map (·.1)) ls wd' (ds'.map (·.1)) ls' = false by rw [HS.out, decide_eq_false q1]; rfl)
    clear q1
    go_enter Tryz.func11, Tryz.ntmps11
    go_wp2
    go_ret
    exact ⟨by rw [HE.out]; rfl, HB.out _ _⟩
  case pos =>
    subst q1
    have HT := hid (show decide (wd = wd) = true from decide_eq_true rfl)
    by_cases q2 : N = N'
    case neg =>
      have e1 : (N != N') = true := by rw [bne_iff_ne]; exact q2
      have e2 : (N == N') = false := by rw [beq_eq_false_iff_ne]; exact q2
      have e3 : ((N : Int) != (N' : Int)) = true := by rw [bne_iff_ne]; omega
      have HE := hid (show sameT wd (ds.map (·.1)) ls wd (ds'.map (·.1)) ls' = false by rw [HS.out, HT.out, decide_eq_false q2]; rfl)
      clear q2
      go_enter Tryz.func11, Tryz.ntmps11
      go_wp2
      go_ret
      exact ⟨by rw [HE.out]; rfl, HB.out _ _⟩
    case pos =>
      subst q2
      have HT2 := hid (show decide (N = N) = true from decide_eq_true rfl)
      by_cases q3 : M = M'
      case neg =>
        have e1 : (M != M') = true := by rw [bne_iff_ne]; exact q3
        have e2 : (M == M') = false := by rw [beq_eq_false_iff_ne]; exact q3
        have e3 : ((M : Int) != (M' : Int)) = true := by rw [bne_iff_ne]; omega
        have HE := hid (show sameT wd (ds.map (·.1)) ls wd (ds'.map (·.1)) ls' = false by rw [HS.out, HT.out, HT2.out, decide_eq_false q3]; rfl)
        clear q3
        go_enter Tryz.func11, Tryz.ntmps11
        go_wp2
        go_ret
        exact ⟨by rw [HE.out]; rfl, HB.out _ _⟩
      case pos =>
        subst q3
        have HSS := hid (show sameT wd (ds.map (·.1)) ls wd (ds'.map (·.1)) ls' = (allN N (fun i => dvE ((ds.map (·.1)).getD i dv0) ((ds'.map (·.1)).getD i dv0)) && allN M (fun i => lkE (ls.getD i lk0) (ls'.getD i lk0))) by
          rw [HS.out, HT.out, HT2.out, decide_eq_true (rfl : M = M)]; rfl)
        clear HS HT HT2
        have I0 := hid (show TwI w (topJ (.int .i64 wd) (.slice dv N dc) (.slice lv M lc)) (topJ (.int .i64 wd) (.slice dv' N dc') (.slice lv' M lc')) ((w.alloc (topJ (.int .i64 wd) (.slice dv N dc) (.slice lv M lc))).alloc (topJ (.int .i64 wd) (.slice dv' N dc') (.slice lv' M lc'))) from ⟨new_old _ _ (new_0 _ _), new_1 _ _ _, HB.out _ _⟩)
        go_enter Tryz.func11, Tryz.ntmps11
        go_wp2_with fail
        go_loopw [5] (fun i wr => ∃ k : Nat, k ≤ N ∧ i = .int .i64 k ∧ Hid (TwI w (topJ (.int .i64 wd) (.slice dv N dc) (.slice lv M lc)) (topJ (.int .i64 wd) (.slice dv' N dc') (.slice lv' M lc')) wr) ∧ Hid (∀ i, i < k → dvE ((ds.map (·.1)).getD i dv0) ((ds'.map (·.1)).getD i dv0) = true)) (fun i _ => N - (intOf i).toNat)
        case atStart => exact ⟨0, Nat.zero_le _, rfl, I0, hid fun i h => absurd h (Nat.not_lt_zero _)⟩
        case round =>
          obtain ⟨k, hk, rfl, hI, hA⟩ := hrel
          obtain ⟨s0, s1, s2⟩ := topJ_cells hI.out.one
          obtain ⟨t0, t1, t2⟩ := topJ_cells hI.out.two
          by_cases hlt : k < N
          · obtain ⟨⟨qx, ux, vx⟩, hx⟩ : ∃ z, ds[k]? = some z := ⟨_, List.getElem?_eq_getElem (by have := HN.out; omega)⟩
            obtain ⟨⟨qy, uy, vy⟩, hy⟩ : ∃ z, ds'[k]? = some z := ⟨_, List.getElem?_eq_getElem (by have := HN'.out; omega)⟩
            obtain ⟨D, od, rfl, hDl, hdc⟩ := HDV.out.resolve_left (fun e => by rw [e] at hx; simp at hx)
            obtain ⟨D', od', rfl, hDl', hdc'⟩ := HDV'.out.resolve_left (fun e => by rw [e] at hy; simp at hy)
            have hw1 : wr.heap[D]? = w.heap[D]? := hI.out.below.block D hDl
            have hw2 : wr.heap[D']? = w.heap[D']? := hI.out.below.block D' hDl'
            obtain ⟨z0, z1, z2⟩ := hdc k _ hx
            obtain ⟨z3, z4, z5⟩ := hdc' k _ hy
            have y0 := (World.cell?_of_block (a := ⟨D, od + k * 3, none⟩) hw1).trans z0
            have y1 := (World.cell?_of_block (a := ⟨D, od + k * 3 + 1, none⟩) hw1).trans z1
            have y2 := (World.cell?_of_block (a := ⟨D, od + k * 3 + 2, none⟩) hw1).trans z2
            have y3 := (World.cell?_of_block (a := ⟨D', od' + k * 3, none⟩) hw2).trans z3
            have y4 := (World.cell?_of_block (a := ⟨D', od' + k * 3 + 1, none⟩) hw2).trans z4
            have y5 := (World.cell?_of_block (a := ⟨D', od' + k * 3 + 2, none⟩) hw2).trans z5
            simp only at y0 y1 y2 y3 y4 y5
            have kI : (k : Int) < (N : Int) := by omega
            have k0I : (0 : Int) ≤ (k : Int) := by omega
            have HDE := hid (show dvE ((ds.map (·.1)).getD k dv0) ((ds'.map (·.1)).getD k dv0) = ((decide (qx.name = qy.name) && decide (qx.cls = qy.cls)) && decide (qx.prt = qy.prt)) by
              rw [getD_at (show (ds.map (·.1))[k]? = some qx by rw [List.getElem?_map, hx]; rfl), getD_at (show (ds'.map (·.1))[k]? = some qy by rw [List.getElem?_map, hy]; rfl)]; rfl)
            obtain ⟨hc1, hl1⟩ := HD.out.cls _ (List.mem_of_getElem? hx)
            obtain ⟨hp1, hm1⟩ := HD.out.prt _ (List.mem_of_getElem? hx)
            obtain ⟨hc2, hl2⟩ := HD'.out.cls _ (List.mem_of_getElem? hy)
            obtain ⟨hp2, hm2⟩ := HD'.out.prt _ (List.mem_of_getElem? hy)
            simp only at hc1 hl1 hp1 hm1 hc2 hl2 hp2 hm2
            have HTC := hid (fun (W : World) (hb : Below w.heap.size w W) => RTexts_exact (hc1.below hb) (hc2.below hb) hl1 hl2)
            have HTP := hid (fun (W : World) (hb : Below w.heap.size w W) => RTexts_exact (hp1.below hb) (hp2.below hb) hm1 hm2)
            obtain ⟨a1, c1, e1, -⟩ := hc1
            obtain ⟨a2, c2, e2, -⟩ := hc2
            obtain ⟨a3, c3, e3, -⟩ := hp1
            obtain ⟨a4, c4, e4, -⟩ := hp2
            subst e1; subst e2; subst e3; subst e4
            obtain ⟨L1, g1⟩ : ∃ L, L = qx.cls.length := ⟨_, rfl⟩
            obtain ⟨L2, g2⟩ : ∃ L, L = qy.cls.length := ⟨_, rfl⟩
            obtain ⟨L3, g3⟩ : ∃ L, L = qx.prt.length := ⟨_, rfl⟩
            obtain ⟨L4, g4⟩ : ∃ L, L = qy.prt.length := ⟨_, rfl⟩
            rw [← g1] at y1 HTC
            rw [← g2] at y4 HTC
            rw [← g3] at y2 HTP
            rw [← g4] at y5 HTP
            obtain ⟨bc, hbc⟩ : ∃ b, b = decide (qx.cls = qy.cls) := ⟨_, rfl⟩
            obtain ⟨bp, hbp⟩ : ∃ b, b = decide (qx.prt = qy.prt) := ⟨_, rfl⟩
            rw [← hbc] at HTC HDE
            rw [← hbp] at HTP HDE
            have HI := hid hI.out
            clear z0 z1 z2 z3 z4 z5 hx hy hdc hdc' hw1 hw2 hl1 hl2 hm1 hm2 g1 g2 g3 g4 hbc hbp
            have A1 := hid (two_boxes wr (dvOJ qx.name (.slice a1 L1 c1) (.slice a3 L3 c3)) (dvOJ qy.name (.slice a2 L2 c2) (.slice a4 L4 c4)))
            have A2 := hid (two_boxes wr (dvOJ qy.name (.slice a2 L2 c2) (.slice a4 L4 c4)) (dvOJ qx.name (.slice a1 L1 c1) (.slice a3 L3 c3)))
            have y0a := alloc_cell y0 (cell_ltP y0)
            have y0b := fun ob => alloc_cell (y0a ob) (cell_ltP (y0a ob))
            have y1a := alloc_cell y1 (cell_ltP y1)
            have y1b := fun ob => alloc_cell (y1a ob) (cell_ltP (y1a ob))
            have y2a := alloc_cell y2 (cell_ltP y2)
            have y2b := fun ob => alloc_cell (y2a ob) (cell_ltP (y2a ob))
            have y3a := alloc_cell y3 (cell_ltP y3)
            have y3b := fun ob => alloc_cell (y3a ob) (cell_ltP (y3a ob))
            have y4a := alloc_cell y4 (cell_ltP y4)
            have y4b := fun ob => alloc_cell (y4a ob) (cell_ltP (y4a ob))
            have y5a := alloc_cell y5 (cell_ltP y5)
            have y5b := fun ob => alloc_cell (y5a ob) (cell_ltP (y5a ob))
            have s1a := alloc_cell s1 (cell_ltP s1)
            have s1b := fun ob => alloc_cell (s1a ob) (cell_ltP (s1a ob))
            have t1a := alloc_cell t1 (cell_ltP t1)
            have t1b := fun ob => alloc_cell (t1a ob) (cell_ltP (t1a ob))
            go_upto_region 6 with fail
            go_cut [6, 7] (fun x6 x7 wx => ∃ p q : Nat, x6 = .pointer (some ⟨p, 0, none⟩) ∧ x7 = .pointer (some ⟨q, 0, none⟩) ∧ Hid (wx.heap[p]? = some (dvOJ qx.name (.slice a1 L1 c1) (.slice a3 L3 c3)) ∧ wx.heap[q]? = some (dvOJ qy.name (.slice a2 L2 c2) (.slice a4 L4 c4)) ∧ Below wr.heap.size wr wx))
            case first =>
              go_region
              all_goals (go_wp2_with fail; go_meet; first | exact ⟨_, _, rfl, rfl, hid ⟨A1.out.1, A1.out.2.1, A1.out.2.2⟩⟩ | exact ⟨_, _, rfl, rfl, hid ⟨A2.out.2.1, A2.out.1, A2.out.2.2⟩⟩)
            case rest =>
              obtain ⟨p, q, rfl, rfl, hC⟩ := hcut
              obtain ⟨r0, r1, r2⟩ := dvOJ_cells hC.out.1
              obtain ⟨u0, u1, u2⟩ := dvOJ_cells hC.out.2.1
              have HI2 := hid (HI.out.on hC.out.2.2)
              have hpl := lt_of_block hC.out.1
              have hql := lt_of_block hC.out.2.1
              clear y0 y1 y2 y3 y4 y5 s0 s1 s2 t0 t1 t2 y0a y0b y1a y1b y2a y2b y3a y3b y4a y4b y5a y5b s1a s1b t1a t1b A1 A2
              by_cases hn : qx.name = qy.name
              case neg =>
                have e1 : (qx.name != qy.name) = true := by rw [bne_iff_ne]; exact hn
                have e2 : (qx.name == qy.name) = false := by rw [beq_eq_false_iff_ne]; exact hn
                have HE := hid (show sameT wd (ds.map (·.1)) ls wd (ds'.map (·.1)) ls' = false by
                  rw [HSS.out, allN_false hlt (by rw [HDE.out, decide_eq_false hn]; rfl)]; rfl)
                clear hn
                go_wp2
                go_ret
                exact ⟨by rw [HE.out]; rfl, HI2.out.below⟩
              case pos =>
                have HNM := hid (decide_eq_true hn)
                rw [hn] at r0
                have e1 : (qy.name != qy.name) = false := by simp
                clear hn
                go_wp2_with fail
                refine (HTC.out _ HI2.out.below).mono ?_
                rintro en w6 ⟨rfl, n6, rfl⟩
                cases bc with
                | false =>
                  have HE := hid (show sameT wd (ds.map (·.1)) ls wd (ds'.map (·.1)) ls' = false by
                    rw [HSS.out, allN_false hlt (by rw [HDE.out, HNM.out]; rfl)]; rfl)
                  go_wp2
                  go_ret
                  exact ⟨by rw [HE.out]; rfl, below_drewN HI2.out.below⟩
                | true =>
                  go_wp2_with fail
                  refine (HTP.out _ (below_drewN HI2.out.below)).mono ?_
                  rintro en w7 ⟨rfl, n7, rfl⟩
                  cases bp with
                  | false =>
                    have HE := hid (show sameT wd (ds.map (·.1)) ls wd (ds'.map (·.1)) ls' = false by
                      rw [HSS.out, allN_false hlt (by rw [HDE.out, HNM.out]; rfl)]; rfl)
                    go_wp2
                    go_ret
                    exact ⟨by rw [HE.out]; rfl, below_drewN HI2.out.below⟩
                  | true =>
                    have HA2 := hid (show ∀ i, i < k + 1 → dvE ((ds.map (·.1)).getD i dv0) ((ds'.map (·.1)).getD i dv0) = true from fun i hi => by
                      by_cases e : i = k
                      · rw [e, HDE.out, HNM.out]; rfl
                      · exact hA.out i (by omega))
                    have HI3 := hid (fun n => HI2.out.on (w' := wc.drewN n) ⟨rfl, rfl, rfl, Nat.le_refl _, fun _ _ => rfl⟩)
                    go_wp2
                    go_roundw
                    case rel => exact ⟨k + 1, by omega, by go_num, hid (HI3.out _), HA2⟩
                    case measure => simp [intOf]; omega
          · have hkI : ¬ (k : Int) < (N : Int) := by omega
            have HA1 := hid (show allN N (fun i => dvE ((ds.map (·.1)).getD i dv0) ((ds'.map (·.1)).getD i dv0)) = true from allN_iff.2 fun i hi => hA.out i (by omega))
            clear hA hlt
            go_wp2_with fail
            go_loopw [8] (fun i wz => ∃ j : Nat, j ≤ M ∧ i = .int .i64 j ∧ Hid (TwI w (topJ (.int .i64 wd) (.slice dv N dc) (.slice lv M lc)) (topJ (.int .i64 wd) (.slice dv' N dc') (.slice lv' M lc')) wz) ∧ Hid (∀ i, i < j → lkE (ls.getD i lk0) (ls'.getD i lk0) = true)) (fun i _ => M - (intOf i).toNat)
            case atStart => exact ⟨0, Nat.zero_le _, rfl, hI, hid fun i h => absurd h (Nat.not_lt_zero _)⟩
            case round =>
              obtain ⟨j, hj, rfl, hJ, hA⟩ := hrel
              rename World => wz
              clear s0 s1 s2 t0 t1 t2
              obtain ⟨s0, s1, s2⟩ := topJ_cells hJ.out.one
              obtain ⟨t0, t1, t2⟩ := topJ_cells hJ.out.two
              by_cases hlt : j < M
              · obtain ⟨⟨a, p, b, q⟩, hx⟩ : ∃ z, ls[j]? = some z := ⟨_, List.getElem?_eq_getElem (by have := HM.out; omega)⟩
                obtain ⟨⟨a', p', b', q'⟩, hy⟩ : ∃ z, ls'[j]? = some z := ⟨_, List.getElem?_eq_getElem (by have := HM'.out; omega)⟩
                obtain ⟨G, o, rfl, hGl, hgc⟩ := HLV.out.resolve_left (fun e => by rw [e] at hx; simp at hx)
                obtain ⟨G', o', rfl, hGl', hgc'⟩ := HLV'.out.resolve_left (fun e => by rw [e] at hy; simp at hy)
                have hw1 : wz.heap[G]? = w.heap[G]? := hJ.out.below.block G hGl
                have hw2 : wz.heap[G']? = w.heap[G']? := hJ.out.below.block G' hGl'
                obtain ⟨z0, z1, z2, z3⟩ := hgc j _ hx
                obtain ⟨z4, z5, z6, z7⟩ := hgc' j _ hy
                have y0 := (World.cell?_of_block (a := ⟨G, o + j * 4, none⟩) hw1).trans z0
                have y1 := (World.cell?_of_block (a := ⟨G, o + j * 4 + 1, none⟩) hw1).trans z1
                have y2 := (World.cell?_of_block (a := ⟨G, o + j * 4 + 2, none⟩) hw1).trans z2
                have y3 := (World.cell?_of_block (a := ⟨G, o + j * 4 + 3, none⟩) hw1).trans z3
                have y4 := (World.cell?_of_block (a := ⟨G', o' + j * 4, none⟩) hw2).trans z4
                have y5 := (World.cell?_of_block (a := ⟨G', o' + j * 4 + 1, none⟩) hw2).trans z5
                have y6 := (World.cell?_of_block (a := ⟨G', o' + j * 4 + 2, none⟩) hw2).trans z6
                have y7 := (World.cell?_of_block (a := ⟨G', o' + j * 4 + 3, none⟩) hw2).trans z7
                simp only at y0 y1 y2 y3 y4 y5 y6 y7
                have jI : (j : Int) < (M : Int) := by omega
                have j0I : (0 : Int) ≤ (j : Int) := by omega
                have HLE := hid (show lkE (ls.getD j lk0) (ls'.getD j lk0) = decide (a = a' ∧ p = p' ∧ b = b' ∧ q = q') by
                  rw [getD_at hx, getD_at hy]; rfl)
                have hNE : ∀ w : World, (binOp .neq 83 (.agg #[.int .i64 a, .string (tx p), .int .i64 b, .string (tx q)]) (.agg #[.int .i64 a', .string (tx p'), .int .i64 b', .string (tx q')])).run Tryz.prog w = .ok (.bool (!decide (a = a' ∧ p = p' ∧ b = b' ∧ q = q'))) w := fun w => lkNeJ a a' b b' p p' q q' w
                obtain ⟨bl, hbl⟩ : ∃ bl, bl = decide (a = a' ∧ p = p' ∧ b = b' ∧ q = q') := ⟨_, rfl⟩
                rw [← hbl] at HLE
                simp only [← hbl] at hNE
                clear z0 z1 z2 z3 z4 z5 z6 z7 hx hy hgc hgc' hw1 hw2 hbl
                cases bl with
                | false =>
                  have HE := hid (show sameT wd (ds.map (·.1)) ls wd (ds'.map (·.1)) ls' = false by
                    rw [HSS.out, HA1.out, allN_false hlt HLE.out]; rfl)
                  simp only [Bool.not_false] at hNE
                  go_wp2_with fail
                  go_quiet (fail)
                  go_wp2
                  go_ret
                  exact ⟨by rw [HE.out]; rfl, below_drewN hJ.out.below⟩
                | true =>
                  have HA2 := hid (show ∀ i, i < j + 1 → lkE (ls.getD i lk0) (ls'.getD i lk0) = true from fun i hi => by
                    by_cases e : i = j
                    · rw [e]; exact HLE.out
                    · exact hA.out i (by omega))
                  have HJ3 := hid (fun n => hJ.out.on (w' := wz.drewN n) ⟨rfl, rfl, rfl, Nat.le_refl _, fun _ _ => rfl⟩)
                  simp only [Bool.not_true] at hNE
                  go_wp2_with fail
                  go_quiet (fail)
                  go_wp2
                  go_roundw
                  case rel => exact ⟨j + 1, by omega, by go_num, hid (HJ3.out _), HA2⟩
                  case measure => simp [intOf]; omega
              · have HE := hid (show sameT wd (ds.map (·.1)) ls wd (ds'.map (·.1)) ls' = true by
                  rw [HSS.out, HA1.out, allN_iff.2 fun i hi => hA.out i (by omega)]; rfl)
                go_wp2
                go_ret
                exact ⟨by rw [HE.out]; rfl, hJ.out.below⟩
end Go.Proofs.YtkepgjijidebhaaGreatDoor
namespace Go.Proofs.YtkepgjijidebhaaGreatDoor
open Go.RowKit
open Wo (Wd)

/-- A link with its numbers as they stand in memory. -/
def lkz (l : To.Lk) : LkZ := ((l.a : Int), l.p, (l.b : Int), l.q)
theorem own_lkv {w : World} {B : Nat} {v : Value} {ls : List To.Lk} (h : w.ownsRow B 83 4 v ls.length (flatL ls)) : LkV w v (ls.map lkz) := by
  obtain ⟨ao, cap, rfl⟩ := own_formJ h
  refine ⟨ao, cap, by rw [List.length_map], ?_⟩
  by_cases h0 : ls = []
  · left; rw [h0]; rfl
  · right
    obtain ⟨g, hg⟩ : ∃ g, ao = some ⟨g, 0, none⟩ := by
      obtain ⟨-, ⟨h1, h2⟩ | ⟨g, cap', cur, h1, -⟩⟩ := h
      · exact absurd (List.eq_nil_of_length_eq_zero h2) h0
      · injection h1 with h1; exact ⟨g, h1⟩
    subst hg
    refine ⟨g, 0, rfl, (h.lt g rfl).2, fun i q hq => ?_⟩
    rw [List.getElem?_map, Option.map_eq_some_iff] at hq
    obtain ⟨l, hl, rfl⟩ := hq
    have := (own_atL h hl rfl).1
    simpa [lkz] using this
theorem allN_refl {n : Nat} {f : Nat → Bool} (h : ∀ i, i < n → f i = true) : allN n f = true := allN_iff.2 h
theorem sameT_refl (wd : Int) (ds : List To.Dv) (ls : List LkZ) : sameT wd ds ls wd ds ls = true := by
  unfold sameT
  rw [decide_eq_true rfl, decide_eq_true rfl, decide_eq_true rfl, allN_refl fun i _ => by unfold dvE; simp, allN_refl fun i _ => by unfold lkE; simp]
  rfl
/-- Both topologies of one text are one. -/
theorem two_topos {t : TSt} {vs vs2 ds1 ds2 : List (To.Dv × Value × Value)} {ns : List Dt.NmZ} {ls1 ls2 : List To.Lk} (hok : TOk t) (hs : Sim t ns) (e1 : vs.map (·.1) = t.ds) (e2 : vs2.map (·.1) = t.ds) (p1 : ds1.Perm vs) (p2 : ds2.Perm vs2) (o1 : ds1.Pairwise fun a b => ¬ b.1.name < a.1.name) (o2 : ds2.Pairwise fun a b => ¬ b.1.name < a.1.name) (q1 : ls1.Perm (t.ls.map (renL (posF vs ds1)))) (q2 : ls2.Perm (lksN (ds2.map (·.1.name)) ns)) (r1 : ls1.Pairwise fun a b => ¬ ocE b.a b.p a.a a.p < 0) (r2 : ls2.Pairwise fun a b => ¬ ocE b.a b.p a.a a.p < 0) : ds1.map (·.1) = ds2.map (·.1) ∧ ls1 = ls2 := by
  have hD := dvs_one hok.nd e1 e2 p1 p2 o1 o2
  refine ⟨hD, ?_⟩
  rw [hs.renamed e1 p1] at q1
  have hN : ds1.map (·.1.name) = ds2.map (·.1.name) := by
    have := congrArg (fun l : List To.Dv => l.map (·.name)) hD
    simp only [List.map_map] at this
    exact this
  rw [← hN] at q2
  have hnm : vs.map (·.1.name) = t.nms := by unfold TSt.nms; rw [← e1, List.map_map]; rfl
  have hm : ∀ y, y ∈ t.nms → y ∈ ds1.map (·.1.name) := fun y hy => by
    rw [← hnm] at hy
    exact (p1.map (fun q : To.Dv × Value × Value => q.1.name)).mem_iff.2 hy
  exact lks_one (hs.ends hm) q1 q2 r1 r2
theorem below_twoJ {w a b : World} (h : Below w.heap.size w a) (k : Below a.heap.size a b) : Below w.heap.size w b := h.trans (k.mono h.size)

set_option maxRecDepth 20000 in
set_option maxHeartbeats 4000000 in
theorem tparses_at (s t : ByteArray) (l : List UInt8) (w : World) (ht : t = tx l) (hl : l.length ≤ 1048576) (hs : (¬ 3000 < s.size ∧ t = s) ∨ (3000 < s.size ∧ t = s.extract 0 3000)) :
    Calls Tryz.prog 3 #[.string s] w fun e w' => e = .returned (.bool true) ∧ Below w.heap.size w w' := by
  have HAL := hid alive11
  have HP := hid (fun w' => oParse_any l w' hl)
  have HD := hid (fun w' => Dt.RParse11_any l w' hl)
  unfold PrsQ at HP
  unfold Dt.RPrsQ at HD
  rw [← ht] at HP HD
  obtain ⟨r, hr0⟩ : ∃ r, r = prsT l := ⟨_, rfl⟩
  rw [← hr0] at HP HD
  clear ht hl hr0
  rcases hs with ⟨h, rfl⟩ | ⟨h, rfl⟩
  · have hI : ¬ ((3000 : Int) < (t.size : Int)) := by omega
    go_enter Tryz.func3, Tryz.ntmps3
    go_wp2_with fail
    refine (HP.out _).mono ?_
    rintro en w1 ⟨hb1, ⟨f, hf, rfl⟩ | ⟨t, vs, ds1, ls1, c1, c2, hr, hok, hof, rfl, p1, p2, p3, p4, hd, hk⟩⟩
    · subst hf
      have HB1 := hid hb1
      obtain ⟨W1, hW1⟩ : ∃ W1, W1 = w1.alloc (topJ (.int .i64 0) (.slice none 0 0) (.slice none 0 0)) := ⟨_, rfl⟩
      obtain ⟨N1, hN1⟩ : ∃ N1, N1 = w1.heap.size := ⟨_, rfl⟩
      have HBW1 := hid (show Below w.heap.size w W1 from by rw [hW1]; exact hb1.alloc hb1.size _)
      have HT1 := hid (show W1.heap[N1]? = some (topJ (.int .i64 0) (.slice none 0 0) (.slice none 0 0)) from by rw [hW1, hN1]; exact new_0 _ _)
      clear hb1
      go_wp2_with fail
      rw [← hN1, ← hW1]
      clear hN1 hW1
      refine (HD.out _).mono ?_
      rintro en w2 ⟨hb2, ⟨f2, hf2, rfl⟩ | ⟨t2, vs2, ns, ds2, ls2, x1, x2, hr2, _⟩⟩
      case inr => cases hr2
      injection hf2 with hf2
      subst hf2
      obtain ⟨W2, hW2⟩ : ∃ W2, W2 = w2.alloc (topJ (.int .i64 0) (.slice none 0 0) (.slice none 0 0)) := ⟨_, rfl⟩
      obtain ⟨N2, hN2⟩ : ∃ N2, N2 = w2.heap.size := ⟨_, rfl⟩
      have h12 : W2.heap[N1]? = some (topJ (.int .i64 0) (.slice none 0 0) (.slice none 0 0)) := by
        have h1 := (hb2.block N1 (lt_of_block HT1.out)).trans HT1.out
        rw [hW2, Below.heap_alloc _ _ _ (lt_of_block h1)]; exact h1
      have h22 : W2.heap[N2]? = some (topJ (.int .i64 0) (.slice none 0 0) (.slice none 0 0)) := by rw [hW2, hN2]; exact new_0 _ _
      have HBW2 := hid (show Below w.heap.size w W2 from by
        have := below_twoJ HBW1.out hb2
        rw [hW2]; exact this.alloc this.size _)
      obtain ⟨s0, s1, s2⟩ := topJ_cells h12
      obtain ⟨t0, t1, t2⟩ := topJ_cells h22
      have HS := hid (fun (W : World) => RSameT_any (w := W) (wd := 0) (wd' := 0) (ds := []) (ds' := []) (ls := []) (ls' := []) (vd := .slice none 0 0) (vl := .slice none 0 0) (vd' := .slice none 0 0) (vl' := .slice none 0 0) ⟨⟨none, 0, rfl, .inl rfl⟩, fun q hq => by simp at hq, fun q hq => by simp at hq⟩ ⟨none, 0, rfl, .inl rfl⟩ ⟨⟨none, 0, rfl, .inl rfl⟩, fun q hq => by simp at hq, fun q hq => by simp at hq⟩ ⟨none, 0, rfl, .inl rfl⟩ (by simp) (by simp))
      rw [show sameT 0 (([] : List (To.Dv × Value × Value)).map (·.1)) [] 0 (([] : List (To.Dv × Value × Value)).map (·.1)) [] = true from sameT_refl _ _ _] at HS
      clear h12 h22 hb2 HP HD
      go_upto_region 5 with fail
      rw [← hN2, ← hW2]
      clear hN2 hW2
      go_wp2_with fail
      refine (HS.out _).mono ?_
      rintro en w3 ⟨rfl, hb3⟩
      have HB3 := hid (below_twoJ HBW2.out hb3)
      clear hb3 s0 s1 s2 t0 t1 t2
      go_wp2_with (first | (go_at_call 12; refine (HAL.out _).mono ?_; rintro e w9 ⟨rfl, hb9⟩))
      go_ret
      exact ⟨rfl, below_twoJ HB3.out hb9⟩
    · subst hr
      have HB1 := hid hb1
      obtain ⟨av, ac, h1⟩ := own_formJ hd.row
      obtain ⟨bv, bc, h2⟩ := own_formJ hk
      obtain ⟨n1, hn1⟩ : ∃ n1, n1 = ds1.length := ⟨_, rfl⟩
      obtain ⟨m1, hm1⟩ : ∃ m1, m1 = ls1.length := ⟨_, rfl⟩
      rw [← hn1] at h1
      rw [← hm1] at h2
      subst h1; subst h2
      have HX1 := hid (show DvL w1 (.slice av n1 ac) ds1 ∧ LkV w1 (.slice bv m1 bc) (ls1.map lkz) from ⟨hd.lies, own_lkv hk⟩)
      have HY1 := hid (show ds1.Perm vs ∧ ds1.Pairwise (fun a b => ¬ b.1.name < a.1.name) ∧ ls1.Perm (t.ls.map (renL (posF vs ds1))) ∧ ls1.Pairwise (fun a b => ¬ ocE b.a b.p a.a a.p < 0) from ⟨p1, p2, p3, p4.imp (fun h => by first | exact h | exact Int.not_lt.2 h)⟩)
      have HOK := hid hok
      have HOF := hid hof
      obtain ⟨W1, hW1⟩ : ∃ W1, W1 = w1.alloc (topJ (.int .i64 t.wid) (.slice av n1 ac) (.slice bv m1 bc)) := ⟨_, rfl⟩
      obtain ⟨N1, hN1⟩ : ∃ N1, N1 = w1.heap.size := ⟨_, rfl⟩
      have HA1 := hid (show Below w1.heap.size w1 W1 from by rw [hW1]; exact (Below.refl _ _).alloc (Nat.le_refl _) _)
      have HBW1 := hid (show Below w.heap.size w W1 from by rw [hW1]; exact hb1.alloc hb1.size _)
      have HT1 := hid (show W1.heap[N1]? = some (topJ (.int .i64 t.wid) (.slice av n1 ac) (.slice bv m1 bc)) from by rw [hW1, hN1]; exact new_0 _ _)
      clear hb1 p1 p2 p3 p4 hd hk hok hof hn1 hm1
      go_wp2_with fail
      rw [← hN1, ← hW1]
      clear hN1 hW1
      refine (HD.out _).mono ?_
      rintro en w2 ⟨hb2, ⟨f2, hf2, _⟩ | ⟨t2, vs2, ns, ds2, ls2, x1, x2, hr2, hok2, hsim, hof2, rfl, q1, q2, q3, q4, hd2, hk2⟩⟩
      case inl => cases hf2
      injection hr2 with hr2
      subst hr2
      obtain ⟨cv, cc, h1⟩ := own_formJ hd2.row
      obtain ⟨dv, dc, h2⟩ := own_formJ hk2
      obtain ⟨n2, hn2⟩ : ∃ n2, n2 = ds2.length := ⟨_, rfl⟩
      obtain ⟨m2, hm2⟩ : ∃ m2, m2 = ls2.length := ⟨_, rfl⟩
      rw [← hn2] at h1
      rw [← hm2] at h2
      subst h1; subst h2
      obtain ⟨HED, HEL⟩ := two_topos HOK.out hsim HOF.out hof2 HY1.out.1 q1 HY1.out.2.1 q2 HY1.out.2.2.1 q3 (HY1.out.2.2.2.imp (fun h => by first | exact h | exact Int.not_lt.2 h)) (q4.imp (fun h => by first | exact h | exact Int.not_lt.2 h))
      obtain ⟨W2, hW2⟩ : ∃ W2, W2 = w2.alloc (topJ (.int .i64 t.wid) (.slice cv n2 cc) (.slice dv m2 dc)) := ⟨_, rfl⟩
      obtain ⟨N2, hN2⟩ : ∃ N2, N2 = w2.heap.size := ⟨_, rfl⟩
      have h12 : W2.heap[N1]? = some (topJ (.int .i64 t.wid) (.slice av n1 ac) (.slice bv m1 bc)) := by
        have h1 := (hb2.block N1 (lt_of_block HT1.out)).trans HT1.out
        rw [hW2, Below.heap_alloc _ _ _ (lt_of_block h1)]; exact h1
      have h22 : W2.heap[N2]? = some (topJ (.int .i64 t.wid) (.slice cv n2 cc) (.slice dv m2 dc)) := by rw [hW2, hN2]; exact new_0 _ _
      have HA2 : Below w2.heap.size w2 W2 := by rw [hW2]; exact (Below.refl _ _).alloc (Nat.le_refl _) _
      have HBW2 := hid (show Below w.heap.size w W2 from by
        have := below_twoJ HBW1.out hb2
        rw [hW2]; exact this.alloc this.size _)
      obtain ⟨s0, s1, s2⟩ := topJ_cells h12
      obtain ⟨t0, t1, t2⟩ := topJ_cells h22
      have HS := hid (by
        have h1 := RSameT_any (w := W2) (wd := (t.wid : Int)) (wd' := (t.wid : Int)) (((HX1.out.1.below HA1.out).below hb2).below HA2) (((HX1.out.2.below HA1.out).below hb2).below HA2) (hd2.lies.below HA2) ((own_lkv hk2).below HA2) (by have := HY1.out.1.length_eq; have := HOK.out.dl; rw [← HOF.out, List.length_map] at this; unfold maxLen; omega) (by rw [List.length_map]; have h1 := HY1.out.2.2.1.length_eq; rw [List.length_map] at h1; have := HOK.out.ll; unfold maxLen; omega)
        rw [HED, HEL, sameT_refl] at h1
        exact h1 : Calls Tryz.prog 11 #[.agg #[.int .i64 t.wid, .slice av n1 ac, .slice bv m1 bc], .agg #[.int .i64 t.wid, .slice cv n2 cc, .slice dv m2 dc]] W2 fun e w' => e = .returned (.bool true) ∧ Below W2.heap.size W2 w')
      clear h12 h22 hb2 HP HD q1 q2 q3 q4 hd2 hk2 hok2 hsim hof2 hn2 hm2 HED HEL HA2
      go_upto_region 5 with fail
      rw [← hN2, ← hW2]
      clear hN2 hW2
      go_wp2_with fail
      refine HS.out.mono ?_
      rintro en w3 ⟨rfl, hb3⟩
      have HB3 := hid (below_twoJ HBW2.out hb3)
      clear hb3 s0 s1 s2 t0 t1 t2
      go_wp2_with (first | (go_at_call 12; refine (HAL.out _).mono ?_; rintro e w9 ⟨rfl, hb9⟩))
      go_ret
      exact ⟨rfl, below_twoJ HB3.out hb9⟩
  · have hI : (3000 : Int) < (s.size : Int) := by omega
    have hI2 : (3000 : Int) ≤ (s.size : Int) := by omega
    go_enter Tryz.func3, Tryz.ntmps3
    go_wp2_with fail
    refine (HP.out _).mono ?_
    rintro en w1 ⟨hb1, ⟨f, hf, rfl⟩ | ⟨t, vs, ds1, ls1, c1, c2, hr, hok, hof, rfl, p1, p2, p3, p4, hd, hk⟩⟩
    · subst hf
      have HB1 := hid hb1
      obtain ⟨W1, hW1⟩ : ∃ W1, W1 = w1.alloc (topJ (.int .i64 0) (.slice none 0 0) (.slice none 0 0)) := ⟨_, rfl⟩
      obtain ⟨N1, hN1⟩ : ∃ N1, N1 = w1.heap.size := ⟨_, rfl⟩
      have HBW1 := hid (show Below w.heap.size w W1 from by rw [hW1]; exact hb1.alloc hb1.size _)
      have HT1 := hid (show W1.heap[N1]? = some (topJ (.int .i64 0) (.slice none 0 0) (.slice none 0 0)) from by rw [hW1, hN1]; exact new_0 _ _)
      clear hb1
      go_wp2_with fail
      rw [← hN1, ← hW1]
      clear hN1 hW1
      refine (HD.out _).mono ?_
      rintro en w2 ⟨hb2, ⟨f2, hf2, rfl⟩ | ⟨t2, vs2, ns, ds2, ls2, x1, x2, hr2, _⟩⟩
      case inr => cases hr2
      injection hf2 with hf2
      subst hf2
      obtain ⟨W2, hW2⟩ : ∃ W2, W2 = w2.alloc (topJ (.int .i64 0) (.slice none 0 0) (.slice none 0 0)) := ⟨_, rfl⟩
      obtain ⟨N2, hN2⟩ : ∃ N2, N2 = w2.heap.size := ⟨_, rfl⟩
      have h12 : W2.heap[N1]? = some (topJ (.int .i64 0) (.slice none 0 0) (.slice none 0 0)) := by
        have h1 := (hb2.block N1 (lt_of_block HT1.out)).trans HT1.out
        rw [hW2, Below.heap_alloc _ _ _ (lt_of_block h1)]; exact h1
      have h22 : W2.heap[N2]? = some (topJ (.int .i64 0) (.slice none 0 0) (.slice none 0 0)) := by rw [hW2, hN2]; exact new_0 _ _
      have HBW2 := hid (show Below w.heap.size w W2 from by
        have := below_twoJ HBW1.out hb2
        rw [hW2]; exact this.alloc this.size _)
      obtain ⟨s0, s1, s2⟩ := topJ_cells h12
      obtain ⟨t0, t1, t2⟩ := topJ_cells h22
      have HS := hid (fun (W : World) => RSameT_any (w := W) (wd := 0) (wd' := 0) (ds := []) (ds' := []) (ls := []) (ls' := []) (vd := .slice none 0 0) (vl := .slice none 0 0) (vd' := .slice none 0 0) (vl' := .slice none 0 0) ⟨⟨none, 0, rfl, .inl rfl⟩, fun q hq => by simp at hq, fun q hq => by simp at hq⟩ ⟨none, 0, rfl, .inl rfl⟩ ⟨⟨none, 0, rfl, .inl rfl⟩, fun q hq => by simp at hq, fun q hq => by simp at hq⟩ ⟨none, 0, rfl, .inl rfl⟩ (by simp) (by simp))
      rw [show sameT 0 (([] : List (To.Dv × Value × Value)).map (·.1)) [] 0 (([] : List (To.Dv × Value × Value)).map (·.1)) [] = true from sameT_refl _ _ _] at HS
      clear h12 h22 hb2 HP HD
      go_upto_region 5 with fail
      rw [← hN2, ← hW2]
      clear hN2 hW2
      go_wp2_with fail
      refine (HS.out _).mono ?_
      rintro en w3 ⟨rfl, hb3⟩
      have HB3 := hid (below_twoJ HBW2.out hb3)
      clear hb3 s0 s1 s2 t0 t1 t2
      go_wp2_with (first | (go_at_call 12; refine (HAL.out _).mono ?_; rintro e w9 ⟨rfl, hb9⟩))
      go_ret
      exact ⟨rfl, below_twoJ HB3.out hb9⟩
    · subst hr
      have HB1 := hid hb1
      obtain ⟨av, ac, h1⟩ := own_formJ hd.row
      obtain ⟨bv, bc, h2⟩ := own_formJ hk
      obtain ⟨n1, hn1⟩ : ∃ n1, n1 = ds1.length := ⟨_, rfl⟩
      obtain ⟨m1, hm1⟩ : ∃ m1, m1 = ls1.length := ⟨_, rfl⟩
      rw [← hn1] at h1
      rw [← hm1] at h2
      subst h1; subst h2
      have HX1 := hid (show DvL w1 (.slice av n1 ac) ds1 ∧ LkV w1 (.slice bv m1 bc) (ls1.map lkz) from ⟨hd.lies, own_lkv hk⟩)
      have HY1 := hid (show ds1.Perm vs ∧ ds1.Pairwise (fun a b => ¬ b.1.name < a.1.name) ∧ ls1.Perm (t.ls.map (renL (posF vs ds1))) ∧ ls1.Pairwise (fun a b => ¬ ocE b.a b.p a.a a.p < 0) from ⟨p1, p2, p3, p4.imp (fun h => by first | exact h | exact Int.not_lt.2 h)⟩)
      have HOK := hid hok
      have HOF := hid hof
      obtain ⟨W1, hW1⟩ : ∃ W1, W1 = w1.alloc (topJ (.int .i64 t.wid) (.slice av n1 ac) (.slice bv m1 bc)) := ⟨_, rfl⟩
      obtain ⟨N1, hN1⟩ : ∃ N1, N1 = w1.heap.size := ⟨_, rfl⟩
      have HA1 := hid (show Below w1.heap.size w1 W1 from by rw [hW1]; exact (Below.refl _ _).alloc (Nat.le_refl _) _)
      have HBW1 := hid (show Below w.heap.size w W1 from by rw [hW1]; exact hb1.alloc hb1.size _)
      have HT1 := hid (show W1.heap[N1]? = some (topJ (.int .i64 t.wid) (.slice av n1 ac) (.slice bv m1 bc)) from by rw [hW1, hN1]; exact new_0 _ _)
      clear hb1 p1 p2 p3 p4 hd hk hok hof hn1 hm1
      go_wp2_with fail
      rw [← hN1, ← hW1]
      clear hN1 hW1
      refine (HD.out _).mono ?_
      rintro en w2 ⟨hb2, ⟨f2, hf2, _⟩ | ⟨t2, vs2, ns, ds2, ls2, x1, x2, hr2, hok2, hsim, hof2, rfl, q1, q2, q3, q4, hd2, hk2⟩⟩
      case inl => cases hf2
      injection hr2 with hr2
      subst hr2
      obtain ⟨cv, cc, h1⟩ := own_formJ hd2.row
      obtain ⟨dv, dc, h2⟩ := own_formJ hk2
      obtain ⟨n2, hn2⟩ : ∃ n2, n2 = ds2.length := ⟨_, rfl⟩
      obtain ⟨m2, hm2⟩ : ∃ m2, m2 = ls2.length := ⟨_, rfl⟩
      rw [← hn2] at h1
      rw [← hm2] at h2
      subst h1; subst h2
      obtain ⟨HED, HEL⟩ := two_topos HOK.out hsim HOF.out hof2 HY1.out.1 q1 HY1.out.2.1 q2 HY1.out.2.2.1 q3 (HY1.out.2.2.2.imp (fun h => by first | exact h | exact Int.not_lt.2 h)) (q4.imp (fun h => by first | exact h | exact Int.not_lt.2 h))
      obtain ⟨W2, hW2⟩ : ∃ W2, W2 = w2.alloc (topJ (.int .i64 t.wid) (.slice cv n2 cc) (.slice dv m2 dc)) := ⟨_, rfl⟩
      obtain ⟨N2, hN2⟩ : ∃ N2, N2 = w2.heap.size := ⟨_, rfl⟩
      have h12 : W2.heap[N1]? = some (topJ (.int .i64 t.wid) (.slice av n1 ac) (.slice bv m1 bc)) := by
        have h1 := (hb2.block N1 (lt_of_block HT1.out)).trans HT1.out
        rw [hW2, Below.heap_alloc _ _ _ (lt_of_block h1)]; exact h1
      have h22 : W2.heap[N2]? = some (topJ (.int .i64 t.wid) (.slice cv n2 cc) (.slice dv m2 dc)) := by rw [hW2, hN2]; exact new_0 _ _
      have HA2 : Below w2.heap.size w2 W2 := by rw [hW2]; exact (Below.refl _ _).alloc (Nat.le_refl _) _
      have HBW2 := hid (show Below w.heap.size w W2 from by
        have := below_twoJ HBW1.out hb2
        rw [hW2]; exact this.alloc this.size _)
      obtain ⟨s0, s1, s2⟩ := topJ_cells h12
      obtain ⟨t0, t1, t2⟩ := topJ_cells h22
      have HS := hid (by
        have h1 := RSameT_any (w := W2) (wd := (t.wid : Int)) (wd' := (t.wid : Int)) (((HX1.out.1.below HA1.out).below hb2).below HA2) (((HX1.out.2.below HA1.out).below hb2).below HA2) (hd2.lies.below HA2) ((own_lkv hk2).below HA2) (by have := HY1.out.1.length_eq; have := HOK.out.dl; rw [← HOF.out, List.length_map] at this; unfold maxLen; omega) (by rw [List.length_map]; have h1 := HY1.out.2.2.1.length_eq; rw [List.length_map] at h1; have := HOK.out.ll; unfold maxLen; omega)
        rw [HED, HEL, sameT_refl] at h1
        exact h1 : Calls Tryz.prog 11 #[.agg #[.int .i64 t.wid, .slice av n1 ac, .slice bv m1 bc], .agg #[.int .i64 t.wid, .slice cv n2 cc, .slice dv m2 dc]] W2 fun e w' => e = .returned (.bool true) ∧ Below W2.heap.size W2 w')
      clear h12 h22 hb2 HP HD q1 q2 q3 q4 hd2 hk2 hok2 hsim hof2 hn2 hm2 HED HEL HA2
      go_upto_region 5 with fail
      rw [← hN2, ← hW2]
      clear hN2 hW2
      go_wp2_with fail
      refine HS.out.mono ?_
      rintro en w3 ⟨rfl, hb3⟩
      have HB3 := hid (below_twoJ HBW2.out hb3)
      clear hb3 s0 s1 s2 t0 t1 t2
      go_wp2_with (first | (go_at_call 12; refine (HAL.out _).mono ?_; rintro e w9 ⟨rfl, hb9⟩))
      go_ret
      exact ⟨rfl, below_twoJ HB3.out hb9⟩

theorem tparses_any (s : ByteArray) (w : World) : Calls Tryz.prog 3 #[.string s] w fun e w' => e = .returned (.bool true) ∧ Below w.heap.size w w' := by
  by_cases h : 3000 < s.size
  · exact tparses_at s _ (s.data.toList.take 3000) w (by rw [Lib.extract_eq]; rfl) (by rw [List.length_take]; omega) (Or.inr ⟨h, rfl⟩)
  · exact tparses_at s s s.data.toList w (by unfold tx; rfl) (by rw [list_size]; omega) (Or.inl ⟨h, rfl⟩)
end Go.Proofs.YtkepgjijidebhaaGreatDoor
