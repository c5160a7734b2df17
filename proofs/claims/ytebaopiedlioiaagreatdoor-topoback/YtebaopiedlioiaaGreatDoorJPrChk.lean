/-
  The program's Check of a topology: exactly topB.
-/
import Derived.Test.YtebaopiedlioiaaGreatDoorJBkTAnd
import Derived.Test.YtebaopiedlioiaaGreatDoorBMapAnd
import Derived.Test.YtebaopiedlioiaaGreatDoorJDocNAnd
import Derived.Deep.DeepCutAuto
namespace Go.Proofs.YtebaopiedlioiaaGreatDoor
open Go.RowKit Go.Maps

theorem TpI.grown {w : World} {wd vd vl : Value} {W W' : World} {mb : Nat} (h : TpI w wd vd vl W) (hg : W.grownBy W' (some mb)) (hm : w.heap.size < mb) : TpI w wd vd vl W' :=
  ⟨(hg.block _ (lt_of_block h.top) (fun q => by injection q with q; omega)).trans h.top, ⟨hg.os.trans h.below.os, hg.tape.trans h.below.tape, hg.output.trans h.below.output, Nat.le_trans h.below.size hg.size, fun i hi => (hg.block i (Nat.lt_of_lt_of_le hi h.below.size) (fun q => by injection q with q; omega)).trans (h.below.block i hi)⟩⟩
/-- What stands while links are checked. -/
structure CkI (w : World) (wd vd vl : Value) (mb : Nat) (ks : List (Nat × List UInt8)) (W : World) : Prop where
  top : TpI w wd vd vl W
  tak : TakAt W mb ks
  low : w.heap.size < mb
theorem CkI.on {w : World} {wd vd vl : Value} {mb : Nat} {ks : List (Nat × List UInt8)} {W W' : World} (h : CkI w wd vd vl mb ks W) (hb : Below W.heap.size W W') : CkI w wd vd vl mb ks W' := ⟨h.top.on hb, h.tak.same (hb.block _ h.tak.lt), h.low⟩
/-- With both ends of a link in boxes. -/
structure EkI (w : World) (wd vd vl : Value) (mb : Nat) (ks : List (Nat × List UInt8)) (ab : Nat) (x : LkZ) (W : World) : Prop where
  ck : CkI w wd vd vl mb ks W
  ea : W.heap[ab]? = some (eob x.1 x.2.1)
  eb : W.heap[ab + 1]? = some (eob x.2.2.1 x.2.2.2)
  lt : mb < ab
theorem EkI.on {w : World} {wd vd vl : Value} {mb : Nat} {ks : List (Nat × List UInt8)} {ab : Nat} {x : LkZ} {W W' : World} (h : EkI w wd vd vl mb ks ab x W) (hb : Below W.heap.size W W') : EkI w wd vd vl mb ks ab x W' :=
  ⟨h.ck.on hb, (hb.block _ (lt_of_block h.ea)).trans h.ea, (hb.block _ (lt_of_block h.eb)).trans h.eb, h.lt⟩
theorem EkI.take {w : World} {wd vd vl : Value} {mb : Nat} {ks ks' : List (Nat × List UInt8)} {ab : Nat} {x : LkZ} {W W' : World} (h : EkI w wd vd vl mb ks ab x W) (hg : W.grownBy W' (some mb)) (ht : TakAt W' mb ks') : EkI w wd vd vl mb ks' ab x W' :=
  ⟨⟨h.ck.top.grown hg h.ck.low, ht, h.ck.low⟩, (hg.block _ (lt_of_block h.ea) (fun q => by injection q with q; have := h.lt; omega)).trans h.ea, (hg.block _ (lt_of_block h.eb) (fun q => by injection q with q; have := h.lt; omega)).trans h.eb, h.lt⟩
theorem EkI.cells {w : World} {wd vd vl : Value} {mb : Nat} {ks : List (Nat × List UInt8)} {ab : Nat} {a b : Int} {p q : List UInt8} {W : World} (h : EkI w wd vd vl mb ks ab (a, p, b, q) W) : W.cell? ⟨w.heap.size, 1, none⟩ = some vd ∧ (W.cell? ⟨ab, 0, none⟩ = some (.int .i64 a) ∧ W.cell? ⟨ab, 1, none⟩ = some (.string (tx p))) ∧ W.cell? ⟨ab + 1, 0, none⟩ = some (.int .i64 b) ∧ W.cell? ⟨ab + 1, 1, none⟩ = some (.string (tx q)) :=
  ⟨(topJ_cells h.ck.top.top).2.1, eob_cells h.ea, eob_cells h.eb⟩

set_option maxRecDepth 20000 in
set_option maxHeartbeats 8000000 in
theorem omayBe_any {w : World} {wd : Int} {vd vl : Value} {ds : List (To.Dv × Value × Value)} {ls : List LkZ} (hD : DvL w vd ds) (hL : LkV w vl ls) (hz : DvShort ds) :
    Calls Tryz.prog 41 #[.agg #[.int .i64 wd, vd, vl]] w fun e w' => e = .returned (.bool (topB wd (ds.map (·.1)) ls)) ∧ Below w.heap.size w w' := by
  obtain ⟨dv, dc, rfl, hdv⟩ := hD.form
  obtain ⟨lv, lc, rfl, hlv⟩ := hL.form
  have HZ := hid hz
  have HDV := hid hdv
  have HLV := hid hlv
  obtain ⟨N, hN⟩ : ∃ N, N = ds.length := ⟨_, rfl⟩
  obtain ⟨M, hM⟩ : ∃ M, M = ls.length := ⟨_, rfl⟩
  rw [← hN] at hD
  have HD := hid hD
  have HN := hid hN
  have HM := hid hM
  rw [← hN, ← hM]
  have HHD := hid (show ¬ (1 ≤ wd ∧ wd ≤ 128 ∧ 1 ≤ N ∧ N ≤ 256 ∧ M ≤ 4096) → topB wd (ds.map (·.1)) ls = false from fun q => topB_head (by rw [List.length_map, ← hN, ← hM]; exact q))
  have HB := hid (fun (o : Obj) => (show Below w.heap.size w (w.alloc o) from (Below.refl _ _).alloc (Nat.le_refl _) _))
  have HW := hid (oisWidth wd)
  clear hD hL hz hdv hlv hN hM
  by_cases q1 : 1 ≤ wd ∧ wd ≤ 128
  case neg =>
    have HE := hid (HHD.out (by omega))
    rw [decide_eq_false q1] at HW
    go_enter Tryz.func41, Tryz.ntmps41
    go_wp2_with fail
    refine (HW.out _).mono ?_
    rintro en w1 ⟨rfl, rfl⟩
    go_wp2
    go_ret
    exact ⟨by rw [HE.out]; rfl, HB.out _⟩
  have HW1 := hid q1
  rw [decide_eq_true q1] at HW
  clear q1
  by_cases q3 : N = 0
  · have HE := hid (HHD.out (by omega))
    subst q3
    go_enter Tryz.func41, Tryz.ntmps41
    go_wp2_with fail
    refine (HW.out _).mono ?_
    rintro en w1 ⟨rfl, rfl⟩
    go_wp2
    go_ret
    exact ⟨by rw [HE.out]; rfl, HB.out _⟩
  have d3 : decide ((N : Int) < 1) = false := decide_eq_false (by omega)
  by_cases q4 : (256 : Int) < (N : Int)
  · have HE := hid (HHD.out (by omega))
    go_enter Tryz.func41, Tryz.ntmps41
    go_wp2_with fail
    refine (HW.out _).mono ?_
    rintro en w1 ⟨rfl, rfl⟩
    go_wp2
    go_ret
    exact ⟨by rw [HE.out]; rfl, HB.out _⟩
  have d4 : decide ((256 : Int) < (N : Int)) = false := decide_eq_false q4
  by_cases q5 : (4096 : Int) < (M : Int)
  · have HE := hid (HHD.out (by omega))
    go_enter Tryz.func41, Tryz.ntmps41
    go_wp2_with fail
    refine (HW.out _).mono ?_
    rintro en w1 ⟨rfl, rfl⟩
    go_wp2
    go_ret
    exact ⟨by rw [HE.out]; rfl, HB.out _⟩
  have d5 : decide ((4096 : Int) < (M : Int)) = false := decide_eq_false q5
  have I0 := hid (show TpI w (.int .i64 wd) (.slice dv N dc) (.slice lv M lc) (w.alloc (topJ (.int .i64 wd) (.slice dv N dc) (.slice lv M lc))) from ⟨new_0 _ _, HB.out _⟩)
  have hM4 : M ≤ 4096 := by omega
  have hN4 : N ≤ 256 := by omega
  have HM4 := hid hM4
  have HN4 := hid hN4
  go_enter Tryz.func41, Tryz.ntmps41
  go_wp2_with fail
  refine (HW.out _).mono ?_
  rintro en w1 ⟨rfl, rfl⟩
  go_wp2_with fail
  clear d3 d4 d5 q4 q5
  go_loopw [35] (fun i wr => ∃ k : Nat, k ≤ N ∧ i = .int .i64 k ∧ Hid (TpI w (.int .i64 wd) (.slice dv N dc) (.slice lv M lc) wr) ∧ Hid (∀ i, i < k → dvB (ds.map (·.1)) i = true)) (fun i _ => N - (intOf i).toNat)
  case atStart => exact ⟨0, Nat.zero_le _, rfl, I0, hid fun i h => absurd h (Nat.not_lt_zero _)⟩
  case round =>
    obtain ⟨k, hk, rfl, hI, hA⟩ := hrel
    obtain ⟨t0, t1, t2⟩ := topJ_cells hI.out.top
    by_cases hlt : k < N
    · obtain ⟨⟨qd, uv, pv⟩, hq⟩ : ∃ z, ds[k]? = some z := ⟨_, List.getElem?_eq_getElem (by have := HN.out; omega)⟩
      obtain ⟨D, od, rfl, hDl, hdc⟩ := HDV.out.resolve_left (fun e => by rw [e] at hq; simp at hq)
      obtain ⟨hz1, hz2, hz3⟩ := HZ.out _ (List.mem_of_getElem? hq)
      obtain ⟨htc, hlc⟩ := HD.out.cls _ (List.mem_of_getElem? hq)
      obtain ⟨htp, hlp⟩ := HD.out.prt _ (List.mem_of_getElem? hq)
      simp only at hz1 hz2 hz3 htc hlc htp hlp
      obtain ⟨bd, hbd⟩ : ∃ b, b = ((Wo.nameB qd.name && nmsB 16 qd.cls) && nmsB 64 qd.prt) := ⟨_, rfl⟩
      have HDB := hid (show dvB (ds.map (·.1)) k = (bd && (decide (k = 0) || decide (((ds.map (·.1)).getD (k - 1) dv0).name < qd.name))) by
        unfold dvB
        rw [getD_at (show (ds.map (·.1))[k]? = some qd by rw [List.getElem?_map, hq]; rfl), hbd]
        simp only [Bool.and_assoc, Bool.and_comm, Bool.and_left_comm])
      have HDM := hid (fun (W : World) (hb : Below w.heap.size w W) => odeviceMayBe_any (htc.below hb) (htp.below hb) hz1 hz2 hz3 hlc hlp)
      rw [← hbd] at HDM
      clear hbd
      have hwD : wr.heap[D]? = w.heap[D]? := hI.out.below.block D hDl
      obtain ⟨z0, z1, z2⟩ := hdc k _ hq
      have y0 := (World.cell?_of_block (a := ⟨D, od + k * 3, none⟩) hwD).trans z0
      have y1 := (World.cell?_of_block (a := ⟨D, od + k * 3 + 1, none⟩) hwD).trans z1
      have y2 := (World.cell?_of_block (a := ⟨D, od + k * 3 + 2, none⟩) hwD).trans z2
      simp only at y0 y1 y2
      have kI : (k : Int) < (N : Int) := by omega
      have k0I : (0 : Int) ≤ (k : Int) := by omega
      obtain ⟨W5, hW5⟩ : ∃ W5, W5 = wr.alloc (dvOJ qd.name uv pv) := ⟨_, rfl⟩
      obtain ⟨kb, hkb⟩ : ∃ kb, kb = wr.heap.size := ⟨_, rfl⟩
      have hb5 : Below wr.heap.size wr W5 := by rw [hW5]; exact (Below.refl _ _).alloc (Nat.le_refl _) _
      have h5 : W5.heap[kb]? = some (dvOJ qd.name uv pv) := by rw [hW5, hkb]; exact new_0 _ _
      have HI5 := hid (hI.out.on hb5)
      have hwD5 : W5.heap[D]? = w.heap[D]? := HI5.out.below.block D hDl
      obtain ⟨ac, cc, hvc, -⟩ := id htc
      obtain ⟨ap, cp, hvp, -⟩ := id htp
      subst hvc; subst hvp
      obtain ⟨Lc, hLc⟩ : ∃ L, L = qd.cls.length := ⟨_, rfl⟩
      obtain ⟨Lp, hLp⟩ : ∃ L, L = qd.prt.length := ⟨_, rfl⟩
      rw [← hLc, ← hLp] at hW5 HDM h5
      rw [← hLc] at y1
      rw [← hLp] at y2
      have HSA := hid (fun (W : World) (hb : Below W5.heap.size W5 W) => (⟨dvOJ_cells ((hb.block _ (lt_of_block h5)).trans h5), (topJ_cells (HI5.out.on hb).top).2.1⟩ : (W.cell? ⟨kb, 0, none⟩ = some (.string (tx qd.name)) ∧ W.cell? ⟨kb, 1, none⟩ = some (.slice ac Lc cc) ∧ W.cell? ⟨kb, 2, none⟩ = some (.slice ap Lp cp)) ∧ W.cell? ⟨w.heap.size, 1, none⟩ = some (.slice (some ⟨D, od, none⟩) N dc)))
      have HDC := hid (fun (W : World) (hb : Below W5.heap.size W5 W) (t : Nat) (s : To.Dv × Value × Value) (hs : ds[t]? = some s) => (World.cell?_of_block (a := ⟨D, od + t * 3, none⟩) ((hb.block D (by have := HI5.out.below.size; omega)).trans hwD5)).trans (hdc t s hs).1)
      clear hb5 h5 z0 z1 z2 hwD hz1 hz2 hz3 htc hlc htp hlp hLc hLp hdc hwD5
      have HQ := hid hq
      clear hq
      go_upto_region 6 with fail
      rw [← hW5, ← hkb]
      clear hW5 hkb y0 y1 y2 t0 t1 t2
      go_cut [58] (fun c wx => c = .bool (!dvB (ds.map (·.1)) k) ∧ Hid (TpI w (.int .i64 wd) (.slice (some ⟨D, od, none⟩) N dc) (.slice lv M lc) wx))
      case first =>
        cases bd with
        | false =>
          have HE := hid (show dvB (ds.map (·.1)) k = false by rw [HDB.out]; rfl)
          refine wp_region_held_drew (S := (fun W => (W.cell? ⟨kb, 0, none⟩ = some (.string (tx qd.name)) ∧ W.cell? ⟨kb, 1, none⟩ = some (.slice ac Lc cc) ∧ W.cell? ⟨kb, 2, none⟩ = some (.slice ap Lp cp)) ∧ W.cell? ⟨w.heap.size, 1, none⟩ = some (.slice (some ⟨D, od, none⟩) N dc))) (by kernel_rfl) ?hSa0 (fun hHeld => ?_)
          case hSa0 => exact HSA.out _ (Below.refl _ _).drew
          refine tkH (i := 0) (v := ?va0) rfl (by kernel_rfl) (by kernel_rfl) (by kernel_rfl) (fun _ _ _ h => h) (by rfl) ?ya0 (by assumption) ?ra0
          case ya0 => (intro w hSw; (try dsimp only at hSw); go_simp; (try with_reducible rfl))
          (try simp only [Act.put, List.setIfInBounds_toArray, List.set_cons_zero, List.set_cons_succ])
          refine caH (i := 1) rfl (by kernel_rfl) (by rfl) (fun K hK => ?_)
          go_simp
          refine (HDM.out _ (HI5.out.below.trans ((Below.refl _ _).drew.mono HI5.out.below.size))).mono ?_
          rintro en w6 ⟨rfl, hb6⟩
          have B6 := hid (show Below W5.heap.size W5 w6 from (Below.refl _ _).drew.trans hb6)
          clear hb6
          refine hK.out _ _ (HSA.out _ B6.out) (fun hHeld => ?_)
          clear hK K
          (try simp only [Act.put, List.setIfInBounds_toArray, List.set_cons_zero, List.set_cons_succ])
          refine tkH (i := 2) (v := ?va2) rfl (by kernel_rfl) (by kernel_rfl) (by kernel_rfl) (fun _ _ _ h => h) (by rfl) ?ya2 (by assumption) ?ra2
          case ya2 => (intro w hSw; (try dsimp only at hSw); go_simp; (try with_reducible rfl))
          (try simp only [Act.put, List.setIfInBounds_toArray, List.set_cons_zero, List.set_cons_succ])
          refine tkH (i := 3) (v := ?va3) rfl (by kernel_rfl) (by kernel_rfl) (by kernel_rfl) (fun _ _ _ h => h) (by rfl) ?ya3 (by assumption) ?ra3
          case ya3 => (intro w hSw; (try dsimp only at hSw); go_simp; (try with_reducible rfl))
          (try simp only [Act.put, List.setIfInBounds_toArray, List.set_cons_zero, List.set_cons_succ])
          refine skH (i := 4) rfl (by kernel_rfl) (by kernel_rfl) (by kernel_rfl) (fun _ _ _ h => h) (by rfl) (by assumption) ?_
          (try simp only [Act.put, List.setIfInBounds_toArray, List.set_cons_zero, List.set_cons_succ])
          refine skH (i := 5) rfl (by kernel_rfl) (by kernel_rfl) (by kernel_rfl) (fun _ _ _ h => h) (by rfl) (by assumption) ?_
          (try simp only [Act.put, List.setIfInBounds_toArray, List.set_cons_zero, List.set_cons_succ])
          refine skH (i := 6) rfl (by kernel_rfl) (by kernel_rfl) (by kernel_rfl) (fun _ _ _ h => h) (by rfl) (by assumption) ?_
          (try simp only [Act.put, List.setIfInBounds_toArray, List.set_cons_zero, List.set_cons_succ])
          refine skH (i := 7) rfl (by kernel_rfl) (by kernel_rfl) (by kernel_rfl) (fun _ _ _ h => h) (by rfl) (by assumption) ?_
          (try simp only [Act.put, List.setIfInBounds_toArray, List.set_cons_zero, List.set_cons_succ])
          refine skH (i := 8) rfl (by kernel_rfl) (by kernel_rfl) (by kernel_rfl) (fun _ _ _ h => h) (by rfl) (by assumption) ?_
          (try simp only [Act.put, List.setIfInBounds_toArray, List.set_cons_zero, List.set_cons_succ])
          refine skH (i := 9) rfl (by kernel_rfl) (by kernel_rfl) (by kernel_rfl) (fun _ _ _ h => h) (by rfl) (by assumption) ?_
          (try simp only [Act.put, List.setIfInBounds_toArray, List.set_cons_zero, List.set_cons_succ])
          refine skH (i := 10) rfl (by kernel_rfl) (by kernel_rfl) (by kernel_rfl) (fun _ _ _ h => h) (by rfl) (by assumption) ?_
          (try simp only [Act.put, List.setIfInBounds_toArray, List.set_cons_zero, List.set_cons_succ])
          refine skH (i := 11) rfl (by kernel_rfl) (by kernel_rfl) (by kernel_rfl) (fun _ _ _ h => h) (by rfl) (by assumption) ?_
          (try simp only [Act.put, List.setIfInBounds_toArray, List.set_cons_zero, List.set_cons_succ])
          refine skH (i := 12) rfl (by kernel_rfl) (by kernel_rfl) (by kernel_rfl) (fun _ _ _ h => h) (by rfl) (by assumption) ?_
          (try simp only [Act.put, List.setIfInBounds_toArray, List.set_cons_zero, List.set_cons_succ])
          refine skH (i := 13) rfl (by kernel_rfl) (by kernel_rfl) (by kernel_rfl) (fun _ _ _ h => h) (by rfl) (by assumption) ?_
          (try simp only [Act.put, List.setIfInBounds_toArray, List.set_cons_zero, List.set_cons_succ])
          refine skH (i := 14) rfl (by kernel_rfl) (by kernel_rfl) (by kernel_rfl) (fun _ _ _ h => h) (by rfl) (by assumption) ?_
          (try simp only [Act.put, List.setIfInBounds_toArray, List.set_cons_zero, List.set_cons_succ])
          refine skH (i := 15) rfl (by kernel_rfl) (by kernel_rfl) (by kernel_rfl) (fun _ _ _ h => h) (by rfl) (by assumption) ?_
          (try simp only [Act.put, List.setIfInBounds_toArray, List.set_cons_zero, List.set_cons_succ])
          refine skH (i := 16) rfl (by kernel_rfl) (by kernel_rfl) (by kernel_rfl) (fun _ _ _ h => h) (by rfl) (by assumption) ?_
          (try simp only [Act.put, List.setIfInBounds_toArray, List.set_cons_zero, List.set_cons_succ])
          refine skH (i := 17) rfl (by kernel_rfl) (by kernel_rfl) (by kernel_rfl) (fun _ _ _ h => h) (by rfl) (by assumption) ?_
          (try simp only [Act.put, List.setIfInBounds_toArray, List.set_cons_zero, List.set_cons_succ])
          refine tkH (i := 18) (v := ?va18) rfl (by kernel_rfl) (by kernel_rfl) (by kernel_rfl) (fun _ _ _ h => h) (by rfl) ?ya18 (by assumption) ?ra18
          case ya18 => (intro w hSw; (try dsimp only at hSw); go_simp; (try with_reducible rfl))
          (try simp only [Act.put, List.setIfInBounds_toArray, List.set_cons_zero, List.set_cons_succ])
          refine wpAnyH_done (by kernel_rfl) ?_ _
          go_wp2_with fail
          go_meet
          exact ⟨by rw [HE.out]; rfl, hid (HI5.out.on B6.out)⟩
        | true =>
          by_cases q6 : k = 0
          · subst q6
            have HE := hid (show dvB (ds.map (·.1)) 0 = true by rw [HDB.out]; rfl)
            refine wp_region_held_drew (S := (fun W => (W.cell? ⟨kb, 0, none⟩ = some (.string (tx qd.name)) ∧ W.cell? ⟨kb, 1, none⟩ = some (.slice ac Lc cc) ∧ W.cell? ⟨kb, 2, none⟩ = some (.slice ap Lp cp)) ∧ W.cell? ⟨w.heap.size, 1, none⟩ = some (.slice (some ⟨D, od, none⟩) N dc))) (by kernel_rfl) ?hSb0 (fun hHeld => ?_)
            case hSb0 => exact HSA.out _ (Below.refl _ _).drew
            refine tkH (i := 0) (v := ?vb0) rfl (by kernel_rfl) (by kernel_rfl) (by kernel_rfl) (fun _ _ _ h => h) (by rfl) ?yb0 (by assumption) ?rb0
            case yb0 => (intro w hSw; (try dsimp only at hSw); go_simp; (try with_reducible rfl))
            (try simp only [Act.put, List.setIfInBounds_toArray, List.set_cons_zero, List.set_cons_succ])
            refine caH (i := 1) rfl (by kernel_rfl) (by rfl) (fun K hK => ?_)
            go_simp
            refine (HDM.out _ (HI5.out.below.trans ((Below.refl _ _).drew.mono HI5.out.below.size))).mono ?_
            rintro en w6 ⟨rfl, hb6⟩
            have B6 := hid (show Below W5.heap.size W5 w6 from (Below.refl _ _).drew.trans hb6)
            clear hb6
            refine hK.out _ _ (HSA.out _ B6.out) (fun hHeld => ?_)
            clear hK K
            (try simp only [Act.put, List.setIfInBounds_toArray, List.set_cons_zero, List.set_cons_succ])
            refine tkH (i := 2) (v := ?vb2) rfl (by kernel_rfl) (by kernel_rfl) (by kernel_rfl) (fun _ _ _ h => h) (by rfl) ?yb2 (by assumption) ?rb2
            case yb2 => (intro w hSw; (try dsimp only at hSw); go_simp; (try with_reducible rfl))
            (try simp only [Act.put, List.setIfInBounds_toArray, List.set_cons_zero, List.set_cons_succ])
            refine tkH (i := 3) (v := ?vb3) rfl (by kernel_rfl) (by kernel_rfl) (by kernel_rfl) (fun _ _ _ h => h) (by rfl) ?yb3 (by assumption) ?rb3
            case yb3 => (intro w hSw; (try dsimp only at hSw); go_simp; (try with_reducible rfl))
            (try simp only [Act.put, List.setIfInBounds_toArray, List.set_cons_zero, List.set_cons_succ])
            refine tkH (i := 4) (v := ?vb4) rfl (by kernel_rfl) (by kernel_rfl) (by kernel_rfl) (fun _ _ _ h => h) (by rfl) ?yb4 (by assumption) ?rb4
            case yb4 => (intro w hSw; (try dsimp only at hSw); go_simp; (try with_reducible rfl))
            (try simp only [Act.put, List.setIfInBounds_toArray, List.set_cons_zero, List.set_cons_succ])
            refine tkH (i := 5) (v := ?vb5) rfl (by kernel_rfl) (by kernel_rfl) (by kernel_rfl) (fun _ _ _ h => h) (by rfl) ?yb5 (by assumption) ?rb5
            case yb5 => (intro w hSw; (try dsimp only at hSw); go_simp; (try with_reducible rfl))
            (try simp only [Act.put, List.setIfInBounds_toArray, List.set_cons_zero, List.set_cons_succ])
            refine tkH (i := 6) (v := ?vb6) rfl (by kernel_rfl) (by kernel_rfl) (by kernel_rfl) (fun _ _ _ h => h) (by rfl) ?yb6 (by assumption) ?rb6
            case yb6 => (intro w hSw; (try dsimp only at hSw); go_simp; (try with_reducible rfl))
            (try simp only [Act.put, List.setIfInBounds_toArray, List.set_cons_zero, List.set_cons_succ])
            refine skH (i := 7) rfl (by kernel_rfl) (by kernel_rfl) (by kernel_rfl) (fun _ _ _ h => h) (by rfl) (by assumption) ?_
            (try simp only [Act.put, List.setIfInBounds_toArray, List.set_cons_zero, List.set_cons_succ])
            refine skH (i := 8) rfl (by kernel_rfl) (by kernel_rfl) (by kernel_rfl) (fun _ _ _ h => h) (by rfl) (by assumption) ?_
            (try simp only [Act.put, List.setIfInBounds_toArray, List.set_cons_zero, List.set_cons_succ])
            refine skH (i := 9) rfl (by kernel_rfl) (by kernel_rfl) (by kernel_rfl) (fun _ _ _ h => h) (by rfl) (by assumption) ?_
            (try simp only [Act.put, List.setIfInBounds_toArray, List.set_cons_zero, List.set_cons_succ])
            refine skH (i := 10) rfl (by kernel_rfl) (by kernel_rfl) (by kernel_rfl) (fun _ _ _ h => h) (by rfl) (by assumption) ?_
            (try simp only [Act.put, List.setIfInBounds_toArray, List.set_cons_zero, List.set_cons_succ])
            refine skH (i := 11) rfl (by kernel_rfl) (by kernel_rfl) (by kernel_rfl) (fun _ _ _ h => h) (by rfl) (by assumption) ?_
            (try simp only [Act.put, List.setIfInBounds_toArray, List.set_cons_zero, List.set_cons_succ])
            refine skH (i := 12) rfl (by kernel_rfl) (by kernel_rfl) (by kernel_rfl) (fun _ _ _ h => h) (by rfl) (by assumption) ?_
            (try simp only [Act.put, List.setIfInBounds_toArray, List.set_cons_zero, List.set_cons_succ])
            refine skH (i := 13) rfl (by kernel_rfl) (by kernel_rfl) (by kernel_rfl) (fun _ _ _ h => h) (by rfl) (by assumption) ?_
            (try simp only [Act.put, List.setIfInBounds_toArray, List.set_cons_zero, List.set_cons_succ])
            refine skH (i := 14) rfl (by kernel_rfl) (by kernel_rfl) (by kernel_rfl) (fun _ _ _ h => h) (by rfl) (by assumption) ?_
            (try simp only [Act.put, List.setIfInBounds_toArray, List.set_cons_zero, List.set_cons_succ])
            refine skH (i := 15) rfl (by kernel_rfl) (by kernel_rfl) (by kernel_rfl) (fun _ _ _ h => h) (by rfl) (by assumption) ?_
            (try simp only [Act.put, List.setIfInBounds_toArray, List.set_cons_zero, List.set_cons_succ])
            refine skH (i := 16) rfl (by kernel_rfl) (by kernel_rfl) (by kernel_rfl) (fun _ _ _ h => h) (by rfl) (by assumption) ?_
            (try simp only [Act.put, List.setIfInBounds_toArray, List.set_cons_zero, List.set_cons_succ])
            refine tkH (i := 17) (v := ?vb17) rfl (by kernel_rfl) (by kernel_rfl) (by kernel_rfl) (fun _ _ _ h => h) (by rfl) ?yb17 (by assumption) ?rb17
            case yb17 => (intro w hSw; (try dsimp only at hSw); go_simp; (try with_reducible rfl))
            (try simp only [Act.put, List.setIfInBounds_toArray, List.set_cons_zero, List.set_cons_succ])
            refine tkH (i := 18) (v := ?vb18) rfl (by kernel_rfl) (by kernel_rfl) (by kernel_rfl) (fun _ _ _ h => h) (by rfl) ?yb18 (by assumption) ?rb18
            case yb18 => (intro w hSw; (try dsimp only at hSw); go_simp; (try with_reducible rfl))
            (try simp only [Act.put, List.setIfInBounds_toArray, List.set_cons_zero, List.set_cons_succ])
            refine wpAnyH_done (by kernel_rfl) ?_ _
            go_wp2_with fail
            go_meet
            exact ⟨by rw [HE.out]; rfl, hid (HI5.out.on B6.out)⟩
          · obtain ⟨t, ht⟩ : ∃ t, k = t + 1 := ⟨k - 1, by omega⟩
            have q7 : 0 < k := by omega
            have q8 : (0 : Int) < (k : Int) := by omega
            have w1 : IntKind.i64.wrap ((k : Int) - 1) = (t : Int) := by rw [IntKind.wrap_i64]; omega
            obtain ⟨⟨qe, ue, ve⟩, he⟩ : ∃ z, ds[t]? = some z := ⟨_, List.getElem?_eq_getElem (by have := HN.out; omega)⟩
            have HFM := hid (show (decide (k = 0) || decide (((ds.map (·.1)).getD (k - 1) dv0).name < qd.name)) = decide (qe.name < qd.name) by
              rw [decide_eq_false q6, show k - 1 = t by omega, getD_at (show (ds.map (·.1))[t]? = some qe by rw [List.getElem?_map, he]; rfl)]; rfl)
            have tI : (t : Int) < (N : Int) := by omega
            have t0I : (0 : Int) ≤ (t : Int) := by omega
            clear q6 ht
            cases hless : Op.bytesLess qe.name qd.name with
            | true =>
              have HE := hid (show dvB (ds.map (·.1)) k = true by rw [HDB.out, HFM.out, ← bytesLess_eq, hless]; rfl)
              refine wp_region_held_drew (S := (fun W => ((W.cell? ⟨kb, 0, none⟩ = some (.string (tx qd.name)) ∧ W.cell? ⟨kb, 1, none⟩ = some (.slice ac Lc cc) ∧ W.cell? ⟨kb, 2, none⟩ = some (.slice ap Lp cp)) ∧ W.cell? ⟨w.heap.size, 1, none⟩ = some (.slice (some ⟨D, od, none⟩) N dc)) ∧ W.cell? ⟨D, od + t * 3, none⟩ = some (.string (tx qe.name)))) (by kernel_rfl) ?hSc0 (fun hHeld => ?_)
              case hSc0 => exact ⟨HSA.out _ (Below.refl _ _).drew, HDC.out _ (Below.refl _ _).drew t _ he⟩
              refine tkH (i := 0) (v := ?vc0) rfl (by kernel_rfl) (by kernel_rfl) (by kernel_rfl) (fun _ _ _ h => h) (by rfl) ?yc0 (by assumption) ?rc0
              case yc0 => (intro w hSw; (try dsimp only at hSw); go_simp; (try with_reducible rfl))
              (try simp only [Act.put, List.setIfInBounds_toArray, List.set_cons_zero, List.set_cons_succ])
              refine caH (i := 1) rfl (by kernel_rfl) (by rfl) (fun K hK => ?_)
              go_simp
              refine (HDM.out _ (HI5.out.below.trans ((Below.refl _ _).drew.mono HI5.out.below.size))).mono ?_
              rintro en w6 ⟨rfl, hb6⟩
              have B6 := hid (show Below W5.heap.size W5 w6 from (Below.refl _ _).drew.trans hb6)
              clear hb6
              refine hK.out _ _ (⟨HSA.out _ B6.out, HDC.out _ B6.out t _ he⟩) (fun hHeld => ?_)
              clear hK K
              (try simp only [Act.put, List.setIfInBounds_toArray, List.set_cons_zero, List.set_cons_succ])
              refine tkH (i := 2) (v := ?vc2) rfl (by kernel_rfl) (by kernel_rfl) (by kernel_rfl) (fun _ _ _ h => h) (by rfl) ?yc2 (by assumption) ?rc2
              case yc2 => (intro w hSw; (try dsimp only at hSw); go_simp; (try with_reducible rfl))
              (try simp only [Act.put, List.setIfInBounds_toArray, List.set_cons_zero, List.set_cons_succ])
              refine tkH (i := 3) (v := ?vc3) rfl (by kernel_rfl) (by kernel_rfl) (by kernel_rfl) (fun _ _ _ h => h) (by rfl) ?yc3 (by assumption) ?rc3
              case yc3 => (intro w hSw; (try dsimp only at hSw); go_simp; (try with_reducible rfl))
              (try simp only [Act.put, List.setIfInBounds_toArray, List.set_cons_zero, List.set_cons_succ])
              refine tkH (i := 4) (v := ?vc4) rfl (by kernel_rfl) (by kernel_rfl) (by kernel_rfl) (fun _ _ _ h => h) (by rfl) ?yc4 (by assumption) ?rc4
              case yc4 => (intro w hSw; (try dsimp only at hSw); go_simp; (try with_reducible rfl))
              (try simp only [Act.put, List.setIfInBounds_toArray, List.set_cons_zero, List.set_cons_succ])
              refine tkH (i := 5) (v := ?vc5) rfl (by kernel_rfl) (by kernel_rfl) (by kernel_rfl) (fun _ _ _ h => h) (by rfl) ?yc5 (by assumption) ?rc5
              case yc5 => (intro w hSw; (try dsimp only at hSw); go_simp; (try with_reducible rfl))
              (try simp only [Act.put, List.setIfInBounds_toArray, List.set_cons_zero, List.set_cons_succ])
              refine tkH (i := 6) (v := ?vc6) rfl (by kernel_rfl) (by kernel_rfl) (by kernel_rfl) (fun _ _ _ h => h) (by rfl) ?yc6 (by assumption) ?rc6
              case yc6 => (intro w hSw; (try dsimp only at hSw); go_simp; (try with_reducible rfl))
              (try simp only [Act.put, List.setIfInBounds_toArray, List.set_cons_zero, List.set_cons_succ])
              refine tkH (i := 7) (v := ?vc7) rfl (by kernel_rfl) (by kernel_rfl) (by kernel_rfl) (fun _ _ _ h => h) (by rfl) ?yc7 (by assumption) ?rc7
              case yc7 => (intro w hSw; (try dsimp only at hSw); go_simp; (try with_reducible rfl))
              (try simp only [Act.put, List.setIfInBounds_toArray, List.set_cons_zero, List.set_cons_succ])
              refine tkH (i := 8) (v := ?vc8) rfl (by kernel_rfl) (by kernel_rfl) (by kernel_rfl) (fun _ _ _ h => h) (by rfl) ?yc8 (by assumption) ?rc8
              case yc8 => (intro w hSw; (try dsimp only at hSw); go_simp; (try with_reducible rfl))
              (try simp only [Act.put, List.setIfInBounds_toArray, List.set_cons_zero, List.set_cons_succ])
              refine tkH (i := 9) (v := ?vc9) rfl (by kernel_rfl) (by kernel_rfl) (by kernel_rfl) (fun _ _ _ h => h) (by rfl) ?yc9 (by assumption) ?rc9
              case yc9 => (intro w hSw; (try dsimp only at hSw); go_simp; (try with_reducible rfl))
              (try simp only [Act.put, List.setIfInBounds_toArray, List.set_cons_zero, List.set_cons_succ])
              refine tkH (i := 10) (v := ?vc10) rfl (by kernel_rfl) (by kernel_rfl) (by kernel_rfl) (fun _ _ _ h => h) (by rfl) ?yc10 (by assumption) ?rc10
              case yc10 => (intro w hSw; (try dsimp only at hSw); go_simp; (try with_reducible rfl))
              (try simp only [Act.put, List.setIfInBounds_toArray, List.set_cons_zero, List.set_cons_succ])
              refine tkH (i := 11) (v := ?vc11) rfl (by kernel_rfl) (by kernel_rfl) (by kernel_rfl) (fun _ _ _ h => h) (by rfl) ?yc11 (by assumption) ?rc11
              case yc11 => (intro w hSw; (try dsimp only at hSw); go_simp; (try with_reducible rfl))
              (try simp only [Act.put, List.setIfInBounds_toArray, List.set_cons_zero, List.set_cons_succ])
              refine tkH (i := 12) (v := ?vc12) rfl (by kernel_rfl) (by kernel_rfl) (by kernel_rfl) (fun _ _ _ h => h) (by rfl) ?yc12 (by assumption) ?rc12
              case yc12 => (intro w hSw; (try dsimp only at hSw); go_simp; (try with_reducible rfl))
              (try simp only [Act.put, List.setIfInBounds_toArray, List.set_cons_zero, List.set_cons_succ])
              refine tkH (i := 13) (v := ?vc13) rfl (by kernel_rfl) (by kernel_rfl) (by kernel_rfl) (fun _ _ _ h => h) (by rfl) ?yc13 (by assumption) ?rc13
              case yc13 => (intro w hSw; (try dsimp only at hSw); go_simp; (try with_reducible rfl))
              (try simp only [Act.put, List.setIfInBounds_toArray, List.set_cons_zero, List.set_cons_succ])
              refine tkH (i := 14) (v := ?vc14) rfl (by kernel_rfl) (by kernel_rfl) (by kernel_rfl) (fun _ _ _ h => h) (by rfl) ?yc14 (by assumption) ?rc14
              case yc14 => (intro w hSw; (try dsimp only at hSw); go_simp; (try with_reducible rfl))
              (try simp only [Act.put, List.setIfInBounds_toArray, List.set_cons_zero, List.set_cons_succ])
              refine tkH (i := 15) (v := ?vc15) rfl (by kernel_rfl) (by kernel_rfl) (by kernel_rfl) (fun _ _ _ h => h) (by rfl) ?yc15 (by assumption) ?rc15
              case yc15 => (intro w hSw; (try dsimp only at hSw); go_simp; (try with_reducible rfl))
              (try simp only [Act.put, List.setIfInBounds_toArray, List.set_cons_zero, List.set_cons_succ])
              refine tkH (i := 16) (v := ?vc16) rfl (by kernel_rfl) (by kernel_rfl) (by kernel_rfl) (fun _ _ _ h => h) (by rfl) ?yc16 (by assumption) ?rc16
              case yc16 => (intro w hSw; (try dsimp only at hSw); go_simp; (try with_reducible rfl))
              (try simp only [Act.put, List.setIfInBounds_toArray, List.set_cons_zero, List.set_cons_succ])
              refine tkH (i := 17) (v := ?vc17) rfl (by kernel_rfl) (by kernel_rfl) (by kernel_rfl) (fun _ _ _ h => h) (by rfl) ?yc17 (by assumption) ?rc17
              case yc17 => (intro w hSw; (try dsimp only at hSw); go_simp; (try with_reducible rfl))
              (try simp only [Act.put, List.setIfInBounds_toArray, List.set_cons_zero, List.set_cons_succ])
              refine tkH (i := 18) (v := ?vc18) rfl (by kernel_rfl) (by kernel_rfl) (by kernel_rfl) (fun _ _ _ h => h) (by rfl) ?yc18 (by assumption) ?rc18
              case yc18 => (intro w hSw; (try dsimp only at hSw); go_simp; (try with_reducible rfl))
              (try simp only [Act.put, List.setIfInBounds_toArray, List.set_cons_zero, List.set_cons_succ])
              refine wpAnyH_done (by kernel_rfl) ?_ _
              go_wp2_with fail
              go_meet
              exact ⟨by rw [HE.out]; rfl, hid (HI5.out.on B6.out)⟩
            | false =>
              have HE := hid (show dvB (ds.map (·.1)) k = false by rw [HDB.out, HFM.out, ← bytesLess_eq, hless]; rfl)
              refine wp_region_held_drew (S := (fun W => ((W.cell? ⟨kb, 0, none⟩ = some (.string (tx qd.name)) ∧ W.cell? ⟨kb, 1, none⟩ = some (.slice ac Lc cc) ∧ W.cell? ⟨kb, 2, none⟩ = some (.slice ap Lp cp)) ∧ W.cell? ⟨w.heap.size, 1, none⟩ = some (.slice (some ⟨D, od, none⟩) N dc)) ∧ W.cell? ⟨D, od + t * 3, none⟩ = some (.string (tx qe.name)))) (by kernel_rfl) ?hSd0 (fun hHeld => ?_)
              case hSd0 => exact ⟨HSA.out _ (Below.refl _ _).drew, HDC.out _ (Below.refl _ _).drew t _ he⟩
              refine tkH (i := 0) (v := ?vd0) rfl (by kernel_rfl) (by kernel_rfl) (by kernel_rfl) (fun _ _ _ h => h) (by rfl) ?yd0 (by assumption) ?rd0
              case yd0 => (intro w hSw; (try dsimp only at hSw); go_simp; (try with_reducible rfl))
              (try simp only [Act.put, List.setIfInBounds_toArray, List.set_cons_zero, List.set_cons_succ])
              refine caH (i := 1) rfl (by kernel_rfl) (by rfl) (fun K hK => ?_)
              go_simp
              refine (HDM.out _ (HI5.out.below.trans ((Below.refl _ _).drew.mono HI5.out.below.size))).mono ?_
              rintro en w6 ⟨rfl, hb6⟩
              have B6 := hid (show Below W5.heap.size W5 w6 from (Below.refl _ _).drew.trans hb6)
              clear hb6
              refine hK.out _ _ (⟨HSA.out _ B6.out, HDC.out _ B6.out t _ he⟩) (fun hHeld => ?_)
              clear hK K
              (try simp only [Act.put, List.setIfInBounds_toArray, List.set_cons_zero, List.set_cons_succ])
              refine tkH (i := 2) (v := ?vd2) rfl (by kernel_rfl) (by kernel_rfl) (by kernel_rfl) (fun _ _ _ h => h) (by rfl) ?yd2 (by assumption) ?rd2
              case yd2 => (intro w hSw; (try dsimp only at hSw); go_simp; (try with_reducible rfl))
              (try simp only [Act.put, List.setIfInBounds_toArray, List.set_cons_zero, List.set_cons_succ])
              refine tkH (i := 3) (v := ?vd3) rfl (by kernel_rfl) (by kernel_rfl) (by kernel_rfl) (fun _ _ _ h => h) (by rfl) ?yd3 (by assumption) ?rd3
              case yd3 => (intro w hSw; (try dsimp only at hSw); go_simp; (try with_reducible rfl))
              (try simp only [Act.put, List.setIfInBounds_toArray, List.set_cons_zero, List.set_cons_succ])
              refine tkH (i := 4) (v := ?vd4) rfl (by kernel_rfl) (by kernel_rfl) (by kernel_rfl) (fun _ _ _ h => h) (by rfl) ?yd4 (by assumption) ?rd4
              case yd4 => (intro w hSw; (try dsimp only at hSw); go_simp; (try with_reducible rfl))
              (try simp only [Act.put, List.setIfInBounds_toArray, List.set_cons_zero, List.set_cons_succ])
              refine tkH (i := 5) (v := ?vd5) rfl (by kernel_rfl) (by kernel_rfl) (by kernel_rfl) (fun _ _ _ h => h) (by rfl) ?yd5 (by assumption) ?rd5
              case yd5 => (intro w hSw; (try dsimp only at hSw); go_simp; (try with_reducible rfl))
              (try simp only [Act.put, List.setIfInBounds_toArray, List.set_cons_zero, List.set_cons_succ])
              refine tkH (i := 6) (v := ?vd6) rfl (by kernel_rfl) (by kernel_rfl) (by kernel_rfl) (fun _ _ _ h => h) (by rfl) ?yd6 (by assumption) ?rd6
              case yd6 => (intro w hSw; (try dsimp only at hSw); go_simp; (try with_reducible rfl))
              (try simp only [Act.put, List.setIfInBounds_toArray, List.set_cons_zero, List.set_cons_succ])
              refine tkH (i := 7) (v := ?vd7) rfl (by kernel_rfl) (by kernel_rfl) (by kernel_rfl) (fun _ _ _ h => h) (by rfl) ?yd7 (by assumption) ?rd7
              case yd7 => (intro w hSw; (try dsimp only at hSw); go_simp; (try with_reducible rfl))
              (try simp only [Act.put, List.setIfInBounds_toArray, List.set_cons_zero, List.set_cons_succ])
              refine tkH (i := 8) (v := ?vd8) rfl (by kernel_rfl) (by kernel_rfl) (by kernel_rfl) (fun _ _ _ h => h) (by rfl) ?yd8 (by assumption) ?rd8
              case yd8 => (intro w hSw; (try dsimp only at hSw); go_simp; (try with_reducible rfl))
              (try simp only [Act.put, List.setIfInBounds_toArray, List.set_cons_zero, List.set_cons_succ])
              refine tkH (i := 9) (v := ?vd9) rfl (by kernel_rfl) (by kernel_rfl) (by kernel_rfl) (fun _ _ _ h => h) (by rfl) ?yd9 (by assumption) ?rd9
              case yd9 => (intro w hSw; (try dsimp only at hSw); go_simp; (try with_reducible rfl))
              (try simp only [Act.put, List.setIfInBounds_toArray, List.set_cons_zero, List.set_cons_succ])
              refine tkH (i := 10) (v := ?vd10) rfl (by kernel_rfl) (by kernel_rfl) (by kernel_rfl) (fun _ _ _ h => h) (by rfl) ?yd10 (by assumption) ?rd10
              case yd10 => (intro w hSw; (try dsimp only at hSw); go_simp; (try with_reducible rfl))
              (try simp only [Act.put, List.setIfInBounds_toArray, List.set_cons_zero, List.set_cons_succ])
              refine tkH (i := 11) (v := ?vd11) rfl (by kernel_rfl) (by kernel_rfl) (by kernel_rfl) (fun _ _ _ h => h) (by rfl) ?yd11 (by assumption) ?rd11
              case yd11 => (intro w hSw; (try dsimp only at hSw); go_simp; (try with_reducible rfl))
              (try simp only [Act.put, List.setIfInBounds_toArray, List.set_cons_zero, List.set_cons_succ])
              refine tkH (i := 12) (v := ?vd12) rfl (by kernel_rfl) (by kernel_rfl) (by kernel_rfl) (fun _ _ _ h => h) (by rfl) ?yd12 (by assumption) ?rd12
              case yd12 => (intro w hSw; (try dsimp only at hSw); go_simp; (try with_reducible rfl))
              (try simp only [Act.put, List.setIfInBounds_toArray, List.set_cons_zero, List.set_cons_succ])
              refine tkH (i := 13) (v := ?vd13) rfl (by kernel_rfl) (by kernel_rfl) (by kernel_rfl) (fun _ _ _ h => h) (by rfl) ?yd13 (by assumption) ?rd13
              case yd13 => (intro w hSw; (try dsimp only at hSw); go_simp; (try with_reducible rfl))
              (try simp only [Act.put, List.setIfInBounds_toArray, List.set_cons_zero, List.set_cons_succ])
              refine tkH (i := 14) (v := ?vd14) rfl (by kernel_rfl) (by kernel_rfl) (by kernel_rfl) (fun _ _ _ h => h) (by rfl) ?yd14 (by assumption) ?rd14
              case yd14 => (intro w hSw; (try dsimp only at hSw); go_simp; (try with_reducible rfl))
              (try simp only [Act.put, List.setIfInBounds_toArray, List.set_cons_zero, List.set_cons_succ])
              refine tkH (i := 15) (v := ?vd15) rfl (by kernel_rfl) (by kernel_rfl) (by kernel_rfl) (fun _ _ _ h => h) (by rfl) ?yd15 (by assumption) ?rd15
              case yd15 => (intro w hSw; (try dsimp only at hSw); go_simp; (try with_reducible rfl))
              (try simp only [Act.put, List.setIfInBounds_toArray, List.set_cons_zero, List.set_cons_succ])
              refine tkH (i := 16) (v := ?vd16) rfl (by kernel_rfl) (by kernel_rfl) (by kernel_rfl) (fun _ _ _ h => h) (by rfl) ?yd16 (by assumption) ?rd16
              case yd16 => (intro w hSw; (try dsimp only at hSw); go_simp; (try with_reducible rfl))
              (try simp only [Act.put, List.setIfInBounds_toArray, List.set_cons_zero, List.set_cons_succ])
              refine tkH (i := 17) (v := ?vd17) rfl (by kernel_rfl) (by kernel_rfl) (by kernel_rfl) (fun _ _ _ h => h) (by rfl) ?yd17 (by assumption) ?rd17
              case yd17 => (intro w hSw; (try dsimp only at hSw); go_simp; (try with_reducible rfl))
              (try simp only [Act.put, List.setIfInBounds_toArray, List.set_cons_zero, List.set_cons_succ])
              refine tkH (i := 18) (v := ?vd18) rfl (by kernel_rfl) (by kernel_rfl) (by kernel_rfl) (fun _ _ _ h => h) (by rfl) ?yd18 (by assumption) ?rd18
              case yd18 => (intro w hSw; (try dsimp only at hSw); go_simp; (try with_reducible rfl))
              (try simp only [Act.put, List.setIfInBounds_toArray, List.set_cons_zero, List.set_cons_succ])
              refine wpAnyH_done (by kernel_rfl) ?_ _
              go_wp2_with fail
              go_meet
              exact ⟨by rw [HE.out]; rfl, hid (HI5.out.on B6.out)⟩
      case rest =>
        obtain ⟨rfl, hI2⟩ := hcut
        clear HSA HDC HDM HDB
        cases hb : dvB (ds.map (·.1)) k with
        | false =>
          have HE := hid (show topB wd (ds.map (·.1)) ls = false from topB_dvs (by rw [List.length_map, ← HN.out]; exact hlt) hb)
          clear hb
          go_wp2
          go_ret
          exact ⟨by rw [HE.out]; rfl, hI2.out.below⟩
        | true =>
          have HA2 := hid (show ∀ i, i < k + 1 → dvB (ds.map (·.1)) i = true from fun i hi => by
            by_cases e : i = k
            · rw [e]; exact hb
            · exact hA.out i (by omega))
          clear hb
          go_wp2
          go_roundw
          case rel => exact ⟨k + 1, by omega, by go_num, hI2, HA2⟩
          case measure => simp [intOf]; omega
    · have hkN : k = N := by omega
      have hkI : ¬ (k : Int) < (N : Int) := by omega
      have HA1 := hid (show ∀ i, i < N → dvB (ds.map (·.1)) i = true from fun i hi => hA.out i (by omega))
      have HSH := hid (show ∀ (a : Int) (p : List UInt8), hasP (ds.map (·.1)) a p = true → p.length ≤ 64 ∧ a.toNat ≤ 256 from fun a p h => by
        have hb := hasP_bound h
        rw [List.length_map, ← HN.out] at hb
        refine ⟨?_, by have := HN4.out; omega⟩
        unfold hasP at h
        rw [if_pos hb.1] at h
        cases hd : (ds.map (·.1))[a.toNat]? with
        | none => rw [hd] at h; cases h
        | some d =>
          rw [hd] at h
          exact (dvB_ok hd (HA1.out _ (by omega))).prt p (List.contains_iff_mem.1 h))
      obtain ⟨mb, hmb⟩ : ∃ mb, mb = wr.heap.size := ⟨_, rfl⟩
      have J0 := hid (show CkI w (.int .i64 wd) (.slice dv N dc) (.slice lv M lc) mb (keysJ (ls.take 0)) (wr.alloc (.map #[] 0)) from ⟨hI.out.on ((Below.refl _ _).alloc (Nat.le_refl _) _), by rw [hmb, List.take_zero]; exact TakAt.new wr, by rw [hmb]; exact lt_of_block hI.out.top⟩)
      have HBM := hid (show Below wr.heap.size wr (wr.alloc (.map #[] 0)) from (Below.refl _ _).alloc (Nat.le_refl _) _)
      obtain ⟨s0, s1, s2⟩ := topJ_cells J0.out.top.top
      have hmm := @run_makeMap Tryz.prog
      clear hA hkN
      go_wp2_with fail
      rw [← hmb]
      clear hmm
      clear hmb t0 t1 t2 s0 s1 s2
      go_loopw [64] (fun i wz => ∃ j : Nat, j ≤ M ∧ i = .int .i64 j ∧ Hid (CkI w (.int .i64 wd) (.slice dv N dc) (.slice lv M lc) mb (keysJ (ls.take j)) wz) ∧ Hid (∀ i, i < j → lkB (ds.map (·.1)) ls i = true)) (fun i _ => M - (intOf i).toNat)
      case atStart => exact ⟨0, Nat.zero_le _, rfl, J0, hid fun i h => absurd h (Nat.not_lt_zero _)⟩
      case round =>
        obtain ⟨j, hj, rfl, hJ, hA⟩ := hrel
        rename World => wz
        obtain ⟨t0, t1, t2⟩ := topJ_cells hJ.out.top.top
        by_cases hlt2 : j < M
        · obtain ⟨⟨a, p, b, q⟩, hx⟩ : ∃ z, ls[j]? = some z := ⟨_, List.getElem?_eq_getElem (by have := HM.out; omega)⟩
          obtain ⟨G, o, rfl, hG, hc⟩ := HLV.out.resolve_left (fun e => by rw [e] at hx; simp at hx)
          have HX := hid hx
          have HIFF := hid (lkB_iff (ds := ds.map (·.1)) hx (fun i hi => hA.out i hi))
          have HFL := hid (show lkB (ds.map (·.1)) ls j = false → topB wd (ds.map (·.1)) ls = false from fun h => topB_lks (by rw [← HM.out]; exact hlt2) h)
          have hwG : ∀ W, Below wz.heap.size wz W → W.heap[G]? = w.heap[G]? := fun W hb => (hb.block G (by have := hJ.out.top.below.size; omega)).trans (hJ.out.top.below.block G hG)
          have hcl : ∀ W, Below wz.heap.size wz W → ∀ (i : Nat) (s : LkZ), ls[i]? = some s → W.cell? ⟨G, o + i * 4, none⟩ = some (.int .i64 s.1) ∧ W.cell? ⟨G, o + i * 4 + 1, none⟩ = some (.string (tx s.2.1)) ∧ W.cell? ⟨G, o + i * 4 + 2, none⟩ = some (.int .i64 s.2.2.1) ∧ W.cell? ⟨G, o + i * 4 + 3, none⟩ = some (.string (tx s.2.2.2)) := fun W hb i s hs => by
            obtain ⟨c0, c1, c2, c3⟩ := hc i s hs
            have e := hwG W hb
            exact ⟨(World.cell?_of_block (a := ⟨G, o + i * 4, none⟩) e).trans c0, (World.cell?_of_block (a := ⟨G, o + i * 4 + 1, none⟩) e).trans c1, (World.cell?_of_block (a := ⟨G, o + i * 4 + 2, none⟩) e).trans c2, (World.cell?_of_block (a := ⟨G, o + i * 4 + 3, none⟩) e).trans c3⟩
          have HCL := hid hcl
          obtain ⟨y0, y1, y2, y3⟩ := hcl wz (Below.refl _ _) j _ hx
          simp only at y0 y1 y2 y3
          have jI : (j : Int) < (M : Int) := by omega
          have j0I : (0 : Int) ≤ (j : Int) := by omega
          obtain ⟨W1, hW1⟩ : ∃ W1, W1 = wz.alloc (lkO (a, p, b, q)) := ⟨_, rfl⟩
          obtain ⟨lb, hlb⟩ : ∃ lb, lb = wz.heap.size := ⟨_, rfl⟩
          have hb1 : Below wz.heap.size wz W1 := by rw [hW1]; exact (Below.refl _ _).alloc (Nat.le_refl _) _
          have h1 : W1.heap[lb]? = some (lkO (a, p, b, q)) := by rw [hW1, hlb]; exact new_0 _ _
          have HB1 := hid hb1
          have H1 := hid h1
          have HJ1 := hid (hJ.out.on hb1)
          clear hx hwG hcl hc hb1 h1
          have HUP := hid (show ∀ W, Below W1.heap.size W1 W → Below wz.heap.size wz W from fun W hb => HB1.out.trans (hb.mono HB1.out.size))
          have HSL := hid (fun (W : World) (hb : Below W1.heap.size W1 W) => (⟨(topJ_cells (HJ1.out.on hb).top.top).2.2, lkO_cells ((hb.block _ (lt_of_block H1.out)).trans H1.out)⟩ : W.cell? ⟨w.heap.size, 2, none⟩ = some (.slice (some ⟨G, o, none⟩) M lc) ∧ W.cell? ⟨lb, 0, none⟩ = some (.int .i64 a) ∧ W.cell? ⟨lb, 1, none⟩ = some (.string (tx p)) ∧ W.cell? ⟨lb, 2, none⟩ = some (.int .i64 b) ∧ W.cell? ⟨lb, 3, none⟩ = some (.string (tx q))))
          go_upto_region 13 with fail
          rw [← hW1, ← hlb]
          clear hW1 hlb y0 y1 y2 y3 t0 t1 t2
          go_cut [81] (fun c wx => ∃ b1 : Bool, c = .bool b1 ∧ Hid (b1 = true → topB wd (ds.map (·.1)) ls = false) ∧ Hid (b1 = false → j = 0 ∨ ocE (ls.getD (j - 1) lk0).1 (ls.getD (j - 1) lk0).2.1 a p < 0) ∧ Hid (Below W1.heap.size W1 wx))
          case first =>
            by_cases q6 : j = 0
            · subst q6
              refine wp_region_held_drew (S := (fun W => W.cell? ⟨w.heap.size, 2, none⟩ = some (.slice (some ⟨G, o, none⟩) M lc) ∧ W.cell? ⟨lb, 0, none⟩ = some (.int .i64 a) ∧ W.cell? ⟨lb, 1, none⟩ = some (.string (tx p)) ∧ W.cell? ⟨lb, 2, none⟩ = some (.int .i64 b) ∧ W.cell? ⟨lb, 3, none⟩ = some (.string (tx q)))) (by kernel_rfl) ?hSe0 (fun hHeld => ?_)
              case hSe0 => exact HSL.out _ (Below.refl _ _).drew
              refine tkH (i := 0) (v := ?ve0) rfl (by kernel_rfl) (by kernel_rfl) (by kernel_rfl) (fun _ _ _ h => h) (by rfl) ?ye0 (by assumption) ?re0
              case ye0 => (intro w hSw; (try dsimp only at hSw); go_simp; (try with_reducible rfl))
              (try simp only [Act.put, List.setIfInBounds_toArray, List.set_cons_zero, List.set_cons_succ])
              refine tkH (i := 1) (v := ?ve1) rfl (by kernel_rfl) (by kernel_rfl) (by kernel_rfl) (fun _ _ _ h => h) (by rfl) ?ye1 (by assumption) ?re1
              case ye1 => (intro w hSw; (try dsimp only at hSw); go_simp; (try with_reducible rfl))
              (try simp only [Act.put, List.setIfInBounds_toArray, List.set_cons_zero, List.set_cons_succ])
              refine tkH (i := 2) (v := ?ve2) rfl (by kernel_rfl) (by kernel_rfl) (by kernel_rfl) (fun _ _ _ h => h) (by rfl) ?ye2 (by assumption) ?re2
              case ye2 => (intro w hSw; (try dsimp only at hSw); go_simp; (try with_reducible rfl))
              (try simp only [Act.put, List.setIfInBounds_toArray, List.set_cons_zero, List.set_cons_succ])
              refine skH (i := 3) rfl (by kernel_rfl) (by kernel_rfl) (by kernel_rfl) (fun _ _ _ h => h) (by rfl) (by assumption) ?_
              (try simp only [Act.put, List.setIfInBounds_toArray, List.set_cons_zero, List.set_cons_succ])
              refine skH (i := 4) rfl (by kernel_rfl) (by kernel_rfl) (by kernel_rfl) (fun _ _ _ h => h) (by rfl) (by assumption) ?_
              (try simp only [Act.put, List.setIfInBounds_toArray, List.set_cons_zero, List.set_cons_succ])
              refine skH (i := 5) rfl (by kernel_rfl) (by kernel_rfl) (by kernel_rfl) (fun _ _ _ h => h) (by rfl) (by assumption) ?_
              (try simp only [Act.put, List.setIfInBounds_toArray, List.set_cons_zero, List.set_cons_succ])
              refine skH (i := 6) rfl (by kernel_rfl) (by kernel_rfl) (by kernel_rfl) (fun _ _ _ h => h) (by rfl) (by assumption) ?_
              (try simp only [Act.put, List.setIfInBounds_toArray, List.set_cons_zero, List.set_cons_succ])
              refine skH (i := 7) rfl (by kernel_rfl) (by kernel_rfl) (by kernel_rfl) (fun _ _ _ h => h) (by rfl) (by assumption) ?_
              (try simp only [Act.put, List.setIfInBounds_toArray, List.set_cons_zero, List.set_cons_succ])
              refine skH (i := 8) rfl (by kernel_rfl) (by kernel_rfl) (by kernel_rfl) (fun _ _ _ h => h) (by rfl) (by assumption) ?_
              (try simp only [Act.put, List.setIfInBounds_toArray, List.set_cons_zero, List.set_cons_succ])
              refine skH (i := 9) rfl (by kernel_rfl) (by kernel_rfl) (by kernel_rfl) (fun _ _ _ h => h) (by rfl) (by assumption) ?_
              (try simp only [Act.put, List.setIfInBounds_toArray, List.set_cons_zero, List.set_cons_succ])
              refine skH (i := 10) rfl (by kernel_rfl) (by kernel_rfl) (by kernel_rfl) (fun _ _ _ h => h) (by rfl) (by assumption) ?_
              (try simp only [Act.put, List.setIfInBounds_toArray, List.set_cons_zero, List.set_cons_succ])
              refine skH (i := 11) rfl (by kernel_rfl) (by kernel_rfl) (by kernel_rfl) (fun _ _ _ h => h) (by rfl) (by assumption) ?_
              (try simp only [Act.put, List.setIfInBounds_toArray, List.set_cons_zero, List.set_cons_succ])
              refine tkH (i := 12) (v := ?ve12) rfl (by kernel_rfl) (by kernel_rfl) (by kernel_rfl) (fun _ _ _ h => h) (by rfl) ?ye12 (by assumption) ?re12
              case ye12 => (intro w hSw; (try dsimp only at hSw); go_simp; (try with_reducible rfl))
              (try simp only [Act.put, List.setIfInBounds_toArray, List.set_cons_zero, List.set_cons_succ])
              refine wpAnyH_done (by kernel_rfl) ?_ _
              go_wp2_with fail
              go_meet
              exact ⟨false, rfl, hid (fun h => by cases h), hid (fun _ => Or.inl (by first | rfl | trivial)), hid (Below.refl _ _).drew⟩
            · obtain ⟨t, ht⟩ : ∃ t, j = t + 1 := ⟨j - 1, by omega⟩
              have q7 : 0 < j := by omega
              have q8 : (0 : Int) < (j : Int) := by omega
              have w1 : IntKind.i64.wrap ((j : Int) - 1) = (t : Int) := by rw [IntKind.wrap_i64]; omega
              obtain ⟨⟨ya, yp, yb, yq⟩, he⟩ : ∃ z, ls[t]? = some z := ⟨_, List.getElem?_eq_getElem (by have := HM.out; omega)⟩
              have HPV := hid (show ls.getD (j - 1) lk0 = (ya, yp, yb, yq) by rw [show j - 1 = t by omega]; exact getD_at he)
              have tI : (t : Int) < (M : Int) := by omega
              have t0I : (0 : Int) ≤ (t : Int) := by omega
              obtain ⟨cz, hcz⟩ : ∃ c, c = ocE ya yp a p := ⟨_, rfl⟩
              have HCZ := hid hcz
              have HCM := hid (fun (W : World) => ocompareLinks_any (w := W) (p := ya) (q := yb) (m := yp) (n := yq) (p' := a) (q' := b) (m' := p) (n' := q))
              rw [← hcz] at HCM
              have HQ6 := hid q6
              clear q6 ht hcz
              by_cases hneg : cz < 0
              · have hge : ¬ (0 : Int) ≤ cz := by omega
                have HNG := hid hneg
                refine wp_region_held_drew (S := (fun W => (W.cell? ⟨w.heap.size, 2, none⟩ = some (.slice (some ⟨G, o, none⟩) M lc) ∧ W.cell? ⟨lb, 0, none⟩ = some (.int .i64 a) ∧ W.cell? ⟨lb, 1, none⟩ = some (.string (tx p)) ∧ W.cell? ⟨lb, 2, none⟩ = some (.int .i64 b) ∧ W.cell? ⟨lb, 3, none⟩ = some (.string (tx q))) ∧ W.cell? ⟨G, o + t * 4, none⟩ = some (.int .i64 ya) ∧ W.cell? ⟨G, o + t * 4 + 1, none⟩ = some (.string (tx yp)) ∧ W.cell? ⟨G, o + t * 4 + 2, none⟩ = some (.int .i64 yb) ∧ W.cell? ⟨G, o + t * 4 + 3, none⟩ = some (.string (tx yq)))) (by kernel_rfl) ?hSf0 (fun hHeld => ?_)
                case hSf0 => exact ⟨HSL.out _ (Below.refl _ _).drew, HCL.out _ (HUP.out _ (Below.refl _ _).drew) t _ he⟩
                refine tkH (i := 0) (v := ?vf0) rfl (by kernel_rfl) (by kernel_rfl) (by kernel_rfl) (fun _ _ _ h => h) (by rfl) ?yf0 (by assumption) ?rf0
                case yf0 => (intro w hSw; (try dsimp only at hSw); go_simp; (try with_reducible rfl))
                (try simp only [Act.put, List.setIfInBounds_toArray, List.set_cons_zero, List.set_cons_succ])
                refine tkH (i := 1) (v := ?vf1) rfl (by kernel_rfl) (by kernel_rfl) (by kernel_rfl) (fun _ _ _ h => h) (by rfl) ?yf1 (by assumption) ?rf1
                case yf1 => (intro w hSw; (try dsimp only at hSw); go_simp; (try with_reducible rfl))
                (try simp only [Act.put, List.setIfInBounds_toArray, List.set_cons_zero, List.set_cons_succ])
                refine tkH (i := 2) (v := ?vf2) rfl (by kernel_rfl) (by kernel_rfl) (by kernel_rfl) (fun _ _ _ h => h) (by rfl) ?yf2 (by assumption) ?rf2
                case yf2 => (intro w hSw; (try dsimp only at hSw); go_simp; (try with_reducible rfl))
                (try simp only [Act.put, List.setIfInBounds_toArray, List.set_cons_zero, List.set_cons_succ])
                refine tkH (i := 3) (v := ?vf3) rfl (by kernel_rfl) (by kernel_rfl) (by kernel_rfl) (fun _ _ _ h => h) (by rfl) ?yf3 (by assumption) ?rf3
                case yf3 => (intro w hSw; (try dsimp only at hSw); go_simp; (try with_reducible rfl))
                (try simp only [Act.put, List.setIfInBounds_toArray, List.set_cons_zero, List.set_cons_succ])
                refine tkH (i := 4) (v := ?vf4) rfl (by kernel_rfl) (by kernel_rfl) (by kernel_rfl) (fun _ _ _ h => h) (by rfl) ?yf4 (by assumption) ?rf4
                case yf4 => (intro w hSw; (try dsimp only at hSw); go_simp; (try with_reducible rfl))
                (try simp only [Act.put, List.setIfInBounds_toArray, List.set_cons_zero, List.set_cons_succ])
                refine tkH (i := 5) (v := ?vf5) rfl (by kernel_rfl) (by kernel_rfl) (by kernel_rfl) (fun _ _ _ h => h) (by rfl) ?yf5 (by assumption) ?rf5
                case yf5 => (intro w hSw; (try dsimp only at hSw); go_simp; (try with_reducible rfl))
                (try simp only [Act.put, List.setIfInBounds_toArray, List.set_cons_zero, List.set_cons_succ])
                refine tkH (i := 6) (v := ?vf6) rfl (by kernel_rfl) (by kernel_rfl) (by kernel_rfl) (fun _ _ _ h => h) (by rfl) ?yf6 (by assumption) ?rf6
                case yf6 => (intro w hSw; (try dsimp only at hSw); go_simp; (try with_reducible rfl))
                (try simp only [Act.put, List.setIfInBounds_toArray, List.set_cons_zero, List.set_cons_succ])
                refine tkH (i := 7) (v := ?vf7) rfl (by kernel_rfl) (by kernel_rfl) (by kernel_rfl) (fun _ _ _ h => h) (by rfl) ?yf7 (by assumption) ?rf7
                case yf7 => (intro w hSw; (try dsimp only at hSw); go_simp; (try with_reducible rfl))
                (try simp only [Act.put, List.setIfInBounds_toArray, List.set_cons_zero, List.set_cons_succ])
                refine tkH (i := 8) (v := ?vf8) rfl (by kernel_rfl) (by kernel_rfl) (by kernel_rfl) (fun _ _ _ h => h) (by rfl) ?yf8 (by assumption) ?rf8
                case yf8 => (intro w hSw; (try dsimp only at hSw); go_simp; (try with_reducible rfl))
                (try simp only [Act.put, List.setIfInBounds_toArray, List.set_cons_zero, List.set_cons_succ])
                refine tkH (i := 9) (v := ?vf9) rfl (by kernel_rfl) (by kernel_rfl) (by kernel_rfl) (fun _ _ _ h => h) (by rfl) ?yf9 (by assumption) ?rf9
                case yf9 => (intro w hSw; (try dsimp only at hSw); go_simp; (try with_reducible rfl))
                (try simp only [Act.put, List.setIfInBounds_toArray, List.set_cons_zero, List.set_cons_succ])
                refine caH (i := 10) rfl (by kernel_rfl) (by rfl) (fun K hK => ?_)
                go_simp
                refine (HCM.out _).mono ?_
                rintro en w6 ⟨rfl, hb6⟩
                have B6 := hid (show Below W1.heap.size W1 w6 from (Below.refl _ _).drew.trans hb6)
                clear hb6
                refine hK.out _ _ (⟨HSL.out _ B6.out, HCL.out _ (HUP.out _ B6.out) t _ he⟩) (fun hHeld => ?_)
                clear hK K
                (try simp only [Act.put, List.setIfInBounds_toArray, List.set_cons_zero, List.set_cons_succ])
                refine tkH (i := 11) (v := ?vf11) rfl (by kernel_rfl) (by kernel_rfl) (by kernel_rfl) (fun _ _ _ h => h) (by rfl) ?yf11 (by assumption) ?rf11
                case yf11 => (intro w hSw; (try dsimp only at hSw); go_simp; (try with_reducible rfl))
                (try simp only [Act.put, List.setIfInBounds_toArray, List.set_cons_zero, List.set_cons_succ])
                refine tkH (i := 12) (v := ?vf12) rfl (by kernel_rfl) (by kernel_rfl) (by kernel_rfl) (fun _ _ _ h => h) (by rfl) ?yf12 (by assumption) ?rf12
                case yf12 => (intro w hSw; (try dsimp only at hSw); go_simp; (try with_reducible rfl))
                (try simp only [Act.put, List.setIfInBounds_toArray, List.set_cons_zero, List.set_cons_succ])
                refine wpAnyH_done (by kernel_rfl) ?_ _
                go_wp2_with fail
                go_meet
                exact ⟨false, rfl, hid (fun h => by cases h), hid (fun _ => Or.inr (by rw [HPV.out]; exact HCZ.out ▸ HNG.out)), B6⟩
              · have hge : (0 : Int) ≤ cz := by omega
                have HFF := hid (HFL.out (Bool.eq_false_iff.2 fun h => by
                  have h1 := (HIFF.out.1 h).1
                  rw [HPV.out] at h1
                  rcases h1 with h1 | h1
                  · exact HQ6.out h1
                  · exact hneg (by rw [HCZ.out]; exact h1)))
                refine wp_region_held_drew (S := (fun W => (W.cell? ⟨w.heap.size, 2, none⟩ = some (.slice (some ⟨G, o, none⟩) M lc) ∧ W.cell? ⟨lb, 0, none⟩ = some (.int .i64 a) ∧ W.cell? ⟨lb, 1, none⟩ = some (.string (tx p)) ∧ W.cell? ⟨lb, 2, none⟩ = some (.int .i64 b) ∧ W.cell? ⟨lb, 3, none⟩ = some (.string (tx q))) ∧ W.cell? ⟨G, o + t * 4, none⟩ = some (.int .i64 ya) ∧ W.cell? ⟨G, o + t * 4 + 1, none⟩ = some (.string (tx yp)) ∧ W.cell? ⟨G, o + t * 4 + 2, none⟩ = some (.int .i64 yb) ∧ W.cell? ⟨G, o + t * 4 + 3, none⟩ = some (.string (tx yq)))) (by kernel_rfl) ?hSg0 (fun hHeld => ?_)
                case hSg0 => exact ⟨HSL.out _ (Below.refl _ _).drew, HCL.out _ (HUP.out _ (Below.refl _ _).drew) t _ he⟩
                refine tkH (i := 0) (v := ?vg0) rfl (by kernel_rfl) (by kernel_rfl) (by kernel_rfl) (fun _ _ _ h => h) (by rfl) ?yg0 (by assumption) ?rg0
                case yg0 => (intro w hSw; (try dsimp only at hSw); go_simp; (try with_reducible rfl))
                (try simp only [Act.put, List.setIfInBounds_toArray, List.set_cons_zero, List.set_cons_succ])
                refine tkH (i := 1) (v := ?vg1) rfl (by kernel_rfl) (by kernel_rfl) (by kernel_rfl) (fun _ _ _ h => h) (by rfl) ?yg1 (by assumption) ?rg1
                case yg1 => (intro w hSw; (try dsimp only at hSw); go_simp; (try with_reducible rfl))
                (try simp only [Act.put, List.setIfInBounds_toArray, List.set_cons_zero, List.set_cons_succ])
                refine tkH (i := 2) (v := ?vg2) rfl (by kernel_rfl) (by kernel_rfl) (by kernel_rfl) (fun _ _ _ h => h) (by rfl) ?yg2 (by assumption) ?rg2
                case yg2 => (intro w hSw; (try dsimp only at hSw); go_simp; (try with_reducible rfl))
                (try simp only [Act.put, List.setIfInBounds_toArray, List.set_cons_zero, List.set_cons_succ])
                refine tkH (i := 3) (v := ?vg3) rfl (by kernel_rfl) (by kernel_rfl) (by kernel_rfl) (fun _ _ _ h => h) (by rfl) ?yg3 (by assumption) ?rg3
                case yg3 => (intro w hSw; (try dsimp only at hSw); go_simp; (try with_reducible rfl))
                (try simp only [Act.put, List.setIfInBounds_toArray, List.set_cons_zero, List.set_cons_succ])
                refine tkH (i := 4) (v := ?vg4) rfl (by kernel_rfl) (by kernel_rfl) (by kernel_rfl) (fun _ _ _ h => h) (by rfl) ?yg4 (by assumption) ?rg4
                case yg4 => (intro w hSw; (try dsimp only at hSw); go_simp; (try with_reducible rfl))
                (try simp only [Act.put, List.setIfInBounds_toArray, List.set_cons_zero, List.set_cons_succ])
                refine tkH (i := 5) (v := ?vg5) rfl (by kernel_rfl) (by kernel_rfl) (by kernel_rfl) (fun _ _ _ h => h) (by rfl) ?yg5 (by assumption) ?rg5
                case yg5 => (intro w hSw; (try dsimp only at hSw); go_simp; (try with_reducible rfl))
                (try simp only [Act.put, List.setIfInBounds_toArray, List.set_cons_zero, List.set_cons_succ])
                refine tkH (i := 6) (v := ?vg6) rfl (by kernel_rfl) (by kernel_rfl) (by kernel_rfl) (fun _ _ _ h => h) (by rfl) ?yg6 (by assumption) ?rg6
                case yg6 => (intro w hSw; (try dsimp only at hSw); go_simp; (try with_reducible rfl))
                (try simp only [Act.put, List.setIfInBounds_toArray, List.set_cons_zero, List.set_cons_succ])
                refine tkH (i := 7) (v := ?vg7) rfl (by kernel_rfl) (by kernel_rfl) (by kernel_rfl) (fun _ _ _ h => h) (by rfl) ?yg7 (by assumption) ?rg7
                case yg7 => (intro w hSw; (try dsimp only at hSw); go_simp; (try with_reducible rfl))
                (try simp only [Act.put, List.setIfInBounds_toArray, List.set_cons_zero, List.set_cons_succ])
                refine tkH (i := 8) (v := ?vg8) rfl (by kernel_rfl) (by kernel_rfl) (by kernel_rfl) (fun _ _ _ h => h) (by rfl) ?yg8 (by assumption) ?rg8
                case yg8 => (intro w hSw; (try dsimp only at hSw); go_simp; (try with_reducible rfl))
                (try simp only [Act.put, List.setIfInBounds_toArray, List.set_cons_zero, List.set_cons_succ])
                refine tkH (i := 9) (v := ?vg9) rfl (by kernel_rfl) (by kernel_rfl) (by kernel_rfl) (fun _ _ _ h => h) (by rfl) ?yg9 (by assumption) ?rg9
                case yg9 => (intro w hSw; (try dsimp only at hSw); go_simp; (try with_reducible rfl))
                (try simp only [Act.put, List.setIfInBounds_toArray, List.set_cons_zero, List.set_cons_succ])
                refine caH (i := 10) rfl (by kernel_rfl) (by rfl) (fun K hK => ?_)
                go_simp
                refine (HCM.out _).mono ?_
                rintro en w6 ⟨rfl, hb6⟩
                have B6 := hid (show Below W1.heap.size W1 w6 from (Below.refl _ _).drew.trans hb6)
                clear hb6
                refine hK.out _ _ (⟨HSL.out _ B6.out, HCL.out _ (HUP.out _ B6.out) t _ he⟩) (fun hHeld => ?_)
                clear hK K
                (try simp only [Act.put, List.setIfInBounds_toArray, List.set_cons_zero, List.set_cons_succ])
                refine tkH (i := 11) (v := ?vg11) rfl (by kernel_rfl) (by kernel_rfl) (by kernel_rfl) (fun _ _ _ h => h) (by rfl) ?yg11 (by assumption) ?rg11
                case yg11 => (intro w hSw; (try dsimp only at hSw); go_simp; (try with_reducible rfl))
                (try simp only [Act.put, List.setIfInBounds_toArray, List.set_cons_zero, List.set_cons_succ])
                refine tkH (i := 12) (v := ?vg12) rfl (by kernel_rfl) (by kernel_rfl) (by kernel_rfl) (fun _ _ _ h => h) (by rfl) ?yg12 (by assumption) ?rg12
                case yg12 => (intro w hSw; (try dsimp only at hSw); go_simp; (try with_reducible rfl))
                (try simp only [Act.put, List.setIfInBounds_toArray, List.set_cons_zero, List.set_cons_succ])
                refine wpAnyH_done (by kernel_rfl) ?_ _
                go_wp2_with fail
                go_meet
                exact ⟨true, rfl, hid (fun _ => HFF.out), hid (fun h => by cases h), B6⟩
          case rest =>
            obtain ⟨b1, rfl, hF, hT, hB⟩ := hcut
            have HJ2 := hid (HJ1.out.on hB.out)
            obtain ⟨-, x0, x1, x2, x3⟩ := HSL.out _ hB.out
            have HENC := hid (fun (W : World) => oendsOf_any (w := W) (p := a) (q := b) (m := p) (n := q))
            clear HSL HCL HUP H1 HB1
            cases b1 with
            | true =>
              have HE := hid (hF.out rfl)
              clear hF hT
              go_wp2
              go_ret
              exact ⟨by rw [HE.out]; rfl, HJ2.out.top.below⟩
            | false =>
              have HFST := hid (hT.out rfl)
              clear hF hT
              go_wp2_with fail
              refine (HENC.out _).mono ?_
              rintro en w3 ⟨rfl, hb3⟩
              have HJ3 := hid (HJ2.out.on hb3)
              clear hb3 x0 x1 x2 x3
              obtain ⟨W4, hW4⟩ : ∃ W4, W4 = (w3.alloc (eob a p)).alloc (eob b q) := ⟨_, rfl⟩
              obtain ⟨ab, hab⟩ : ∃ ab, ab = w3.heap.size := ⟨_, rfl⟩
              have E4 := hid (show EkI w (.int .i64 wd) (.slice dv N dc) (.slice (some ⟨G, o, none⟩) M lc) mb (keysJ (ls.take j)) ab (a, p, b, q) W4 from by
                have hb4 : Below w3.heap.size w3 W4 := by rw [hW4]; exact ((Below.refl _ _).alloc (Nat.le_refl _) _).alloc (by simp) _
                exact ⟨HJ3.out.on hb4, by rw [hW4, hab]; exact new_old _ _ (new_0 _ _), by rw [hW4, hab]; exact new_1 _ _ _, by rw [hab]; exact HJ3.out.tak.lt⟩)
              have HHP := hid (fun (W : World) (hb : Below w.heap.size w W) (i : Int) (m : List UInt8) => ohasPort_any (p := i) (m := m) (HD.out.below hb))
              have HKL := hid (show (keysJ (ls.take j)).length ≤ 8192 from by rw [keysJ_len, List.length_take]; have := HM4.out; omega)
              go_upto_region 16 with fail
              rw [← hW4, ← hab]
              clear hW4 hab HJ1 HJ2 HJ3
              obtain ⟨d1, ⟨a0, a1⟩, b0, b1⟩ := E4.out.cells
              have HPA := hid (HHP.out W4 E4.out.ck.top.below a p)
              cases hpa : hasP (ds.map (·.1)) a p with
              | false =>
                rw [hpa] at HPA
                have HE := hid (HFL.out (Bool.eq_false_iff.2 fun h => by have h1 := (HIFF.out.1 h).2.1; rw [hpa] at h1; cases h1))
                clear hpa
                go_wp2_with fail
                refine HPA.out.mono ?_
                rintro en w5 ⟨rfl, hb5⟩
                have E5 := hid (E4.out.on hb5)
                go_wp2
                go_ret
                exact ⟨by rw [HE.out]; rfl, E5.out.ck.top.below⟩
              | true =>
              rw [hpa] at HPA
              have HOA := hid hpa
              clear hpa
              go_wp2_with fail
              refine HPA.out.mono ?_
              rintro en w5 ⟨rfl, hb5⟩
              have E5 := hid (E4.out.on hb5)
              clear hb5 d1 a0 a1 b0 b1
              obtain ⟨d1, ⟨a0, a1⟩, b0, b1⟩ := E5.out.cells
              have HPB := hid (HHP.out w5 E5.out.ck.top.below b q)
              cases hpb : hasP (ds.map (·.1)) b q with
              | false =>
                rw [hpb] at HPB
                have HE := hid (HFL.out (Bool.eq_false_iff.2 fun h => by have h1 := (HIFF.out.1 h).2.2.1; rw [hpb] at h1; cases h1))
                clear hpb
                go_wp2_with fail
                refine HPB.out.mono ?_
                rintro en w6 ⟨rfl, hb6⟩
                have E6 := hid (E5.out.on hb6)
                go_wp2
                go_ret
                exact ⟨by rw [HE.out]; rfl, E6.out.ck.top.below⟩
              | true =>
              rw [hpb] at HPB
              have HOB := hid hpb
              clear hpb
              go_wp2_with fail
              refine HPB.out.mono ?_
              rintro en w6 ⟨rfl, hb6⟩
              have E6 := hid (E5.out.on hb6)
              clear hb6 d1 a0 a1 b0 b1
              obtain ⟨d1, ⟨a0, a1⟩, b0, b1⟩ := E6.out.cells
              obtain ⟨cz, hcz⟩ : ∃ c, c = ocE a p b q := ⟨_, rfl⟩
              have HCM := hid (show Calls Tryz.prog 78 #[.agg #[.int .i64 a, .string (tx p)], .agg #[.int .i64 b, .string (tx q)]] w6 fun e w' => e = .returned (.int .i64 cz) ∧ Below w6.heap.size w6 w' by rw [hcz]; exact ocompare_any)
              have HCZ := hid hcz
              clear hcz
              by_cases hneg : cz < 0
              case neg =>
                have hge : (0 : Int) ≤ cz := by omega
                have HE := hid (HFL.out (Bool.eq_false_iff.2 fun h => by have h1 := (HIFF.out.1 h).2.2.2.1; exact hneg (by rw [HCZ.out]; exact h1)))
                go_wp2_with fail
                refine HCM.out.mono ?_
                rintro en w7 ⟨rfl, hb7⟩
                have E7 := hid (E6.out.on hb7)
                go_wp2
                go_ret
                exact ⟨by rw [HE.out]; rfl, E7.out.ck.top.below⟩
              have hge : ¬ (0 : Int) ≤ cz := by omega
              have HNG := hid hneg
              go_wp2_with fail
              refine HCM.out.mono ?_
              rintro en w7 ⟨rfl, hb7⟩
              have E7 := hid (E6.out.on hb7)
              clear hb7 d1 a0 a1 b0 b1 hneg
              obtain ⟨an, han⟩ : ∃ n : Nat, a = (n : Int) := ⟨a.toNat, by have := (hasP_bound HOA.out).1; omega⟩
              obtain ⟨bn, hbn⟩ : ∃ n : Nat, b = (n : Int) := ⟨b.toNat, by have := (hasP_bound HOB.out).1; omega⟩
              subst han hbn
              obtain ⟨la, ga⟩ := HSH.out _ _ HOA.out
              obtain ⟨lb', gb⟩ := HSH.out _ _ HOB.out
              rw [Int.toNat_natCast] at ga gb
              have HTA := hid (otake E7.out.ck.tak an p (by omega) (by omega) (by have := HKL.out; omega))
              obtain ⟨d1, ⟨a0, a1⟩, b0, b1⟩ := E7.out.cells
              by_cases hka : (an, p) ∉ keysJ (ls.take j)
              case neg =>
                rw [decide_eq_false hka] at HTA
                have HE := hid (HFL.out (Bool.eq_false_iff.2 fun h => hka (by have h1 := (HIFF.out.1 h).2.2.2.2.1; rwa [Int.toNat_natCast] at h1)))
                go_wp2_with fail
                refine HTA.out.mono ?_
                rintro en w8 ⟨rfl, -, hg8⟩
                have HT8 := hid (E7.out.ck.top.grown hg8 E7.out.ck.low)
                go_wp2
                go_ret
                exact ⟨by rw [HE.out]; rfl, HT8.out.below⟩
              have HKA := hid hka
              rw [decide_eq_true hka] at HTA
              clear hka
              go_wp2_with fail
              refine HTA.out.mono ?_
              rintro en w8 ⟨rfl, ht8, hg8⟩
              have E8 := hid (E7.out.take hg8 (ht8 HKA.out))
              clear ht8 hg8 d1 a0 a1 b0 b1
              have HTB := hid (otake E8.out.ck.tak bn q (by omega) (by omega) (by rw [List.length_append]; have := HKL.out; simp; omega))
              obtain ⟨d1, ⟨a0, a1⟩, b0, b1⟩ := E8.out.cells
              by_cases hkb : (bn, q) ∉ keysJ (ls.take j) ++ [(an, p)]
              case neg =>
                rw [decide_eq_false hkb] at HTB
                have HE := hid (HFL.out (Bool.eq_false_iff.2 fun h => hkb (by have h1 := (HIFF.out.1 h).2.2.2.2.2; rwa [Int.toNat_natCast, Int.toNat_natCast] at h1)))
                go_wp2_with fail
                refine HTB.out.mono ?_
                rintro en w9 ⟨rfl, -, hg9⟩
                have HT9 := hid (E8.out.ck.top.grown hg9 E8.out.ck.low)
                go_wp2
                go_ret
                exact ⟨by rw [HE.out]; rfl, HT9.out.below⟩
              have HKB := hid hkb
              rw [decide_eq_true hkb] at HTB
              clear hkb
              have HA2 := hid (show ∀ i, i < j + 1 → lkB (ds.map (·.1)) ls i = true from fun i hi => by
                by_cases e : i = j
                · rw [e]
                  exact HIFF.out.2 ⟨HFST.out, HOA.out, HOB.out, by have := HNG.out; rw [HCZ.out] at this; exact this, by rw [Int.toNat_natCast]; exact HKA.out, by rw [Int.toNat_natCast, Int.toNat_natCast]; exact HKB.out⟩
                · exact hA.out i (by omega))
              go_wp2_with fail
              refine HTB.out.mono ?_
              rintro en w9 ⟨rfl, ht9, hg9⟩
              have E9 := hid (E8.out.take hg9 (ht9 HKB.out))
              clear ht9 hg9 d1 a0 a1 b0 b1
              have HJ9 := hid (show CkI w (.int .i64 wd) (.slice dv N dc) (.slice (some ⟨G, o, none⟩) M lc) mb (keysJ (ls.take (j + 1))) w9 from by
                have e := keysJ_snoc HX.out
                simp only [Int.toNat_natCast] at e
                rw [e]
                exact E9.out.ck)
              go_wp2
              go_roundw
              case rel => exact ⟨j + 1, by omega, by go_num, HJ9, HA2⟩
              case measure => simp [intOf]; omega
        · have hjI : ¬ (j : Int) < (M : Int) := by omega
          have HE := hid (show topB wd (ds.map (·.1)) ls = true from topB_all HW1.out (by rw [List.length_map, ← HN.out, ← HM.out]; have := HN4.out; have := HM4.out; omega) (fun i hi => HA1.out i (by rw [List.length_map, ← HN.out] at hi; exact hi)) (fun i hi => hA.out i (by rw [← HM.out] at hi; omega)))
          go_wp2
          go_ret
          exact ⟨by rw [HE.out]; rfl, hJ.out.top.below⟩

set_option maxHeartbeats 1000000 in
theorem oCheckT_any {w : World} {wd : Int} {dv lv : Option Addr} {N dc M lc : Nat} {ds : List (To.Dv × Value × Value)} {ls : List LkZ} (hD : DvL w (.slice dv N dc) ds) (hL : LkV w (.slice lv M lc) ls) (hz : DvShort ds) :
    Calls Tryz.prog 16 #[.agg #[.int .i64 wd, .slice dv N dc, .slice lv M lc]] w fun e w' => e = .returned (.int .i64 (chkT wd (ds.map (·.1)) ls)) ∧ Below w.heap.size w w' := by
  have HB := hid (fun (o : Obj) => (show Below w.heap.size w (w.alloc o) from (Below.refl _ _).alloc (Nat.le_refl _) _))
  have HM := hid (omayBe_any (wd := wd) (hD.below (HB.out (topJ (.int .i64 wd) (.slice dv N dc) (.slice lv M lc)))) (hL.below (HB.out _)) hz)
  unfold chkT
  obtain ⟨b, hb⟩ : ∃ b, b = topB wd (ds.map (·.1)) ls := ⟨_, rfl⟩
  rw [← hb] at HM ⊢
  clear hb hD hL hz
  cases b with
  | false =>
    go_enter Tryz.func16, Tryz.ntmps16
    go_wp2_with fail
    refine HM.out.mono ?_
    rintro en w1 ⟨rfl, hb1⟩
    have HB1 := hid ((HB.out _).trans (hb1.mono (HB.out _).size))
    go_wp2
    go_ret
    exact ⟨rfl, HB1.out⟩
  | true =>
    go_enter Tryz.func16, Tryz.ntmps16
    go_wp2_with fail
    refine HM.out.mono ?_
    rintro en w1 ⟨rfl, hb1⟩
    have HB1 := hid ((HB.out _).trans (hb1.mono (HB.out _).size))
    go_wp2
    go_ret
    exact ⟨rfl, HB1.out⟩
end Go.Proofs.YtebaopiedlioiaaGreatDoor
