/-
  Bytes of a text that is written on: a row whose mark stands behind its last cell, or one of one's own.
  The program's Parse of any text, and of a text that was printed.
  The document's row of words; the program's Print of any topology.
  The program's text of a topology that may be, and its Print.
  strconv.Itoa, by the library's contract and its table (as UItoa, for a seat without rules).
-/
import Derived.Test.YtebaopiedlioiaaGreatDoorIULay
import Derived.Test.YtebaopiedlioiaaGreatDoorWRefSAnd
import Derived.Test.YtebaopiedlioiaaGreatDoorJBkTAnd
import Derived.Test.YtebaopiedlioiaaGreatDoorJPrChk
import Derived.Test.YtebaopiedlioiaaGreatDoorJDocNAnd
import Derived.Test.YtebaopiedlioiaaGreatDoorJDocPAnd
import Derived.Test.YtebaopiedlioiaaGreatDoorJRdAnd
import Derived.Test.YtebaopiedlioiaaGreatDoorWBuildAnd
import Derived.Laws.IdiomStrings
import Derived.Lib.FrozenHead
namespace Go.Proofs.YtebaopiedlioiaaGreatDoor
open Go.RowKit

/-- The table of the powers of ten stands in memory as it started. -/
abbrev PowTab (w : World) : Prop := Lib.TabIs Tryz.prog w "internal/strconv.uint64pow10" .u64 Lib.pow10Tab
theorem PowTab.below {w w' : World} (h : PowTab w) (hb : Below w.heap.size w w') : PowTab w' := by
  unfold PowTab Lib.TabIs World.var? at *
  cases hg : Tryz.prog.globalNamed "internal/strconv.uint64pow10" with
  | none => rw [hg] at h; cases h
  | some g =>
    rw [hg] at h
    simp only [Option.bind_some] at h ⊢
    have hlt : g < w.heap.size := by
      by_cases q : g < w.heap.size
      · exact q
      · rw [Array.getElem?_eq_none (by omega)] at h; cases h
    rw [hb.block g hlt]
    exact h
theorem below_grow_drewN (w : World) (k : Nat) (os : Array Obj) : Below w.heap.size w (Sort.grow (w.drewN k) os) := ⟨rfl, rfl, rfl, by simp [Sort.grow, World.drewN], fun _ hi => Sort.heap_grow_old (w.drewN k) os hi⟩
theorem Itoa_any (n : Nat) (hn : n ≤ 2147483647) {w : World} (h : PowTab w) : Calls Tryz.prog 39 #[.int .i64 n] w fun e w' => e = .returned (.string (tx (Lib.decDigits n))) ∧ Below w.heap.size w w' := by
  refine (Any.strconv_Itoa Tryz.laysItoa n (by omega) (by omega) w h).mono ?_
  rintro e w' ⟨rfl, k, os, rfl⟩
  refine ⟨?_, below_grow_drewN w k os⟩
  unfold Lib.itoa
  rw [if_neg (by omega)]
  rfl
end Go.Proofs.YtebaopiedlioiaaGreatDoor
namespace Go.Proofs.YtebaopiedlioiaaGreatDoor
open Go.RowKit

/-- What stands while a topology's text is made. -/
structure TtI (w : World) (wd vd vl : Value) (b : Nat) (l : List UInt8) (W : World) : Prop where
  top : TpI w wd vd vl W
  bu : Bu (w.heap.size + 1) b l W
theorem TtI.on {w : World} {wd vd vl : Value} {b : Nat} {l : List UInt8} {W W' : World} (h : TtI w wd vd vl b l W) (hb : Below W.heap.size W W') : TtI w wd vd vl b l W' := ⟨h.top.on hb, h.bu.belowJ hb⟩
theorem TtI.said {w : World} {wd vd vl : Value} {b : Nat} {l l' : List UInt8} {W W' : World} (h : TtI w wd vd vl b l W) (hb : Below (w.heap.size + 1) W W') (hu : Bu (w.heap.size + 1) b l' W') : TtI w wd vd vl b l' W' :=
  ⟨⟨(hb.block _ (by omega)).trans h.top.top, h.top.below.trans (hb.mono (by omega))⟩, hu⟩
theorem TtI.lt {w : World} {wd vd vl : Value} {b : Nat} {l : List UInt8} {W : World} (h : TtI w wd vd vl b l W) : w.heap.size + 1 ≤ W.heap.size := lt_of_block h.top.top

set_option maxRecDepth 20000 in
set_option maxHeartbeats 4000000 in
theorem otext_any {w : World} {wd : Int} {dv lv : Option Addr} {N dc M lc : Nat} {ds : List (To.Dv × Value × Value)} {ls : List LkZ} (hD : DvL w (.slice dv N dc) ds) (hL : LkV w (.slice lv M lc) ls) (hok : TopOk wd (ds.map (·.1)) ls) (hT : PowTab w) :
    Calls Tryz.prog 37 #[.agg #[.int .i64 wd, .slice dv N dc, .slice lv M lc]] w fun e w' => e = .returned (.string (tx (tpT wd.toNat (ds.map (·.1)) ls))) ∧ Below w.heap.size w w' := by
  obtain ⟨dv', dc', e, hdv⟩ := hD.form
  injection e with e1 e2 e3
  subst e1 e3
  obtain ⟨lv', lc', e, hlv⟩ := hL.form
  injection e with e4 e5 e6
  subst e4 e6
  have HD := hid hD
  have HDV := hid hdv
  have HLV := hid hlv
  have HN := hid e2
  have HM := hid e5
  have HOK := hid hok
  obtain ⟨wn, hwn⟩ : ∃ n : Nat, wd = (n : Int) := ⟨wd.toNat, by have := hok.w1; omega⟩
  subst hwn
  have hwn1 : wn ≤ 128 := by have := hok.w2; omega
  have hN4 : N ≤ 256 := by have := hok.d2; rw [List.length_map] at this; omega
  have hM4 : M ≤ 4096 := by have := hok.l2; omega
  rw [Int.toNat_natCast]
  have HIT := hid (fun (W : World) (hb : Below w.heap.size w W) => Itoa_any wn (by omega) (hT.below hb))
  obtain ⟨es, hes⟩ : ∃ es, es = ds.map (·.1) := ⟨_, rfl⟩
  have HES := hid hes
  rw [← hes] at HOK ⊢
  obtain ⟨W0, hW0⟩ : ∃ W0, W0 = (w.alloc (topJ (.int .i64 wn) (.slice dv N dc) (.slice lv M lc))).alloc (.cells #[.pointer none, .slice none 0 0] 131 (0, 0)) := ⟨_, rfl⟩
  obtain ⟨bb, hbb⟩ : ∃ bb, bb = w.heap.size + 1 := ⟨_, rfl⟩
  have I0 := hid (show TtI w (.int .i64 wn) (.slice dv N dc) (.slice lv M lc) bb [] W0 from by
    have hf := Lib.fresh_isBuilder 131 5 (w.alloc (topJ (.int .i64 wn) (.slice dv N dc) (.slice lv M lc)))
    have hb0 : Below w.heap.size w W0 := by rw [hW0]; exact ((Below.refl _ _).alloc (Nat.le_refl _) _).alloc (by simp) _
    refine ⟨⟨by rw [hW0]; exact new_old _ _ (new_0 _ _), hb0⟩, ?_⟩
    rw [hW0, hbb]
    have e : (w.alloc (topJ (.int .i64 wn) (.slice dv N dc) (.slice lv M lc))).heap.size = w.heap.size + 1 := by simp
    rw [e] at hf
    exact hf)
  clear hD hL hdv hlv e2 e5 hok hT hes
  go_enter Tryz.func37, Tryz.ntmps37
  go_upto_region 2 with fail
  rw [← hW0, ← hbb]
  clear hW0 hbb
  obtain ⟨t0, t1, t2⟩ := topJ_cells I0.out.top.top
  go_wp2_with fail
  refine (HIT.out _ I0.out.top.below).mono ?_
  rintro en w1 ⟨rfl, hb1⟩
  have I1 := hid (I0.out.on hb1)
  clear hb1 t0 t1 t2
  obtain ⟨W2, hW2⟩ : ∃ W2, W2 = w1.alloc (.cells #[.string (tx To.widthT), .string (tx (Lib.decDigits wn))] 9 (0, 0)) := ⟨_, rfl⟩
  have I2 := hid (show TtI w (.int .i64 wn) (.slice dv N dc) (.slice lv M lc) bb [] W2 from I1.out.on (by rw [hW2]; exact (Below.refl _ _).alloc (Nat.le_refl _) _))
  have HS2 := hid (show Txs W2 (.slice (some ⟨w1.heap.size, 0, none⟩) 2 2) (wdW wn) from by
    refine ⟨_, 2, rfl, .inr ⟨w1.heap.size, 0, rfl, by rw [hW2]; simp, fun i hi => ?_⟩⟩
    rw [cell_at (show W2.heap[w1.heap.size]? = some (.cells #[.string (tx To.widthT), .string (tx (Lib.decDigits wn))] 9 (0, 0)) by rw [hW2]; exact new_0 _ _)]
    have hi2 : i < 2 := hi
    rcases (by omega : i = 0 ∨ i = 1) with rfl | rfl <;> rfl)
  have HLW := hid (show ∀ z ∈ wdW wn, z.length ≤ 64 from fun z hz => by
    unfold wdW at hz
    simp only [List.mem_cons, List.not_mem_nil, or_false] at hz
    rcases hz with rfl | rfl
    · decide
    · have : ∀ n : Nat, n ≤ 128 → (Lib.decDigits n).length ≤ 64 := by decide +kernel
      exact this wn hwn1)
  go_wp2_with fail
  first | rw [← hW2] | (change Calls _ _ _ (w1.alloc (.cells #[.string (tx To.widthT), .string (tx (Lib.decDigits wn))] 9 (0, 0))) _; rw [← hW2])
  refine (osay_any I2.out.bu HS2.out (by show 2 ≤ 1000; omega) HLW.out (by simp) I2.out.lt).mono ?_
  rintro en w3 ⟨rfl, hu3, hb3, -⟩
  have I3 := hid (I2.out.said hb3 hu3.out)
  obtain ⟨T0, hT0⟩ : ∃ T0, T0 = sayS (wdW wn) ++ [10] := ⟨_, rfl⟩
  have HT0 := hid hT0
  have hT0l : T0.length ≤ 200 := by
    have := sayS_short HLW.out
    rw [hT0, List.length_append]
    have h2 : (wdW wn).length = 2 := rfl
    rw [h2] at this
    simp
    omega
  rw [List.nil_append, ← hT0] at I3
  clear hb3 hu3 hT0 hW2 I0 I1 I2 HS2 HLW
  obtain ⟨t0, t1, t2⟩ := topJ_cells I3.out.top.top
  go_wp2_with fail
  go_loopw [16] (fun i wr => ∃ k : Nat, k ≤ N ∧ i = .int .i64 k ∧ Hid (TtI w (.int .i64 wn) (.slice dv N dc) (.slice lv M lc) bb (T0 ++ dvsT (es.take k)) wr)) (fun i _ => N - (intOf i).toNat)
  case atStart => exact ⟨0, Nat.zero_le _, rfl, by rw [List.take_zero, show dvsT [] = [] from rfl, List.append_nil]; exact I3⟩
  case round =>
    obtain ⟨k, hk, rfl, hI⟩ := hrel
    by_cases hlt : k < N
    · obtain ⟨⟨qd, uv, pv⟩, hq⟩ : ∃ z, ds[k]? = some z := ⟨_, List.getElem?_eq_getElem (by have := HN.out; omega)⟩
      obtain ⟨D, od, rfl, hDl, hdc⟩ := HDV.out.resolve_left (fun e => by rw [e] at hq; simp at hq)
      obtain ⟨htc, -⟩ := HD.out.cls _ (List.mem_of_getElem? hq)
      obtain ⟨htp, -⟩ := HD.out.prt _ (List.mem_of_getElem? hq)
      simp only at htc htp
      have hek : es[k]? = some qd := by rw [HES.out, List.getElem?_map, hq]; rfl
      have hdo := HOK.out.dv qd (List.mem_of_getElem? hek)
      have HDO := hid hdo
      have hwD : wr.heap[D]? = w.heap[D]? := hI.out.top.below.block D hDl
      obtain ⟨z0, z1, z2⟩ := hdc k _ hq
      have y0 := (World.cell?_of_block (a := ⟨D, od + k * 3, none⟩) hwD).trans z0
      have y1 := (World.cell?_of_block (a := ⟨D, od + k * 3 + 1, none⟩) hwD).trans z1
      have y2 := (World.cell?_of_block (a := ⟨D, od + k * 3 + 2, none⟩) hwD).trans z2
      simp only at y0 y1 y2
      have kI : (k : Int) < (N : Int) := by omega
      have k0I : (0 : Int) ≤ (k : Int) := by omega
      have HDW := hid (fun (W : World) (hb : Below w.heap.size w W) => odeviceWords_any (d := qd) (htc.below hb) (htp.below hb) (Nat.le_trans hdo.cn (by decide)) (Nat.le_trans hdo.pn (by decide)))
      obtain ⟨ac, cc, hvc, -⟩ := id htc
      obtain ⟨ap, cp, hvp, -⟩ := id htp
      subst hvc; subst hvp
      have HSN := hid (show T0 ++ dvsT (es.take (k + 1)) = ((T0 ++ dvsT (es.take k)) ++ sayS (dvW qd)) ++ [10] by rw [dvsT_snoc hek]; simp)
      have hTl : (T0 ++ dvsT (es.take k)).length ≤ 90000000 := by
        have h1 := dvsT_len (es.take k) (fun d hd => HOK.out.dv d (List.mem_of_mem_take hd))
        have h2 : (es.take k).length ≤ 256 := by rw [List.length_take]; omega
        have h3 := Nat.mul_le_mul_right 10531 h2
        rw [List.length_append]
        omega
      obtain ⟨T, hTT⟩ : ∃ T, T = T0 ++ dvsT (es.take k) := ⟨_, rfl⟩
      rw [← hTT] at HSN hTl hI
      obtain ⟨Lc, hLc⟩ : ∃ L, L = qd.cls.length := ⟨_, rfl⟩
      obtain ⟨Lp, hLp⟩ : ∃ L, L = qd.prt.length := ⟨_, rfl⟩
      rw [← hLc] at HDW y1
      rw [← hLp] at HDW y2
      have HTL := hid hTl
      clear hTT hLc hLp hdc z0 z1 z2 hwD htc htp hq hek hdo hTl
      have I5 := hid (hI.out.on ((Below.refl _ _).alloc (Nat.le_refl _) (dvOJ qd.name (.slice ac Lc cc) (.slice ap Lp cp))))
      obtain ⟨W5, hW5⟩ : ∃ W5, W5 = wr.alloc (dvOJ qd.name (.slice ac Lc cc) (.slice ap Lp cp)) := ⟨_, rfl⟩
      obtain ⟨kb, hkb⟩ : ∃ kb, kb = wr.heap.size := ⟨_, rfl⟩
      have H5 := hid (show W5.heap[kb]? = some (dvOJ qd.name (.slice ac Lc cc) (.slice ap Lp cp)) by rw [hW5, hkb]; exact new_0 _ _)
      rw [← hW5] at I5
      go_upto_region 6 with fail
      rw [← hW5, ← hkb]
      clear hW5 hkb y0 y1 y2
      obtain ⟨r0, r1, r2⟩ := dvOJ_cells H5.out
      go_wp2_with fail
      refine (HDW.out _ I5.out.top.below).mono ?_
      rintro en w6 ⟨v6, rfl, hown6, hb6⟩
      have I6 := hid (I5.out.on hb6)
      have HTX := hid (own_txsP hown6)
      obtain ⟨a6, c6, rfl⟩ := own_formJ hown6
      clear hown6 hb6 r0 r1 r2
      go_wp2_with fail
      refine (osay_any I6.out.bu HTX.out (Nat.le_trans (dvW_short HDO.out).2 (by decide)) (dvW_short HDO.out).1 HTL.out I6.out.lt).mono ?_
      rintro en w7 ⟨rfl, hu7, hb7, -⟩
      have I7 := hid (I6.out.said hb7 hu7.out)
      rw [← HSN.out] at I7
      clear hu7 hb7
      go_wp2
      go_roundw
      case rel => exact ⟨k + 1, by omega, by go_num, I7⟩
      case measure => simp [intOf]; omega
    · have hkN : k = N := by omega
      have hkI : ¬ (k : Int) < (N : Int) := by omega
      have hfull : es.take k = es := List.take_of_length_le (by rw [HES.out, List.length_map]; have := HN.out; omega)
      rw [hfull] at hI
      have hT1l : (T0 ++ dvsT es).length ≤ 3000000 := by
        have h1 := dvsT_len es HOK.out.dv
        have h2 : es.length ≤ 256 := HOK.out.d2
        have h3 := Nat.mul_le_mul_right 10531 h2
        rw [List.length_append]
        omega
      obtain ⟨T1, hT1⟩ : ∃ T1, T1 = T0 ++ dvsT es := ⟨_, rfl⟩
      have HT1 := hid hT1
      rw [← hT1] at hI hT1l
      clear hT1 hfull
      obtain ⟨t0, t1, t2⟩ := topJ_cells hI.out.top.top
      go_wp2_with fail
      clear t0 t1 t2
      go_loopw [27] (fun i wz => ∃ j : Nat, j ≤ M ∧ i = .int .i64 j ∧ Hid (TtI w (.int .i64 wn) (.slice dv N dc) (.slice lv M lc) bb (T1 ++ lksT es (ls.take j)) wz)) (fun i _ => M - (intOf i).toNat)
      case atStart => exact ⟨0, Nat.zero_le _, rfl, by rw [List.take_zero, show lksT es [] = [] from rfl, List.append_nil]; exact hI⟩
      case round =>
        obtain ⟨j, hj, rfl, hJ⟩ := hrel
        rename World => wz
        by_cases hlt2 : j < M
        · obtain ⟨⟨a, p, b, q⟩, hx⟩ : ∃ z, ls[j]? = some z := ⟨_, List.getElem?_eq_getElem (by have := HM.out; omega)⟩
          obtain ⟨G, o, rfl, hG, hc⟩ := HLV.out.resolve_left (fun e => by rw [e] at hx; simp at hx)
          have hlo := HOK.out.lk _ (List.mem_of_getElem? hx)
          have HLO := hid hlo
          obtain ⟨an, han⟩ : ∃ n : Nat, a = (n : Int) := ⟨a.toNat, by have := hlo.a0; simp only at this; omega⟩
          obtain ⟨bn, hbn⟩ : ∃ n : Nat, b = (n : Int) := ⟨b.toNat, by have := hlo.b0; simp only at this; omega⟩
          subst han hbn
          have han := hlo.an
          have hbn := hlo.bn
          simp only [Int.toNat_natCast] at han hbn
          rw [HES.out, List.length_map] at han hbn
          obtain ⟨⟨da, ua, va⟩, hda⟩ : ∃ z, ds[an]? = some z := ⟨_, List.getElem?_eq_getElem han⟩
          obtain ⟨⟨db, ub, vb⟩, hdb⟩ : ∃ z, ds[bn]? = some z := ⟨_, List.getElem?_eq_getElem hbn⟩
          obtain ⟨D, od, rfl, hDl, hdc⟩ := HDV.out.resolve_left (fun e => by rw [e] at hda; simp at hda)
          have HSN := hid (show T1 ++ lksT es (ls.take (j + 1)) = ((T1 ++ lksT es (ls.take j)) ++ sayS [To.linkT, da.name, p, To.arrowT, db.name, q]) ++ [10] by
            have e : lkW es ((an : Int), p, (bn : Int), q) = [To.linkT, da.name, p, To.arrowT, db.name, q] := by
              unfold lkW
              simp only [Int.toNat_natCast]
              rw [getD_at (show es[an]? = some da by rw [HES.out, List.getElem?_map, hda]; rfl), getD_at (show es[bn]? = some db by rw [HES.out, List.getElem?_map, hdb]; rfl)]
            rw [lksT_snoc es hx, e]; simp)
          have HSH := hid (show (∀ z ∈ [To.linkT, da.name, p, To.arrowT, db.name, q], z.length ≤ 64) from fun z hz => by
            simp only [List.mem_cons, List.not_mem_nil, or_false] at hz
            have h1 := (HOK.out.dv da (by rw [HES.out]; exact List.mem_map.2 ⟨_, List.mem_of_getElem? hda, rfl⟩)).name
            have h2 := (HOK.out.dv db (by rw [HES.out]; exact List.mem_map.2 ⟨_, List.mem_of_getElem? hdb, rfl⟩)).name
            have h3 := HLO.out.p
            have h4 := HLO.out.q
            rcases hz with rfl | rfl | rfl | rfl | rfl | rfl
            · decide
            · exact h1
            · exact h3
            · decide
            · exact h2
            · exact h4)
          have hTl : (T1 ++ lksT es (ls.take j)).length ≤ 90000000 := by
            have h1 := lksT_len es (ls.take j) HOK.out.dv (fun x hx => HOK.out.lk x (List.mem_of_mem_take hx))
            have h2 : (ls.take j).length ≤ 4096 := by rw [List.length_take]; omega
            have h3 := Nat.mul_le_mul_right 391 h2
            rw [List.length_append]
            omega
          obtain ⟨T, hTT⟩ : ∃ T, T = T1 ++ lksT es (ls.take j) := ⟨_, rfl⟩
          rw [← hTT] at HSN hTl hJ
          have HTL := hid hTl
          have hwG : wz.heap[G]? = w.heap[G]? := hJ.out.top.below.block G hG
          obtain ⟨c0, c1, c2, c3⟩ := hc j _ hx
          have y0 := (World.cell?_of_block (a := ⟨G, o + j * 4, none⟩) hwG).trans c0
          have y1 := (World.cell?_of_block (a := ⟨G, o + j * 4 + 1, none⟩) hwG).trans c1
          have y2 := (World.cell?_of_block (a := ⟨G, o + j * 4 + 2, none⟩) hwG).trans c2
          have y3 := (World.cell?_of_block (a := ⟨G, o + j * 4 + 3, none⟩) hwG).trans c3
          simp only at y0 y1 y2 y3
          have jI : (j : Int) < (M : Int) := by omega
          have j0I : (0 : Int) ≤ (j : Int) := by omega
          have aI : (an : Int) < (N : Int) := by have := HN.out; omega
          have bI : (bn : Int) < (N : Int) := by have := HN.out; omega
          have a0I : (0 : Int) ≤ (an : Int) := by omega
          have b0I : (0 : Int) ≤ (bn : Int) := by omega
          obtain ⟨W1, hW1⟩ : ∃ W1, W1 = wz.alloc (lkO ((an : Int), p, (bn : Int), q)) := ⟨_, rfl⟩
          obtain ⟨lb, hlb⟩ : ∃ lb, lb = wz.heap.size := ⟨_, rfl⟩
          have hb1 : Below wz.heap.size wz W1 := by rw [hW1]; exact (Below.refl _ _).alloc (Nat.le_refl _) _
          have h1 : W1.heap[lb]? = some (lkO ((an : Int), p, (bn : Int), q)) := by rw [hW1, hlb]; exact new_0 _ _
          have I1 := hid (hJ.out.on hb1)
          have HST := hid (fun (W : World) (hb : Below W1.heap.size W1 W) => (by
            have e := (hb.block D (by have := I1.out.top.below.size; omega)).trans (I1.out.top.below.block D hDl)
            exact ⟨(topJ_cells (I1.out.on hb).top.top).2.1, lkO_cells ((hb.block _ (lt_of_block h1)).trans h1), (World.cell?_of_block (a := ⟨D, od + an * 3, none⟩) e).trans (hdc an _ hda).1, (World.cell?_of_block (a := ⟨D, od + bn * 3, none⟩) e).trans (hdc bn _ hdb).1⟩ : W.cell? ⟨w.heap.size, 1, none⟩ = some (.slice (some ⟨D, od, none⟩) N dc) ∧ (W.cell? ⟨lb, 0, none⟩ = some (.int .i64 an) ∧ W.cell? ⟨lb, 1, none⟩ = some (.string (tx p)) ∧ W.cell? ⟨lb, 2, none⟩ = some (.int .i64 bn) ∧ W.cell? ⟨lb, 3, none⟩ = some (.string (tx q))) ∧ W.cell? ⟨D, od + an * 3, none⟩ = some (.string (tx da.name)) ∧ W.cell? ⟨D, od + bn * 3, none⟩ = some (.string (tx db.name))))
          have I2 := hid (show TtI w (.int .i64 wn) (.slice (some ⟨D, od, none⟩) N dc) (.slice (some ⟨G, o, none⟩) M lc) bb T (W1.drew.alloc (.cells #[.string ⟨#[108, 105, 110, 107]⟩, .string (tx da.name), .string (tx p), .string ⟨#[45, 62]⟩, .string (tx db.name), .string (tx q)] 9 (0, 0))) from I1.out.on (((Below.refl _ _).drew).alloc (Nat.le_refl _) _))
          have HTX := hid (show Txs (W1.drew.alloc (.cells #[.string ⟨#[108, 105, 110, 107]⟩, .string (tx da.name), .string (tx p), .string ⟨#[45, 62]⟩, .string (tx db.name), .string (tx q)] 9 (0, 0))) (.slice (some ⟨W1.heap.size, 0, none⟩) 6 6) [To.linkT, da.name, p, To.arrowT, db.name, q] from by
            refine ⟨_, 6, rfl, .inr ⟨W1.heap.size, 0, rfl, by rw [World.size_alloc]; exact Nat.lt_succ_self W1.heap.size, fun i hi => ?_⟩⟩
            rw [cell_at (show (W1.drew.alloc (.cells #[.string ⟨#[108, 105, 110, 107]⟩, .string (tx da.name), .string (tx p), .string ⟨#[45, 62]⟩, .string (tx db.name), .string (tx q)] 9 (0, 0))).heap[W1.heap.size]? = some (.cells #[.string ⟨#[108, 105, 110, 107]⟩, .string (tx da.name), .string (tx p), .string ⟨#[45, 62]⟩, .string (tx db.name), .string (tx q)] 9 (0, 0)) from new_0 W1.drew _)]
            have hi2 : i < 6 := hi
            rcases (by omega : i = 0 ∨ i = 1 ∨ i = 2 ∨ i = 3 ∨ i = 4 ∨ i = 5) with rfl | rfl | rfl | rfl | rfl | rfl <;> rfl)
          have hlbb : lb ≠ bb := by
            rcases hJ.out.bu with ⟨_, v, h, _⟩ | ⟨_, v, h, _⟩ <;> (have := lt_of_block h; omega)
          have HFN := hid ((osay_any I2.out.bu HTX.out (by show 6 ≤ 1000; omega) HSH.out HTL.out I2.out.lt).mono (fun en w' h => (⟨h.1, HSN.out ▸ I2.out.said h.2.2.1 h.2.1.out, h.2.2.2⟩ : en = .returned (.tuple #[]) ∧ TtI w (.int .i64 wn) (.slice (some ⟨D, od, none⟩) N dc) (.slice (some ⟨G, o, none⟩) M lc) bb (T1 ++ lksT es (ls.take (j + 1))) w' ∧ FrT bb (W1.drew.alloc (.cells #[.string ⟨#[108, 105, 110, 107]⟩, .string (tx da.name), .string (tx p), .string ⟨#[45, 62]⟩, .string (tx db.name), .string (tx q)] 9 (0, 0))) w')))
          have HS2 := hid (fun (W : World) (hI : TtI w (.int .i64 wn) (.slice (some ⟨D, od, none⟩) N dc) (.slice (some ⟨G, o, none⟩) M lc) bb (T1 ++ lksT es (ls.take (j + 1))) W) (hf : FrT bb (W1.drew.alloc (.cells #[.string ⟨#[108, 105, 110, 107]⟩, .string (tx da.name), .string (tx p), .string ⟨#[45, 62]⟩, .string (tx db.name), .string (tx q)] 9 (0, 0))) W) => (by
            have e0 : (W1.drew.alloc (.cells #[.string ⟨#[108, 105, 110, 107]⟩, .string (tx da.name), .string (tx p), .string ⟨#[45, 62]⟩, .string (tx db.name), .string (tx q)] 9 (0, 0))).heap[lb]? = some (lkO ((an : Int), p, (bn : Int), q)) := (Below.heap_alloc _ _ _ (by exact lt_of_block h1)).trans h1
            have e1 := (hf lb _ _ _ hlbb e0 (by decide)).trans e0
            have e := hI.top.below.block D hDl
            exact ⟨(topJ_cells hI.top.top).2.1, lkO_cells e1, (World.cell?_of_block (a := ⟨D, od + an * 3, none⟩) e).trans (hdc an _ hda).1, (World.cell?_of_block (a := ⟨D, od + bn * 3, none⟩) e).trans (hdc bn _ hdb).1⟩ : W.cell? ⟨w.heap.size, 1, none⟩ = some (.slice (some ⟨D, od, none⟩) N dc) ∧ (W.cell? ⟨lb, 0, none⟩ = some (.int .i64 an) ∧ W.cell? ⟨lb, 1, none⟩ = some (.string (tx p)) ∧ W.cell? ⟨lb, 2, none⟩ = some (.int .i64 bn) ∧ W.cell? ⟨lb, 3, none⟩ = some (.string (tx q))) ∧ W.cell? ⟨D, od + an * 3, none⟩ = some (.string (tx da.name)) ∧ W.cell? ⟨D, od + bn * 3, none⟩ = some (.string (tx db.name))))
          clear hx hlo hda hdb hdc hwG c0 c1 c2 c3 hb1 h1 hTT hTl hc han hbn HSN HSH I2 HTX
          go_upto_region 11 with fail
          rw [← hW1, ← hlb]
          clear hW1 hlb y0 y1 y2 y3
          refine wp_region_held_drew (S := (fun W => W.cell? ⟨w.heap.size, 1, none⟩ = some (.slice (some ⟨D, od, none⟩) N dc) ∧ (W.cell? ⟨lb, 0, none⟩ = some (.int .i64 an) ∧ W.cell? ⟨lb, 1, none⟩ = some (.string (tx p)) ∧ W.cell? ⟨lb, 2, none⟩ = some (.int .i64 bn) ∧ W.cell? ⟨lb, 3, none⟩ = some (.string (tx q))) ∧ W.cell? ⟨D, od + an * 3, none⟩ = some (.string (tx da.name)) ∧ W.cell? ⟨D, od + bn * 3, none⟩ = some (.string (tx db.name)))) (by kernel_rfl) ?hSt0 (fun hHeld => ?_)
          case hSt0 => exact HST.out _ (Below.refl _ _).drew
          refine tkH (i := 0) (v := ?vt0) rfl (by kernel_rfl) (by kernel_rfl) (by kernel_rfl) (fun _ _ _ h => h) (by rfl) ?yt0 (by assumption) ?rt0
          case yt0 => (intro w hSw; (try dsimp only at hSw); go_simp; (try with_reducible rfl))
          (try simp only [Act.put, List.setIfInBounds_toArray, List.set_cons_zero, List.set_cons_succ])
          refine tkH (i := 1) (v := ?vt1) rfl (by kernel_rfl) (by kernel_rfl) (by kernel_rfl) (fun _ _ _ h => h) (by rfl) ?yt1 (by assumption) ?rt1
          case yt1 => (intro w hSw; (try dsimp only at hSw); go_simp; (try with_reducible rfl))
          (try simp only [Act.put, List.setIfInBounds_toArray, List.set_cons_zero, List.set_cons_succ])
          refine tkH (i := 2) (v := ?vt2) rfl (by kernel_rfl) (by kernel_rfl) (by kernel_rfl) (fun _ _ _ h => h) (by rfl) ?yt2 (by assumption) ?rt2
          case yt2 => (intro w hSw; (try dsimp only at hSw); go_simp; (try with_reducible rfl))
          (try simp only [Act.put, List.setIfInBounds_toArray, List.set_cons_zero, List.set_cons_succ])
          refine tkH (i := 3) (v := ?vt3) rfl (by kernel_rfl) (by kernel_rfl) (by kernel_rfl) (fun _ _ _ h => h) (by rfl) ?yt3 (by assumption) ?rt3
          case yt3 => (intro w hSw; (try dsimp only at hSw); go_simp; (try with_reducible rfl))
          (try simp only [Act.put, List.setIfInBounds_toArray, List.set_cons_zero, List.set_cons_succ])
          refine tkH (i := 4) (v := ?vt4) rfl (by kernel_rfl) (by kernel_rfl) (by kernel_rfl) (fun _ _ _ h => h) (by rfl) ?yt4 (by assumption) ?rt4
          case yt4 => (intro w hSw; (try dsimp only at hSw); go_simp; (try with_reducible rfl))
          (try simp only [Act.put, List.setIfInBounds_toArray, List.set_cons_zero, List.set_cons_succ])
          refine tkH (i := 5) (v := ?vt5) rfl (by kernel_rfl) (by kernel_rfl) (by kernel_rfl) (fun _ _ _ h => h) (by rfl) ?yt5 (by assumption) ?rt5
          case yt5 => (intro w hSw; (try dsimp only at hSw); go_simp; (try with_reducible rfl))
          (try simp only [Act.put, List.setIfInBounds_toArray, List.set_cons_zero, List.set_cons_succ])
          refine tkH (i := 6) (v := ?vt6) rfl (by kernel_rfl) (by kernel_rfl) (by kernel_rfl) (fun _ _ _ h => h) (by rfl) ?yt6 (by assumption) ?rt6
          case yt6 => (intro w hSw; (try dsimp only at hSw); go_simp; (try with_reducible rfl))
          (try simp only [Act.put, List.setIfInBounds_toArray, List.set_cons_zero, List.set_cons_succ])
          refine tkH (i := 7) (v := ?vt7) rfl (by kernel_rfl) (by kernel_rfl) (by kernel_rfl) (fun _ _ _ h => h) (by rfl) ?yt7 (by assumption) ?rt7
          case yt7 => (intro w hSw; (try dsimp only at hSw); go_simp; (try with_reducible rfl))
          (try simp only [Act.put, List.setIfInBounds_toArray, List.set_cons_zero, List.set_cons_succ])
          refine tkH (i := 8) (v := ?vt8) rfl (by kernel_rfl) (by kernel_rfl) (by kernel_rfl) (fun _ _ _ h => h) (by rfl) ?yt8 (by assumption) ?rt8
          case yt8 => (intro w hSw; (try dsimp only at hSw); go_simp; (try with_reducible rfl))
          (try simp only [Act.put, List.setIfInBounds_toArray, List.set_cons_zero, List.set_cons_succ])
          refine tkH (i := 9) (v := ?vt9) rfl (by kernel_rfl) (by kernel_rfl) (by kernel_rfl) (fun _ _ _ h => h) (by rfl) ?yt9 (by assumption) ?rt9
          case yt9 => (intro w hSw; (try dsimp only at hSw); go_simp; (try with_reducible rfl))
          (try simp only [Act.put, List.setIfInBounds_toArray, List.set_cons_zero, List.set_cons_succ])
          refine tkH (i := 10) (v := ?vt10) rfl (by kernel_rfl) (by kernel_rfl) (by kernel_rfl) (fun _ _ _ h => h) (by rfl) ?yt10 (by assumption) ?rt10
          case yt10 => (intro w hSw; (try dsimp only at hSw); go_simp; (try with_reducible rfl))
          (try simp only [Act.put, List.setIfInBounds_toArray, List.set_cons_zero, List.set_cons_succ])
          refine tkH (i := 11) (v := ?vt11) rfl (by kernel_rfl) (by kernel_rfl) (by kernel_rfl) (fun _ _ _ h => h) (by rfl) ?yt11 (by assumption) ?rt11
          case yt11 => (intro w hSw; (try dsimp only at hSw); go_simp; (try with_reducible rfl))
          (try simp only [Act.put, List.setIfInBounds_toArray, List.set_cons_zero, List.set_cons_succ])
          refine tkH (i := 12) (v := ?vt12) rfl (by kernel_rfl) (by kernel_rfl) (by kernel_rfl) (fun _ _ _ h => h) (by rfl) ?yt12 (by assumption) ?rt12
          case yt12 => (intro w hSw; (try dsimp only at hSw); go_simp; (try with_reducible rfl))
          (try simp only [Act.put, List.setIfInBounds_toArray, List.set_cons_zero, List.set_cons_succ])
          refine tkH (i := 13) (v := ?vt13) rfl (by kernel_rfl) (by kernel_rfl) (by kernel_rfl) (fun _ _ _ h => h) (by rfl) ?yt13 (by assumption) ?rt13
          case yt13 => (intro w hSw; (try dsimp only at hSw); go_simp; (try with_reducible rfl))
          (try simp only [Act.put, List.setIfInBounds_toArray, List.set_cons_zero, List.set_cons_succ])
          refine tkH (i := 14) (v := ?vt14) rfl (by kernel_rfl) (by kernel_rfl) (by kernel_rfl) (fun _ _ _ h => h) (by rfl) ?yt14 (by assumption) ?rt14
          case yt14 => (intro w hSw; (try dsimp only at hSw); go_simp; (try with_reducible rfl))
          (try simp only [Act.put, List.setIfInBounds_toArray, List.set_cons_zero, List.set_cons_succ])
          refine tkH (i := 15) (v := ?vt15) rfl (by kernel_rfl) (by kernel_rfl) (by kernel_rfl) (fun _ _ _ h => h) (by rfl) ?yt15 (by assumption) ?rt15
          case yt15 => (intro w hSw; (try dsimp only at hSw); go_simp; (try with_reducible rfl))
          (try simp only [Act.put, List.setIfInBounds_toArray, List.set_cons_zero, List.set_cons_succ])
          refine tkH (i := 16) (v := ?vt16) rfl (by kernel_rfl) (by kernel_rfl) (by kernel_rfl) (fun _ _ _ h => h) (by rfl) ?yt16 (by assumption) ?rt16
          case yt16 => (intro w hSw; (try dsimp only at hSw); go_simp; (try with_reducible rfl))
          (try simp only [Act.put, List.setIfInBounds_toArray, List.set_cons_zero, List.set_cons_succ])
          refine tkH (i := 17) (v := ?vt17) rfl (by kernel_rfl) (by kernel_rfl) (by kernel_rfl) (fun _ _ _ h => h) (by rfl) ?yt17 (by assumption) ?rt17
          case yt17 => (intro w hSw; (try dsimp only at hSw); go_simp; (try with_reducible rfl))
          (try simp only [Act.put, List.setIfInBounds_toArray, List.set_cons_zero, List.set_cons_succ])
          refine caH (i := 18) rfl (by kernel_rfl) (by rfl) (fun K hK => ?_)
          go_simp
          refine hK.out _ _ (HST.out _ ((Below.refl _ _).drew.alloc (Nat.le_refl _) _)) (fun hHeld => ?_)
          clear hK K
          (try simp only [Act.put, List.setIfInBounds_toArray, List.set_cons_zero, List.set_cons_succ])
          refine caH (i := 19) rfl (by kernel_rfl) (by rfl) (fun K hK => ?_)
          go_simp
          refine HFN.out.mono ?_
          rintro en w9 ⟨rfl, hI9, hf9⟩
          have I9 := hid hI9
          have S9 := hid (HS2.out _ hI9 hf9)
          clear hI9 hf9
          refine hK.out _ _ (S9.out) (fun hHeld => ?_)
          clear hK K
          (try simp only [Act.put, List.setIfInBounds_toArray, List.set_cons_zero, List.set_cons_succ])
          refine wpAnyH_done (by kernel_rfl) ?_ _
          go_wp2_with fail
          go_roundw
          case rel => exact ⟨j + 1, by omega, by go_num, I9⟩
          case measure => simp [intOf]; omega
        · have hjI : ¬ (j : Int) < (M : Int) := by omega
          have hfull : ls.take j = ls := List.take_of_length_le (by have := HM.out; omega)
          rw [hfull] at hJ
          have HFT := hid (show tpT wn es ls = T1 ++ lksT es ls by unfold tpT; rw [HT1.out, HT0.out])
          go_wp2_with fail
          refine (String_any (w.heap.size + 1) bb _ _ hJ.out.bu hJ.out.lt).mono ?_
          rintro en w1 ⟨rfl, hb1⟩
          have HBF := hid (hJ.out.top.below.trans (hb1.mono (by omega)))
          go_wp2
          go_ret
          exact ⟨by rw [HFT.out]; rfl, HBF.out⟩
end Go.Proofs.YtebaopiedlioiaaGreatDoor
namespace Go.Proofs.YtebaopiedlioiaaGreatDoor
open Go.RowKit

/-- What row has so far. -/
structure RwI (w : World) (B : Nat) (k : List UInt8) (hs ns : List (List UInt8)) (j : Nat) (v : Value) (wr : World) : Prop where
  own : wr.ownsRow B 9 1 v (hs.length + 2 * j) (svs (hs ++ mkS k ns j))
  below : Below B w wr

set_option maxRecDepth 20000 in
set_option maxHeartbeats 2000000 in
theorem Rrow_any {w : World} {B : Nat} {u v : Value} {hs ns : List (List UInt8)} (ho : w.ownsRow B 9 1 u hs.length (svs hs)) (hB : B ≤ w.heap.size) (h : ∀ W, Below B w W → Txs W v ns) (hn : ns.length ≤ 1000) (hl : hs.length ≤ 1000) (k : List UInt8) :
    Calls Tryz.prog 40 #[u, .string (tx k), v] w fun en w' => ∃ v', en = .returned v' ∧ w'.ownsRow B 9 1 v' (hs ++ mkS k ns ns.length).length (svs (hs ++ mkS k ns ns.length)) ∧ Below B w w' := by
  obtain ⟨i0, hi, hz0, hz1, hz2⟩ := info_parts Tryz.infoStrP
  have HI := hid hi
  have HZ0 := hid hz0
  have HZ1 := hid hz1
  have HZ2 := hid hz2
  clear hi hz0 hz1 hz2
  obtain ⟨ao, cap, rfl, -⟩ := h w (Below.refl _ _)
  obtain ⟨n, hnn⟩ : ∃ n, n = ns.length := ⟨_, rfl⟩
  have HN := hid hnn
  have HLE := hid (show (hs ++ mkS k ns n).length = hs.length + 2 * n by rw [List.length_append, mkS_len])
  obtain ⟨hn0, hhn⟩ : ∃ n, n = hs.length := ⟨_, rfl⟩
  have HHN := hid hhn
  have HR := hid (fun (W : World) (hb : Below B w W) => (by
    obtain ⟨a2, c2, e, hr⟩ := h W hb
    injection e with e1 _ _
    subst e1
    exact hr : ns = [] ∨ ∃ g o, ao = some ⟨g, o, none⟩ ∧ g < W.heap.size ∧ ∀ i, i < ns.length → W.cell? ⟨g, o + i, none⟩ = some (.string (tx (ns.getD i [])))))
  have I0 := hid (show RwI w B k hs ns 0 u w from ⟨by rw [show mkS k ns 0 = [] from rfl, List.append_nil]; exact ho, Below.refl _ _⟩)
  rw [← hnn] at hn ⊢
  rw [HLE.out]
  obtain ⟨uo, uc, rfl⟩ := own_formJ ho
  rw [← hhn] at hl I0 ⊢
  clear h ho hnn hhn
  go_enter Tryz.func40, Tryz.ntmps40
  go_wp2_with fail
  go_loopw [0, 7] (fun u i wr => ∃ (j : Nat) (v : Value), u = v ∧ i = .int .i64 j ∧ j ≤ n ∧ Hid (RwI w B k hs ns j v wr)) (fun _ i _ => n - (intOf i).toNat)
  case atStart => exact ⟨0, _, rfl, rfl, Nat.zero_le _, I0⟩
  case round =>
    obtain ⟨j, v, rfl, rfl, hj, HJ⟩ := hrel
    have HO := hid HJ.out.own
    have HB := hid HJ.out.below
    rw [← HHN.out] at HO
    obtain ⟨wo, wc', rfl⟩ := own_formJ HO.out
    have hsz : B ≤ wr.heap.size := by have := HB.out.size; omega
    by_cases hlt : j < n
    · obtain ⟨g, o, rfl, hg, hc⟩ := (HR.out wr HB.out).resolve_left (fun e => by have := HN.out; rw [e] at this; simp at this; omega)
      have c0 := hc j (by have := HN.out; omega)
      obtain ⟨p, hp⟩ : ∃ p, p = ns.getD j [] := ⟨_, rfl⟩
      rw [← hp] at c0
      have hkI : (j : Int) < (n : Int) := by omega
      have hk0 : (0 : Int) ≤ (j : Int) := by omega
      have HNX := hid (fun (mk : List UInt8) (hmk : mk = if j = 0 then k else [44]) (v' : Value) (w5 : World) (ho : w5.ownsRow B 9 1 v' (hn0 + 2 * j + 2) (svs (hs ++ mkS k ns j) ++ [.string (tx mk), .string (tx p)])) => (show w5.ownsRow B 9 1 v' (hs.length + 2 * (j + 1)) (svs (hs ++ mkS k ns (j + 1))) from by
        have e : svs (hs ++ mkS k ns (j + 1)) = svs (hs ++ mkS k ns j) ++ [.string (tx mk), .string (tx p)] := by
          rw [hmk, hp]; simp [svs, mkS]
        rw [e, show hs.length + 2 * (j + 1) = hn0 + 2 * j + 2 by have := HHN.out; omega]
        exact ho))
      clear hp hc
      cases j with
      | zero =>
        rw [Nat.add_zero] at c0
        go_wp2_with (first | (at_builtin; refine wpList_append_own_at _ rfl _ _ 47 rfl B 9 i0 (.string (tx [])) 1 16 Tryz.underlying47 HI.out HZ0.out HZ1.out HZ2.out rfl (by decide) (.slice wo (hn0 + 2 * 0) wc') (hn0 + 2 * 0) (svs (hs ++ mkS k ns 0)) rfl (HO.out.alloc _) ⟨wr.heap.size, 0, none⟩ 2 2 [.string (tx k), .string (tx p)] rfl rfl (new_cells _ #[.string (tx k), .string (tx p)] _ _ rfl) ?c2 ?c3 ?c4 ?c5 ?_))
        case c2 => simp [Value.oneCell']
        case c3 => unfold maxLen; omega
        case c4 => omega
        case c5 => first | omega | (simp only [World.size_alloc]; omega)
        intro v' w5 hown5 hgrow5 _ _
        obtain ⟨a5, c5, rfl⟩ := own_formJ hown5
        have J5 := hid (show RwI w B k hs ns (0 + 1) _ w5 from ⟨HNX.out k rfl _ w5 hown5, (HB.out.alloc hsz _).grown hgrow5 (by simp only [World.size_alloc]; omega) (fun q hq => (HO.out.lt q hq).1)⟩)
        clear hown5 hgrow5 HNX
        go_wp2
        go_roundw
        case rel => exact ⟨0 + 1, _, rfl, by go_num, by omega, J5⟩
        case measure => simp [intOf]; omega
      | succ i =>
        have hi1 : ¬ ((i : Int) + 1 = 0) := by omega
        have hi2 : (((i : Int) + 1) == 0) = false := by rw [beq_eq_false_iff_ne]; exact hi1
        go_wp2_with (first | (at_builtin; refine wpList_append_own_at _ rfl _ _ 47 rfl B 9 i0 (.string (tx [])) 1 16 Tryz.underlying47 HI.out HZ0.out HZ1.out HZ2.out rfl (by decide) (.slice wo (hn0 + 2 * (i + 1)) wc') (hn0 + 2 * (i + 1)) (svs (hs ++ mkS k ns (i + 1))) rfl (HO.out.alloc _) ⟨wr.heap.size, 0, none⟩ 2 2 [.string (tx [44]), .string (tx p)] rfl rfl (new_cells _ #[.string (tx [44]), .string (tx p)] _ _ rfl) ?c2 ?c3 ?c4 ?c5 ?_))
        case c2 => simp [Value.oneCell']
        case c3 => unfold maxLen; omega
        case c4 => omega
        case c5 => first | omega | (simp only [World.size_alloc]; omega)
        intro v' w5 hown5 hgrow5 _ _
        obtain ⟨a5, c5, rfl⟩ := own_formJ hown5
        have J5 := hid (show RwI w B k hs ns (i + 1 + 1) _ w5 from ⟨HNX.out [44] (if_neg (by omega)).symm _ w5 hown5, (HB.out.alloc hsz _).grown hgrow5 (by simp only [World.size_alloc]; omega) (fun q hq => (HO.out.lt q hq).1)⟩)
        clear hown5 hgrow5 HNX
        go_wp2
        go_roundw
        case rel => exact ⟨i + 1 + 1, _, rfl, by go_num, by omega, J5⟩
        case measure => simp [intOf]; omega
    · have hkI : ¬ (j : Int) < (n : Int) := by omega
      have hjn : j = n := by omega
      subst hjn
      go_wp2
      go_ret
      exact ⟨_, rfl, HO.out, HB.out⟩

/-- What Print tells. -/
def prtV (wd : Int) (ds : List To.Dv) (ls : List LkZ) : Value := if topB wd ds ls = true then .tuple #[.string (tx (tpT wd.toNat ds ls)), .int .i64 0] else .tuple #[.string (tx []), .int .i64 113]

set_option maxRecDepth 20000 in
set_option maxHeartbeats 1000000 in
theorem oPrintT_any {w : World} {wd : Int} {dv lv : Option Addr} {N dc M lc : Nat} {ds : List (To.Dv × Value × Value)} {ls : List LkZ} (hD : DvL w (.slice dv N dc) ds) (hL : LkV w (.slice lv M lc) ls) (hz : DvShort ds) (hT : PowTab w) :
    Calls Tryz.prog 14 #[.agg #[.int .i64 wd, .slice dv N dc, .slice lv M lc]] w fun e w' => e = .returned (prtV wd (ds.map (·.1)) ls) ∧ Below w.heap.size w w' := by
  obtain ⟨W0, hW0⟩ : ∃ W0, W0 = w.alloc (topJ (.int .i64 wd) (.slice dv N dc) (.slice lv M lc)) := ⟨_, rfl⟩
  have I0 := hid (show TpI w (.int .i64 wd) (.slice dv N dc) (.slice lv M lc) W0 from by rw [hW0]; exact ⟨new_0 _ _, (Below.refl _ _).alloc (Nat.le_refl _) _⟩)
  have HC := hid (oCheckT_any (wd := wd) (hD.below I0.out.below) (hL.below I0.out.below) hz)
  obtain ⟨t0, t1, t2⟩ := topJ_cells I0.out.top
  cases hb : topB wd (ds.map (·.1)) ls with
  | false =>
    rw [chkT_bad hb] at HC
    have HE := hid (show prtV wd (ds.map (·.1)) ls = .tuple #[.string (tx []), .int .i64 113] by unfold prtV; rw [hb]; rfl)
    clear hb hD hL hz hT
    go_enter Tryz.func14, Tryz.ntmps14
    go_wp2_with fail
    rw [← hW0]
    clear hW0
    refine HC.out.mono ?_
    rintro en w1 ⟨rfl, hb1⟩
    have I1 := hid (I0.out.on hb1)
    go_wp2
    refine bodyPost_ret (v := .tuple #[.string (tx []), .int .i64 113]) (by simp [results, Tryz.results14, go_sem]) rfl ?_
    exact ⟨by rw [HE.out], I1.out.below⟩
  | true =>
    rw [chkT_good hb] at HC
    have HE := hid (show prtV wd (ds.map (·.1)) ls = .tuple #[.string (tx (tpT wd.toNat (ds.map (·.1)) ls)), .int .i64 0] by unfold prtV; rw [hb]; rfl)
    have HX := hid (fun (W : World) (h : Below w.heap.size w W) => otext_any (hD.below h) (hL.below h) (topB_ok hb) (hT.below h))
    obtain ⟨T, hTT⟩ : ∃ T, T = tpT wd.toNat (ds.map (·.1)) ls := ⟨_, rfl⟩
    rw [← hTT] at HE HX
    clear hb hD hL hz hT hTT
    go_enter Tryz.func14, Tryz.ntmps14
    go_wp2_with fail
    rw [← hW0]
    clear hW0
    refine HC.out.mono ?_
    rintro en w1 ⟨rfl, hb1⟩
    have I1 := hid (I0.out.on hb1)
    clear t0 t1 t2 hb1
    obtain ⟨t0, t1, t2⟩ := topJ_cells I1.out.top
    go_wp2_with fail
    refine (HX.out _ I1.out.below).mono ?_
    rintro en w2 ⟨rfl, hb2⟩
    have I2 := hid (I1.out.on hb2)
    go_wp2
    refine bodyPost_ret (v := .tuple #[.string (tx T), .int .i64 0]) (by simp [results, Tryz.results14, go_sem]) rfl ?_
    exact ⟨by rw [HE.out], I2.out.below⟩
end Go.Proofs.YtebaopiedlioiaaGreatDoor
namespace Go.Proofs.YtebaopiedlioiaaGreatDoor
namespace Bk
open Go.RowKit
open Wo (Wd)

theorem own_lkv {w : World} {B : Nat} {v : Value} {ls : List To.Lk} (h : w.ownsRow B 83 4 v ls.length (flatL ls)) : LkV w v (ls.map lkz) := by
  obtain ⟨ao, cap, rfl⟩ := own_formJ h
  refine ⟨ao, cap, by rw [List.length_map], ?_⟩
  by_cases h0 : ls = []
  · left; rw [h0]; rfl
  · right
    obtain ⟨g, hg⟩ : ∃ g, ao = some ⟨g, 0, none⟩ := by
      obtain ⟨-, ⟨h1, h2⟩ | ⟨g, cap', cur, h1, -⟩⟩ := h
      · exact absurd (List.eq_nil_of_length_eq_zero h2) h0
      · injection h1 with h1; exact ⟨g, h1⟩
    subst hg
    refine ⟨g, 0, rfl, (h.lt g rfl).2, fun i q hq => ?_⟩
    rw [List.getElem?_map, Option.map_eq_some_iff] at hq
    obtain ⟨l, hl, rfl⟩ := hq
    have := (own_atL h hl rfl).1
    simpa [lkz] using this
/-- What Parse of any text comes to. -/
def ParA (w : World) (n : Nat) (en : Ending) (w' : World) : Prop := Below w.heap.size w w' ∧
  ((∃ a b c : Int, c ≠ 0 ∧ en = .returned (.tuple #[.agg #[.int .i64 0, .slice none 0 0, .slice none 0 0], .int .i64 a, .int .i64 b, .int .i64 c])) ∨
    ∃ (wd : Nat) (vs : List (To.Dv × Value × Value)) (js : List LkZ) (c1 c2 : Value), topB wd (vs.map (·.1)) js = true ∧ (tpT wd (vs.map (·.1)) js).length ≤ 2 * n + 5000 ∧ en = .returned (.tuple #[.agg #[.int .i64 wd, c1, c2], .int .i64 0, .int .i64 0, .int .i64 0]) ∧ DvL w' c1 vs ∧ LkV w' c2 js)
theorem parse_text (s : List UInt8) (w : World) (hs : s.length ≤ 1048576) : Calls Tryz.prog 9 #[.string (tx s)] w fun en w' => ParA w s.length en w' := by
  refine (oParse_any s w hs).mono ?_
  rintro en w' ⟨hb, ⟨f, hp, rfl⟩ | ⟨t, vs, ds', ls', c1, c2, hp, hok, hv, rfl, p1, p2, p3, p4, hd, hl⟩⟩
  · exact ⟨hb, .inl ⟨_, _, _, by have := prsT_bad hp; omega, rfl⟩⟩
  · have ht : Told t vs ds' ls' := ⟨hok, hv, p1, p2, p3, p4⟩
    exact ⟨hb, .inr ⟨t.wid, ds', ls'.map lkz, c1, c2, told_may hp ht, told_short hp ht, rfl, hd.lies, own_lkv hl⟩⟩
theorem ocE_trans {a b c : Int} {p q r : List UInt8} (h1 : ocE a p b q < 0) (h2 : ocE b q c r < 0) : ocE a p c r < 0 := by
  rw [ocE_lt] at h1 h2 ⊢
  rcases h1 with h1 | ⟨h1, k1⟩ <;> rcases h2 with h2 | ⟨h2, k2⟩
  · left; omega
  · left; omega
  · left; omega
  · exact Or.inr ⟨h1.trans h2, List.lt_trans k1 k2⟩
theorem lks_rise {ds : List To.Dv} {ls : List LkZ} (h : ∀ i, i < ls.length → lkB ds ls i = true) : ls.Pairwise fun x y => ocE x.1 x.2.1 y.1 y.2.1 < 0 := by
  rw [List.pairwise_iff_getElem]
  intro i j hi hj hij
  induction j with
  | zero => omega
  | succ j ih =>
    obtain ⟨x, hx⟩ : ∃ x, ls[j + 1]? = some x := ⟨_, List.getElem?_eq_getElem hj⟩
    have h1 := ((lkB_iff hx (fun i hi => h i (by omega))).1 (h (j + 1) hj)).1
    rcases h1 with h1 | h1
    · omega
    · rw [Nat.add_sub_cancel] at h1
      have e1 : ls.getD j lk0 = ls[j]'(by omega) := by rw [List.getD_eq_getElem?_getD, List.getElem?_eq_getElem (by omega)]; rfl
      have e2 : x = ls[j + 1] := ((List.getElem?_eq_some_iff.1 hx).2).symm
      rw [e1, e2] at h1
      by_cases e : i = j
      · subst e; exact h1
      · exact ocE_trans (ih (by omega) (by omega)) h1
/-- What is printed is parsed as the same topology. -/
theorem parse_back {wd : Nat} {es : List To.Dv} {js : List LkZ} (h : topB (wd : Int) es js = true) (w : World) (hl : (tpT wd es js).length ≤ 1048576) : Calls Tryz.prog 9 #[.string (tx (tpT wd es js))] w fun en w' => ∃ (vs : List (To.Dv × Value × Value)) (c1 c2 : Value), en = .returned (.tuple #[.agg #[.int .i64 wd, c1, c2], .int .i64 0, .int .i64 0, .int .i64 0]) ∧ DvL w' c1 vs ∧ vs.map (·.1) = es ∧ LkV w' c2 js ∧ Below w.heap.size w w' := by
  have hback := prsT_back h
  rw [Int.toNat_natCast] at hback
  have h0 := h
  unfold topB at h
  simp only [Bool.and_eq_true] at h
  have hdv := allN_iff.1 h.2.1
  have hlk := allN_iff.1 h.2.2
  have hrise := names_rise hdv
  have hn : (es.map (·.name)).Nodup := rise_nodup hrise
  have hk : (keysJ js).Nodup := by
    have := keys_nodup hlk js.length (Nat.le_refl _)
    rwa [List.take_length] at this
  have hx : ∀ x ∈ js, LkGd es x := fun x hx => by
    obtain ⟨j, hj⟩ := List.getElem?_of_mem hx
    have hlt := (List.getElem?_eq_some_iff.1 hj).1
    obtain ⟨_, q1, q2, q3, _, _⟩ := (lkB_iff hj (fun i hi => hlk i (by omega))).1 (hlk j hlt)
    exact ⟨q1, q2, q3⟩
  have hlz : (js.map toLk).map lkz = js := by
    rw [List.map_map]
    refine (List.map_congr_left fun x hxm => ?_).trans (List.map_id _)
    have b1 := (hasP_bound (hx x hxm).a).1
    have b2 := (hasP_bound (hx x hxm).b).1
    show lkz (toLk x) = id x
    unfold lkz toLk
    simp only
    rw [show ((x.1.toNat : Nat) : Int) = x.1 by omega, show ((x.2.2.1.toNat : Nat) : Int) = x.2.2.1 by omega]
    rfl
  refine (oParse_any _ w hl).mono ?_
  rintro en w' ⟨hb, ⟨f, hp, rfl⟩ | ⟨t, vs, ds', ls', c1, c2, hp, hok, hv, rfl, p1, p2, p3, p4, hd, hll⟩⟩
  · rw [hback] at hp; cases hp
  · rw [hback] at hp
    injection hp with hp
    subst hp
    have hv' : vs.map (·.1) = es := hv
    have hde : ds'.map (·.1) = es := by
      have := dvs_one (l := es) (vs' := es.map fun d => (d, (.bool false : Value), (.bool false : Value))) (ds' := es.map fun d => (d, (.bool false : Value), (.bool false : Value))) hn hv' (by rw [List.map_map]; exact List.map_id _) p1 (List.Perm.refl _) p2 (List.pairwise_map.2 (by
        have q := List.pairwise_map.1 hrise
        exact q.imp fun {a b} hab hba => List.lt_irrefl _ (List.lt_trans hab hba)))
      rw [this, List.map_map]
      exact List.map_id _
    have hpos : ∀ i, i < es.length → posF vs ds' i = i := fun i hi => by
      unfold posF
      have e1 : ds'.map (·.1.name) = es.map (·.name) := by rw [← hde, List.map_map]; rfl
      have e2 : vs.map (·.1.name) = es.map (·.name) := by rw [← hv', List.map_map]; rfl
      rw [e1, e2, List.getD_eq_getElem?_getD, List.getElem?_eq_getElem (by rw [List.length_map]; exact hi)]
      exact hn.idxOf_getElem _ _
    have hren : (js.map toLk).map (renL (posF vs ds')) = js.map toLk := by
      rw [List.map_map]
      refine List.map_congr_left fun x hxm => ?_
      have b1 := hasP_bound (hx x hxm).a
      have b2 := hasP_bound (hx x hxm).b
      have b3 := (hx x hxm).lt
      show renL _ (toLk x) = toLk x
      unfold renL toLk
      simp only
      rw [hpos _ (by omega), hpos _ (by omega)]
      rw [show ((x.1.toNat : Nat) : Int) = x.1 by omega, show ((x.2.2.1.toNat : Nat) : Int) = x.2.2.1 by omega]
      rw [if_neg (fun q => by
        have := ocE_trans b3 q
        rcases ocE_lt.1 this with r | ⟨_, r⟩
        · omega
        · exact List.lt_irrefl _ r)]
    have hp3 : ls'.Perm (js.map toLk) := by
      have q : ls'.Perm ((js.map toLk).map (renL (posF vs ds'))) := p3
      rw [hren] at q
      exact q
    have hsl : (js.map toLk).Pairwise fun a b => ¬ ocE b.a b.p a.a a.p < 0 := by
      rw [List.pairwise_map]
      refine List.Pairwise.imp_of_mem (fun {x y} hxm hym hxy hyx => ?_) (lks_rise hlk)
      have b1 := (hasP_bound (hx x hxm).a).1
      have b2 := (hasP_bound (hx y hym).a).1
      unfold toLk at hyx
      simp only at hyx
      rw [show ((x.1.toNat : Nat) : Int) = x.1 by omega, show ((y.1.toNat : Nat) : Int) = y.1 by omega] at hyx
      rcases ocE_lt.1 (ocE_trans hxy hyx) with r | ⟨_, r⟩
      · omega
      · exact List.lt_irrefl _ r
    have hle : ls' = js.map toLk := by
      refine sorted_one (lt := fun a b => ocE a.a a.p b.a b.p < 0) hp3 p4 hsl fun a ha b hb k1 k2 => ?_
      have e : lowE a = lowE b := endLt_total (a := lowE a) (b := lowE b) k1 k2
      have ha' := hp3.mem_iff.1 ha
      have hb' := hp3.mem_iff.1 hb
      have hkf : ((js.map toLk).flatMap endsL).Nodup := by
        rw [← keys_flat, hlz]; exact hk
      exact flat_one hkf ha' hb' (k := lowE a) (by unfold endsL lowE; simp) (by rw [e]; unfold endsL lowE; simp)
    refine ⟨ds', c1, c2, rfl, hd.lies, hde, ?_, hb⟩
    have := own_lkv hll
    rw [hle, hlz] at this
    exact this
end Bk
end Go.Proofs.YtebaopiedlioiaaGreatDoor
namespace Go.Proofs.YtebaopiedlioiaaGreatDoor
open Go.RowKit Go

/-- Bytes in a row of one's own, marked behind its end or not. -/
def BytK (w : World) (B : Nat) (v : Value) (l : List UInt8) : Prop := w.ownsRow B 5 1 v l.length (Lib.byteCells l) ∨
  ∃ g cap cur, v = .slice (some ⟨g, 0, none⟩) l.length cap ∧ B ≤ g ∧ w.heap[g]? = some (.cells cur 5 (cap, cap + 1)) ∧ l.length ≤ cap ∧ cap ≤ maxLen ∧ cur.size = cap ∧ cur.toList.take l.length = Lib.byteCells l
theorem BytK.form {w : World} {B : Nat} {v : Value} {l : List UInt8} (h : BytK w B v l) : ∃ ao cap, v = .slice ao l.length cap := by
  rcases h with h | ⟨g, cap, cur, e, _⟩
  · exact own_formJ h
  · exact ⟨_, cap, e⟩
theorem BytK.lt {w : World} {B : Nat} {v : Value} {l : List UInt8} (h : BytK w B v l) : ∀ k, v.ownBlock = some k → B ≤ k ∧ k < w.heap.size := by
  rcases h with h | ⟨g, cap, cur, e, hB, hh, _⟩
  · exact h.lt
  · intro k hk
    rw [e] at hk
    simp only [Value.ownBlock, Option.some.injEq] at hk
    subst hk
    exact ⟨hB, lt_of_block hh⟩
theorem BytK.same {w w' : World} {B : Nat} {v : Value} {l : List UInt8} (h : BytK w B v l) (hs : ∀ k, v.ownBlock = some k → w'.heap[k]? = w.heap[k]?) : BytK w' B v l := by
  rcases h with h | ⟨g, cap, cur, e, hB, hh, r⟩
  · exact .inl (own_sameJ h hs)
  · exact .inr ⟨g, cap, cur, e, hB, (hs g (by rw [e]; rfl)).trans hh, r⟩
theorem bytesRow_take (l : List UInt8) (cap : Nat) : (bytesRow (tx l) cap).toList.take l.length = Lib.byteCells l := by
  unfold bytesRow Lib.byteCells
  rw [Array.toList_append]
  have e : ((tx l).data.map fun b => Value.int .u8 b.toNat).toList = l.map fun b => Value.int .u8 b.toNat := by simp
  rw [e, List.take_append_of_le_length (by simp)]
  rw [List.take_of_length_le (by simp)]
/-- []byte(s). -/
theorem conv_bytes (w : World) (l : List UInt8) (hl : l.length ≤ maxLen) : ∃ v w', (convert 9 87 (.string (tx l))).run Tryz.prog w = .ok v w' ∧ BytK w' w.heap.size v l ∧ Below w.heap.size w w' := by
  have h := run_bytes_of_string (P := Tryz.prog) w 9 87 5 (tx l) Tryz.underlying9 Tryz.underlying87 Tryz.underlying5
  have hge := grownCap_ge w (tx l).size 0 5
  have hle := grownCap_le_maxLen w (tx l).size 0 5 (by rw [tx_size]; exact hl)
  obtain ⟨c, hc⟩ : ∃ c, c = grownCap w (tx l).size 0 5 := ⟨_, rfl⟩
  rw [← hc] at h hge hle
  rw [tx_size] at hge
  have hsz : (bytesRow (tx l) c).size = c := by
    unfold bytesRow
    rw [Array.size_append, Array.size_map, Array.size_replicate]
    show (tx l).size + (c - (tx l).size) = c
    rw [tx_size]; omega
  rw [hsz, tx_size] at h
  refine ⟨_, _, h, .inr ⟨w.heap.size, c, _, rfl, Nat.le_refl _, new_0 w.drew _, hge, hle, hsz, bytesRow_take l c⟩, ((Below.refl _ _).drew).alloc (Nat.le_refl _) _⟩
/-- append of a text's bytes. -/
theorem run_append_bytK {w : World} {B : Nat} {v : Value} {l t : List UInt8} (h : BytK w B v l) (ty : TypeId) (h63 : l.length + t.length ≤ 140737488355328) (hB : B ≤ w.heap.size) :
    ∃ v' w', (Builtin.append_ #[87, 9] ty #[v, .string (tx t)]).run Tryz.prog w = .ok v' w' ∧ BytK w' B v' (l ++ t) ∧ w.grownBy w' v.ownBlock := by
  obtain ⟨i, hi, hz0, hz1, hz2⟩ := info_parts Tryz.infoU8
  have hlt : (l ++ t).length = l.length + t.length := List.length_append
  have hm : l.length + t.length ≤ maxLen := by unfold maxLen; omega
  rcases h with h | ⟨g, cap, cur, rfl, hBg, hh, hn, hcm, hcs, htake⟩
  · obtain ⟨v', w', h1, h2, h3, _⟩ := Lib.run_append_own_string (P := Tryz.prog) w B 87 9 ty 5 i Tryz.underlying87 Tryz.underlying9 hi hz0 hz1 hz2 v l.length (Lib.byteCells l) h (tx t) (by rw [tx_size]; exact hm) (by rw [tx_size]; exact h63) hB
    refine ⟨v', w', h1, .inl ?_, h3⟩
    rw [hlt, Lib.byteCells_append]
    rw [tx_size] at h2
    exact h2
  · have hcell : ∀ j, j < cap → (w.cell? ⟨g, j, none⟩).isSome = true := fun j hj => by
      rw [cell_at hh, Array.getElem?_eq_getElem (by omega)]; rfl
    by_cases hroom : l.length + t.length ≤ cap
    · have hf := Lib.run_firstCells_string (P := Tryz.prog) w 1 (tx t)
      have hsl : (Lib.strCells (tx t)).length = t.length := by rw [Lib.strCells_length, tx_size]
      have hst := run_storeCells_cells (P := Tryz.prog) g l.length (Lib.strCells (tx t)) 0 w (fun j hj => hcell _ (by omega)) (fun j hj => by
        unfold World.frozen?
        rw [hh]
        simp only [Bool.and_eq_false_iff, decide_eq_false_iff_not]
        left; omega) (Lib.strCells_oneCell (tx t))
      rw [Nat.add_zero] at hst
      refine ⟨.slice (some ⟨g, 0, none⟩) (l.length + t.length) cap, w.setCells g l.length (Lib.strCells (tx t)), ?_, ?_, ?_⟩
      · have hr2 : l.length + (tx t).size ≤ cap := by rw [tx_size]; exact hroom
        have key : (Builtin.append_ #[87, 9] ty #[.slice (some ⟨g, 0, none⟩) l.length cap, .string (tx t)]).run Tryz.prog w = .ok (.slice (some ⟨g, 0, none⟩) (l.length + (tx t).size) cap) (w.setCells g l.length (Lib.strCells (tx t))) := by
          simp [Builtin.append_, run_underlying Tryz.underlying87, run_underlying Tryz.underlying9, sizeOf, typeInfo, hi, hz1, Builtin.lenOf, hr2, hf, Addr.add_lit, hst]
        rw [tx_size] at key
        exact key
      · obtain ⟨cur', q1, q2⟩ := block_sets (Lib.strCells (tx t)) l.length w cur hh (by omega)
        refine .inr ⟨g, cap, cur', by rw [hlt], hBg, q1, by rw [hlt]; exact hroom, hcm, ?_, ?_⟩
        · rw [← Array.length_toList, q2]
          simp only [List.length_append, List.length_take, List.length_drop, Array.length_toList]
          omega
        · rw [q2, htake, Lib.byteCells_append, hlt]
          have e : (Lib.byteCells l ++ Lib.strCells (tx t)).length = l.length + t.length := by rw [List.length_append, Lib.byteCells_length, hsl]
          rw [← e, List.take_left']
          · rfl
          · rfl
      · obtain ⟨k1, k2, k3, k4, k5⟩ := sets_kept (b := g) (Lib.strCells (tx t)) l.length w
        exact ⟨k1, k2, k3, Nat.le_of_eq k4.symm, fun k _ hk => k5 k (fun e => hk (by simp [Value.ownBlock, e]))⟩
    · have holds : ∀ j u, (Lib.byteCells l)[j]? = some u → w.cell? ((⟨g, 0, none⟩ : Addr).add j) = some u := fun j u hu => by
        rw [show (⟨g, 0, none⟩ : Addr).add j = ⟨g, j, none⟩ by unfold Addr.add; split <;> simp_all]
        rw [cell_at hh, ← Array.getElem?_toList]
        rw [← htake, List.getElem?_take] at hu
        split at hu
        · exact hu
        · cases hu
      have hr := Lib.run_append_grow_string (P := Tryz.prog) w 87 9 ty 5 i (.int .u8 0) Tryz.underlying87 Tryz.underlying9 hi hz0 ⟨g, 0, none⟩ l.length cap (Lib.byteCells l) (by rw [hz1, Lib.byteCells_length, Nat.mul_one]) holds (tx t) (by rw [tx_size]; omega) (by rw [tx_size]; unfold maxLen at hm; omega) (by rw [hz2, tx_size]; exact growslice_fits (by omega) (by omega))
      have hge := grownCap_ge w (l.length + t.length) cap 5
      have hcm2 := grownCap_le_maxLen w (l.length + t.length) cap 5 hm
      rw [tx_size] at hr
      have hz : (Value.int IntKind.u8 0).cells.size = 1 := rfl
      refine ⟨_, _, hr, .inl ⟨by rw [hlt, Lib.byteCells_length, hlt, Nat.mul_one], .inr ⟨w.heap.size, _, _, by rw [hlt], hB, new_0 w.drew _, by rw [hlt]; exact hge, hcm2, ?_, ?_⟩⟩, ⟨rfl, rfl, rfl, by simp, fun k hk _ => Below.heap_alloc _ _ _ (by exact hk)⟩⟩
      · simp only [Array.size_append, List.size_toArray, size_zeroCells, hz, Lib.byteCells_length, Lib.strCells_length, tx_size]
        omega
      · rw [hlt, Lib.byteCells_append, Nat.mul_one]
        simp only [Array.toList_append, List.append_assoc]
        rw [← List.append_assoc]
        have e : (Lib.byteCells l ++ Lib.strCells (tx t)).length = l.length + t.length := by rw [List.length_append, Lib.byteCells_length, Lib.strCells_length, tx_size]
        rw [← e, List.take_left']
        · rfl
        · rfl
/-- The operation, in a walk. -/
theorem wpList_append_bytK {w : World} {ops : Array Oper} {rest : List Oper} {o : Oper} {a : Act} {Q : Exit → Act → World → Prop} (hgd : o.guard = none) (s x : Operand)
    (ho : o.op = .call { callee := .builtin .append, args := #[s, x], argTypes := #[87, 9] }) {B : Nat} {v : Value} {l t : List UInt8} (hs : a.eval s = v) (hown : BytK w B v l) (hx : a.eval x = .string (tx t)) (h63 : l.length + t.length ≤ 140737488355328) (hB : B ≤ w.heap.size)
    (h : ∀ v' w', BytK w' B v' (l ++ t) → w.grownBy w' v.ownBlock → wpList Tryz.prog ops Q rest (a.put o.dst v') w') : wpList Tryz.prog ops Q (o :: rest) a w := by
  refine wpList_plain hgd fun K hK => ?_
  obtain ⟨v', w', hr, h2, h3⟩ := run_append_bytK hown o.type h63 hB
  unfold Oper.wp execOp
  simp only [ho, resolve, invoke, builtin, Sem.run_bind, Sem.run_pure, Result.andThen_ok, List.map_toArray, List.map_cons, List.map_nil, hs, hx, hr]
  exact hK _ _ (h v' w' h2 h3)
theorem conv_nilJ (w : World) : (convert 87 9 (.slice none 0 0)).run Tryz.prog w = .ok (.string (tx [])) w := by kernel_rfl
/-- Bytes of one's own, as a text. -/
theorem bytK_conv {w : World} {B : Nat} {v : Value} {l : List UInt8} (h : BytK w B v l) : (convert 87 9 v).run Tryz.prog w = .ok (.string (tx l)) w := by
  have key : ∀ (g cap : Nat), (∀ i, i < l.length → w.cell? ⟨g, i, none⟩ = some (.int .u8 ((l.getD i 0).toNat : Int))) → (convert 87 9 (.slice (some ⟨g, 0, none⟩) l.length cap)).run Tryz.prog w = .ok (.string (tx l)) w := fun g cap hc => by
    have hcv := run_convert_bytes_arg (P := Tryz.prog) w 87 5 Tryz.underlying87 Tryz.underlying5 g 0 l.length cap (l.map fun c => (c.toNat : Int)) (by rw [List.length_map]) (fun i hi => by
      have hi2 : i < l.length := by simpa using hi
      rw [Nat.zero_add, hc i hi2, List.getD_eq_getElem?_getD, List.getD_eq_getElem?_getD, List.getElem?_map, List.getElem?_eq_getElem hi2]
      rfl) 9 Tryz.underlying9
    have hst : strOfNums (l.map fun c => (c.toNat : Int)) = tx l := by
      unfold strOfNums; exact congrArg ByteArray.mk (by simp [Function.comp_def])
    rw [hst] at hcv
    exact hcv
  have hb : ∀ i, i < l.length → (Lib.byteCells l)[i]? = some (.int .u8 ((l.getD i 0).toNat : Int)) := fun i hi => by
    unfold Lib.byteCells
    rw [List.getElem?_map, List.getElem?_eq_getElem hi, List.getD_eq_getElem?_getD, List.getElem?_eq_getElem hi]
    rfl
  have take : ∀ (g : Nat) (cur : Array Value) (fz : Nat × Nat), w.heap[g]? = some (.cells cur 5 fz) → cur.toList.take l.length = Lib.byteCells l → ∀ i, i < l.length → w.cell? ⟨g, i, none⟩ = some (.int .u8 ((l.getD i 0).toNat : Int)) := fun g cur fz hh ht i hi => by
    rw [cell_at hh, ← Array.getElem?_toList]
    have := hb i hi
    rw [← ht, List.getElem?_take, if_pos hi] at this
    exact this
  rcases h with h | ⟨g, cap, cur, rfl, _, hh, _, _, _, ht⟩
  · rcases h.2 with ⟨rfl, h0⟩ | ⟨g, cap, cur, rfl, _, hh, _, _, _, ht⟩
    · have e : l = [] := List.length_eq_zero_iff.1 h0
      subst e
      exact conv_nilJ w
    · exact key g cap (take g cur _ hh (by rw [Nat.mul_one] at ht; exact ht))
  · exact key g cap (take g cur _ hh ht)
end Go.Proofs.YtebaopiedlioiaaGreatDoor
