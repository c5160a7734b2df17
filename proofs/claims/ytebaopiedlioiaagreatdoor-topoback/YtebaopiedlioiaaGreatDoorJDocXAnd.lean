/-
  The document's link.
  The document's width: a topology's first line.
  The document's end of a link.
  The document's taken: has a link that port already?
-/
import Derived.Test.YtebaopiedlioiaaGreatDoorJDocPAnd
import Derived.Test.YtebaopiedlioiaaGreatDoorWBuildAnd
import Derived.Test.YtebaopiedlioiaaGreatDoorJDvOAnd
namespace Go.Proofs.YtebaopiedlioiaaGreatDoor
open Go.RowKit
open Wo (Wd)
namespace Dt

/-- A link as a text has it. -/
abbrev NmZ := (List UInt8 × List UInt8) × (List UInt8 × List UInt8)
def nmC (q : NmZ) : List Value := [.string (tx q.1.1), .string (tx q.1.2), .string (tx q.2.1), .string (tx q.2.2)]
abbrev nmO (q : NmZ) : Obj := .cells #[.string (tx q.1.1), .string (tx q.1.2), .string (tx q.2.1), .string (tx q.2.2)] 127
def flatN (ns : List NmZ) : List Value := ns.flatMap nmC
/-- Links that lie somewhere. -/
structure NmV (w : World) (v : Value) (ns : List NmZ) : Prop where
  form : ∃ av cap, v = .slice av ns.length cap ∧ (ns = [] ∨ ∃ G o, av = some ⟨G, o, none⟩ ∧ G < w.heap.size ∧ ∀ (i : Nat) (q : NmZ), ns[i]? = some q → w.cell? ⟨G, o + i * 4, none⟩ = some (.string (tx q.1.1)) ∧ w.cell? ⟨G, o + i * 4 + 1, none⟩ = some (.string (tx q.1.2)) ∧ w.cell? ⟨G, o + i * 4 + 2, none⟩ = some (.string (tx q.2.1)) ∧ w.cell? ⟨G, o + i * 4 + 3, none⟩ = some (.string (tx q.2.2)))
/-- Has it that port? -/
def atN (q : NmZ) (d p : List UInt8) : Bool := ((q.1.1 == d) && (q.1.2 == p)) || ((q.2.1 == d) && (q.2.2 == p))
def takN (ns : List NmZ) (d p : List UInt8) : Bool := ns.any fun q => atN q d p
theorem takN_false {ns : List NmZ} {d p : List UInt8} (h : ∀ (i : Nat) (q : NmZ), ns[i]? = some q → atN q d p = false) : takN ns d p = false := by
  unfold takN
  rw [List.any_eq_false]
  intro q hq
  obtain ⟨i, hi⟩ := List.getElem?_of_mem hq
  rw [h i q hi]; simp
theorem takN_true {ns : List NmZ} {d p : List UInt8} {i : Nat} {q : NmZ} (hi : ns[i]? = some q) (h : atN q d p = true) : takN ns d p = true := by
  unfold takN
  rw [List.any_eq_true]
  exact ⟨q, List.mem_of_getElem? hi, h⟩

set_option maxRecDepth 20000 in
set_option maxHeartbeats 1000000 in
theorem Rtaken_any {w : World} {pb : Nat} {x0 x1 x2 : Value} {nv : Option Addr} {M nc : Nat} {ns : List NmZ} {d m : List UInt8} (hp : w.heap[pb]? = some (.cells #[x0, x1, x2, .slice nv M nc] 68 (0, 0))) (hV : NmV w (.slice nv M nc) ns) (hn : ns.length ≤ 100000) :
    Calls Tryz.prog 102 #[.pointer (some ⟨pb, 0, none⟩), .string (tx d), .string (tx m)] w fun en w' => en = .returned (.bool (takN ns d m)) ∧ Below w.heap.size w w' := by
  obtain ⟨av, cap, e, hr⟩ := hV.form
  injection e with e1 e2 e3
  subst e1; subst e2; subst e3
  obtain ⟨n, hnn⟩ : ∃ n, n = ns.length := ⟨_, rfl⟩
  have HN := hid hnn
  rw [← hnn] at hn hp
  have HR := hid hr
  have HP := hid hp
  have hpl := lt_of_block hp
  clear hr hnn hV hp
  go_enter Tryz.func102, Tryz.ntmps102
  go_wp2_with fail
  go_loopw [7] (fun i wr => ∃ j : Nat, j ≤ n ∧ i = .int .i64 j ∧ Hid (∀ (i : Nat) (q : NmZ), i < j → ns[i]? = some q → atN q d m = false) ∧ Hid (Below w.heap.size w wr)) (fun i _ => n - (intOf i).toNat)
  case atStart => exact ⟨0, Nat.zero_le _, rfl, hid fun i x hi => absurd hi (Nat.not_lt_zero i), Below.refl _ _⟩
  case round =>
    obtain ⟨j, hj, rfl, HJ1, HB⟩ := hrel
    have p1 : wr.cell? ⟨pb, 3, none⟩ = some (.slice nv n nc) := by rw [cell_at ((HB.out.block _ hpl).trans HP.out)]; rfl
    by_cases hlt : j < n
    · obtain ⟨⟨⟨a, p⟩, b, q⟩, hq⟩ : ∃ q, ns[j]? = some q := ⟨_, List.getElem?_eq_getElem (by have := HN.out; omega)⟩
      obtain ⟨G, o, rfl, hG, hcell⟩ := HR.out.resolve_left (fun e => by rw [e] at hq; simp at hq)
      have hwG : wr.heap[G]? = w.heap[G]? := HB.out.block G hG
      obtain ⟨z0, z1, z2, z3⟩ := hcell j _ hq
      have y0 := (World.cell?_of_block (a := ⟨G, o + j * 4, none⟩) hwG).trans z0
      have y1 := (World.cell?_of_block (a := ⟨G, o + j * 4 + 1, none⟩) hwG).trans z1
      have y2 := (World.cell?_of_block (a := ⟨G, o + j * 4 + 2, none⟩) hwG).trans z2
      have y3 := (World.cell?_of_block (a := ⟨G, o + j * 4 + 3, none⟩) hwG).trans z3
      simp only at y0 y1 y2 y3
      have HX := hid hq
      have hkI : (j : Int) < (n : Int) := by omega
      have hk0 : (0 : Int) ≤ (j : Int) := by omega
      obtain ⟨W5, hW5⟩ : ∃ W5, W5 = wr.alloc (nmO ((a, p), b, q)) := ⟨_, rfl⟩
      obtain ⟨kb, hkb⟩ : ∃ kb, kb = wr.heap.size := ⟨_, rfl⟩
      have h5 : W5.heap[kb]? = some (nmO ((a, p), b, q)) := by rw [hW5, hkb]; exact new_0 _ _
      have HB5 := hid (show Below w.heap.size w W5 from by rw [hW5]; exact HB.out.alloc HB.out.size _)
      have r0 : W5.cell? ⟨kb, 0, none⟩ = some (.string (tx a)) := by rw [cell_at h5]; rfl
      have r1 : W5.cell? ⟨kb, 1, none⟩ = some (.string (tx p)) := by rw [cell_at h5]; rfl
      have r2 : W5.cell? ⟨kb, 2, none⟩ = some (.string (tx b)) := by rw [cell_at h5]; rfl
      have r3 : W5.cell? ⟨kb, 3, none⟩ = some (.string (tx q)) := by rw [cell_at h5]; rfl
      obtain ⟨ba, hba⟩ : ∃ x, (a == d) = x := ⟨_, rfl⟩
      obtain ⟨bp, hbp⟩ : ∃ x, (p == m) = x := ⟨_, rfl⟩
      obtain ⟨bb, hbb⟩ : ∃ x, (b == d) = x := ⟨_, rfl⟩
      obtain ⟨bq, hbq⟩ : ∃ x, (q == m) = x := ⟨_, rfl⟩
      have HAT := hid (show atN ((a, p), b, q) d m = ((ba && bp) || (bb && bq)) by rw [← hba, ← hbp, ← hbb, ← hbq]; rfl)
      have HT := hid (fun (h : ((ba && bp) || (bb && bq)) = true) => (takN_true HX.out (HAT.out.trans h) : takN ns d m = true))
      have HF := hid (fun (h : ((ba && bp) || (bb && bq)) = false) => (show ∀ (i : Nat) (q : NmZ), i < j + 1 → ns[i]? = some q → atN q d m = false from fun i y hi hy => by
        by_cases ej : i = j
        · rw [ej, HX.out] at hy
          injection hy with hy
          rw [← hy]; exact HAT.out.trans h
        · exact HJ1.out i y (by omega) hy))
      clear z0 z1 z2 z3 hwG hcell hq h5
      go_upto_region 5 with fail
      rw [← hW5, ← hkb]
      clear hW5 hkb y0 y1 y2 y3 p1
      cases ba <;> cases bp <;> cases bb <;> cases bq
      all_goals (
        first
          | (have HE := hid (HT.out rfl)
             go_wp2
             go_ret
             exact ⟨by rw [HE.out]; rfl, HB5.out⟩)
          | (have HE := hid (HF.out rfl)
             go_wp2
             go_roundw
             case rel => exact ⟨j + 1, by omega, by go_num, HE, HB5⟩
             case measure => simp [intOf]; omega))
    · have hkI : ¬ ((j : Int) < (n : Int)) := by omega
      have HE := hid (show takN ns d m = false from takN_false fun i q hq => HJ1.out i q (by have := (List.getElem?_eq_some_iff.1 hq).1; have := HN.out; omega) hq)
      clear hlt HJ1
      go_wp2
      go_ret
      exact ⟨by rw [HE.out]; rfl, HB.out⟩
end Dt
end Go.Proofs.YtebaopiedlioiaaGreatDoor
namespace Go.Proofs.YtebaopiedlioiaaGreatDoor
open Go.RowKit
open Wo (Wd)

theorem plJ_some {t : List UInt8} : ∀ {l : List (List UInt8)} {k : Nat}, plJ t l = some k → l[k]? = some t
  | [], k, h => by cases h
  | a :: r, k, h => by
    unfold plJ at h
    split at h
    · rename_i e
      injection h with h
      subst h
      rw [e]; rfl
    · cases hp : plJ t r with
      | none => rw [hp] at h; cases h
      | some i =>
        rw [hp] at h
        injection h with h
        subst h
        rw [List.getElem?_cons_succ]
        exact plJ_some hp
namespace Dt

/-- An end as the document reads it. -/
def endD (ds : List To.Dv) (ns : List NmZ) (d0 p0 : List UInt8) (l : List Wd) (i : Nat) : Except Ru.Ft (List UInt8 × List UInt8) :=
  if Wo.nameB (atW l i).1 = false then .error (Ru.ft (atW l i) 31) else
  match plJ (atW l i).1 (ds.map (·.name)) with
  | none => .error (Ru.ft (atW l i) 112)
  | some k =>
    if Wo.nameB (atW l (i + 1)).1 = false then .error (Ru.ft (atW l (i + 1)) 31) else
    if (ds.getD k dv0).prt.contains (atW l (i + 1)).1 = false then .error (Ru.ft (atW l (i + 1)) 112) else
    if (takN ns (atW l i).1 (atW l (i + 1)).1 || (((atW l i).1 == d0) && ((atW l (i + 1)).1 == p0))) = true then .error (Ru.ft (atW l (i + 1)) 111) else
    .ok ((atW l i).1, (atW l (i + 1)).1)
/-- What end leaves. -/
def EndD (w : World) (rb g : Nat) (l : List Wd) (i a b : Nat) (r : Except Ru.Ft (List UInt8 × List UInt8)) (en : Ending) (w' : World) : Prop :=
  w.grownBy w' (some rb) ∧ ((∃ d p, r = .ok (d, p) ∧ en = .returned (.tuple #[.string (tx d), .string (tx p)]) ∧ RfAt w' rb g l (i + 1 + 1) a b 0) ∨ (∃ f j, r = .error f ∧ f.2.2 ≠ 0 ∧ en = .returned (.tuple #[.string (tx []), .string (tx [])]) ∧ RfAt w' rb g l j f.1 f.2.1 f.2.2))

set_option maxRecDepth 20000 in
set_option maxHeartbeats 1000000 in
theorem Rend_any {w : World} {pb rb g : Nat} {l : List Wd} {i a b : Nat} {x0 x2 : Value} {dv nv : Option Addr} {N dc M nc : Nat} {ds : List (To.Dv × Value × Value)} {ns : List NmZ} {d0 p0 : List UInt8} (h : RfAt w rb g l i a b 0) (hp : w.heap[pb]? = some (.cells #[x0, .slice dv N dc, x2, .slice nv M nc] 68 (0, 0))) (hpr : pb ≠ rb)
    (hD : ∀ W, w.grownBy W (some rb) → DvL W (.slice dv N dc) ds) (hV : ∀ W, w.grownBy W (some rb) → NmV W (.slice nv M nc) ns) (hdn : ds.length ≤ 100000) (hnn : ns.length ≤ 100000) :
    Calls Tryz.prog 66 #[.pointer (some ⟨pb, 0, none⟩), .pointer (some ⟨rb, 0, none⟩), .string (tx d0), .string (tx p0)] w fun en w' => EndD w rb g l i a b (endD (ds.map (·.1)) ns d0 p0 l i) en w' := by
  have HN := hid (Rname_any h)
  have HD := hid hD
  have HV := hid hV
  have HPB := hid (fun (W : World) (hg : w.grownBy W (some rb)) => (hg.block pb (lt_of_block hp) (fun e => hpr (by injection e))).trans hp)
  have hys := atW_short h.ok i
  have hzs := atW_short h.ok (i + 1)
  have hll := h.ok.len
  obtain ⟨y, hy⟩ : ∃ y, y = atW l i := ⟨_, rfl⟩
  obtain ⟨z, hz⟩ : ∃ z, z = atW l (i + 1) := ⟨_, rfl⟩
  have HY := hid hy
  have HZ := hid hz
  have HE := hid (show endD (ds.map (·.1)) ns d0 p0 l i = if Wo.nameB y.1 = false then .error (Ru.ft y 31) else match plJ y.1 (ds.map (·.1.name)) with | none => .error (Ru.ft y 112) | some k => if Wo.nameB z.1 = false then .error (Ru.ft z 31) else if ((ds.map (·.1)).getD k dv0).prt.contains z.1 = false then .error (Ru.ft z 112) else if (takN ns y.1 z.1 || ((y.1 == d0) && (z.1 == p0))) = true then .error (Ru.ft z 111) else .ok (y.1, z.1) from by
    unfold endD; rw [← hy, ← hz, List.map_map]; rfl)
  rw [← hy] at hys
  rw [← hz] at hzs
  unfold NameD at HN
  rw [← hy] at HN
  clear h hD hV hp hy hz
  go_enter Tryz.func66, Tryz.ntmps66
  go_wp2_with fail
  refine HN.out.mono ?_
  rintro en w1 ⟨rfl, hg1, ⟨hnb, hr1⟩ | ⟨hnb, hr1⟩⟩
  · have HR1 := hid hr1
    have HG1 := hid hg1
    obtain ⟨c1, c2, c3, c4, f1, f2, f3, f4⟩ := hr1.cells
    have HKN := hid (Rknown_any (s := y.1) (HPB.out w1 hg1) (HD.out w1 hg1) hdn)
    have HNB := hid hnb
    clear hg1 hr1 hnb
    cases hk : plJ y.1 (ds.map (·.1.name)) with
    | none =>
      have HE1 := hid (show endD (ds.map (·.1)) ns d0 p0 l i = .error (Ru.ft y 112) from by
        rw [HE.out, if_neg (by rw [HNB.out]; simp), hk])
      rw [show plZ y.1 (ds.map (·.1.name)) = -1 by unfold plZ; rw [hk]] at HKN
      have HFL := hid (Fail_any HR1.out 112)
      rw [← HY.out] at HFL
      clear hk
      go_wp2_with fail
      refine HKN.out.mono ?_
      rintro en w2 ⟨rfl, hw2⟩
      obtain rfl : w1 = w2 := hw2.symm
      clear c1 c2 c3 c4 f1 f2 f3 f4
      go_wp2_with fail
      refine HFL.out.mono ?_
      rintro en w3 ⟨rfl, hr3, hg3⟩
      have HF := hid (show EndD w rb g l i a b (endD (ds.map (·.1)) ns d0 p0 l i) (.returned (.tuple #[.string (tx []), .string (tx [])])) w3 from ⟨grownTwo HG1.out hg3, .inr ⟨_, i, HE1.out, by show (112 : Nat) ≠ 0; decide, rfl, hr3⟩⟩)
      clear hr3 hg3
      go_wp2
      go_ret2
      exact HF.out
    | some k =>
      have hkl := plJ_some hk
      have HE1 := hid (show endD (ds.map (·.1)) ns d0 p0 l i = if Wo.nameB z.1 = false then .error (Ru.ft z 31) else if ((ds.map (·.1)).getD k dv0).prt.contains z.1 = false then .error (Ru.ft z 112) else if (takN ns y.1 z.1 || ((y.1 == d0) && (z.1 == p0))) = true then .error (Ru.ft z 111) else .ok (y.1, z.1) from by
        rw [HE.out, if_neg (by rw [HNB.out]; simp), hk])
      rw [show plZ y.1 (ds.map (·.1.name)) = (k : Int) by unfold plZ; rw [hk]] at HKN
      have hil : i < l.length := atW_lt HR1.out.le (by rw [← HY.out]; intro q; have := HNB.out; rw [q] at this; exact absurd this (by decide))
      obtain ⟨q, hq⟩ : ∃ q, ds[k]? = some q := by
        rw [List.getElem?_map, Option.map_eq_some_iff] at hkl
        obtain ⟨q, hq, -⟩ := hkl
        exact ⟨q, hq⟩
      have HQ := hid hq
      have hkn : k < ds.length := (List.getElem?_eq_some_iff.1 hq).1
      have hk100 : (k : Int) ≤ 100000 := by omega
      have hk0 : (0 : Int) ≤ (k : Int) := by omega
      have hkneg : ¬ (k : Int) < 0 := by omega
      have hiI : (i : Int) ≤ 1048575 := by omega
      obtain ⟨V, hVV⟩ : ∃ V, V = w1.setCell ⟨rb, 1, none⟩ (.int .i64 ((i : Int) + 1)) := ⟨_, rfl⟩
      have HRV := hid (show RfAt V rb g l (i + 1) a b 0 from by
        rw [hVV]
        have := HR1.out.step (i + 1) (by omega)
        rwa [show ((i + 1 : Nat) : Int) = (i : Int) + 1 by omega] at this)
      have HGV := hid (show w.grownBy V (some rb) from by rw [hVV]; exact grownTwo HG1.out (grownSet _))
      have HN2 := hid (Rname_any HRV.out)
      unfold NameD at HN2
      rw [← HZ.out] at HN2
      clear hk hkl hq
      go_wp2_with fail
      refine HKN.out.mono ?_
      rintro en w2 ⟨rfl, hw2⟩
      obtain rfl : w1 = w2 := hw2.symm
      go_upto_region 9 with fail
      rw [← hVV]
      clear hVV c1 c2 c3 c4 f1 f2 f3 f4
      go_wp2_with fail
      refine HN2.out.mono ?_
      rintro en w3 ⟨rfl, hg3, ⟨hnz, hr3⟩ | ⟨hnz, hr3⟩⟩
      · have HR3 := hid hr3
        have HG3 := hid (grownTwo HGV.out hg3)
        have HNZ := hid hnz
        obtain ⟨c1, c2, c3, c4, f1, f2, f3, f4⟩ := hr3.cells
        have hpb3 := HPB.out w3 HG3.out
        have p1 : w3.cell? ⟨pb, 1, none⟩ = some (.slice dv N dc) := by rw [cell_at hpb3]; rfl
        have hDL := HD.out w3 HG3.out
        obtain ⟨av, cap, eD, hDf⟩ := hDL.form
        injection eD with eD1 eD2 eD3
        subst eD1; subst eD2; subst eD3
        obtain ⟨D, od, rfl, hDl, hdc⟩ := hDf.resolve_left (fun e => by rw [e] at hkn; exact absurd hkn (Nat.not_lt_zero _))
        have y2 := (hdc k q HQ.out).2.2
        obtain ⟨htp, hlp⟩ := hDL.prt q (List.mem_of_getElem? HQ.out)
        have HPL := hid (Rplace_any (t := z.1) htp hlp)
        obtain ⟨ap, cp, hvp, -⟩ := id htp
        rw [hvp] at HPL y2
        obtain ⟨Lp, hLp⟩ : ∃ L, L = q.1.prt.length := ⟨_, rfl⟩
        rw [← hLp] at HPL y2
        have hzc := plZ_neg z.1 q.1.prt
        obtain ⟨zp, hzp⟩ : ∃ x, x = plZ z.1 q.1.prt := ⟨_, rfl⟩
        rw [← hzp] at HPL hzc
        obtain ⟨nD, hnD⟩ : ∃ n, n = ds.length := ⟨_, rfl⟩
        rw [← hnD] at p1 hkn
        have hknI : (k : Int) < (nD : Int) := by omega
        have HE2 := hid (show endD (ds.map (·.1)) ns d0 p0 l i = if q.1.prt.contains z.1 = false then .error (Ru.ft z 112) else if (takN ns y.1 z.1 || ((y.1 == d0) && (z.1 == p0))) = true then .error (Ru.ft z 111) else .ok (y.1, z.1) from by
          rw [HE1.out, if_neg (by rw [hnz]; simp), getD_at (show (ds.map (·.1))[k]? = some q.1 by rw [List.getElem?_map, HQ.out]; rfl)])
        have HTK := hid (Rtaken_any (d := y.1) (m := z.1) hpb3 (HV.out w3 HG3.out) hnn)
        clear hr3 hg3 hnz hpb3 hDL hDf hdc htp hlp hvp hLp hzp hnD
        cases hct : q.1.prt.contains z.1 with
        | false =>
          have hz1 : decide (zp < 0) = true := by rw [hzc, hct]; rfl
          have hz2 : zp < 0 := of_decide_eq_true hz1
          have HE3 := hid (show endD (ds.map (·.1)) ns d0 p0 l i = .error (Ru.ft z 112) from by rw [HE2.out, if_pos hct])
          have HFL := hid (Fail_any HR3.out 112)
          rw [← HZ.out] at HFL
          clear hct hzc hz1
          go_wp2_with fail
          refine HPL.out.mono ?_
          rintro en w4 ⟨rfl, hw4⟩
          obtain rfl : w3 = w4 := hw4.symm
          clear c1 c2 c3 c4 f1 f2 f3 f4
          go_wp2_with fail
          refine HFL.out.mono ?_
          rintro en w5 ⟨rfl, hr5, hg5⟩
          have HF := hid (show EndD w rb g l i a b (endD (ds.map (·.1)) ns d0 p0 l i) (.returned (.tuple #[.string (tx []), .string (tx [])])) w5 from ⟨grownTwo HG3.out hg5, .inr ⟨_, i + 1, HE3.out, by show (112 : Nat) ≠ 0; decide, rfl, hr5⟩⟩)
          clear hr5 hg5
          go_wp2
          go_ret2
          exact HF.out
        | true =>
          have hz1 : decide (zp < 0) = false := by rw [hzc, hct]; rfl
          have hz2 : ¬ zp < 0 := of_decide_eq_false hz1
          have HE3 := hid (show endD (ds.map (·.1)) ns d0 p0 l i = if (takN ns y.1 z.1 || ((y.1 == d0) && (z.1 == p0))) = true then .error (Ru.ft z 111) else .ok (y.1, z.1) from by
            rw [HE2.out, if_neg (by rw [hct]; simp)])
          have hzl : i + 1 < l.length := atW_lt HR3.out.le (by rw [← HZ.out]; intro q; have := HNZ.out; rw [q] at this; exact absurd this (by decide))
          clear hct hzc hz1
          go_wp2_with fail
          refine HPL.out.mono ?_
          rintro en w4 ⟨rfl, hw4⟩
          obtain rfl : w3 = w4 := hw4.symm
          clear c1 c2 c3 c4 f1 f2 f3 f4
          go_wp2_with fail
          refine HTK.out.mono ?_
          rintro en w5 ⟨rfl, hb5⟩
          have HR5 := hid (HR3.out.on hb5)
          have HG5 := hid (grownBelow HG3.out hb5)
          obtain ⟨c1, c2, c3, c4, f1, f2, f3, f4⟩ := HR5.out.cells
          obtain ⟨bt, hbt⟩ : ∃ x, takN ns y.1 z.1 = x := ⟨_, rfl⟩
          obtain ⟨bd, hbd⟩ : ∃ x, (y.1 == d0) = x := ⟨_, rfl⟩
          obtain ⟨bp, hbp⟩ : ∃ x, (z.1 == p0) = x := ⟨_, rfl⟩
          rw [hbt, hbd, hbp] at HE3
          rw [hbt]
          have HFL := hid (Fail_any HR5.out 111)
          rw [← HZ.out] at HFL
          have HFE := hid (fun (h : (bt || (bd && bp)) = true) (w6 : World) (hr : RfAt w6 rb g l (i + 1) z.2.1 z.2.2 111) (hg : w5.grownBy w6 (some rb)) => (show EndD w rb g l i a b (endD (ds.map (·.1)) ns d0 p0 l i) (.returned (.tuple #[.string (tx []), .string (tx [])])) w6 from ⟨grownTwo HG5.out hg, .inr ⟨_, i + 1, by rw [HE3.out, if_pos h], by show (111 : Nat) ≠ 0; decide, rfl, hr⟩⟩))
          have HFO := hid (fun (h : (bt || (bd && bp)) = false) => (show EndD w rb g l i a b (endD (ds.map (·.1)) ns d0 p0 l i) (.returned (.tuple #[.string (tx y.1), .string (tx z.1)])) (w5.setCell ⟨rb, 1, none⟩ (.int .i64 ((i : Int) + 1 + 1))) from ⟨grownTwo HG5.out (grownSet _), .inl ⟨y.1, z.1, by rw [HE3.out, if_neg (by rw [h]; simp)], rfl, by
            have := HR5.out.step (i + 1 + 1) (by omega)
            rwa [show ((i + 1 + 1 : Nat) : Int) = (i : Int) + 1 + 1 by omega] at this⟩⟩))
          clear hb5 hbt
          cases bt <;> cases bd <;> cases bp
          all_goals (
            first
              | (have HFF := hid (HFE.out rfl)
                 clear c1 c2 c3 c4 f1 f2 f3 f4
                 go_wp2_with fail
                 refine HFL.out.mono ?_
                 rintro en w6 ⟨rfl, hr6, hg6⟩
                 have HF6 := hid (HFF.out w6 hr6 hg6)
                 clear hr6 hg6
                 go_wp2
                 go_ret2
                 exact HF6.out)
              | (have HFF := hid (HFO.out rfl)
                 go_wp2
                 go_ret2
                 exact HFF.out))
      · have HE2 := hid (show endD (ds.map (·.1)) ns d0 p0 l i = .error (Ru.ft z 31) from by rw [HE1.out, if_pos hnz])
        have HF := hid (show EndD w rb g l i a b (endD (ds.map (·.1)) ns d0 p0 l i) (.returned (.tuple #[.string (tx []), .string (tx [])])) w3 from ⟨grownTwo HGV.out hg3, .inr ⟨_, i + 1, HE2.out, by show (31 : Nat) ≠ 0; decide, rfl, hr3⟩⟩)
        obtain ⟨c1, c2, c3, c4, f1, f2, f3, f4⟩ := hr3.cells
        clear hr3 hg3 hnz
        go_wp2
        go_ret2
        exact HF.out
  · have HE1 := hid (show endD (ds.map (·.1)) ns d0 p0 l i = .error (Ru.ft y 31) from by rw [HE.out, if_pos hnb])
    have HF := hid (show EndD w rb g l i a b (endD (ds.map (·.1)) ns d0 p0 l i) (.returned (.tuple #[.string (tx []), .string (tx [])])) w1 from ⟨hg1, .inr ⟨_, i, HE1.out, by show (31 : Nat) ≠ 0; decide, rfl, hr1⟩⟩)
    obtain ⟨c1, c2, c3, c4, f1, f2, f3, f4⟩ := hr1.cells
    clear hr1 hg1 hnb
    go_wp2
    go_ret2
    exact HF.out
end Dt
end Go.Proofs.YtebaopiedlioiaaGreatDoor
namespace Go.Proofs.YtebaopiedlioiaaGreatDoor
open Go.RowKit
open Wo (Wd)
namespace Dt

/-- All blocks but two stay. -/
structure Gr2D (w w' : World) (rb pb : Nat) : Prop where
  os : w'.os = w.os
  tape : w'.tape = w.tape
  output : w'.output = w.output
  size : w.heap.size ≤ w'.heap.size
  block : ∀ k, k < w.heap.size → k ≠ rb → k ≠ pb → w'.heap[k]? = w.heap[k]?
theorem gr2D_of {w w' : World} {rb pb : Nat} (h : w.grownBy w' (some rb)) : Gr2D w w' rb pb := ⟨h.os, h.tape, h.output, h.size, fun k hk h1 _ => h.block k hk (fun e => h1 (by injection e))⟩
theorem Gr2D.set {w a : World} {rb pb o : Nat} (h : Gr2D w a rb pb) (v : Value) : Gr2D w (a.setCell ⟨pb, o, none⟩ v) rb pb :=
  ⟨h.os, h.tape, h.output, by simpa using h.size, fun k hk h1 h2 => by rw [Below.heap_setCell _ _ _ _ h2]; exact h.block k hk h1 h2⟩
theorem RfAt.far {w : World} {rb g pb o : Nat} {l : List Wd} {i a b c : Nat} (h : RfAt w rb g l i a b c) (hpr : pb ≠ rb) (hgp : g ≠ pb) (v : Value) : RfAt (w.setCell ⟨pb, o, none⟩ v) rb g l i a b c := by
  obtain ⟨cap, hc⟩ := h.blk
  exact ⟨⟨cap, (Below.heap_setCell _ _ _ _ (fun e => hpr e.symm)).trans hc⟩, h.ok.kept (Below.heap_setCell _ _ _ _ hgp) (by simp), h.ne, h.le⟩
/-- The first line as the document reads it. -/
def widD (l : List Wd) : Except Ru.Ft Nat := if (atW l 0).1 ≠ To.widthT then .error (Ru.ft (atW l 0) 110) else To.wid (Ru.endW l) (l.drop 1)
/-- What width leaves. -/
def WidD (w : World) (pb rb g : Nat) (l : List Wd) (a b : Nat) (x1 x2 x3 : Value) (r : Except Ru.Ft Nat) (en : Ending) (w' : World) : Prop :=
  en = .returned (.tuple #[]) ∧ Gr2D w w' rb pb ∧ ((∃ n j, r = .ok n ∧ w'.heap[pb]? = some (.cells #[.int .i64 n, x1, x2, x3] 68 (0, 0)) ∧ RfAt w' rb g l j a b 0) ∨ (∃ f j, r = .error f ∧ f.2.2 ≠ 0 ∧ RfAt w' rb g l j f.1 f.2.1 f.2.2))

set_option maxRecDepth 20000 in
set_option maxHeartbeats 1000000 in
theorem Rwidth_any {w : World} {pb rb g : Nat} {l : List Wd} {a b : Nat} {x0 x1 x2 x3 : Value} (h : RfAt w rb g l 0 a b 0) (hp : w.heap[pb]? = some (.cells #[x0, x1, x2, x3] 68 (0, 0))) (hpr : pb ≠ rb) (hgp : g ≠ pb) :
    Calls Tryz.prog 31 #[.pointer (some ⟨pb, 0, none⟩), .pointer (some ⟨rb, 0, none⟩)] w fun en w' => WidD w pb rb g l a b x1 x2 x3 (widD l) en w' := by
  have HM := hid (Must_any h To.widthT (by decide) 110)
  have hzs := atW_short h.ok 1
  have hll := h.ok.len
  have HPB := hid (fun (W : World) (hg : w.grownBy W (some rb)) => (hg.block pb (lt_of_block hp) (fun e => hpr (by injection e))).trans hp)
  obtain ⟨z, hz⟩ : ∃ z, z = atW l 1 := ⟨_, rfl⟩
  have HZ := hid hz
  rw [← hz] at hzs
  have HE := hid (show (atW l 0).1 = To.widthT → widD l = if Wo.numE z.1 ≠ 0 then .error (Ru.ft z (Wo.numE z.1)) else if ¬ (1 ≤ Wo.numV z.1 ∧ Wo.numV z.1 ≤ 128) then .error (Ru.ft z 5) else if (l.drop 1).tail ≠ [] then .error (Ru.ft (Ru.nx (Ru.endW l) (l.drop 1).tail) 110) else .ok (Wo.numV z.1) from fun q => by
    unfold widD To.wid
    rw [if_neg (by simpa using q), hz])
  have HNU := hid (fun W => RNumber_any (tx z.1) W)
  rw [show (tx z.1).data.toList = z.1 from by simp] at HNU
  have hwt : ∀ w : World, (Instr.field 74 (wv z) 0).run Tryz.prog w = .ok (.string (tx z.1)) w := fun w => wv_text z w
  clear h hp hz
  go_enter Tryz.func31, Tryz.ntmps31
  go_wp2_with fail
  refine HM.out.mono ?_
  rintro en w1 ⟨rfl, ⟨hx, hr1⟩ | ⟨hx, hr1⟩, hg1⟩
  · have HR1 := hid hr1
    have HG1 := hid hg1
    obtain ⟨c1, c2, c3, c4, f1, f2, f3, f4⟩ := hr1.cells
    have HE1 := hid (HE.out hx)
    have HW := hid (Word_any hr1)
    rw [show atW l (0 + 1) = z from HZ.out.symm] at HW
    clear hx hr1 hg1
    go_wp2_with fail
    refine HW.out.mono ?_
    rintro en w2 ⟨rfl, hb2⟩
    have HR2 := hid (HR1.out.on hb2)
    have HG2 := hid (grownBelow HG1.out hb2)
    clear hb2 c1 c2 c3 c4 f1 f2 f3 f4
    cases hnb : Wo.numB z.1 with
    | false =>
      have HE2 := hid (show widD l = .error (Ru.ft z 32) from by rw [HE1.out, (Wo.num_bad hnb).2]; rfl)
      have HN2 := hid (HNU.out w2)
      rw [(Wo.num_bad hnb).1, (Wo.num_bad hnb).2] at HN2
      have HFL := hid (Fail_any HR2.out 32)
      rw [show atW l (0 + 1) = z from HZ.out.symm] at HFL
      clear hnb
      go_wp2_with fail
      refine HN2.out.mono ?_
      rintro en w3 ⟨rfl, hw3⟩
      obtain rfl : w2 = w3 := hw3.symm
      go_wp2_with fail
      refine HFL.out.mono ?_
      rintro en w4 ⟨rfl, hr4, hg4⟩
      have HF := hid (show WidD w pb rb g l a b x1 x2 x3 (widD l) (.returned (.tuple #[])) w4 from ⟨rfl, gr2D_of (grownTwo HG2.out hg4), .inr ⟨_, _, HE2.out, by show (32 : Nat) ≠ 0; decide, hr4⟩⟩)
      clear hr4 hg4
      go_wp2
      exact bodyPost_ret (v := .tuple #[]) (by simp [results, Tryz.results31, go_sem]) rfl HF.out
    | true =>
      have HE2 := hid (show widD l = if ¬ (1 ≤ Wo.numV z.1 ∧ Wo.numV z.1 ≤ 128) then .error (Ru.ft z 5) else if (l.drop 1).tail ≠ [] then .error (Ru.ft (Ru.nx (Ru.endW l) (l.drop 1).tail) 110) else .ok (Wo.numV z.1) from by
        rw [HE1.out, if_neg (by rw [(Wo.num_good hnb).2]; simp)])
      have HN2 := hid (HNU.out w2)
      rw [(Wo.num_good hnb).2] at HN2
      obtain ⟨n, hn⟩ : ∃ n, n = Wo.numV z.1 := ⟨_, rfl⟩
      rw [← hn] at HN2 HE2
      have hzl : 1 < l.length := atW_lt HR2.out.le (by
        rw [show atW l (0 + 1) = z from HZ.out.symm]; intro q; rw [q] at hnb; exact absurd hnb (by decide))
      clear hnb hn
      by_cases hr : 1 ≤ n ∧ n ≤ 128
      · obtain ⟨hr1, hr2⟩ := hr
        have HE3 := hid (show widD l = if (l.drop 1).tail ≠ [] then .error (Ru.ft (Ru.nx (Ru.endW l) (l.drop 1).tail) 110) else .ok n from by
          rw [HE2.out, if_neg (by simp [hr1, hr2])])
        have d1 : decide ((n : Int) < 1) = false := decide_eq_false (by omega)
        have d2 : decide ((128 : Int) < (n : Int)) = false := decide_eq_false (by omega)
        have d3 : ¬ n = 0 := by omega
        obtain ⟨c1, c2, c3, c4, f1, f2, f3, f4⟩ := HR2.out.cells
        obtain ⟨V, hVV⟩ : ∃ V, V = w2.setCell ⟨rb, 1, none⟩ (.int .i64 2) := ⟨_, rfl⟩
        have HRV := hid (show RfAt V rb g l 2 a b 0 from by
          rw [hVV]
          exact HR2.out.step 2 (by omega))
        have HGV := hid (show w.grownBy V (some rb) from by rw [hVV]; exact grownTwo HG2.out (grownSet _))
        obtain ⟨v1, v2, v3, v4, e1, e2, e3, e4⟩ := HRV.out.cells
        obtain ⟨cap, hblk⟩ := HRV.out.blk
        have v0 : V.cell? ⟨rb, 0, none⟩ = some (.slice (some ⟨g, 0, none⟩) l.length cap) := by rw [cell_at hblk]; rfl
        obtain ⟨L, hL⟩ : ∃ L, L = l.length := ⟨_, rfl⟩
        rw [← hL] at v0
        have HL := hid hL
        have HTL := hid (show (l.drop 1).tail = l.drop 2 from by rw [List.tail_drop])
        have hpv := HPB.out V HGV.out
        have p0 : V.cell? ⟨pb, 0, none⟩ = some x0 := by rw [cell_at hpv]; rfl
        have pf : V.frozen? ⟨pb, 0, none⟩ = false := free_of hpv
        have HPV := hid hpv
        have hLl : 2 ≤ L := by omega
        clear hblk hpv hL
        go_wp2_with fail
        refine HN2.out.mono ?_
        rintro en w3 ⟨rfl, hw3⟩
        obtain rfl : w2 = w3 := hw3.symm
        go_upto_region 8 with fail
        rw [← hVV]
        clear hVV c1 c2 c3 c4 f1 f2 f3 f4
        by_cases hlt : 2 < L
        · have hltI : (2 : Int) < (L : Int) := by omega
          have HE4 := hid (show widD l = .error (Ru.ft (atW l 2) 110) from by
            rw [HE3.out, HTL.out, if_pos (by intro q; have := congrArg List.length q; simp at this; have := HL.out; omega)])
          have HFL := hid (fun nq => Fail_any (w := V.drewN nq) (HRV.out.on ⟨rfl, rfl, rfl, Nat.le_refl _, fun _ _ => rfl⟩) 110)
          go_quiet (fail)
          go_wp2_with fail
          refine (HFL.out _).mono ?_
          rintro en w4 ⟨rfl, hr4, hg4⟩
          have HG4 := hid (show w.grownBy w4 (some rb) from grownTwo HGV.out ⟨hg4.os, hg4.tape, hg4.output, hg4.size, hg4.block⟩)
          have hpv := HPB.out w4 HG4.out
          have q0 : w4.cell? ⟨pb, 0, none⟩ = some x0 := by rw [cell_at hpv]; rfl
          have qf : w4.frozen? ⟨pb, 0, none⟩ = false := free_of hpv
          have HF := hid (show WidD w pb rb g l a b x1 x2 x3 (widD l) (.returned (.tuple #[])) (w4.setCell ⟨pb, 0, none⟩ (.int .i64 n)) from ⟨rfl, (gr2D_of HG4.out).set _, .inr ⟨_, 2, HE4.out, by show (110 : Nat) ≠ 0; decide, hr4.far hpr hgp _⟩⟩)
          clear hr4 hg4 hpv v0 v1 v2 v3 v4 e1 e2 e3 e4 p0 pf
          go_wp2
          exact bodyPost_end (v := .tuple #[]) (by simp [results, Tryz.results31, go_sem]) rfl HF.out
        · have hltI : ¬ (2 : Int) < (L : Int) := by omega
          have HE4 := hid (show widD l = .ok n from by
            rw [HE3.out, HTL.out, if_neg (by simp; have := HL.out; omega)])
          have HF := hid (fun nq => (show WidD w pb rb g l a b x1 x2 x3 (widD l) (.returned (.tuple #[])) ((V.drewN nq).setCell ⟨pb, 0, none⟩ (.int .i64 n)) from ⟨rfl, (gr2D_of ⟨HGV.out.os, HGV.out.tape, HGV.out.output, HGV.out.size, HGV.out.block⟩ : Gr2D w (V.drewN nq) rb pb).set _, .inl ⟨n, 2, HE4.out, (block_set (o := 0) _ HPV.out), (HRV.out.on (w' := V.drewN nq) ⟨rfl, rfl, rfl, Nat.le_refl _, fun _ _ => rfl⟩).far hpr hgp _⟩⟩))
          go_quiet (fail)
          go_wp2
          exact bodyPost_end (v := .tuple #[]) (by simp [results, Tryz.results31, go_sem]) rfl (HF.out _)
      · have HE3 := hid (show widD l = .error (Ru.ft z 5) from by rw [HE2.out, if_pos hr])
        have HFL := hid (Fail_any HR2.out 5)
        rw [show atW l (0 + 1) = z from HZ.out.symm] at HFL
        have HF := hid (fun (w4 : World) (hr4 : RfAt w4 rb g l (0 + 1) z.2.1 z.2.2 5) (hg4 : w2.grownBy w4 (some rb)) => (show WidD w pb rb g l a b x1 x2 x3 (widD l) (.returned (.tuple #[])) w4 from ⟨rfl, gr2D_of (grownTwo HG2.out hg4), .inr ⟨_, _, HE3.out, by show (5 : Nat) ≠ 0; decide, hr4⟩⟩))
        go_wp2_with fail
        refine HN2.out.mono ?_
        rintro en w3 ⟨rfl, hw3⟩
        obtain rfl : w2 = w3 := hw3.symm
        by_cases q1 : n = 0
        · subst q1
          go_wp2_with fail
          refine HFL.out.mono ?_
          rintro en w4 ⟨rfl, hr4, hg4⟩
          have HF4 := hid (HF.out w4 hr4 hg4)
          clear hr4 hg4
          go_wp2
          exact bodyPost_ret (v := .tuple #[]) (by simp [results, Tryz.results31, go_sem]) rfl HF4.out
        · have d1 : decide ((n : Int) < 1) = false := decide_eq_false (by omega)
          have d2 : (128 : Int) < (n : Int) := by omega
          go_wp2_with fail
          refine HFL.out.mono ?_
          rintro en w4 ⟨rfl, hr4, hg4⟩
          have HF4 := hid (HF.out w4 hr4 hg4)
          clear hr4 hg4
          go_wp2
          exact bodyPost_ret (v := .tuple #[]) (by simp [results, Tryz.results31, go_sem]) rfl HF4.out
  · have HE1 := hid (show widD l = .error (Ru.ft (atW l 0) 110) from by unfold widD; rw [if_pos hx])
    have HF := hid (show WidD w pb rb g l a b x1 x2 x3 (widD l) (.returned (.tuple #[])) w1 from ⟨rfl, gr2D_of hg1, .inr ⟨_, 0, HE1.out, by show (110 : Nat) ≠ 0; decide, hr1⟩⟩)
    obtain ⟨c1, c2, c3, c4, f1, f2, f3, f4⟩ := hr1.cells
    clear hr1 hg1 hx
    go_wp2
    exact bodyPost_ret (v := .tuple #[]) (by simp [results, Tryz.results31, go_sem]) rfl HF.out
end Dt
end Go.Proofs.YtebaopiedlioiaaGreatDoor
namespace Go.Proofs.YtebaopiedlioiaaGreatDoor
open Go.RowKit
open Wo (Wd)
namespace Dt

theorem Tryz.infoNamed : (Tryz.prog.info? 127).map (fun i => (i.zero, i.size, i.bytes)) = some (some (.agg #[.string (tx []), .string (tx []), .string (tx []), .string (tx [])]), 4, 64) := by kernel_rfl
theorem flatN_at {ns : List NmZ} : ∀ {i : Nat} {q : NmZ}, ns[i]? = some q → (flatN ns)[i * 4]? = some (.string (tx q.1.1)) ∧ (flatN ns)[i * 4 + 1]? = some (.string (tx q.1.2)) ∧ (flatN ns)[i * 4 + 2]? = some (.string (tx q.2.1)) ∧ (flatN ns)[i * 4 + 3]? = some (.string (tx q.2.2)) := by
  induction ns with
  | nil => intro i q h; simp at h
  | cons a r ih =>
    intro i q h
    have e : flatN (a :: r) = .string (tx a.1.1) :: .string (tx a.1.2) :: .string (tx a.2.1) :: .string (tx a.2.2) :: flatN r := rfl
    rw [e]
    cases i with
    | zero =>
      have : a = q := by simpa using h
      subst this
      exact ⟨rfl, rfl, rfl, rfl⟩
    | succ i =>
      obtain ⟨h0, h1, h2, h3⟩ := ih (by simpa using h)
      rw [show (i + 1) * 4 = i * 4 + 1 + 1 + 1 + 1 by omega]
      exact ⟨by simpa using h0, by simpa using h1, by simpa using h2, by simpa using h3⟩
theorem flatN_one (ns : List NmZ) : ∀ u ∈ flatN ns, u.oneCell' = true := by
  intro u hu
  obtain ⟨q, -, hu⟩ := List.mem_flatMap.1 hu
  simp only [nmC, List.mem_cons, List.not_mem_nil, or_false] at hu
  rcases hu with rfl | rfl | rfl | rfl <;> rfl
theorem own_names {w : World} {B : Nat} {nv : Option Addr} {M nc : Nat} {ns : List NmZ} (h : w.ownsRow B 127 4 (.slice nv M nc) M (flatN ns)) (hM : M = ns.length) : NmV w (.slice nv M nc) ns := by
  rcases h.2 with ⟨e, h0⟩ | ⟨g, cap, cur, e, hB, hh, hn, _, _, ht⟩
  · injection e with e1 e2 e3
    exact ⟨nv, nc, by rw [hM], .inl (List.eq_nil_of_length_eq_zero (by omega))⟩
  · injection e with e1 e2 e3
    subst e1
    refine ⟨_, nc, by rw [hM], .inr ⟨g, 0, rfl, lt_of_block hh, fun i q hq => ?_⟩⟩
    have hc : ∀ (j : Nat) (u : Value), (flatN ns)[j]? = some u → w.cell? ⟨g, 0 + j, none⟩ = some u := fun j u hj => by
      rw [Nat.zero_add, cell_at hh, ← Array.getElem?_toList]
      rw [← ht, List.getElem?_take] at hj
      split at hj
      · exact hj
      · cases hj
    obtain ⟨h0, h1, h2, h3⟩ := flatN_at hq
    exact ⟨hc _ _ h0, hc _ _ h1, hc _ _ h2, hc _ _ h3⟩
/-- A link as the document reads it. -/
def lnkD (ds : List To.Dv) (ns : List NmZ) (l : List Wd) : Except Ru.Ft NmZ :=
  match endD ds ns [] [] l 1 with
  | .error f => .error f
  | .ok dp => if (atW l 3).1 ≠ arrowT then .error (Ru.ft (atW l 3) 110) else
    match endD ds ns dp.1 dp.2 l 4 with
    | .error f => .error f
    | .ok eq => if 6 < l.length then .error (Ru.ft (atW l 6) 110) else if 4096 ≤ ns.length then .error (Ru.ft (atW l 0) 3) else .ok (dp, eq)
/-- All blocks but two, and a row's, stay. -/
structure Gr3D (w w' : World) (rb pb : Nat) (v : Value) : Prop where
  os : w'.os = w.os
  tape : w'.tape = w.tape
  output : w'.output = w.output
  size : w.heap.size ≤ w'.heap.size
  block : ∀ k, k < w.heap.size → k ≠ rb → k ≠ pb → v.ownBlock ≠ some k → w'.heap[k]? = w.heap[k]?
/-- What link leaves. -/
def LnkD (B : Nat) (w : World) (pb rb g : Nat) (l : List Wd) (a b : Nat) (x0 x1 x2 : Value) (vn : Value) (M : Nat) (ns : List NmZ) (r : Except Ru.Ft NmZ) (en : Ending) (w' : World) : Prop :=
  en = .returned (.tuple #[]) ∧ Gr3D w w' rb pb vn ∧ ((∃ q v' j, r = .ok q ∧ w'.heap[pb]? = some (.cells #[x0, x1, x2, v'] 68 (0, 0)) ∧ w'.ownsRow B 127 4 v' (M + 1) (flatN (ns ++ [q])) ∧ (v'.ownBlock = vn.ownBlock ∨ ∃ k, w.heap.size ≤ k ∧ v'.ownBlock = some k) ∧ RfAt w' rb g l j a b 0) ∨ (∃ f j, r = .error f ∧ f.2.2 ≠ 0 ∧ RfAt w' rb g l j f.1 f.2.1 f.2.2))

theorem link_put {B : Nat} {w W w3 : World} {pb rb g g3 c3 M : Nat} {l : List Wd} {x0 x1 x2 vn : Value} {ns : List NmZ} {q : NmZ} {ob : Obj} (hg : w.grownBy W (some rb)) (hp : W.heap[pb]? = some (.cells #[x0, x1, x2, vn] 68 (0, 0))) (hpw : pb < w.heap.size) (_hgl : g < W.heap.size) (_hrl : rb < W.heap.size) (hpr : pb ≠ rb) (hgp : g ≠ pb) (hnr : vn.ownBlock ≠ some rb) (hng : vn.ownBlock ≠ some g) (hnp : vn.ownBlock ≠ some pb)
    (ho : w3.ownsRow B 127 4 (.slice (some ⟨g3, 0, none⟩) (M + 1) c3) (M + 1) (flatN ns ++ nmC q)) (h3 : (W.alloc ob).grownBy w3 vn.ownBlock) (hat : vn.ownBlock = some g3 ∨ g3 = W.heap.size + 1) :
    Gr3D w (w3.setCell ⟨pb, 3, none⟩ (.slice (some ⟨g3, 0, none⟩) (M + 1) c3)) rb pb vn ∧ (w3.setCell ⟨pb, 3, none⟩ (.slice (some ⟨g3, 0, none⟩) (M + 1) c3)).heap[pb]? = some (.cells #[x0, x1, x2, .slice (some ⟨g3, 0, none⟩) (M + 1) c3] 68 (0, 0)) ∧ (w3.setCell ⟨pb, 3, none⟩ (.slice (some ⟨g3, 0, none⟩) (M + 1) c3)).ownsRow B 127 4 (.slice (some ⟨g3, 0, none⟩) (M + 1) c3) (M + 1) (flatN (ns ++ [q])) ∧ ((Value.slice (some ⟨g3, 0, none⟩) (M + 1) c3).ownBlock = vn.ownBlock ∨ ∃ k, w.heap.size ≤ k ∧ (Value.slice (some ⟨g3, 0, none⟩) (M + 1) c3).ownBlock = some k) ∧ (∀ i a b c, RfAt W rb g l i a b c → RfAt (w3.setCell ⟨pb, 3, none⟩ (.slice (some ⟨g3, 0, none⟩) (M + 1) c3)) rb g l i a b c) := by
  have hWs := hg.size
  have hs3 := h3.size
  simp only [World.size_alloc] at hs3
  have hpW : pb < W.heap.size := by omega
  have hk3 : ∀ k, k < W.heap.size → vn.ownBlock ≠ some k → w3.heap[k]? = W.heap[k]? := fun k hk hn => by
    rw [h3.block k (by simp only [World.size_alloc]; omega) (fun e => hn e.symm), Below.heap_alloc _ _ _ hk]
  have hgp3 : g3 ≠ pb := by
    rcases hat with h | h
    · intro e; rw [e] at h; exact hnp h
    · omega
  refine ⟨⟨h3.os.trans hg.os, h3.tape.trans hg.tape, h3.output.trans hg.output, by simp; omega, fun k hk h1 h2 h4 => ?_⟩, ?_, ?_, ?_, fun i a b c h => ?_⟩
  · rw [Below.heap_setCell _ _ _ _ h2, hk3 k (by omega) h4, hg.block k hk (fun e => h1 (by injection e))]
  · exact block_set (o := 3) _ ((hk3 pb hpW hnp).trans hp)
  · have e : flatN (ns ++ [q]) = flatN ns ++ nmC q := by unfold flatN; simp
    rw [e]
    exact own_sameJ ho fun k hk => Below.heap_setCell _ _ _ _ (fun e => hgp3 (by
      have : some g3 = some k := hk
      injection this with this
      rw [this]; exact e))
  · rcases hat with h | h
    · exact .inl h.symm
    · exact .inr ⟨g3, by omega, rfl⟩
  · have h5 : RfAt (W.alloc ob) rb g l i a b c := h.alloc ob
    exact (h5.row h3 hnr hng).far hpr hgp _

set_option maxRecDepth 20000 in
set_option maxHeartbeats 2000000 in
theorem Rlink11_any {B : Nat} {w : World} {pb rb g : Nat} {l : List Wd} {a b : Nat} {x0 x2 : Value} {dv nv : Option Addr} {N dc M nc : Nat} {ds : List (To.Dv × Value × Value)} {ns : List NmZ} (h : RfAt w rb g l 1 a b 0) (hp : w.heap[pb]? = some (.cells #[x0, .slice dv N dc, x2, .slice nv M nc] 68 (0, 0))) (hpr : pb ≠ rb) (hgp : g ≠ pb) (hB : B ≤ w.heap.size)
    (hD : ∀ W, w.grownBy W (some rb) → DvL W (.slice dv N dc) ds) (hO : w.ownsRow B 127 4 (.slice nv M nc) M (flatN ns)) (hM : M = ns.length) (hnr : (Value.slice nv M nc).ownBlock ≠ some rb) (hng : (Value.slice nv M nc).ownBlock ≠ some g) (hnp : (Value.slice nv M nc).ownBlock ≠ some pb) (hdn : ds.length ≤ 100000) (hnn : ns.length ≤ 4096) :
    Calls Tryz.prog 33 #[.pointer (some ⟨pb, 0, none⟩), .pointer (some ⟨rb, 0, none⟩)] w fun en w' => LnkD B w pb rb g l a b x0 (.slice dv N dc) x2 (.slice nv M nc) M ns (lnkD (ds.map (·.1)) ns l) en w' := by
  obtain ⟨i0, hi, hz0, hz1, hz2⟩ := info_parts Tryz.infoNamed
  have HI := hid hi
  have HZ0 := hid hz0
  have HZ1 := hid hz1
  have HZ2 := hid hz2
  clear hi hz0 hz1 hz2
  have HOW := hid (fun (W : World) (hg : w.grownBy W (some rb)) => (own_sameJ hO fun k hk => hg.block k (hO.lt k hk).2 (fun e => hnr (by rw [hk]; exact e)) : W.ownsRow B 127 4 (.slice nv M nc) M (flatN ns)))
  have HV := hid (fun (W : World) (hg : w.grownBy W (some rb)) => own_names (HOW.out W hg) hM)
  have HPB := hid (fun (W : World) (hg : w.grownBy W (some rb)) => (hg.block pb (lt_of_block hp) (fun e => hpr (by injection e))).trans hp)
  have HD := hid hD
  have HE1 := hid (Rend_any (d0 := []) (p0 := []) h hp hpr hD HV.out hdn (Nat.le_trans hnn (by decide)))
  have HEF := hid (fun (i : Nat) (d p : List UInt8) (W : World) (hr : RfAt W rb g l i a b 0) (hg : w.grownBy W (some rb)) => Rend_any (d0 := d) (p0 := p) hr (HPB.out W hg) hpr (fun W' hg' => hD W' (grownTwo hg hg')) (fun W' hg' => HV.out W' (grownTwo hg hg')) hdn (Nat.le_trans hnn (by decide)))
  have HL := hid (show lnkD (ds.map (·.1)) ns l = match endD (ds.map (·.1)) ns [] [] l 1 with | .error f => .error f | .ok dp => if (atW l 3).1 ≠ arrowT then .error (Ru.ft (atW l 3) 110) else match endD (ds.map (·.1)) ns dp.1 dp.2 l 4 with | .error f => .error f | .ok eq => if 6 < l.length then .error (Ru.ft (atW l 6) 110) else if 4096 ≤ ns.length then .error (Ru.ft (atW l 0) 3) else .ok (dp, eq) from rfl)
  have hll := h.ok.len
  have hpl := lt_of_block hp
  have hgl := h.ok.at_.1
  have hrl := h.lt
  have HH := hid h
  have HER := hid (fun (f : Ru.Ft) (j : Nat) (W : World) (hr : lnkD (ds.map (·.1)) ns l = .error f) (hf : f.2.2 ≠ 0) (hR : RfAt W rb g l j f.1 f.2.1 f.2.2) (hg : w.grownBy W (some rb)) => (show LnkD B w pb rb g l a b x0 (.slice dv N dc) x2 (.slice nv M nc) M ns (lnkD (ds.map (·.1)) ns l) (.returned (.tuple #[])) W from ⟨rfl, ⟨hg.os, hg.tape, hg.output, hg.size, fun k hk h1 _ _ => hg.block k hk (fun e => h1 (by injection e))⟩, .inr ⟨f, j, hr, hf, hR⟩⟩))
  have HMM := hid hM
  have hM9 : M ≤ 4096 := by omega
  clear h hp hD hO hM hnn hdn
  go_enter Tryz.func33, Tryz.ntmps33
  go_wp2_with fail
  refine HE1.out.mono ?_
  rintro en w1 ⟨hg1, ⟨d, p, he1, rfl, hr1⟩ | ⟨f, j, he1, hf, rfl, hr1⟩⟩
  · have HG1 := hid hg1
    have HR1 := hid hr1
    have HM1 := hid (Must_any hr1 arrowT (by decide) 110)
    obtain ⟨c1, c2, c3, c4, f1, f2, f3, f4⟩ := hr1.cells
    have HL1 := hid (show lnkD (ds.map (·.1)) ns l = if (atW l 3).1 ≠ arrowT then .error (Ru.ft (atW l 3) 110) else match endD (ds.map (·.1)) ns d p l 4 with | .error f => .error f | .ok eq => if 6 < l.length then .error (Ru.ft (atW l 6) 110) else if 4096 ≤ ns.length then .error (Ru.ft (atW l 0) 3) else .ok ((d, p), eq) from by
      rw [HL.out, he1])
    clear hg1 hr1 he1
    go_wp2_with fail
    refine HM1.out.mono ?_
    rintro en w2 ⟨rfl, ⟨hx, hr2⟩ | ⟨hx, hr2⟩, hg2⟩
    · have HR2 := hid hr2
      have HG2 := hid (grownTwo HG1.out hg2)
      have HE2 := hid (HEF.out 4 d p w2 hr2 HG2.out)
      have HL2 := hid (show lnkD (ds.map (·.1)) ns l = match endD (ds.map (·.1)) ns d p l 4 with | .error f => .error f | .ok eq => if 6 < l.length then .error (Ru.ft (atW l 6) 110) else if 4096 ≤ ns.length then .error (Ru.ft (atW l 0) 3) else .ok ((d, p), eq) from by
        rw [HL1.out, if_neg (by simpa using hx)])
      clear c1 c2 c3 c4 f1 f2 f3 f4
      obtain ⟨c1, c2, c3, c4, f1, f2, f3, f4⟩ := hr2.cells
      clear hx hr2 hg2
      go_wp2_with fail
      refine HE2.out.mono ?_
      rintro en w3 ⟨hg3, ⟨e, q, he2, rfl, hr3⟩ | ⟨f, j, he2, hf, rfl, hr3⟩⟩
      · have HR3 := hid hr3
        have HG3 := hid (grownTwo HG2.out hg3)
        have HL3 := hid (show lnkD (ds.map (·.1)) ns l = if 6 < l.length then .error (Ru.ft (atW l 6) 110) else if 4096 ≤ ns.length then .error (Ru.ft (atW l 0) 3) else .ok ((d, p), (e, q)) from by
          rw [HL2.out, he2])
        clear c1 c2 c3 c4 f1 f2 f3 f4
        obtain ⟨c1, c2, c3, c4, f1, f2, f3, f4⟩ := hr3.cells
        obtain ⟨cap, hblk⟩ := hr3.blk
        have v0 : w3.cell? ⟨rb, 0, none⟩ = some (.slice (some ⟨g, 0, none⟩) l.length cap) := by rw [cell_at hblk]; rfl
        obtain ⟨L, hL⟩ : ∃ L, L = l.length := ⟨_, rfl⟩
        rw [← hL] at v0
        have HLL := hid hL
        clear hblk hL hr3 hg3 he2
        have HGQ := hid (fun nq => (⟨HG3.out.os, HG3.out.tape, HG3.out.output, HG3.out.size, HG3.out.block⟩ : w.grownBy (w3.drewN nq) (some rb)))
        have HRQ := hid (fun nq => HR3.out.on (w' := w3.drewN nq) ⟨rfl, rfl, rfl, Nat.le_refl _, fun _ _ => rfl⟩)
        by_cases hlt : 6 < L
        · have hltI : (6 : Int) < (L : Int) := by omega
          have HL4 := hid (show lnkD (ds.map (·.1)) ns l = .error (Ru.ft (atW l 6) 110) from by rw [HL3.out, if_pos (by rw [← HLL.out]; exact hlt)])
          have HFL := hid (fun nq => Fail_any (HRQ.out nq) 110)
          go_wp2_with fail
          go_quiet (fail)
          go_wp2_with fail
          refine (HFL.out _).mono ?_
          rintro en W4 ⟨rfl, hr4, hg4⟩
          have HR4 := hid hr4
          have HG4 := hid (show w.grownBy W4 (some rb) from grownTwo HG3.out ⟨hg4.os, hg4.tape, hg4.output, hg4.size, hg4.block⟩)
          have d4 : W4.cell? ⟨rb, 4, none⟩ = some (.int .i64 110) := by have := hr4.cells.2.2.2.1; exact this
          clear hr4 hg4 c1 c2 c3 c4 f1 f2 f3 f4 v0
          have hpw := HPB.out W4 HG4.out
          have p3 : W4.cell? ⟨pb, 3, none⟩ = some (.slice nv M nc) := by rw [cell_at hpw]; rfl
          have pf : W4.frozen? ⟨pb, 3, none⟩ = false := free_of hpw
          have HPW := hid hpw
          have HOa := hid (fun (ob : Obj) => (own_sameJ (HOW.out W4 HG4.out) fun k hk => Below.heap_alloc _ _ _ ((HOW.out W4 HG4.out).lt k hk).2 : (W4.alloc ob).ownsRow B 127 4 (.slice nv M nc) M (flatN ns)))
          have hsW := HG4.out.size
          clear hpw
          go_wp2_with (first | (at_builtin; refine wpList_append_lies _ rfl (.tmp 75) (.tmp 81) 66 rfl B 127 i0 (.agg #[.string (tx []), .string (tx []), .string (tx []), .string (tx [])]) 4 64 Tryz.underlying66 HI.out HZ0.out HZ1.out HZ2.out rfl (by decide) (.slice nv M nc) M (flatN ns) rfl (HOa.out _) ⟨W4.heap.size, 0, none⟩ 1 1 (nmC ((d, p), (e, q))) rfl rfl (World.news_of_block (new_0 W4 _)) (by simp [nmC, Value.oneCell']) (by decide) (by unfold maxLen; omega) (by omega) (by simp only [World.size_alloc]; omega) (W4.heap.size + 1) (by simp) ?_))
          intro g3 c3x w9 hown9 hg9 hat9 hlt9
          have HX := hid (link_put (l := l) (x0 := x0) (x1 := .slice dv N dc) (x2 := x2) HG4.out HPW.out hpl (by omega) (by omega) hpr hgp hnr hng hnp hown9 hg9 hat9)
          have q3 : w9.cell? ⟨pb, 3, none⟩ = some (.slice nv M nc) := by
            rw [cell_at ((hg9.block pb (by simp only [World.size_alloc]; omega) (fun e => hnp e.symm)).trans ((Below.heap_alloc _ _ _ (by omega)).trans HPW.out))]; rfl
          have qf : w9.frozen? ⟨pb, 3, none⟩ = false := free_of ((hg9.block pb (by simp only [World.size_alloc]; omega) (fun e => hnp e.symm)).trans ((Below.heap_alloc _ _ _ (by omega)).trans HPW.out))
          have HF := hid (show LnkD B w pb rb g l a b x0 (.slice dv N dc) x2 (.slice nv M nc) M ns (lnkD (ds.map (·.1)) ns l) (.returned (.tuple #[])) (w9.setCell ⟨pb, 3, none⟩ (.slice (some ⟨g3, 0, none⟩) (M + 1) c3x)) from ⟨rfl, HX.out.1, .inr ⟨_, 6, HL4.out, by show (110 : Nat) ≠ 0; decide, HX.out.2.2.2.2 _ _ _ _ HR4.out⟩⟩)
          clear hown9 hg9 hat9 p3 pf
          go_wp2
          exact bodyPost_end (v := .tuple #[]) (by simp [results, Tryz.results33, go_sem]) rfl HF.out
        · have hltI : ¬ (6 : Int) < (L : Int) := by omega
          have hlt2 : decide ((6 : Int) < (L : Int)) = false := decide_eq_false hltI
          have HL4 := hid (show lnkD (ds.map (·.1)) ns l = if 4096 ≤ ns.length then .error (Ru.ft (atW l 0) 3) else .ok ((d, p), (e, q)) from by rw [HL3.out, if_neg (by rw [← HLL.out]; exact hlt)])
          go_wp2_with fail
          go_quiet (fail)
          obtain ⟨W3, hW3⟩ : ∃ W3, W3 = w3.drewN nq := ⟨_, rfl⟩
          have HR5 := hid (show RfAt W3 rb g l 6 a b 0 from by rw [hW3]; exact HRQ.out nq)
          have HG5 := hid (show w.grownBy W3 (some rb) from by rw [hW3]; exact HGQ.out nq)
          rw [← hW3]
          clear hW3 c1 c2 c3 c4 f1 f2 f3 f4 HGQ HRQ v0
          obtain ⟨c1, c2, c3, c4, f1, f2, f3, f4⟩ := HR5.out.cells
          have hpw5 := HPB.out W3 HG5.out
          have p35 : W3.cell? ⟨pb, 3, none⟩ = some (.slice nv M nc) := by rw [cell_at hpw5]; rfl
          clear hpw5
          by_cases hM4 : (4096 : Int) ≤ (M : Int)
          · have hM5 : decide ((4096 : Int) ≤ (M : Int)) = true := decide_eq_true hM4
            have HL5 := hid (show lnkD (ds.map (·.1)) ns l = .error (Ru.ft (atW l 0) 3) from by rw [HL4.out, if_pos (by rw [← HMM.out]; omega)])
            obtain ⟨V, hVV⟩ : ∃ V, V = W3.setCell ⟨rb, 1, none⟩ (.int .i64 0) := ⟨_, rfl⟩
            have HRV := hid (show RfAt V rb g l 0 a b 0 from by rw [hVV]; exact HR5.out.step 0 (Nat.zero_le _))
            have HGV := hid (show w.grownBy V (some rb) from by rw [hVV]; exact grownTwo HG5.out (grownSet _))
            have HFL := hid (Fail_any HRV.out 3)
            go_upto_region 9 with fail
            rw [← hVV]
            clear hVV c1 c2 c3 c4 f1 f2 f3 f4 p35
            go_wp2_with fail
            refine HFL.out.mono ?_
            rintro en W6 ⟨rfl, hr6, hg6⟩
            have HR6 := hid hr6
            have HG6 := hid (grownTwo HGV.out hg6)
            clear hr6 hg6
            have hpw := HPB.out W6 HG6.out
            have p3 : W6.cell? ⟨pb, 3, none⟩ = some (.slice nv M nc) := by rw [cell_at hpw]; rfl
            have pf : W6.frozen? ⟨pb, 3, none⟩ = false := free_of hpw
            have HPW := hid hpw
            have HOa := hid (fun (ob : Obj) => (own_sameJ (HOW.out W6 HG6.out) fun k hk => Below.heap_alloc _ _ _ ((HOW.out W6 HG6.out).lt k hk).2 : (W6.alloc ob).ownsRow B 127 4 (.slice nv M nc) M (flatN ns)))
            have hsW := HG6.out.size
            clear hpw
            go_wp2_with (first | (at_builtin; refine wpList_append_lies _ rfl (.tmp 75) (.tmp 81) 66 rfl B 127 i0 (.agg #[.string (tx []), .string (tx []), .string (tx []), .string (tx [])]) 4 64 Tryz.underlying66 HI.out HZ0.out HZ1.out HZ2.out rfl (by decide) (.slice nv M nc) M (flatN ns) rfl (HOa.out _) ⟨W6.heap.size, 0, none⟩ 1 1 (nmC ((d, p), (e, q))) rfl rfl (World.news_of_block (new_0 W6 _)) (by simp [nmC, Value.oneCell']) (by decide) (by unfold maxLen; omega) (by omega) (by simp only [World.size_alloc]; omega) (W6.heap.size + 1) (by simp) ?_))
            intro g3 c3x w9 hown9 hg9 hat9 hlt9
            have HX := hid (link_put (l := l) (x0 := x0) (x1 := .slice dv N dc) (x2 := x2) HG6.out HPW.out hpl (by omega) (by omega) hpr hgp hnr hng hnp hown9 hg9 hat9)
            have q3 : w9.cell? ⟨pb, 3, none⟩ = some (.slice nv M nc) := by
              rw [cell_at ((hg9.block pb (by simp only [World.size_alloc]; omega) (fun e => hnp e.symm)).trans ((Below.heap_alloc _ _ _ (by omega)).trans HPW.out))]; rfl
            have qf : w9.frozen? ⟨pb, 3, none⟩ = false := free_of ((hg9.block pb (by simp only [World.size_alloc]; omega) (fun e => hnp e.symm)).trans ((Below.heap_alloc _ _ _ (by omega)).trans HPW.out))
            have HF := hid (show LnkD B w pb rb g l a b x0 (.slice dv N dc) x2 (.slice nv M nc) M ns (lnkD (ds.map (·.1)) ns l) (.returned (.tuple #[])) (w9.setCell ⟨pb, 3, none⟩ (.slice (some ⟨g3, 0, none⟩) (M + 1) c3x)) from ⟨rfl, HX.out.1, .inr ⟨_, 0, HL5.out, by show (3 : Nat) ≠ 0; decide, HX.out.2.2.2.2 _ _ _ _ HR6.out⟩⟩)
            clear hown9 hg9 hat9 p3 pf
            go_wp2
            exact bodyPost_end (v := .tuple #[]) (by simp [results, Tryz.results33, go_sem]) rfl HF.out
          · have hM5 : decide ((4096 : Int) ≤ (M : Int)) = false := decide_eq_false hM4
            have HL5 := hid (show lnkD (ds.map (·.1)) ns l = .ok ((d, p), (e, q)) from by rw [HL4.out, if_neg (by rw [← HMM.out]; omega)])
            have hpw := HPB.out W3 HG5.out
            have p3 : W3.cell? ⟨pb, 3, none⟩ = some (.slice nv M nc) := by rw [cell_at hpw]; rfl
            have pf : W3.frozen? ⟨pb, 3, none⟩ = false := free_of hpw
            have HPW := hid hpw
            have HOa := hid (fun (ob : Obj) => (own_sameJ (HOW.out W3 HG5.out) fun k hk => Below.heap_alloc _ _ _ ((HOW.out W3 HG5.out).lt k hk).2 : (W3.alloc ob).ownsRow B 127 4 (.slice nv M nc) M (flatN ns)))
            have hsW := HG5.out.size
            clear hpw
            go_wp2_with (first | (at_builtin; refine wpList_append_lies _ rfl (.tmp 75) (.tmp 81) 66 rfl B 127 i0 (.agg #[.string (tx []), .string (tx []), .string (tx []), .string (tx [])]) 4 64 Tryz.underlying66 HI.out HZ0.out HZ1.out HZ2.out rfl (by decide) (.slice nv M nc) M (flatN ns) rfl (HOa.out _) ⟨W3.heap.size, 0, none⟩ 1 1 (nmC ((d, p), (e, q))) rfl rfl (World.news_of_block (new_0 W3 _)) (by simp [nmC, Value.oneCell']) (by decide) (by unfold maxLen; omega) (by omega) (by simp only [World.size_alloc]; omega) (W3.heap.size + 1) (by simp) ?_))
            intro g3 c3x w9 hown9 hg9 hat9 hlt9
            have HX := hid (link_put (l := l) (x0 := x0) (x1 := .slice dv N dc) (x2 := x2) HG5.out HPW.out hpl (by omega) (by omega) hpr hgp hnr hng hnp hown9 hg9 hat9)
            have q3 : w9.cell? ⟨pb, 3, none⟩ = some (.slice nv M nc) := by
              rw [cell_at ((hg9.block pb (by simp only [World.size_alloc]; omega) (fun e => hnp e.symm)).trans ((Below.heap_alloc _ _ _ (by omega)).trans HPW.out))]; rfl
            have qf : w9.frozen? ⟨pb, 3, none⟩ = false := free_of ((hg9.block pb (by simp only [World.size_alloc]; omega) (fun e => hnp e.symm)).trans ((Below.heap_alloc _ _ _ (by omega)).trans HPW.out))
            have HF := hid (show LnkD B w pb rb g l a b x0 (.slice dv N dc) x2 (.slice nv M nc) M ns (lnkD (ds.map (·.1)) ns l) (.returned (.tuple #[])) (w9.setCell ⟨pb, 3, none⟩ (.slice (some ⟨g3, 0, none⟩) (M + 1) c3x)) from ⟨rfl, HX.out.1, .inl ⟨_, _, 6, HL5.out, HX.out.2.1, HX.out.2.2.1, HX.out.2.2.2.1, HX.out.2.2.2.2 _ _ _ _ HR5.out⟩⟩)
            clear hown9 hg9 hat9 p3 pf
            go_wp2
            exact bodyPost_end (v := .tuple #[]) (by simp [results, Tryz.results33, go_sem]) rfl HF.out
      · have HR3 := hid hr3
        have HG3 := hid (grownTwo HG2.out hg3)
        have HL3 := hid (show lnkD (ds.map (·.1)) ns l = .error f from by rw [HL2.out, he2])
        have HFN := hid hf
        clear c1 c2 c3 c4 f1 f2 f3 f4
        obtain ⟨c1, c2, c3, c4, f1, f2, f3, f4⟩ := hr3.cells
        obtain ⟨n, hn⟩ : ∃ n, n = f.2.2 := ⟨_, rfl⟩
        have hf0 : n ≠ 0 := by rw [hn]; exact hf
        rw [← hn] at c4
        have hne2 : ((n : Int) == 0) = false := by rw [beq_eq_false_iff_ne]; omega
        have hne3 : (n == 0) = false := by rw [beq_eq_false_iff_ne]; exact hf0
        clear hr3 hg3 he2 hn hf
        have HGQ := hid (fun nq => (⟨HG3.out.os, HG3.out.tape, HG3.out.output, HG3.out.size, HG3.out.block⟩ : w.grownBy (w3.drewN nq) (some rb)))
        go_wp2_with fail
        go_quiet (fail)
        obtain ⟨W4, hW4⟩ : ∃ W4, W4 = w3.drewN nq := ⟨_, rfl⟩
        have HR4 := hid (show RfAt W4 rb g l j f.1 f.2.1 f.2.2 from by rw [hW4]; exact HR3.out.on ⟨rfl, rfl, rfl, Nat.le_refl _, fun _ _ => rfl⟩)
        have HG4 := hid (show w.grownBy W4 (some rb) from by rw [hW4]; exact HGQ.out nq)
        have d4 : W4.cell? ⟨rb, 4, none⟩ = some (.int .i64 n) := by rw [hW4]; exact c4
        rw [← hW4]
        clear hW4 c1 c2 c3 c4 f1 f2 f3 f4 HGQ
        have hpw := HPB.out W4 HG4.out
        have p3 : W4.cell? ⟨pb, 3, none⟩ = some (.slice nv M nc) := by rw [cell_at hpw]; rfl
        have pf : W4.frozen? ⟨pb, 3, none⟩ = false := free_of hpw
        have HPW := hid hpw
        have HOa := hid (fun (ob : Obj) => (own_sameJ (HOW.out W4 HG4.out) fun k hk => Below.heap_alloc _ _ _ ((HOW.out W4 HG4.out).lt k hk).2 : (W4.alloc ob).ownsRow B 127 4 (.slice nv M nc) M (flatN ns)))
        have hsW := HG4.out.size
        clear hpw
        go_wp2_with (first | (at_builtin; refine wpList_append_lies _ rfl (.tmp 75) (.tmp 81) 66 rfl B 127 i0 (.agg #[.string (tx []), .string (tx []), .string (tx []), .string (tx [])]) 4 64 Tryz.underlying66 HI.out HZ0.out HZ1.out HZ2.out rfl (by decide) (.slice nv M nc) M (flatN ns) rfl (HOa.out _) ⟨W4.heap.size, 0, none⟩ 1 1 (nmC ((d, p), ([], []))) rfl rfl (World.news_of_block (new_0 W4 _)) (by simp [nmC, Value.oneCell']) (by decide) (by unfold maxLen; omega) (by omega) (by simp only [World.size_alloc]; omega) (W4.heap.size + 1) (by simp) ?_))
        intro g3 c3x w9 hown9 hg9 hat9 hlt9
        have HX := hid (link_put (l := l) (x0 := x0) (x1 := .slice dv N dc) (x2 := x2) HG4.out HPW.out hpl (by omega) (by omega) hpr hgp hnr hng hnp hown9 hg9 hat9)
        have q3 : w9.cell? ⟨pb, 3, none⟩ = some (.slice nv M nc) := by
          rw [cell_at ((hg9.block pb (by simp only [World.size_alloc]; omega) (fun e => hnp e.symm)).trans ((Below.heap_alloc _ _ _ (by omega)).trans HPW.out))]; rfl
        have qf : w9.frozen? ⟨pb, 3, none⟩ = false := free_of ((hg9.block pb (by simp only [World.size_alloc]; omega) (fun e => hnp e.symm)).trans ((Below.heap_alloc _ _ _ (by omega)).trans HPW.out))
        have HF := hid (show LnkD B w pb rb g l a b x0 (.slice dv N dc) x2 (.slice nv M nc) M ns (lnkD (ds.map (·.1)) ns l) (.returned (.tuple #[])) (w9.setCell ⟨pb, 3, none⟩ (.slice (some ⟨g3, 0, none⟩) (M + 1) c3x)) from ⟨rfl, HX.out.1, .inr ⟨f, j, HL3.out, HFN.out, HX.out.2.2.2.2 _ _ _ _ HR4.out⟩⟩)
        clear hown9 hg9 hat9 p3 pf
        go_wp2
        exact bodyPost_end (v := .tuple #[]) (by simp [results, Tryz.results33, go_sem]) rfl HF.out
    · have HF := hid (HER.out _ _ w2 (by rw [HL1.out, if_pos hx]) (by show (110 : Nat) ≠ 0; decide) hr2 (grownTwo HG1.out hg2))
      clear c1 c2 c3 c4 f1 f2 f3 f4
      obtain ⟨c1, c2, c3, c4, f1, f2, f3, f4⟩ := hr2.cells
      clear hx hr2 hg2
      go_wp2
      exact bodyPost_ret (v := .tuple #[]) (by simp [results, Tryz.results33, go_sem]) rfl HF.out
  · have HF := hid (HER.out f j w1 (by rw [HL.out, he1]) hf hr1 hg1)
    obtain ⟨c1, c2, c3, c4, f1, f2, f3, f4⟩ := hr1.cells
    obtain ⟨n, hn⟩ : ∃ n, n = f.2.2 := ⟨_, rfl⟩
    rw [← hn] at c4 hf
    have hne : ((n : Int) != 0) = true := by rw [bne_iff_ne]; omega
    have hne2 : ((n : Int) == 0) = false := by rw [beq_eq_false_iff_ne]; omega
    have hne3 : (n != 0) = true := by rw [bne_iff_ne]; exact hf
    have hne4 : ¬ n = 0 := hf
    clear hr1 hg1 he1 hn
    go_wp2
    exact bodyPost_ret (v := .tuple #[]) (by simp [results, Tryz.results33, go_sem]) rfl HF.out
end Dt
end Go.Proofs.YtebaopiedlioiaaGreatDoor
