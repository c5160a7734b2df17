/-
  The document's Peer of any links.
  Find: the document's and the program's.
  The document's end of a link.
  The document's taken: has a link that port already?
-/
import Derived.Test.YtebaopiedlioiaaGreatDoorJDocPAnd
import Derived.Test.YtebaopiedlioiaaGreatDoorJDocKAnd
namespace Go.Proofs.YtebaopiedlioiaaGreatDoor
open Go.RowKit
open Wo (Wd)
namespace Dt

/-- A link as a text has it. -/
abbrev NmZ := (List UInt8 × List UInt8) × (List UInt8 × List UInt8)
def nmC (q : NmZ) : List Value := [.string (tx q.1.1), .string (tx q.1.2), .string (tx q.2.1), .string (tx q.2.2)]
abbrev nmO (q : NmZ) : Obj := .cells #[.string (tx q.1.1), .string (tx q.1.2), .string (tx q.2.1), .string (tx q.2.2)] 127
def flatN (ns : List NmZ) : List Value := ns.flatMap nmC
/-- Links that lie somewhere. -/
structure NmV (w : World) (v : Value) (ns : List NmZ) : Prop where
  form : ∃ av cap, v = .slice av ns.length cap ∧ (ns = [] ∨ ∃ G o, av = some ⟨G, o, none⟩ ∧ G < w.heap.size ∧ ∀ (i : Nat) (q : NmZ), ns[i]? = some q → w.cell? ⟨G, o + i * 4, none⟩ = some (.string (tx q.1.1)) ∧ w.cell? ⟨G, o + i * 4 + 1, none⟩ = some (.string (tx q.1.2)) ∧ w.cell? ⟨G, o + i * 4 + 2, none⟩ = some (.string (tx q.2.1)) ∧ w.cell? ⟨G, o + i * 4 + 3, none⟩ = some (.string (tx q.2.2)))
/-- Has it that port? -/
def atN (q : NmZ) (d p : List UInt8) : Bool := ((q.1.1 == d) && (q.1.2 == p)) || ((q.2.1 == d) && (q.2.2 == p))
def takN (ns : List NmZ) (d p : List UInt8) : Bool := ns.any fun q => atN q d p
theorem takN_false {ns : List NmZ} {d p : List UInt8} (h : ∀ (i : Nat) (q : NmZ), ns[i]? = some q → atN q d p = false) : takN ns d p = false := by
  unfold takN
  rw [List.any_eq_false]
  intro q hq
  obtain ⟨i, hi⟩ := List.getElem?_of_mem hq
  rw [h i q hi]; simp
theorem takN_true {ns : List NmZ} {d p : List UInt8} {i : Nat} {q : NmZ} (hi : ns[i]? = some q) (h : atN q d p = true) : takN ns d p = true := by
  unfold takN
  rw [List.any_eq_true]
  exact ⟨q, List.mem_of_getElem? hi, h⟩

set_option maxRecDepth 20000 in
set_option maxHeartbeats 1000000 in
theorem Rtaken_any {w : World} {pb : Nat} {x0 x1 x2 : Value} {nv : Option Addr} {M nc : Nat} {ns : List NmZ} {d m : List UInt8} (hp : w.heap[pb]? = some (.cells #[x0, x1, x2, .slice nv M nc] 68 (0, 0))) (hV : NmV w (.slice nv M nc) ns) (hn : ns.length ≤ 100000) :
    Calls Tryz.prog 102 #[.pointer (some ⟨pb, 0, none⟩), .string (tx d), .string (tx m)] w fun en w' => en = .returned (.bool (takN ns d m)) ∧ Below w.heap.size w w' := by
  obtain ⟨av, cap, e, hr⟩ := hV.form
  injection e with e1 e2 e3
  subst e1; subst e2; subst e3
  obtain ⟨n, hnn⟩ : ∃ n, n = ns.length := ⟨_, rfl⟩
  have HN := hid hnn
  rw [← hnn] at hn hp
  have HR := hid hr
  have HP := hid hp
  have hpl := lt_of_block hp
  clear hr hnn hV hp
  go_enter Tryz.func102, Tryz.ntmps102
  go_wp2_with fail
  go_loopw [7] (fun i wr => ∃ j : Nat, j ≤ n ∧ i = .int .i64 j ∧ Hid (∀ (i : Nat) (q : NmZ), i < j → ns[i]? = some q → atN q d m = false) ∧ Hid (Below w.heap.size w wr)) (fun i _ => n - (intOf i).toNat)
  case atStart => exact ⟨0, Nat.zero_le _, rfl, hid fun i x hi => absurd hi (Nat.not_lt_zero i), Below.refl _ _⟩
  case round =>
    obtain ⟨j, hj, rfl, HJ1, HB⟩ := hrel
    have p1 : wr.cell? ⟨pb, 3, none⟩ = some (.slice nv n nc) := by rw [cell_at ((HB.out.block _ hpl).trans HP.out)]; rfl
    by_cases hlt : j < n
    · obtain ⟨⟨⟨a, p⟩, b, q⟩, hq⟩ : ∃ q, ns[j]? = some q := ⟨_, List.getElem?_eq_getElem (by have := HN.out; omega)⟩
      obtain ⟨G, o, rfl, hG, hcell⟩ := HR.out.resolve_left (fun e => by rw [e] at hq; simp at hq)
      have hwG : wr.heap[G]? = w.heap[G]? := HB.out.block G hG
      obtain ⟨z0, z1, z2, z3⟩ := hcell j _ hq
      have y0 := (World.cell?_of_block (a := ⟨G, o + j * 4, none⟩) hwG).trans z0
      have y1 := (World.cell?_of_block (a := ⟨G, o + j * 4 + 1, none⟩) hwG).trans z1
      have y2 := (World.cell?_of_block (a := ⟨G, o + j * 4 + 2, none⟩) hwG).trans z2
      have y3 := (World.cell?_of_block (a := ⟨G, o + j * 4 + 3, none⟩) hwG).trans z3
      simp only at y0 y1 y2 y3
      have HX := hid hq
      have hkI : (j : Int) < (n : Int) := by omega
      have hk0 : (0 : Int) ≤ (j : Int) := by omega
      obtain ⟨W5, hW5⟩ : ∃ W5, W5 = wr.alloc (nmO ((a, p), b, q)) := ⟨_, rfl⟩
      obtain ⟨kb, hkb⟩ : ∃ kb, kb = wr.heap.size := ⟨_, rfl⟩
      have h5 : W5.heap[kb]? = some (nmO ((a, p), b, q)) := by rw [hW5, hkb]; exact new_0 _ _
      have HB5 := hid (show Below w.heap.size w W5 from by rw [hW5]; exact HB.out.alloc HB.out.size _)
      have r0 : W5.cell? ⟨kb, 0, none⟩ = some (.string (tx a)) := by rw [cell_at h5]; rfl
      have r1 : W5.cell? ⟨kb, 1, none⟩ = some (.string (tx p)) := by rw [cell_at h5]; rfl
      have r2 : W5.cell? ⟨kb, 2, none⟩ = some (.string (tx b)) := by rw [cell_at h5]; rfl
      have r3 : W5.cell? ⟨kb, 3, none⟩ = some (.string (tx q)) := by rw [cell_at h5]; rfl
      obtain ⟨ba, hba⟩ : ∃ x, (a == d) = x := ⟨_, rfl⟩
      obtain ⟨bp, hbp⟩ : ∃ x, (p == m) = x := ⟨_, rfl⟩
      obtain ⟨bb, hbb⟩ : ∃ x, (b == d) = x := ⟨_, rfl⟩
      obtain ⟨bq, hbq⟩ : ∃ x, (q == m) = x := ⟨_, rfl⟩
      have HAT := hid (show atN ((a, p), b, q) d m = ((ba && bp) || (bb && bq)) by rw [← hba, ← hbp, ← hbb, ← hbq]; rfl)
      have HT := hid (fun (h : ((ba && bp) || (bb && bq)) = true) => (takN_true HX.out (HAT.out.trans h) : takN ns d m = true))
      have HF := hid (fun (h : ((ba && bp) || (bb && bq)) = false) => (show ∀ (i : Nat) (q : NmZ), i < j + 1 → ns[i]? = some q → atN q d m = false from fun i y hi hy => by
        by_cases ej : i = j
        · rw [ej, HX.out] at hy
          injection hy with hy
          rw [← hy]; exact HAT.out.trans h
        · exact HJ1.out i y (by omega) hy))
      clear z0 z1 z2 z3 hwG hcell hq h5
      go_upto_region 5 with fail
      rw [← hW5, ← hkb]
      clear hW5 hkb y0 y1 y2 y3 p1
      cases ba <;> cases bp <;> cases bb <;> cases bq
      all_goals (
        first
          | (have HE := hid (HT.out rfl)
             go_wp2
             go_ret
             exact ⟨by rw [HE.out]; rfl, HB5.out⟩)
          | (have HE := hid (HF.out rfl)
             go_wp2
             go_roundw
             case rel => exact ⟨j + 1, by omega, by go_num, HE, HB5⟩
             case measure => simp [intOf]; omega))
    · have hkI : ¬ ((j : Int) < (n : Int)) := by omega
      have HE := hid (show takN ns d m = false from takN_false fun i q hq => HJ1.out i q (by have := (List.getElem?_eq_some_iff.1 hq).1; have := HN.out; omega) hq)
      clear hlt HJ1
      go_wp2
      go_ret
      exact ⟨by rw [HE.out]; rfl, HB.out⟩
end Dt
end Go.Proofs.YtebaopiedlioiaaGreatDoor
namespace Go.Proofs.YtebaopiedlioiaaGreatDoor
open Go.RowKit
open Wo (Wd)

theorem plJ_some {t : List UInt8} : ∀ {l : List (List UInt8)} {k : Nat}, plJ t l = some k → l[k]? = some t
  | [], k, h => by cases h
  | a :: r, k, h => by
    unfold plJ at h
    split at h
    · rename_i e
      injection h with h
      subst h
      rw [e]; rfl
    · cases hp : plJ t r with
      | none => rw [hp] at h; cases h
      | some i =>
        rw [hp] at h
        injection h with h
        subst h
        rw [List.getElem?_cons_succ]
        exact plJ_some hp
namespace Dt

/-- An end as the document reads it. -/
def endD (ds : List To.Dv) (ns : List NmZ) (d0 p0 : List UInt8) (l : List Wd) (i : Nat) : Except Ru.Ft (List UInt8 × List UInt8) :=
  if Wo.nameB (atW l i).1 = false then .error (Ru.ft (atW l i) 31) else
  match plJ (atW l i).1 (ds.map (·.name)) with
  | none => .error (Ru.ft (atW l i) 112)
  | some k =>
    if Wo.nameB (atW l (i + 1)).1 = false then .error (Ru.ft (atW l (i + 1)) 31) else
    if (ds.getD k dv0).prt.contains (atW l (i + 1)).1 = false then .error (Ru.ft (atW l (i + 1)) 112) else
    if (takN ns (atW l i).1 (atW l (i + 1)).1 || (((atW l i).1 == d0) && ((atW l (i + 1)).1 == p0))) = true then .error (Ru.ft (atW l (i + 1)) 111) else
    .ok ((atW l i).1, (atW l (i + 1)).1)
/-- What end leaves. -/
def EndD (w : World) (rb g : Nat) (l : List Wd) (i a b : Nat) (r : Except Ru.Ft (List UInt8 × List UInt8)) (en : Ending) (w' : World) : Prop :=
  w.grownBy w' (some rb) ∧ ((∃ d p, r = .ok (d, p) ∧ en = .returned (.tuple #[.string (tx d), .string (tx p)]) ∧ RfAt w' rb g l (i + 1 + 1) a b 0) ∨ (∃ f j, r = .error f ∧ f.2.2 ≠ 0 ∧ en = .returned (.tuple #[.string (tx []), .string (tx [])]) ∧ RfAt w' rb g l j f.1 f.2.1 f.2.2))

set_option maxRecDepth 20000 in
set_option maxHeartbeats 1000000 in
theorem Rend_any {w : World} {pb rb g : Nat} {l : List Wd} {i a b : Nat} {x0 x2 : Value} {dv nv : Option Addr} {N dc M nc : Nat} {ds : List (To.Dv × Value × Value)} {ns : List NmZ} {d0 p0 : List UInt8} (h : RfAt w rb g l i a b 0) (hp : w.heap[pb]? = some (.cells #[x0, .slice dv N dc, x2, .slice nv M nc] 68 (0, 0))) (hpr : pb ≠ rb)
    (hD : ∀ W, w.grownBy W (some rb) → DvL W (.slice dv N dc) ds) (hV : ∀ W, w.grownBy W (some rb) → NmV W (.slice nv M nc) ns) (hdn : ds.length ≤ 100000) (hnn : ns.length ≤ 100000) :
    Calls Tryz.prog 66 #[.pointer (some ⟨pb, 0, none⟩), .pointer (some ⟨rb, 0, none⟩), .string (tx d0), .string (tx p0)] w fun en w' => EndD w rb g l i a b (endD (ds.map (·.1)) ns d0 p0 l i) en w' := by
  have HN := hid (Rname_any h)
  have HD := hid hD
  have HV := hid hV
  have HPB := hid (fun (W : World) (hg : w.grownBy W (some rb)) => (hg.block pb (lt_of_block hp) (fun e => hpr (by injection e))).trans hp)
  have hys := atW_short h.ok i
  have hzs := atW_short h.ok (i + 1)
  have hll := h.ok.len
  obtain ⟨y, hy⟩ : ∃ y, y = atW l i := ⟨_, rfl⟩
  obtain ⟨z, hz⟩ : ∃ z, z = atW l (i + 1) := ⟨_, rfl⟩
  have HY := hid hy
  have HZ := hid hz
  have HE := hid (show endD (ds.map (·.1)) ns d0 p0 l i = if Wo.nameB y.1 = false then .error (Ru.ft y 31) else match plJ y.1 (ds.map (·.1.name)) with | none => .error (Ru.ft y 112) | some k => if Wo.nameB z.1 = false then .error (Ru.ft z 31) else if ((ds.map (·.1)).getD k dv0).prt.contains z.1 = false then .error (Ru.ft z 112) else if (takN ns y.1 z.1 || ((y.1 == d0) && (z.1 == p0))) = true then .error (Ru.ft z 111) else .ok (y.1, z.1) from by
    unfold endD; rw [← hy, ← hz, List.map_map]; rfl)
  rw [← hy] at hys
  rw [← hz] at hzs
  unfold NameD at HN
  rw [← hy] at HN
  clear h hD hV hp hy hz
  go_enter Tryz.func66, Tryz.ntmps66
  go_wp2_with fail
  refine HN.out.mono ?_
  rintro en w1 ⟨rfl, hg1, ⟨hnb, hr1⟩ | ⟨hnb, hr1⟩⟩
  · have HR1 := hid hr1
    have HG1 := hid hg1
    obtain ⟨c1, c2, c3, c4, f1, f2, f3, f4⟩ := hr1.cells
    have HKN := hid (Rknown_any (s := y.1) (HPB.out w1 hg1) (HD.out w1 hg1) hdn)
    have HNB := hid hnb
    clear hg1 hr1 hnb
    cases hk : plJ y.1 (ds.map (·.1.name)) with
    | none =>
      have HE1 := hid (show endD (ds.map (·.1)) ns d0 p0 l i = .error (Ru.ft y 112) from by
        rw [HE.out, if_neg (by rw [HNB.out]; simp), hk])
      rw [show plZ y.1 (ds.map (·.1.name)) = -1 by unfold plZ; rw [hk]] at HKN
      have HFL := hid (Fail_any HR1.out 112)
      rw [← HY.out] at HFL
      clear hk
      go_wp2_with fail
      refine HKN.out.mono ?_
      rintro en w2 ⟨rfl, hw2⟩
      obtain rfl : w1 = w2 := hw2.symm
      clear c1 c2 c3 c4 f1 f2 f3 f4
      go_wp2_with fail
      refine HFL.out.mono ?_
      rintro en w3 ⟨rfl, hr3, hg3⟩
      have HF := hid (show EndD w rb g l i a b (endD (ds.map (·.1)) ns d0 p0 l i) (.returned (.tuple #[.string (tx []), .string (tx [])])) w3 from ⟨grownTwo HG1.out hg3, .inr ⟨_, i, HE1.out, by show (112 : Nat) ≠ 0; decide, rfl, hr3⟩⟩)
      clear hr3 hg3
      go_wp2
      go_ret2
      exact HF.out
    | some k =>
      have hkl := plJ_some hk
      have HE1 := hid (show endD (ds.map (·.1)) ns d0 p0 l i = if Wo.nameB z.1 = false then .error (Ru.ft z 31) else if ((ds.map (·.1)).getD k dv0).prt.contains z.1 = false then .error (Ru.ft z 112) else if (takN ns y.1 z.1 || ((y.1 == d0) && (z.1 == p0))) = true then .error (Ru.ft z 111) else .ok (y.1, z.1) from by
        rw [HE.out, if_neg (by rw [HNB.out]; simp), hk])
      rw [show plZ y.1 (ds.map (·.1.name)) = (k : Int) by unfold plZ; rw [hk]] at HKN
      have hil : i < l.length := atW_lt HR1.out.le (by rw [← HY.out]; intro q; have := HNB.out; rw [q] at this; exact absurd this (by decide))
      obtain ⟨q, hq⟩ : ∃ q, ds[k]? = some q := by
        rw [List.getElem?_map, Option.map_eq_some_iff] at hkl
        obtain ⟨q, hq, -⟩ := hkl
        exact ⟨q, hq⟩
      have HQ := hid hq
      have hkn : k < ds.length := (List.getElem?_eq_some_iff.1 hq).1
      have hk100 : (k : Int) ≤ 100000 := by omega
      have hk0 : (0 : Int) ≤ (k : Int) := by omega
      have hkneg : ¬ (k : Int) < 0 := by omega
      have hiI : (i : Int) ≤ 1048575 := by omega
      obtain ⟨V, hVV⟩ : ∃ V, V = w1.setCell ⟨rb, 1, none⟩ (.int .i64 ((i : Int) + 1)) := ⟨_, rfl⟩
      have HRV := hid (show RfAt V rb g l (i + 1) a b 0 from by
        rw [hVV]
        have := HR1.out.step (i + 1) (by omega)
        rwa [show ((i + 1 : Nat) : Int) = (i : Int) + 1 by omega] at this)
      have HGV := hid (show w.grownBy V (some rb) from by rw [hVV]; exact grownTwo HG1.out (grownSet _))
      have HN2 := hid (Rname_any HRV.out)
      unfold NameD at HN2
      rw [← HZ.out] at HN2
      clear hk hkl hq
      go_wp2_with fail
      refine HKN.out.mono ?_
      rintro en w2 ⟨rfl, hw2⟩
      obtain rfl : w1 = w2 := hw2.symm
      go_upto_region 9 with fail
      rw [← hVV]
      clear hVV c1 c2 c3 c4 f1 f2 f3 f4
      go_wp2_with fail
      refine HN2.out.mono ?_
      rintro en w3 ⟨rfl, hg3, ⟨hnz, hr3⟩ | ⟨hnz, hr3⟩⟩
      · have HR3 := hid hr3
        have HG3 := hid (grownTwo HGV.out hg3)
        have HNZ := hid hnz
        obtain ⟨c1, c2, c3, c4, f1, f2, f3, f4⟩ := hr3.cells
        have hpb3 := HPB.out w3 HG3.out
        have p1 : w3.cell? ⟨pb, 1, none⟩ = some (.slice dv N dc) := by rw [cell_at hpb3]; rfl
        have hDL := HD.out w3 HG3.out
        obtain ⟨av, cap, eD, hDf⟩ := hDL.form
        injection eD with eD1 eD2 eD3
        subst eD1; subst eD2; subst eD3
        obtain ⟨D, od, rfl, hDl, hdc⟩ := hDf.resolve_left (fun e => by rw [e] at hkn; exact absurd hkn (Nat.not_lt_zero _))
        have y2 := (hdc k q HQ.out).2.2
        obtain ⟨htp, hlp⟩ := hDL.prt q (List.mem_of_getElem? HQ.out)
        have HPL := hid (Rplace_any (t := z.1) htp hlp)
        obtain ⟨ap, cp, hvp, -⟩ := id htp
        rw [hvp] at HPL y2
        obtain ⟨Lp, hLp⟩ : ∃ L, L = q.1.prt.length := ⟨_, rfl⟩
        rw [← hLp] at HPL y2
        have hzc := plZ_neg z.1 q.1.prt
        obtain ⟨zp, hzp⟩ : ∃ x, x = plZ z.1 q.1.prt := ⟨_, rfl⟩
        rw [← hzp] at HPL hzc
        obtain ⟨nD, hnD⟩ : ∃ n, n = ds.length := ⟨_, rfl⟩
        rw [← hnD] at p1 hkn
        have hknI : (k : Int) < (nD : Int) := by omega
        have HE2 := hid (show endD (ds.map (·.1)) ns d0 p0 l i = if q.1.prt.contains z.1 = false then .error (Ru.ft z 112) else if (takN ns y.1 z.1 || ((y.1 == d0) && (z.1 == p0))) = true then .error (Ru.ft z 111) else .ok (y.1, z.1) from by
          rw [HE1.out, if_neg (by rw [hnz]; simp), getD_at (show (ds.map (·.1))[k]? = some q.1 by rw [List.getElem?_map, HQ.out]; rfl)])
        have HTK := hid (Rtaken_any (d := y.1) (m := z.1) hpb3 (HV.out w3 HG3.out) hnn)
        clear hr3 hg3 hnz hpb3 hDL hDf hdc htp hlp hvp hLp hzp hnD
        cases hct : q.1.prt.contains z.1 with
        | false =>
          have hz1 : decide (zp < 0) = true := by rw [hzc, hct]; rfl
          have hz2 : zp < 0 := of_decide_eq_true hz1
          have HE3 := hid (show endD (ds.map (·.1)) ns d0 p0 l i = .error (Ru.ft z 112) from by rw [HE2.out, if_pos hct])
          have HFL := hid (Fail_any HR3.out 112)
          rw [← HZ.out] at HFL
          clear hct hzc hz1
          go_wp2_with fail
          refine HPL.out.mono ?_
          rintro en w4 ⟨rfl, hw4⟩
          obtain rfl : w3 = w4 := hw4.symm
          clear c1 c2 c3 c4 f1 f2 f3 f4
          go_wp2_with fail
          refine HFL.out.mono ?_
          rintro en w5 ⟨rfl, hr5, hg5⟩
          have HF := hid (show EndD w rb g l i a b (endD (ds.map (·.1)) ns d0 p0 l i) (.returned (.tuple #[.string (tx []), .string (tx [])])) w5 from ⟨grownTwo HG3.out hg5, .inr ⟨_, i + 1, HE3.out, by show (112 : Nat) ≠ 0; decide, rfl, hr5⟩⟩)
          clear hr5 hg5
          go_wp2
          go_ret2
          exact HF.out
        | true =>
          have hz1 : decide (zp < 0) = false := by rw [hzc, hct]; rfl
          have hz2 : ¬ zp < 0 := of_decide_eq_false hz1
          have HE3 := hid (show endD (ds.map (·.1)) ns d0 p0 l i = if (takN ns y.1 z.1 || ((y.1 == d0) && (z.1 == p0))) = true then .error (Ru.ft z 111) else .ok (y.1, z.1) from by
            rw [HE2.out, if_neg (by rw [hct]; simp)])
          have hzl : i + 1 < l.length := atW_lt HR3.out.le (by rw [← HZ.out]; intro q; have := HNZ.out; rw [q] at this; exact absurd this (by decide))
          clear hct hzc hz1
          go_wp2_with fail
          refine HPL.out.mono ?_
          rintro en w4 ⟨rfl, hw4⟩
          obtain rfl : w3 = w4 := hw4.symm
          clear c1 c2 c3 c4 f1 f2 f3 f4
          go_wp2_with fail
          refine HTK.out.mono ?_
          rintro en w5 ⟨rfl, hb5⟩
          have HR5 := hid (HR3.out.on hb5)
          have HG5 := hid (grownBelow HG3.out hb5)
          obtain ⟨c1, c2, c3, c4, f1, f2, f3, f4⟩ := HR5.out.cells
          obtain ⟨bt, hbt⟩ : ∃ x, takN ns y.1 z.1 = x := ⟨_, rfl⟩
          obtain ⟨bd, hbd⟩ : ∃ x, (y.1 == d0) = x := ⟨_, rfl⟩
          obtain ⟨bp, hbp⟩ : ∃ x, (z.1 == p0) = x := ⟨_, rfl⟩
          rw [hbt, hbd, hbp] at HE3
          rw [hbt]
          have HFL := hid (Fail_any HR5.out 111)
          rw [← HZ.out] at HFL
          have HFE := hid (fun (h : (bt || (bd && bp)) = true) (w6 : World) (hr : RfAt w6 rb g l (i + 1) z.2.1 z.2.2 111) (hg : w5.grownBy w6 (some rb)) => (show EndD w rb g l i a b (endD (ds.map (·.1)) ns d0 p0 l i) (.returned (.tuple #[.string (tx []), .string (tx [])])) w6 from ⟨grownTwo HG5.out hg, .inr ⟨_, i + 1, by rw [HE3.out, if_pos h], by show (111 : Nat) ≠ 0; decide, rfl, hr⟩⟩))
          have HFO := hid (fun (h : (bt || (bd && bp)) = false) => (show EndD w rb g l i a b (endD (ds.map (·.1)) ns d0 p0 l i) (.returned (.tuple #[.string (tx y.1), .string (tx z.1)])) (w5.setCell ⟨rb, 1, none⟩ (.int .i64 ((i : Int) + 1 + 1))) from ⟨grownTwo HG5.out (grownSet _), .inl ⟨y.1, z.1, by rw [HE3.out, if_neg (by rw [h]; simp)], rfl, by
            have := HR5.out.step (i + 1 + 1) (by omega)
            rwa [show ((i + 1 + 1 : Nat) : Int) = (i : Int) + 1 + 1 by omega] at this⟩⟩))
          clear hb5 hbt
          cases bt <;> cases bd <;> cases bp
          all_goals (
            first
              | (have HFF := hid (HFE.out rfl)
                 clear c1 c2 c3 c4 f1 f2 f3 f4
                 go_wp2_with fail
                 refine HFL.out.mono ?_
                 rintro en w6 ⟨rfl, hr6, hg6⟩
                 have HF6 := hid (HFF.out w6 hr6 hg6)
                 clear hr6 hg6
                 go_wp2
                 go_ret2
                 exact HF6.out)
              | (have HFF := hid (HFO.out rfl)
                 go_wp2
                 go_ret2
                 exact HFF.out))
      · have HE2 := hid (show endD (ds.map (·.1)) ns d0 p0 l i = .error (Ru.ft z 31) from by rw [HE1.out, if_pos hnz])
        have HF := hid (show EndD w rb g l i a b (endD (ds.map (·.1)) ns d0 p0 l i) (.returned (.tuple #[.string (tx []), .string (tx [])])) w3 from ⟨grownTwo HGV.out hg3, .inr ⟨_, i + 1, HE2.out, by show (31 : Nat) ≠ 0; decide, rfl, hr3⟩⟩)
        obtain ⟨c1, c2, c3, c4, f1, f2, f3, f4⟩ := hr3.cells
        clear hr3 hg3 hnz
        go_wp2
        go_ret2
        exact HF.out
  · have HE1 := hid (show endD (ds.map (·.1)) ns d0 p0 l i = .error (Ru.ft y 31) from by rw [HE.out, if_pos hnb])
    have HF := hid (show EndD w rb g l i a b (endD (ds.map (·.1)) ns d0 p0 l i) (.returned (.tuple #[.string (tx []), .string (tx [])])) w1 from ⟨hg1, .inr ⟨_, i, HE1.out, by show (31 : Nat) ≠ 0; decide, rfl, hr1⟩⟩)
    obtain ⟨c1, c2, c3, c4, f1, f2, f3, f4⟩ := hr1.cells
    clear hr1 hg1 hnb
    go_wp2
    go_ret2
    exact HF.out
end Dt
end Go.Proofs.YtebaopiedlioiaaGreatDoor
namespace Go.Proofs.YtebaopiedlioiaaGreatDoor
open Go.RowKit

/-- What Find tells. -/
def fndV (s : List UInt8) (zs : List (List UInt8)) : Value := match plJ s zs with | some i => .tuple #[.int .i64 i, .bool true] | none => .tuple #[.int .i64 0, .bool false]

set_option maxRecDepth 20000 in
set_option maxHeartbeats 1000000 in
theorem RFind_any {w : World} {x0 vl : Value} {dv : Option Addr} {N dc : Nat} {ds : List (To.Dv × Value × Value)} {s : List UInt8} (hD : DvL w (.slice dv N dc) ds) (hn : ds.length ≤ 100000) :
    Calls Tryz.prog 20 #[.agg #[x0, .slice dv N dc, vl], .string (tx s)] w fun en w' => en = .returned (fndV s (ds.map (·.1.name))) ∧ Below w.heap.size w w' := by
  obtain ⟨av, cap, e, hr⟩ := hD.form
  injection e with e1 e2 e3
  subst e1; subst e2; subst e3
  obtain ⟨n, hnn⟩ : ∃ n, n = ds.length := ⟨_, rfl⟩
  have HN := hid hnn
  rw [← hnn] at hn ⊢
  have HR := hid hr
  obtain ⟨zs, hzs⟩ : ∃ zs, zs = ds.map (·.1.name) := ⟨_, rfl⟩
  have HZ := hid (show ∀ (i : Nat) (q : To.Dv × Value × Value), ds[i]? = some q → zs[i]? = some q.1.name from fun i q hq => by rw [hzs, List.getElem?_map, hq]; rfl)
  have HZL := hid (show zs.length = n by rw [hzs, List.length_map, hnn])
  rw [← hzs]
  obtain ⟨W0, hW0⟩ : ∃ W0, W0 = w.alloc (topJ x0 (.slice dv n dc) vl) := ⟨_, rfl⟩
  have h0 : W0.heap[w.heap.size]? = some (topJ x0 (.slice dv n dc) vl) := by rw [hW0]; exact new_0 _ _
  have HB0 := hid (show Below w.heap.size w W0 from by rw [hW0]; exact (Below.refl _ _).alloc (Nat.le_refl _) _)
  obtain ⟨t0, t1, t2⟩ := topJ_cells h0
  clear hr hnn hzs hD h0
  go_enter Tryz.func20, Tryz.ntmps20
  go_wp2_with fail
  rw [← hW0]
  clear hW0
  go_loopw [6] (fun i wr => ∃ j : Nat, j ≤ n ∧ i = .int .i64 j ∧ Hid (∀ (i : Nat) (x : List UInt8), i < j → zs[i]? = some x → ¬ s = x) ∧ Hid (wr = W0)) (fun i _ => n - (intOf i).toNat)
  case atStart => exact ⟨0, Nat.zero_le _, rfl, hid fun i x hi => absurd hi (Nat.not_lt_zero i), hid rfl⟩
  case round =>
    obtain ⟨j, hj, rfl, HJ1, hW⟩ := hrel
    obtain rfl := hW.out
    by_cases hlt : j < n
    · obtain ⟨q, hq⟩ : ∃ q, ds[j]? = some q := ⟨_, List.getElem?_eq_getElem (by have := HN.out; omega)⟩
      obtain ⟨g, o, rfl, hg, hcell⟩ := HR.out.resolve_left (fun e => by rw [e] at hq; simp at hq)
      have k0 := (World.cell?_of_block (a := ⟨g, o + j * 3, none⟩) (HB0.out.block g hg)).trans (hcell j q hq).1
      have hx := HZ.out j q hq
      obtain ⟨x, hxx⟩ : ∃ x, x = q.1.name := ⟨_, rfl⟩
      rw [← hxx] at k0 hx
      have HX := hid hx
      have hkI : (j : Int) < (n : Int) := by omega
      have hk0 : (0 : Int) ≤ (j : Int) := by omega
      clear hx hcell hq hxx
      by_cases e : s = x
      · subst e
        have HE := hid (show fndV s zs = .tuple #[.int .i64 j, .bool true] by unfold fndV; rw [plJ_at HX.out HJ1.out])
        have e3 : (s == s) = true := by simp
        go_wp2
        go_ret2
        exact ⟨by rw [HE.out]; rfl, HB0.out⟩
      · have e1 : (s == x) = false := by rw [beq_eq_false_iff_ne]; exact e
        have e2 : (x == s) = false := by rw [beq_eq_false_iff_ne]; exact fun h => e h.symm
        have HJ2 := hid (show ∀ (i : Nat) (y : List UInt8), i < j + 1 → zs[i]? = some y → ¬ s = y from fun i y hi hy => by
          by_cases ej : i = j
          · subst ej
            rw [HX.out] at hy
            cases hy
            exact e
          · exact HJ1.out i y (by omega) hy)
        clear e
        go_wp2
        go_roundw
        case rel => exact ⟨j + 1, by omega, by go_num, HJ2, hid trivial⟩
        case measure => simp [intOf]; omega
    · have hkI : ¬ ((j : Int) < (n : Int)) := by omega
      have HE := hid (show fndV s zs = .tuple #[.int .i64 0, .bool false] by
        unfold fndV
        rw [plJ_none fun i x hx => HJ1.out i x (by have := (List.getElem?_eq_some_iff.1 hx).1; have := HZL.out; omega) hx])
      clear hlt HJ1
      go_wp2
      go_ret2
      exact ⟨by rw [HE.out]; rfl, HB0.out⟩
set_option maxRecDepth 20000 in
set_option maxHeartbeats 1000000 in
theorem oFind_any {w : World} {x0 vl : Value} {dv : Option Addr} {N dc : Nat} {ds : List (To.Dv × Value × Value)} {s : List UInt8} (hD : DvL w (.slice dv N dc) ds) (hn : ds.length ≤ 100000) :
    Calls Tryz.prog 19 #[.agg #[x0, .slice dv N dc, vl], .string (tx s)] w fun en w' => en = .returned (fndV s (ds.map (·.1.name))) ∧ Below w.heap.size w w' := by
  obtain ⟨av, cap, e, hr⟩ := hD.form
  injection e with e1 e2 e3
  subst e1; subst e2; subst e3
  obtain ⟨n, hnn⟩ : ∃ n, n = ds.length := ⟨_, rfl⟩
  have HN := hid hnn
  rw [← hnn] at hn ⊢
  have HR := hid hr
  obtain ⟨zs, hzs⟩ : ∃ zs, zs = ds.map (·.1.name) := ⟨_, rfl⟩
  have HZ := hid (show ∀ (i : Nat) (q : To.Dv × Value × Value), ds[i]? = some q → zs[i]? = some q.1.name from fun i q hq => by rw [hzs, List.getElem?_map, hq]; rfl)
  have HZL := hid (show zs.length = n by rw [hzs, List.length_map, hnn])
  rw [← hzs]
  obtain ⟨W0, hW0⟩ : ∃ W0, W0 = w.alloc (topJ x0 (.slice dv n dc) vl) := ⟨_, rfl⟩
  have h0 : W0.heap[w.heap.size]? = some (topJ x0 (.slice dv n dc) vl) := by rw [hW0]; exact new_0 _ _
  have HB0 := hid (show Below w.heap.size w W0 from by rw [hW0]; exact (Below.refl _ _).alloc (Nat.le_refl _) _)
  obtain ⟨t0, t1, t2⟩ := topJ_cells h0
  clear hr hnn hzs h0
  go_enter Tryz.func19, Tryz.ntmps19
  go_wp2_with fail
  rw [← hW0]
  clear hW0
  go_loopw [11] (fun i wr => ∃ j : Nat, j ≤ n ∧ i = .int .i64 j ∧ Hid (∀ (i : Nat) (x : List UInt8), i < j → zs[i]? = some x → ¬ s = x) ∧ Hid (Below W0.heap.size W0 wr)) (fun i _ => n - (intOf i).toNat)
  case atStart => exact ⟨0, Nat.zero_le _, rfl, hid fun i x hi => absurd hi (Nat.not_lt_zero i), hid (Below.refl _ _)⟩
  case round =>
    obtain ⟨j, hj, rfl, HJ1, hW⟩ := hrel
    have HBW := hid (show Below w.heap.size w wr from ⟨hW.out.os.trans HB0.out.os, hW.out.tape.trans HB0.out.tape, hW.out.output.trans HB0.out.output, Nat.le_trans HB0.out.size hW.out.size, fun i hi => (hW.out.block i (Nat.lt_of_lt_of_le hi HB0.out.size)).trans (HB0.out.block i hi)⟩)
    by_cases hlt : j < n
    · obtain ⟨q, hq⟩ : ∃ q, ds[j]? = some q := ⟨_, List.getElem?_eq_getElem (by have := HN.out; omega)⟩
      obtain ⟨g, o, rfl, hg, hcell⟩ := HR.out.resolve_left (fun e => by rw [e] at hq; simp at hq)
      have k0 := (World.cell?_of_block (a := ⟨g, o + j * 3, none⟩) (HBW.out.block g hg)).trans (hcell j q hq).1
      have k1 := (World.cell?_of_block (a := ⟨g, o + j * 3 + 1, none⟩) (HBW.out.block g hg)).trans (hcell j q hq).2.1
      have k2 := (World.cell?_of_block (a := ⟨g, o + j * 3 + 2, none⟩) (HBW.out.block g hg)).trans (hcell j q hq).2.2
      have hx := HZ.out j q hq
      obtain ⟨x, hxx⟩ : ∃ x, x = q.1.name := ⟨_, rfl⟩
      rw [← hxx] at k0 hx
      obtain ⟨h1t, -⟩ := hD.cls q (List.mem_of_getElem? hq)
      obtain ⟨h2t, -⟩ := hD.prt q (List.mem_of_getElem? hq)
      obtain ⟨va, vc, ev, -⟩ := h1t
      obtain ⟨ua, uc, eu, -⟩ := h2t
      rw [ev] at k1
      rw [eu] at k2
      obtain ⟨L1, g1⟩ : ∃ L, L = q.1.cls.length := ⟨_, rfl⟩
      obtain ⟨L2, g2⟩ : ∃ L, L = q.1.prt.length := ⟨_, rfl⟩
      rw [← g1] at k1
      rw [← g2] at k2
      clear ev eu g1 g2
      obtain ⟨W5, hW5⟩ : ∃ W5, W5 = wr.alloc (dvOJ x (.slice va L1 vc) (.slice ua L2 uc)) := ⟨_, rfl⟩
      obtain ⟨kb, hkb⟩ : ∃ kb, kb = wr.heap.size := ⟨_, rfl⟩
      have h5 : W5.heap[kb]? = some (dvOJ x (.slice va L1 vc) (.slice ua L2 uc)) := by rw [hW5, hkb]; exact new_0 _ _
      obtain ⟨r0, r1, r2⟩ := dvOJ_cells h5
      have HB5 := hid (show Below W0.heap.size W0 W5 from by rw [hW5]; exact hW.out.alloc hW.out.size _)
      have HBX := hid (show Below w.heap.size w W5 from by rw [hW5]; exact HBW.out.alloc HBW.out.size _)
      clear h5
      have HX := hid hx
      have hkI : (j : Int) < (n : Int) := by omega
      have hk0 : (0 : Int) ≤ (j : Int) := by omega
      clear hx hcell hq hxx
      go_upto_region 4 with fail
      rw [← hW5, ← hkb]
      clear hW5 hkb
      by_cases e : s = x
      · subst e
        have HE := hid (show fndV s zs = .tuple #[.int .i64 j, .bool true] by unfold fndV; rw [plJ_at HX.out HJ1.out])
        have e3 : (s == s) = true := by simp
        go_wp2
        go_ret2
        exact ⟨by rw [HE.out]; rfl, HBX.out⟩
      · have e1 : (s == x) = false := by rw [beq_eq_false_iff_ne]; exact e
        have e2 : (x == s) = false := by rw [beq_eq_false_iff_ne]; exact fun h => e h.symm
        have HJ2 := hid (show ∀ (i : Nat) (y : List UInt8), i < j + 1 → zs[i]? = some y → ¬ s = y from fun i y hi hy => by
          by_cases ej : i = j
          · subst ej
            rw [HX.out] at hy
            cases hy
            exact e
          · exact HJ1.out i y (by omega) hy)
        clear e
        go_wp2
        go_roundw
        case rel => exact ⟨j + 1, by omega, by go_num, HJ2, HB5⟩
        case measure => simp [intOf]; omega
    · have hkI : ¬ ((j : Int) < (n : Int)) := by omega
      have HE := hid (show fndV s zs = .tuple #[.int .i64 0, .bool false] by
        unfold fndV
        rw [plJ_none fun i x hx => HJ1.out i x (by have := (List.getElem?_eq_some_iff.1 hx).1; have := HZL.out; omega) hx])
      clear hlt HJ1
      go_wp2
      go_ret2
      exact ⟨by rw [HE.out]; rfl, HBW.out⟩
end Go.Proofs.YtebaopiedlioiaaGreatDoor
namespace Go.Proofs.YtebaopiedlioiaaGreatDoor
open Go.RowKit

set_option maxRecDepth 20000 in
set_option maxHeartbeats 1000000 in
theorem RPeer_any {w : World} {x0 x1 v : Value} {ls : List LkZ} (hL : LkV w v ls) (d : Int) (m : List UInt8) (hlen : ls.length ≤ 1000000) :
    Calls Tryz.prog 22 #[.agg #[x0, x1, v], .int .i64 d, .string (tx m)] w fun e w' => e = .returned (peerV (peerJ d m ls)) ∧ Below w.heap.size w w' := by
  obtain ⟨av, cap, rfl, hcell⟩ := hL.form
  obtain ⟨n, hn⟩ : ∃ n, ls.length = n := ⟨_, rfl⟩
  have HC := hid hcell
  have HN := hid hn
  rw [hn] at hlen ⊢
  clear hcell hn hL
  obtain ⟨W0, hW0⟩ : ∃ W0, W0 = w.alloc (topJ x0 x1 (.slice av n cap)) := ⟨_, rfl⟩
  have h0 : W0.heap[w.heap.size]? = some (topJ x0 x1 (.slice av n cap)) := by rw [hW0]; exact new_0 _ _
  have HT := hid h0
  have HB0 := hid (show Below w.heap.size w W0 from by rw [hW0]; exact (Below.refl _ _).alloc (Nat.le_refl _) _)
  clear h0
  go_enter Tryz.func22, Tryz.ntmps22
  go_wp2_with fail
  rw [← hW0]
  clear hW0
  go_loopw [9] (fun i wr => ∃ k : Nat, k ≤ n ∧ i = .int .i64 k ∧ Hid (Below W0.heap.size W0 wr) ∧ Hid (peerJ d m ls = peerJ d m (ls.drop k))) (fun i _ => n - (intOf i).toNat)
  case atStart => exact ⟨0, Nat.zero_le _, rfl, hid (Below.refl _ _), hid rfl⟩
  case round =>
    obtain ⟨k, hk, rfl, hB, hR⟩ := hrel
    have HBW := hid (show Below w.heap.size w wr from ⟨hB.out.os.trans HB0.out.os, hB.out.tape.trans HB0.out.tape, hB.out.output.trans HB0.out.output, Nat.le_trans HB0.out.size hB.out.size, fun i hi => (hB.out.block i (Nat.lt_of_lt_of_le hi HB0.out.size)).trans (HB0.out.block i hi)⟩)
    obtain ⟨-, -, t2⟩ := topJ_cells ((hB.out.block _ (lt_of_block HT.out)).trans HT.out)
    by_cases hkn : k < n
    · have hkl : k < ls.length := by rw [HN.out]; exact hkn
      obtain ⟨⟨a, p, b, q⟩, hq⟩ : ∃ q, ls[k]? = some q := ⟨_, List.getElem?_eq_getElem hkl⟩
      obtain ⟨G, o, rfl, hG, hcells⟩ := HC.out.resolve_left (fun e => by rw [e] at hkl; exact absurd hkl (Nat.not_lt_zero _))
      have hw := HBW.out.block G hG
      obtain ⟨z0, z1, z2, z3⟩ := hcells k _ hq
      have y0 := (World.cell?_of_block (a := ⟨G, o + k * 4, none⟩) hw).trans z0
      have y1 := (World.cell?_of_block (a := ⟨G, o + k * 4 + 1, none⟩) hw).trans z1
      have y2 := (World.cell?_of_block (a := ⟨G, o + k * 4 + 2, none⟩) hw).trans z2
      have y3 := (World.cell?_of_block (a := ⟨G, o + k * 4 + 3, none⟩) hw).trans z3
      simp only at y0 y1 y2 y3
      have HDR := hid (show ls.drop k = (a, p, b, q) :: ls.drop (k + 1) from by
        rw [List.drop_eq_getElem_cons hkl]
        congr 1
        rw [List.getElem?_eq_getElem hkl] at hq
        exact Option.some.inj hq)
      have hkI : (k : Int) < (n : Int) := by omega
      have hk0 : (0 : Int) ≤ (k : Int) := by omega
      obtain ⟨W5, hW5⟩ : ∃ W5, W5 = wr.alloc (lkO (a, p, b, q)) := ⟨_, rfl⟩
      obtain ⟨kb, hkb⟩ : ∃ kb, kb = wr.heap.size := ⟨_, rfl⟩
      have h5 : W5.heap[kb]? = some (lkO (a, p, b, q)) := by rw [hW5, hkb]; exact new_0 _ _
      obtain ⟨r0, r1, r2, r3⟩ := lkO_cells h5
      have HB5 := hid (show Below W0.heap.size W0 W5 from by rw [hW5]; exact hB.out.alloc hB.out.size _)
      have HBX := hid (show Below w.heap.size w W5 from by rw [hW5]; exact HBW.out.alloc HBW.out.size _)
      clear hcells z0 z1 z2 z3 hq hkl hw h5
      go_upto_region 5 with fail
      rw [← hW5, ← hkb]
      clear hW5 hkb y0 y1 y2 y3 t2
      by_cases hE1 : d = a ∧ m = p
      · obtain ⟨rfl, rfl⟩ := hE1
        have HE := hid (show peerJ d m ls = some (b, q) from by rw [hR.out, HDR.out, peerJ, if_pos ⟨rfl, rfl⟩])
        have e1 : (d == d) = true := by simp
        have e2 : (m == m) = true := by simp
        go_wp2_with fail
        go_quiet (fail)
        go_wp2
        refine bodyPost_ret (v := .tuple #[.int .i64 b, .string (tx q), .bool true]) (by simp [results, Tryz.results22, go_sem]) rfl ⟨by rw [HE.out]; rfl, below_drewN HBX.out⟩
      · have HE1 := hid hE1
        have hcase : (a == d) = false ∨ ((a == d) = true ∧ (p == m) = false) := by
          by_cases e : a = d
          · right; exact ⟨by rw [e]; simp, by rw [beq_eq_false_iff_ne]; exact fun e2 => hE1 ⟨e.symm, e2.symm⟩⟩
          · left; rw [beq_eq_false_iff_ne]; exact e
        clear hE1
        by_cases hE2 : d = b ∧ m = q
        · obtain ⟨rfl, rfl⟩ := hE2
          have HE := hid (show peerJ d m ls = some (a, p) from by rw [hR.out, HDR.out, peerJ, if_neg HE1.out, if_pos ⟨rfl, rfl⟩])
          have e3 : (d == d) = true := by simp
          have e4 : (m == m) = true := by simp
          rcases hcase with e1 | ⟨e1, e2⟩
          · go_wp2_with fail
            go_quiet (fail)
            go_wp2
            refine bodyPost_ret (v := .tuple #[.int .i64 a, .string (tx p), .bool true]) (by simp [results, Tryz.results22, go_sem]) rfl ⟨by rw [HE.out]; rfl, below_drewN HBX.out⟩
          · obtain rfl : a = d := by simpa using e1
            go_wp2_with fail
            go_quiet (fail)
            go_wp2
            refine bodyPost_ret (v := .tuple #[.int .i64 a, .string (tx p), .bool true]) (by simp [results, Tryz.results22, go_sem]) rfl ⟨by rw [HE.out]; rfl, below_drewN HBX.out⟩
        · have HR9 := hid (show peerJ d m ls = peerJ d m (ls.drop (k + 1)) from by rw [hR.out, HDR.out, peerJ, if_neg HE1.out, if_neg hE2])
          have hcase2 : (b == d) = false ∨ ((b == d) = true ∧ (q == m) = false) := by
            by_cases e : b = d
            · right; exact ⟨by rw [e]; simp, by rw [beq_eq_false_iff_ne]; exact fun e2 => hE2 ⟨e.symm, e2.symm⟩⟩
            · left; rw [beq_eq_false_iff_ne]; exact e
          clear hE2
          rcases hcase with e1 | ⟨e1, e2⟩
          · rcases hcase2 with e3 | ⟨e3, e4⟩
            · go_wp2
              go_roundw
              case rel => exact ⟨k + 1, by omega, by go_num, HB5, HR9⟩
              case measure => simp [intOf]; omega
            · obtain rfl : b = d := by simpa using e3
              go_wp2
              go_roundw
              case rel => exact ⟨k + 1, by omega, by go_num, HB5, HR9⟩
              case measure => simp [intOf]; omega
          · obtain rfl : a = d := by simpa using e1
            rcases hcase2 with e3 | ⟨e3, e4⟩
            · go_wp2
              go_roundw
              case rel => exact ⟨k + 1, by omega, by go_num, HB5, HR9⟩
              case measure => simp [intOf]; omega
            · obtain rfl : b = a := by simpa using e3
              go_wp2
              go_roundw
              case rel => exact ⟨k + 1, by omega, by go_num, HB5, HR9⟩
              case measure => simp [intOf]; omega
    · have hI : ¬ (k : Int) < (n : Int) := by omega
      have HE := hid (show peerJ d m ls = none from by
        rw [hR.out, List.drop_eq_nil_of_le (by rw [HN.out]; omega)]
        rfl)
      go_wp2
      refine bodyPost_ret (v := .tuple #[.int .i64 0, .string (tx []), .bool false]) (by simp [results, Tryz.results22, go_sem]) rfl ⟨by rw [HE.out]; rfl, HBW.out⟩
end Go.Proofs.YtebaopiedlioiaaGreatDoor
