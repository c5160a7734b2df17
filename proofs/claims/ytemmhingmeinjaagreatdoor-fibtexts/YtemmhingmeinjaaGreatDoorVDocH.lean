/-
  The document's Do.
-/
import Derived.Test.YtemmhingmeinjaaGreatDoorVDocFAnd
import Derived.Deep.RegionHeld2
namespace Go.Proofs.YtemmhingmeinjaaGreatDoor
open Go.RowKit

theorem ChIn.on {w w' : World} {ao : Option Addr} {cs : List (Int × Raw × Value)} (h : ChIn w ao cs) (hb : Below w.heap.size w w') : ChIn w' ao cs := by
  rcases h with h | ⟨g, o, e, hv⟩
  · exact Or.inl h
  · refine Or.inr ⟨g, o, e, Nat.lt_of_lt_of_le hv.old hb.size, fun i u hu => ?_, fun u hu => ⟨(hv.ports u hu).1.below hb, (hv.ports u hu).2⟩⟩
    obtain ⟨c0, c1, c2, c3, c4⟩ := hv.cell i u hu
    exact ⟨(hb.cell (by exact hv.old)).trans c0, (hb.cell (by exact hv.old)).trans c1, (hb.cell (by exact hv.old)).trans c2, (hb.cell (by exact hv.old)).trans c3, (hb.cell (by exact hv.old)).trans c4⟩
def RDoPost (w : World) (Q rb : Nat) (W : Int) (L : List Raw) (cs : List (Int × Raw)) (e : Ending) (w' : World) : Prop :=
  w.grownBy w' (some rb) ∧
  ((∃ L', runN W L cs 0 = .ok L' ∧ e = .returned (.tuple #[.int .i64 0, .int .i64 0]) ∧ DTab w' Q rb W L') ∨
   (∃ (i : Nat) (er : Int), runN W L cs 0 = .error (i, er) ∧ er ≠ 0 ∧ e = .returned (.tuple #[.int .i64 i, .int .i64 er]) ∧ DTab w' Q rb W L))
structure RDoAt (w : World) (Q : Nat) (W : Int) (L : List Raw) (cs : List (Int × Raw)) (j n2 : Nat) (v : Value) (ps : List (Raw × Value)) (wr : World) : Prop where
  low : Below w.heap.size w wr
  doc : DocL wr 0 Q v ps
  len : ps.length = n2
  run : runN W L (cs.take j) 0 = .ok (ps.map Prod.fst)
  good : GoodT W (ps.map Prod.fst)
theorem mayE_ok {W : Int} {L : List Raw} {k : Int} {r : Raw} {L' : List Raw} (h : stepN W L k r = .ok L') : mayE W L k r = 0 := by unfold mayE; rw [h]
theorem mayE_no {W : Int} {L : List Raw} {k : Int} {r : Raw} {e : Int} (h : stepN W L k r = .error e) : mayE W L k r = e := by unfold mayE; rw [h]
theorem step_ne {W : Int} {L : List Raw} {k : Int} {r : Raw} {e : Int} (h : stepN W L k r = .error e) : e ≠ 0 := by
  unfold stepN at h
  split at h
  · split at h
    · split at h
      · injection h with h; omega
      · split at h
        · injection h with h; omega
        · cases h
    · injection h with h; rename_i q; rw [← h]; exact q
  · split at h
    · split at h
      · split at h
        · cases h
        · injection h with h; omega
      · injection h with h; rename_i q; rw [← h]; exact q
    · split at h
      · split at h
        · split at h
          · cases h
          · injection h with h; omega
        · injection h with h; rename_i q; rw [← h]; exact q
      · injection h with h; omega

set_option maxRecDepth 20000 in
set_option maxHeartbeats 4000000 in
theorem RDo_any {w : World} {Q rb n cap : Nat} {ao : Option Addr} {W : Int} {L : List Raw} {cs : List (Int × Raw × Value)} (h : DTab w Q rb W L) (hQ : Q ≤ w.heap.size) (hgd : GoodT W L) (hc : ChIn w ao cs) (hn : cs.length = n) (hs : ∀ u ∈ cs, Small u.2.1.mat u.2.1.ports) (h63 : n ≤ maxLen) :
    Calls Tryz.prog 15 #[.pointer (some ⟨rb, 0, none⟩), .slice ao n cap] w fun e w' => RDoPost w Q rb W L (chs cs) e w' := by
  obtain ⟨v, ps, hB, hd, hL⟩ := h.ex
  have HD := hid hd
  have HB := hid hB
  have HC := hid hc
  have HN := hid hn
  have HS := hid hs
  have HLE := hid hL
  have HG := hid hgd
  have H := hid h
  obtain ⟨lo, lc, hv, _, _⟩ := hd.own.form
  subst hv
  obtain ⟨n0, hn0⟩ : ∃ n0, n0 = ps.length := ⟨_, rfl⟩
  have HN0 := hid hn0
  rw [← hn0] at HD HB
  have HA0 := hid (show RDoAt w Q W L (chs cs) 0 n0 (.slice lo n0 lc) ps w from ⟨Below.refl _ _, HD.out, HN0.out.symm, by rw [HLE.out]; rfl, by rw [HLE.out]; exact HG.out⟩)
  have t1 : w.cell? ⟨rb, 1, none⟩ = some (.slice lo n0 lc) := by rw [cell_at HB.out]; rfl
  have h63I : (n : Int) ≤ 9223372036854775807 := by unfold maxLen at h63; omega
  clear hd hB hc hn hs hL hgd h hn0
  go_enter Tryz.func15, Tryz.ntmps15
  go_wp2_with fail
  clear t1
  go_loopw [6, 7] (fun vr vi wr => ∃ (j : Nat) (ro : Option Addr) (rn rc : Nat) (qs : List (Raw × Value)), j ≤ n ∧ vi = .int .i64 j ∧ vr = .slice ro rn rc ∧ Hid (RDoAt w Q W L (chs cs) j rn (.slice ro rn rc) qs wr)) (fun _ vi _ => n - (intOf vi).toNat)
  case atStart => exact ⟨0, lo, n0, lc, ps, Nat.zero_le _, rfl, rfl, HA0⟩
  case round =>
    obtain ⟨j, ro, rn, rc, qs, hj, rfl, rfl, HA⟩ := hrel
    rename World => wo
    have HBo := hid (below_block HA.out.low HB.out (lt_of_block HB.out))
    by_cases hlt : j < n
    · obtain ⟨u, hu⟩ : ∃ u, cs[j]? = some u := ⟨cs[j]'(by rw [HN.out]; exact hlt), List.getElem?_eq_getElem _⟩
      have HU := hid hu
      have hjI : (j : Int) < (n : Int) := by omega
      have hj0 : (0 : Int) ≤ (j : Int) := by omega
      have HCH := hid (HC.out.on HA.out.low)
      obtain ⟨g, o, rfl⟩ : ∃ g o, ao = some ⟨g, o, none⟩ := by
        rcases HC.out with q | ⟨g, o, e, _⟩
        · rw [q] at hu; simp at hu
        · exact ⟨g, o, e⟩
      have HVW := hid (show ∀ X, Below w.heap.size w X → ChView X g o cs from fun X hX => by
        rcases HC.out.on hX with q | ⟨g', o', e, hv⟩
        · rw [q] at hu; simp at hu
        · cases e; exact hv)
      have HSM := hid (HS.out u (List.mem_of_getElem? hu))
      have HCU := hid (show (chs cs)[j]? = some (u.1, u.2.1) by rw [List.getElem?_map, hu]; rfl)
      have HTX := hid (show ∀ X, Below w.heap.size w X → Txs X u.2.2 u.2.1.ports from fun X hX => ((HVW.out X hX).ports u (List.mem_of_getElem? hu)).1)
      have HPL := hid (((HVW.out wo HA.out.low).ports u (List.mem_of_getElem? hu)).2)
      have HCL := hid (show ∀ X, Below w.heap.size w X → _ from fun X hX => (HVW.out X hX).cell j u hu)
      obtain ⟨kd, ⟨p, m, k, zs⟩, uv⟩ := u
      simp only at HSM HCU HTX HPL HCL
      obtain ⟨uo, uc, huv, _⟩ := HTX.out wo HA.out.low
      obtain ⟨un, hun⟩ : ∃ un, un = zs.length := ⟨_, rfl⟩
      rw [← hun] at huv
      subst huv
      clear hu hun
      have HFEW := hid (show rn ≤ 4096 by have := HA.out.good.few; rw [List.length_map, HA.out.len] at this; exact this)
      have HMAY := hid (fun (X : World) (hX : Below wo.heap.size wo X) => RMay_any (W := W) (k := kd) (p := p) (kk := k) (m := m) (HA.out.doc.on hX).own HA.out.len HFEW.out (HTX.out X (below_2 HA.out.low hX)) HPL.out (by have := HSM.out.2.1; unfold maxLen; omega) (by have := HSM.out.1; unfold maxLen; omega))
      have HCS := hid (show ∀ X : World, Below w.heap.size w X → (fun W' => W'.cell? ⟨g, o + j * 5, none⟩ = some (.int .i64 kd) ∧ W'.cell? ⟨g, o + j * 5 + 1, none⟩ = some (.int .i64 p) ∧ W'.cell? ⟨g, o + j * 5 + 2, none⟩ = some (.string (tx m)) ∧ W'.cell? ⟨g, o + j * 5 + 3, none⟩ = some (.int .i64 k) ∧ W'.cell? ⟨g, o + j * 5 + 4, none⟩ = some (.slice uo un uc) ∧ W'.cell? ⟨rb, 0, none⟩ = some (.int .i64 W)) X from fun X hX => by
        obtain ⟨c0, c1, c2, c3, c4⟩ := HCL.out X hX
        exact ⟨c0, c1, c2, c3, c4, by rw [cell_at (below_block hX HB.out (lt_of_block HB.out))]; rfl⟩)
      have hS0 := HCS.out wo HA.out.low
      have HSN := hid (run_snoc (c := (kd, (⟨p, m, k, zs⟩ : Raw))) HA.out.run HCU.out)
      cases hst : stepN W (qs.map Prod.fst) kd ⟨p, m, k, zs⟩ with
      | error er =>
        have HST := hid hst
        rw [mayE_no hst] at HMAY
        have hne : (er != 0) = true := by rw [bne_iff_ne]; exact step_ne hst
        have HFIN := hid (show ∀ X, Below w.heap.size w X → RDoPost w Q rb W L (chs cs) (.returned (.tuple #[.int .i64 (j : Int), .int .i64 er])) X from fun X hX => ⟨⟨hX.os, hX.tape, hX.output, hX.size, fun i hi _ => hX.block i hi⟩, Or.inr ⟨j, er, HSN.out.2 er HST.out, step_ne HST.out, rfl, H.out.on hX⟩⟩)
        clear hst
        go_wp2_with fail
        go_region_held2 (fun W' => W'.cell? ⟨g, o + j * 5, none⟩ = some (.int .i64 kd) ∧ W'.cell? ⟨g, o + j * 5 + 1, none⟩ = some (.int .i64 p) ∧ W'.cell? ⟨g, o + j * 5 + 2, none⟩ = some (.string (tx m)) ∧ W'.cell? ⟨g, o + j * 5 + 3, none⟩ = some (.int .i64 k) ∧ W'.cell? ⟨g, o + j * 5 + 4, none⟩ = some (.slice uo un uc) ∧ W'.cell? ⟨rb, 0, none⟩ = some (.int .i64 W)) (first | exact hS0 | exact hS2) (first | (go_at_call 28; refine (HMAY.out _ ((Below.refl _ _).drew)).mono ?_; rintro en w2 ⟨rfl, hb2⟩; have B2 := hid (below_2 HA.out.low (below_2 ((Below.refl _ _).drew) hb2)); clear hb2; have hS2 := HCS.out w2 B2.out))
        go_wp2
        refine bodyPost_ret (v := .tuple #[.int .i64 (j : Int), .int .i64 er]) (by simp [results, Tryz.results15, go_sem]) rfl (HFIN.out _ B2.out)
      | ok L2 =>
        have HST := hid hst
        rw [mayE_ok hst] at HMAY
        clear hst
        go_wp2_with fail
        go_region_held2 (fun W' => W'.cell? ⟨g, o + j * 5, none⟩ = some (.int .i64 kd) ∧ W'.cell? ⟨g, o + j * 5 + 1, none⟩ = some (.int .i64 p) ∧ W'.cell? ⟨g, o + j * 5 + 2, none⟩ = some (.string (tx m)) ∧ W'.cell? ⟨g, o + j * 5 + 3, none⟩ = some (.int .i64 k) ∧ W'.cell? ⟨g, o + j * 5 + 4, none⟩ = some (.slice uo un uc) ∧ W'.cell? ⟨rb, 0, none⟩ = some (.int .i64 W)) (first | exact hS0 | exact hS2) (first | (go_at_call 28; refine (HMAY.out _ ((Below.refl _ _).drew)).mono ?_; rintro en w2 ⟨rfl, hb2⟩; have HB2' := hid (below_2 ((Below.refl wo.heap.size wo).drew) hb2); have B2 := hid (below_2 HA.out.low HB2'.out); clear hb2; have hS2 := HCS.out w2 B2.out))
        clear hS2
        have HAF := hid (RAfter_any (HA.out.doc.on HB2'.out) (Nat.le_trans hQ B2.out.size) HA.out.len HA.out.good (HTX.out w2 B2.out) HSM.out HST.out)
        obtain ⟨c0, c1, c2, c3, c4⟩ := HCL.out w2 B2.out
        go_wp2_with fail
        refine HAF.out.mono ?_
        rintro en w3 ⟨bo, bn, bc, qs3, rfl, h3⟩
        have HA3 := hid (show RDoAt w Q W L (chs cs) (j + 1) bn (.slice bo bn bc) qs3 w3 from ⟨below_2 B2.out h3.out.2.2.2, h3.out.1, h3.out.2.1, by rw [h3.out.2.2.1]; exact (HSN.out.1 L2 HST.out).1, by rw [h3.out.2.2.1]; exact HA.out.good.step HST.out⟩)
        clear h3 c0 c1 c2 c3 c4
        go_wp2
        go_roundw
        case rel => exact ⟨j + 1, bo, bn, bc, qs3, by omega, by go_num, rfl, HA3⟩
        case measure => simp [intOf]; omega
    · have hjI : ¬ ((j : Int) < (n : Int)) := by omega
      have t1o : wo.cell? ⟨rb, 1, none⟩ = some (.slice lo n0 lc) := by rw [cell_at HBo.out]; rfl
      have hf1 : wo.frozen? ⟨rb, 1, none⟩ = false := free_of HBo.out
      have HFIN := hid (show RDoPost w Q rb W L (chs cs) (.returned (.tuple #[.int .i64 0, .int .i64 0])) (wo.setCell ⟨rb, 1, none⟩ (.slice ro rn rc)) from by
        have hjn : j = n := by omega
        have hl := HA.out.low
        have hg : wo.grownBy (wo.setCell ⟨rb, 1, none⟩ (.slice ro rn rc)) (some rb) := grown_cell _ _ _ _
        refine ⟨grown_two ⟨hl.os, hl.tape, hl.output, hl.size, fun i hi _ => hl.block i hi⟩ hg, Or.inl ⟨qs.map Prod.fst, ?_, rfl, .slice ro rn rc, qs, ?_, ⟨HA.out.doc.own.grew hg HBo.out (by decide), fun q hq => ⟨(HA.out.doc.prt q hq).1.grewB hg HBo.out (by decide), (HA.out.doc.prt q hq).2⟩⟩, rfl⟩⟩
        · have := HA.out.run
          rw [List.take_of_length_le (by rw [List.length_map, HN.out]; omega)] at this
          exact this
        · rw [block_set (o := 1) _ HBo.out]; rfl)
      go_wp2
      refine bodyPost_ret (v := .tuple #[.int .i64 0, .int .i64 0]) (by simp [results, Tryz.results15, go_sem]) rfl HFIN.out
end Go.Proofs.YtemmhingmeinjaaGreatDoor
