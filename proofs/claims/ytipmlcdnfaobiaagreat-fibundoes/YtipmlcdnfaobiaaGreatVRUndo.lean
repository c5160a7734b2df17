/-
  The document's Undo.
-/
import Derived.Test.YtipmlcdnfaobiaaGreatVMadeAnd
import Derived.Test.YtipmlcdnfaobiaaGreatVFOwn
namespace Go.Proofs.YtipmlcdnfaobiaaGreat
open Go.RowKit

theorem flatC_one {us : List (Int × Raw × Value)} (h : ∀ u ∈ us, ∃ ao n c, u.2.2 = .slice ao n c) : ∀ x ∈ flatC us, x.oneCell' = true := by
  intro x hx
  unfold flatC at hx
  obtain ⟨u, hu, hx⟩ := List.mem_flatMap.1 hx
  obtain ⟨ao, n, c, e⟩ := h u hu
  simp only [List.mem_cons, List.not_mem_nil, or_false] at hx
  rcases hx with rfl | rfl | rfl | rfl | rfl
  · rfl
  · rfl
  · rfl
  · rfl
  · rw [e]; rfl
/-- Where the document's Undo stands. -/
structure RUndAt (w : World) (Q : Nat) (W : Int) (L : List Raw) (cs : List (Int × Raw)) (j rn : Nat) (vr vo : Value) (ps : List (Raw × Value)) (us : List (Int × Raw × Value)) (wr : World) : Prop where
  at_ : RDoAt w Q W L cs j rn vr ps wr
  own : OwnC wr w.heap.size vo us
  und : chs us = (undosN W L (cs.take j)).reverse
  len : us.length = j
/-- What the document's Undo tells. -/
def RUndPost (w : World) (W : Int) (L : List Raw) (cs : List (Int × Raw)) (e : Ending) (w' : World) : Prop :=
  Below w.heap.size w w' ∧
  ((∃ L' ao n c us, runN W L cs 0 = .ok L' ∧ e = .returned (.tuple #[.slice ao n c, .int .i64 0, .int .i64 0]) ∧ OwnC w' w.heap.size (.slice ao n c) us ∧ us.length = n ∧ chs us = (undosN W L cs).reverse) ∨
   (∃ (i : Nat) (er : Int), runN W L cs 0 = .error (i, er) ∧ er ≠ 0 ∧ e = .returned (.tuple #[.slice none 0 0, .int .i64 i, .int .i64 er])))

set_option maxRecDepth 20000 in
set_option maxHeartbeats 4000000 in
theorem RUndo_any {w : World} {Q rb n cap : Nat} {ao : Option Addr} {W : Int} {L : List Raw} {cs : List (Int × Raw × Value)} (h : DTab w Q rb W L) (hQ : Q ≤ w.heap.size) (hgd : GoodT W L) (hc : ChIn w ao cs) (hn : cs.length = n) (hs : ∀ u ∈ cs, Small u.2.1.mat u.2.1.ports) (h64 : n * 64 ≤ 140737488355328) :
    Calls Tryz.prog 26 #[.pointer (some ⟨rb, 0, none⟩), .slice ao n cap] w fun e w' => RUndPost w W L (chs cs) e w' := by
  obtain ⟨v, ps, hB, hd, hL⟩ := h.ex
  have HD := hid hd
  have HB := hid hB
  have HC := hid hc
  have HN := hid hn
  have HS := hid hs
  have HLE := hid hL
  have HG := hid hgd
  obtain ⟨lo, lc, hv, -, -⟩ := hd.own.form
  subst hv
  obtain ⟨n0, hn0⟩ : ∃ n0, n0 = ps.length := ⟨_, rfl⟩
  have HN0 := hid hn0
  rw [← hn0] at HD HB
  have HA0 := hid (show RUndAt w Q W L (chs cs) 0 n0 (.slice lo n0 lc) (.slice none 0 0) ps [] w from ⟨⟨Below.refl _ _, HD.out.mono (Nat.zero_le _), HN0.out.symm, by rw [HLE.out]; rfl, by rw [HLE.out]; exact HG.out⟩, ⟨World.ownsRow_nil _ _ _ _, fun q hq => by cases hq⟩, rfl, rfl⟩)
  have t1 : w.cell? ⟨rb, 1, none⟩ = some (.slice lo n0 lc) := by rw [cell_at HB.out]; rfl
  have h63I : (n : Int) ≤ 9223372036854775807 := by omega
  obtain ⟨i0, hi, hz0, hz1, hz2⟩ := info_parts Tryz.infoChange
  have HI := hid hi
  have HZ0 := hid hz0
  have HZ1 := hid hz1
  have HZ2 := hid hz2
  clear hd hB hc hn hs hL hgd h hn0 hi hz0 hz1 hz2
  go_enter Tryz.func26, Tryz.ntmps26
  go_wp2_with fail
  clear t1
  go_loopw [7, 8, 9] (fun vr vo vi wr => ∃ (j : Nat) (ro : Option Addr) (rn rc : Nat) (qs : List (Raw × Value)) (oo : Option Addr) (oc : Nat) (us : List (Int × Raw × Value)), j ≤ n ∧ vi = .int .i64 j ∧ vr = .slice ro rn rc ∧ vo = .slice oo j oc ∧ Hid (RUndAt w Q W L (chs cs) j rn (.slice ro rn rc) (.slice oo j oc) qs us wr)) (fun _ _ vi _ => n - (intOf vi).toNat)
  case atStart => exact ⟨0, lo, n0, lc, ps, none, 0, [], Nat.zero_le _, rfl, rfl, rfl, HA0⟩
  case round =>
    clear HA0
    obtain ⟨j, ro, rn, rc, qs, oo, oc, us, hj, rfl, rfl, rfl, HA⟩ := hrel
    rename World => wo
    have HBo := hid (below_block HA.out.at_.low HB.out (lt_of_block HB.out))
    by_cases hlt : j < n
    · obtain ⟨u, hu⟩ : ∃ u, cs[j]? = some u := ⟨cs[j]'(by rw [HN.out]; exact hlt), List.getElem?_eq_getElem _⟩
      have hjI : (j : Int) < (n : Int) := by omega
      have hj0 : (0 : Int) ≤ (j : Int) := by omega
      obtain ⟨g, o, rfl⟩ : ∃ g o, ao = some ⟨g, o, none⟩ := by
        rcases HC.out with q | ⟨g, o, e, _⟩
        · rw [q] at hu; simp at hu
        · exact ⟨g, o, e⟩
      have HVW := hid (show ∀ X, Below w.heap.size w X → ChView X g o cs from fun X hX => by
        rcases HC.out.on hX with q | ⟨g', o', e, hv⟩
        · rw [q] at hu; simp at hu
        · cases e; exact hv)
      have HSM := hid (HS.out u (List.mem_of_getElem? hu))
      have HCU := hid (show (chs cs)[j]? = some (u.1, u.2.1) by rw [List.getElem?_map, hu]; rfl)
      have HTX := hid (show ∀ X, Below w.heap.size w X → Txs X u.2.2 u.2.1.ports from fun X hX => ((HVW.out X hX).ports u (List.mem_of_getElem? hu)).1)
      have HPL := hid (((HVW.out wo HA.out.at_.low).ports u (List.mem_of_getElem? hu)).2)
      have HCL := hid (show ∀ X, Below w.heap.size w X → _ from fun X hX => (HVW.out X hX).cell j u hu)
      obtain ⟨kd, ⟨p, m, k, zs⟩, uv⟩ := u
      simp only at HSM HCU HTX HPL HCL
      obtain ⟨uo, uc, huv, _⟩ := HTX.out wo HA.out.at_.low
      obtain ⟨un, hun⟩ : ∃ un, un = zs.length := ⟨_, rfl⟩
      rw [← hun] at huv
      subst huv
      clear hu hun
      have HFEW := hid (show rn ≤ 4096 by have := HA.out.at_.good.few; rw [List.length_map, HA.out.at_.len] at this; exact this)
      have HMAY := hid (fun (X : World) (hX : Below wo.heap.size wo X) => RMay_any (W := W) (k := kd) (p := p) (kk := k) (m := m) (HA.out.at_.doc.on hX).own HA.out.at_.len HFEW.out (HTX.out X (below_2 HA.out.at_.low hX)) HPL.out (by have := HSM.out.2.1; unfold maxLen; omega) (by have := HSM.out.1; unfold maxLen; omega))
      have HCS := hid (show ∀ X : World, Below w.heap.size w X → (fun W' => W'.cell? ⟨g, o + j * 5, none⟩ = some (.int .i64 kd) ∧ W'.cell? ⟨g, o + j * 5 + 1, none⟩ = some (.int .i64 p) ∧ W'.cell? ⟨g, o + j * 5 + 2, none⟩ = some (.string (tx m)) ∧ W'.cell? ⟨g, o + j * 5 + 3, none⟩ = some (.int .i64 k) ∧ W'.cell? ⟨g, o + j * 5 + 4, none⟩ = some (.slice uo un uc) ∧ W'.cell? ⟨rb, 0, none⟩ = some (.int .i64 W)) X from fun X hX => by
        obtain ⟨c0, c1, c2, c3, c4⟩ := HCL.out X hX
        exact ⟨c0, c1, c2, c3, c4, by rw [cell_at (below_block hX HB.out (lt_of_block HB.out))]; rfl⟩)
      have hS0 := HCS.out wo HA.out.at_.low
      have HSN := hid (run_snoc (c := (kd, (⟨p, m, k, zs⟩ : Raw))) HA.out.at_.run HCU.out)
      cases hst : stepN W (qs.map Prod.fst) kd ⟨p, m, k, zs⟩ with
      | error er =>
        have HST := hid hst
        rw [mayE_no hst] at HMAY
        have hne : (er != 0) = true := by rw [bne_iff_ne]; exact step_ne hst
        have HFIN := hid (show ∀ X, Below w.heap.size w X → RUndPost w W L (chs cs) (.returned (.tuple #[.slice none 0 0, .int .i64 (j : Int), .int .i64 er])) X from fun X hX => ⟨hX, Or.inr ⟨j, er, HSN.out.2 er HST.out, step_ne HST.out, rfl⟩⟩)
        clear hst
        go_wp2_with fail
        go_region_held2 (fun W' => W'.cell? ⟨g, o + j * 5, none⟩ = some (.int .i64 kd) ∧ W'.cell? ⟨g, o + j * 5 + 1, none⟩ = some (.int .i64 p) ∧ W'.cell? ⟨g, o + j * 5 + 2, none⟩ = some (.string (tx m)) ∧ W'.cell? ⟨g, o + j * 5 + 3, none⟩ = some (.int .i64 k) ∧ W'.cell? ⟨g, o + j * 5 + 4, none⟩ = some (.slice uo un uc) ∧ W'.cell? ⟨rb, 0, none⟩ = some (.int .i64 W)) (first | exact hS0 | exact hS2) (first | (go_at_call 34; refine (HMAY.out _ ((Below.refl _ _).drew)).mono ?_; rintro en w2 ⟨rfl, hb2⟩; have B2 := hid (below_2 HA.out.at_.low (below_2 ((Below.refl _ _).drew) hb2)); clear hb2; have hS2 := HCS.out w2 B2.out))
        go_wp2
        refine bodyPost_ret (v := .tuple #[.slice none 0 0, .int .i64 (j : Int), .int .i64 er]) (by simp [results, Tryz.results26, go_sem]) rfl (HFIN.out _ B2.out)
      | ok L2 =>
        have HST := hid hst
        rw [mayE_ok hst] at HMAY
        have hkd : kd = 1 ∨ kd = 2 ∨ kd = 3 := by
          rcases (step_okC (c := (kd, (⟨p, m, k, zs⟩ : Raw))) hst).1 with ⟨q, _⟩ | ⟨q, _⟩ | ⟨q, _⟩
          · exact Or.inl q
          · exact Or.inr (Or.inl q)
          · exact Or.inr (Or.inr q)
        clear hst
        go_wp2_with fail
        go_region_held2 (fun W' => W'.cell? ⟨g, o + j * 5, none⟩ = some (.int .i64 kd) ∧ W'.cell? ⟨g, o + j * 5 + 1, none⟩ = some (.int .i64 p) ∧ W'.cell? ⟨g, o + j * 5 + 2, none⟩ = some (.string (tx m)) ∧ W'.cell? ⟨g, o + j * 5 + 3, none⟩ = some (.int .i64 k) ∧ W'.cell? ⟨g, o + j * 5 + 4, none⟩ = some (.slice uo un uc) ∧ W'.cell? ⟨rb, 0, none⟩ = some (.int .i64 W)) (first | exact hS0 | exact hS2) (first | (go_at_call 34; refine (HMAY.out _ ((Below.refl _ _).drew)).mono ?_; rintro en w2 ⟨rfl, hb2⟩; have HB2' := hid (below_2 ((Below.refl wo.heap.size wo).drew) hb2); have B2 := hid (below_2 HA.out.at_.low HB2'.out); clear hb2; have hS2 := HCS.out w2 B2.out))
        have HCP := hid (RCopy_any (w := w2) (p := p) (k := k) (m := m) (HTX.out w2 B2.out) HSM.out.2.1)
        obtain ⟨c0, c1, c2, c3, c4, -⟩ := hS2
        clear hS0
        go_wp2_with fail
        refine HCP.out.mono ?_
        rintro en w3 ⟨a3, n3, c3', rfl, hp3, hb3⟩
        have HP3 := hid hp3.out
        have HB3 := hid (below_2 HB2'.out hb3)
        have B3 := hid (below_2 HA.out.at_.low HB3.out)
        have HZ3 := hid (show w.heap.size ≤ w2.heap.size from B2.out.size)
        clear hp3 hb3 c0 c1 c2 c3 c4 HCP
        have HBC := hid (show Below wo.heap.size wo (w3.alloc (cob5 2 p m k (.slice a3 n3 c3'))) from HB3.out.alloc HB3.out.size _)
        have HCB := hid (new_0 w3 (cob5 2 p m k (.slice a3 n3 c3')))
        obtain ⟨e0, e1, e2, e3, e4, -⟩ := HCS.out _ (below_2 HA.out.at_.low HBC.out)
        rcases hkd with rfl | rfl | rfl
        · have HUN := hid (show undoN (qs.map Prod.fst) 1 ⟨p, m, k, zs⟩ = (2, ⟨p, m, k, zs⟩) by unfold undoN; rw [if_pos rfl])
          have HBX := hid (show Below wo.heap.size wo (w3.alloc (cob5 2 p m k (.slice a3 n3 c3'))) from HBC.out)
          have HPX := hid (show Ported (w3.alloc (cob5 2 p m k (.slice a3 n3 c3'))) w.heap.size (.slice a3 n3 c3') zs from (HP3.out.mono HZ3.out).on ((Below.refl _ _).alloc (Nat.le_refl _) _))
          have HSX := hid (show (w3.alloc (cob5 2 p m k (.slice a3 n3 c3'))).heap.size = (w3.heap.size + 1) by simp)
          have HNW := hid (show ((w3.alloc (cob5 2 p m k (.slice a3 n3 c3'))).alloc (cob5 2 p m k (.slice a3 n3 c3'))).heap[(w3.heap.size + 1)]? = some (cob5 2 p m k (.slice a3 n3 c3')) by have := new_0 (w3.alloc (cob5 2 p m k (.slice a3 n3 c3'))) (cob5 2 p m k (.slice a3 n3 c3')); rw [HSX.out] at this; exact this)
          have HX1 := hid (show Below wo.heap.size wo ((w3.alloc (cob5 2 p m k (.slice a3 n3 c3'))).alloc (cob5 2 p m k (.slice a3 n3 c3'))) from HBX.out.alloc HBX.out.size _)
          have HOB := hid (show ((w3.alloc (cob5 2 p m k (.slice a3 n3 c3'))).alloc (cob5 2 p m k (.slice a3 n3 c3'))).ownsRow w.heap.size 57 5 (.slice (some ⟨(w3.heap.size + 1), 0, none⟩) 1 1) 1 [.int .i64 2, .int .i64 p, .string (tx m), .int .i64 k, (.slice a3 n3 c3')] from ⟨rfl, Or.inr ⟨(w3.heap.size + 1), 1, _, rfl, by rw [← HSX.out]; exact Nat.le_trans HA.out.at_.low.size HBX.out.size, HNW.out, Nat.le_refl _, by unfold maxLen; omega, rfl, rfl⟩⟩)
          have HSRC := hid (show (∃ c', (.slice oo j oc : Value) = .slice none 0 c' ∧ j = 0 ∧ flatC us = []) ∨ ∃ ad c', (.slice oo j oc : Value) = .slice (some ad) j c' ∧ (flatC us).length = j * 5 ∧ ∀ t u, (flatC us)[t]? = some u → ((w3.alloc (cob5 2 p m k (.slice a3 n3 c3'))).alloc (cob5 2 p m k (.slice a3 n3 c3'))).cell? (ad.add t) = some u from by
            have ho := (HA.out.own.on HX1.out).row
            rw [HA.out.len] at ho
            rcases ownC_cells ho with ⟨e1, e2, e3⟩ | ⟨g', cur, e1, _, _, hh, hcl⟩
            · exact Or.inl ⟨oc, by rw [e1, e2], e2, by rw [List.length_eq_zero_iff.1 (HA.out.len.trans e2)]; rfl⟩
            · refine Or.inr ⟨⟨g', 0, none⟩, oc, by rw [e1], by rw [flatC_len, HA.out.len], fun t u hu => ?_⟩
              rw [addr_add5, Nat.zero_add]
              exact hcl t u hu)
          have HON := hid (show ∀ u ∈ flatC us, u.oneCell' = true from flatC_one (fun u hu => by obtain ⟨ao', c', e, _⟩ := HA.out.own.prt u hu; exact ⟨ao', _, c', e⟩))
          have HNX := hid (show ∀ (v6 : Value) (w6 : World), w6.ownsRow w.heap.size 57 5 v6 (1 + j) ([.int .i64 2, .int .i64 p, .string (tx m), .int .i64 k, (.slice a3 n3 c3')] ++ flatC us) → ((w3.alloc (cob5 2 p m k (.slice a3 n3 c3'))).alloc (cob5 2 p m k (.slice a3 n3 c3'))).grownBy w6 (Value.slice (some ⟨(w3.heap.size + 1), 0, none⟩) 1 1).ownBlock → ∃ a6 c6, v6 = .slice a6 (j + 1) c6 ∧ OwnC w6 w.heap.size (.slice a6 (j + 1) c6) ((2, ⟨p, m, k, zs⟩, (.slice a3 n3 c3')) :: us) ∧ Below wo.heap.size wo w6 from fun v6 w6 ho hg => by
            rw [Nat.add_comm 1 j] at ho
            obtain ⟨a6, c6, e⟩ := ownC_form ho
            subst e
            have hb6 : Below wo.heap.size wo w6 := HX1.out.grown hg HX1.out.size (fun b hb => by have h1 := ownB_new hb; have h2 := HBX.out.size; rw [HSX.out] at h2; omega)
            refine ⟨a6, c6, rfl, ⟨?_, fun u hu => ?_⟩, hb6⟩
            · rw [List.length_cons, HA.out.len]
              exact ho
            · rcases List.mem_cons.1 hu with e | hu
              · subst e
                obtain ⟨ao', c', e1, e2, q | ⟨b, e3, e4, cs', e5, e6⟩⟩ := HPX.out.on ((Below.refl _ (w3.alloc (cob5 2 p m k (.slice a3 n3 c3')))).alloc (Nat.le_refl _) (cob5 2 p m k (.slice a3 n3 c3')))
                · exact ⟨ao', c', e1, e2, Or.inl q⟩
                · refine ⟨ao', c', e1, e2, Or.inr ⟨b, e3, e4, cs', ?_, e6⟩⟩
                  rw [hg.block b (lt_of_block e5) (fun e => by
                    have h5 : (w3.heap.size + 1) = b := by simpa [Value.ownBlock] using e.symm
                    exact ne_type e5 HNW.out (by decide) h5.symm)]
                  exact e5
              · exact (HA.out.own.prt u hu).on hb6)
          go_wp2_with (at_builtin; refine wpList_append_srcC _ rfl _ _ 22 rfl w.heap.size 57 i0 _ 5 64 Tryz.underlying22 HI.out HZ0.out HZ1.out HZ2.out rfl (by decide) _ 1 [.int .i64 2, .int .i64 p, .string (tx m), .int .i64 k, (.slice a3 n3 c3')] rfl HOB.out (.slice oo j oc) j (flatC us) rfl HSRC.out HON.out (by unfold maxLen; omega) (by omega) (Nat.le_trans HA.out.at_.low.size HX1.out.size) ?_; intro v6 w6 hown6 hg6; obtain ⟨a6, c6, hv6, ho6, hb6⟩ := HNX.out v6 w6 hown6 hg6; subst hv6; have HO6 := hid ho6; have HB6 := hid hb6; obtain ⟨d0, d1, d2, d3, d4, -⟩ := HCS.out w6 (below_2 HA.out.at_.low HB6.out); clear hown6 hg6 ho6 hb6)
          have HU6 := hid (show chs ((2, (⟨p, m, k, zs⟩ : Raw), (.slice a3 n3 c3')) :: us) = (undosN W L ((chs cs).take (j + 1))).reverse by
            rw [(HSN.out.1 L2 HST.out).2, List.reverse_append, ← HA.out.und]
            show (2, (⟨p, m, k, zs⟩ : Raw)) :: chs us = _
            rw [HUN.out]; rfl)
          have HAF := hid (RAfter_any (HA.out.at_.doc.on HB6.out) (Nat.le_trans hQ (below_2 HA.out.at_.low HB6.out).size) HA.out.at_.len HA.out.at_.good (HTX.out w6 (below_2 HA.out.at_.low HB6.out)) HSM.out HST.out)
          refine HAF.out.mono ?_
          rintro en w7 ⟨bo7, bn7, bc7, qs7, rfl, h7⟩
          have HA7 := hid (show RUndAt w Q W L (chs cs) (j + 1) bn7 (.slice bo7 bn7 bc7) (.slice a6 (j + 1) c6) qs7 ((2, ⟨p, m, k, zs⟩, (.slice a3 n3 c3')) :: us) w7 from ⟨⟨below_2 (below_2 HA.out.at_.low HB6.out) h7.out.2.2.2, h7.out.1, h7.out.2.1, by rw [h7.out.2.2.1]; exact (HSN.out.1 L2 HST.out).1, by rw [h7.out.2.2.1]; exact HA.out.at_.good.step HST.out⟩, HO6.out.on h7.out.2.2.2, HU6.out, by rw [List.length_cons, HA.out.len]⟩)
          clear h7 d0 d1 d2 d3 d4
          go_wp2
          go_roundw
          case rel => exact ⟨j + 1, bo7, bn7, bc7, qs7, a6, c6, _, by omega, by go_num, rfl, rfl, HA7⟩
          case measure => simp [intOf]; omega

        · have HANY := hid (show ((qs.map Prod.fst).any fun a => keyB a ⟨p, m, k, zs⟩) = true by
            rcases (step_okC (c := ((2 : Int), (⟨p, m, k, zs⟩ : Raw))) HST.out).1 with ⟨q, _⟩ | ⟨q, _, q2⟩ | ⟨q, _, q2⟩
            · exact absurd (show (2 : Int) = 1 from q) (by decide)
            · exact q2
            · exact q2)
          obtain ⟨j0, q0, hq0, hk0⟩ : ∃ (j0 : Nat) (q0 : Raw × Value), qs[j0]? = some q0 ∧ keyB q0.1 ⟨p, m, k, zs⟩ = true := by
            obtain ⟨a, ha, hka⟩ := List.any_eq_true.1 HANY.out
            obtain ⟨q0, hq0, e⟩ := List.mem_map.1 ha
            obtain ⟨j0, hj0⟩ := List.getElem?_of_mem hq0
            exact ⟨j0, q0, hj0, by rw [e]; exact hka⟩
          have HQ1 := hid (show (qs.map Prod.fst)[j0]? = some q0.1 by rw [List.getElem?_map, hq0]; rfl)
          have HUN := hid (show undoN (qs.map Prod.fst) 2 ⟨p, m, k, zs⟩ = (1, q0.1) by
            rw [show undoN (qs.map Prod.fst) 2 ⟨p, m, k, zs⟩ = (1, oldR (qs.map Prod.fst) ⟨p, m, k, zs⟩) by unfold undoN; simp, oldR_at HA.out.at_.good.srt HQ1.out hk0])
          have hj0n : j0 < rn := by have := (List.getElem?_eq_some_iff.1 hq0).1; rw [HA.out.at_.len] at this; exact this
          have HRA := hid (Rat_any (HA.out.at_.doc.on HBC.out).own HA.out.at_.len HFEW.out p k m uo un uc zs)
          rw [atN_at HQ1.out hk0 (HA.out.at_.good.srt.others HQ1.out hk0).1] at HRA
          obtain ⟨gr, rfl⟩ : ∃ gr, ro = some ⟨gr, 0, none⟩ := by
            obtain ⟨lo', lc', e, _, hf⟩ := HA.out.at_.doc.own.form
            injection e with e1 _ _
            subst e1
            rcases hf with ⟨_, h0⟩ | ⟨gr, h1, _⟩
            · rw [h0] at hq0; simp at hq0
            · exact ⟨gr, h1⟩
          have HRC := hid (show ∀ Y, Below wo.heap.size wo Y → _ from fun Y hY => (HA.out.at_.doc.on hY).own.cells hq0)
          have HRP := hid (show ∀ Y, Below wo.heap.size wo Y → Txs Y q0.2 q0.1.ports from fun Y hY => ((HA.out.at_.doc.on hY).txs q0 (List.mem_of_getElem? hq0)).1)
          have HRS := hid (errR_small (HA.out.at_.good.ok q0.1 (List.mem_map_of_mem (List.mem_of_getElem? hq0))))
          obtain ⟨⟨ap, am, ak, az⟩, av⟩ := q0
          simp only at HUN HRC HRP HRS
          obtain ⟨vo, vc, hav, _⟩ := HRP.out wo (Below.refl _ _)
          obtain ⟨vn, hvn⟩ : ∃ vn, vn = az.length := ⟨_, rfl⟩
          rw [← hvn] at hav
          subst hav
          have hj0I : (j0 : Int) < (rn : Int) := by omega
          have hj00 : (0 : Int) ≤ (j0 : Int) := by omega
          clear hq0 hk0 hvn
          go_wp2_with fail
          refine HRA.out.mono ?_
          rintro en w4 ⟨rfl, hb4⟩
          have HB4 := hid (below_2 HBC.out hb4)
          have HC4 := hid (below_block hb4 HCB.out (lt_of_block HCB.out))
          clear hb4 e0 e1 e2 e3 e4
          obtain ⟨r0, r1, r2, r3⟩ := HRC.out w4 HB4.out
          obtain ⟨e0, e1, e2, e3, e4, -⟩ := HCS.out _ (below_2 HA.out.at_.low HB4.out)
          have HCP2 := hid (RCopy_any (w := w4) (p := ap) (k := ak) (m := am) (HRP.out w4 HB4.out) HRS.out.1.2.1)
          go_wp2_with fail
          refine HCP2.out.mono ?_
          rintro en w5 ⟨a5, n5, c5, rfl, hp5, hb5⟩
          have HP5 := hid hp5.out
          have HB5 := hid (below_2 HB4.out hb5)
          have HC5 := hid (below_block hb5 HC4.out (lt_of_block HC4.out))
          have HZ5 := hid (show w.heap.size ≤ w4.heap.size from (below_2 HA.out.at_.low HB4.out).size)
          clear hp5 hb5 r0 r1 r2 r3 e0 e1 e2 e3 e4
          have x0 : w5.cell? ⟨w3.heap.size, 0, none⟩ = some (.int .i64 2) := by rw [cell_at HC5.out]; rfl
          have x1 : w5.cell? ⟨w3.heap.size, 1, none⟩ = some (.int .i64 p) := by rw [cell_at HC5.out]; rfl
          have x2 : w5.cell? ⟨w3.heap.size, 2, none⟩ = some (.string (tx m)) := by rw [cell_at HC5.out]; rfl
          have x3 : w5.cell? ⟨w3.heap.size, 3, none⟩ = some (.int .i64 k) := by rw [cell_at HC5.out]; rfl
          have x4 : w5.cell? ⟨w3.heap.size, 4, none⟩ = some (.slice a3 n3 c3') := by rw [cell_at HC5.out]; rfl
          have y0 : w5.frozen? ⟨w3.heap.size, 0, none⟩ = false := free_of HC5.out
          have y1 : w5.frozen? ⟨w3.heap.size, 1, none⟩ = false := free_of HC5.out
          have y2 : w5.frozen? ⟨w3.heap.size, 2, none⟩ = false := free_of HC5.out
          have y3 : w5.frozen? ⟨w3.heap.size, 3, none⟩ = false := free_of HC5.out
          have y4 : w5.frozen? ⟨w3.heap.size, 4, none⟩ = false := free_of HC5.out
          have HXB := hid (show (((((w5.setCell ⟨w3.heap.size, 0, none⟩ (.int .i64 1)).setCell ⟨w3.heap.size, 1, none⟩ (.int .i64 ap)).setCell ⟨w3.heap.size, 2, none⟩ (.string (tx am))).setCell ⟨w3.heap.size, 3, none⟩ (.int .i64 ak)).setCell ⟨w3.heap.size, 4, none⟩ (.slice a5 n5 c5)).heap[w3.heap.size]? = some (cob5 1 ap am ak (.slice a5 n5 c5)) from by
            have := block_set (o := 4) (.slice a5 n5 c5) (block_set (o := 3) (.int .i64 ak) (block_set (o := 2) (.string (tx am)) (block_set (o := 1) (.int .i64 ap) (block_set (o := 0) (.int .i64 1) HC5.out))))
            exact this)
          have HXG := hid (show w5.grownBy (((((w5.setCell ⟨w3.heap.size, 0, none⟩ (.int .i64 1)).setCell ⟨w3.heap.size, 1, none⟩ (.int .i64 ap)).setCell ⟨w3.heap.size, 2, none⟩ (.string (tx am))).setCell ⟨w3.heap.size, 3, none⟩ (.int .i64 ak)).setCell ⟨w3.heap.size, 4, none⟩ (.slice a5 n5 c5)) (some w3.heap.size) from grown_two (grown_two (grown_two (grown_two (grown_cell _ _ _ _) (grown_cell _ _ _ _)) (grown_cell _ _ _ _)) (grown_cell _ _ _ _)) (grown_cell _ _ _ _))
          have HX2 := hid (show Below wo.heap.size wo (((((w5.setCell ⟨w3.heap.size, 0, none⟩ (.int .i64 1)).setCell ⟨w3.heap.size, 1, none⟩ (.int .i64 ap)).setCell ⟨w3.heap.size, 2, none⟩ (.string (tx am))).setCell ⟨w3.heap.size, 3, none⟩ (.int .i64 ak)).setCell ⟨w3.heap.size, 4, none⟩ (.slice a5 n5 c5)) from HB5.out.grown HXG.out HB5.out.size (fun b hb => by injection hb with hb; have := HB3.out.size; omega))
          have HBX := hid (show Below wo.heap.size wo (((((w5.setCell ⟨w3.heap.size, 0, none⟩ (.int .i64 1)).setCell ⟨w3.heap.size, 1, none⟩ (.int .i64 ap)).setCell ⟨w3.heap.size, 2, none⟩ (.string (tx am))).setCell ⟨w3.heap.size, 3, none⟩ (.int .i64 ak)).setCell ⟨w3.heap.size, 4, none⟩ (.slice a5 n5 c5)) from HX2.out)
          have HPX := hid (show Ported (((((w5.setCell ⟨w3.heap.size, 0, none⟩ (.int .i64 1)).setCell ⟨w3.heap.size, 1, none⟩ (.int .i64 ap)).setCell ⟨w3.heap.size, 2, none⟩ (.string (tx am))).setCell ⟨w3.heap.size, 3, none⟩ (.int .i64 ak)).setCell ⟨w3.heap.size, 4, none⟩ (.slice a5 n5 c5)) w.heap.size (.slice a5 n5 c5) az from (HP5.out.mono HZ5.out).grewB HXG.out HC5.out (by decide))
          have z0 : (((((w5.setCell ⟨w3.heap.size, 0, none⟩ (.int .i64 1)).setCell ⟨w3.heap.size, 1, none⟩ (.int .i64 ap)).setCell ⟨w3.heap.size, 2, none⟩ (.string (tx am))).setCell ⟨w3.heap.size, 3, none⟩ (.int .i64 ak)).setCell ⟨w3.heap.size, 4, none⟩ (.slice a5 n5 c5)).cell? ⟨w3.heap.size, 0, none⟩ = some (.int .i64 1) := by rw [cell_at HXB.out]; rfl
          have z1 : (((((w5.setCell ⟨w3.heap.size, 0, none⟩ (.int .i64 1)).setCell ⟨w3.heap.size, 1, none⟩ (.int .i64 ap)).setCell ⟨w3.heap.size, 2, none⟩ (.string (tx am))).setCell ⟨w3.heap.size, 3, none⟩ (.int .i64 ak)).setCell ⟨w3.heap.size, 4, none⟩ (.slice a5 n5 c5)).cell? ⟨w3.heap.size, 1, none⟩ = some (.int .i64 ap) := by rw [cell_at HXB.out]; rfl
          have z2 : (((((w5.setCell ⟨w3.heap.size, 0, none⟩ (.int .i64 1)).setCell ⟨w3.heap.size, 1, none⟩ (.int .i64 ap)).setCell ⟨w3.heap.size, 2, none⟩ (.string (tx am))).setCell ⟨w3.heap.size, 3, none⟩ (.int .i64 ak)).setCell ⟨w3.heap.size, 4, none⟩ (.slice a5 n5 c5)).cell? ⟨w3.heap.size, 2, none⟩ = some (.string (tx am)) := by rw [cell_at HXB.out]; rfl
          have z3 : (((((w5.setCell ⟨w3.heap.size, 0, none⟩ (.int .i64 1)).setCell ⟨w3.heap.size, 1, none⟩ (.int .i64 ap)).setCell ⟨w3.heap.size, 2, none⟩ (.string (tx am))).setCell ⟨w3.heap.size, 3, none⟩ (.int .i64 ak)).setCell ⟨w3.heap.size, 4, none⟩ (.slice a5 n5 c5)).cell? ⟨w3.heap.size, 3, none⟩ = some (.int .i64 ak) := by rw [cell_at HXB.out]; rfl
          have z4 : (((((w5.setCell ⟨w3.heap.size, 0, none⟩ (.int .i64 1)).setCell ⟨w3.heap.size, 1, none⟩ (.int .i64 ap)).setCell ⟨w3.heap.size, 2, none⟩ (.string (tx am))).setCell ⟨w3.heap.size, 3, none⟩ (.int .i64 ak)).setCell ⟨w3.heap.size, 4, none⟩ (.slice a5 n5 c5)).cell? ⟨w3.heap.size, 4, none⟩ = some (.slice a5 n5 c5) := by rw [cell_at HXB.out]; rfl
          obtain ⟨e0, e1, e2, e3, e4, -⟩ := HCS.out _ (below_2 HA.out.at_.low HBX.out)
          have HSX := hid (show (((((w5.setCell ⟨w3.heap.size, 0, none⟩ (.int .i64 1)).setCell ⟨w3.heap.size, 1, none⟩ (.int .i64 ap)).setCell ⟨w3.heap.size, 2, none⟩ (.string (tx am))).setCell ⟨w3.heap.size, 3, none⟩ (.int .i64 ak)).setCell ⟨w3.heap.size, 4, none⟩ (.slice a5 n5 c5)).heap.size = w5.heap.size by simp)
          have HNW := hid (show ((((((w5.setCell ⟨w3.heap.size, 0, none⟩ (.int .i64 1)).setCell ⟨w3.heap.size, 1, none⟩ (.int .i64 ap)).setCell ⟨w3.heap.size, 2, none⟩ (.string (tx am))).setCell ⟨w3.heap.size, 3, none⟩ (.int .i64 ak)).setCell ⟨w3.heap.size, 4, none⟩ (.slice a5 n5 c5)).alloc (cob5 1 ap am ak (.slice a5 n5 c5))).heap[w5.heap.size]? = some (cob5 1 ap am ak (.slice a5 n5 c5)) by have := new_0 (((((w5.setCell ⟨w3.heap.size, 0, none⟩ (.int .i64 1)).setCell ⟨w3.heap.size, 1, none⟩ (.int .i64 ap)).setCell ⟨w3.heap.size, 2, none⟩ (.string (tx am))).setCell ⟨w3.heap.size, 3, none⟩ (.int .i64 ak)).setCell ⟨w3.heap.size, 4, none⟩ (.slice a5 n5 c5)) (cob5 1 ap am ak (.slice a5 n5 c5)); rw [HSX.out] at this; exact this)
          have HX1 := hid (show Below wo.heap.size wo ((((((w5.setCell ⟨w3.heap.size, 0, none⟩ (.int .i64 1)).setCell ⟨w3.heap.size, 1, none⟩ (.int .i64 ap)).setCell ⟨w3.heap.size, 2, none⟩ (.string (tx am))).setCell ⟨w3.heap.size, 3, none⟩ (.int .i64 ak)).setCell ⟨w3.heap.size, 4, none⟩ (.slice a5 n5 c5)).alloc (cob5 1 ap am ak (.slice a5 n5 c5))) from HBX.out.alloc HBX.out.size _)
          have HOB := hid (show ((((((w5.setCell ⟨w3.heap.size, 0, none⟩ (.int .i64 1)).setCell ⟨w3.heap.size, 1, none⟩ (.int .i64 ap)).setCell ⟨w3.heap.size, 2, none⟩ (.string (tx am))).setCell ⟨w3.heap.size, 3, none⟩ (.int .i64 ak)).setCell ⟨w3.heap.size, 4, none⟩ (.slice a5 n5 c5)).alloc (cob5 1 ap am ak (.slice a5 n5 c5))).ownsRow w.heap.size 57 5 (.slice (some ⟨w5.heap.size, 0, none⟩) 1 1) 1 [.int .i64 1, .int .i64 ap, .string (tx am), .int .i64 ak, (.slice a5 n5 c5)] from ⟨rfl, Or.inr ⟨w5.heap.size, 1, _, rfl, by rw [← HSX.out]; exact Nat.le_trans HA.out.at_.low.size HBX.out.size, HNW.out, Nat.le_refl _, by unfold maxLen; omega, rfl, rfl⟩⟩)
          have HSRC := hid (show (∃ c', (.slice oo j oc : Value) = .slice none 0 c' ∧ j = 0 ∧ flatC us = []) ∨ ∃ ad c', (.slice oo j oc : Value) = .slice (some ad) j c' ∧ (flatC us).length = j * 5 ∧ ∀ t u, (flatC us)[t]? = some u → ((((((w5.setCell ⟨w3.heap.size, 0, none⟩ (.int .i64 1)).setCell ⟨w3.heap.size, 1, none⟩ (.int .i64 ap)).setCell ⟨w3.heap.size, 2, none⟩ (.string (tx am))).setCell ⟨w3.heap.size, 3, none⟩ (.int .i64 ak)).setCell ⟨w3.heap.size, 4, none⟩ (.slice a5 n5 c5)).alloc (cob5 1 ap am ak (.slice a5 n5 c5))).cell? (ad.add t) = some u from by
            have ho := (HA.out.own.on HX1.out).row
            rw [HA.out.len] at ho
            rcases ownC_cells ho with ⟨e1, e2, e3⟩ | ⟨g', cur, e1, _, _, hh, hcl⟩
            · exact Or.inl ⟨oc, by rw [e1, e2], e2, by rw [List.length_eq_zero_iff.1 (HA.out.len.trans e2)]; rfl⟩
            · refine Or.inr ⟨⟨g', 0, none⟩, oc, by rw [e1], by rw [flatC_len, HA.out.len], fun t u hu => ?_⟩
              rw [addr_add5, Nat.zero_add]
              exact hcl t u hu)
          have HON := hid (show ∀ u ∈ flatC us, u.oneCell' = true from flatC_one (fun u hu => by obtain ⟨ao', c', e, _⟩ := HA.out.own.prt u hu; exact ⟨ao', _, c', e⟩))
          have HNX := hid (show ∀ (v6 : Value) (w6 : World), w6.ownsRow w.heap.size 57 5 v6 (1 + j) ([.int .i64 1, .int .i64 ap, .string (tx am), .int .i64 ak, (.slice a5 n5 c5)] ++ flatC us) → ((((((w5.setCell ⟨w3.heap.size, 0, none⟩ (.int .i64 1)).setCell ⟨w3.heap.size, 1, none⟩ (.int .i64 ap)).setCell ⟨w3.heap.size, 2, none⟩ (.string (tx am))).setCell ⟨w3.heap.size, 3, none⟩ (.int .i64 ak)).setCell ⟨w3.heap.size, 4, none⟩ (.slice a5 n5 c5)).alloc (cob5 1 ap am ak (.slice a5 n5 c5))).grownBy w6 (Value.slice (some ⟨w5.heap.size, 0, none⟩) 1 1).ownBlock → ∃ a6 c6, v6 = .slice a6 (j + 1) c6 ∧ OwnC w6 w.heap.size (.slice a6 (j + 1) c6) ((1, ⟨ap, am, ak, az⟩, (.slice a5 n5 c5)) :: us) ∧ Below wo.heap.size wo w6 from fun v6 w6 ho hg => by
            rw [Nat.add_comm 1 j] at ho
            obtain ⟨a6, c6, e⟩ := ownC_form ho
            subst e
            have hb6 : Below wo.heap.size wo w6 := HX1.out.grown hg HX1.out.size (fun b hb => by have h1 := ownB_new hb; have h2 := HBX.out.size; rw [HSX.out] at h2; omega)
            refine ⟨a6, c6, rfl, ⟨?_, fun u hu => ?_⟩, hb6⟩
            · rw [List.length_cons, HA.out.len]
              exact ho
            · rcases List.mem_cons.1 hu with e | hu
              · subst e
                obtain ⟨ao', c', e1, e2, q | ⟨b, e3, e4, cs', e5, e6⟩⟩ := HPX.out.on ((Below.refl _ (((((w5.setCell ⟨w3.heap.size, 0, none⟩ (.int .i64 1)).setCell ⟨w3.heap.size, 1, none⟩ (.int .i64 ap)).setCell ⟨w3.heap.size, 2, none⟩ (.string (tx am))).setCell ⟨w3.heap.size, 3, none⟩ (.int .i64 ak)).setCell ⟨w3.heap.size, 4, none⟩ (.slice a5 n5 c5))).alloc (Nat.le_refl _) (cob5 1 ap am ak (.slice a5 n5 c5)))
                · exact ⟨ao', c', e1, e2, Or.inl q⟩
                · refine ⟨ao', c', e1, e2, Or.inr ⟨b, e3, e4, cs', ?_, e6⟩⟩
                  rw [hg.block b (lt_of_block e5) (fun e => by
                    have h5 : w5.heap.size = b := by simpa [Value.ownBlock] using e.symm
                    exact ne_type e5 HNW.out (by decide) h5.symm)]
                  exact e5
              · exact (HA.out.own.prt u hu).on hb6)
          go_wp2_with (at_builtin; refine wpList_append_srcC _ rfl _ _ 22 rfl w.heap.size 57 i0 _ 5 64 Tryz.underlying22 HI.out HZ0.out HZ1.out HZ2.out rfl (by decide) _ 1 [.int .i64 1, .int .i64 ap, .string (tx am), .int .i64 ak, (.slice a5 n5 c5)] rfl HOB.out (.slice oo j oc) j (flatC us) rfl HSRC.out HON.out (by unfold maxLen; omega) (by omega) (Nat.le_trans HA.out.at_.low.size HX1.out.size) ?_; intro v6 w6 hown6 hg6; obtain ⟨a6, c6, hv6, ho6, hb6⟩ := HNX.out v6 w6 hown6 hg6; subst hv6; have HO6 := hid ho6; have HB6 := hid hb6; obtain ⟨d0, d1, d2, d3, d4, -⟩ := HCS.out w6 (below_2 HA.out.at_.low HB6.out); clear hown6 hg6 ho6 hb6)
          have HU6 := hid (show chs ((1, (⟨ap, am, ak, az⟩ : Raw), (.slice a5 n5 c5)) :: us) = (undosN W L ((chs cs).take (j + 1))).reverse by
            rw [(HSN.out.1 L2 HST.out).2, List.reverse_append, ← HA.out.und]
            show (1, (⟨ap, am, ak, az⟩ : Raw)) :: chs us = _
            rw [HUN.out]; rfl)
          have HAF := hid (RAfter_any (HA.out.at_.doc.on HB6.out) (Nat.le_trans hQ (below_2 HA.out.at_.low HB6.out).size) HA.out.at_.len HA.out.at_.good (HTX.out w6 (below_2 HA.out.at_.low HB6.out)) HSM.out HST.out)
          refine HAF.out.mono ?_
          rintro en w7 ⟨bo7, bn7, bc7, qs7, rfl, h7⟩
          have HA7 := hid (show RUndAt w Q W L (chs cs) (j + 1) bn7 (.slice bo7 bn7 bc7) (.slice a6 (j + 1) c6) qs7 ((1, ⟨ap, am, ak, az⟩, (.slice a5 n5 c5)) :: us) w7 from ⟨⟨below_2 (below_2 HA.out.at_.low HB6.out) h7.out.2.2.2, h7.out.1, h7.out.2.1, by rw [h7.out.2.2.1]; exact (HSN.out.1 L2 HST.out).1, by rw [h7.out.2.2.1]; exact HA.out.at_.good.step HST.out⟩, HO6.out.on h7.out.2.2.2, HU6.out, by rw [List.length_cons, HA.out.len]⟩)
          clear h7 d0 d1 d2 d3 d4
          go_wp2
          go_roundw
          case rel => exact ⟨j + 1, bo7, bn7, bc7, qs7, a6, c6, _, by omega, by go_num, rfl, rfl, HA7⟩
          case measure => simp [intOf]; omega

        · have HANY := hid (show ((qs.map Prod.fst).any fun a => keyB a ⟨p, m, k, zs⟩) = true by
            rcases (step_okC (c := ((3 : Int), (⟨p, m, k, zs⟩ : Raw))) HST.out).1 with ⟨q, _⟩ | ⟨q, _, q2⟩ | ⟨q, _, q2⟩
            · exact absurd (show (3 : Int) = 1 from q) (by decide)
            · exact q2
            · exact q2)
          obtain ⟨j0, q0, hq0, hk0⟩ : ∃ (j0 : Nat) (q0 : Raw × Value), qs[j0]? = some q0 ∧ keyB q0.1 ⟨p, m, k, zs⟩ = true := by
            obtain ⟨a, ha, hka⟩ := List.any_eq_true.1 HANY.out
            obtain ⟨q0, hq0, e⟩ := List.mem_map.1 ha
            obtain ⟨j0, hj0⟩ := List.getElem?_of_mem hq0
            exact ⟨j0, q0, hj0, by rw [e]; exact hka⟩
          have HQ1 := hid (show (qs.map Prod.fst)[j0]? = some q0.1 by rw [List.getElem?_map, hq0]; rfl)
          have HUN := hid (show undoN (qs.map Prod.fst) 3 ⟨p, m, k, zs⟩ = (3, q0.1) by
            rw [show undoN (qs.map Prod.fst) 3 ⟨p, m, k, zs⟩ = (3, oldR (qs.map Prod.fst) ⟨p, m, k, zs⟩) by unfold undoN; simp, oldR_at HA.out.at_.good.srt HQ1.out hk0])
          have hj0n : j0 < rn := by have := (List.getElem?_eq_some_iff.1 hq0).1; rw [HA.out.at_.len] at this; exact this
          have HRA := hid (Rat_any (HA.out.at_.doc.on HBC.out).own HA.out.at_.len HFEW.out p k m uo un uc zs)
          rw [atN_at HQ1.out hk0 (HA.out.at_.good.srt.others HQ1.out hk0).1] at HRA
          obtain ⟨gr, rfl⟩ : ∃ gr, ro = some ⟨gr, 0, none⟩ := by
            obtain ⟨lo', lc', e, _, hf⟩ := HA.out.at_.doc.own.form
            injection e with e1 _ _
            subst e1
            rcases hf with ⟨_, h0⟩ | ⟨gr, h1, _⟩
            · rw [h0] at hq0; simp at hq0
            · exact ⟨gr, h1⟩
          have HRC := hid (show ∀ Y, Below wo.heap.size wo Y → _ from fun Y hY => (HA.out.at_.doc.on hY).own.cells hq0)
          have HRP := hid (show ∀ Y, Below wo.heap.size wo Y → Txs Y q0.2 q0.1.ports from fun Y hY => ((HA.out.at_.doc.on hY).txs q0 (List.mem_of_getElem? hq0)).1)
          have HRS := hid (errR_small (HA.out.at_.good.ok q0.1 (List.mem_map_of_mem (List.mem_of_getElem? hq0))))
          obtain ⟨⟨ap, am, ak, az⟩, av⟩ := q0
          simp only at HUN HRC HRP HRS
          obtain ⟨vo, vc, hav, _⟩ := HRP.out wo (Below.refl _ _)
          obtain ⟨vn, hvn⟩ : ∃ vn, vn = az.length := ⟨_, rfl⟩
          rw [← hvn] at hav
          subst hav
          have hj0I : (j0 : Int) < (rn : Int) := by omega
          have hj00 : (0 : Int) ≤ (j0 : Int) := by omega
          clear hq0 hk0 hvn
          go_wp2_with fail
          refine HRA.out.mono ?_
          rintro en w4 ⟨rfl, hb4⟩
          have HB4 := hid (below_2 HBC.out hb4)
          have HC4 := hid (below_block hb4 HCB.out (lt_of_block HCB.out))
          clear hb4 e0 e1 e2 e3 e4
          obtain ⟨r0, r1, r2, r3⟩ := HRC.out w4 HB4.out
          obtain ⟨e0, e1, e2, e3, e4, -⟩ := HCS.out _ (below_2 HA.out.at_.low HB4.out)
          have HCP2 := hid (RCopy_any (w := w4) (p := ap) (k := ak) (m := am) (HRP.out w4 HB4.out) HRS.out.1.2.1)
          go_wp2_with fail
          refine HCP2.out.mono ?_
          rintro en w5 ⟨a5, n5, c5, rfl, hp5, hb5⟩
          have HP5 := hid hp5.out
          have HB5 := hid (below_2 HB4.out hb5)
          have HC5 := hid (below_block hb5 HC4.out (lt_of_block HC4.out))
          have HZ5 := hid (show w.heap.size ≤ w4.heap.size from (below_2 HA.out.at_.low HB4.out).size)
          clear hp5 hb5 r0 r1 r2 r3 e0 e1 e2 e3 e4
          have x0 : w5.cell? ⟨w3.heap.size, 0, none⟩ = some (.int .i64 2) := by rw [cell_at HC5.out]; rfl
          have x1 : w5.cell? ⟨w3.heap.size, 1, none⟩ = some (.int .i64 p) := by rw [cell_at HC5.out]; rfl
          have x2 : w5.cell? ⟨w3.heap.size, 2, none⟩ = some (.string (tx m)) := by rw [cell_at HC5.out]; rfl
          have x3 : w5.cell? ⟨w3.heap.size, 3, none⟩ = some (.int .i64 k) := by rw [cell_at HC5.out]; rfl
          have x4 : w5.cell? ⟨w3.heap.size, 4, none⟩ = some (.slice a3 n3 c3') := by rw [cell_at HC5.out]; rfl
          have y0 : w5.frozen? ⟨w3.heap.size, 0, none⟩ = false := free_of HC5.out
          have y1 : w5.frozen? ⟨w3.heap.size, 1, none⟩ = false := free_of HC5.out
          have y2 : w5.frozen? ⟨w3.heap.size, 2, none⟩ = false := free_of HC5.out
          have y3 : w5.frozen? ⟨w3.heap.size, 3, none⟩ = false := free_of HC5.out
          have y4 : w5.frozen? ⟨w3.heap.size, 4, none⟩ = false := free_of HC5.out
          have HXB := hid (show (((((w5.setCell ⟨w3.heap.size, 0, none⟩ (.int .i64 1)).setCell ⟨w3.heap.size, 1, none⟩ (.int .i64 ap)).setCell ⟨w3.heap.size, 2, none⟩ (.string (tx am))).setCell ⟨w3.heap.size, 3, none⟩ (.int .i64 ak)).setCell ⟨w3.heap.size, 4, none⟩ (.slice a5 n5 c5)).heap[w3.heap.size]? = some (cob5 1 ap am ak (.slice a5 n5 c5)) from by
            have := block_set (o := 4) (.slice a5 n5 c5) (block_set (o := 3) (.int .i64 ak) (block_set (o := 2) (.string (tx am)) (block_set (o := 1) (.int .i64 ap) (block_set (o := 0) (.int .i64 1) HC5.out))))
            exact this)
          have HXG := hid (show w5.grownBy (((((w5.setCell ⟨w3.heap.size, 0, none⟩ (.int .i64 1)).setCell ⟨w3.heap.size, 1, none⟩ (.int .i64 ap)).setCell ⟨w3.heap.size, 2, none⟩ (.string (tx am))).setCell ⟨w3.heap.size, 3, none⟩ (.int .i64 ak)).setCell ⟨w3.heap.size, 4, none⟩ (.slice a5 n5 c5)) (some w3.heap.size) from grown_two (grown_two (grown_two (grown_two (grown_cell _ _ _ _) (grown_cell _ _ _ _)) (grown_cell _ _ _ _)) (grown_cell _ _ _ _)) (grown_cell _ _ _ _))
          have HX2 := hid (show Below wo.heap.size wo (((((w5.setCell ⟨w3.heap.size, 0, none⟩ (.int .i64 1)).setCell ⟨w3.heap.size, 1, none⟩ (.int .i64 ap)).setCell ⟨w3.heap.size, 2, none⟩ (.string (tx am))).setCell ⟨w3.heap.size, 3, none⟩ (.int .i64 ak)).setCell ⟨w3.heap.size, 4, none⟩ (.slice a5 n5 c5)) from HB5.out.grown HXG.out HB5.out.size (fun b hb => by injection hb with hb; have := HB3.out.size; omega))
          have HX3 := hid (show ((((((w5.setCell ⟨w3.heap.size, 0, none⟩ (.int .i64 1)).setCell ⟨w3.heap.size, 1, none⟩ (.int .i64 ap)).setCell ⟨w3.heap.size, 2, none⟩ (.string (tx am))).setCell ⟨w3.heap.size, 3, none⟩ (.int .i64 ak)).setCell ⟨w3.heap.size, 4, none⟩ (.slice a5 n5 c5)).setCell ⟨w3.heap.size, 0, none⟩ (.int .i64 3)).heap[w3.heap.size]? = some (cob5 3 ap am ak (.slice a5 n5 c5)) from by
            have := block_set (o := 0) (.int .i64 3) HXB.out
            exact this)
          have HXG3 := hid (show w5.grownBy ((((((w5.setCell ⟨w3.heap.size, 0, none⟩ (.int .i64 1)).setCell ⟨w3.heap.size, 1, none⟩ (.int .i64 ap)).setCell ⟨w3.heap.size, 2, none⟩ (.string (tx am))).setCell ⟨w3.heap.size, 3, none⟩ (.int .i64 ak)).setCell ⟨w3.heap.size, 4, none⟩ (.slice a5 n5 c5)).setCell ⟨w3.heap.size, 0, none⟩ (.int .i64 3)) (some w3.heap.size) from grown_two HXG.out (grown_cell _ _ _ _))
          have HBX := hid (show Below wo.heap.size wo ((((((w5.setCell ⟨w3.heap.size, 0, none⟩ (.int .i64 1)).setCell ⟨w3.heap.size, 1, none⟩ (.int .i64 ap)).setCell ⟨w3.heap.size, 2, none⟩ (.string (tx am))).setCell ⟨w3.heap.size, 3, none⟩ (.int .i64 ak)).setCell ⟨w3.heap.size, 4, none⟩ (.slice a5 n5 c5)).setCell ⟨w3.heap.size, 0, none⟩ (.int .i64 3)) from HB5.out.grown HXG3.out HB5.out.size (fun b hb => by injection hb with hb; have := HB3.out.size; omega))
          have HPX := hid (show Ported ((((((w5.setCell ⟨w3.heap.size, 0, none⟩ (.int .i64 1)).setCell ⟨w3.heap.size, 1, none⟩ (.int .i64 ap)).setCell ⟨w3.heap.size, 2, none⟩ (.string (tx am))).setCell ⟨w3.heap.size, 3, none⟩ (.int .i64 ak)).setCell ⟨w3.heap.size, 4, none⟩ (.slice a5 n5 c5)).setCell ⟨w3.heap.size, 0, none⟩ (.int .i64 3)) w.heap.size (.slice a5 n5 c5) az from (HP5.out.mono HZ5.out).grewB HXG3.out HC5.out (by decide))
          have t0 : (((((w5.setCell ⟨w3.heap.size, 0, none⟩ (.int .i64 1)).setCell ⟨w3.heap.size, 1, none⟩ (.int .i64 ap)).setCell ⟨w3.heap.size, 2, none⟩ (.string (tx am))).setCell ⟨w3.heap.size, 3, none⟩ (.int .i64 ak)).setCell ⟨w3.heap.size, 4, none⟩ (.slice a5 n5 c5)).cell? ⟨w3.heap.size, 0, none⟩ = some (.int .i64 1) := by rw [cell_at HXB.out]; rfl
          have t0f : (((((w5.setCell ⟨w3.heap.size, 0, none⟩ (.int .i64 1)).setCell ⟨w3.heap.size, 1, none⟩ (.int .i64 ap)).setCell ⟨w3.heap.size, 2, none⟩ (.string (tx am))).setCell ⟨w3.heap.size, 3, none⟩ (.int .i64 ak)).setCell ⟨w3.heap.size, 4, none⟩ (.slice a5 n5 c5)).frozen? ⟨w3.heap.size, 0, none⟩ = false := free_of HXB.out
          have z0 : ((((((w5.setCell ⟨w3.heap.size, 0, none⟩ (.int .i64 1)).setCell ⟨w3.heap.size, 1, none⟩ (.int .i64 ap)).setCell ⟨w3.heap.size, 2, none⟩ (.string (tx am))).setCell ⟨w3.heap.size, 3, none⟩ (.int .i64 ak)).setCell ⟨w3.heap.size, 4, none⟩ (.slice a5 n5 c5)).setCell ⟨w3.heap.size, 0, none⟩ (.int .i64 3)).cell? ⟨w3.heap.size, 0, none⟩ = some (.int .i64 3) := by rw [cell_at HX3.out]; rfl
          have z1 : ((((((w5.setCell ⟨w3.heap.size, 0, none⟩ (.int .i64 1)).setCell ⟨w3.heap.size, 1, none⟩ (.int .i64 ap)).setCell ⟨w3.heap.size, 2, none⟩ (.string (tx am))).setCell ⟨w3.heap.size, 3, none⟩ (.int .i64 ak)).setCell ⟨w3.heap.size, 4, none⟩ (.slice a5 n5 c5)).setCell ⟨w3.heap.size, 0, none⟩ (.int .i64 3)).cell? ⟨w3.heap.size, 1, none⟩ = some (.int .i64 ap) := by rw [cell_at HX3.out]; rfl
          have z2 : ((((((w5.setCell ⟨w3.heap.size, 0, none⟩ (.int .i64 1)).setCell ⟨w3.heap.size, 1, none⟩ (.int .i64 ap)).setCell ⟨w3.heap.size, 2, none⟩ (.string (tx am))).setCell ⟨w3.heap.size, 3, none⟩ (.int .i64 ak)).setCell ⟨w3.heap.size, 4, none⟩ (.slice a5 n5 c5)).setCell ⟨w3.heap.size, 0, none⟩ (.int .i64 3)).cell? ⟨w3.heap.size, 2, none⟩ = some (.string (tx am)) := by rw [cell_at HX3.out]; rfl
          have z3 : ((((((w5.setCell ⟨w3.heap.size, 0, none⟩ (.int .i64 1)).setCell ⟨w3.heap.size, 1, none⟩ (.int .i64 ap)).setCell ⟨w3.heap.size, 2, none⟩ (.string (tx am))).setCell ⟨w3.heap.size, 3, none⟩ (.int .i64 ak)).setCell ⟨w3.heap.size, 4, none⟩ (.slice a5 n5 c5)).setCell ⟨w3.heap.size, 0, none⟩ (.int .i64 3)).cell? ⟨w3.heap.size, 3, none⟩ = some (.int .i64 ak) := by rw [cell_at HX3.out]; rfl
          have z4 : ((((((w5.setCell ⟨w3.heap.size, 0, none⟩ (.int .i64 1)).setCell ⟨w3.heap.size, 1, none⟩ (.int .i64 ap)).setCell ⟨w3.heap.size, 2, none⟩ (.string (tx am))).setCell ⟨w3.heap.size, 3, none⟩ (.int .i64 ak)).setCell ⟨w3.heap.size, 4, none⟩ (.slice a5 n5 c5)).setCell ⟨w3.heap.size, 0, none⟩ (.int .i64 3)).cell? ⟨w3.heap.size, 4, none⟩ = some (.slice a5 n5 c5) := by rw [cell_at HX3.out]; rfl
          obtain ⟨e0, e1, e2, e3, e4, -⟩ := HCS.out _ (below_2 HA.out.at_.low HX2.out)
          have HSX := hid (show ((((((w5.setCell ⟨w3.heap.size, 0, none⟩ (.int .i64 1)).setCell ⟨w3.heap.size, 1, none⟩ (.int .i64 ap)).setCell ⟨w3.heap.size, 2, none⟩ (.string (tx am))).setCell ⟨w3.heap.size, 3, none⟩ (.int .i64 ak)).setCell ⟨w3.heap.size, 4, none⟩ (.slice a5 n5 c5)).setCell ⟨w3.heap.size, 0, none⟩ (.int .i64 3)).heap.size = w5.heap.size by simp)
          have HNW := hid (show (((((((w5.setCell ⟨w3.heap.size, 0, none⟩ (.int .i64 1)).setCell ⟨w3.heap.size, 1, none⟩ (.int .i64 ap)).setCell ⟨w3.heap.size, 2, none⟩ (.string (tx am))).setCell ⟨w3.heap.size, 3, none⟩ (.int .i64 ak)).setCell ⟨w3.heap.size, 4, none⟩ (.slice a5 n5 c5)).setCell ⟨w3.heap.size, 0, none⟩ (.int .i64 3)).alloc (cob5 3 ap am ak (.slice a5 n5 c5))).heap[w5.heap.size]? = some (cob5 3 ap am ak (.slice a5 n5 c5)) by have := new_0 ((((((w5.setCell ⟨w3.heap.size, 0, none⟩ (.int .i64 1)).setCell ⟨w3.heap.size, 1, none⟩ (.int .i64 ap)).setCell ⟨w3.heap.size, 2, none⟩ (.string (tx am))).setCell ⟨w3.heap.size, 3, none⟩ (.int .i64 ak)).setCell ⟨w3.heap.size, 4, none⟩ (.slice a5 n5 c5)).setCell ⟨w3.heap.size, 0, none⟩ (.int .i64 3)) (cob5 3 ap am ak (.slice a5 n5 c5)); rw [HSX.out] at this; exact this)
          have HX1 := hid (show Below wo.heap.size wo (((((((w5.setCell ⟨w3.heap.size, 0, none⟩ (.int .i64 1)).setCell ⟨w3.heap.size, 1, none⟩ (.int .i64 ap)).setCell ⟨w3.heap.size, 2, none⟩ (.string (tx am))).setCell ⟨w3.heap.size, 3, none⟩ (.int .i64 ak)).setCell ⟨w3.heap.size, 4, none⟩ (.slice a5 n5 c5)).setCell ⟨w3.heap.size, 0, none⟩ (.int .i64 3)).alloc (cob5 3 ap am ak (.slice a5 n5 c5))) from HBX.out.alloc HBX.out.size _)
          have HOB := hid (show (((((((w5.setCell ⟨w3.heap.size, 0, none⟩ (.int .i64 1)).setCell ⟨w3.heap.size, 1, none⟩ (.int .i64 ap)).setCell ⟨w3.heap.size, 2, none⟩ (.string (tx am))).setCell ⟨w3.heap.size, 3, none⟩ (.int .i64 ak)).setCell ⟨w3.heap.size, 4, none⟩ (.slice a5 n5 c5)).setCell ⟨w3.heap.size, 0, none⟩ (.int .i64 3)).alloc (cob5 3 ap am ak (.slice a5 n5 c5))).ownsRow w.heap.size 57 5 (.slice (some ⟨w5.heap.size, 0, none⟩) 1 1) 1 [.int .i64 3, .int .i64 ap, .string (tx am), .int .i64 ak, (.slice a5 n5 c5)] from ⟨rfl, Or.inr ⟨w5.heap.size, 1, _, rfl, by rw [← HSX.out]; exact Nat.le_trans HA.out.at_.low.size HBX.out.size, HNW.out, Nat.le_refl _, by unfold maxLen; omega, rfl, rfl⟩⟩)
          have HSRC := hid (show (∃ c', (.slice oo j oc : Value) = .slice none 0 c' ∧ j = 0 ∧ flatC us = []) ∨ ∃ ad c', (.slice oo j oc : Value) = .slice (some ad) j c' ∧ (flatC us).length = j * 5 ∧ ∀ t u, (flatC us)[t]? = some u → (((((((w5.setCell ⟨w3.heap.size, 0, none⟩ (.int .i64 1)).setCell ⟨w3.heap.size, 1, none⟩ (.int .i64 ap)).setCell ⟨w3.heap.size, 2, none⟩ (.string (tx am))).setCell ⟨w3.heap.size, 3, none⟩ (.int .i64 ak)).setCell ⟨w3.heap.size, 4, none⟩ (.slice a5 n5 c5)).setCell ⟨w3.heap.size, 0, none⟩ (.int .i64 3)).alloc (cob5 3 ap am ak (.slice a5 n5 c5))).cell? (ad.add t) = some u from by
            have ho := (HA.out.own.on HX1.out).row
            rw [HA.out.len] at ho
            rcases ownC_cells ho with ⟨e1, e2, e3⟩ | ⟨g', cur, e1, _, _, hh, hcl⟩
            · exact Or.inl ⟨oc, by rw [e1, e2], e2, by rw [List.length_eq_zero_iff.1 (HA.out.len.trans e2)]; rfl⟩
            · refine Or.inr ⟨⟨g', 0, none⟩, oc, by rw [e1], by rw [flatC_len, HA.out.len], fun t u hu => ?_⟩
              rw [addr_add5, Nat.zero_add]
              exact hcl t u hu)
          have HON := hid (show ∀ u ∈ flatC us, u.oneCell' = true from flatC_one (fun u hu => by obtain ⟨ao', c', e, _⟩ := HA.out.own.prt u hu; exact ⟨ao', _, c', e⟩))
          have HNX := hid (show ∀ (v6 : Value) (w6 : World), w6.ownsRow w.heap.size 57 5 v6 (1 + j) ([.int .i64 3, .int .i64 ap, .string (tx am), .int .i64 ak, (.slice a5 n5 c5)] ++ flatC us) → (((((((w5.setCell ⟨w3.heap.size, 0, none⟩ (.int .i64 1)).setCell ⟨w3.heap.size, 1, none⟩ (.int .i64 ap)).setCell ⟨w3.heap.size, 2, none⟩ (.string (tx am))).setCell ⟨w3.heap.size, 3, none⟩ (.int .i64 ak)).setCell ⟨w3.heap.size, 4, none⟩ (.slice a5 n5 c5)).setCell ⟨w3.heap.size, 0, none⟩ (.int .i64 3)).alloc (cob5 3 ap am ak (.slice a5 n5 c5))).grownBy w6 (Value.slice (some ⟨w5.heap.size, 0, none⟩) 1 1).ownBlock → ∃ a6 c6, v6 = .slice a6 (j + 1) c6 ∧ OwnC w6 w.heap.size (.slice a6 (j + 1) c6) ((3, ⟨ap, am, ak, az⟩, (.slice a5 n5 c5)) :: us) ∧ Below wo.heap.size wo w6 from fun v6 w6 ho hg => by
            rw [Nat.add_comm 1 j] at ho
            obtain ⟨a6, c6, e⟩ := ownC_form ho
            subst e
            have hb6 : Below wo.heap.size wo w6 := HX1.out.grown hg HX1.out.size (fun b hb => by have h1 := ownB_new hb; have h2 := HBX.out.size; rw [HSX.out] at h2; omega)
            refine ⟨a6, c6, rfl, ⟨?_, fun u hu => ?_⟩, hb6⟩
            · rw [List.length_cons, HA.out.len]
              exact ho
            · rcases List.mem_cons.1 hu with e | hu
              · subst e
                obtain ⟨ao', c', e1, e2, q | ⟨b, e3, e4, cs', e5, e6⟩⟩ := HPX.out.on ((Below.refl _ ((((((w5.setCell ⟨w3.heap.size, 0, none⟩ (.int .i64 1)).setCell ⟨w3.heap.size, 1, none⟩ (.int .i64 ap)).setCell ⟨w3.heap.size, 2, none⟩ (.string (tx am))).setCell ⟨w3.heap.size, 3, none⟩ (.int .i64 ak)).setCell ⟨w3.heap.size, 4, none⟩ (.slice a5 n5 c5)).setCell ⟨w3.heap.size, 0, none⟩ (.int .i64 3))).alloc (Nat.le_refl _) (cob5 3 ap am ak (.slice a5 n5 c5)))
                · exact ⟨ao', c', e1, e2, Or.inl q⟩
                · refine ⟨ao', c', e1, e2, Or.inr ⟨b, e3, e4, cs', ?_, e6⟩⟩
                  rw [hg.block b (lt_of_block e5) (fun e => by
                    have h5 : w5.heap.size = b := by simpa [Value.ownBlock] using e.symm
                    exact ne_type e5 HNW.out (by decide) h5.symm)]
                  exact e5
              · exact (HA.out.own.prt u hu).on hb6)
          go_wp2_with (at_builtin; refine wpList_append_srcC _ rfl _ _ 22 rfl w.heap.size 57 i0 _ 5 64 Tryz.underlying22 HI.out HZ0.out HZ1.out HZ2.out rfl (by decide) _ 1 [.int .i64 3, .int .i64 ap, .string (tx am), .int .i64 ak, (.slice a5 n5 c5)] rfl HOB.out (.slice oo j oc) j (flatC us) rfl HSRC.out HON.out (by unfold maxLen; omega) (by omega) (Nat.le_trans HA.out.at_.low.size HX1.out.size) ?_; intro v6 w6 hown6 hg6; obtain ⟨a6, c6, hv6, ho6, hb6⟩ := HNX.out v6 w6 hown6 hg6; subst hv6; have HO6 := hid ho6; have HB6 := hid hb6; obtain ⟨d0, d1, d2, d3, d4, -⟩ := HCS.out w6 (below_2 HA.out.at_.low HB6.out); clear hown6 hg6 ho6 hb6)
          have HU6 := hid (show chs ((3, (⟨ap, am, ak, az⟩ : Raw), (.slice a5 n5 c5)) :: us) = (undosN W L ((chs cs).take (j + 1))).reverse by
            rw [(HSN.out.1 L2 HST.out).2, List.reverse_append, ← HA.out.und]
            show (3, (⟨ap, am, ak, az⟩ : Raw)) :: chs us = _
            rw [HUN.out]; rfl)
          have HAF := hid (RAfter_any (HA.out.at_.doc.on HB6.out) (Nat.le_trans hQ (below_2 HA.out.at_.low HB6.out).size) HA.out.at_.len HA.out.at_.good (HTX.out w6 (below_2 HA.out.at_.low HB6.out)) HSM.out HST.out)
          refine HAF.out.mono ?_
          rintro en w7 ⟨bo7, bn7, bc7, qs7, rfl, h7⟩
          have HA7 := hid (show RUndAt w Q W L (chs cs) (j + 1) bn7 (.slice bo7 bn7 bc7) (.slice a6 (j + 1) c6) qs7 ((3, ⟨ap, am, ak, az⟩, (.slice a5 n5 c5)) :: us) w7 from ⟨⟨below_2 (below_2 HA.out.at_.low HB6.out) h7.out.2.2.2, h7.out.1, h7.out.2.1, by rw [h7.out.2.2.1]; exact (HSN.out.1 L2 HST.out).1, by rw [h7.out.2.2.1]; exact HA.out.at_.good.step HST.out⟩, HO6.out.on h7.out.2.2.2, HU6.out, by rw [List.length_cons, HA.out.len]⟩)
          clear h7 d0 d1 d2 d3 d4
          go_wp2
          go_roundw
          case rel => exact ⟨j + 1, bo7, bn7, bc7, qs7, a6, c6, _, by omega, by go_num, rfl, rfl, HA7⟩
          case measure => simp [intOf]; omega

    · have hjI : ¬ ((j : Int) < (n : Int)) := by omega
      have HFIN := hid (show RUndPost w W L (chs cs) (.returned (.tuple #[.slice oo j oc, .int .i64 0, .int .i64 0])) wo from by
        have hjn : j = n := by omega
        have hr := HA.out.at_.run
        have hu := HA.out.und
        rw [List.take_of_length_le (by rw [List.length_map, HN.out]; omega)] at hr hu
        exact ⟨HA.out.at_.low, Or.inl ⟨_, oo, j, oc, us, hr, rfl, HA.out.own, HA.out.len, hu⟩⟩)
      go_wp2
      refine bodyPost_ret (v := .tuple #[.slice oo j oc, .int .i64 0, .int .i64 0]) (by simp [results, Tryz.results26, go_sem]) rfl HFIN.out
end Go.Proofs.YtipmlcdnfaobiaaGreat
