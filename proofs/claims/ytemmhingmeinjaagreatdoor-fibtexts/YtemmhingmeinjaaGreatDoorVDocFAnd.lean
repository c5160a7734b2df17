/-
  The document's table: New; After of any change that may be; what stays when another block is written.
-/
import Derived.Test.YtemmhingmeinjaaGreatDoorVAppAnd
import Derived.BigQuiet
import Derived.Test.YtemmhingmeinjaaGreatDoorVInsDAnd
import Derived.Deep.RegionHeld3
import Derived.LaidEqlPtr
namespace Go.Proofs.YtemmhingmeinjaaGreatDoor
open Go.RowKit

theorem rv_act (p k : Int) (m : List UInt8) (a : Option Addr) (n c : Nat) (w : World) : (Instr.field 51 (.agg #[.int .i64 p, .string (tx m), .int .i64 k, .slice a n c]) 2).run Tryz.prog w = .ok (.agg #[.int .i64 k, .slice a n c]) w := by kernel_rfl

set_option maxRecDepth 20000 in
set_option maxHeartbeats 4000000 in
theorem RAfterM {w : World} {B Q n c j0 : Nat} {ao : Option Addr} {ps : List (Raw × Value)} {p k : Int} {m : List UInt8} {u : Option Addr} {un uc : Nat} {zs : List (List UInt8)} {a : Raw} (hd : DocL w B Q (.slice ao n c) ps) (hQ : Q ≤ w.heap.size) (hn : ps.length = n) (h60 : n ≤ 4096) (ht : Txs w (.slice u un uc) zs) (hz : zs.length * 16 ≤ 140737488355328) (hzl : ∀ z ∈ zs, z.length ≤ maxLen) (hs : Srt (ps.map Prod.fst)) (hj : (ps.map Prod.fst)[j0]? = some a) (hk : keyB a ⟨p, m, k, zs⟩ = true) :
    Calls Tryz.prog 29 #[.slice ao n c, .agg #[.int .i64 3, .int .i64 p, .string (tx m), .int .i64 k, .slice u un uc]] w fun e w' => ∃ bo bc qs, e = .returned (.slice bo n bc) ∧ Hid (DocL w' w.heap.size Q (.slice bo n bc) qs ∧ qs.length = n ∧ qs.map Prod.fst = mdR (ps.map Prod.fst) ⟨p, m, k, zs⟩ ∧ Below w.heap.size w w') := by
  have HD := hid hd
  have HN := hid hn
  have HT := hid ht
  have HZ := hid hz
  have HZL := hid hzl
  have HKEY := hid (show ∀ i q, ps[i]? = some q → (keyB q.1 ⟨p, m, k, zs⟩ = true ↔ i = j0) from fun i q hq => by
    have hq1 : (ps.map Prod.fst)[i]? = some q.1 := by rw [List.getElem?_map, hq]; rfl
    obtain ⟨o1, o2⟩ := hs.others hj hk
    constructor
    · intro hkq
      rcases Nat.lt_trichotomy i j0 with h | h | h
      · have := o1 q.1 (List.mem_take_iff_getElem.2 ⟨i, by have := (List.getElem?_eq_some_iff.1 hq1).1; omega, (List.getElem?_eq_some_iff.1 hq1).2⟩)
        rw [this] at hkq; cases hkq
      · exact h
      · have := o2 q.1 (List.mem_of_getElem? (i := i - (j0 + 1)) (by rw [List.getElem?_drop, show j0 + 1 + (i - (j0 + 1)) = i by omega]; exact hq1))
        rw [this] at hkq; cases hkq
    · rintro rfl
      rw [hj] at hq1
      injection hq1 with e
      rw [← e]; exact hk)
  have HAT := hid (show atN (ps.map Prod.fst) ⟨p, m, k, zs⟩ = (j0 : Int) from atN_at hj hk (hs.others hj hk).1)
  have hjn : j0 < n := by have := (List.getElem?_eq_some_iff.1 hj).1; rw [List.length_map, hn] at this; exact this
  obtain ⟨i0, hi, hz0, hz1, hz2⟩ := info_parts Tryz.infoRule4
  have HI := hid hi
  have HZ0 := hid hz0
  have HZ1 := hid hz1
  have HZ2 := hid hz2
  obtain ⟨g, rfl⟩ : ∃ g, ao = some ⟨g, 0, none⟩ := by
    obtain ⟨lo, lc, e, _, hf⟩ := HD.out.own.form
    injection e with e1 _ _
    subst e1
    rcases hf with ⟨_, h0⟩ | ⟨g, h1, _⟩
    · rw [h0] at hn; simp at hn; omega
    · exact ⟨g, h1⟩
  have HB1 := hid (show Below w.heap.size w (w.alloc (cob5 3 p m k (.slice u un uc))) from (Below.refl _ _).alloc (Nat.le_refl _) _)
  have HC1 := hid (new_0 w (cob5 3 p m k (.slice u un uc)))
  have HRA := hid (Rat_any (HD.out.own.on HB1.out) HN.out h60 p k m u un uc zs)
  rw [HAT.out] at HRA
  have q0 := cell_at (o := 0) HC1.out
  have q1 := cell_at (o := 1) HC1.out
  have q2 := cell_at (o := 2) HC1.out
  have q3 := cell_at (o := 3) HC1.out
  have q4 := cell_at (o := 4) HC1.out
  simp at q0 q1 q2 q3 q4
  have hfl := rv_act
  clear hd hn hs hj hk hi ht hz hzl hz0 hz1 hz2
  go_enter Tryz.func29, Tryz.ntmps29
  go_wp2_with fail
  refine HRA.out.mono ?_
  rintro en w2 ⟨rfl, hb2⟩
  have HA0 := hid (show AftAt w Q 3 p m k (.slice u un uc) (.slice none 0 0) [] w2 from ⟨HB1.out.trans (hb2.mono HB1.out.size), ⟨⟨World.ownsRow_nil _ _ _ _, fun q hq => by cases hq⟩, fun q hq => by cases hq⟩, below_block hb2 HC1.out (lt_of_block HC1.out)⟩)
  clear hb2 q0 q1 q2 q3 q4
  go_wp2_with fail
  go_loopw [5, 7] (fun vo vi wr => ∃ (i : Nat) (bo : Option Addr) (bc : Nat) (qs : List (Raw × Value)), i ≤ n ∧ vi = .int .i64 i ∧ vo = .slice bo i bc ∧ Hid (AftAt w Q 3 p m k (.slice u un uc) (.slice bo i bc) qs wr) ∧ Hid (qs.length = i) ∧ Hid (qs.map Prod.fst = mdR ((ps.take i).map Prod.fst) ⟨p, m, k, zs⟩)) (fun _ vi _ => n - (intOf vi).toNat)
  case atStart => exact ⟨0, none, 0, [], Nat.zero_le _, rfl, rfl, HA0, rfl, rfl⟩
  case round =>
    obtain ⟨i, bo, bc, qs, hi, rfl, rfl, HA, HL, HE⟩ := hrel
    rename World => wo
    by_cases hlt : i < n
    · obtain ⟨q, hq⟩ : ∃ q, ps[i]? = some q := ⟨ps[i]'(by rw [HN.out]; exact hlt), List.getElem?_eq_getElem _⟩
      have hI : (i : Int) < (n : Int) := by omega
      have hI0 : (0 : Int) ≤ (i : Int) := by omega
      have HQ := hid hq
      have HK := hid (HKEY.out i q hq)
      obtain ⟨e0, e1, e2, e3⟩ := (HD.out.own.on HA.out.low).cells hq
      have HPQ := hid (((HD.out.on HA.out.low).prt q (List.mem_of_getElem? hq)))
      obtain ⟨⟨pp, mm, kk, zz⟩, uv⟩ := q
      obtain ⟨ao1, c1, hq2, _⟩ := HPQ.out.1
      simp only at e0 e1 e2 e3 hq2 HK HPQ
      obtain ⟨an, han⟩ : ∃ an, an = zz.length := ⟨_, rfl⟩
      rw [← han] at hq2
      subst hq2
      have hcc : ∀ o, (wo.alloc o).cell? ⟨w.heap.size, 0, none⟩ = some (.int .i64 3) := fun o => by rw [cell_at (new_old _ o HA.out.blk)]; rfl
      have hc1 : ∀ o, (wo.alloc o).cell? ⟨w.heap.size, 1, none⟩ = some (.int .i64 p) := fun o => by rw [cell_at (new_old _ o HA.out.blk)]; rfl
      have hc2 : ∀ o, (wo.alloc o).cell? ⟨w.heap.size, 2, none⟩ = some (.string (tx m)) := fun o => by rw [cell_at (new_old _ o HA.out.blk)]; rfl
      have hc3 : ∀ o, (wo.alloc o).cell? ⟨w.heap.size, 3, none⟩ = some (.int .i64 k) := fun o => by rw [cell_at (new_old _ o HA.out.blk)]; rfl
      have hc4 : ∀ o, (wo.alloc o).cell? ⟨w.heap.size, 4, none⟩ = some (.slice u un uc) := fun o => by rw [cell_at (new_old _ o HA.out.blk)]; rfl
      have HTKM := hid (show (ps.take (i + 1)).map Prod.fst = (ps.take i).map Prod.fst ++ [(⟨pp, mm, kk, zz⟩ : Raw)] by rw [List.take_add_one, HQ.out]; simp)
      clear hq han
      by_cases hij : i = j0
      · subst hij
        have HKT := hid (keyB_iff.1 (HK.out.2 rfl))
        obtain ⟨W1, hW1⟩ : ∃ W1, W1 = wo.alloc (rob pp (tx mm) kk (.slice ao1 an c1)) := ⟨_, rfl⟩
        have HB1' := hid (show Below wo.heap.size wo W1 by rw [hW1]; exact (Below.refl _ _).alloc (Nat.le_refl _) _)
        have HR1 := hid (show W1.heap[wo.heap.size]? = some (rob pp (tx mm) kk (.slice ao1 an c1)) by rw [hW1]; exact new_0 _ _)
        have HCP := hid (RCopy_any (w := W1) (p := p) (k := k) (m := m) (HT.out.below (HA.out.low.trans (HB1'.out.mono HA.out.low.size))) HZ.out)
        subst hW1
        go_wp2_with fail
        refine HCP.out.mono ?_
        rintro en w3 ⟨a3, n3, c3, rfl, hp3, hb3⟩
        have HP3 := hid hp3.out
        have HB3 := hid (below_2 HB1'.out hb3)
        have hR3 := below_block hb3 HR1.out (lt_of_block HR1.out)
        have HR3 := hid hR3
        clear hb3 hp3
        obtain ⟨x0, x1, x2, x3, y0, y1, y2, y3⟩ := rob_cells hR3
        have B4 := rob_4 (rob_3 hR3 k) (.slice a3 n3 c3)
        obtain ⟨z0, z1, z2, z3, _, _, _, _⟩ := rob_cells B4
        obtain ⟨W2, hW2⟩ : ∃ W2, W2 = ((w3.setCell ⟨wo.heap.size, 2, none⟩ (.int .i64 k)).setCell ⟨wo.heap.size, 3, none⟩ (.slice a3 n3 c3)).alloc (rob pp (tx mm) k (.slice a3 n3 c3)) := ⟨_, rfl⟩
        have HSB := hid (show Below wo.heap.size wo ((w3.setCell ⟨wo.heap.size, 2, none⟩ (.int .i64 k)).setCell ⟨wo.heap.size, 3, none⟩ (.slice a3 n3 c3)) from (HB3.out.setCell (p := ⟨wo.heap.size, 2, none⟩) (Nat.le_refl _) (.int .i64 k)).setCell (p := ⟨wo.heap.size, 3, none⟩) (Nat.le_refl _) (.slice a3 n3 c3))
        have HBW := hid (show Below wo.heap.size wo W2 by rw [hW2]; exact HSB.out.alloc HSB.out.size _)
        have HPW := hid (show Ported W2 Q (.slice a3 n3 c3) zs by
          rw [hW2]
          exact (((HP3.out.store (k := 2) (u := .int .i64 k) hR3).store (k := 3) (u := .slice a3 n3 c3) (rob_3 hR3 k)).on ((Below.refl _ _).alloc (Nat.le_refl _) _)).mono (Nat.le_trans hQ (Nat.le_trans HA.out.low.size HB1'.out.size)))
        have HSZ := hid (show w.heap.size ≤ W2.heap.size from Nat.le_trans HA.out.low.size HBW.out.size)
        have HOW := hid (show W2.ownsRow w.heap.size 51 4 (.slice bo i bc) i (flatV qs) by have := (HA.out.doc.own.on HBW.out).own; rw [HL.out] at this; exact this)
        have HN3 := hid (show ((w3.setCell ⟨wo.heap.size, 2, none⟩ (.int .i64 k)).setCell ⟨wo.heap.size, 3, none⟩ (.slice a3 n3 c3)).heap.size = w3.heap.size by simp)
        have HS4 := hid (show ∃ ad c, (.slice (some ⟨w3.heap.size, 0, none⟩) 1 1 : Value) = .slice (some ad) 1 c ∧ ([.int .i64 pp, .string (tx mm), .int .i64 k, .slice a3 n3 c3] : List Value).length = 1 * 4 ∧ ∀ t u, ([.int .i64 pp, .string (tx mm), .int .i64 k, .slice a3 n3 c3] : List Value)[t]? = some u → W2.cell? (ad.add t) = some u from ⟨⟨w3.heap.size, 0, none⟩, 1, rfl, rfl, fun t u hu => by
          have hnew := new_0 ((w3.setCell ⟨wo.heap.size, 2, none⟩ (.int .i64 k)).setCell ⟨wo.heap.size, 3, none⟩ (.slice a3 n3 c3)) (rob pp (tx mm) k (.slice a3 n3 c3))
          rw [HN3.out, ← hW2] at hnew
          rw [addr_add5, Nat.zero_add, cell_at hnew, ← Array.getElem?_toList]
          exact hu⟩)
        have HO1' := hid (show ∀ u ∈ ([.int .i64 pp, .string (tx mm), .int .i64 k, .slice a3 n3 c3] : List Value), u.oneCell' = true from fun u hu => by
          simp only [List.mem_cons, List.not_mem_nil, or_false] at hu
          rcases hu with rfl | rfl | rfl | rfl <;> rfl)
        have HNX := hid (show ∀ (v7 : Value) (w7 : World), w7.ownsRow w.heap.size 51 4 v7 (i + 1) (flatV qs ++ [.int .i64 pp, .string (tx mm), .int .i64 k, .slice a3 n3 c3]) → W2.grownBy w7 (Value.slice bo i bc).ownBlock → ∃ a7 c7, v7 = .slice a7 (i + 1) c7 ∧ AftAt w Q 3 p m k (.slice u un uc) (.slice a7 (i + 1) c7) (qs ++ [((⟨pp, mm, k, zs⟩ : Raw), Value.slice a3 n3 c3)]) w7 from fun v7 w7 ho hg => by
          obtain ⟨a7, c7, e⟩ := own_form ho
          subst e
          exact ⟨a7, c7, rfl, HA.out.next (r := ⟨pp, mm, k, zs⟩) HBW.out HPW.out HZL.out ho hg HL.out⟩)
        have HL2 := hid (show (qs ++ [((⟨pp, mm, k, zs⟩ : Raw), Value.slice a3 n3 c3)]).length = i + 1 by rw [List.length_append, HL.out]; rfl)
        have HE2 := hid (show (qs ++ [((⟨pp, mm, k, zs⟩ : Raw), Value.slice a3 n3 c3)]).map Prod.fst = mdR ((ps.take (i + 1)).map Prod.fst) ⟨p, m, k, zs⟩ by
          rw [List.map_append, HE.out, HTKM.out]
          have e1 : pp = p := HKT.out.1
          have e2 : mm = m := HKT.out.2
          subst e1 e2
          unfold mdR
          rw [List.map_append]
          congr 1
          simp [keyB])
        subst hW2
        clear B4 hR3
        go_wp2_with (at_builtin; refine wpList_append_srcC _ rfl _ _ 36 rfl w.heap.size 51 i0 _ 4 56 Tryz.underlying36 HI.out HZ0.out HZ1.out HZ2.out rfl (by decide) (.slice bo i bc) i (flatV qs) rfl HOW.out _ 1 [.int .i64 pp, .string (tx mm), .int .i64 k, .slice a3 n3 c3] rfl (Or.inr HS4.out) HO1'.out (by unfold maxLen; omega) (by omega) HSZ.out ?_; intro v7 w7 hown7 hg7; obtain ⟨a7, c7, hv7, hA7⟩ := HNX.out v7 w7 hown7 hg7; subst hv7; have HA7 := hid hA7; clear hown7 hg7 hA7)
        go_roundw
        case rel => exact ⟨i + 1, a7, c7, _, by omega, by go_num, rfl, HA7, HL2, HE2⟩
        case measure => simp [intOf]; omega
      · have b1 : ((i : Int) == (j0 : Int)) = false := by rw [beq_eq_false_iff_ne]; omega
        have HE2 := hid (show (qs ++ [((⟨pp, mm, kk, zz⟩ : Raw), Value.slice ao1 an c1)]).map Prod.fst = mdR ((ps.take (i + 1)).map Prod.fst) ⟨p, m, k, zs⟩ by
          rw [List.map_append, HE.out, HTKM.out]
          have : keyB ⟨pp, mm, kk, zz⟩ ⟨p, m, k, zs⟩ = false := by
            cases h : keyB ⟨pp, mm, kk, zz⟩ ⟨p, m, k, zs⟩ with
            | false => rfl
            | true => exact absurd (HK.out.1 h) hij
          unfold mdR
          rw [List.map_append]
          congr 1
          simp [this])
        obtain ⟨W2, hW2⟩ : ∃ W2, W2 = (wo.alloc (rob pp (tx mm) kk (.slice ao1 an c1))).alloc (rob pp (tx mm) kk (.slice ao1 an c1)) := ⟨_, rfl⟩
        have HBW := hid (show Below wo.heap.size wo W2 by rw [hW2]; exact ((Below.refl _ _).alloc (Nat.le_refl _) _).alloc (by simp) _)
        have HSZ := hid (show w.heap.size ≤ W2.heap.size from Nat.le_trans HA.out.low.size HBW.out.size)
        have HOW := hid (show W2.ownsRow w.heap.size 51 4 (.slice bo i bc) i (flatV qs) by have := (HA.out.doc.own.on HBW.out).own; rw [HL.out] at this; exact this)
        have HS4 := hid (show ∃ ad c, (.slice (some ⟨wo.heap.size + 1, 0, none⟩) 1 1 : Value) = .slice (some ad) 1 c ∧ ([.int .i64 pp, .string (tx mm), .int .i64 kk, .slice ao1 an c1] : List Value).length = 1 * 4 ∧ ∀ t u, ([.int .i64 pp, .string (tx mm), .int .i64 kk, .slice ao1 an c1] : List Value)[t]? = some u → W2.cell? (ad.add t) = some u from ⟨⟨wo.heap.size + 1, 0, none⟩, 1, rfl, rfl, fun t u hu => by
          have hnew := new_0 (wo.alloc (rob pp (tx mm) kk (.slice ao1 an c1))) (rob pp (tx mm) kk (.slice ao1 an c1))
          rw [show (wo.alloc (rob pp (tx mm) kk (.slice ao1 an c1))).heap.size = wo.heap.size + 1 by simp, ← hW2] at hnew
          rw [addr_add5, Nat.zero_add, cell_at hnew, ← Array.getElem?_toList]
          exact hu⟩)
        have HO1' := hid (show ∀ u ∈ ([.int .i64 pp, .string (tx mm), .int .i64 kk, .slice ao1 an c1] : List Value), u.oneCell' = true from fun u hu => by
          simp only [List.mem_cons, List.not_mem_nil, or_false] at hu
          rcases hu with rfl | rfl | rfl | rfl <;> rfl)
        have HNX := hid (show ∀ (v7 : Value) (w7 : World), w7.ownsRow w.heap.size 51 4 v7 (i + 1) (flatV qs ++ [.int .i64 pp, .string (tx mm), .int .i64 kk, .slice ao1 an c1]) → W2.grownBy w7 (Value.slice bo i bc).ownBlock → ∃ a7 c7, v7 = .slice a7 (i + 1) c7 ∧ AftAt w Q 3 p m k (.slice u un uc) (.slice a7 (i + 1) c7) (qs ++ [((⟨pp, mm, kk, zz⟩ : Raw), Value.slice ao1 an c1)]) w7 from fun v7 w7 ho hg => by
          obtain ⟨a7, c7, e⟩ := own_form ho
          subst e
          exact ⟨a7, c7, rfl, HA.out.next (r := ⟨pp, mm, kk, zz⟩) HBW.out (HPQ.out.1.on HBW.out) HPQ.out.2 ho hg HL.out⟩)
        have HL2 := hid (show (qs ++ [((⟨pp, mm, kk, zz⟩ : Raw), Value.slice ao1 an c1)]).length = i + 1 by rw [List.length_append, HL.out]; rfl)
        subst hW2
        clear hij
        go_wp2_with (at_builtin; refine wpList_append_srcC _ rfl _ _ 36 rfl w.heap.size 51 i0 _ 4 56 Tryz.underlying36 HI.out HZ0.out HZ1.out HZ2.out rfl (by decide) (.slice bo i bc) i (flatV qs) rfl HOW.out _ 1 [.int .i64 pp, .string (tx mm), .int .i64 kk, .slice ao1 an c1] rfl (Or.inr HS4.out) HO1'.out (by unfold maxLen; omega) (by omega) HSZ.out ?_; intro v7 w7 hown7 hg7; obtain ⟨a7, c7, hv7, hA7⟩ := HNX.out v7 w7 hown7 hg7; subst hv7; have HA7 := hid hA7; clear hown7 hg7 hA7)
        go_roundw
        case rel => exact ⟨i + 1, a7, c7, _, by omega, by go_num, rfl, HA7, HL2, HE2⟩
        case measure => simp [intOf]; omega
    · have hI : ¬ ((i : Int) < (n : Int)) := by omega
      have HEND := hid (show DocL wo w.heap.size Q (.slice bo n bc) qs ∧ qs.length = n ∧ qs.map Prod.fst = mdR (ps.map Prod.fst) ⟨p, m, k, zs⟩ ∧ Below w.heap.size w wo from by
        have e : i = n := by omega
        subst e
        refine ⟨HA.out.doc, HL.out, ?_, HA.out.low⟩
        rw [HE.out, List.take_of_length_le (by rw [HN.out]; omega)])
      have hin : i = n := by omega
      subst hin
      go_wp2
      go_ret
      exact ⟨_, _, rfl, _, HEND.out⟩
end Go.Proofs.YtemmhingmeinjaaGreatDoor
namespace Go.Proofs.YtemmhingmeinjaaGreatDoor
open Go.RowKit

theorem caughtT_not (r : Addr) (w : World) :
    CallsD Tryz.prog 50 #[.pointer (some r)] .returning w fun x u' w' => x = .returned (.tuple #[]) ∧ u' = .returning ∧ w' = w := by
  refine callsD_of_wpS Tryz.func50 rfl fun c₀ cs hu => ?_
  apply wpS_seq
  apply wpS_region
  simp [wpOpsS, go_sem, recoverD, hu, Tryz.ntmps50, Exit.thenS]
  refine wpS_cond (t := false) (by simp [Act.eval, Array.replicate]) ?_
  simp only [Bool.false_eq_true, if_false]
  refine wpS_of_wp (wp_skip ?_)
  cases c₀
  simp_all [bodyPostS, results, Tryz.results50]
theorem caughtT (D : Nat) (W num er pv : Int) (v u : Value) (w : World) (h : w.heap[D]? = some (tob W v num er u)) :
    CallsD Tryz.prog 50 #[.pointer (some ⟨D, 0, none⟩)] (.panicking (panE pv)) w fun e u' w' =>
      e = .returned (.tuple #[]) ∧ u' = .panicking [{ v := .iface 28 (.int .i64 pv), recovered := true }] ∧
      w' = ((((w.setCell ⟨D, 0, none⟩ (.int .i64 0)).setCell ⟨D, 1, none⟩ (.slice none 0 0)).setCell ⟨D, 2, none⟩ (.int .i64 num)).setCell ⟨D, 3, none⟩ (.int .i64 er)).setCell ⟨D, 4, none⟩ (.slice none 0 0) := by
  have a0 := cell_at (o := 0) h
  have a1 := cell_at (o := 1) h
  have a2 := cell_at (o := 2) h
  have a3 := cell_at (o := 3) h
  have a4 := cell_at (o := 4) h
  simp only [List.getElem?_toArray, List.getElem?_cons_succ, List.getElem?_cons_zero] at a0 a1 a2 a3 a4
  have f0 := free_of (o := 0) h
  have f1 := free_of (o := 1) h
  have f2 := free_of (o := 2) h
  have f3 := free_of (o := 3) h
  have f4 := free_of (o := 4) h
  refine callsD_of_wpS Tryz.func50 rfl fun c₀ cs hu => ?_
  apply wpS_seq
  apply wpS_region
  simp [wpOpsS, go_sem, recoverD, hu, Tryz.ntmps50, Exit.thenS]
  refine wpS_cond (t := true) (by simp [Act.eval, Array.replicate]) ?_
  simp only [if_true]
  apply wpS_region
  simp [wpOpsS, go_sem, a0, a1, a2, a3, a4, f0, f1, f2, f3, f4, bodyPostS, results, Tryz.results50]
abbrev tdef (D : Nat) : Deferred := { target := Target.fn (Fn.func 50) #[.pointer (some ⟨D, 0, none⟩)], args := #[] }
theorem tleave {w w' : World} {Bp : Nat} {W : Int} {L : List Raw} {cs : List (Int × Raw)} {tmps : Array Value} {q er : Int} {i : Nat} (h4 : tmps[4]? = some (.pointer (some ⟨w.heap.size, 0, none⟩))) (hb : Below w.heap.size w w') (hn : TrNo w' w.heap.size i er) (hr : runN W L cs 0 = .error (i, er)) (h0 : er ≠ 0) :
    Leaves Tryz.prog Tryz.f27 tmps (fun en w' => TryPost w Bp W L cs en w') [tdef w.heap.size] (.panicking (panE q)) w' := by
  obtain ⟨W0, v, u, hB⟩ := hn
  refine leaves_cons (f := 50) (args := #[.pointer (some ⟨w.heap.size, 0, none⟩)]) (by simp) (by simp [go_sem]) ?_
  refine (caughtT w.heap.size W0 i er q v u w' hB).mono ?_
  rintro e u' w'' ⟨rfl, rfl, rfl⟩
  have k1 := block_set (o := 4) (.slice none 0 0) (block_set (o := 3) (.int .i64 er) (block_set (o := 2) (.int .i64 (i : Int)) (block_set (o := 1) (.slice none 0 0) (block_set (o := 0) (.int .i64 0) hB))))
  obtain ⟨X, hX⟩ : ∃ X, X = ((((w'.setCell ⟨w.heap.size, 0, none⟩ (.int .i64 0)).setCell ⟨w.heap.size, 1, none⟩ (.slice none 0 0)).setCell ⟨w.heap.size, 2, none⟩ (.int .i64 (i : Int))).setCell ⟨w.heap.size, 3, none⟩ (.int .i64 er)).setCell ⟨w.heap.size, 4, none⟩ (.slice none 0 0) := ⟨_, rfl⟩
  have hbX : Below w.heap.size w X := by rw [hX]; exact ((((hb.setCell (by simp) _).setCell (by simp) _).setCell (by simp) _).setCell (by simp) _).setCell (by simp) _
  rw [← hX] at k1 ⊢
  have q0 : X.cell? ⟨w.heap.size, 0, none⟩ = some (.int .i64 0) := by rw [cell_at k1]; rfl
  have q1 : X.cell? ⟨w.heap.size, 1, none⟩ = some (.slice none 0 0) := by rw [cell_at k1]; rfl
  have q2 : X.cell? ⟨w.heap.size, 2, none⟩ = some (.int .i64 (i : Int)) := by rw [cell_at k1]; rfl
  have q3 : X.cell? ⟨w.heap.size, 3, none⟩ = some (.int .i64 er) := by rw [cell_at k1]; rfl
  have q4 : X.cell? ⟨w.heap.size, 4, none⟩ = some (.slice none 0 0) := by rw [cell_at k1]; rfl
  refine ⟨tv 0 (.slice none 0 0) i er (.slice none 0 0), ?_, hbX, Or.inr ⟨i, er, hr, h0, rfl⟩⟩
  simp [results, Tryz.results27, go_sem, h4, q0, q1, q2, q3, q4]
theorem step_err {W : Int} {L : List Raw} {k : Int} {r : Raw} {e : Int} (h : stepN W L k r = .error e) : e ≠ 0 := by
  unfold stepN at h
  repeat' (split at h)
  all_goals (first | (cases h; assumption) | (cases h; decide) | cases h)
structure TryAt (w : World) (Bp : Nat) (W : Int) (L : List Raw) (cs : List (Int × Raw)) (j : Nat) (wr : World) (num : Int) (v vu : Value) (ps : List (Raw × Value)) (us : List (Int × Raw × Value)) : Prop where
  tr : TrAt wr w.heap.size Bp w.heap.size W num v vu ps us
  run : runN W L (cs.take j) 0 = .ok (ps.map Prod.fst)
  und : us.map (fun u => (u.1, u.2.1)) = undosN W L (cs.take j)
  len : us.length = j
  low : Below w.heap.size w wr

def ChIn (w : World) (ao : Option Addr) (cs : List (Int × Raw × Value)) : Prop := cs = [] ∨ ∃ g o, ao = some ⟨g, o, none⟩ ∧ ChView w g o cs

set_option maxRecDepth 20000 in
set_option maxHeartbeats 4000000 in
theorem try_any {w : World} {Bp tb n cap : Nat} {ao : Option Addr} {W : Int} {v : Value} {ps : List (Raw × Value)} {cs : List (Int × Raw × Value)} (h : TabAt w Bp tb W v ps) (hBp : Bp ≤ w.heap.size) (hc : ChIn w ao cs) (hn : cs.length = n) (h64 : n * 64 ≤ 140737488355328) :
    Calls Tryz.prog 27 #[.pointer (some ⟨tb, 0, none⟩), .slice ao n cap] w fun e w' => TryPost w Bp W (ps.map Prod.fst) (chs cs) e w' := by
  have hmf : ∀ (fn : Fn) (first cap : Array Value) (w : World), (Instr.makeFunc fn first cap).run Tryz.prog w = .ok (.func fn first cap) w := fun _ _ _ _ => rfl
  have H := hid h
  have HC := hid hc
  have HN := hid hn
  have htb : tb < w.heap.size := lt_of_block h.blk
  obtain ⟨W0, hW0⟩ : ∃ W0, W0 = w.alloc (tob 0 (.slice none 0 0) 0 0 (.slice none 0 0)) := ⟨_, rfl⟩
  have HB0 := hid (show Below w.heap.size w W0 by rw [hW0]; exact (Below.refl _ _).alloc (Nat.le_refl _) _)
  have HD0 := hid (show W0.heap[w.heap.size]? = some (tob 0 (.slice none 0 0) 0 0 (.slice none 0 0)) by rw [hW0]; exact new_0 _ _)
  have t0 : W0.cell? ⟨tb, 0, none⟩ = some (.int .i64 W) := by rw [HB0.out.cell (by exact htb), cell_at h.blk]; rfl
  have t1 : W0.cell? ⟨tb, 1, none⟩ = some v := by rw [HB0.out.cell (by exact htb), cell_at h.blk]; rfl
  obtain ⟨lo, lc, hv, _⟩ := h.list.form
  have HCL := hid (fun (X : World) (hX : Below W0.heap.size W0 X) => (Clone_rules (h.list.on (below_2 HB0.out hX)) (by have := h.good.few; simpa using this)).mono (R' := fun e w' => ∃ ao2 n2 c2, e = .returned (.slice ao2 n2 c2) ∧ (w'.cell? ⟨tb, 0, none⟩ = some (.int .i64 W) ∧ w'.cell? ⟨tb, 1, none⟩ = some v) ∧ (((w'.setCell ⟨w.heap.size, 0, none⟩ (.int .i64 W)).setCell ⟨w.heap.size, 1, none⟩ (.slice ao2 n2 c2)).cell? ⟨tb, 0, none⟩ = some (.int .i64 W) ∧ ((w'.setCell ⟨w.heap.size, 0, none⟩ (.int .i64 W)).setCell ⟨w.heap.size, 1, none⟩ (.slice ao2 n2 c2)).cell? ⟨tb, 1, none⟩ = some v) ∧ (∃ z0, w'.cell? ⟨w.heap.size, 0, none⟩ = some z0) ∧ (∃ z1, w'.cell? ⟨w.heap.size, 1, none⟩ = some z1) ∧ w'.frozen? ⟨w.heap.size, 0, none⟩ = false ∧ w'.frozen? ⟨w.heap.size, 1, none⟩ = false ∧ Hid (TryAt w Bp W (ps.map Prod.fst) (chs cs) 0 ((w'.setCell ⟨w.heap.size, 0, none⟩ (.int .i64 W)).setCell ⟨w.heap.size, 1, none⟩ (.slice ao2 n2 c2)) 0 (.slice ao2 n2 c2) (.slice none 0 0) ps [])) fun e w' hq => by
    obtain ⟨v', rfl, ⟨ao2, n2, c2, rfl⟩, h1, h2⟩ := hq
    have hb : Below W0.heap.size W0 w' := below_2 hX h2
    have hD := below_block hb HD0.out (lt_of_block HD0.out)
    have hD2 := block_set (o := 1) (.slice ao2 n2 c2) (block_set (o := 0) (.int .i64 W) hD)
    have hbw : Below w.heap.size w w' := below_2 HB0.out hb
    have s0 := (hb.cell (p := ⟨tb, 0, none⟩) (by exact Nat.lt_of_lt_of_le htb HB0.out.size)).trans t0
    have s1 := (hb.cell (p := ⟨tb, 1, none⟩) (by exact Nat.lt_of_lt_of_le htb HB0.out.size)).trans t1
    have hne : tb ≠ w.heap.size := by omega
    have key : ∀ o, ((w'.setCell ⟨w.heap.size, 0, none⟩ (.int .i64 W)).setCell ⟨w.heap.size, 1, none⟩ (.slice ao2 n2 c2)).cell? ⟨tb, o, none⟩ = w'.cell? ⟨tb, o, none⟩ := fun o => World.cell?_of_block ((Below.heap_setCell _ _ _ _ (by show tb ≠ w.heap.size; exact hne)).trans (Below.heap_setCell _ _ _ _ (by show tb ≠ w.heap.size; exact hne)))
    refine ⟨ao2, n2, c2, rfl, ⟨s0, s1⟩, ⟨(key 0).trans s0, (key 1).trans s1⟩, ⟨_, by rw [cell_at hD]; rfl⟩, ⟨_, by rw [cell_at hD]; rfl⟩, free_of hD, free_of hD, ⟨⟨hD2, Nat.le_refl _, ?_, fun q hq => ?_, World.ownsRow_nil _ _ _ _, fun u hu => by cases hu⟩, rfl, rfl, rfl, (hbw.setCell (Nat.le_refl _) _).setCell (Nat.le_refl _) _⟩⟩
    · have hle : w.heap.size ≤ X.heap.size := Nat.le_trans HB0.out.size hX.size
      have h1' : OwnR w' w.heap.size (.slice ao2 n2 c2) ps := ⟨⟨h1.own.1, by
        rcases h1.own.2 with q | ⟨g, cp, cur, e, hB', r⟩
        · exact Or.inl q
        · exact Or.inr ⟨g, cp, cur, e, Nat.le_trans hle hB', r⟩⟩, h1.vals⟩
      exact ownR_store (ownR_store h1' hD) (block_set (o := 0) _ hD)
    · exact (((H.out.ports q hq).on hbw).storeD hD).storeD (block_set (o := 0) _ hD))
  subst hv
  subst hW0
  clear h hc hn
  go_enter_defers Tryz.func27, Tryz.ntmps27
  go_wp2_with fail
  go_region_held3 (fun W' => W'.cell? ⟨tb, 0, none⟩ = some (.int .i64 W) ∧ W'.cell? ⟨tb, 1, none⟩ = some (.slice lo ps.length lc)) (first | exact ⟨t0, t1⟩ | exact hS2 | exact hS3) (first | (go_at_call 49; refine (HCL.out _ (by first | exact Below.refl _ _ | exact (Below.refl _ _).drew)).mono ?_; rintro en w2 ⟨ao2, n2, c2, rfl, hS2, hS3, ⟨z0, g0⟩, ⟨z1, g1⟩, g2, g3, hT⟩; have HT2 := hid hT.out; clear hT))
  clear t0 t1 hS2 hS3 g0 g1 g2 g3
  go_wp2_with fail
  go_loopw [21, 5, 6] (fun vi _ _ wr => ∃ (j : Nat) (num : Int) (v vu : Value) (qs : List (Raw × Value)) (us : List (Int × Raw × Value)), j ≤ n ∧ vi = .int .i64 j ∧ Hid (TryAt w Bp W (ps.map Prod.fst) (chs cs) j wr num v vu qs us)) (fun vi _ _ _ => n - (intOf vi).toNat)
  case atStart => exact ⟨0, 0, _, _, _, _, Nat.zero_le _, rfl, HT2⟩
  case round =>
    obtain ⟨j, num, v1, vu1, qs, us, hj, rfl, J⟩ := hrel
    obtain ⟨d0, d1, d2, d3, d4⟩ := J.out.tr.cells
    have HGD := hid (H.out.good.run J.out.run)
    by_cases hlt : j < n
    · obtain ⟨u, hu⟩ : ∃ u, cs[j]? = some u := ⟨cs[j]'(by rw [HN.out]; exact hlt), List.getElem?_eq_getElem _⟩
      obtain ⟨g, o, hao, hV⟩ : ∃ g o, ao = some ⟨g, o, none⟩ ∧ ChView w g o cs := by
        rcases HC.out with q | q
        · rw [q] at hu; simp at hu
        · exact q
      subst hao
      have hgw := hV.old
      have HU := hid hu
      obtain ⟨e0, e1, e2, e3, e4⟩ := hV.cell j u hu
      have hpo := hV.ports u (List.mem_of_getElem? hu)
      have cc : ∀ (x : Nat) (y : Value), w.cell? ⟨g, x, none⟩ = some y → wr.cell? ⟨g, x, none⟩ = some y := fun x y hx => (J.out.low.cell (by exact hgw)).trans hx
      have e0 := cc _ _ e0
      have e1 := cc _ _ e1
      have e2 := cc _ _ e2
      have e3 := cc _ _ e3
      have e4 := cc _ _ e4
      have HPO := hid hpo
      obtain ⟨uk, ⟨up, um, ukk, uz⟩, uv⟩ := u
      simp only at e0 e1 e2 e3 e4 hpo HPO
      obtain ⟨⟨po, pc, huv, _⟩, _⟩ := hpo
      subst huv
      have fD : wr.frozen? ⟨w.heap.size, 2, none⟩ = false := free_of J.out.tr.blk
      have i0 : (0 : Int) ≤ (j : Int) := by omega
      have i1 : (j : Int) < (n : Int) := by omega
      obtain ⟨zn, hzn⟩ : ∃ zn, zn = uz.length := ⟨_, rfl⟩
      have HZN := hid hzn
      rw [← hzn] at e4 HPO
      obtain ⟨X, hX⟩ : ∃ X, X = (wr.alloc (cob uk up (tx um) ukk (.slice po zn pc))).setCell ⟨w.heap.size, 2, none⟩ (.int .i64 (j : Int)) := ⟨_, rfl⟩
      have hXn : X.heap[wr.heap.size]? = some (cob uk up (tx um) ukk (.slice po zn pc)) := by
        rw [hX]
        exact block_other _ (new_0 _ _) (by have := lt_of_block J.out.tr.blk; omega)
      have x0 : X.cell? ⟨wr.heap.size, 0, none⟩ = some (.int .i64 uk) := by rw [cell_at hXn]; rfl
      have x1 : X.cell? ⟨wr.heap.size, 1, none⟩ = some (.int .i64 up) := by rw [cell_at hXn]; rfl
      have x2 : X.cell? ⟨wr.heap.size, 2, none⟩ = some (.string (tx um)) := by rw [cell_at hXn]; rfl
      have x3 : X.cell? ⟨wr.heap.size, 3, none⟩ = some (.int .i64 ukk) := by rw [cell_at hXn]; rfl
      have x4 : X.cell? ⟨wr.heap.size, 4, none⟩ = some (.slice po zn pc) := by rw [cell_at hXn]; rfl
      have HLX := hid (show Below w.heap.size w X by rw [hX]; exact (J.out.low.alloc J.out.low.size _).setCell (Nat.le_refl _) _)
      have HTX := hid (show TrAt X w.heap.size Bp w.heap.size W (j : Int) v1 vu1 qs us from by
        have h0 := J.out.tr.on ((Below.refl _ _).alloc (Nat.le_refl _) (cob uk up (tx um) ukk (.slice po zn pc)))
        rw [hX]
        exact ⟨by rw [block_set (o := 2) _ h0.blk]; rfl, h0.base, ownR_store h0.list h0.blk, fun q hq => (h0.ports q hq).storeD h0.blk, ownC_store h0.und h0.blk, fun u hu => (h0.uports u hu).storeD h0.blk⟩)
      have HDO := hid (ldo_any (c := uk) (p := up) (k := ukk) (m := um) (zs := uz) (rv := .slice po zn pc) HTX.out HLX.out.size (Nat.le_trans hBp HLX.out.size) HGD.out HPO.out.2 (by rw [J.out.len]; omega) (fun W' h1 _ => HPO.out.1.below (HLX.out.trans h1)))
      have HSN := hid (run_snoc J.out.run (c := (uk, ⟨up, um, ukk, uz⟩)) (by show (cs.map _)[j]? = _; rw [List.getElem?_map, HU.out]; rfl))
      rw [hX] at x0 x1 x2 x3 x4
      have fDa : ∀ ob, (wr.alloc ob).frozen? ⟨w.heap.size, 2, none⟩ = false := fun ob => free_of (new_old _ ob J.out.tr.blk)
      have d2a : ∀ ob, (wr.alloc ob).cell? ⟨w.heap.size, 2, none⟩ = some (.int .i64 num) := fun ob => alloc_cell d2 (lt_of_block J.out.tr.blk) ob
      clear cc hu hV hXn hzn
      go_wp2_with fail
      rw [← hX]
      refine HDO.out.mono ?_
      rintro en w5 (⟨v', vu', ps', us', rfl, hst, hun, htr, hb5⟩ | ⟨er, hst, rfl, hno, hb5⟩)
      rotate_left
      · exact tleave rfl (HLX.out.trans hb5) hno (HSN.out.2 er hst) (step_err hst)
      have J5 := hid (show TryAt w Bp W (ps.map Prod.fst) (chs cs) (j + 1) w5 (j : Int) v' vu' ps' us' from ⟨htr, (HSN.out.1 _ hst).1, by rw [hun, J.out.und]; exact (HSN.out.1 _ hst).2.symm, by have := congrArg List.length hun; simp only [List.length_map, List.length_append, List.length_cons, List.length_nil] at this; have := J.out.len; omega, HLX.out.trans hb5⟩)
      clear hst hun htr hb5 x0 x1 x2 x3 x4 hX
      go_wp2
      go_roundw
      case rel => exact ⟨j + 1, _, _, _, _, _, by omega, by go_num, J5⟩
      case measure => simp [intOf]; omega
    · have hI : ¬ ((j : Int) < (n : Int)) := by omega
      have hjn : j = n := by omega
      have HFI := hid (show runN W (ps.map Prod.fst) (chs cs) 0 = .ok (qs.map Prod.fst) ∧ us.map (fun u => (u.1, u.2.1)) = undosN W (ps.map Prod.fst) (chs cs) from by
        have e : (chs cs).take j = chs cs := List.take_of_length_le (by simp [HN.out, hjn])
        have h1 := J.out.run
        have h2 := J.out.und
        rw [e] at h1 h2
        exact ⟨h1, h2⟩)
      obtain ⟨al, cl, hv1, _⟩ := J.out.tr.list.form
      obtain ⟨au, cu, hvu1⟩ := ownC_form J.out.tr.und
      subst hv1 hvu1
      have fr : ∀ o, wr.frozen? ⟨w.heap.size, o, none⟩ = false := fun o => free_of J.out.tr.blk
      obtain ⟨ql, hql⟩ : ∃ ql, ql = qs.length := ⟨_, rfl⟩
      obtain ⟨ul, hul⟩ : ∃ ul, ul = us.length := ⟨_, rfl⟩
      have HQL := hid hql
      have HUL := hid hul
      rw [← hql, ← hul] at J
      rw [← hql] at d1
      rw [← hul] at d4
      clear hjn hql hul
      obtain ⟨Y, hY⟩ : ∃ Y, Y = ((((wr.setCell ⟨w.heap.size, 0, none⟩ (.int .i64 W)).setCell ⟨w.heap.size, 1, none⟩ (.slice al ql cl)).setCell ⟨w.heap.size, 2, none⟩ (.int .i64 num)).setCell ⟨w.heap.size, 3, none⟩ (.int .i64 0)).setCell ⟨w.heap.size, 4, none⟩ (.slice au ul cu) := ⟨_, rfl⟩
      have b0 := J.out.tr.blk
      have b1 := block_set (o := 0) (.int .i64 W) b0
      have b2 := block_set (o := 1) (.slice al ql cl) b1
      have b3 := block_set (o := 2) (.int .i64 num) b2
      have b4 := block_set (o := 3) (.int .i64 0) b3
      have b5 := block_set (o := 4) (.slice au ul cu) b4
      rw [← hY] at b5
      have y0 : Y.cell? ⟨w.heap.size, 0, none⟩ = some (.int .i64 W) := by rw [cell_at b5]; rfl
      have y1 : Y.cell? ⟨w.heap.size, 1, none⟩ = some (.slice al ql cl) := by rw [cell_at b5]; rfl
      have y2 : Y.cell? ⟨w.heap.size, 2, none⟩ = some (.int .i64 num) := by rw [cell_at b5]; rfl
      have y3 : Y.cell? ⟨w.heap.size, 3, none⟩ = some (.int .i64 0) := by rw [cell_at b5]; rfl
      have y4 : Y.cell? ⟨w.heap.size, 4, none⟩ = some (.slice au ul cu) := by rw [cell_at b5]; rfl
      have HFIN := hid (show TryPost w Bp W (ps.map Prod.fst) (chs cs) (.returned (tv W (.slice al ql cl) num 0 (.slice au ul cu))) Y from by
        refine ⟨by rw [hY]; exact ((((J.out.low.setCell (Nat.le_refl _) _).setCell (Nat.le_refl _) _).setCell (Nat.le_refl _) _).setCell (Nat.le_refl _) _).setCell (Nat.le_refl _) _, Or.inl ⟨_, _, qs, us, num, HFI.out.1, rfl, ?_, fun q hq => ?_, ?_, fun u hu => ?_, HFI.out.2⟩⟩
        · rw [hY]; exact ownR_store (ownR_store (ownR_store (ownR_store (ownR_store J.out.tr.list b0) b1) b2) b3) b4
        · rw [hY]; exact (((((J.out.tr.ports q hq).storeD b0).storeD b1).storeD b2).storeD b3).storeD b4
        · rw [hY]; exact ownC_store (ownC_store (ownC_store (ownC_store (ownC_store J.out.tr.und b0) b1) b2) b3) b4
        · rw [hY]; exact (((((J.out.tr.uports u hu).storeD b0).storeD b1).storeD b2).storeD b3).storeD b4)
      clear b0 b1 b2 b3 b4 b5
      go_wp2
      rw [← hY]
      refine leaves_cons (f := 50) (args := #[.pointer (some ⟨w.heap.size, 0, none⟩)]) (by simp) (by simp [go_sem]) ?_
      refine (caughtT_not _ _).mono ?_
      rintro e u' w'' ⟨rfl, rfl, rfl⟩
      refine ⟨tv W (.slice al ql cl) num 0 (.slice au ul cu), ?_, HFIN.out⟩
      simp [results, Tryz.results27, go_sem, y0, y1, y2, y3, y4]
end Go.Proofs.YtemmhingmeinjaaGreatDoor
namespace Go.Proofs.YtemmhingmeinjaaGreatDoor
open Go.RowKit

structure FTab (w : World) (Bp tb : Nat) (W : Int) (L : List Raw) : Prop where
  base : Bp ≤ tb
  ex : ∃ v ps, TabAt w Bp tb W v ps ∧ ps.map Prod.fst = L
theorem TabAt.on {w w' : World} {Bp tb : Nat} {W : Int} {v : Value} {ps : List (Raw × Value)} (h : TabAt w Bp tb W v ps) (hb : Below w.heap.size w w') : TabAt w' Bp tb W v ps :=
  ⟨below_block hb h.blk (lt_of_block h.blk), h.list.on hb, fun q hq => (h.ports q hq).on hb, h.good⟩
theorem FTab.on {w w' : World} {Bp tb : Nat} {W : Int} {L : List Raw} (h : FTab w Bp tb W L) (hb : Below w.heap.size w w') : FTab w' Bp tb W L := by
  obtain ⟨v, ps, ht, e⟩ := h.ex
  exact ⟨h.base, v, ps, ht.on hb, e⟩
theorem FTab.lt {w : World} {Bp tb : Nat} {W : Int} {L : List Raw} (h : FTab w Bp tb W L) : tb < w.heap.size := by
  obtain ⟨v, ps, ht, e⟩ := h.ex
  exact lt_of_block ht.blk
theorem FTab.good {w : World} {Bp tb : Nat} {W : Int} {L : List Raw} (h : FTab w Bp tb W L) : GoodT W L := by
  obtain ⟨v, ps, ht, rfl⟩ := h.ex
  exact ht.good

set_option maxRecDepth 4000 in
set_option maxHeartbeats 1000000 in
theorem New_good {W : Int} {w : World} (h : 1 ≤ W ∧ W ≤ 128) : Calls Tryz.prog 8 #[.int .i64 W] w fun e w' => e = .returned (.tuple #[.pointer (some ⟨w.heap.size, 0, none⟩), .int .i64 0]) ∧ Hid (FTab w' w.heap.size w.heap.size W [] ∧ Below w.heap.size w w') := by
  obtain ⟨h1, h2⟩ := h
  have a1 : ¬ W < 1 := by omega
  have a2 : ¬ 128 < W := by omega
  have HX := hid (show FTab (w.alloc (.cells #[.int .i64 W, .slice none 0 0, .pointer (some ⟨w.heap.size, 0, none⟩)] 63)) w.heap.size w.heap.size W [] ∧ Below w.heap.size w (w.alloc (.cells #[.int .i64 W, .slice none 0 0, .pointer (some ⟨w.heap.size, 0, none⟩)] 63)) from ⟨⟨Nat.le_refl _, _, [], ⟨new_0 _ _, ⟨World.ownsRow_nil _ _ _ _, fun q hq => (by cases hq)⟩, fun q hq => (by cases hq), GoodT.nil ⟨h1, h2⟩⟩, rfl⟩, (Below.refl _ _).alloc (Nat.le_refl _) _⟩)
  go_enter Tryz.func8, Tryz.ntmps8
  go_wp2
  refine bodyPost_ret (v := .tuple #[.pointer (some ⟨w.heap.size, 0, none⟩), .int .i64 0]) (by simp [results, Tryz.results8, go_sem]) rfl ⟨rfl, HX⟩
set_option maxRecDepth 4000 in
set_option maxHeartbeats 1000000 in
theorem New_bad {W : Int} {w : World} (h : ¬ (1 ≤ W ∧ W ≤ 128)) : Calls Tryz.prog 8 #[.int .i64 W] w fun e w' => e = .returned (.tuple #[.pointer none, .int .i64 1]) ∧ w' = w := by
  by_cases a1 : W < 1
  · go_enter Tryz.func8, Tryz.ntmps8
    go_wp2
    refine bodyPost_ret (v := .tuple #[.pointer none, .int .i64 1]) (by simp [results, Tryz.results8, go_sem]) rfl ⟨rfl, rfl⟩
  · have a2 : 128 < W := by omega
    go_enter Tryz.func8, Tryz.ntmps8
    go_wp2
    refine bodyPost_ret (v := .tuple #[.pointer none, .int .i64 1]) (by simp [results, Tryz.results8, go_sem]) rfl ⟨rfl, rfl⟩

theorem Tryz.infoTableF : ∃ j, Tryz.prog.info? 63 = some j := Option.isSome_iff_exists.1 (by kernel_rfl)
set_option maxRecDepth 4000 in
set_option maxHeartbeats 1000000 in
theorem made_yes {w : World} {tb : Nat} {a b : Value} (h : w.heap[tb]? = some (.cells #[a, b, .pointer (some ⟨tb, 0, none⟩)] 63 (0, 0))) : Calls Tryz.prog 18 #[.pointer (some ⟨tb, 0, none⟩)] w fun e w' => e = .returned (.bool true) ∧ w' = w := by
  have c2 : w.cell? ⟨tb, 2, none⟩ = some (.pointer (some ⟨tb, 0, none⟩)) := by rw [cell_at h]; rfl
  obtain ⟨j, hj⟩ := Tryz.infoTableF
  have hsame : (binOp .eql 23 (.pointer (some ⟨tb, 0, none⟩)) (.pointer (some ⟨tb, 0, none⟩))).run Tryz.prog w = .ok (.bool true) w := run_eql_ptr_same w _ Tryz.underlying23 hj
  clear h hj
  go_enter Tryz.func18, Tryz.ntmps18
  go_wp2
  go_ret
  exact ⟨rfl, rfl⟩
def DoTab (w : World) (Bp tb : Nat) (W : Int) (L : List Raw) (cs : List (Int × Raw)) (e : Ending) (w' : World) : Prop :=
  w.grownBy w' (some tb) ∧
  ((∃ L', runN W L cs 0 = .ok L' ∧ e = .returned (.tuple #[.int .i64 0, .int .i64 0]) ∧ FTab w' Bp tb W L') ∨
   (∃ (i : Nat) (er : Int), runN W L cs 0 = .error (i, er) ∧ er ≠ 0 ∧ e = .returned (.tuple #[.int .i64 i, .int .i64 er]) ∧ FTab w' Bp tb W L))

set_option maxRecDepth 20000 in
set_option maxHeartbeats 4000000 in
theorem Do_any {w : World} {Bp tb n cap : Nat} {ao : Option Addr} {W : Int} {L : List Raw} {cs : List (Int × Raw × Value)} (h : FTab w Bp tb W L) (hc : ChIn w ao cs) (hn : cs.length = n) (h64 : n * 64 ≤ 140737488355328) :
    Calls Tryz.prog 14 #[.pointer (some ⟨tb, 0, none⟩), .slice ao n cap] w fun e w' => DoTab w Bp tb W L (chs cs) e w' := by
  obtain ⟨v, ps, ht, rfl⟩ := h.ex
  have HT := hid ht
  have hbase := h.base
  have htb := lt_of_block ht.blk
  have HTR := hid (try_any (cap := cap) ht (Nat.le_of_lt (Nat.lt_of_le_of_lt hbase htb)) hc hn h64)
  have HMD := hid (made_yes ht.blk)
  clear ht h hc
  go_enter Tryz.func14, Tryz.ntmps14
  go_wp2_with fail
  refine HMD.out.mono ?_
  rintro en w1 ⟨rfl, hw1⟩
  have hw1' := hw1.symm
  clear hw1
  subst hw1'
  go_wp2_with fail
  refine HTR.out.mono ?_
  rintro en w2 ⟨hb2, ⟨v', vu', ps', us', num, hrun, rfl, hown, hpo, hund, _, _⟩ | ⟨i, er, hrun, h0, rfl⟩⟩
  · obtain ⟨al, cl, hv', _⟩ := hown.form
    obtain ⟨au, cu, hvu⟩ := ownC_form hund
    subst hv' hvu
    have HO := hid hown
    have HPO := hid hpo
    have HR := hid hrun
    have HB2 := hid hb2
    have hT2 := below_block hb2 HT.out.blk htb
    have HT2 := hid hT2
    have t0 : w2.cell? ⟨tb, 0, none⟩ = some (.int .i64 W) := by rw [cell_at hT2]; rfl
    have t1 : w2.cell? ⟨tb, 1, none⟩ = some v := by rw [cell_at hT2]; rfl
    have f0 : ∀ o, (w2.alloc o).frozen? ⟨tb, 0, none⟩ = false := fun o => free_of (new_old _ o hT2)
    have f1 : ∀ o, (w2.alloc o).frozen? ⟨tb, 1, none⟩ = false := fun o => free_of (new_old _ o hT2)
    have t0a : ∀ o, (w2.alloc o).cell? ⟨tb, 0, none⟩ = some (.int .i64 W) := fun o => alloc_cell t0 (lt_of_block hT2) o
    have t1a : ∀ o, (w2.alloc o).cell? ⟨tb, 1, none⟩ = some v := fun o => alloc_cell t1 (lt_of_block hT2) o
    obtain ⟨X, hX⟩ : ∃ X, X = ((w2.alloc (tob W (.slice al ps'.length cl) num 0 (.slice au us'.length cu))).setCell ⟨tb, 0, none⟩ (.int .i64 W)).setCell ⟨tb, 1, none⟩ (.slice al ps'.length cl) := ⟨_, rfl⟩
    have HFIN := hid (show DoTab w Bp tb W (ps.map Prod.fst) (chs cs) (.returned (.tuple #[.int .i64 0, .int .i64 0])) X from by
      have ha := new_old w2 (tob W (.slice al ps'.length cl) num 0 (.slice au us'.length cu)) HT2.out
      have hb1 : Below w.heap.size w (w2.alloc (tob W (.slice al ps'.length cl) num 0 (.slice au us'.length cu))) := HB2.out.alloc HB2.out.size _
      have hg : w.grownBy X (some tb) := by
        rw [hX]
        exact grown_two (grown_two ⟨hb1.os, hb1.tape, hb1.output, hb1.size, fun i hi _ => hb1.block i hi⟩ (grown_cell _ _ _ _)) (grown_cell _ _ _ _)
      refine ⟨hg, Or.inl ⟨_, HR.out, rfl, hbase, .slice al ps'.length cl, ps', ⟨?_, ?_, fun q hq => ?_, HT.out.good.run HR.out⟩, rfl⟩⟩
      · rw [hX, block_set (o := 1) _ (block_set (o := 0) _ ha)]; rfl
      · have h0 := HO.out.on ((Below.refl _ w2).alloc (Nat.le_refl _) (tob W (.slice al ps'.length cl) num 0 (.slice au us'.length cu)))
        refine ⟨⟨h0.own.1, ?_⟩, h0.vals⟩
        rcases h0.own.2 with q | ⟨g, cp, cur, e, hB', hh, r⟩
        · exact Or.inl q
        · refine Or.inr ⟨g, cp, cur, e, by omega, ?_, r⟩
          have hne : g ≠ tb := ne_type hh ha (by decide)
          rw [hX]
          exact block_other _ (block_other _ hh hne) hne
      · obtain ⟨ao', c', e1, e2, q0 | ⟨b, e3, e4, cs', e5, e6⟩⟩ := (HPO.out q hq).on ((Below.refl _ w2).alloc (Nat.le_refl _) (tob W (.slice al ps'.length cl) num 0 (.slice au us'.length cu)))
        · exact ⟨ao', c', e1, e2, Or.inl q0⟩
        · refine ⟨ao', c', e1, e2, Or.inr ⟨b, e3, e4, cs', ?_, e6⟩⟩
          have hne : b ≠ tb := ne_type e5 ha (by decide)
          rw [hX]
          exact block_other _ (block_other _ e5 hne) hne)
    clear hown hpo hund hrun hT2
    go_wp2
    rw [← hX]
    refine bodyPost_ret (v := .tuple #[.int .i64 0, .int .i64 0]) (by simp [results, Tryz.results14, go_sem]) rfl HFIN.out
  · have HFIN := hid (show ∀ o, DoTab w Bp tb W (ps.map Prod.fst) (chs cs) (.returned (.tuple #[.int .i64 i, .int .i64 er])) (w2.alloc o).drew from fun o => by
      have hb1 : Below w.heap.size w (w2.alloc o) := hb2.alloc hb2.size _
      exact ⟨⟨hb1.os, hb1.tape, hb1.output, hb1.size, fun i hi _ => hb1.block i hi⟩, Or.inr ⟨i, er, hrun, h0, rfl, hbase, v, ps, HT.out.on hb1.drew, rfl⟩⟩)
    have hne : (er != 0) = true := by rw [bne_iff_ne]; exact h0
    clear hrun hb2 h0
    go_wp2_with fail
    go_quiet (fail)
    go_wp2
    refine bodyPost_ret (v := .tuple #[.int .i64 i, .int .i64 er]) (by simp [results, Tryz.results14, go_sem]) rfl ?_
    have := HFIN.out (tob 0 (.slice none 0 0) i er (.slice none 0 0))
    exact ⟨⟨this.1.os, this.1.tape, this.1.output, this.1.size, this.1.block⟩, by
      rcases this.2 with q | ⟨i', er', h1, h2, h3, h4⟩
      · exact absurd q (by rintro ⟨L', _, q, _⟩; cases q; simp at hne)
      · exact Or.inr ⟨i', er', h1, h2, h3, h4.1, by obtain ⟨v, ps, ht, e⟩ := h4.ex; exact ⟨v, ps, ⟨ht.blk, ⟨ht.list.own, ht.list.vals⟩, ht.ports, ht.good⟩, e⟩⟩⟩
end Go.Proofs.YtemmhingmeinjaaGreatDoor
namespace Go.Proofs.YtemmhingmeinjaaGreatDoor
open Go.RowKit

structure DTab (w : World) (Q rb : Nat) (W : Int) (L : List Raw) : Prop where
  ex : ∃ v ps, w.heap[rb]? = some (.cells #[.int .i64 W, v] 39 (0, 0)) ∧ DocL w 0 Q v ps ∧ ps.map Prod.fst = L
theorem DTab.on {w w' : World} {Q rb : Nat} {W : Int} {L : List Raw} (h : DTab w Q rb W L) (hb : Below w.heap.size w w') : DTab w' Q rb W L := by
  obtain ⟨v, ps, hB, hd, e⟩ := h.ex
  exact ⟨v, ps, below_block hb hB (lt_of_block hB), hd.on hb, e⟩
theorem DTab.lt {w : World} {Q rb : Nat} {W : Int} {L : List Raw} (h : DTab w Q rb W L) : rb < w.heap.size := by
  obtain ⟨v, ps, hB, hd, e⟩ := h.ex
  exact lt_of_block hB
theorem OwnR.grew {w w' : World} {B b : Nat} {v : Value} {ps : List (Raw × Value)} {cs : Array Value} {t : TypeId} {r : Nat × Nat} (h : OwnR w B v ps) (hg : w.grownBy w' (some b)) (hb : w.heap[b]? = some (.cells cs t r)) (ht : 51 ≠ t) : OwnR w' B v ps := by
  refine ⟨⟨h.own.1, ?_⟩, h.vals⟩
  rcases h.own.2 with q | ⟨g, cp, cur, e, hB, hh, q⟩
  · exact Or.inl q
  · refine Or.inr ⟨g, cp, cur, e, hB, ?_, q⟩
    rw [hg.block g (lt_of_block hh) (fun e => by injection e with e; exact ne_type hh hb ht e)]
    exact hh
theorem Ported.grewB {w w' : World} {B b : Nat} {v : Value} {zs : List (List UInt8)} {cs : Array Value} {t : TypeId} {r : Nat × Nat} (h : Ported w B v zs) (hg : w.grownBy w' (some b)) (hb : w.heap[b]? = some (.cells cs t r)) (ht : 9 ≠ t) : Ported w' B v zs := by
  obtain ⟨ao, cap, e1, e2, q | ⟨g, e3, e4, cs', e5, e6⟩⟩ := h
  · exact ⟨ao, cap, e1, e2, Or.inl q⟩
  · refine ⟨ao, cap, e1, e2, Or.inr ⟨g, e3, e4, cs', ?_, e6⟩⟩
    rw [hg.block g (lt_of_block e5) (fun e => by injection e with e; exact ne_type e5 hb ht e)]
    exact e5
theorem FTab.grew {w w' : World} {Bp tb b : Nat} {W : Int} {L : List Raw} {cs : Array Value} {r : Nat × Nat} (h : FTab w Bp tb W L) (hg : w.grownBy w' (some b)) (hb : w.heap[b]? = some (.cells cs 39 r)) : FTab w' Bp tb W L := by
  obtain ⟨v, ps, ht, e⟩ := h.ex
  refine ⟨h.base, v, ps, ⟨?_, ht.list.grew hg hb (by decide), fun q hq => (ht.ports q hq).grewB hg hb (by decide), ht.good⟩, e⟩
  rw [hg.block tb (lt_of_block ht.blk) (fun e => by injection e with e; exact ne_type ht.blk hb (by decide) e)]
  exact ht.blk
theorem DTab.grew {w w' : World} {Q rb b : Nat} {W : Int} {L : List Raw} {cs : Array Value} {r : Nat × Nat} (h : DTab w Q rb W L) (hg : w.grownBy w' (some b)) (hb : w.heap[b]? = some (.cells cs 63 r)) : DTab w' Q rb W L := by
  obtain ⟨v, ps, hB, hd, e⟩ := h.ex
  refine ⟨v, ps, ?_, ⟨hd.own.grew hg hb (by decide), fun q hq => ⟨(hd.prt q hq).1.grewB hg hb (by decide), (hd.prt q hq).2⟩⟩, e⟩
  rw [hg.block rb (lt_of_block hB) (fun e => by injection e with e; exact ne_type hB hb (by decide) e)]
  exact hB
theorem FTab.blk {w : World} {Bp tb : Nat} {W : Int} {L : List Raw} (h : FTab w Bp tb W L) : ∃ cs, w.heap[tb]? = some (.cells cs 63 (0, 0)) := by
  obtain ⟨v, ps, ht, e⟩ := h.ex
  exact ⟨_, ht.blk⟩
theorem DTab.blk {w : World} {Q rb : Nat} {W : Int} {L : List Raw} (h : DTab w Q rb W L) : ∃ cs, w.heap[rb]? = some (.cells cs 39 (0, 0)) := by
  obtain ⟨v, ps, hB, hd, e⟩ := h.ex
  exact ⟨_, hB⟩

set_option maxRecDepth 4000 in
set_option maxHeartbeats 1000000 in
theorem RNew_good {W : Int} {w : World} {Q : Nat} (h : 1 ≤ W ∧ W ≤ 128) : Calls Tryz.prog 13 #[.int .i64 W] w fun e w' => e = .returned (.tuple #[.pointer (some ⟨w.heap.size, 0, none⟩), .int .i64 0]) ∧ Hid (DTab w' Q w.heap.size W [] ∧ Below w.heap.size w w') := by
  obtain ⟨h1, h2⟩ := h
  have a1 : ¬ W < 1 := by omega
  have a2 : ¬ 128 < W := by omega
  have HX := hid (show DTab (w.alloc (.cells #[.int .i64 W, .slice none 0 0] 39)) Q w.heap.size W [] ∧ Below w.heap.size w (w.alloc (.cells #[.int .i64 W, .slice none 0 0] 39)) from ⟨⟨_, [], new_0 _ _, ⟨⟨World.ownsRow_nil _ _ _ _, fun q hq => (by cases hq)⟩, fun q hq => (by cases hq)⟩, rfl⟩, (Below.refl _ _).alloc (Nat.le_refl _) _⟩)
  go_enter Tryz.func13, Tryz.ntmps13
  go_wp2
  refine bodyPost_ret (v := .tuple #[.pointer (some ⟨w.heap.size, 0, none⟩), .int .i64 0]) (by simp [results, Tryz.results13, go_sem]) rfl ⟨rfl, HX⟩
set_option maxRecDepth 4000 in
set_option maxHeartbeats 1000000 in
theorem RNew_bad {W : Int} {w : World} (h : ¬ (1 ≤ W ∧ W ≤ 128)) : Calls Tryz.prog 13 #[.int .i64 W] w fun e w' => e = .returned (.tuple #[.pointer none, .int .i64 1]) ∧ w' = w := by
  by_cases a1 : W < 1
  · go_enter Tryz.func13, Tryz.ntmps13
    go_wp2
    refine bodyPost_ret (v := .tuple #[.pointer none, .int .i64 1]) (by simp [results, Tryz.results13, go_sem]) rfl ⟨rfl, rfl⟩
  · have a2 : 128 < W := by omega
    go_enter Tryz.func13, Tryz.ntmps13
    go_wp2
    refine bodyPost_ret (v := .tuple #[.pointer none, .int .i64 1]) (by simp [results, Tryz.results13, go_sem]) rfl ⟨rfl, rfl⟩

theorem DocL.mono {w : World} {B B' Q : Nat} {v : Value} {ps : List (Raw × Value)} (h : DocL w B Q v ps) (hB : B' ≤ B) : DocL w B' Q v ps := ⟨⟨own_mono h.own.own hB, h.own.vals⟩, h.prt⟩
theorem RAfter_any {w : World} {B Q n c : Nat} {ao : Option Addr} {ps : List (Raw × Value)} {W kd p k : Int} {m : List UInt8} {u : Option Addr} {un uc : Nat} {zs : List (List UInt8)} {L' : List Raw} (hd : DocL w B Q (.slice ao n c) ps) (hQ : Q ≤ w.heap.size) (hn : ps.length = n) (hg : GoodT W (ps.map Prod.fst)) (ht : Txs w (.slice u un uc) zs) (hs : Small m zs) (hst : stepN W (ps.map Prod.fst) kd ⟨p, m, k, zs⟩ = .ok L') :
    Calls Tryz.prog 29 #[.slice ao n c, .agg #[.int .i64 kd, .int .i64 p, .string (tx m), .int .i64 k, .slice u un uc]] w fun e w' => ∃ bo bn bc qs, e = .returned (.slice bo bn bc) ∧ Hid (DocL w' 0 Q (.slice bo bn bc) qs ∧ qs.length = bn ∧ qs.map Prod.fst = L' ∧ Below w.heap.size w w') := by
  have hzl : ∀ z ∈ zs, z.length ≤ maxLen := fun z hz => by have := hs.2.2 z hz; unfold maxLen; omega
  have hfew := hg.few
  rw [List.length_map, hn] at hfew
  have hthere : ∀ (hk : ((ps.map Prod.fst).any fun a => keyB a ⟨p, m, k, zs⟩) = true), ∃ (j : Nat) (a : Raw), (ps.map Prod.fst)[j]? = some a ∧ keyB a ⟨p, m, k, zs⟩ = true := fun hk => by
    obtain ⟨a, ha, hka⟩ := List.any_eq_true.1 hk
    obtain ⟨j, hj⟩ := List.getElem?_of_mem ha
    exact ⟨j, a, hj, hka⟩
  unfold stepN at hst
  split at hst
  · rename_i h1
    subst h1
    split at hst
    · split at hst
      · cases hst
      · rename_i hno
        split at hst
        · cases hst
        · rename_i hl
          injection hst with e
          subst e
          rw [List.length_map, hn] at hl
          refine (RAfterI hd hQ hn (by omega) ht hs.2.1 hzl hg.srt (by simpa using hno)).mono ?_
          rintro en w' ⟨bo, bc, qs, rfl, h⟩
          refine ⟨bo, n + 1, bc, qs, rfl, h.out.1.mono (Nat.zero_le _), ?_, h.out.2.1, h.out.2.2⟩
          have := congrArg List.length h.out.2.1
          rw [List.length_map, putR_len, List.length_map, hn] at this
          exact this
    · cases hst
  · split at hst
    · rename_i h2
      subst h2
      split at hst
      · split at hst
        · rename_i hk
          injection hst with e
          subst e
          obtain ⟨j, a, hj, hka⟩ := hthere hk
          refine (RAfterD hd hn hfew hg.srt hj hka).mono ?_
          rintro en w' ⟨bo, bn, bc, qs, rfl, h⟩
          exact ⟨bo, bn, bc, qs, rfl, h.out.1.mono (Nat.zero_le _), h.out.2.1, h.out.2.2.1, h.out.2.2.2⟩
        · cases hst
      · cases hst
    · split at hst
      · rename_i h3
        subst h3
        split at hst
        · split at hst
          · rename_i hk
            injection hst with e
            subst e
            obtain ⟨j, a, hj, hka⟩ := hthere hk
            refine (RAfterM hd hQ hn hfew ht hs.2.1 hzl hg.srt hj hka).mono ?_
            rintro en w' ⟨bo, bc, qs, rfl, h⟩
            exact ⟨bo, n, bc, qs, rfl, h.out.1.mono (Nat.zero_le _), h.out.2.1, h.out.2.2.1, h.out.2.2.2⟩
          · cases hst
        · cases hst
      · cases hst
theorem DTab.low {w : World} {Q rb : Nat} {W : Int} {L : List Raw} (h : DTab w Q rb W L) : DTab w 0 rb W L := by
  obtain ⟨v, ps, hB, hd, e⟩ := h.ex
  exact ⟨v, ps, hB, ⟨hd.own, fun q hq => ⟨(hd.prt q hq).1.mono (Nat.zero_le _), (hd.prt q hq).2⟩⟩, e⟩
end Go.Proofs.YtemmhingmeinjaaGreatDoor
