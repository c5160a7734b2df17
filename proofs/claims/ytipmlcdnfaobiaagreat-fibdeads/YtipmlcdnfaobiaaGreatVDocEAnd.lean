/-
  awake: two rules that are known.
  The document's Do.
  The document's table: New; After of any change that may be; what stays when another block is written.
  The document's After, of a rule that is modified: the walk.
  The document's After, of a rule that is taken away: the walk.
-/
import Derived.Test.YtipmlcdnfaobiaaGreatVDeadMAnd
import Derived.BigQuiet
import Derived.Test.YtipmlcdnfaobiaaGreatVTryAAnd
import Derived.Deep.RegionHeld2
namespace Go.Proofs.YtipmlcdnfaobiaaGreat
open Go.RowKit

set_option maxRecDepth 20000 in
set_option maxHeartbeats 4000000 in
theorem RAfterD {w : World} {B Q n c j0 : Nat} {ao : Option Addr} {ps : List (Raw × Value)} {p k : Int} {m : List UInt8} {u : Option Addr} {un uc : Nat} {zs : List (List UInt8)} {a : Raw} (hd : DocL w B Q (.slice ao n c) ps) (hn : ps.length = n) (h60 : n ≤ 4096) (hs : Srt (ps.map Prod.fst)) (hj : (ps.map Prod.fst)[j0]? = some a) (hk : keyB a ⟨p, m, k, zs⟩ = true) :
    Calls Tryz.prog 35 #[.slice ao n c, .agg #[.int .i64 2, .int .i64 p, .string (tx m), .int .i64 k, .slice u un uc]] w fun e w' => ∃ bo bn bc qs, e = .returned (.slice bo bn bc) ∧ Hid (DocL w' w.heap.size Q (.slice bo bn bc) qs ∧ qs.length = bn ∧ qs.map Prod.fst = rmR (ps.map Prod.fst) ⟨p, m, k, zs⟩ ∧ Below w.heap.size w w') := by
  have HD := hid hd
  have HN := hid hn
  have HKEY := hid (show ∀ i q, ps[i]? = some q → (keyB q.1 ⟨p, m, k, zs⟩ = true ↔ i = j0) from fun i q hq => by
    have hq1 : (ps.map Prod.fst)[i]? = some q.1 := by rw [List.getElem?_map, hq]; rfl
    obtain ⟨o1, o2⟩ := hs.others hj hk
    constructor
    · intro hkq
      rcases Nat.lt_trichotomy i j0 with h | h | h
      · have := o1 q.1 (List.mem_take_iff_getElem.2 ⟨i, by have := (List.getElem?_eq_some_iff.1 hq1).1; omega, (List.getElem?_eq_some_iff.1 hq1).2⟩)
        rw [this] at hkq; cases hkq
      · exact h
      · have := o2 q.1 (List.mem_of_getElem? (i := i - (j0 + 1)) (by rw [List.getElem?_drop, show j0 + 1 + (i - (j0 + 1)) = i by omega]; exact hq1))
        rw [this] at hkq; cases hkq
    · rintro rfl
      rw [hj] at hq1
      injection hq1 with e
      rw [← e]; exact hk)
  have HAT := hid (show atN (ps.map Prod.fst) ⟨p, m, k, zs⟩ = (j0 : Int) from atN_at hj hk (hs.others hj hk).1)
  have hjn : j0 < n := by have := (List.getElem?_eq_some_iff.1 hj).1; rw [List.length_map, hn] at this; exact this
  obtain ⟨i0, hi, hz0, hz1, hz2⟩ := info_parts Tryz.infoRule4
  have HI := hid hi
  have HZ0 := hid hz0
  have HZ1 := hid hz1
  have HZ2 := hid hz2
  obtain ⟨g, rfl⟩ : ∃ g, ao = some ⟨g, 0, none⟩ := by
    obtain ⟨lo, lc, e, _, hf⟩ := HD.out.own.form
    injection e with e1 _ _
    subst e1
    rcases hf with ⟨_, h0⟩ | ⟨g, h1, _⟩
    · rw [h0] at hn; simp at hn; omega
    · exact ⟨g, h1⟩
  have HB1 := hid (show Below w.heap.size w (w.alloc (cob5 2 p m k (.slice u un uc))) from (Below.refl _ _).alloc (Nat.le_refl _) _)
  have HC1 := hid (new_0 w (cob5 2 p m k (.slice u un uc)))
  have HRA := hid (Rat_any (HD.out.own.on HB1.out) HN.out h60 p k m u un uc zs)
  rw [HAT.out] at HRA
  have q0 := cell_at (o := 0) HC1.out
  have q1 := cell_at (o := 1) HC1.out
  have q2 := cell_at (o := 2) HC1.out
  have q3 := cell_at (o := 3) HC1.out
  have q4 := cell_at (o := 4) HC1.out
  simp at q0 q1 q2 q3 q4
  clear hd hn hs hj hk hi hz0 hz1 hz2
  go_enter Tryz.func35, Tryz.ntmps35
  go_wp2_with fail
  refine HRA.out.mono ?_
  rintro en w2 ⟨rfl, hb2⟩
  have HA0 := hid (show AftAt w Q 2 p m k (.slice u un uc) (.slice none 0 0) [] w2 from ⟨HB1.out.trans (hb2.mono HB1.out.size), ⟨⟨World.ownsRow_nil _ _ _ _, fun q hq => by cases hq⟩, fun q hq => by cases hq⟩, below_block hb2 HC1.out (lt_of_block HC1.out)⟩)
  clear hb2 q0 q1 q2 q3 q4
  go_wp2_with fail
  go_loopw [5, 7] (fun vo vi wr => ∃ (i : Nat) (bo : Option Addr) (bn bc : Nat) (qs : List (Raw × Value)), i ≤ n ∧ vi = .int .i64 i ∧ vo = .slice bo bn bc ∧ bn ≤ i ∧ Hid (AftAt w Q 2 p m k (.slice u un uc) (.slice bo bn bc) qs wr) ∧ Hid (qs.length = bn) ∧ Hid (qs = (ps.take i).filter fun q => !keyB q.1 ⟨p, m, k, zs⟩)) (fun _ vi _ => n - (intOf vi).toNat)
  case atStart => exact ⟨0, none, 0, 0, [], Nat.zero_le _, rfl, rfl, Nat.le_refl _, HA0, rfl, rfl⟩
  case round =>
    obtain ⟨i, bo, bn, bc, qs, hi, rfl, rfl, hbn, HA, HL, HE⟩ := hrel
    rename World => wo
    by_cases hlt : i < n
    · obtain ⟨q, hq⟩ : ∃ q, ps[i]? = some q := ⟨ps[i]'(by rw [HN.out]; exact hlt), List.getElem?_eq_getElem _⟩
      have hI : (i : Int) < (n : Int) := by omega
      have hI0 : (0 : Int) ≤ (i : Int) := by omega
      have HQ := hid hq
      have HK := hid (HKEY.out i q hq)
      obtain ⟨e0, e1, e2, e3⟩ := (HD.out.own.on HA.out.low).cells hq
      have HPQ := hid (((HD.out.on HA.out.low).prt q (List.mem_of_getElem? hq)))
      obtain ⟨⟨pp, mm, kk, zz⟩, uv⟩ := q
      obtain ⟨ao1, c1, hq2, _⟩ := HPQ.out.1
      simp only at e0 e1 e2 e3 hq2 HK HPQ
      obtain ⟨an, han⟩ : ∃ an, an = zz.length := ⟨_, rfl⟩
      rw [← han] at hq2
      subst hq2
      have hcc : ∀ o, (wo.alloc o).cell? ⟨w.heap.size, 0, none⟩ = some (.int .i64 2) := fun o => by rw [cell_at (new_old _ o HA.out.blk)]; rfl
      clear hq han
      by_cases hij : i = j0
      · subst hij
        have HE2 := hid (show qs = (ps.take (i + 1)).filter fun q => !keyB q.1 ⟨p, m, k, zs⟩ by
          rw [filter_next HQ.out, ← HE.out]
          simp [HK.out.2 rfl])
        have HA2 := hid (fun o => HA.out.on (show Below wo.heap.size wo (wo.alloc o) from (Below.refl _ _).alloc (Nat.le_refl _) _))
        go_wp2
        go_roundw
        case rel => exact ⟨i + 1, bo, bn, bc, qs, by omega, by go_num, rfl, by omega, HA2.out _, HL, HE2⟩
        case measure => simp [intOf]; omega
      · have b1 : ((i : Int) == (j0 : Int)) = false := by rw [beq_eq_false_iff_ne]; omega
        have HE2 := hid (show qs ++ [((⟨pp, mm, kk, zz⟩ : Raw), Value.slice ao1 an c1)] = (ps.take (i + 1)).filter fun q => !keyB q.1 ⟨p, m, k, zs⟩ by
          rw [filter_next HQ.out, ← HE.out]
          have : keyB ⟨pp, mm, kk, zz⟩ ⟨p, m, k, zs⟩ = false := by
            cases h : keyB ⟨pp, mm, kk, zz⟩ ⟨p, m, k, zs⟩ with
            | false => rfl
            | true => exact absurd (HK.out.1 h) hij
          simp [this])
        obtain ⟨W2, hW2⟩ : ∃ W2, W2 = (wo.alloc (rob pp (tx mm) kk (.slice ao1 an c1))).alloc (rob pp (tx mm) kk (.slice ao1 an c1)) := ⟨_, rfl⟩
        have HBW := hid (show Below wo.heap.size wo W2 by rw [hW2]; exact ((Below.refl _ _).alloc (Nat.le_refl _) _).alloc (by simp) _)
        have HSZ := hid (show w.heap.size ≤ W2.heap.size from Nat.le_trans HA.out.low.size HBW.out.size)
        have HOW := hid (show W2.ownsRow w.heap.size 44 4 (.slice bo bn bc) bn (flatV qs) by have := (HA.out.doc.own.on HBW.out).own; rw [HL.out] at this; exact this)
        have HS4 := hid (show ∃ ad c, (.slice (some ⟨wo.heap.size + 1, 0, none⟩) 1 1 : Value) = .slice (some ad) 1 c ∧ ([.int .i64 pp, .string (tx mm), .int .i64 kk, .slice ao1 an c1] : List Value).length = 1 * 4 ∧ ∀ t u, ([.int .i64 pp, .string (tx mm), .int .i64 kk, .slice ao1 an c1] : List Value)[t]? = some u → W2.cell? (ad.add t) = some u from ⟨⟨wo.heap.size + 1, 0, none⟩, 1, rfl, rfl, fun t u hu => by
          have hnew := new_0 (wo.alloc (rob pp (tx mm) kk (.slice ao1 an c1))) (rob pp (tx mm) kk (.slice ao1 an c1))
          rw [show (wo.alloc (rob pp (tx mm) kk (.slice ao1 an c1))).heap.size = wo.heap.size + 1 by simp, ← hW2] at hnew
          rw [addr_add5, Nat.zero_add, cell_at hnew, ← Array.getElem?_toList]
          exact hu⟩)
        have HO1' := hid (show ∀ u ∈ ([.int .i64 pp, .string (tx mm), .int .i64 kk, .slice ao1 an c1] : List Value), u.oneCell' = true from fun u hu => by
          simp only [List.mem_cons, List.not_mem_nil, or_false] at hu
          rcases hu with rfl | rfl | rfl | rfl <;> rfl)
        have HNX := hid (show ∀ (v7 : Value) (w7 : World), w7.ownsRow w.heap.size 44 4 v7 (bn + 1) (flatV qs ++ [.int .i64 pp, .string (tx mm), .int .i64 kk, .slice ao1 an c1]) → W2.grownBy w7 (Value.slice bo bn bc).ownBlock → ∃ a7 c7, v7 = .slice a7 (bn + 1) c7 ∧ AftAt w Q 2 p m k (.slice u un uc) (.slice a7 (bn + 1) c7) (qs ++ [((⟨pp, mm, kk, zz⟩ : Raw), Value.slice ao1 an c1)]) w7 from fun v7 w7 ho hg => by
          obtain ⟨a7, c7, e⟩ := own_form ho
          subst e
          exact ⟨a7, c7, rfl, HA.out.next (r := ⟨pp, mm, kk, zz⟩) HBW.out (HPQ.out.1.on HBW.out) HPQ.out.2 ho hg HL.out⟩)
        have HL2 := hid (show (qs ++ [((⟨pp, mm, kk, zz⟩ : Raw), Value.slice ao1 an c1)]).length = bn + 1 by rw [List.length_append, HL.out]; rfl)
        subst hW2
        clear hij
        go_wp2_with (at_builtin; refine wpList_append_srcC _ rfl _ _ 29 rfl w.heap.size 44 i0 _ 4 56 Tryz.underlying29 HI.out HZ0.out HZ1.out HZ2.out rfl (by decide) (.slice bo bn bc) bn (flatV qs) rfl HOW.out _ 1 [.int .i64 pp, .string (tx mm), .int .i64 kk, .slice ao1 an c1] rfl (Or.inr HS4.out) HO1'.out (by unfold maxLen; omega) (by omega) HSZ.out ?_; intro v7 w7 hown7 hg7; obtain ⟨a7, c7, hv7, hA7⟩ := HNX.out v7 w7 hown7 hg7; subst hv7; have HA7 := hid hA7; clear hown7 hg7 hA7)
        go_roundw
        case rel => exact ⟨i + 1, a7, bn + 1, c7, _, by omega, by go_num, rfl, by omega, HA7, HL2, HE2⟩
        case measure => simp [intOf]; omega
    · have hI : ¬ ((i : Int) < (n : Int)) := by omega
      have HEND := hid (show DocL wo w.heap.size Q (.slice bo bn bc) qs ∧ qs.length = bn ∧ qs.map Prod.fst = rmR (ps.map Prod.fst) ⟨p, m, k, zs⟩ ∧ Below w.heap.size w wo from ⟨HA.out.doc, HL.out, by
        rw [HE.out, List.take_of_length_le (by rw [HN.out]; omega)]
        unfold rmR
        rw [List.filter_map]
        rfl, HA.out.low⟩)
      go_wp2
      go_ret
      exact ⟨_, _, _, rfl, _, HEND.out⟩
end Go.Proofs.YtipmlcdnfaobiaaGreat
namespace Go.Proofs.YtipmlcdnfaobiaaGreat
open Go.RowKit

theorem rv_act (p k : Int) (m : List UInt8) (a : Option Addr) (n c : Nat) (w : World) : (Instr.field 44 (.agg #[.int .i64 p, .string (tx m), .int .i64 k, .slice a n c]) 2).run Tryz.prog w = .ok (.agg #[.int .i64 k, .slice a n c]) w := by kernel_rfl

set_option maxRecDepth 20000 in
set_option maxHeartbeats 4000000 in
theorem RAfterM {w : World} {B Q n c j0 : Nat} {ao : Option Addr} {ps : List (Raw × Value)} {p k : Int} {m : List UInt8} {u : Option Addr} {un uc : Nat} {zs : List (List UInt8)} {a : Raw} (hd : DocL w B Q (.slice ao n c) ps) (hQ : Q ≤ w.heap.size) (hn : ps.length = n) (h60 : n ≤ 4096) (ht : Txs w (.slice u un uc) zs) (hz : zs.length * 16 ≤ 140737488355328) (hzl : ∀ z ∈ zs, z.length ≤ maxLen) (hs : Srt (ps.map Prod.fst)) (hj : (ps.map Prod.fst)[j0]? = some a) (hk : keyB a ⟨p, m, k, zs⟩ = true) :
    Calls Tryz.prog 35 #[.slice ao n c, .agg #[.int .i64 3, .int .i64 p, .string (tx m), .int .i64 k, .slice u un uc]] w fun e w' => ∃ bo bc qs, e = .returned (.slice bo n bc) ∧ Hid (DocL w' w.heap.size Q (.slice bo n bc) qs ∧ qs.length = n ∧ qs.map Prod.fst = mdR (ps.map Prod.fst) ⟨p, m, k, zs⟩ ∧ Below w.heap.size w w') := by
  have HD := hid hd
  have HN := hid hn
  have HT := hid ht
  have HZ := hid hz
  have HZL := hid hzl
  have HKEY := hid (show ∀ i q, ps[i]? = some q → (keyB q.1 ⟨p, m, k, zs⟩ = true ↔ i = j0) from fun i q hq => by
    have hq1 : (ps.map Prod.fst)[i]? = some q.1 := by rw [List.getElem?_map, hq]; rfl
    obtain ⟨o1, o2⟩ := hs.others hj hk
    constructor
    · intro hkq
      rcases Nat.lt_trichotomy i j0 with h | h | h
      · have := o1 q.1 (List.mem_take_iff_getElem.2 ⟨i, by have := (List.getElem?_eq_some_iff.1 hq1).1; omega, (List.getElem?_eq_some_iff.1 hq1).2⟩)
        rw [this] at hkq; cases hkq
      · exact h
      · have := o2 q.1 (List.mem_of_getElem? (i := i - (j0 + 1)) (by rw [List.getElem?_drop, show j0 + 1 + (i - (j0 + 1)) = i by omega]; exact hq1))
        rw [this] at hkq; cases hkq
    · rintro rfl
      rw [hj] at hq1
      injection hq1 with e
      rw [← e]; exact hk)
  have HAT := hid (show atN (ps.map Prod.fst) ⟨p, m, k, zs⟩ = (j0 : Int) from atN_at hj hk (hs.others hj hk).1)
  have hjn : j0 < n := by have := (List.getElem?_eq_some_iff.1 hj).1; rw [List.length_map, hn] at this; exact this
  obtain ⟨i0, hi, hz0, hz1, hz2⟩ := info_parts Tryz.infoRule4
  have HI := hid hi
  have HZ0 := hid hz0
  have HZ1 := hid hz1
  have HZ2 := hid hz2
  obtain ⟨g, rfl⟩ : ∃ g, ao = some ⟨g, 0, none⟩ := by
    obtain ⟨lo, lc, e, _, hf⟩ := HD.out.own.form
    injection e with e1 _ _
    subst e1
    rcases hf with ⟨_, h0⟩ | ⟨g, h1, _⟩
    · rw [h0] at hn; simp at hn; omega
    · exact ⟨g, h1⟩
  have HB1 := hid (show Below w.heap.size w (w.alloc (cob5 3 p m k (.slice u un uc))) from (Below.refl _ _).alloc (Nat.le_refl _) _)
  have HC1 := hid (new_0 w (cob5 3 p m k (.slice u un uc)))
  have HRA := hid (Rat_any (HD.out.own.on HB1.out) HN.out h60 p k m u un uc zs)
  rw [HAT.out] at HRA
  have q0 := cell_at (o := 0) HC1.out
  have q1 := cell_at (o := 1) HC1.out
  have q2 := cell_at (o := 2) HC1.out
  have q3 := cell_at (o := 3) HC1.out
  have q4 := cell_at (o := 4) HC1.out
  simp at q0 q1 q2 q3 q4
  have hfl := rv_act
  clear hd hn hs hj hk hi ht hz hzl hz0 hz1 hz2
  go_enter Tryz.func35, Tryz.ntmps35
  go_wp2_with fail
  refine HRA.out.mono ?_
  rintro en w2 ⟨rfl, hb2⟩
  have HA0 := hid (show AftAt w Q 3 p m k (.slice u un uc) (.slice none 0 0) [] w2 from ⟨HB1.out.trans (hb2.mono HB1.out.size), ⟨⟨World.ownsRow_nil _ _ _ _, fun q hq => by cases hq⟩, fun q hq => by cases hq⟩, below_block hb2 HC1.out (lt_of_block HC1.out)⟩)
  clear hb2 q0 q1 q2 q3 q4
  go_wp2_with fail
  go_loopw [5, 7] (fun vo vi wr => ∃ (i : Nat) (bo : Option Addr) (bc : Nat) (qs : List (Raw × Value)), i ≤ n ∧ vi = .int .i64 i ∧ vo = .slice bo i bc ∧ Hid (AftAt w Q 3 p m k (.slice u un uc) (.slice bo i bc) qs wr) ∧ Hid (qs.length = i) ∧ Hid (qs.map Prod.fst = mdR ((ps.take i).map Prod.fst) ⟨p, m, k, zs⟩)) (fun _ vi _ => n - (intOf vi).toNat)
  case atStart => exact ⟨0, none, 0, [], Nat.zero_le _, rfl, rfl, HA0, rfl, rfl⟩
  case round =>
    obtain ⟨i, bo, bc, qs, hi, rfl, rfl, HA, HL, HE⟩ := hrel
    rename World => wo
    by_cases hlt : i < n
    · obtain ⟨q, hq⟩ : ∃ q, ps[i]? = some q := ⟨ps[i]'(by rw [HN.out]; exact hlt), List.getElem?_eq_getElem _⟩
      have hI : (i : Int) < (n : Int) := by omega
      have hI0 : (0 : Int) ≤ (i : Int) := by omega
      have HQ := hid hq
      have HK := hid (HKEY.out i q hq)
      obtain ⟨e0, e1, e2, e3⟩ := (HD.out.own.on HA.out.low).cells hq
      have HPQ := hid (((HD.out.on HA.out.low).prt q (List.mem_of_getElem? hq)))
      obtain ⟨⟨pp, mm, kk, zz⟩, uv⟩ := q
      obtain ⟨ao1, c1, hq2, _⟩ := HPQ.out.1
      simp only at e0 e1 e2 e3 hq2 HK HPQ
      obtain ⟨an, han⟩ : ∃ an, an = zz.length := ⟨_, rfl⟩
      rw [← han] at hq2
      subst hq2
      have hcc : ∀ o, (wo.alloc o).cell? ⟨w.heap.size, 0, none⟩ = some (.int .i64 3) := fun o => by rw [cell_at (new_old _ o HA.out.blk)]; rfl
      have hc1 : ∀ o, (wo.alloc o).cell? ⟨w.heap.size, 1, none⟩ = some (.int .i64 p) := fun o => by rw [cell_at (new_old _ o HA.out.blk)]; rfl
      have hc2 : ∀ o, (wo.alloc o).cell? ⟨w.heap.size, 2, none⟩ = some (.string (tx m)) := fun o => by rw [cell_at (new_old _ o HA.out.blk)]; rfl
      have hc3 : ∀ o, (wo.alloc o).cell? ⟨w.heap.size, 3, none⟩ = some (.int .i64 k) := fun o => by rw [cell_at (new_old _ o HA.out.blk)]; rfl
      have hc4 : ∀ o, (wo.alloc o).cell? ⟨w.heap.size, 4, none⟩ = some (.slice u un uc) := fun o => by rw [cell_at (new_old _ o HA.out.blk)]; rfl
      have HTKM := hid (show (ps.take (i + 1)).map Prod.fst = (ps.take i).map Prod.fst ++ [(⟨pp, mm, kk, zz⟩ : Raw)] by rw [List.take_add_one, HQ.out]; simp)
      clear hq han
      by_cases hij : i = j0
      · subst hij
        have HKT := hid (keyB_iff.1 (HK.out.2 rfl))
        obtain ⟨W1, hW1⟩ : ∃ W1, W1 = wo.alloc (rob pp (tx mm) kk (.slice ao1 an c1)) := ⟨_, rfl⟩
        have HB1' := hid (show Below wo.heap.size wo W1 by rw [hW1]; exact (Below.refl _ _).alloc (Nat.le_refl _) _)
        have HR1 := hid (show W1.heap[wo.heap.size]? = some (rob pp (tx mm) kk (.slice ao1 an c1)) by rw [hW1]; exact new_0 _ _)
        have HCP := hid (RCopy_any (w := W1) (p := p) (k := k) (m := m) (HT.out.below (HA.out.low.trans (HB1'.out.mono HA.out.low.size))) HZ.out)
        subst hW1
        go_wp2_with fail
        refine HCP.out.mono ?_
        rintro en w3 ⟨a3, n3, c3, rfl, hp3, hb3⟩
        have HP3 := hid hp3.out
        have HB3 := hid (below_2 HB1'.out hb3)
        have hR3 := below_block hb3 HR1.out (lt_of_block HR1.out)
        have HR3 := hid hR3
        clear hb3 hp3
        obtain ⟨x0, x1, x2, x3, y0, y1, y2, y3⟩ := rob_cells hR3
        have B4 := rob_4 (rob_3 hR3 k) (.slice a3 n3 c3)
        obtain ⟨z0, z1, z2, z3, _, _, _, _⟩ := rob_cells B4
        obtain ⟨W2, hW2⟩ : ∃ W2, W2 = ((w3.setCell ⟨wo.heap.size, 2, none⟩ (.int .i64 k)).setCell ⟨wo.heap.size, 3, none⟩ (.slice a3 n3 c3)).alloc (rob pp (tx mm) k (.slice a3 n3 c3)) := ⟨_, rfl⟩
        have HSB := hid (show Below wo.heap.size wo ((w3.setCell ⟨wo.heap.size, 2, none⟩ (.int .i64 k)).setCell ⟨wo.heap.size, 3, none⟩ (.slice a3 n3 c3)) from (HB3.out.setCell (p := ⟨wo.heap.size, 2, none⟩) (Nat.le_refl _) (.int .i64 k)).setCell (p := ⟨wo.heap.size, 3, none⟩) (Nat.le_refl _) (.slice a3 n3 c3))
        have HBW := hid (show Below wo.heap.size wo W2 by rw [hW2]; exact HSB.out.alloc HSB.out.size _)
        have HPW := hid (show Ported W2 Q (.slice a3 n3 c3) zs by
          rw [hW2]
          exact (((HP3.out.store (k := 2) (u := .int .i64 k) hR3).store (k := 3) (u := .slice a3 n3 c3) (rob_3 hR3 k)).on ((Below.refl _ _).alloc (Nat.le_refl _) _)).mono (Nat.le_trans hQ (Nat.le_trans HA.out.low.size HB1'.out.size)))
        have HSZ := hid (show w.heap.size ≤ W2.heap.size from Nat.le_trans HA.out.low.size HBW.out.size)
        have HOW := hid (show W2.ownsRow w.heap.size 44 4 (.slice bo i bc) i (flatV qs) by have := (HA.out.doc.own.on HBW.out).own; rw [HL.out] at this; exact this)
        have HN3 := hid (show ((w3.setCell ⟨wo.heap.size, 2, none⟩ (.int .i64 k)).setCell ⟨wo.heap.size, 3, none⟩ (.slice a3 n3 c3)).heap.size = w3.heap.size by simp)
        have HS4 := hid (show ∃ ad c, (.slice (some ⟨w3.heap.size, 0, none⟩) 1 1 : Value) = .slice (some ad) 1 c ∧ ([.int .i64 pp, .string (tx mm), .int .i64 k, .slice a3 n3 c3] : List Value).length = 1 * 4 ∧ ∀ t u, ([.int .i64 pp, .string (tx mm), .int .i64 k, .slice a3 n3 c3] : List Value)[t]? = some u → W2.cell? (ad.add t) = some u from ⟨⟨w3.heap.size, 0, none⟩, 1, rfl, rfl, fun t u hu => by
          have hnew := new_0 ((w3.setCell ⟨wo.heap.size, 2, none⟩ (.int .i64 k)).setCell ⟨wo.heap.size, 3, none⟩ (.slice a3 n3 c3)) (rob pp (tx mm) k (.slice a3 n3 c3))
          rw [HN3.out, ← hW2] at hnew
          rw [addr_add5, Nat.zero_add, cell_at hnew, ← Array.getElem?_toList]
          exact hu⟩)
        have HO1' := hid (show ∀ u ∈ ([.int .i64 pp, .string (tx mm), .int .i64 k, .slice a3 n3 c3] : List Value), u.oneCell' = true from fun u hu => by
          simp only [List.mem_cons, List.not_mem_nil, or_false] at hu
          rcases hu with rfl | rfl | rfl | rfl <;> rfl)
        have HNX := hid (show ∀ (v7 : Value) (w7 : World), w7.ownsRow w.heap.size 44 4 v7 (i + 1) (flatV qs ++ [.int .i64 pp, .string (tx mm), .int .i64 k, .slice a3 n3 c3]) → W2.grownBy w7 (Value.slice bo i bc).ownBlock → ∃ a7 c7, v7 = .slice a7 (i + 1) c7 ∧ AftAt w Q 3 p m k (.slice u un uc) (.slice a7 (i + 1) c7) (qs ++ [((⟨pp, mm, k, zs⟩ : Raw), Value.slice a3 n3 c3)]) w7 from fun v7 w7 ho hg => by
          obtain ⟨a7, c7, e⟩ := own_form ho
          subst e
          exact ⟨a7, c7, rfl, HA.out.next (r := ⟨pp, mm, k, zs⟩) HBW.out HPW.out HZL.out ho hg HL.out⟩)
        have HL2 := hid (show (qs ++ [((⟨pp, mm, k, zs⟩ : Raw), Value.slice a3 n3 c3)]).length = i + 1 by rw [List.length_append, HL.out]; rfl)
        have HE2 := hid (show (qs ++ [((⟨pp, mm, k, zs⟩ : Raw), Value.slice a3 n3 c3)]).map Prod.fst = mdR ((ps.take (i + 1)).map Prod.fst) ⟨p, m, k, zs⟩ by
          rw [List.map_append, HE.out, HTKM.out]
          have e1 : pp = p := HKT.out.1
          have e2 : mm = m := HKT.out.2
          subst e1 e2
          unfold mdR
          rw [List.map_append]
          congr 1
          simp [keyB])
        subst hW2
        clear B4 hR3
        go_wp2_with (at_builtin; refine wpList_append_srcC _ rfl _ _ 29 rfl w.heap.size 44 i0 _ 4 56 Tryz.underlying29 HI.out HZ0.out HZ1.out HZ2.out rfl (by decide) (.slice bo i bc) i (flatV qs) rfl HOW.out _ 1 [.int .i64 pp, .string (tx mm), .int .i64 k, .slice a3 n3 c3] rfl (Or.inr HS4.out) HO1'.out (by unfold maxLen; omega) (by omega) HSZ.out ?_; intro v7 w7 hown7 hg7; obtain ⟨a7, c7, hv7, hA7⟩ := HNX.out v7 w7 hown7 hg7; subst hv7; have HA7 := hid hA7; clear hown7 hg7 hA7)
        go_roundw
        case rel => exact ⟨i + 1, a7, c7, _, by omega, by go_num, rfl, HA7, HL2, HE2⟩
        case measure => simp [intOf]; omega
      · have b1 : ((i : Int) == (j0 : Int)) = false := by rw [beq_eq_false_iff_ne]; omega
        have HE2 := hid (show (qs ++ [((⟨pp, mm, kk, zz⟩ : Raw), Value.slice ao1 an c1)]).map Prod.fst = mdR ((ps.take (i + 1)).map Prod.fst) ⟨p, m, k, zs⟩ by
          rw [List.map_append, HE.out, HTKM.out]
          have : keyB ⟨pp, mm, kk, zz⟩ ⟨p, m, k, zs⟩ = false := by
            cases h : keyB ⟨pp, mm, kk, zz⟩ ⟨p, m, k, zs⟩ with
            | false => rfl
            | true => exact absurd (HK.out.1 h) hij
          unfold mdR
          rw [List.map_append]
          congr 1
          simp [this])
        obtain ⟨W2, hW2⟩ : ∃ W2, W2 = (wo.alloc (rob pp (tx mm) kk (.slice ao1 an c1))).alloc (rob pp (tx mm) kk (.slice ao1 an c1)) := ⟨_, rfl⟩
        have HBW := hid (show Below wo.heap.size wo W2 by rw [hW2]; exact ((Below.refl _ _).alloc (Nat.le_refl _) _).alloc (by simp) _)
        have HSZ := hid (show w.heap.size ≤ W2.heap.size from Nat.le_trans HA.out.low.size HBW.out.size)
        have HOW := hid (show W2.ownsRow w.heap.size 44 4 (.slice bo i bc) i (flatV qs) by have := (HA.out.doc.own.on HBW.out).own; rw [HL.out] at this; exact this)
        have HS4 := hid (show ∃ ad c, (.slice (some ⟨wo.heap.size + 1, 0, none⟩) 1 1 : Value) = .slice (some ad) 1 c ∧ ([.int .i64 pp, .string (tx mm), .int .i64 kk, .slice ao1 an c1] : List Value).length = 1 * 4 ∧ ∀ t u, ([.int .i64 pp, .string (tx mm), .int .i64 kk, .slice ao1 an c1] : List Value)[t]? = some u → W2.cell? (ad.add t) = some u from ⟨⟨wo.heap.size + 1, 0, none⟩, 1, rfl, rfl, fun t u hu => by
          have hnew := new_0 (wo.alloc (rob pp (tx mm) kk (.slice ao1 an c1))) (rob pp (tx mm) kk (.slice ao1 an c1))
          rw [show (wo.alloc (rob pp (tx mm) kk (.slice ao1 an c1))).heap.size = wo.heap.size + 1 by simp, ← hW2] at hnew
          rw [addr_add5, Nat.zero_add, cell_at hnew, ← Array.getElem?_toList]
          exact hu⟩)
        have HO1' := hid (show ∀ u ∈ ([.int .i64 pp, .string (tx mm), .int .i64 kk, .slice ao1 an c1] : List Value), u.oneCell' = true from fun u hu => by
          simp only [List.mem_cons, List.not_mem_nil, or_false] at hu
          rcases hu with rfl | rfl | rfl | rfl <;> rfl)
        have HNX := hid (show ∀ (v7 : Value) (w7 : World), w7.ownsRow w.heap.size 44 4 v7 (i + 1) (flatV qs ++ [.int .i64 pp, .string (tx mm), .int .i64 kk, .slice ao1 an c1]) → W2.grownBy w7 (Value.slice bo i bc).ownBlock → ∃ a7 c7, v7 = .slice a7 (i + 1) c7 ∧ AftAt w Q 3 p m k (.slice u un uc) (.slice a7 (i + 1) c7) (qs ++ [((⟨pp, mm, kk, zz⟩ : Raw), Value.slice ao1 an c1)]) w7 from fun v7 w7 ho hg => by
          obtain ⟨a7, c7, e⟩ := own_form ho
          subst e
          exact ⟨a7, c7, rfl, HA.out.next (r := ⟨pp, mm, kk, zz⟩) HBW.out (HPQ.out.1.on HBW.out) HPQ.out.2 ho hg HL.out⟩)
        have HL2 := hid (show (qs ++ [((⟨pp, mm, kk, zz⟩ : Raw), Value.slice ao1 an c1)]).length = i + 1 by rw [List.length_append, HL.out]; rfl)
        subst hW2
        clear hij
        go_wp2_with (at_builtin; refine wpList_append_srcC _ rfl _ _ 29 rfl w.heap.size 44 i0 _ 4 56 Tryz.underlying29 HI.out HZ0.out HZ1.out HZ2.out rfl (by decide) (.slice bo i bc) i (flatV qs) rfl HOW.out _ 1 [.int .i64 pp, .string (tx mm), .int .i64 kk, .slice ao1 an c1] rfl (Or.inr HS4.out) HO1'.out (by unfold maxLen; omega) (by omega) HSZ.out ?_; intro v7 w7 hown7 hg7; obtain ⟨a7, c7, hv7, hA7⟩ := HNX.out v7 w7 hown7 hg7; subst hv7; have HA7 := hid hA7; clear hown7 hg7 hA7)
        go_roundw
        case rel => exact ⟨i + 1, a7, c7, _, by omega, by go_num, rfl, HA7, HL2, HE2⟩
        case measure => simp [intOf]; omega
    · have hI : ¬ ((i : Int) < (n : Int)) := by omega
      have HEND := hid (show DocL wo w.heap.size Q (.slice bo n bc) qs ∧ qs.length = n ∧ qs.map Prod.fst = mdR (ps.map Prod.fst) ⟨p, m, k, zs⟩ ∧ Below w.heap.size w wo from by
        have e : i = n := by omega
        subst e
        refine ⟨HA.out.doc, HL.out, ?_, HA.out.low⟩
        rw [HE.out, List.take_of_length_le (by rw [HN.out]; omega)])
      have hin : i = n := by omega
      subst hin
      go_wp2
      go_ret
      exact ⟨_, _, rfl, _, HEND.out⟩
end Go.Proofs.YtipmlcdnfaobiaaGreat
namespace Go.Proofs.YtipmlcdnfaobiaaGreat
open Go.RowKit

/-- The document's table, with its rules. -/
structure DTab (w : World) (Q rb : Nat) (W : Int) (L : List Raw) : Prop where
  ex : ∃ v ps, w.heap[rb]? = some (.cells #[.int .i64 W, v] 32 (0, 0)) ∧ DocL w 0 Q v ps ∧ ps.map Prod.fst = L
theorem DTab.on {w w' : World} {Q rb : Nat} {W : Int} {L : List Raw} (h : DTab w Q rb W L) (hb : Below w.heap.size w w') : DTab w' Q rb W L := by
  obtain ⟨v, ps, hB, hd, e⟩ := h.ex
  exact ⟨v, ps, below_block hb hB (lt_of_block hB), hd.on hb, e⟩
theorem DTab.lt {w : World} {Q rb : Nat} {W : Int} {L : List Raw} (h : DTab w Q rb W L) : rb < w.heap.size := by
  obtain ⟨v, ps, hB, hd, e⟩ := h.ex
  exact lt_of_block hB
theorem OwnR.grew {w w' : World} {B b : Nat} {v : Value} {ps : List (Raw × Value)} {cs : Array Value} {t : TypeId} {r : Nat × Nat} (h : OwnR w B v ps) (hg : w.grownBy w' (some b)) (hb : w.heap[b]? = some (.cells cs t r)) (ht : 44 ≠ t) : OwnR w' B v ps := by
  refine ⟨⟨h.own.1, ?_⟩, h.vals⟩
  rcases h.own.2 with q | ⟨g, cp, cur, e, hB, hh, q⟩
  · exact Or.inl q
  · refine Or.inr ⟨g, cp, cur, e, hB, ?_, q⟩
    rw [hg.block g (lt_of_block hh) (fun e => by injection e with e; exact ne_type hh hb ht e)]
    exact hh
theorem Ported.grewB {w w' : World} {B b : Nat} {v : Value} {zs : List (List UInt8)} {cs : Array Value} {t : TypeId} {r : Nat × Nat} (h : Ported w B v zs) (hg : w.grownBy w' (some b)) (hb : w.heap[b]? = some (.cells cs t r)) (ht : 9 ≠ t) : Ported w' B v zs := by
  obtain ⟨ao, cap, e1, e2, q | ⟨g, e3, e4, cs', e5, e6⟩⟩ := h
  · exact ⟨ao, cap, e1, e2, Or.inl q⟩
  · refine ⟨ao, cap, e1, e2, Or.inr ⟨g, e3, e4, cs', ?_, e6⟩⟩
    rw [hg.block g (lt_of_block e5) (fun e => by injection e with e; exact ne_type e5 hb ht e)]
    exact e5
theorem FTab.grew {w w' : World} {Bp tb b : Nat} {W : Int} {L : List Raw} {cs : Array Value} {r : Nat × Nat} (h : FTab w Bp tb W L) (hg : w.grownBy w' (some b)) (hb : w.heap[b]? = some (.cells cs 32 r)) : FTab w' Bp tb W L := by
  obtain ⟨v, ps, ht, e⟩ := h.ex
  refine ⟨h.base, v, ps, ⟨?_, ht.list.grew hg hb (by decide), fun q hq => (ht.ports q hq).grewB hg hb (by decide), ht.good⟩, e⟩
  rw [hg.block tb (lt_of_block ht.blk) (fun e => by injection e with e; exact ne_type ht.blk hb (by decide) e)]
  exact ht.blk
theorem DTab.grew {w w' : World} {Q rb b : Nat} {W : Int} {L : List Raw} {cs : Array Value} {r : Nat × Nat} (h : DTab w Q rb W L) (hg : w.grownBy w' (some b)) (hb : w.heap[b]? = some (.cells cs 72 r)) : DTab w' Q rb W L := by
  obtain ⟨v, ps, hB, hd, e⟩ := h.ex
  refine ⟨v, ps, ?_, ⟨hd.own.grew hg hb (by decide), fun q hq => ⟨(hd.prt q hq).1.grewB hg hb (by decide), (hd.prt q hq).2⟩⟩, e⟩
  rw [hg.block rb (lt_of_block hB) (fun e => by injection e with e; exact ne_type hB hb (by decide) e)]
  exact hB
theorem FTab.blk {w : World} {Bp tb : Nat} {W : Int} {L : List Raw} (h : FTab w Bp tb W L) : ∃ cs, w.heap[tb]? = some (.cells cs 72 (0, 0)) := by
  obtain ⟨v, ps, ht, e⟩ := h.ex
  exact ⟨_, ht.blk⟩
theorem DTab.blk {w : World} {Q rb : Nat} {W : Int} {L : List Raw} (h : DTab w Q rb W L) : ∃ cs, w.heap[rb]? = some (.cells cs 32 (0, 0)) := by
  obtain ⟨v, ps, hB, hd, e⟩ := h.ex
  exact ⟨_, hB⟩

set_option maxRecDepth 4000 in
set_option maxHeartbeats 1000000 in
theorem RNew_good {W : Int} {w : World} {Q : Nat} (h : 1 ≤ W ∧ W ≤ 128) : Calls Tryz.prog 30 #[.int .i64 W] w fun e w' => e = .returned (.tuple #[.pointer (some ⟨w.heap.size, 0, none⟩), .int .i64 0]) ∧ Hid (DTab w' Q w.heap.size W [] ∧ Below w.heap.size w w') := by
  obtain ⟨h1, h2⟩ := h
  have a1 : ¬ W < 1 := by omega
  have a2 : ¬ 128 < W := by omega
  have HX := hid (show DTab (w.alloc (.cells #[.int .i64 W, .slice none 0 0] 32)) Q w.heap.size W [] ∧ Below w.heap.size w (w.alloc (.cells #[.int .i64 W, .slice none 0 0] 32)) from ⟨⟨_, [], new_0 _ _, ⟨⟨World.ownsRow_nil _ _ _ _, fun q hq => (by cases hq)⟩, fun q hq => (by cases hq)⟩, rfl⟩, (Below.refl _ _).alloc (Nat.le_refl _) _⟩)
  go_enter Tryz.func30, Tryz.ntmps30
  go_wp2
  refine bodyPost_ret (v := .tuple #[.pointer (some ⟨w.heap.size, 0, none⟩), .int .i64 0]) (by simp [results, Tryz.results30, go_sem]) rfl ⟨rfl, HX⟩
set_option maxRecDepth 4000 in
set_option maxHeartbeats 1000000 in
theorem RNew_bad {W : Int} {w : World} (h : ¬ (1 ≤ W ∧ W ≤ 128)) : Calls Tryz.prog 30 #[.int .i64 W] w fun e w' => e = .returned (.tuple #[.pointer none, .int .i64 1]) ∧ w' = w := by
  by_cases a1 : W < 1
  · go_enter Tryz.func30, Tryz.ntmps30
    go_wp2
    refine bodyPost_ret (v := .tuple #[.pointer none, .int .i64 1]) (by simp [results, Tryz.results30, go_sem]) rfl ⟨rfl, rfl⟩
  · have a2 : 128 < W := by omega
    go_enter Tryz.func30, Tryz.ntmps30
    go_wp2
    refine bodyPost_ret (v := .tuple #[.pointer none, .int .i64 1]) (by simp [results, Tryz.results30, go_sem]) rfl ⟨rfl, rfl⟩

theorem DocL.mono {w : World} {B B' Q : Nat} {v : Value} {ps : List (Raw × Value)} (h : DocL w B Q v ps) (hB : B' ≤ B) : DocL w B' Q v ps := ⟨⟨own_mono h.own.own hB, h.own.vals⟩, h.prt⟩
/-- After, of any change that may be. -/
theorem RAfter_any {w : World} {B Q n c : Nat} {ao : Option Addr} {ps : List (Raw × Value)} {W kd p k : Int} {m : List UInt8} {u : Option Addr} {un uc : Nat} {zs : List (List UInt8)} {L' : List Raw} (hd : DocL w B Q (.slice ao n c) ps) (hQ : Q ≤ w.heap.size) (hn : ps.length = n) (hg : GoodT W (ps.map Prod.fst)) (ht : Txs w (.slice u un uc) zs) (hs : Small m zs) (hst : stepN W (ps.map Prod.fst) kd ⟨p, m, k, zs⟩ = .ok L') :
    Calls Tryz.prog 35 #[.slice ao n c, .agg #[.int .i64 kd, .int .i64 p, .string (tx m), .int .i64 k, .slice u un uc]] w fun e w' => ∃ bo bn bc qs, e = .returned (.slice bo bn bc) ∧ Hid (DocL w' 0 Q (.slice bo bn bc) qs ∧ qs.length = bn ∧ qs.map Prod.fst = L' ∧ Below w.heap.size w w') := by
  have hzl : ∀ z ∈ zs, z.length ≤ maxLen := fun z hz => by have := hs.2.2 z hz; unfold maxLen; omega
  have hfew := hg.few
  rw [List.length_map, hn] at hfew
  have hthere : ∀ (hk : ((ps.map Prod.fst).any fun a => keyB a ⟨p, m, k, zs⟩) = true), ∃ (j : Nat) (a : Raw), (ps.map Prod.fst)[j]? = some a ∧ keyB a ⟨p, m, k, zs⟩ = true := fun hk => by
    obtain ⟨a, ha, hka⟩ := List.any_eq_true.1 hk
    obtain ⟨j, hj⟩ := List.getElem?_of_mem ha
    exact ⟨j, a, hj, hka⟩
  unfold stepN at hst
  split at hst
  · rename_i h1
    subst h1
    split at hst
    · split at hst
      · cases hst
      · rename_i hno
        split at hst
        · cases hst
        · rename_i hl
          injection hst with e
          subst e
          rw [List.length_map, hn] at hl
          refine (RAfterI hd hQ hn (by omega) ht hs.2.1 hzl hg.srt (by simpa using hno)).mono ?_
          rintro en w' ⟨bo, bc, qs, rfl, h⟩
          refine ⟨bo, n + 1, bc, qs, rfl, h.out.1.mono (Nat.zero_le _), ?_, h.out.2.1, h.out.2.2⟩
          have := congrArg List.length h.out.2.1
          rw [List.length_map, putR_len, List.length_map, hn] at this
          exact this
    · cases hst
  · split at hst
    · rename_i h2
      subst h2
      split at hst
      · split at hst
        · rename_i hk
          injection hst with e
          subst e
          obtain ⟨j, a, hj, hka⟩ := hthere hk
          refine (RAfterD hd hn hfew hg.srt hj hka).mono ?_
          rintro en w' ⟨bo, bn, bc, qs, rfl, h⟩
          exact ⟨bo, bn, bc, qs, rfl, h.out.1.mono (Nat.zero_le _), h.out.2.1, h.out.2.2.1, h.out.2.2.2⟩
        · cases hst
      · cases hst
    · split at hst
      · rename_i h3
        subst h3
        split at hst
        · split at hst
          · rename_i hk
            injection hst with e
            subst e
            obtain ⟨j, a, hj, hka⟩ := hthere hk
            refine (RAfterM hd hQ hn hfew ht hs.2.1 hzl hg.srt hj hka).mono ?_
            rintro en w' ⟨bo, bc, qs, rfl, h⟩
            exact ⟨bo, n, bc, qs, rfl, h.out.1.mono (Nat.zero_le _), h.out.2.1, h.out.2.2.1, h.out.2.2.2⟩
          · cases hst
        · cases hst
      · cases hst
theorem DTab.low {w : World} {Q rb : Nat} {W : Int} {L : List Raw} (h : DTab w Q rb W L) : DTab w 0 rb W L := by
  obtain ⟨v, ps, hB, hd, e⟩ := h.ex
  exact ⟨v, ps, hB, ⟨hd.own, fun q hq => ⟨(hd.prt q hq).1.mono (Nat.zero_le _), (hd.prt q hq).2⟩⟩, e⟩
end Go.Proofs.YtipmlcdnfaobiaaGreat
namespace Go.Proofs.YtipmlcdnfaobiaaGreat
open Go.RowKit

theorem ChIn.on {w w' : World} {ao : Option Addr} {cs : List (Int × Raw × Value)} (h : ChIn w ao cs) (hb : Below w.heap.size w w') : ChIn w' ao cs := by
  rcases h with h | ⟨g, o, e, hv⟩
  · exact Or.inl h
  · refine Or.inr ⟨g, o, e, Nat.lt_of_lt_of_le hv.old hb.size, fun i u hu => ?_, fun u hu => ⟨(hv.ports u hu).1.below hb, (hv.ports u hu).2⟩⟩
    obtain ⟨c0, c1, c2, c3, c4⟩ := hv.cell i u hu
    exact ⟨(hb.cell (by exact hv.old)).trans c0, (hb.cell (by exact hv.old)).trans c1, (hb.cell (by exact hv.old)).trans c2, (hb.cell (by exact hv.old)).trans c3, (hb.cell (by exact hv.old)).trans c4⟩
/-- What the document's Do tells and leaves. -/
def RDoPost (w : World) (Q rb : Nat) (W : Int) (L : List Raw) (cs : List (Int × Raw)) (e : Ending) (w' : World) : Prop :=
  w.grownBy w' (some rb) ∧
  ((∃ L', runN W L cs 0 = .ok L' ∧ e = .returned (.tuple #[.int .i64 0, .int .i64 0]) ∧ DTab w' Q rb W L') ∨
   (∃ (i : Nat) (er : Int), runN W L cs 0 = .error (i, er) ∧ er ≠ 0 ∧ e = .returned (.tuple #[.int .i64 i, .int .i64 er]) ∧ DTab w' Q rb W L))
/-- Where the document's Do stands. -/
structure RDoAt (w : World) (Q : Nat) (W : Int) (L : List Raw) (cs : List (Int × Raw)) (j n2 : Nat) (v : Value) (ps : List (Raw × Value)) (wr : World) : Prop where
  low : Below w.heap.size w wr
  doc : DocL wr 0 Q v ps
  len : ps.length = n2
  run : runN W L (cs.take j) 0 = .ok (ps.map Prod.fst)
  good : GoodT W (ps.map Prod.fst)
theorem mayE_ok {W : Int} {L : List Raw} {k : Int} {r : Raw} {L' : List Raw} (h : stepN W L k r = .ok L') : mayE W L k r = 0 := by unfold mayE; rw [h]
theorem mayE_no {W : Int} {L : List Raw} {k : Int} {r : Raw} {e : Int} (h : stepN W L k r = .error e) : mayE W L k r = e := by unfold mayE; rw [h]
theorem step_ne {W : Int} {L : List Raw} {k : Int} {r : Raw} {e : Int} (h : stepN W L k r = .error e) : e ≠ 0 := by
  unfold stepN at h
  split at h
  · split at h
    · split at h
      · injection h with h; omega
      · split at h
        · injection h with h; omega
        · cases h
    · injection h with h; rename_i q; rw [← h]; exact q
  · split at h
    · split at h
      · split at h
        · cases h
        · injection h with h; omega
      · injection h with h; rename_i q; rw [← h]; exact q
    · split at h
      · split at h
        · split at h
          · cases h
          · injection h with h; omega
        · injection h with h; rename_i q; rw [← h]; exact q
      · injection h with h; omega

set_option maxRecDepth 20000 in
set_option maxHeartbeats 4000000 in
theorem RDo_any {w : World} {Q rb n cap : Nat} {ao : Option Addr} {W : Int} {L : List Raw} {cs : List (Int × Raw × Value)} (h : DTab w Q rb W L) (hQ : Q ≤ w.heap.size) (hgd : GoodT W L) (hc : ChIn w ao cs) (hn : cs.length = n) (hs : ∀ u ∈ cs, Small u.2.1.mat u.2.1.ports) (h63 : n ≤ maxLen) :
    Calls Tryz.prog 14 #[.pointer (some ⟨rb, 0, none⟩), .slice ao n cap] w fun e w' => RDoPost w Q rb W L (chs cs) e w' := by
  obtain ⟨v, ps, hB, hd, hL⟩ := h.ex
  have HD := hid hd
  have HB := hid hB
  have HC := hid hc
  have HN := hid hn
  have HS := hid hs
  have HLE := hid hL
  have HG := hid hgd
  have H := hid h
  obtain ⟨lo, lc, hv, _, _⟩ := hd.own.form
  subst hv
  obtain ⟨n0, hn0⟩ : ∃ n0, n0 = ps.length := ⟨_, rfl⟩
  have HN0 := hid hn0
  rw [← hn0] at HD HB
  have HA0 := hid (show RDoAt w Q W L (chs cs) 0 n0 (.slice lo n0 lc) ps w from ⟨Below.refl _ _, HD.out, HN0.out.symm, by rw [HLE.out]; rfl, by rw [HLE.out]; exact HG.out⟩)
  have t1 : w.cell? ⟨rb, 1, none⟩ = some (.slice lo n0 lc) := by rw [cell_at HB.out]; rfl
  have h63I : (n : Int) ≤ 9223372036854775807 := by unfold maxLen at h63; omega
  clear hd hB hc hn hs hL hgd h hn0
  go_enter Tryz.func14, Tryz.ntmps14
  go_wp2_with fail
  clear t1
  go_loopw [6, 7] (fun vr vi wr => ∃ (j : Nat) (ro : Option Addr) (rn rc : Nat) (qs : List (Raw × Value)), j ≤ n ∧ vi = .int .i64 j ∧ vr = .slice ro rn rc ∧ Hid (RDoAt w Q W L (chs cs) j rn (.slice ro rn rc) qs wr)) (fun _ vi _ => n - (intOf vi).toNat)
  case atStart => exact ⟨0, lo, n0, lc, ps, Nat.zero_le _, rfl, rfl, HA0⟩
  case round =>
    obtain ⟨j, ro, rn, rc, qs, hj, rfl, rfl, HA⟩ := hrel
    rename World => wo
    have HBo := hid (below_block HA.out.low HB.out (lt_of_block HB.out))
    by_cases hlt : j < n
    · obtain ⟨u, hu⟩ : ∃ u, cs[j]? = some u := ⟨cs[j]'(by rw [HN.out]; exact hlt), List.getElem?_eq_getElem _⟩
      have HU := hid hu
      have hjI : (j : Int) < (n : Int) := by omega
      have hj0 : (0 : Int) ≤ (j : Int) := by omega
      have HCH := hid (HC.out.on HA.out.low)
      obtain ⟨g, o, rfl⟩ : ∃ g o, ao = some ⟨g, o, none⟩ := by
        rcases HC.out with q | ⟨g, o, e, _⟩
        · rw [q] at hu; simp at hu
        · exact ⟨g, o, e⟩
      have HVW := hid (show ∀ X, Below w.heap.size w X → ChView X g o cs from fun X hX => by
        rcases HC.out.on hX with q | ⟨g', o', e, hv⟩
        · rw [q] at hu; simp at hu
        · cases e; exact hv)
      have HSM := hid (HS.out u (List.mem_of_getElem? hu))
      have HCU := hid (show (chs cs)[j]? = some (u.1, u.2.1) by rw [List.getElem?_map, hu]; rfl)
      have HTX := hid (show ∀ X, Below w.heap.size w X → Txs X u.2.2 u.2.1.ports from fun X hX => ((HVW.out X hX).ports u (List.mem_of_getElem? hu)).1)
      have HPL := hid (((HVW.out wo HA.out.low).ports u (List.mem_of_getElem? hu)).2)
      have HCL := hid (show ∀ X, Below w.heap.size w X → _ from fun X hX => (HVW.out X hX).cell j u hu)
      obtain ⟨kd, ⟨p, m, k, zs⟩, uv⟩ := u
      simp only at HSM HCU HTX HPL HCL
      obtain ⟨uo, uc, huv, _⟩ := HTX.out wo HA.out.low
      obtain ⟨un, hun⟩ : ∃ un, un = zs.length := ⟨_, rfl⟩
      rw [← hun] at huv
      subst huv
      clear hu hun
      have HFEW := hid (show rn ≤ 4096 by have := HA.out.good.few; rw [List.length_map, HA.out.len] at this; exact this)
      have HMAY := hid (fun (X : World) (hX : Below wo.heap.size wo X) => RMay_any (W := W) (k := kd) (p := p) (kk := k) (m := m) (HA.out.doc.on hX).own HA.out.len HFEW.out (HTX.out X (below_2 HA.out.low hX)) HPL.out (by have := HSM.out.2.1; unfold maxLen; omega) (by have := HSM.out.1; unfold maxLen; omega))
      have HCS := hid (show ∀ X : World, Below w.heap.size w X → (fun W' => W'.cell? ⟨g, o + j * 5, none⟩ = some (.int .i64 kd) ∧ W'.cell? ⟨g, o + j * 5 + 1, none⟩ = some (.int .i64 p) ∧ W'.cell? ⟨g, o + j * 5 + 2, none⟩ = some (.string (tx m)) ∧ W'.cell? ⟨g, o + j * 5 + 3, none⟩ = some (.int .i64 k) ∧ W'.cell? ⟨g, o + j * 5 + 4, none⟩ = some (.slice uo un uc) ∧ W'.cell? ⟨rb, 0, none⟩ = some (.int .i64 W)) X from fun X hX => by
        obtain ⟨c0, c1, c2, c3, c4⟩ := HCL.out X hX
        exact ⟨c0, c1, c2, c3, c4, by rw [cell_at (below_block hX HB.out (lt_of_block HB.out))]; rfl⟩)
      have hS0 := HCS.out wo HA.out.low
      have HSN := hid (run_snoc (c := (kd, (⟨p, m, k, zs⟩ : Raw))) HA.out.run HCU.out)
      cases hst : stepN W (qs.map Prod.fst) kd ⟨p, m, k, zs⟩ with
      | error er =>
        have HST := hid hst
        rw [mayE_no hst] at HMAY
        have hne : (er != 0) = true := by rw [bne_iff_ne]; exact step_ne hst
        have HFIN := hid (show ∀ X, Below w.heap.size w X → RDoPost w Q rb W L (chs cs) (.returned (.tuple #[.int .i64 (j : Int), .int .i64 er])) X from fun X hX => ⟨⟨hX.os, hX.tape, hX.output, hX.size, fun i hi _ => hX.block i hi⟩, Or.inr ⟨j, er, HSN.out.2 er HST.out, step_ne HST.out, rfl, H.out.on hX⟩⟩)
        clear hst
        go_wp2_with fail
        go_region_held2 (fun W' => W'.cell? ⟨g, o + j * 5, none⟩ = some (.int .i64 kd) ∧ W'.cell? ⟨g, o + j * 5 + 1, none⟩ = some (.int .i64 p) ∧ W'.cell? ⟨g, o + j * 5 + 2, none⟩ = some (.string (tx m)) ∧ W'.cell? ⟨g, o + j * 5 + 3, none⟩ = some (.int .i64 k) ∧ W'.cell? ⟨g, o + j * 5 + 4, none⟩ = some (.slice uo un uc) ∧ W'.cell? ⟨rb, 0, none⟩ = some (.int .i64 W)) (first | exact hS0 | exact hS2) (first | (go_at_call 34; refine (HMAY.out _ ((Below.refl _ _).drew)).mono ?_; rintro en w2 ⟨rfl, hb2⟩; have B2 := hid (below_2 HA.out.low (below_2 ((Below.refl _ _).drew) hb2)); clear hb2; have hS2 := HCS.out w2 B2.out))
        go_wp2
        refine bodyPost_ret (v := .tuple #[.int .i64 (j : Int), .int .i64 er]) (by simp [results, Tryz.results14, go_sem]) rfl (HFIN.out _ B2.out)
      | ok L2 =>
        have HST := hid hst
        rw [mayE_ok hst] at HMAY
        clear hst
        go_wp2_with fail
        go_region_held2 (fun W' => W'.cell? ⟨g, o + j * 5, none⟩ = some (.int .i64 kd) ∧ W'.cell? ⟨g, o + j * 5 + 1, none⟩ = some (.int .i64 p) ∧ W'.cell? ⟨g, o + j * 5 + 2, none⟩ = some (.string (tx m)) ∧ W'.cell? ⟨g, o + j * 5 + 3, none⟩ = some (.int .i64 k) ∧ W'.cell? ⟨g, o + j * 5 + 4, none⟩ = some (.slice uo un uc) ∧ W'.cell? ⟨rb, 0, none⟩ = some (.int .i64 W)) (first | exact hS0 | exact hS2) (first | (go_at_call 34; refine (HMAY.out _ ((Below.refl _ _).drew)).mono ?_; rintro en w2 ⟨rfl, hb2⟩; have HB2' := hid (below_2 ((Below.refl wo.heap.size wo).drew) hb2); have B2 := hid (below_2 HA.out.low HB2'.out); clear hb2; have hS2 := HCS.out w2 B2.out))
        clear hS2
        have HAF := hid (RAfter_any (HA.out.doc.on HB2'.out) (Nat.le_trans hQ B2.out.size) HA.out.len HA.out.good (HTX.out w2 B2.out) HSM.out HST.out)
        obtain ⟨c0, c1, c2, c3, c4⟩ := HCL.out w2 B2.out
        go_wp2_with fail
        refine HAF.out.mono ?_
        rintro en w3 ⟨bo, bn, bc, qs3, rfl, h3⟩
        have HA3 := hid (show RDoAt w Q W L (chs cs) (j + 1) bn (.slice bo bn bc) qs3 w3 from ⟨below_2 B2.out h3.out.2.2.2, h3.out.1, h3.out.2.1, by rw [h3.out.2.2.1]; exact (HSN.out.1 L2 HST.out).1, by rw [h3.out.2.2.1]; exact HA.out.good.step HST.out⟩)
        clear h3 c0 c1 c2 c3 c4
        go_wp2
        go_roundw
        case rel => exact ⟨j + 1, bo, bn, bc, qs3, by omega, by go_num, rfl, HA3⟩
        case measure => simp [intOf]; omega
    · have hjI : ¬ ((j : Int) < (n : Int)) := by omega
      have t1o : wo.cell? ⟨rb, 1, none⟩ = some (.slice lo n0 lc) := by rw [cell_at HBo.out]; rfl
      have hf1 : wo.frozen? ⟨rb, 1, none⟩ = false := free_of HBo.out
      have HFIN := hid (show RDoPost w Q rb W L (chs cs) (.returned (.tuple #[.int .i64 0, .int .i64 0])) (wo.setCell ⟨rb, 1, none⟩ (.slice ro rn rc)) from by
        have hjn : j = n := by omega
        have hl := HA.out.low
        have hg : wo.grownBy (wo.setCell ⟨rb, 1, none⟩ (.slice ro rn rc)) (some rb) := grown_cell _ _ _ _
        refine ⟨grown_two ⟨hl.os, hl.tape, hl.output, hl.size, fun i hi _ => hl.block i hi⟩ hg, Or.inl ⟨qs.map Prod.fst, ?_, rfl, .slice ro rn rc, qs, ?_, ⟨HA.out.doc.own.grew hg HBo.out (by decide), fun q hq => ⟨(HA.out.doc.prt q hq).1.grewB hg HBo.out (by decide), (HA.out.doc.prt q hq).2⟩⟩, rfl⟩⟩
        · have := HA.out.run
          rw [List.take_of_length_le (by rw [List.length_map, HN.out]; omega)] at this
          exact this
        · rw [block_set (o := 1) _ HBo.out]; rfl)
      go_wp2
      refine bodyPost_ret (v := .tuple #[.int .i64 0, .int .i64 0]) (by simp [results, Tryz.results14, go_sem]) rfl HFIN.out
end Go.Proofs.YtipmlcdnfaobiaaGreat
namespace Go.Proofs.YtipmlcdnfaobiaaGreat
open Go.RowKit

/-- The two rules. -/
def awA : Raw := ⟨5, [49, 120], 3, [[112]]⟩
def awB : Raw := ⟨9, [49, 49], 2, []⟩
theorem aw_run : runN 2 [] [(1, awA), (1, awB)] 0 = .ok [awB, awA] := by kernel_rfl
theorem aw_h1 : headB 2 [49, 49] = true := by kernel_rfl
theorem aw_h2 : headB 2 [49, 48] = true := by kernel_rfl
theorem aw_h3 : headB 2 [48, 48] = true := by kernel_rfl
theorem aw_m1 : metN [awB, awA] [49, 49] = 0 := by kernel_rfl
theorem aw_m2 : metN [awB, awA] [49, 48] = 1 := by kernel_rfl
theorem aw_m3 : metN [awB, awA] [48, 48] = -1 := by kernel_rfl
/-- The changes as a row. -/
abbrev awCs (g1 : Nat) : List (Int × Raw × Value) := [(1, awA, .slice (some ⟨g1, 0, none⟩) 1 1), (1, awB, .slice none 0 0)]
theorem aw_view {w1 X : World} (hX : X = (w1.alloc (.cells #[.string (tx [112])] 9)).alloc (.cells #[.int .i64 1, .int .i64 5, .string (tx [49, 120]), .int .i64 3, .slice (some ⟨w1.heap.size, 0, none⟩) 1 1, .int .i64 1, .int .i64 9, .string (tx [49, 49]), .int .i64 2, .slice none 0 0] 57)) : ChView X (w1.heap.size + 1) 0 (awCs w1.heap.size) := by
  have h1 : X.heap[w1.heap.size + 1]? = some (.cells #[.int .i64 1, .int .i64 5, .string (tx [49, 120]), .int .i64 3, .slice (some ⟨w1.heap.size, 0, none⟩) 1 1, .int .i64 1, .int .i64 9, .string (tx [49, 49]), .int .i64 2, .slice none 0 0] 57) := by rw [hX]; exact new_1 _ _ _
  have h0 : X.heap[w1.heap.size]? = some (.cells #[.string (tx [112])] 9) := by rw [hX]; exact new_old _ _ (new_0 _ _)
  refine ⟨lt_of_block h1, fun i u hi => ?_, fun u hu => ?_⟩
  · have hlt : i < 2 := (List.getElem?_eq_some_iff.1 hi).1
    have h2 : i = 0 ∨ i = 1 := by omega
    rcases h2 with rfl | rfl
    · have : (1, awA, Value.slice (some ⟨w1.heap.size, 0, none⟩) 1 1) = u := by simpa using hi
      subst this
      refine ⟨?_, ?_, ?_, ?_, ?_⟩ <;> · rw [cell_at h1]; rfl
    · have : (1, awB, Value.slice none 0 0) = u := by simpa using hi
      subst this
      refine ⟨?_, ?_, ?_, ?_, ?_⟩ <;> · rw [cell_at h1]; rfl
  · simp only [awCs, List.mem_cons, List.not_mem_nil, or_false] at hu
    rcases hu with rfl | rfl
    · refine ⟨⟨some ⟨w1.heap.size, 0, none⟩, 1, rfl, Or.inr ⟨w1.heap.size, 0, rfl, lt_of_block h0, fun i hi => ?_⟩⟩, fun p hp => ?_⟩
      · have : i = 0 := by have : i < 1 := hi; omega
        subst this
        rw [cell_at h0]; rfl
      · have : p = [112] := by simpa [awA] using hp
        rw [this]; unfold maxLen; simp
    · exact ⟨Txs.nil _ _ _, fun p hp => by simp [awB] at hp⟩

set_option maxRecDepth 20000 in
set_option maxHeartbeats 4000000 in
theorem fawake (w : World) : Calls Tryz.prog 10 #[] w fun e w' => e = .returned (.bool true) ∧ Below w.heap.size w w' := by
  have HNW := hid (New_good (W := 2) (w := w) (by decide))
  have hpn : ∀ (W : World) (a : Addr), (binOp .eql 23 (.pointer (some a)) (.pointer none)).run Tryz.prog W = .ok (.bool false) W := fun W a => by
    have h : ∀ d : Nat, (Op.equalIn (d + 1) 23 (.pointer (some a)) (.pointer none)).run Tryz.prog W = .ok false W := fun d => by
      simp [Op.equalIn, run_underlying Tryz.underlying23, sizeOf, typeInfo]
    simp only [binOp]
    simp [Op.equal, Op.maxDepth, h 9999]
  go_enter Tryz.func10, Tryz.ntmps10
  go_wp2_with fail
  refine HNW.out.mono ?_
  rintro en w1 ⟨rfl, h1⟩
  have HF1 := hid h1.out.1
  have B1 := hid h1.out.2
  clear h1
  obtain ⟨X, hX⟩ : ∃ X, X = (w1.alloc (.cells #[.string (tx [112])] 9)).alloc (.cells #[.int .i64 1, .int .i64 5, .string (tx [49, 120]), .int .i64 3, .slice (some ⟨w1.heap.size, 0, none⟩) 1 1, .int .i64 1, .int .i64 9, .string (tx [49, 49]), .int .i64 2, .slice none 0 0] 57) := ⟨_, rfl⟩
  have HBX := hid (show Below w1.heap.size w1 X by rw [hX]; exact ((Below.refl _ _).alloc (Nat.le_refl _) _).alloc (by simp) _)
  have HDO := hid (Do_any (cap := 2) (n := 2) (cs := awCs w1.heap.size) (HF1.out.on HBX.out) (Or.inr ⟨w1.heap.size + 1, 0, rfl, aw_view hX⟩) rfl (by decide))
  go_wp2_with fail
  rw [← hX]
  refine HDO.out.mono ?_
  rintro en w2 ⟨hg2, (⟨L', hr, rfl, hF2⟩ | ⟨i, er, hr, _, rfl, _⟩)⟩
  rotate_left
  · have : runN 2 [] [(1, awA), (1, awB)] 0 = .error (i, er) := hr
    rw [aw_run] at this
    cases this
  have hL : [awB, awA] = L' := by
    have : runN 2 [] [(1, awA), (1, awB)] 0 = .ok L' := hr
    rw [aw_run] at this
    injection this
  subst hL
  have HF2 := hid hF2
  have B2 := hid (show Below w.heap.size w w2 from (below_2 B1.out HBX.out).grown hg2 (below_2 B1.out HBX.out).size (fun b hb => by cases hb; exact Nat.le_refl _))
  clear hg2 hr hF2 hX
  have HL1 := hid (Lookup_any (h := [49, 49]) HF2.out)
  go_wp2_with fail
  refine HL1.out.mono ?_
  rintro en w3 ⟨hb3, (⟨hh, rfl⟩ | ⟨hh, hm, rfl⟩ | ⟨hh, j, r, ao, n, c, hj, hm, rfl, hp⟩)⟩
  · rw [aw_h1] at hh; cases hh
  · rw [aw_m1] at hm; exact absurd hm (by decide)
  have hj0 : j = 0 := by rw [aw_m1] at hm; omega
  subst hj0
  have hrr : awB = r := by simpa using hj
  subst hrr
  have HF3 := hid (HF2.out.on hb3)
  have B3 := hid (below_2 B2.out hb3)
  clear hb3 hh hj hm hp
  have HBa := hid (show Below w3.heap.size w3 (w3.alloc (aob 2 (.slice ao n c))) from (Below.refl _ _).alloc (Nat.le_refl _) _)
  have HA3 := hid (new_0 w3 (aob 2 (.slice ao n c)))
  have HL2 := hid (Lookup_any (h := [49, 48]) (HF3.out.on HBa.out))
  go_wp2_with fail
  refine HL2.out.mono ?_
  rintro en w4 ⟨hb4, (⟨hh, rfl⟩ | ⟨hh, hm, rfl⟩ | ⟨hh, j, r, ao4, n4, c4, hj, hm, rfl, hp⟩)⟩
  · rw [aw_h2] at hh; cases hh
  · rw [aw_m2] at hm; exact absurd hm (by decide)
  have hj0 : j = 1 := by rw [aw_m2] at hm; omega
  subst hj0
  have hrr : awA = r := by simpa using hj
  subst hrr
  have HF4 := hid ((HF3.out.on HBa.out).on hb4)
  have B4 := hid (below_2 (below_2 B3.out HBa.out) hb4)
  have HA4 := hid (below_block hb4 HA3.out (lt_of_block HA3.out))
  clear hb4 hh hj hm hp
  have HBb := hid (show Below w4.heap.size w4 (w4.alloc (aob 3 (.slice ao4 n4 c4))) from (Below.refl _ _).alloc (Nat.le_refl _) _)
  have HC4 := hid (new_0 w4 (aob 3 (.slice ao4 n4 c4)))
  have HL3 := hid (Lookup_any (h := [48, 48]) (HF4.out.on HBb.out))
  go_wp2_with fail
  refine HL3.out.mono ?_
  rintro en w5 ⟨hb5, (⟨hh, rfl⟩ | ⟨hh, hm, rfl⟩ | ⟨hh, j, r, ao5, n5, c5, hj, hm, rfl, hp⟩)⟩
  · rw [aw_h3] at hh; cases hh
  rotate_left
  · rw [aw_m3] at hm; omega
  have HF5 := hid ((HF4.out.on HBb.out).on hb5)
  have B5 := hid (below_2 (below_2 B4.out HBb.out) hb5)
  have HBc := hid (show Below w5.heap.size w5 (w5.alloc (aob 1 (.slice none 0 0))) from (Below.refl _ _).alloc (Nat.le_refl _) _)
  have HLN := hid (Len_any (HF5.out.on HBc.out))
  have hA5 := below_block HBc.out (below_block hb5 (below_block HBb.out HA4.out (lt_of_block HA4.out)) (by have := lt_of_block HA4.out; simp; omega)) (lt_of_block (below_block hb5 (below_block HBb.out HA4.out (lt_of_block HA4.out)) (by have := lt_of_block HA4.out; simp; omega)))
  have hC5 := below_block HBc.out (below_block hb5 HC4.out (lt_of_block HC4.out)) (lt_of_block (below_block hb5 HC4.out (lt_of_block HC4.out)))
  have x3 : (w5.alloc (aob 1 (.slice none 0 0))).cell? ⟨w3.heap.size, 0, none⟩ = some (.int .i64 2) := by rw [cell_at hA5]; rfl
  have x4 : (w5.alloc (aob 1 (.slice none 0 0))).cell? ⟨w4.heap.size, 0, none⟩ = some (.int .i64 3) := by rw [cell_at hC5]; rfl
  have x5 : (w5.alloc (aob 1 (.slice none 0 0))).cell? ⟨w5.heap.size, 0, none⟩ = some (.int .i64 1) := by rw [cell_at (new_0 w5 _)]; rfl
  have BF := hid (below_2 B5.out HBc.out)
  clear hb5 hh hm hA5 hC5
  go_wp2_with (go_at_call 15; refine HLN.out.mono ?_; rintro e w9 ⟨rfl, hw9⟩; subst hw9)
  go_ret
  exact ⟨rfl, BF.out⟩
end Go.Proofs.YtipmlcdnfaobiaaGreat
