/-
  TopoPrints: which topologies may be, and the text of each, for whatever topology comes in: the card.
  The law TopoPrints: which topologies may be, and the text of each.
  The law TopoEnds: the peer of a port's peer is that port, and devices are next to one another both ways.
  The law's own run: alive.
-/
import Derived.Test.YtebaopiedlioiaaGreatDoorJRdWAnd
import Derived.Test.YtebaopiedlioiaaGreatDoorJDocKAnd
import Derived.Test.YtebaopiedlioiaaGreatDoorJSrtIAnd
import Derived.Test.YtebaopiedlioiaaGreatDoorJDevBAnd
import Derived.Test.YtebaopiedlioiaaGreatDoorRows
import Derived.Test.YtebaopiedlioiaaGreatDoorCards
import Derived.Test.YtebaopiedlioiaaGreatDoorTie
import Derived.WalkKit
import Derived.ProofKit
import Derived.OpenShut
import Derived.ShutString
import Derived.Lay
import Derived.LaidOnce
import Derived.SevenTiedAt
import Derived.LaidSub
import Derived.MakeChecks
namespace Go.Proofs.YtebaopiedlioiaaGreatDoor
open Go.RowKit

theorem lkEqJ (d d' a a' : Int) (m m' p p' : List UInt8) (w : World) : (binOp .eql 83 (.agg #[.int .i64 d, .string (tx m), .int .i64 a, .string (tx p)]) (.agg #[.int .i64 d', .string (tx m'), .int .i64 a', .string (tx p')])).run Tryz.prog w = .ok (.bool (decide (d = d' ∧ m = m' ∧ a = a' ∧ p = p'))) w := by
  have u0 := Tryz.underlying83
  have st : Tryz.prog.stoodInHeld 83 = false := by kernel_rfl
  have a0 := fun w => part_intJ w #[.int .i64 d, .string (tx m), .int .i64 a, .string (tx p)] 0 _ rfl
  have a1 := fun w => part_strJ w #[.int .i64 d, .string (tx m), .int .i64 a, .string (tx p)] 1 _ rfl
  have a2 := fun w => part_intJ w #[.int .i64 d, .string (tx m), .int .i64 a, .string (tx p)] 2 _ rfl
  have a3 := fun w => part_strJ w #[.int .i64 d, .string (tx m), .int .i64 a, .string (tx p)] 3 _ rfl
  have b0 := fun w => part_intJ w #[.int .i64 d', .string (tx m'), .int .i64 a', .string (tx p')] 0 _ rfl
  have b1 := fun w => part_strJ w #[.int .i64 d', .string (tx m'), .int .i64 a', .string (tx p')] 1 _ rfl
  have b2 := fun w => part_intJ w #[.int .i64 d', .string (tx m'), .int .i64 a', .string (tx p')] 2 _ rfl
  have b3 := fun w => part_strJ w #[.int .i64 d', .string (tx m'), .int .i64 a', .string (tx p')] 3 _ rfl
  unfold binOp
  simp only
  unfold Op.equal Op.maxDepth
  rw [Op.equalIn]
  by_cases h1 : d = d'
  · have e1 : (d == d') = true := by rw [h1]; simp
    by_cases h2 : m = m'
    · have e2 : (m == m') = true := by rw [h2]; simp
      by_cases h3 : a = a'
      · have e3 : (a == a') = true := by rw [h3]; simp
        by_cases h4 : p = p'
        · have e4 : (p == p') = true := by rw [h4]; simp
          rw [decide_eq_true ⟨h1, h2, h3, h4⟩]
          clear h1 h2 h3 h4
          simp [run_underlying u0, st, a0, a1, a2, a3, b0, b1, b2, b3, eq_intJ, eq_strJ, e1, e2, e3, e4, Result.andThen]
        · have e4 : (p == p') = false := beq_eq_false_iff_ne.2 h4
          rw [decide_eq_false (fun q => h4 q.2.2.2)]
          clear h1 h2 h3 h4
          simp [run_underlying u0, st, a0, a1, a2, a3, b0, b1, b2, b3, eq_intJ, eq_strJ, e1, e2, e3, e4, Result.andThen]
      · have e3 : (a == a') = false := beq_eq_false_iff_ne.2 h3
        rw [decide_eq_false (fun q => h3 q.2.2.1)]
        clear h1 h2 h3
        simp [run_underlying u0, st, a0, a1, a2, b0, b1, b2, eq_intJ, eq_strJ, e1, e2, e3, Result.andThen]
    · have e2 : (m == m') = false := beq_eq_false_iff_ne.2 h2
      rw [decide_eq_false (fun q => h2 q.2.1)]
      clear h1 h2
      simp [run_underlying u0, st, a0, a1, b0, b1, eq_intJ, eq_strJ, e1, e2, Result.andThen]
  · have e1 : (d == d') = false := beq_eq_false_iff_ne.2 h1
    rw [decide_eq_false (fun q => h1 q.1)]
    clear h1
    simp [run_underlying u0, st, a0, b0, eq_intJ, e1, Result.andThen]

set_option maxRecDepth 20000 in
set_option maxHeartbeats 1000000 in
theorem alive11 (w : World) : Calls Tryz.prog 12 #[] w fun e w' => e = .returned (.bool true) ∧ Below w.heap.size w w' := by
  have hEQ : ∀ w : World, (binOp .eql 83 (.agg #[.int .i64 0, .string (tx [112]), .int .i64 1, .string (tx [113])]) (.agg #[.int .i64 0, .string ⟨#[112]⟩, .int .i64 1, .string ⟨#[113]⟩])).run Tryz.prog w = .ok (.bool true) w := fun w => lkEqJ 0 0 1 1 [112] [112] [113] [113] w
  have HP := hid (oParse_any kText w (by decide))
  go_enter Tryz.func12, Tryz.ntmps12
  go_wp2_with fail
  refine HP.out.mono ?_
  rintro en w1 ⟨hb, ⟨f, hf, _⟩ | ⟨t, vs, ds', ls', c1, c2, hr, hok, hof, rfl, p1, p2, p3, p4, hd, hl⟩⟩
  · rw [k_prs] at hf; cases hf
  · rw [k_prs] at hr
    injection hr with hr
    subst hr
    obtain ⟨⟨a, b, rfl, ha, hbb⟩, rfl⟩ := k_order hof p1 p2 p3
    obtain ⟨g, cp, rfl, hg, hc⟩ := own_some hd.row (by simp)
    obtain ⟨g2, cp2, rfl, hg2, hc2⟩ := own_some hl (by simp)
    have d0 : w1.cell? ⟨g, 0, none⟩ = some (.string (tx [97])) := by
      have := hc 0 _ rfl
      rw [ha] at this
      exact this
    have l0 : w1.cell? ⟨g2, 0, none⟩ = some (.int .i64 0) := hc2 0 _ rfl
    have l1 : w1.cell? ⟨g2, 1, none⟩ = some (.string (tx [112])) := hc2 1 _ rfl
    have l2 : w1.cell? ⟨g2, 2, none⟩ = some (.int .i64 1) := hc2 2 _ rfl
    have l3 : w1.cell? ⟨g2, 3, none⟩ = some (.string (tx [113])) := hc2 3 _ rfl
    have HL := hid (show LkV w1 (.slice (some ⟨g2, 0, none⟩) 1 cp2) [(0, [112], 1, [113])] from ⟨_, _, rfl, Or.inr ⟨g2, 0, rfl, hg2, fun i q hq => by
      rcases i with _ | i
      · have e : q = (0, [112], 1, [113]) := by simpa using hq.symm
        subst e
        exact ⟨l0, l1, l2, l3⟩
      · simp at hq⟩⟩)
    have HB := hid hb
    clear hb hc hc2 hd hl p1 p2 p3 p4 hof hok ha hbb
    simp only [List.length_cons, List.length_nil, Nat.zero_add]
    have hpv : peerV (peerJ 0 [112] [(0, [112], 1, [113])]) = .tuple #[.int .i64 1, .string (tx [113]), .bool true] := rfl
    obtain ⟨W2, hW2⟩ : ∃ W2, W2 = w1.alloc (.cells #[.int .i64 4, .slice (some ⟨g, 0, none⟩) 2 cp, .slice (some ⟨g2, 0, none⟩) 1 cp2] 25) := ⟨_, rfl⟩
    have b2 : Below w1.heap.size w1 W2 := by rw [hW2]; exact (Below.refl _ _).alloc (Nat.le_refl _) _
    have ht : W2.heap[w1.heap.size]? = some (.cells #[.int .i64 4, .slice (some ⟨g, 0, none⟩) 2 cp, .slice (some ⟨g2, 0, none⟩) 1 cp2] 25) := by rw [hW2]; exact new_0 _ _
    have HT := hid ht
    have HB2 := hid b2
    have HPE := hid (oPeer_any (x0 := .int .i64 4) (x1 := .slice (some ⟨g, 0, none⟩) 2 cp) (HL.out.below b2) 0 [112] (fun q hq => by
      have e : q = (0, [112], 1, [113]) := by simpa using hq
      subst e
      exact ⟨by decide, by decide⟩) (by decide))
    rw [hpv] at HPE
    clear b2 ht hpv
    go_wp2_with fail
    rw [← hW2]
    clear hW2
    refine HPE.out.mono ?_
    rintro en w2 ⟨rfl, hb3⟩
    have hs2 : w1.heap.size < W2.heap.size := lt_of_block HT.out
    have hk : ∀ k, k < w1.heap.size → w2.heap[k]? = w1.heap[k]? := fun k q => (hb3.block k (by omega)).trans (HB2.out.block k q)
    have ht2 := (hb3.block _ hs2).trans HT.out
    have t0 : w2.cell? ⟨w1.heap.size, 0, none⟩ = some (.int .i64 4) := by rw [cell_at ht2]; rfl
    have t1 : w2.cell? ⟨w1.heap.size, 1, none⟩ = some (.slice (some ⟨g, 0, none⟩) 2 cp) := by rw [cell_at ht2]; rfl
    have t2 : w2.cell? ⟨w1.heap.size, 2, none⟩ = some (.slice (some ⟨g2, 0, none⟩) 1 cp2) := by rw [cell_at ht2]; rfl
    have e0 := (World.cell?_of_block (a := ⟨g, 0, none⟩) (hk g hg)).trans d0
    have m0 := (World.cell?_of_block (a := ⟨g2, 0, none⟩) (hk g2 hg2)).trans l0
    have m1 := (World.cell?_of_block (a := ⟨g2, 1, none⟩) (hk g2 hg2)).trans l1
    have m2 := (World.cell?_of_block (a := ⟨g2, 2, none⟩) (hk g2 hg2)).trans l2
    have m3 := (World.cell?_of_block (a := ⟨g2, 3, none⟩) (hk g2 hg2)).trans l3
    have HB3 := hid (show Below w.heap.size w w2 from by
      have h1 := HB.out
      have h2 := HB2.out
      exact ⟨hb3.os.trans (h2.os.trans h1.os), hb3.tape.trans (h2.tape.trans h1.tape), hb3.output.trans (h2.output.trans h1.output), by have := hb3.size; have := h1.size; omega, fun i hi => (hk i (by have := h1.size; omega)).trans (h1.block i hi)⟩)
    clear hk ht2 hb3 d0 l0 l1 l2 l3
    go_wp2
    go_ret
    exact ⟨rfl, HB3.out⟩
end Go.Proofs.YtebaopiedlioiaaGreatDoor
namespace Go.Proofs.YtebaopiedlioiaaGreatDoor
open Go.RowKit

theorem NumsV.form {w : World} {v : Value} {zs : List Int} (h : NumsV w v zs) : ∃ ao cap, v = .slice ao zs.length cap ∧ (zs = [] ∨ ∃ g, ao = some ⟨g, 0, none⟩ ∧ g < w.heap.size ∧ ∀ (i : Nat) (z : Int), zs[i]? = some z → w.cell? ⟨g, i, none⟩ = some (.int .i64 z)) := by
  rcases h with ⟨e, rfl⟩ | ⟨g, cap, rfl, h⟩
  · exact ⟨none, 0, by rw [e]; rfl, .inl e⟩
  · exact ⟨_, cap, rfl, .inr ⟨g, rfl, h.lt, fun i z hz => h.cell hz⟩⟩
/-- A topology's box, stored anew. -/
theorem top_box {X : World} {N : Nat} {x0 x1 x2 a b c : Value} (ht : X.heap[N]? = some (topJ x0 x1 x2)) : ∃ V, V = ((X.setCell ⟨N, 0, none⟩ a).setCell ⟨N, 1, none⟩ b).setCell ⟨N, 2, none⟩ c ∧ V.heap[N]? = some (topJ a b c) ∧ Below N X V ∧ (∀ k, k ≠ N → V.heap[k]? = X.heap[k]?) ∧ V.heap.size = X.heap.size := by
  have vt : (((X.setCell ⟨N, 0, none⟩ a).setCell ⟨N, 1, none⟩ b).setCell ⟨N, 2, none⟩ c).heap[N]? = some (topJ a b c) := block_set (o := 2) c (block_set (o := 1) b (block_set (o := 0) a ht))
  refine ⟨_, rfl, vt, ?_, fun k h1 => ?_, by simp⟩
  · repeat (refine Below.setCell ?_ (by dsimp only; omega) _)
    exact Below.refl _ _
  · rw [Below.heap_setCell _ _ _ _ h1, Below.heap_setCell _ _ _ _ h1, Below.heap_setCell _ _ _ _ h1]

set_option maxRecDepth 20000 in
set_option maxHeartbeats 2000000 in
theorem tends_any {w : World} {wd : Int} {dv lv : Option Addr} {N dc M lc : Nat} {ds : List (To.Dv × Value × Value)} {ls : List LkZ} (hD : DvL w (.slice dv N dc) ds) (hL : LkV w (.slice lv M lc) ls) (hN : N ≤ dc) (hM : M ≤ lc) (hz : DvShort ds) (d : Int) (m : List UInt8) :
    Calls Tryz.prog 7 #[.agg #[.int .i64 wd, .slice dv N dc, .slice lv M lc], .int .i64 d, .string (tx m)] w fun e w' => e = .returned (.bool true) ∧ Below w.heap.size w w' := by
  have HAL := hid alive11
  have HFW := hid (fun W => ofew_any (w := W) (wd := wd) hN hM hD.addr hL.addr)
  have HD := hid (hD.take 40)
  have HL := hid (hL.take 40)
  have HZ := hid (hz.take 40)
  obtain ⟨n, hn⟩ : ∃ n, n = min N 40 := ⟨_, rfl⟩
  obtain ⟨k, hk⟩ : ∃ k, k = min M 40 := ⟨_, rfl⟩
  rw [← hn] at HD HFW
  rw [← hk] at HL HFW
  obtain ⟨es, hes⟩ : ∃ es, es = ds.take 40 := ⟨_, rfl⟩
  obtain ⟨js, hjs⟩ : ∃ js, js = ls.take 40 := ⟨_, rfl⟩
  rw [← hes] at HD HZ
  rw [← hjs] at HL
  have hel : es.length ≤ 40 := by rw [hes, List.length_take]; omega
  have hjl : js.length ≤ 40 := by rw [hjs, List.length_take]; omega
  have HCK := hid (fun (W : World) (hb : Below w.heap.size w W) => RCheckT_any (wd := wd) (HD.out.below hb) (HL.out.below hb) HZ.out (Nat.le_trans hel (by decide)) (Nat.le_trans hjl (by decide)))
  have HJL := hid hjl
  clear hD hL hN hM hz hn hk hes hjs hel hjl
  obtain ⟨W0, hW0⟩ : ∃ W0, W0 = w.alloc (topJ (.int .i64 wd) (.slice dv N dc) (.slice lv M lc)) := ⟨_, rfl⟩
  have hb0 : Below w.heap.size w W0 := by rw [hW0]; exact (Below.refl _ _).alloc (Nat.le_refl _) _
  have h0 : W0.heap[w.heap.size]? = some (topJ (.int .i64 wd) (.slice dv N dc) (.slice lv M lc)) := by rw [hW0]; exact new_0 _ _
  have HB0 := hid hb0
  have H0 := hid h0
  clear hb0 h0
  go_enter Tryz.func7, Tryz.ntmps7
  go_wp2_with fail
  rw [← hW0]
  clear hW0
  refine (HFW.out _).mono ?_
  rintro en w1 ⟨rfl, hb1⟩
  have h1 := (hb1.block _ (lt_of_block H0.out)).trans H0.out
  obtain ⟨V, hV, hv0, hvb, hvk, hvs⟩ := top_box (a := .int .i64 wd) (b := .slice dv n dc) (c := .slice lv k lc) h1
  obtain ⟨t0, t1, t2⟩ := topJ_cells hv0
  have HBV := hid (show Below w.heap.size w V from ⟨hvb.os.trans (hb1.os.trans HB0.out.os), hvb.tape.trans (hb1.tape.trans HB0.out.tape), hvb.output.trans (hb1.output.trans HB0.out.output), by have := hb1.size; have := HB0.out.size; omega, fun i hi => by rw [hvk i (by omega), hb1.block i (by have := HB0.out.size; omega), HB0.out.block i hi]⟩)
  have HV0 := hid hv0
  obtain ⟨c0, c1, c2⟩ := topJ_cells h1
  have f0 : w1.frozen? ⟨w.heap.size, 0, none⟩ = false := free_of h1
  have f1 : w1.frozen? ⟨w.heap.size, 1, none⟩ = false := free_of h1
  have f2 : w1.frozen? ⟨w.heap.size, 2, none⟩ = false := free_of h1
  clear hvb hvk hvs hv0 h1 hb1
  obtain ⟨kc, hkc⟩ : ∃ kc, kc = chkT wd (es.map (·.1)) js := ⟨_, rfl⟩
  have HKC := hid hkc
  have HCV := hid (HCK.out V HBV.out)
  rw [← hkc] at HCV
  clear hkc
  go_upto_region 2 with fail
  rw [← hV]
  clear hV c0 c1 c2 f0 f1 f2
  go_wp2_with fail
  refine HCV.out.mono ?_
  rintro en w2 ⟨rfl, hb2⟩
  have HB2 := hid (show Below w.heap.size w w2 from ⟨hb2.os.trans HBV.out.os, hb2.tape.trans HBV.out.tape, hb2.output.trans HBV.out.output, Nat.le_trans HBV.out.size hb2.size, fun i hi => (hb2.block i (by have := HBV.out.size; omega)).trans (HBV.out.block i hi)⟩)
  have HT2 := hid ((hb2.block _ (lt_of_block HV0.out)).trans HV0.out)
  clear hb2 t0 t1 t2
  obtain ⟨t0, t1, t2⟩ := topJ_cells HT2.out
  cases hb : topB wd (es.map (·.1)) js with
  | false =>
    have hkc : kc = 113 := by rw [HKC.out, chkT_bad hb]
    subst hkc
    clear hb
    go_wp2_with fail
    refine (HAL.out _).mono ?_
    rintro en w3 ⟨rfl, hb3⟩
    have HB3 := hid (show Below w.heap.size w w3 from ⟨hb3.os.trans HB2.out.os, hb3.tape.trans HB2.out.tape, hb3.output.trans HB2.out.output, Nat.le_trans HB2.out.size hb3.size, fun i hi => (hb3.block i (by have := HB2.out.size; omega)).trans (HB2.out.block i hi)⟩)
    go_wp2
    go_ret
    exact ⟨rfl, HB3.out⟩
  | true =>
    have hkc : kc = 0 := by rw [HKC.out, chkT_good hb]
    subst hkc
    have HEN := hid (topB_ends hb)
    have HSH := hid (topB_short hb)
    have HPE := hid (fun (W : World) (hb : Below w.heap.size w W) (a : Int) (p : List UInt8) => oPeer_any (x0 := .int .i64 wd) (x1 := .slice dv n dc) (HL.out.below hb) a p HSH.out (Nat.le_trans HJL.out (by decide)))
    clear hb
    cases hp : peerJ d m js with
    | none =>
      have HP1 := hid (HPE.out w2 HB2.out d m)
      rw [hp, show peerV none = .tuple #[.int .i64 0, .string (tx []), .bool false] from rfl] at HP1
      clear hp
      go_wp2_with fail
      refine HP1.out.mono ?_
      rintro en w3 ⟨rfl, hb3⟩
      have HB3 := hid (show Below w.heap.size w w3 from ⟨hb3.os.trans HB2.out.os, hb3.tape.trans HB2.out.tape, hb3.output.trans HB2.out.output, Nat.le_trans HB2.out.size hb3.size, fun i hi => (hb3.block i (by have := HB2.out.size; omega)).trans (HB2.out.block i hi)⟩)
      clear hb3
      go_wp2_with fail
      refine (HAL.out _).mono ?_
      rintro en w4 ⟨rfl, hb4⟩
      have HB4 := hid (show Below w.heap.size w w4 from ⟨hb4.os.trans HB3.out.os, hb4.tape.trans HB3.out.tape, hb4.output.trans HB3.out.output, Nat.le_trans HB3.out.size hb4.size, fun i hi => (hb4.block i (by have := HB3.out.size; omega)).trans (HB3.out.block i hi)⟩)
      go_wp2
      go_ret
      exact ⟨rfl, HB4.out⟩
    | some bq =>
      obtain ⟨b, q⟩ := bq
      have HP1 := hid (HPE.out w2 HB2.out d m)
      rw [hp, show peerV (some (b, q)) = .tuple #[.int .i64 b, .string (tx q), .bool true] from rfl] at HP1
      obtain ⟨hback, x, hx, hxx⟩ := peer_peer HEN.out hp
      have HBK := hid hback
      have HMEM := hid (near_mem hx (show (x.1 = d ∧ x.2.2.1 = b) ∨ (x.2.2.1 = d ∧ x.1 = b) from hxx))
      clear hp hback hx hxx
      go_wp2_with fail
      refine HP1.out.mono ?_
      rintro en w3 ⟨rfl, hb3⟩
      have HB3 := hid (show Below w.heap.size w w3 from ⟨hb3.os.trans HB2.out.os, hb3.tape.trans HB2.out.tape, hb3.output.trans HB2.out.output, Nat.le_trans HB2.out.size hb3.size, fun i hi => (hb3.block i (by have := HB2.out.size; omega)).trans (HB2.out.block i hi)⟩)
      have HT3 := hid ((hb3.block _ (lt_of_block HT2.out)).trans HT2.out)
      clear hb3 t0 t1 t2
      obtain ⟨t0, t1, t2⟩ := topJ_cells HT3.out
      have HP2 := hid (HPE.out w3 HB3.out b q)
      rw [HBK.out, show peerV (some (d, m)) = .tuple #[.int .i64 d, .string (tx m), .bool true] from rfl] at HP2
      go_wp2_with fail
      refine HP2.out.mono ?_
      rintro en w4 ⟨rfl, hb4⟩
      have HB4 := hid (show Below w.heap.size w w4 from ⟨hb4.os.trans HB3.out.os, hb4.tape.trans HB3.out.tape, hb4.output.trans HB3.out.output, Nat.le_trans HB3.out.size hb4.size, fun i hi => (hb4.block i (by have := HB3.out.size; omega)).trans (HB3.out.block i hi)⟩)
      have HT4 := hid ((hb4.block _ (lt_of_block HT3.out)).trans HT3.out)
      clear hb4 t0 t1 t2
      obtain ⟨t0, t1, t2⟩ := topJ_cells HT4.out
      have HNR := hid (oNear_any (x0 := .int .i64 wd) (x1 := .slice dv n dc) (HL.out.below HB4.out) b (Nat.le_trans HJL.out (by decide)))
      go_wp2_with fail
      refine HNR.out.mono ?_
      rintro en w5 ⟨⟨v, rfl, hv⟩, hb5⟩
      have HB5 := hid (show Below w.heap.size w w5 from ⟨hb5.os.trans HB4.out.os, hb5.tape.trans HB4.out.tape, hb5.output.trans HB4.out.output, Nat.le_trans HB4.out.size hb5.size, fun i hi => (hb5.block i (by have := HB4.out.size; omega)).trans (HB4.out.block i hi)⟩)
      clear hb5 t0 t1 t2
      obtain ⟨ao, cp, rfl, hcell⟩ := hv.form
      obtain ⟨L, hL⟩ : ∃ L, L = (nearS b js).length := ⟨_, rfl⟩
      rw [← hL]
      have HLL := hid hL
      have HCL := hid hcell
      have hL63 : L ≤ 80 := by have := nearS_len b js; have := HJL.out; omega
      clear hL hcell hv
      go_wp2_with fail
      go_loopw [14] (fun i wr => ∃ j : Nat, j ≤ L ∧ i = .int .i64 j ∧ Hid (∀ (i : Nat) (z : Int), i < j → (nearS b js)[i]? = some z → ¬ z = d) ∧ Hid (wr = w5)) (fun i _ => L - (intOf i).toNat)
      case atStart => exact ⟨0, Nat.zero_le _, rfl, hid fun i z h => absurd h (Nat.not_lt_zero _), hid rfl⟩
      case round =>
        obtain ⟨j, hj, rfl, hA, hW⟩ := hrel
        obtain rfl := hW.out
        by_cases hlt : j < L
        · obtain ⟨z, hz⟩ : ∃ z, (nearS b js)[j]? = some z := ⟨_, List.getElem?_eq_getElem (by have := HLL.out; omega)⟩
          obtain ⟨g, rfl, hg, hc⟩ := HCL.out.resolve_left (fun e => by rw [e] at hz; simp at hz)
          have y0 := hc j z hz
          have jI : (j : Int) < (L : Int) := by omega
          have j0 : (0 : Int) ≤ (j : Int) := by omega
          have HZJ := hid hz
          clear hc hz
          by_cases he : z = d
          · subst he
            go_wp2_with fail
            refine (HAL.out _).mono ?_
            rintro en w6 ⟨rfl, hb6⟩
            have HB6 := hid (show Below w.heap.size w w6 from ⟨hb6.os.trans HB5.out.os, hb6.tape.trans HB5.out.tape, hb6.output.trans HB5.out.output, Nat.le_trans HB5.out.size hb6.size, fun i hi => (hb6.block i (by have := HB5.out.size; omega)).trans (HB5.out.block i hi)⟩)
            go_wp2
            go_ret
            exact ⟨rfl, HB6.out⟩
          · have he2 : (z == d) = false := by rw [beq_eq_false_iff_ne]; exact he
            have HA2 := hid (show ∀ (i : Nat) (z : Int), i < j + 1 → (nearS b js)[i]? = some z → ¬ z = d from fun i y hi hy => by
              by_cases e : i = j
              · rw [e, HZJ.out] at hy
                injection hy with hy
                rw [← hy]; exact he
              · exact hA.out i y (by omega) hy)
            clear he
            go_wp2
            go_roundw
            case rel => exact ⟨j + 1, by omega, by go_num, HA2, hid trivial⟩
            case measure => simp [intOf]; omega
        · exfalso
          obtain ⟨i, hi⟩ := List.getElem?_of_mem HMEM.out
          exact hA.out i d (by have := (List.getElem?_eq_some_iff.1 hi).1; have := HLL.out; omega) hi rfl
end Go.Proofs.YtebaopiedlioiaaGreatDoor
namespace Go.Proofs.YtebaopiedlioiaaGreatDoor
open Go.RowKit

theorem prtV_form (wd : Int) (ds : List To.Dv) (ls : List LkZ) : ∃ (S : List UInt8) (e : Int), prtV wd ds ls = .tuple #[.string (tx S), .int .i64 e] := by
  unfold prtV
  split
  · exact ⟨_, _, rfl⟩
  · exact ⟨_, _, rfl⟩
theorem tx_eqJ (s : List UInt8) : (tx s == tx s) = true := by
  show (s.toArray == s.toArray) = true
  simp

set_option maxRecDepth 20000 in
set_option maxHeartbeats 4000000 in
theorem tprints_any {w : World} {wd : Int} {dv lv : Option Addr} {N dc M lc : Nat} {ds : List (To.Dv × Value × Value)} {ls : List LkZ} (hD : DvL w (.slice dv N dc) ds) (hL : LkV w (.slice lv M lc) ls) (hN : N ≤ dc) (hM : M ≤ lc) (hz : DvShort ds) (hT : PowTab w) :
    Calls Tryz.prog 4 #[.agg #[.int .i64 wd, .slice dv N dc, .slice lv M lc]] w fun e w' => e = .returned (.bool true) ∧ Below w.heap.size w w' := by
  have HAL := hid alive11
  have HFW := hid (fun W => ofew_any (w := W) (wd := wd) hN hM hD.addr hL.addr)
  have HD := hid (hD.take 40)
  have HL := hid (hL.take 40)
  have HZ := hid (hz.take 40)
  have HT := hid hT
  obtain ⟨n, hn⟩ : ∃ n, n = min N 40 := ⟨_, rfl⟩
  obtain ⟨k, hk⟩ : ∃ k, k = min M 40 := ⟨_, rfl⟩
  rw [← hn] at HD HFW
  rw [← hk] at HL HFW
  obtain ⟨es, hes⟩ : ∃ es, es = ds.take 40 := ⟨_, rfl⟩
  obtain ⟨js, hjs⟩ : ∃ js, js = ls.take 40 := ⟨_, rfl⟩
  rw [← hes] at HD HZ
  rw [← hjs] at HL
  have hel : es.length ≤ 40 := by rw [hes, List.length_take]; omega
  have hjl : js.length ≤ 40 := by rw [hjs, List.length_take]; omega
  obtain ⟨S, ec, hS⟩ := prtV_form wd (es.map (·.1)) js
  obtain ⟨cc, hcc⟩ : ∃ c, c = chkT wd (es.map (·.1)) js := ⟨_, rfl⟩
  have HP := hid (fun (W : World) (hb : Below w.heap.size w W) => oPrintT_any (wd := wd) (HD.out.below hb) (HL.out.below hb) HZ.out (HT.out.below hb))
  have HQ := hid (fun (W : World) (hb : Below w.heap.size w W) => RPrintT_any (wd := wd) (HD.out.below hb) (HL.out.below hb) HZ.out (Nat.le_trans hel (by decide)) (Nat.le_trans hjl (by decide)) (HT.out.below hb))
  have HC := hid (fun (W : World) (hb : Below w.heap.size w W) => oCheckT_any (wd := wd) (HD.out.below hb) (HL.out.below hb) HZ.out)
  have HR := hid (fun (W : World) (hb : Below w.heap.size w W) => RCheckT_any (wd := wd) (HD.out.below hb) (HL.out.below hb) HZ.out (Nat.le_trans hel (by decide)) (Nat.le_trans hjl (by decide)))
  rw [hS] at HP HQ
  rw [← hcc] at HC HR
  clear hD hL hN hM hz hT hn hk hes hjs hel hjl hS hcc HD HL HZ HT
  obtain ⟨W0, hW0⟩ : ∃ W0, W0 = w.alloc (topJ (.int .i64 wd) (.slice dv N dc) (.slice lv M lc)) := ⟨_, rfl⟩
  have hb0 : Below w.heap.size w W0 := by rw [hW0]; exact (Below.refl _ _).alloc (Nat.le_refl _) _
  have h0 : W0.heap[w.heap.size]? = some (topJ (.int .i64 wd) (.slice dv N dc) (.slice lv M lc)) := by rw [hW0]; exact new_0 _ _
  have HB0 := hid hb0
  have H0 := hid h0
  clear hb0 h0
  go_enter Tryz.func4, Tryz.ntmps4
  go_wp2_with fail
  rw [← hW0]
  clear hW0
  refine (HFW.out _).mono ?_
  rintro en w1 ⟨rfl, hb1⟩
  have h1 := (hb1.block _ (lt_of_block H0.out)).trans H0.out
  obtain ⟨V, hV, hv0, hvb, hvk, hvs⟩ := top_box (a := .int .i64 wd) (b := .slice dv n dc) (c := .slice lv k lc) h1
  have I0 := hid (show TpI w (.int .i64 wd) (.slice dv n dc) (.slice lv k lc) V from ⟨hv0, ⟨hvb.os.trans (hb1.os.trans HB0.out.os), hvb.tape.trans (hb1.tape.trans HB0.out.tape), hvb.output.trans (hb1.output.trans HB0.out.output), by have := hb1.size; have := HB0.out.size; omega, fun i hi => by rw [hvk i (by omega), hb1.block i (by have := HB0.out.size; omega), HB0.out.block i hi]⟩⟩)
  obtain ⟨c0, c1, c2⟩ := topJ_cells h1
  have f0 : w1.frozen? ⟨w.heap.size, 0, none⟩ = false := free_of h1
  have f1 : w1.frozen? ⟨w.heap.size, 1, none⟩ = false := free_of h1
  have f2 : w1.frozen? ⟨w.heap.size, 2, none⟩ = false := free_of h1
  obtain ⟨t0, t1, t2⟩ := topJ_cells hv0
  clear hvb hvk hvs hv0 h1 hb1 HB0 H0
  go_upto_region 2 with fail
  rw [← hV]
  clear hV c0 c1 c2 f0 f1 f2
  go_wp2_with fail
  refine (HP.out _ I0.out.below).mono ?_
  rintro en w2 ⟨rfl, hb2⟩
  have I1 := hid (I0.out.on hb2)
  clear hb2 t0 t1 t2
  obtain ⟨t0, t1, t2⟩ := topJ_cells I1.out.top
  go_wp2_with fail
  refine (HQ.out _ I1.out.below).mono ?_
  rintro en w3 ⟨rfl, hb3⟩
  have I2 := hid (I1.out.on hb3)
  clear hb3 t0 t1 t2
  obtain ⟨t0, t1, t2⟩ := topJ_cells I2.out.top
  go_upto_region 4 with fail
  have hSS := tx_eqJ S
  have I3 := hid (show TpI w (.int .i64 wd) (.slice dv n dc) (.slice lv k lc) w3.drew from ⟨I2.out.top, I2.out.below.drew⟩)
  clear t0 t1 t2 I2
  refine wp_region_held_drew (S := (fun W => W.cell? ⟨w.heap.size, 0, none⟩ = some (.int .i64 wd) ∧ W.cell? ⟨w.heap.size, 1, none⟩ = some (.slice dv n dc) ∧ W.cell? ⟨w.heap.size, 2, none⟩ = some (.slice lv k lc))) (by kernel_rfl) ?hSp0 (fun hHeld => ?_)
  case hSp0 => exact topJ_cells I3.out.top
  refine tkH (i := 0) (v := ?vp0) rfl (by kernel_rfl) (by kernel_rfl) (by kernel_rfl) (fun _ _ _ h => h) (by rfl) ?yp0 (by assumption) ?rp0
  case yp0 => (intro w hSw; (try dsimp only at hSw); go_simp; (try with_reducible rfl))
  (try simp only [Act.put, List.setIfInBounds_toArray, List.set_cons_zero, List.set_cons_succ])
  refine tkH (i := 1) (v := ?vp1) rfl (by kernel_rfl) (by kernel_rfl) (by kernel_rfl) (fun _ _ _ h => h) (by rfl) ?yp1 (by assumption) ?rp1
  case yp1 => (intro w hSw; (try dsimp only at hSw); go_simp; (try with_reducible rfl))
  (try simp only [Act.put, List.setIfInBounds_toArray, List.set_cons_zero, List.set_cons_succ])
  refine tkH (i := 2) (v := ?vp2) rfl (by kernel_rfl) (by kernel_rfl) (by kernel_rfl) (fun _ _ _ h => h) (by rfl) ?yp2 (by assumption) ?rp2
  case yp2 => (intro w hSw; (try dsimp only at hSw); go_simp; (try with_reducible rfl))
  (try simp only [Act.put, List.setIfInBounds_toArray, List.set_cons_zero, List.set_cons_succ])
  refine tkH (i := 3) (v := ?vp3) rfl (by kernel_rfl) (by kernel_rfl) (by kernel_rfl) (fun _ _ _ h => h) (by rfl) ?yp3 (by assumption) ?rp3
  case yp3 => (intro w hSw; (try dsimp only at hSw); go_simp; (try with_reducible rfl))
  (try simp only [Act.put, List.setIfInBounds_toArray, List.set_cons_zero, List.set_cons_succ])
  refine tkH (i := 4) (v := ?vp4) rfl (by kernel_rfl) (by kernel_rfl) (by kernel_rfl) (fun _ _ _ h => h) (by rfl) ?yp4 (by assumption) ?rp4
  case yp4 => (intro w hSw; (try dsimp only at hSw); go_simp; (try with_reducible rfl))
  (try simp only [Act.put, List.setIfInBounds_toArray, List.set_cons_zero, List.set_cons_succ])
  refine tkH (i := 5) (v := ?vp5) rfl (by kernel_rfl) (by kernel_rfl) (by kernel_rfl) (fun _ _ _ h => h) (by rfl) ?yp5 (by assumption) ?rp5
  case yp5 => (intro w hSw; (try dsimp only at hSw); go_simp; (try with_reducible rfl))
  (try simp only [Act.put, List.setIfInBounds_toArray, List.set_cons_zero, List.set_cons_succ])
  refine tkH (i := 6) (v := ?vp6) rfl (by kernel_rfl) (by kernel_rfl) (by kernel_rfl) (fun _ _ _ h => h) (by rfl) ?yp6 (by assumption) ?rp6
  case yp6 => (intro w hSw; (try dsimp only at hSw); go_simp; (try with_reducible rfl))
  (try simp only [Act.put, List.setIfInBounds_toArray, List.set_cons_zero, List.set_cons_succ])
  refine tkH (i := 7) (v := ?vp7) rfl (by kernel_rfl) (by kernel_rfl) (by kernel_rfl) (fun _ _ _ h => h) (by rfl) ?yp7 (by assumption) ?rp7
  case yp7 => (intro w hSw; (try dsimp only at hSw); go_simp; (try with_reducible rfl))
  (try simp only [Act.put, List.setIfInBounds_toArray, List.set_cons_zero, List.set_cons_succ])
  refine tkH (i := 8) (v := ?vp8) rfl (by kernel_rfl) (by kernel_rfl) (by kernel_rfl) (fun _ _ _ h => h) (by rfl) ?yp8 (by assumption) ?rp8
  case yp8 => (intro w hSw; (try dsimp only at hSw); go_simp; (try with_reducible rfl))
  (try simp only [Act.put, List.setIfInBounds_toArray, List.set_cons_zero, List.set_cons_succ])
  refine tkH (i := 9) (v := ?vp9) rfl (by kernel_rfl) (by kernel_rfl) (by kernel_rfl) (fun _ _ _ h => h) (by rfl) ?yp9 (by assumption) ?rp9
  case yp9 => (intro w hSw; (try dsimp only at hSw); go_simp; (try with_reducible rfl))
  (try simp only [Act.put, List.setIfInBounds_toArray, List.set_cons_zero, List.set_cons_succ])
  refine tkH (i := 11) (v := ?vp11) rfl (by kernel_rfl) (by kernel_rfl) (by kernel_rfl) (fun _ _ _ h => h) (by rfl) ?yp11 (by assumption) ?rp11
  case yp11 => (intro w hSw; (try dsimp only at hSw); go_simp; (try with_reducible rfl))
  (try simp only [Act.put, List.setIfInBounds_toArray, List.set_cons_zero, List.set_cons_succ])
  refine caH (i := 10) rfl (by kernel_rfl) (by rfl) (fun K hK => ?_)
  go_simp
  refine (HC.out _ I3.out.below).mono ?_
  rintro en w4 ⟨rfl, hb⟩
  have I4 := hid (I3.out.on hb)
  clear hb
  refine hK.out _ _ (topJ_cells I4.out.top) (fun hHeld => ?_)
  clear hK K
  (try simp only [Act.put, List.setIfInBounds_toArray, List.set_cons_zero, List.set_cons_succ])
  refine caH (i := 12) rfl (by kernel_rfl) (by rfl) (fun K hK => ?_)
  go_simp
  refine (HR.out _ I4.out.below).mono ?_
  rintro en w5 ⟨rfl, hb⟩
  have I5 := hid (I4.out.on hb)
  clear hb
  refine hK.out _ _ (topJ_cells I5.out.top) (fun hHeld => ?_)
  clear hK K
  (try simp only [Act.put, List.setIfInBounds_toArray, List.set_cons_zero, List.set_cons_succ])
  refine tkH (i := 13) (v := ?vp13) rfl (by kernel_rfl) (by kernel_rfl) (by kernel_rfl) (fun _ _ _ h => h) (by rfl) ?yp13 (by assumption) ?rp13
  case yp13 => (intro w hSw; (try dsimp only at hSw); go_simp; (try with_reducible rfl))
  (try simp only [Act.put, List.setIfInBounds_toArray, List.set_cons_zero, List.set_cons_succ])
  refine tkH (i := 14) (v := ?vp14) rfl (by kernel_rfl) (by kernel_rfl) (by kernel_rfl) (fun _ _ _ h => h) (by rfl) ?yp14 (by assumption) ?rp14
  case yp14 => (intro w hSw; (try dsimp only at hSw); go_simp; (try with_reducible rfl))
  (try simp only [Act.put, List.setIfInBounds_toArray, List.set_cons_zero, List.set_cons_succ])
  refine tkH (i := 15) (v := ?vp15) rfl (by kernel_rfl) (by kernel_rfl) (by kernel_rfl) (fun _ _ _ h => h) (by rfl) ?yp15 (by assumption) ?rp15
  case yp15 => (intro w hSw; (try dsimp only at hSw); go_simp; (try with_reducible rfl))
  (try simp only [Act.put, List.setIfInBounds_toArray, List.set_cons_zero, List.set_cons_succ])
  refine caH (i := 16) rfl (by kernel_rfl) (by rfl) (fun K hK => ?_)
  go_simp
  refine (HAL.out _).mono ?_
  rintro en w6 ⟨rfl, hb⟩
  have I6 := hid (I5.out.on hb)
  clear hb
  refine hK.out _ _ (topJ_cells I6.out.top) (fun hHeld => ?_)
  clear hK K
  (try simp only [Act.put, List.setIfInBounds_toArray, List.set_cons_zero, List.set_cons_succ])
  refine tkH (i := 17) (v := ?vp17) rfl (by kernel_rfl) (by kernel_rfl) (by kernel_rfl) (fun _ _ _ h => h) (by rfl) ?yp17 (by assumption) ?rp17
  case yp17 => (intro w hSw; (try dsimp only at hSw); go_simp; (try with_reducible rfl))
  (try simp only [Act.put, List.setIfInBounds_toArray, List.set_cons_zero, List.set_cons_succ])
  refine tkH (i := 18) (v := ?vp18) rfl (by kernel_rfl) (by kernel_rfl) (by kernel_rfl) (fun _ _ _ h => h) (by rfl) ?yp18 (by assumption) ?rp18
  case yp18 => (intro w hSw; (try dsimp only at hSw); go_simp; (try with_reducible rfl))
  (try simp only [Act.put, List.setIfInBounds_toArray, List.set_cons_zero, List.set_cons_succ])
  refine wpAnyH_done (by kernel_rfl) ?_ _
  go_wp2
  go_ret
  exact ⟨rfl, I6.out.below⟩
end Go.Proofs.YtebaopiedlioiaaGreatDoor
namespace Go.Proofs.YtebaopiedlioiaaGreatDoor
open Go.ChangeShapes Go.WideShapes Go.ChangeAt Go.RowKit
open Go.ChangeMaps (open_string shut_string)

theorem JCPrt.laidOut : laidOutB Tryz.prog = true := by kernel_rfl
theorem JCPrt.pow {W : World} (h : laidMetH Tryz.prog Rows.topoPrintsRow.laid W) : PowTab W := by
  rw [MakeChecks.laidMetH_plain _ _ _ (by kernel_rfl)] at h
  have hF := h.filter (fun x => x.1 == "internal/strconv.uint64pow10")
  rw [show Rows.topoPrintsRow.laid.filter (fun x => x.1 == "internal/strconv.uint64pow10") = [("internal/strconv.uint64pow10", Lib.tabData .u64 Lib.pow10Tab)] by kernel_rfl] at hF
  exact Lib.tabIs_of_head (g := 0) (t := 220) (e := 184) (n := 20) (by kernel_rfl) (by kernel_rfl) (by kernel_rfl) (by kernel_rfl) (by kernel_rfl) (by kernel_rfl) hF
theorem JCPrt.own : ownKnob Tryz.prog.godebug = none := by kernel_rfl

set_option maxRecDepth 100000 in
set_option maxHeartbeats 2000000 in
theorem JCPrt.lifted (os : Os) (started : os.Started) (H : Type) (enc : TypeId × Value → H) :
    ReturnsInHanded {} Tryz.checked os 4 .any (fun w args => (Rows.topoPrintsSpec.pre enc Tryz.prog Tryz.f4 [] false w args ∧ laidMetH Tryz.prog Rows.topoPrintsRow.laid w) ∧ sizedMet enc Tryz.prog Tryz.f4 (OpenSpec.ofChange Rows.topoPrintsSpec) false w args)
      (Rows.topoPrintsSpec.post enc Tryz.prog Tryz.f4 false true false false) := by
  refine returnsInHanded_of_change_and (C := Tryz.checked) (X := fun w _ => laidMetH Tryz.prog Rows.topoPrintsRow.laid w) (fun _ _ _ hh h => h.of_heap hh) JCPrt.own started (by kernel_rfl) Tryz.func4
    (ChangeSpec.witness_shaped (enc := enc) (C := Tryz.checked) (os := os) (X := fun w _ => laidMetH Tryz.prog Rows.topoPrintsRow.laid w) false (World.laidAll Tryz.prog os Rows.topoPrintsRow.laid) #[.agg #[.int .i64 0, .slice none 0 0, .slice none 0 0]] 8 (World.laidAll_os _ _ _)
      (World.shaped_of_ZipB (by kernel_rfl) (by kernel_rfl)) (by kernel_rfl) (by kernel_rfl) (by kernel_rfl)
      (by rw [MakeChecks.laidMetH_plain _ _ _ (by kernel_rfl)]; exact laidMet_laidAll _ (by kernel_rfl) (by kernel_rfl))) ?_
  intro W base args ds gs before hval0 hW _ _ hL0w _
  have hval : ∀ (j : Nat) t v, Tryz.f4.params[j]? = some t → args[j]? = some v → Value.okWide Tryz.prog W .any base t v := hval0
  have hW' := hW
  obtain ⟨p, q, hA0, hV, rfl, _, _⟩ := hW
  have hA : DataW.TrodAll enc Tryz.prog W 0 (fun _ => true) true Tryz.f4.params.toList args.toList ds p := hA0
  rw [Tryz.params4] at hA hval
  obtain ⟨v0, vs0, d0, ds0, p0, q0, hargs, rfl, rfl, h0, r0⟩ := trodAll_cons hA
  obtain ⟨hnil, rfl, rfl⟩ := trodAll_nil r0
  obtain rfl : args = #[v0] := by cases args; simp_all
  obtain ⟨rfl, rfl⟩ := trodVars_none hV
  obtain ⟨fs, hfs, _⟩ := structOfJ (P := Tryz.prog) (t := 25) (l := [(3, 0), (22, 1), (23, 2)]) (by kernel_rfl)
  obtain ⟨cs0, rfl, hcs0⟩ := okWide_struct hfs (hval 0 25 v0 rfl rfl)
  have k0 := h0
  have lt0 : ∀ x ∈ p0, x.block < W.heap.size := by obtain ⟨m, hm⟩ := k0; exact DataW.trod_lt m _ _ _ hm
  obtain ⟨wd0, dv0, N0, dc0, lv0, M0, lc0, es0, js0, hr0, hD0, hL0, hN0, hM0, hn0, hm0, hz0, hs0⟩ : ∃ (wd : Int) (dv : Option Addr) (N dc : Nat) (lv : Option Addr) (M lc : Nat) (ds : List (To.Dv × Value × Value)) (ls : List LkZ), cs0 = #[.int .i64 wd, .slice dv N dc, .slice lv M lc] ∧ DvL W (.slice dv N dc) ds ∧ LkV W (.slice lv M lc) ls ∧ N ≤ dc ∧ M ≤ lc ∧ N ≤ maxLen ∧ M ≤ maxLen ∧ DvShort ds ∧ LkShort ls := by
    obtain ⟨m, hm⟩ := h0
    obtain ⟨wd, dv, N, dc, lv, M, lc, ds, ls, e1, e2⟩ := open_topo hm
    refine ⟨wd, dv, N, dc, lv, M, lc, ds, ls, ?_, e2⟩
    apply Array.toList_inj.1
    simpa [Value.cells] using e1
  subst hr0
  simp only [List.append_nil] at hW'
  refine (tprints_any (wd := wd0) hD0 hL0 hN0 hM0 hz0 (JCPrt.pow hL0w)).mono fun e W' ⟨he, hb⟩ => ?_
  subst he
  exact ⟨_, rfl, _, _, _, [], _, [], hW', trodAll_mk1 (shut_bool Tryz.underlying4 _), (trodAll_cons_mk (Below.trod JCPrt.laidOut (by kernel_rfl) (of_decide_eq_true (by kernel_rfl)) k0 hb lt0) trodAll_mk0), rfl, hb.frame _, fun h => by cases h⟩

theorem JCPrt.holds : Rows.TopoPrintsSaid :=
  OpenClaim.holds_of_wide 4 Tryz.f4 rfl rfl rfl rfl rfl rfl rfl ⟨rfl, rfl, rfl, rfl, rfl⟩ rfl rfl rfl rfl rfl (by kernel_rfl) Tryz.func4 (by kernel_rfl)
    (of_decide_eq_true (by kernel_rfl)) (by unfold Func.isWrapper; first | (rw [if_pos (by decide +kernel)]; kernel_rfl) | (rw [if_neg (by decide +kernel)]; exact ⟨rfl, rfl⟩))
    (fun os started H enc _ => JCPrt.lifted os started H enc)

theorem TopoPrints_holds : Rows.TopoPrintsCardSaid :=
  Claim7.holds_tied_plain_at .later [] [.data, .data, .data, .data, .pinned] true (true, "0620ee3e491877ded258c3de5b83ee95dbbb9082b4e3ac5f8d4f2dfacaa3ec88") false JCPrt.holds (fun _ h => by cases h) (by kernel_rfl) (fun _ h => by cases h) topoPrints_row_tie rfl ⟨rfl, rfl⟩ (by kernel_rfl) rfl
    (fun f fn hf hfn => by
      obtain rfl : f = 4 := Option.some.inj ((show Tryz.prog.funcNamed "milestone/milestonelaw11.TopoPrints" = some 4 by kernel_rfl).symm.trans hf) |>.symm
      obtain rfl : fn = Tryz.f4 := (Option.some.inj (Tryz.func4.symm.trans hfn)).symm
      exact ⟨by kernel_rfl, fun j t ht => by
        rw [Tryz.params4] at ht
        have hm : t ∈ [25] := by simpa using Array.mem_of_getElem? ht
        have hall : ([25].all fun u => !Tryz.prog.wantsStandIn u) = true := by kernel_rfl
        exact (show Tryz.prog.wantsStandIn t = false by simpa using List.all_eq_true.1 hall t hm)⟩)
    (by kernel_rfl)
#print axioms TopoPrints_holds
end Go.Proofs.YtebaopiedlioiaaGreatDoor
