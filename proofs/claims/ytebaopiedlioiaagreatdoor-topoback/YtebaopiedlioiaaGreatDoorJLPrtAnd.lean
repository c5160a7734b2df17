/-
  The program's Same of any two topologies.
  slices.Equal of texts and of links.
  The document's Same of any two topologies.
  The document's Same of two topologies, exactly; its Texts.
  The law TopoPrints: which topologies may be, and the text of each.
-/
import Derived.Test.YtebaopiedlioiaaGreatDoorWRefYAnd
import Derived.Test.YtebaopiedlioiaaGreatDoorJSrtIAnd
import Derived.Test.YtebaopiedlioiaaGreatDoorJDocKAnd
namespace Go.Proofs.YtebaopiedlioiaaGreatDoor
open Go.RowKit

theorem prtV_form (wd : Int) (ds : List To.Dv) (ls : List LkZ) : ∃ (S : List UInt8) (e : Int), prtV wd ds ls = .tuple #[.string (tx S), .int .i64 e] := by
  unfold prtV
  split
  · exact ⟨_, _, rfl⟩
  · exact ⟨_, _, rfl⟩
theorem tx_eqJ (s : List UInt8) : (tx s == tx s) = true := by
  show (s.toArray == s.toArray) = true
  simp

set_option maxRecDepth 20000 in
set_option maxHeartbeats 4000000 in
theorem tprints_any {w : World} {wd : Int} {dv lv : Option Addr} {N dc M lc : Nat} {ds : List (To.Dv × Value × Value)} {ls : List LkZ} (hD : DvL w (.slice dv N dc) ds) (hL : LkV w (.slice lv M lc) ls) (hN : N ≤ dc) (hM : M ≤ lc) (hz : DvShort ds) (hT : PowTab w) :
    Calls Tryz.prog 4 #[.agg #[.int .i64 wd, .slice dv N dc, .slice lv M lc]] w fun e w' => e = .returned (.bool true) ∧ Below w.heap.size w w' := by
  have HAL := hid alive11
  have HFW := hid (fun W => ofew_any (w := W) (wd := wd) hN hM hD.addr hL.addr)
  have HD := hid (hD.take 40)
  have HL := hid (hL.take 40)
  have HZ := hid (hz.take 40)
  have HT := hid hT
  obtain ⟨n, hn⟩ : ∃ n, n = min N 40 := ⟨_, rfl⟩
  obtain ⟨k, hk⟩ : ∃ k, k = min M 40 := ⟨_, rfl⟩
  rw [← hn] at HD HFW
  rw [← hk] at HL HFW
  obtain ⟨es, hes⟩ : ∃ es, es = ds.take 40 := ⟨_, rfl⟩
  obtain ⟨js, hjs⟩ : ∃ js, js = ls.take 40 := ⟨_, rfl⟩
  rw [← hes] at HD HZ
  rw [← hjs] at HL
  have hel : es.length ≤ 40 := by rw [hes, List.length_take]; omega
  have hjl : js.length ≤ 40 := by rw [hjs, List.length_take]; omega
  obtain ⟨S, ec, hS⟩ := prtV_form wd (es.map (·.1)) js
  obtain ⟨cc, hcc⟩ : ∃ c, c = chkT wd (es.map (·.1)) js := ⟨_, rfl⟩
  have HP := hid (fun (W : World) (hb : Below w.heap.size w W) => oPrintT_any (wd := wd) (HD.out.below hb) (HL.out.below hb) HZ.out (HT.out.below hb))
  have HQ := hid (fun (W : World) (hb : Below w.heap.size w W) => RPrintT_any (wd := wd) (HD.out.below hb) (HL.out.below hb) HZ.out (Nat.le_trans hel (by decide)) (Nat.le_trans hjl (by decide)) (HT.out.below hb))
  have HC := hid (fun (W : World) (hb : Below w.heap.size w W) => oCheckT_any (wd := wd) (HD.out.below hb) (HL.out.below hb) HZ.out)
  have HR := hid (fun (W : World) (hb : Below w.heap.size w W) => RCheckT_any (wd := wd) (HD.out.below hb) (HL.out.below hb) HZ.out (Nat.le_trans hel (by decide)) (Nat.le_trans hjl (by decide)))
  rw [hS] at HP HQ
  rw [← hcc] at HC HR
  clear hD hL hN hM hz hT hn hk hes hjs hel hjl hS hcc HD HL HZ HT
  obtain ⟨W0, hW0⟩ : ∃ W0, W0 = w.alloc (topJ (.int .i64 wd) (.slice dv N dc) (.slice lv M lc)) := ⟨_, rfl⟩
  have hb0 : Below w.heap.size w W0 := by rw [hW0]; exact (Below.refl _ _).alloc (Nat.le_refl _) _
  have h0 : W0.heap[w.heap.size]? = some (topJ (.int .i64 wd) (.slice dv N dc) (.slice lv M lc)) := by rw [hW0]; exact new_0 _ _
  have HB0 := hid hb0
  have H0 := hid h0
  clear hb0 h0
  go_enter Tryz.func4, Tryz.ntmps4
  go_wp2_with fail
  rw [← hW0]
  clear hW0
  refine (HFW.out _).mono ?_
  rintro en w1 ⟨rfl, hb1⟩
  have h1 := (hb1.block _ (lt_of_block H0.out)).trans H0.out
  obtain ⟨V, hV, hv0, hvb, hvk, hvs⟩ := top_box (a := .int .i64 wd) (b := .slice dv n dc) (c := .slice lv k lc) h1
  have I0 := hid (show TpI w (.int .i64 wd) (.slice dv n dc) (.slice lv k lc) V from ⟨hv0, ⟨hvb.os.trans (hb1.os.trans HB0.out.os), hvb.tape.trans (hb1.tape.trans HB0.out.tape), hvb.output.trans (hb1.output.trans HB0.out.output), by have := hb1.size; have := HB0.out.size; omega, fun i hi => by rw [hvk i (by omega), hb1.block i (by have := HB0.out.size; omega), HB0.out.block i hi]⟩⟩)
  obtain ⟨c0, c1, c2⟩ := topJ_cells h1
  have f0 : w1.frozen? ⟨w.heap.size, 0, none⟩ = false := free_of h1
  have f1 : w1.frozen? ⟨w.heap.size, 1, none⟩ = false := free_of h1
  have f2 : w1.frozen? ⟨w.heap.size, 2, none⟩ = false := free_of h1
  obtain ⟨t0, t1, t2⟩ := topJ_cells hv0
  clear hvb hvk hvs hv0 h1 hb1 HB0 H0
  go_upto_region 2 with fail
  rw [← hV]
  clear hV c0 c1 c2 f0 f1 f2
  go_wp2_with fail
  refine (HP.out _ I0.out.below).mono ?_
  rintro en w2 ⟨rfl, hb2⟩
  have I1 := hid (I0.out.on hb2)
  clear hb2 t0 t1 t2
  obtain ⟨t0, t1, t2⟩ := topJ_cells I1.out.top
  go_wp2_with fail
  refine (HQ.out _ I1.out.below).mono ?_
  rintro en w3 ⟨rfl, hb3⟩
  have I2 := hid (I1.out.on hb3)
  clear hb3 t0 t1 t2
  obtain ⟨t0, t1, t2⟩ := topJ_cells I2.out.top
  go_upto_region 4 with fail
  have hSS := tx_eqJ S
  have I3 := hid (show TpI w (.int .i64 wd) (.slice dv n dc) (.slice lv k lc) w3.drew from ⟨I2.out.top, I2.out.below.drew⟩)
  clear t0 t1 t2 I2
  refine wp_region_held_drew (S := (fun W => W.cell? ⟨w.heap.size, 0, none⟩ = some (.int .i64 wd) ∧ W.cell? ⟨w.heap.size, 1, none⟩ = some (.slice dv n dc) ∧ W.cell? ⟨w.heap.size, 2, none⟩ = some (.slice lv k lc))) (by kernel_rfl) ?hSp0 (fun hHeld => ?_)
  case hSp0 => exact topJ_cells I3.out.top
  refine tkH (i := 0) (v := ?vp0) rfl (by kernel_rfl) (by kernel_rfl) (by kernel_rfl) (fun _ _ _ h => h) (by rfl) ?yp0 (by assumption) ?rp0
  case yp0 => (intro w hSw; (try dsimp only at hSw); go_simp; (try with_reducible rfl))
  (try simp only [Act.put, List.setIfInBounds_toArray, List.set_cons_zero, List.set_cons_succ])
  refine tkH (i := 1) (v := ?vp1) rfl (by kernel_rfl) (by kernel_rfl) (by kernel_rfl) (fun _ _ _ h => h) (by rfl) ?yp1 (by assumption) ?rp1
  case yp1 => (intro w hSw; (try dsimp only at hSw); go_simp; (try with_reducible rfl))
  (try simp only [Act.put, List.setIfInBounds_toArray, List.set_cons_zero, List.set_cons_succ])
  refine tkH (i := 2) (v := ?vp2) rfl (by kernel_rfl) (by kernel_rfl) (by kernel_rfl) (fun _ _ _ h => h) (by rfl) ?yp2 (by assumption) ?rp2
  case yp2 => (intro w hSw; (try dsimp only at hSw); go_simp; (try with_reducible rfl))
  (try simp only [Act.put, List.setIfInBounds_toArray, List.set_cons_zero, List.set_cons_succ])
  refine tkH (i := 3) (v := ?vp3) rfl (by kernel_rfl) (by kernel_rfl) (by kernel_rfl) (fun _ _ _ h => h) (by rfl) ?yp3 (by assumption) ?rp3
  case yp3 => (intro w hSw; (try dsimp only at hSw); go_simp; (try with_reducible rfl))
  (try simp only [Act.put, List.setIfInBounds_toArray, List.set_cons_zero, List.set_cons_succ])
  refine tkH (i := 4) (v := ?vp4) rfl (by kernel_rfl) (by kernel_rfl) (by kernel_rfl) (fun _ _ _ h => h) (by rfl) ?yp4 (by assumption) ?rp4
  case yp4 => (intro w hSw; (try dsimp only at hSw); go_simp; (try with_reducible rfl))
  (try simp only [Act.put, List.setIfInBounds_toArray, List.set_cons_zero, List.set_cons_succ])
  refine tkH (i := 5) (v := ?vp5) rfl (by kernel_rfl) (by kernel_rfl) (by kernel_rfl) (fun _ _ _ h => h) (by rfl) ?yp5 (by assumption) ?rp5
  case yp5 => (intro w hSw; (try dsimp only at hSw); go_simp; (try with_reducible rfl))
  (try simp only [Act.put, List.setIfInBounds_toArray, List.set_cons_zero, List.set_cons_succ])
  refine tkH (i := 6) (v := ?vp6) rfl (by kernel_rfl) (by kernel_rfl) (by kernel_rfl) (fun _ _ _ h => h) (by rfl) ?yp6 (by assumption) ?rp6
  case yp6 => (intro w hSw; (try dsimp only at hSw); go_simp; (try with_reducible rfl))
  (try simp only [Act.put, List.setIfInBounds_toArray, List.set_cons_zero, List.set_cons_succ])
  refine tkH (i := 7) (v := ?vp7) rfl (by kernel_rfl) (by kernel_rfl) (by kernel_rfl) (fun _ _ _ h => h) (by rfl) ?yp7 (by assumption) ?rp7
  case yp7 => (intro w hSw; (try dsimp only at hSw); go_simp; (try with_reducible rfl))
  (try simp only [Act.put, List.setIfInBounds_toArray, List.set_cons_zero, List.set_cons_succ])
  refine tkH (i := 8) (v := ?vp8) rfl (by kernel_rfl) (by kernel_rfl) (by kernel_rfl) (fun _ _ _ h => h) (by rfl) ?yp8 (by assumption) ?rp8
  case yp8 => (intro w hSw; (try dsimp only at hSw); go_simp; (try with_reducible rfl))
  (try simp only [Act.put, List.setIfInBounds_toArray, List.set_cons_zero, List.set_cons_succ])
  refine tkH (i := 9) (v := ?vp9) rfl (by kernel_rfl) (by kernel_rfl) (by kernel_rfl) (fun _ _ _ h => h) (by rfl) ?yp9 (by assumption) ?rp9
  case yp9 => (intro w hSw; (try dsimp only at hSw); go_simp; (try with_reducible rfl))
  (try simp only [Act.put, List.setIfInBounds_toArray, List.set_cons_zero, List.set_cons_succ])
  refine tkH (i := 11) (v := ?vp11) rfl (by kernel_rfl) (by kernel_rfl) (by kernel_rfl) (fun _ _ _ h => h) (by rfl) ?yp11 (by assumption) ?rp11
  case yp11 => (intro w hSw; (try dsimp only at hSw); go_simp; (try with_reducible rfl))
  (try simp only [Act.put, List.setIfInBounds_toArray, List.set_cons_zero, List.set_cons_succ])
  refine caH (i := 10) rfl (by kernel_rfl) (by rfl) (fun K hK => ?_)
  go_simp
  refine (HC.out _ I3.out.below).mono ?_
  rintro en w4 ⟨rfl, hb⟩
  have I4 := hid (I3.out.on hb)
  clear hb
  refine hK.out _ _ (topJ_cells I4.out.top) (fun hHeld => ?_)
  clear hK K
  (try simp only [Act.put, List.setIfInBounds_toArray, List.set_cons_zero, List.set_cons_succ])
  refine caH (i := 12) rfl (by kernel_rfl) (by rfl) (fun K hK => ?_)
  go_simp
  refine (HR.out _ I4.out.below).mono ?_
  rintro en w5 ⟨rfl, hb⟩
  have I5 := hid (I4.out.on hb)
  clear hb
  refine hK.out _ _ (topJ_cells I5.out.top) (fun hHeld => ?_)
  clear hK K
  (try simp only [Act.put, List.setIfInBounds_toArray, List.set_cons_zero, List.set_cons_succ])
  refine tkH (i := 13) (v := ?vp13) rfl (by kernel_rfl) (by kernel_rfl) (by kernel_rfl) (fun _ _ _ h => h) (by rfl) ?yp13 (by assumption) ?rp13
  case yp13 => (intro w hSw; (try dsimp only at hSw); go_simp; (try with_reducible rfl))
  (try simp only [Act.put, List.setIfInBounds_toArray, List.set_cons_zero, List.set_cons_succ])
  refine tkH (i := 14) (v := ?vp14) rfl (by kernel_rfl) (by kernel_rfl) (by kernel_rfl) (fun _ _ _ h => h) (by rfl) ?yp14 (by assumption) ?rp14
  case yp14 => (intro w hSw; (try dsimp only at hSw); go_simp; (try with_reducible rfl))
  (try simp only [Act.put, List.setIfInBounds_toArray, List.set_cons_zero, List.set_cons_succ])
  refine tkH (i := 15) (v := ?vp15) rfl (by kernel_rfl) (by kernel_rfl) (by kernel_rfl) (fun _ _ _ h => h) (by rfl) ?yp15 (by assumption) ?rp15
  case yp15 => (intro w hSw; (try dsimp only at hSw); go_simp; (try with_reducible rfl))
  (try simp only [Act.put, List.setIfInBounds_toArray, List.set_cons_zero, List.set_cons_succ])
  refine caH (i := 16) rfl (by kernel_rfl) (by rfl) (fun K hK => ?_)
  go_simp
  refine (HAL.out _).mono ?_
  rintro en w6 ⟨rfl, hb⟩
  have I6 := hid (I5.out.on hb)
  clear hb
  refine hK.out _ _ (topJ_cells I6.out.top) (fun hHeld => ?_)
  clear hK K
  (try simp only [Act.put, List.setIfInBounds_toArray, List.set_cons_zero, List.set_cons_succ])
  refine tkH (i := 17) (v := ?vp17) rfl (by kernel_rfl) (by kernel_rfl) (by kernel_rfl) (fun _ _ _ h => h) (by rfl) ?yp17 (by assumption) ?rp17
  case yp17 => (intro w hSw; (try dsimp only at hSw); go_simp; (try with_reducible rfl))
  (try simp only [Act.put, List.setIfInBounds_toArray, List.set_cons_zero, List.set_cons_succ])
  refine tkH (i := 18) (v := ?vp18) rfl (by kernel_rfl) (by kernel_rfl) (by kernel_rfl) (fun _ _ _ h => h) (by rfl) ?yp18 (by assumption) ?rp18
  case yp18 => (intro w hSw; (try dsimp only at hSw); go_simp; (try with_reducible rfl))
  (try simp only [Act.put, List.setIfInBounds_toArray, List.set_cons_zero, List.set_cons_succ])
  refine wpAnyH_done (by kernel_rfl) ?_ _
  go_wp2
  go_ret
  exact ⟨rfl, I6.out.below⟩
end Go.Proofs.YtebaopiedlioiaaGreatDoor
namespace Go.Proofs.YtebaopiedlioiaaGreatDoor
open Go.RowKit

set_option maxRecDepth 20000 in
set_option maxHeartbeats 2000000 in
theorem RTexts_exact {w : World} {v1 v2 : Value} {xs ys : List (List UInt8)} (h1 : Txs w v1 xs) (h2 : Txs w v2 ys) (hn : xs.length ≤ maxLen) (hm : ys.length ≤ maxLen) :
    Calls Tryz.prog 36 #[v1, v2] w fun e w' => e = .returned (.bool (decide (xs = ys))) ∧ ∃ n, w' = w.drewN n := by
  obtain ⟨a1, c1, rfl, r1⟩ := h1
  obtain ⟨a2, c2, rfl, r2⟩ := h2
  have HR1 := hid r1
  have HR2 := hid r2
  obtain ⟨n, hnn⟩ : ∃ n, n = xs.length := ⟨_, rfl⟩
  obtain ⟨m, hmm⟩ : ∃ m, m = ys.length := ⟨_, rfl⟩
  have HN := hid hnn
  have HM := hid hmm
  rw [← hnn] at hn ⊢
  rw [← hmm] at hm ⊢
  unfold maxLen at hn hm
  clear r1 r2 hnn hmm
  by_cases hq : n = m
  · subst hq
    have hne : ((n : Int) != (n : Int)) = false := by simp
    go_enter Tryz.func36, Tryz.ntmps36
    go_wp2_with fail
    go_loopw [5] (fun i wr => ∃ k : Nat, k ≤ n ∧ i = .int .i64 k ∧ Hid (∀ i, i < k → xs[i]? = ys[i]?) ∧ Hid (∃ m, wr = w.drewN m)) (fun i _ => n - (intOf i).toNat)
    case atStart => exact ⟨0, Nat.zero_le _, rfl, hid fun i h => absurd h (Nat.not_lt_zero _), hid ⟨0, rfl⟩⟩
    case round =>
      obtain ⟨k, hk, rfl, hA, hB⟩ := hrel
      by_cases hlt : k < n
      · obtain ⟨x, hx⟩ : ∃ x, xs[k]? = some x := ⟨_, List.getElem?_eq_getElem (by have := HN.out; omega)⟩
        obtain ⟨y, hy⟩ : ∃ y, ys[k]? = some y := ⟨_, List.getElem?_eq_getElem (by have := HM.out; omega)⟩
        obtain ⟨g, o, rfl, hg, hc⟩ := HR1.out.resolve_left (fun e => by rw [e] at hx; simp at hx)
        obtain ⟨g', o', rfl, hg', hc'⟩ := HR2.out.resolve_left (fun e => by rw [e] at hy; simp at hy)
        have e0 : wr.heap = w.heap := by obtain ⟨m, hm⟩ := hB.out; rw [hm]; rfl
        have d1 := hc k (by have := HN.out; omega)
        have d2 := hc' k (by have := HM.out; omega)
        rw [List.getD_eq_getElem?_getD, hx] at d1
        rw [List.getD_eq_getElem?_getD, hy] at d2
        have y1 := (World.cell?_of_block (w' := wr) (a := ⟨g, o + k, none⟩) (by rw [e0])).trans d1
        have y2 := (World.cell?_of_block (w' := wr) (a := ⟨g', o' + k, none⟩) (by rw [e0])).trans d2
        simp only [Option.getD_some] at y1 y2
        have kI : (k : Int) < (n : Int) := by omega
        have k0 : (0 : Int) ≤ (k : Int) := by omega
        have HX := hid hx
        have HY := hid hy
        clear hx hy hc hc' e0 d1 d2
        by_cases e : x = y
        · have HA2 := hid (show ∀ i, i < k + 1 → xs[i]? = ys[i]? from fun i hi => by
            by_cases q : i = k
            · rw [q, HX.out, HY.out, e]
            · exact hA.out i (by omega))
          subst e
          have hne2 : (x != x) = false := by simp
          go_wp2_with fail
          go_quiet (fail)
          go_wp2
          go_roundw
          case rel => exact ⟨k + 1, by omega, by go_num, HA2, hid (drew_more hB.out)⟩
          case measure => simp [intOf]; omega
        · have e1 : (x != y) = true := by rw [bne_iff_ne]; exact e
          have e2 : (x == y) = false := by rw [beq_eq_false_iff_ne]; exact e
          have HE := hid (show decide (xs = ys) = false from decide_eq_false (fun q => e (by
            have h1 := HX.out
            rw [q, HY.out] at h1
            injection h1 with h1
            exact h1.symm)))
          clear e
          go_wp2_with fail
          go_quiet (fail)
          go_wp2
          go_ret
          exact ⟨by rw [HE.out]; rfl, drew_more hB.out⟩
      · have hkn : k = n := by omega
        have HE := hid (show decide (xs = ys) = true from decide_eq_true (by
          apply List.ext_getElem?
          intro i
          by_cases q : i < n
          · exact hA.out i (by omega)
          · rw [List.getElem?_eq_none (by have := HN.out; omega), List.getElem?_eq_none (by have := HM.out; omega)]))
        go_wp2
        go_ret
        exact ⟨by rw [HE.out]; rfl, hB.out⟩
  · have HE := hid (show decide (xs = ys) = false from decide_eq_false (fun q => hq (by rw [HN.out, HM.out, q])))
    have hne : ((n : Int) != (m : Int)) = true := by rw [bne_iff_ne]; omega
    have hne2 : (n != m) = true := by rw [bne_iff_ne]; exact hq
    go_enter Tryz.func36, Tryz.ntmps36
    go_wp2
    go_ret
    exact ⟨by rw [HE.out]; rfl, 0, rfl⟩

theorem lkNeJ (d d' a a' : Int) (m m' p p' : List UInt8) (w : World) : (binOp .neq 83 (.agg #[.int .i64 d, .string (tx m), .int .i64 a, .string (tx p)]) (.agg #[.int .i64 d', .string (tx m'), .int .i64 a', .string (tx p')])).run Tryz.prog w = .ok (.bool (!decide (d = d' ∧ m = m' ∧ a = a' ∧ p = p'))) w := by
  have u0 := Tryz.underlying83
  have st : Tryz.prog.stoodInHeld 83 = false := by kernel_rfl
  have a0 := fun w => part_intJ w #[.int .i64 d, .string (tx m), .int .i64 a, .string (tx p)] 0 _ rfl
  have a1 := fun w => part_strJ w #[.int .i64 d, .string (tx m), .int .i64 a, .string (tx p)] 1 _ rfl
  have a2 := fun w => part_intJ w #[.int .i64 d, .string (tx m), .int .i64 a, .string (tx p)] 2 _ rfl
  have a3 := fun w => part_strJ w #[.int .i64 d, .string (tx m), .int .i64 a, .string (tx p)] 3 _ rfl
  have b0 := fun w => part_intJ w #[.int .i64 d', .string (tx m'), .int .i64 a', .string (tx p')] 0 _ rfl
  have b1 := fun w => part_strJ w #[.int .i64 d', .string (tx m'), .int .i64 a', .string (tx p')] 1 _ rfl
  have b2 := fun w => part_intJ w #[.int .i64 d', .string (tx m'), .int .i64 a', .string (tx p')] 2 _ rfl
  have b3 := fun w => part_strJ w #[.int .i64 d', .string (tx m'), .int .i64 a', .string (tx p')] 3 _ rfl
  unfold binOp
  simp only
  unfold Op.equal Op.maxDepth
  rw [Op.equalIn]
  by_cases h1 : d = d'
  · have e1 : (d == d') = true := by rw [h1]; simp
    by_cases h2 : m = m'
    · have e2 : (m == m') = true := by rw [h2]; simp
      by_cases h3 : a = a'
      · have e3 : (a == a') = true := by rw [h3]; simp
        by_cases h4 : p = p'
        · have e4 : (p == p') = true := by rw [h4]; simp
          rw [decide_eq_true ⟨h1, h2, h3, h4⟩]
          clear h1 h2 h3 h4
          simp [run_underlying u0, st, a0, a1, a2, a3, b0, b1, b2, b3, eq_intJ, eq_strJ, e1, e2, e3, e4, Result.andThen]
        · have e4 : (p == p') = false := beq_eq_false_iff_ne.2 h4
          rw [decide_eq_false (fun q => h4 q.2.2.2)]
          clear h1 h2 h3 h4
          simp [run_underlying u0, st, a0, a1, a2, a3, b0, b1, b2, b3, eq_intJ, eq_strJ, e1, e2, e3, e4, Result.andThen]
      · have e3 : (a == a') = false := beq_eq_false_iff_ne.2 h3
        rw [decide_eq_false (fun q => h3 q.2.2.1)]
        clear h1 h2 h3
        simp [run_underlying u0, st, a0, a1, a2, b0, b1, b2, eq_intJ, eq_strJ, e1, e2, e3, Result.andThen]
    · have e2 : (m == m') = false := beq_eq_false_iff_ne.2 h2
      rw [decide_eq_false (fun q => h2 q.2.1)]
      clear h1 h2
      simp [run_underlying u0, st, a0, a1, b0, b1, eq_intJ, eq_strJ, e1, e2, Result.andThen]
  · have e1 : (d == d') = false := beq_eq_false_iff_ne.2 h1
    rw [decide_eq_false (fun q => h1 q.1)]
    clear h1
    simp [run_underlying u0, st, a0, b0, eq_intJ, e1, Result.andThen]

/-- Two devices alike. -/
def dvE (x y : To.Dv) : Bool := (decide (x.name = y.name) && decide (x.cls = y.cls)) && decide (x.prt = y.prt)
def lkE (x y : LkZ) : Bool := decide (x.1 = y.1 ∧ x.2.1 = y.2.1 ∧ x.2.2.1 = y.2.2.1 ∧ x.2.2.2 = y.2.2.2)
def sameT (wd : Int) (ds : List To.Dv) (ls : List LkZ) (wd' : Int) (ds' : List To.Dv) (ls' : List LkZ) : Bool := (decide (wd = wd') && (decide (ds.length = ds'.length) && decide (ls.length = ls'.length))) && (allN ds.length (fun i => dvE (ds.getD i dv0) (ds'.getD i dv0)) && allN ls.length (fun i => lkE (ls.getD i lk0) (ls'.getD i lk0)))
end Go.Proofs.YtebaopiedlioiaaGreatDoor
namespace Go.Proofs.YtebaopiedlioiaaGreatDoor
open Go.RowKit

/-- What stands still while two topologies are held against each other. -/
structure TwI (w : World) (a b : Obj) (wr : World) : Prop where
  one : wr.heap[w.heap.size]? = some a
  two : wr.heap[w.heap.size + 1]? = some b
  below : Below w.heap.size w wr
theorem TwI.on {w : World} {a b : Obj} {wr w' : World} (h : TwI w a b wr) (hb : Below wr.heap.size wr w') : TwI w a b w' :=
  ⟨(hb.block _ (lt_of_block h.one)).trans h.one, (hb.block _ (lt_of_block h.two)).trans h.two, ⟨hb.os.trans h.below.os, hb.tape.trans h.below.tape, hb.output.trans h.below.output, Nat.le_trans h.below.size hb.size, fun i hi => (hb.block i (Nat.lt_of_lt_of_le hi h.below.size)).trans (h.below.block i hi)⟩⟩
theorem two_boxes (w : World) (a b : Obj) : ((w.alloc a).alloc b).drew.heap[w.heap.size]? = some a ∧ ((w.alloc a).alloc b).drew.heap[w.heap.size + 1]? = some b ∧ Below w.heap.size w ((w.alloc a).alloc b).drew :=
  ⟨new_old _ _ (new_0 _ _), new_1 _ _ _, (((Below.refl _ _).alloc (Nat.le_refl _) _).alloc (by simp) _).drew⟩

set_option maxRecDepth 20000 in
set_option maxHeartbeats 2000000 in
theorem RSameT_any {w : World} {wd wd' : Int} {vd vl vd' vl' : Value} {ds ds' : List (To.Dv × Value × Value)} {ls ls' : List LkZ} (hD : DvL w vd ds) (hL : LkV w vl ls) (hD' : DvL w vd' ds') (hL' : LkV w vl' ls') (hdn : ds.length ≤ maxLen) (hln : ls.length ≤ maxLen) :
    Calls Tryz.prog 11 #[.agg #[.int .i64 wd, vd, vl], .agg #[.int .i64 wd', vd', vl']] w fun e w' => e = .returned (.bool (sameT wd (ds.map (·.1)) ls wd' (ds'.map (·.1)) ls')) ∧ Below w.heap.size w w' := by
  have HD := hid hD
  have HD' := hid hD'
  obtain ⟨dv, dc, hvd, hdv⟩ := hD.form
  obtain ⟨lv, lc, hvl, hlv⟩ := hL.form
  obtain ⟨dv', dc', hvd', hdv'⟩ := hD'.form
  obtain ⟨lv', lc', hvl', hlv'⟩ := hL'.form
  obtain ⟨N, hN⟩ : ∃ N, N = ds.length := ⟨_, rfl⟩
  obtain ⟨M, hM⟩ : ∃ M, M = ls.length := ⟨_, rfl⟩
  obtain ⟨N', hN'⟩ : ∃ N, N = ds'.length := ⟨_, rfl⟩
  obtain ⟨M', hM'⟩ : ∃ M, M = ls'.length := ⟨_, rfl⟩
  have HDV := hid hdv
  have HLV := hid hlv
  have HDV' := hid hdv'
  have HLV' := hid hlv'
  rw [← hN] at hvd hdn
  rw [← hM] at hvl hln
  rw [← hN'] at hvd'
  rw [← hM'] at hvl'
  unfold maxLen at hdn hln
  subst hvd; subst hvl; subst hvd'; subst hvl'
  have HS := hid (show sameT wd (ds.map (·.1)) ls wd' (ds'.map (·.1)) ls' = ((decide (wd = wd') && (decide (N = N') && decide (M = M'))) && (allN N (fun i => dvE ((ds.map (·.1)).getD i dv0) ((ds'.map (·.1)).getD i dv0)) && allN M (fun i => lkE (ls.getD i lk0) (ls'.getD i lk0)))) by
    unfold sameT; rw [List.length_map, List.length_map, ← hN, ← hM, ← hN', ← hM'])
  have HN := hid hN
  have HM := hid hM
  have HN' := hid hN'
  have HM' := hid hM'
  have HB := hid (fun (a b : Obj) => (show Below w.heap.size w ((w.alloc a).alloc b) from ((Below.refl _ _).alloc (Nat.le_refl _) _).alloc (by simp) _))
  clear hD hL hD' hL' hdv hlv hdv' hlv' hN hM hN' hM'
  by_cases q1 : wd = wd'
  case neg =>
    have e1 : (wd != wd') = true := by rw [bne_iff_ne]; exact q1
    have e2 : (wd == wd') = false := by rw [beq_eq_false_iff_ne]; exact q1
    have HE := hid (show sameT wd (ds.map (·.1)) ls wd' (ds'.map (·.1)) ls' = false by rw [HS.out, decide_eq_false q1]; rfl)
    clear q1
    go_enter Tryz.func11, Tryz.ntmps11
    go_wp2
    go_ret
    exact ⟨by rw [HE.out]; rfl, HB.out _ _⟩
  case pos =>
    subst q1
    have HT := hid (show decide (wd = wd) = true from decide_eq_true rfl)
    by_cases q2 : N = N'
    case neg =>
      have e1 : (N != N') = true := by rw [bne_iff_ne]; exact q2
      have e2 : (N == N') = false := by rw [beq_eq_false_iff_ne]; exact q2
      have e3 : ((N : Int) != (N' : Int)) = true := by rw [bne_iff_ne]; omega
      have HE := hid (show sameT wd (ds.map (·.1)) ls wd (ds'.map (·.1)) ls' = false by rw [HS.out, HT.out, decide_eq_false q2]; rfl)
      clear q2
      go_enter Tryz.func11, Tryz.ntmps11
      go_wp2
      go_ret
      exact ⟨by rw [HE.out]; rfl, HB.out _ _⟩
    case pos =>
      subst q2
      have HT2 := hid (show decide (N = N) = true from decide_eq_true rfl)
      by_cases q3 : M = M'
      case neg =>
        have e1 : (M != M') = true := by rw [bne_iff_ne]; exact q3
        have e2 : (M == M') = false := by rw [beq_eq_false_iff_ne]; exact q3
        have e3 : ((M : Int) != (M' : Int)) = true := by rw [bne_iff_ne]; omega
        have HE := hid (show sameT wd (ds.map (·.1)) ls wd (ds'.map (·.1)) ls' = false by rw [HS.out, HT.out, HT2.out, decide_eq_false q3]; rfl)
        clear q3
        go_enter Tryz.func11, Tryz.ntmps11
        go_wp2
        go_ret
        exact ⟨by rw [HE.out]; rfl, HB.out _ _⟩
      case pos =>
        subst q3
        have HSS := hid (show sameT wd (ds.map (·.1)) ls wd (ds'.map (·.1)) ls' = (allN N (fun i => dvE ((ds.map (·.1)).getD i dv0) ((ds'.map (·.1)).getD i dv0)) && allN M (fun i => lkE (ls.getD i lk0) (ls'.getD i lk0))) by
          rw [HS.out, HT.out, HT2.out, decide_eq_true (rfl : M = M)]; rfl)
        clear HS HT HT2
        have I0 := hid (show TwI w (topJ (.int .i64 wd) (.slice dv N dc) (.slice lv M lc)) (topJ (.int .i64 wd) (.slice dv' N dc') (.slice lv' M lc')) ((w.alloc (topJ (.int .i64 wd) (.slice dv N dc) (.slice lv M lc))).alloc (topJ (.int .i64 wd) (.slice dv' N dc') (.slice lv' M lc'))) from ⟨new_old _ _ (new_0 _ _), new_1 _ _ _, HB.out _ _⟩)
        go_enter Tryz.func11, Tryz.ntmps11
        go_wp2_with fail
        go_loopw [5] (fun i wr => ∃ k : Nat, k ≤ N ∧ i = .int .i64 k ∧ Hid (TwI w (topJ (.int .i64 wd) (.slice dv N dc) (.slice lv M lc)) (topJ (.int .i64 wd) (.slice dv' N dc') (.slice lv' M lc')) wr) ∧ Hid (∀ i, i < k → dvE ((ds.map (·.1)).getD i dv0) ((ds'.map (·.1)).getD i dv0) = true)) (fun i _ => N - (intOf i).toNat)
        case atStart => exact ⟨0, Nat.zero_le _, rfl, I0, hid fun i h => absurd h (Nat.not_lt_zero _)⟩
        case round =>
          obtain ⟨k, hk, rfl, hI, hA⟩ := hrel
          obtain ⟨s0, s1, s2⟩ := topJ_cells hI.out.one
          obtain ⟨t0, t1, t2⟩ := topJ_cells hI.out.two
          by_cases hlt : k < N
          · obtain ⟨⟨qx, ux, vx⟩, hx⟩ : ∃ z, ds[k]? = some z := ⟨_, List.getElem?_eq_getElem (by have := HN.out; omega)⟩
            obtain ⟨⟨qy, uy, vy⟩, hy⟩ : ∃ z, ds'[k]? = some z := ⟨_, List.getElem?_eq_getElem (by have := HN'.out; omega)⟩
            obtain ⟨D, od, rfl, hDl, hdc⟩ := HDV.out.resolve_left (fun e => by rw [e] at hx; simp at hx)
            obtain ⟨D', od', rfl, hDl', hdc'⟩ := HDV'.out.resolve_left (fun e => by rw [e] at hy; simp at hy)
            have hw1 : wr.heap[D]? = w.heap[D]? := hI.out.below.block D hDl
            have hw2 : wr.heap[D']? = w.heap[D']? := hI.out.below.block D' hDl'
            obtain ⟨z0, z1, z2⟩ := hdc k _ hx
            obtain ⟨z3, z4, z5⟩ := hdc' k _ hy
            have y0 := (World.cell?_of_block (a := ⟨D, od + k * 3, none⟩) hw1).trans z0
            have y1 := (World.cell?_of_block (a := ⟨D, od + k * 3 + 1, none⟩) hw1).trans z1
            have y2 := (World.cell?_of_block (a := ⟨D, od + k * 3 + 2, none⟩) hw1).trans z2
            have y3 := (World.cell?_of_block (a := ⟨D', od' + k * 3, none⟩) hw2).trans z3
            have y4 := (World.cell?_of_block (a := ⟨D', od' + k * 3 + 1, none⟩) hw2).trans z4
            have y5 := (World.cell?_of_block (a := ⟨D', od' + k * 3 + 2, none⟩) hw2).trans z5
            simp only at y0 y1 y2 y3 y4 y5
            have kI : (k : Int) < (N : Int) := by omega
            have k0I : (0 : Int) ≤ (k : Int) := by omega
            have HDE := hid (show dvE ((ds.map (·.1)).getD k dv0) ((ds'.map (·.1)).getD k dv0) = ((decide (qx.name = qy.name) && decide (qx.cls = qy.cls)) && decide (qx.prt = qy.prt)) by
              rw [getD_at (show (ds.map (·.1))[k]? = some qx by rw [List.getElem?_map, hx]; rfl), getD_at (show (ds'.map (·.1))[k]? = some qy by rw [List.getElem?_map, hy]; rfl)]; rfl)
            obtain ⟨hc1, hl1⟩ := HD.out.cls _ (List.mem_of_getElem? hx)
            obtain ⟨hp1, hm1⟩ := HD.out.prt _ (List.mem_of_getElem? hx)
            obtain ⟨hc2, hl2⟩ := HD'.out.cls _ (List.mem_of_getElem? hy)
            obtain ⟨hp2, hm2⟩ := HD'.out.prt _ (List.mem_of_getElem? hy)
            simp only at hc1 hl1 hp1 hm1 hc2 hl2 hp2 hm2
            have HTC := hid (fun (W : World) (hb : Below w.heap.size w W) => RTexts_exact (hc1.below hb) (hc2.below hb) hl1 hl2)
            have HTP := hid (fun (W : World) (hb : Below w.heap.size w W) => RTexts_exact (hp1.below hb) (hp2.below hb) hm1 hm2)
            obtain ⟨a1, c1, e1, -⟩ := hc1
            obtain ⟨a2, c2, e2, -⟩ := hc2
            obtain ⟨a3, c3, e3, -⟩ := hp1
            obtain ⟨a4, c4, e4, -⟩ := hp2
            subst e1; subst e2; subst e3; subst e4
            obtain ⟨L1, g1⟩ : ∃ L, L = qx.cls.length := ⟨_, rfl⟩
            obtain ⟨L2, g2⟩ : ∃ L, L = qy.cls.length := ⟨_, rfl⟩
            obtain ⟨L3, g3⟩ : ∃ L, L = qx.prt.length := ⟨_, rfl⟩
            obtain ⟨L4, g4⟩ : ∃ L, L = qy.prt.length := ⟨_, rfl⟩
            rw [← g1] at y1 HTC
            rw [← g2] at y4 HTC
            rw [← g3] at y2 HTP
            rw [← g4] at y5 HTP
            obtain ⟨bc, hbc⟩ : ∃ b, b = decide (qx.cls = qy.cls) := ⟨_, rfl⟩
            obtain ⟨bp, hbp⟩ : ∃ b, b = decide (qx.prt = qy.prt) := ⟨_, rfl⟩
            rw [← hbc] at HTC HDE
            rw [← hbp] at HTP HDE
            have HI := hid hI.out
            clear z0 z1 z2 z3 z4 z5 hx hy hdc hdc' hw1 hw2 hl1 hl2 hm1 hm2 g1 g2 g3 g4 hbc hbp
            have A1 := hid (two_boxes wr (dvOJ qx.name (.slice a1 L1 c1) (.slice a3 L3 c3)) (dvOJ qy.name (.slice a2 L2 c2) (.slice a4 L4 c4)))
            have A2 := hid (two_boxes wr (dvOJ qy.name (.slice a2 L2 c2) (.slice a4 L4 c4)) (dvOJ qx.name (.slice a1 L1 c1) (.slice a3 L3 c3)))
            have y0a := alloc_cell y0 (cell_ltP y0)
            have y0b := fun ob => alloc_cell (y0a ob) (cell_ltP (y0a ob))
            have y1a := alloc_cell y1 (cell_ltP y1)
            have y1b := fun ob => alloc_cell (y1a ob) (cell_ltP (y1a ob))
            have y2a := alloc_cell y2 (cell_ltP y2)
            have y2b := fun ob => alloc_cell (y2a ob) (cell_ltP (y2a ob))
            have y3a := alloc_cell y3 (cell_ltP y3)
            have y3b := fun ob => alloc_cell (y3a ob) (cell_ltP (y3a ob))
            have y4a := alloc_cell y4 (cell_ltP y4)
            have y4b := fun ob => alloc_cell (y4a ob) (cell_ltP (y4a ob))
            have y5a := alloc_cell y5 (cell_ltP y5)
            have y5b := fun ob => alloc_cell (y5a ob) (cell_ltP (y5a ob))
            have s1a := alloc_cell s1 (cell_ltP s1)
            have s1b := fun ob => alloc_cell (s1a ob) (cell_ltP (s1a ob))
            have t1a := alloc_cell t1 (cell_ltP t1)
            have t1b := fun ob => alloc_cell (t1a ob) (cell_ltP (t1a ob))
            go_upto_region 6 with fail
            go_cut [6, 7] (fun x6 x7 wx => ∃ p q : Nat, x6 = .pointer (some ⟨p, 0, none⟩) ∧ x7 = .pointer (some ⟨q, 0, none⟩) ∧ Hid (wx.heap[p]? = some (dvOJ qx.name (.slice a1 L1 c1) (.slice a3 L3 c3)) ∧ wx.heap[q]? = some (dvOJ qy.name (.slice a2 L2 c2) (.slice a4 L4 c4)) ∧ Below wr.heap.size wr wx))
            case first =>
              go_region
              all_goals (go_wp2_with fail; go_meet; first | exact ⟨_, _, rfl, rfl, hid ⟨A1.out.1, A1.out.2.1, A1.out.2.2⟩⟩ | exact ⟨_, _, rfl, rfl, hid ⟨A2.out.2.1, A2.out.1, A2.out.2.2⟩⟩)
            case rest =>
              obtain ⟨p, q, rfl, rfl, hC⟩ := hcut
              obtain ⟨r0, r1, r2⟩ := dvOJ_cells hC.out.1
              obtain ⟨u0, u1, u2⟩ := dvOJ_cells hC.out.2.1
              have HI2 := hid (HI.out.on hC.out.2.2)
              have hpl := lt_of_block hC.out.1
              have hql := lt_of_block hC.out.2.1
              clear y0 y1 y2 y3 y4 y5 s0 s1 s2 t0 t1 t2 y0a y0b y1a y1b y2a y2b y3a y3b y4a y4b y5a y5b s1a s1b t1a t1b A1 A2
              by_cases hn : qx.name = qy.name
              case neg =>
                have e1 : (qx.name != qy.name) = true := by rw [bne_iff_ne]; exact hn
                have e2 : (qx.name == qy.name) = false := by rw [beq_eq_false_iff_ne]; exact hn
                have HE := hid (show sameT wd (ds.map (·.1)) ls wd (ds'.map (·.1)) ls' = false by
                  rw [HSS.out, allN_false hlt (by rw [HDE.out, decide_eq_false hn]; rfl)]; rfl)
                clear hn
                go_wp2
                go_ret
                exact ⟨by rw [HE.out]; rfl, HI2.out.below⟩
              case pos =>
                have HNM := hid (decide_eq_true hn)
                rw [hn] at r0
                have e1 : (qy.name != qy.name) = false := by simp
                clear hn
                go_wp2_with fail
                refine (HTC.out _ HI2.out.below).mono ?_
                rintro en w6 ⟨rfl, n6, rfl⟩
                cases bc with
                | false =>
                  have HE := hid (show sameT wd (ds.map (·.1)) ls wd (ds'.map (·.1)) ls' = false by
                    rw [HSS.out, allN_false hlt (by rw [HDE.out, HNM.out]; rfl)]; rfl)
                  go_wp2
                  go_ret
                  exact ⟨by rw [HE.out]; rfl, below_drewN HI2.out.below⟩
                | true =>
                  go_wp2_with fail
                  refine (HTP.out _ (below_drewN HI2.out.below)).mono ?_
                  rintro en w7 ⟨rfl, n7, rfl⟩
                  cases bp with
                  | false =>
                    have HE := hid (show sameT wd (ds.map (·.1)) ls wd (ds'.map (·.1)) ls' = false by
                      rw [HSS.out, allN_false hlt (by rw [HDE.out, HNM.out]; rfl)]; rfl)
                    go_wp2
                    go_ret
                    exact ⟨by rw [HE.out]; rfl, below_drewN HI2.out.below⟩
                  | true =>
                    have HA2 := hid (show ∀ i, i < k + 1 → dvE ((ds.map (·.1)).getD i dv0) ((ds'.map (·.1)).getD i dv0) = true from fun i hi => by
                      by_cases e : i = k
                      · rw [e, HDE.out, HNM.out]; rfl
                      · exact hA.out i (by omega))
                    have HI3 := hid (fun n => HI2.out.on (w' := wc.drewN n) ⟨rfl, rfl, rfl, Nat.le_refl _, fun _ _ => rfl⟩)
                    go_wp2
                    go_roundw
                    case rel => exact ⟨k + 1, by omega, by go_num, hid (HI3.out _), HA2⟩
                    case measure => simp [intOf]; omega
          · have hkI : ¬ (k : Int) < (N : Int) := by omega
            have HA1 := hid (show allN N (fun i => dvE ((ds.map (·.1)).getD i dv0) ((ds'.map (·.1)).getD i dv0)) = true from allN_iff.2 fun i hi => hA.out i (by omega))
            clear hA hlt
            go_wp2_with fail
            go_loopw [8] (fun i wz => ∃ j : Nat, j ≤ M ∧ i = .int .i64 j ∧ Hid (TwI w (topJ (.int .i64 wd) (.slice dv N dc) (.slice lv M lc)) (topJ (.int .i64 wd) (.slice dv' N dc') (.slice lv' M lc')) wz) ∧ Hid (∀ i, i < j → lkE (ls.getD i lk0) (ls'.getD i lk0) = true)) (fun i _ => M - (intOf i).toNat)
            case atStart => exact ⟨0, Nat.zero_le _, rfl, hI, hid fun i h => absurd h (Nat.not_lt_zero _)⟩
            case round =>
              obtain ⟨j, hj, rfl, hJ, hA⟩ := hrel
              rename World => wz
              clear s0 s1 s2 t0 t1 t2
              obtain ⟨s0, s1, s2⟩ := topJ_cells hJ.out.one
              obtain ⟨t0, t1, t2⟩ := topJ_cells hJ.out.two
              by_cases hlt : j < M
              · obtain ⟨⟨a, p, b, q⟩, hx⟩ : ∃ z, ls[j]? = some z := ⟨_, List.getElem?_eq_getElem (by have := HM.out; omega)⟩
                obtain ⟨⟨a', p', b', q'⟩, hy⟩ : ∃ z, ls'[j]? = some z := ⟨_, List.getElem?_eq_getElem (by have := HM'.out; omega)⟩
                obtain ⟨G, o, rfl, hGl, hgc⟩ := HLV.out.resolve_left (fun e => by rw [e] at hx; simp at hx)
                obtain ⟨G', o', rfl, hGl', hgc'⟩ := HLV'.out.resolve_left (fun e => by rw [e] at hy; simp at hy)
                have hw1 : wz.heap[G]? = w.heap[G]? := hJ.out.below.block G hGl
                have hw2 : wz.heap[G']? = w.heap[G']? := hJ.out.below.block G' hGl'
                obtain ⟨z0, z1, z2, z3⟩ := hgc j _ hx
                obtain ⟨z4, z5, z6, z7⟩ := hgc' j _ hy
                have y0 := (World.cell?_of_block (a := ⟨G, o + j * 4, none⟩) hw1).trans z0
                have y1 := (World.cell?_of_block (a := ⟨G, o + j * 4 + 1, none⟩) hw1).trans z1
                have y2 := (World.cell?_of_block (a := ⟨G, o + j * 4 + 2, none⟩) hw1).trans z2
                have y3 := (World.cell?_of_block (a := ⟨G, o + j * 4 + 3, none⟩) hw1).trans z3
                have y4 := (World.cell?_of_block (a := ⟨G', o' + j * 4, none⟩) hw2).trans z4
                have y5 := (World.cell?_of_block (a := ⟨G', o' + j * 4 + 1, none⟩) hw2).trans z5
                have y6 := (World.cell?_of_block (a := ⟨G', o' + j * 4 + 2, none⟩) hw2).trans z6
                have y7 := (World.cell?_of_block (a := ⟨G', o' + j * 4 + 3, none⟩) hw2).trans z7
                simp only at y0 y1 y2 y3 y4 y5 y6 y7
                have jI : (j : Int) < (M : Int) := by omega
                have j0I : (0 : Int) ≤ (j : Int) := by omega
                have HLE := hid (show lkE (ls.getD j lk0) (ls'.getD j lk0) = decide (a = a' ∧ p = p' ∧ b = b' ∧ q = q') by
                  rw [getD_at hx, getD_at hy]; rfl)
                have hNE : ∀ w : World, (binOp .neq 83 (.agg #[.int .i64 a, .string (tx p), .int .i64 b, .string (tx q)]) (.agg #[.int .i64 a', .string (tx p'), .int .i64 b', .string (tx q')])).run Tryz.prog w = .ok (.bool (!decide (a = a' ∧ p = p' ∧ b = b' ∧ q = q'))) w := fun w => lkNeJ a a' b b' p p' q q' w
                obtain ⟨bl, hbl⟩ : ∃ bl, bl = decide (a = a' ∧ p = p' ∧ b = b' ∧ q = q') := ⟨_, rfl⟩
                rw [← hbl] at HLE
                simp only [← hbl] at hNE
                clear z0 z1 z2 z3 z4 z5 z6 z7 hx hy hgc hgc' hw1 hw2 hbl
                cases bl with
                | false =>
                  have HE := hid (show sameT wd (ds.map (·.1)) ls wd (ds'.map (·.1)) ls' = false by
                    rw [HSS.out, HA1.out, allN_false hlt HLE.out]; rfl)
                  simp only [Bool.not_false] at hNE
                  go_wp2_with fail
                  go_quiet (fail)
                  go_wp2
                  go_ret
                  exact ⟨by rw [HE.out]; rfl, below_drewN hJ.out.below⟩
                | true =>
                  have HA2 := hid (show ∀ i, i < j + 1 → lkE (ls.getD i lk0) (ls'.getD i lk0) = true from fun i hi => by
                    by_cases e : i = j
                    · rw [e]; exact HLE.out
                    · exact hA.out i (by omega))
                  have HJ3 := hid (fun n => hJ.out.on (w' := wz.drewN n) ⟨rfl, rfl, rfl, Nat.le_refl _, fun _ _ => rfl⟩)
                  simp only [Bool.not_true] at hNE
                  go_wp2_with fail
                  go_quiet (fail)
                  go_wp2
                  go_roundw
                  case rel => exact ⟨j + 1, by omega, by go_num, hid (HJ3.out _), HA2⟩
                  case measure => simp [intOf]; omega
              · have HE := hid (show sameT wd (ds.map (·.1)) ls wd (ds'.map (·.1)) ls' = true by
                  rw [HSS.out, HA1.out, allN_iff.2 fun i hi => hA.out i (by omega)]; rfl)
                go_wp2
                go_ret
                exact ⟨by rw [HE.out]; rfl, hJ.out.below⟩
end Go.Proofs.YtebaopiedlioiaaGreatDoor
namespace Go.Proofs.YtebaopiedlioiaaGreatDoor
open Go.RowKit

set_option maxRecDepth 20000 in
set_option maxHeartbeats 2000000 in
theorem oEqTexts_any {w : World} {v1 v2 : Value} {xs ys : List (List UInt8)} (h1 : Txs w v1 xs) (h2 : Txs w v2 ys) (hn : xs.length ≤ maxLen) (hm : ys.length ≤ maxLen) :
    Calls Tryz.prog 84 #[v1, v2] w fun e w' => e = .returned (.bool (decide (xs = ys))) ∧ ∃ n, w' = w.drewN n := by
  obtain ⟨a1, c1, rfl, r1⟩ := h1
  obtain ⟨a2, c2, rfl, r2⟩ := h2
  have HR1 := hid r1
  have HR2 := hid r2
  obtain ⟨n, hnn⟩ : ∃ n, n = xs.length := ⟨_, rfl⟩
  obtain ⟨m, hmm⟩ : ∃ m, m = ys.length := ⟨_, rfl⟩
  have HN := hid hnn
  have HM := hid hmm
  rw [← hnn] at hn ⊢
  rw [← hmm] at hm ⊢
  unfold maxLen at hn hm
  clear r1 r2 hnn hmm
  by_cases hq : n = m
  · subst hq
    have hne : ((n : Int) != (n : Int)) = false := by simp
    go_enter Tryz.func84, Tryz.ntmps84
    go_wp2_with fail
    go_loopw [5, 13] (fun _ i wr => ∃ k : Nat, k ≤ n ∧ i = .int .i64 k ∧ Hid (∀ i, i < k → xs[i]? = ys[i]?) ∧ Hid (∃ m, wr = w.drewN m)) (fun _ i _ => n - (intOf i).toNat)
    case atStart => exact ⟨0, Nat.zero_le _, rfl, hid fun i h => absurd h (Nat.not_lt_zero _), hid ⟨0, rfl⟩⟩
    case round =>
      obtain ⟨k, hk, rfl, hA, hB⟩ := hrel
      by_cases hlt : k < n
      · obtain ⟨x, hx⟩ : ∃ x, xs[k]? = some x := ⟨_, List.getElem?_eq_getElem (by have := HN.out; omega)⟩
        obtain ⟨y, hy⟩ : ∃ y, ys[k]? = some y := ⟨_, List.getElem?_eq_getElem (by have := HM.out; omega)⟩
        obtain ⟨g, o, rfl, hg, hc⟩ := HR1.out.resolve_left (fun e => by rw [e] at hx; simp at hx)
        obtain ⟨g', o', rfl, hg', hc'⟩ := HR2.out.resolve_left (fun e => by rw [e] at hy; simp at hy)
        have e0 : wr.heap = w.heap := by obtain ⟨m, hm⟩ := hB.out; rw [hm]; rfl
        have d1 := hc k (by have := HN.out; omega)
        have d2 := hc' k (by have := HM.out; omega)
        rw [List.getD_eq_getElem?_getD, hx] at d1
        rw [List.getD_eq_getElem?_getD, hy] at d2
        have y1 := (World.cell?_of_block (w' := wr) (a := ⟨g, o + k, none⟩) (by rw [e0])).trans d1
        have y2 := (World.cell?_of_block (w' := wr) (a := ⟨g', o' + k, none⟩) (by rw [e0])).trans d2
        simp only [Option.getD_some] at y1 y2
        have kI : (k : Int) < (n : Int) := by omega
        have k0 : (0 : Int) ≤ (k : Int) := by omega
        have HX := hid hx
        have HY := hid hy
        clear hx hy hc hc' e0 d1 d2
        by_cases e : x = y
        · have HA2 := hid (show ∀ i, i < k + 1 → xs[i]? = ys[i]? from fun i hi => by
            by_cases q : i = k
            · rw [q, HX.out, HY.out, e]
            · exact hA.out i (by omega))
          subst e
          have hne2 : (x != x) = false := by simp
          go_wp2_with fail
          go_quiet (fail)
          go_wp2
          go_roundw
          case rel => exact ⟨k + 1, by omega, by go_num, HA2, hid (drew_more hB.out)⟩
          case measure => simp [intOf]; omega
        · have e1 : (x != y) = true := by rw [bne_iff_ne]; exact e
          have e2 : (x == y) = false := by rw [beq_eq_false_iff_ne]; exact e
          have HE := hid (show decide (xs = ys) = false from decide_eq_false (fun q => e (by
            have h1 := HX.out
            rw [q, HY.out] at h1
            injection h1 with h1
            exact h1.symm)))
          clear e
          go_wp2_with fail
          go_quiet (fail)
          go_wp2
          go_ret
          exact ⟨by rw [HE.out]; rfl, drew_more hB.out⟩
      · have hkn : k = n := by omega
        have HE := hid (show decide (xs = ys) = true from decide_eq_true (by
          apply List.ext_getElem?
          intro i
          by_cases q : i < n
          · exact hA.out i (by omega)
          · rw [List.getElem?_eq_none (by have := HN.out; omega), List.getElem?_eq_none (by have := HM.out; omega)]))
        go_wp2
        go_ret
        exact ⟨by rw [HE.out]; rfl, hB.out⟩
  · have HE := hid (show decide (xs = ys) = false from decide_eq_false (fun q => hq (by rw [HN.out, HM.out, q])))
    have hne : ((n : Int) != (m : Int)) = true := by rw [bne_iff_ne]; omega
    have hne2 : (n != m) = true := by rw [bne_iff_ne]; exact hq
    go_enter Tryz.func84, Tryz.ntmps84
    go_wp2
    go_ret
    exact ⟨by rw [HE.out]; rfl, 0, rfl⟩

set_option maxRecDepth 20000 in
set_option maxHeartbeats 2000000 in
theorem oEqLinks_any {w : World} {v1 v2 : Value} {ls ls' : List LkZ} (hL : LkV w v1 ls) (hL' : LkV w v2 ls') (hn : ls.length ≤ maxLen) (hm : ls'.length ≤ maxLen) :
    Calls Tryz.prog 47 #[v1, v2] w fun e w' => e = .returned (.bool (decide (ls.length = ls'.length) && allN ls.length fun i => lkE (ls.getD i lk0) (ls'.getD i lk0))) ∧ ∃ n, w' = w.drewN n := by
  obtain ⟨a1, c1, rfl, r1⟩ := hL.form
  obtain ⟨a2, c2, rfl, r2⟩ := hL'.form
  have HR1 := hid r1
  have HR2 := hid r2
  obtain ⟨n, hnn⟩ : ∃ n, n = ls.length := ⟨_, rfl⟩
  obtain ⟨m, hmm⟩ : ∃ m, m = ls'.length := ⟨_, rfl⟩
  have HN := hid hnn
  have HM := hid hmm
  rw [← hnn] at hn ⊢
  rw [← hmm] at hm ⊢
  unfold maxLen at hn hm
  clear r1 r2 hnn hmm hL hL'
  by_cases hq : n = m
  · subst hq
    have hne : ((n : Int) != (n : Int)) = false := by simp
    obtain ⟨B, hBB⟩ : ∃ B, B = (decide (n = n) && allN n fun i => lkE (ls.getD i lk0) (ls'.getD i lk0)) := ⟨_, rfl⟩
    have HBB := hid hBB
    rw [← hBB]
    clear hBB
    go_enter Tryz.func47, Tryz.ntmps47
    go_wp2_with fail
    go_loopw [5, 13] (fun _ i wr => ∃ k : Nat, k ≤ n ∧ i = .int .i64 k ∧ Hid (∀ i, i < k → lkE (ls.getD i lk0) (ls'.getD i lk0) = true) ∧ Hid (∃ m, wr = w.drewN m)) (fun _ i _ => n - (intOf i).toNat)
    case atStart => exact ⟨0, Nat.zero_le _, rfl, hid fun i h => absurd h (Nat.not_lt_zero _), hid ⟨0, rfl⟩⟩
    case round =>
      obtain ⟨j, hj, rfl, hA, hB⟩ := hrel
      by_cases hlt : j < n
      · obtain ⟨⟨a, p, b, q⟩, hx⟩ : ∃ z, ls[j]? = some z := ⟨_, List.getElem?_eq_getElem (by have := HN.out; omega)⟩
        obtain ⟨⟨a', p', b', q'⟩, hy⟩ : ∃ z, ls'[j]? = some z := ⟨_, List.getElem?_eq_getElem (by have := HM.out; omega)⟩
        obtain ⟨G, o, rfl, hGl, hgc⟩ := HR1.out.resolve_left (fun e => by rw [e] at hx; simp at hx)
        obtain ⟨G', o', rfl, hGl', hgc'⟩ := HR2.out.resolve_left (fun e => by rw [e] at hy; simp at hy)
        have e0 : wr.heap = w.heap := by obtain ⟨m, hm⟩ := hB.out; rw [hm]; rfl
        obtain ⟨z0, z1, z2, z3⟩ := hgc j _ hx
        obtain ⟨z4, z5, z6, z7⟩ := hgc' j _ hy
        have y0 := (World.cell?_of_block (w' := wr) (a := ⟨G, o + j * 4, none⟩) (by rw [e0])).trans z0
        have y1 := (World.cell?_of_block (w' := wr) (a := ⟨G, o + j * 4 + 1, none⟩) (by rw [e0])).trans z1
        have y2 := (World.cell?_of_block (w' := wr) (a := ⟨G, o + j * 4 + 2, none⟩) (by rw [e0])).trans z2
        have y3 := (World.cell?_of_block (w' := wr) (a := ⟨G, o + j * 4 + 3, none⟩) (by rw [e0])).trans z3
        have y4 := (World.cell?_of_block (w' := wr) (a := ⟨G', o' + j * 4, none⟩) (by rw [e0])).trans z4
        have y5 := (World.cell?_of_block (w' := wr) (a := ⟨G', o' + j * 4 + 1, none⟩) (by rw [e0])).trans z5
        have y6 := (World.cell?_of_block (w' := wr) (a := ⟨G', o' + j * 4 + 2, none⟩) (by rw [e0])).trans z6
        have y7 := (World.cell?_of_block (w' := wr) (a := ⟨G', o' + j * 4 + 3, none⟩) (by rw [e0])).trans z7
        simp only at y0 y1 y2 y3 y4 y5 y6 y7
        have jI : (j : Int) < (n : Int) := by omega
        have j0I : (0 : Int) ≤ (j : Int) := by omega
        have HLE := hid (show lkE (ls.getD j lk0) (ls'.getD j lk0) = decide (a = a' ∧ p = p' ∧ b = b' ∧ q = q') by
          rw [getD_at hx, getD_at hy]; rfl)
        have hNE : ∀ w : World, (binOp .neq 83 (.agg #[.int .i64 a, .string (tx p), .int .i64 b, .string (tx q)]) (.agg #[.int .i64 a', .string (tx p'), .int .i64 b', .string (tx q')])).run Tryz.prog w = .ok (.bool (!decide (a = a' ∧ p = p' ∧ b = b' ∧ q = q'))) w := fun w => lkNeJ a a' b b' p p' q q' w
        obtain ⟨bl, hbl⟩ : ∃ bl, bl = decide (a = a' ∧ p = p' ∧ b = b' ∧ q = q') := ⟨_, rfl⟩
        rw [← hbl] at HLE
        simp only [← hbl] at hNE
        clear z0 z1 z2 z3 z4 z5 z6 z7 hx hy hgc hgc' hbl e0
        cases bl with
        | false =>
          have HE := hid (show B = false by
            rw [HBB.out, allN_false hlt HLE.out, Bool.and_false])
          simp only [Bool.not_false] at hNE
          go_wp2_with fail
          go_quiet (fail)
          go_wp2
          go_ret
          exact ⟨by rw [HE.out]; rfl, drew_more hB.out⟩
        | true =>
          have HA2 := hid (show ∀ i, i < j + 1 → lkE (ls.getD i lk0) (ls'.getD i lk0) = true from fun i hi => by
            by_cases e : i = j
            · rw [e]; exact HLE.out
            · exact hA.out i (by omega))
          simp only [Bool.not_true] at hNE
          go_wp2_with fail
          go_quiet (fail)
          go_wp2
          go_roundw
          case rel => exact ⟨j + 1, by omega, by go_num, HA2, hid (drew_more hB.out)⟩
          case measure => simp [intOf]; omega
      · have hkn : j = n := by omega
        have HE := hid (show B = true by
          rw [HBB.out, allN_iff.2 fun i hi => hA.out i (by omega)]; simp)
        go_wp2
        go_ret
        exact ⟨by rw [HE.out]; rfl, hB.out⟩
  · have HE := hid (show (decide (n = m) && allN n fun i => lkE (ls.getD i lk0) (ls'.getD i lk0)) = false from by rw [decide_eq_false hq]; rfl)
    have hne : ((n : Int) != (m : Int)) = true := by rw [bne_iff_ne]; omega
    have hne2 : (n != m) = true := by rw [bne_iff_ne]; exact hq
    go_enter Tryz.func47, Tryz.ntmps47
    go_wp2
    go_ret
    exact ⟨by rw [HE.out]; rfl, 0, rfl⟩
end Go.Proofs.YtebaopiedlioiaaGreatDoor
namespace Go.Proofs.YtebaopiedlioiaaGreatDoor
open Go.RowKit

set_option maxRecDepth 20000 in
set_option maxHeartbeats 2000000 in
theorem osameDevice_any {w : World} {x y : To.Dv} {u1 v1 u2 v2 : Value} (hc1 : Txs w u1 x.cls) (hp1 : Txs w v1 x.prt) (hc2 : Txs w u2 y.cls) (hp2 : Txs w v2 y.prt) (hl1 : x.cls.length ≤ maxLen) (hm1 : x.prt.length ≤ maxLen) (hl2 : y.cls.length ≤ maxLen) (hm2 : y.prt.length ≤ maxLen) :
    Calls Tryz.prog 46 #[.agg #[.string (tx x.name), u1, v1], .agg #[.string (tx y.name), u2, v2]] w fun e w' => e = .returned (.bool (dvE x y)) ∧ Below w.heap.size w w' := by
  have HTC := hid (fun (W : World) (hb : Below w.heap.size w W) => oEqTexts_any (hc1.below hb) (hc2.below hb) hl1 hl2)
  have HTP := hid (fun (W : World) (hb : Below w.heap.size w W) => oEqTexts_any (hp1.below hb) (hp2.below hb) hm1 hm2)
  obtain ⟨a1, c1, e1, -⟩ := hc1
  obtain ⟨a2, c2, e2, -⟩ := hc2
  obtain ⟨a3, c3, e3, -⟩ := hp1
  obtain ⟨a4, c4, e4, -⟩ := hp2
  subst e1; subst e2; subst e3; subst e4
  obtain ⟨L1, g1⟩ : ∃ L, L = x.cls.length := ⟨_, rfl⟩
  obtain ⟨L2, g2⟩ : ∃ L, L = y.cls.length := ⟨_, rfl⟩
  obtain ⟨L3, g3⟩ : ∃ L, L = x.prt.length := ⟨_, rfl⟩
  obtain ⟨L4, g4⟩ : ∃ L, L = y.prt.length := ⟨_, rfl⟩
  rw [← g1, ← g2] at HTC
  rw [← g3, ← g4] at HTP
  rw [← g1, ← g2, ← g3, ← g4]
  obtain ⟨nx, hnx⟩ : ∃ z, z = x.name := ⟨_, rfl⟩
  obtain ⟨ny, hny⟩ : ∃ z, z = y.name := ⟨_, rfl⟩
  obtain ⟨bc, hbc⟩ : ∃ b, b = decide (x.cls = y.cls) := ⟨_, rfl⟩
  obtain ⟨bp, hbp⟩ : ∃ b, b = decide (x.prt = y.prt) := ⟨_, rfl⟩
  have HDE := hid (show dvE x y = ((decide (nx = ny) && bc) && bp) by rw [hnx, hny, hbc, hbp]; rfl)
  rw [← hbc] at HTC
  rw [← hbp] at HTP
  rw [← hnx, ← hny]
  obtain ⟨B, hB⟩ : ∃ B, B = dvE x y := ⟨_, rfl⟩
  rw [← hB] at HDE ⊢
  clear g1 g2 g3 g4 hnx hny hbc hbp hB hl1 hm1 hl2 hm2
  have A1 := two_boxes w (dvOJ nx (.slice a1 L1 c1) (.slice a3 L3 c3)) (dvOJ ny (.slice a2 L2 c2) (.slice a4 L4 c4))
  obtain ⟨W1, hW1⟩ : ∃ W1, W1 = (w.alloc (dvOJ nx (.slice a1 L1 c1) (.slice a3 L3 c3))).alloc (dvOJ ny (.slice a2 L2 c2) (.slice a4 L4 c4)) := ⟨_, rfl⟩
  have hx0 : W1.heap[w.heap.size]? = some (dvOJ nx (.slice a1 L1 c1) (.slice a3 L3 c3)) := by rw [hW1]; exact A1.1
  have hx1 : W1.heap[w.heap.size + 1]? = some (dvOJ ny (.slice a2 L2 c2) (.slice a4 L4 c4)) := by rw [hW1]; exact A1.2.1
  have HB1 := hid (show Below w.heap.size w W1 from by rw [hW1]; exact ((Below.refl _ _).alloc (Nat.le_refl _) _).alloc (by simp) _)
  obtain ⟨r0, r1, r2⟩ := dvOJ_cells hx0
  obtain ⟨u0, u1, u2⟩ := dvOJ_cells hx1
  clear A1 hx0 hx1
  by_cases hn : nx = ny
  · have HNM := hid (decide_eq_true hn)
    subst hn
    have e1 : (nx == nx) = true := by simp
    go_enter Tryz.func46, Tryz.ntmps46
    go_upto_region 1 with fail
    rw [← hW1]
    clear hW1
    go_wp2_with fail
    refine (HTC.out _ HB1.out).mono ?_
    rintro en w6 ⟨rfl, n6, rfl⟩
    cases bc with
    | false =>
      have HE := hid (show B = false by rw [HDE.out, Bool.and_false]; rfl)
      go_wp2
      go_ret
      exact ⟨by rw [HE.out]; rfl, below_drewN HB1.out⟩
    | true =>
      go_wp2_with fail
      refine (HTP.out _ (below_drewN HB1.out)).mono ?_
      rintro en w7 ⟨rfl, n7, rfl⟩
      have HE := hid (show B = bp by rw [HDE.out, HNM.out]; simp)
      go_wp2
      go_ret
      exact ⟨by rw [HE.out]; rfl, below_drewN HB1.out⟩
  · have e1 : (nx == ny) = false := by rw [beq_eq_false_iff_ne]; exact hn
    have HE := hid (show B = false by rw [HDE.out, decide_eq_false hn]; rfl)
    clear hn
    go_enter Tryz.func46, Tryz.ntmps46
    go_upto_region 1 with fail
    rw [← hW1]
    clear hW1
    go_wp2
    go_ret
    exact ⟨by rw [HE.out]; rfl, HB1.out⟩
end Go.Proofs.YtebaopiedlioiaaGreatDoor
