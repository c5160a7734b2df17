/-
  What the law TopoAsks asks for, one call a row, and what lies in its two boxes.
  slices.EqualFunc of devices; the program's Same.
  The program's Same of any two topologies.
  slices.Equal of texts and of links.
-/
import Derived.Test.YtebaopiedlioiaaGreatDoorJDNearAnd
import Derived.Test.YtebaopiedlioiaaGreatDoorJParBAnd
import Derived.Test.YtebaopiedlioiaaGreatDoorJDocXAnd
import Derived.Test.YtebaopiedlioiaaGreatDoorJCopyAnd
import Derived.Test.YtebaopiedlioiaaGreatDoorJDocNAnd
namespace Go.Proofs.YtebaopiedlioiaaGreatDoor
open Go.RowKit

set_option maxRecDepth 20000 in
set_option maxHeartbeats 2000000 in
theorem oEqTexts_any {w : World} {v1 v2 : Value} {xs ys : List (List UInt8)} (h1 : Txs w v1 xs) (h2 : Txs w v2 ys) (hn : xs.length ≤ maxLen) (hm : ys.length ≤ maxLen) :
    Calls Tryz.prog 84 #[v1, v2] w fun e w' => e = .returned (.bool (decide (xs = ys))) ∧ ∃ n, w' = w.drewN n := by
  obtain ⟨a1, c1, rfl, r1⟩ := h1
  obtain ⟨a2, c2, rfl, r2⟩ := h2
  have HR1 := hid r1
  have HR2 := hid r2
  obtain ⟨n, hnn⟩ : ∃ n, n = xs.length := ⟨_, rfl⟩
  obtain ⟨m, hmm⟩ : ∃ m, m = ys.length := ⟨_, rfl⟩
  have HN := hid hnn
  have HM := hid hmm
  rw [← hnn] at hn ⊢
  rw [← hmm] at hm ⊢
  unfold maxLen at hn hm
  clear r1 r2 hnn hmm
  by_cases hq : n = m
  · subst hq
    have hne : ((n : Int) != (n : Int)) = false := by simp
    go_enter Tryz.func84, Tryz.ntmps84
    go_wp2_with fail
    go_loopw [5, 13] (fun _ i wr => ∃ k : Nat, k ≤ n ∧ i = .int .i64 k ∧ Hid (∀ i, i < k → xs[i]? = ys[i]?) ∧ Hid (∃ m, wr = w.drewN m)) (fun _ i _ => n - (intOf i).toNat)
    case atStart => exact ⟨0, Nat.zero_le _, rfl, hid fun i h => absurd h (Nat.not_lt_zero _), hid ⟨0, rfl⟩⟩
    case round =>
      obtain ⟨k, hk, rfl, hA, hB⟩ := hrel
      by_cases hlt : k < n
      · obtain ⟨x, hx⟩ : ∃ x, xs[k]? = some x := ⟨_, List.getElem?_eq_getElem (by have := HN.out; omega)⟩
        obtain ⟨y, hy⟩ : ∃ y, ys[k]? = some y := ⟨_, List.getElem?_eq_getElem (by have := HM.out; omega)⟩
        obtain ⟨g, o, rfl, hg, hc⟩ := HR1.out.resolve_left (fun e => by rw [e] at hx; simp at hx)
        obtain ⟨g', o', rfl, hg', hc'⟩ := HR2.out.resolve_left (fun e => by rw [e] at hy; simp at hy)
        have e0 : wr.heap = w.heap := by obtain ⟨m, hm⟩ := hB.out; rw [hm]; rfl
        have d1 := hc k (by have := HN.out; omega)
        have d2 := hc' k (by have := HM.out; omega)
        rw [List.getD_eq_getElem?_getD, hx] at d1
        rw [List.getD_eq_getElem?_getD, hy] at d2
        have y1 := (World.cell?_of_block (w' := wr) (a := ⟨g, o + k, none⟩) (by rw [e0])).trans d1
        have y2 := (World.cell?_of_block (w' := wr) (a := ⟨g', o' + k, none⟩) (by rw [e0])).trans d2
        simp only [Option.getD_some] at y1 y2
        have kI : (k : Int) < (n : Int) := by omega
        have k0 : (0 : Int) ≤ (k : Int) := by omega
        have HX := hid hx
        have HY := hid hy
        clear hx hy hc hc' e0 d1 d2
        by_cases e : x = y
        · have HA2 := hid (show ∀ i, i < k + 1 → xs[i]? = ys[i]? from fun i hi => by
            by_cases q : i = k
            · rw [q, HX.out, HY.out, e]
            · exact hA.out i (by omega))
          subst e
          have hne2 : (x != x) = false := by simp
          go_wp2_with fail
          go_quiet (fail)
          go_wp2
          go_roundw
          case rel => exact ⟨k + 1, by omega, by go_num, HA2, hid (drew_more hB.out)⟩
          case measure => simp [intOf]; omega
        · have e1 : (x != y) = true := by rw [bne_iff_ne]; exact e
          have e2 : (x == y) = false := by rw [beq_eq_false_iff_ne]; exact e
          have HE := hid (show decide (xs = ys) = false from decide_eq_false (fun q => e (by
            have h1 := HX.out
            rw [q, HY.out] at h1
            injection h1 with h1
            exact h1.symm)))
          clear e
          go_wp2_with fail
          go_quiet (fail)
          go_wp2
          go_ret
          exact ⟨by rw [HE.out]; rfl, drew_more hB.out⟩
      · have hkn : k = n := by omega
        have HE := hid (show decide (xs = ys) = true from decide_eq_true (by
          apply List.ext_getElem?
          intro i
          by_cases q : i < n
          · exact hA.out i (by omega)
          · rw [List.getElem?_eq_none (by have := HN.out; omega), List.getElem?_eq_none (by have := HM.out; omega)]))
        go_wp2
        go_ret
        exact ⟨by rw [HE.out]; rfl, hB.out⟩
  · have HE := hid (show decide (xs = ys) = false from decide_eq_false (fun q => hq (by rw [HN.out, HM.out, q])))
    have hne : ((n : Int) != (m : Int)) = true := by rw [bne_iff_ne]; omega
    have hne2 : (n != m) = true := by rw [bne_iff_ne]; exact hq
    go_enter Tryz.func84, Tryz.ntmps84
    go_wp2
    go_ret
    exact ⟨by rw [HE.out]; rfl, 0, rfl⟩

set_option maxRecDepth 20000 in
set_option maxHeartbeats 2000000 in
theorem oEqLinks_any {w : World} {v1 v2 : Value} {ls ls' : List LkZ} (hL : LkV w v1 ls) (hL' : LkV w v2 ls') (hn : ls.length ≤ maxLen) (hm : ls'.length ≤ maxLen) :
    Calls Tryz.prog 47 #[v1, v2] w fun e w' => e = .returned (.bool (decide (ls.length = ls'.length) && allN ls.length fun i => lkE (ls.getD i lk0) (ls'.getD i lk0))) ∧ ∃ n, w' = w.drewN n := by
  obtain ⟨a1, c1, rfl, r1⟩ := hL.form
  obtain ⟨a2, c2, rfl, r2⟩ := hL'.form
  have HR1 := hid r1
  have HR2 := hid r2
  obtain ⟨n, hnn⟩ : ∃ n, n = ls.length := ⟨_, rfl⟩
  obtain ⟨m, hmm⟩ : ∃ m, m = ls'.length := ⟨_, rfl⟩
  have HN := hid hnn
  have HM := hid hmm
  rw [← hnn] at hn ⊢
  rw [← hmm] at hm ⊢
  unfold maxLen at hn hm
  clear r1 r2 hnn hmm hL hL'
  by_cases hq : n = m
  · subst hq
    have hne : ((n : Int) != (n : Int)) = false := by simp
    obtain ⟨B, hBB⟩ : ∃ B, B = (decide (n = n) && allN n fun i => lkE (ls.getD i lk0) (ls'.getD i lk0)) := ⟨_, rfl⟩
    have HBB := hid hBB
    rw [← hBB]
    clear hBB
    go_enter Tryz.func47, Tryz.ntmps47
    go_wp2_with fail
    go_loopw [5, 13] (fun _ i wr => ∃ k : Nat, k ≤ n ∧ i = .int .i64 k ∧ Hid (∀ i, i < k → lkE (ls.getD i lk0) (ls'.getD i lk0) = true) ∧ Hid (∃ m, wr = w.drewN m)) (fun _ i _ => n - (intOf i).toNat)
    case atStart => exact ⟨0, Nat.zero_le _, rfl, hid fun i h => absurd h (Nat.not_lt_zero _), hid ⟨0, rfl⟩⟩
    case round =>
      obtain ⟨j, hj, rfl, hA, hB⟩ := hrel
      by_cases hlt : j < n
      · obtain ⟨⟨a, p, b, q⟩, hx⟩ : ∃ z, ls[j]? = some z := ⟨_, List.getElem?_eq_getElem (by have := HN.out; omega)⟩
        obtain ⟨⟨a', p', b', q'⟩, hy⟩ : ∃ z, ls'[j]? = some z := ⟨_, List.getElem?_eq_getElem (by have := HM.out; omega)⟩
        obtain ⟨G, o, rfl, hGl, hgc⟩ := HR1.out.resolve_left (fun e => by rw [e] at hx; simp at hx)
        obtain ⟨G', o', rfl, hGl', hgc'⟩ := HR2.out.resolve_left (fun e => by rw [e] at hy; simp at hy)
        have e0 : wr.heap = w.heap := by obtain ⟨m, hm⟩ := hB.out; rw [hm]; rfl
        obtain ⟨z0, z1, z2, z3⟩ := hgc j _ hx
        obtain ⟨z4, z5, z6, z7⟩ := hgc' j _ hy
        have y0 := (World.cell?_of_block (w' := wr) (a := ⟨G, o + j * 4, none⟩) (by rw [e0])).trans z0
        have y1 := (World.cell?_of_block (w' := wr) (a := ⟨G, o + j * 4 + 1, none⟩) (by rw [e0])).trans z1
        have y2 := (World.cell?_of_block (w' := wr) (a := ⟨G, o + j * 4 + 2, none⟩) (by rw [e0])).trans z2
        have y3 := (World.cell?_of_block (w' := wr) (a := ⟨G, o + j * 4 + 3, none⟩) (by rw [e0])).trans z3
        have y4 := (World.cell?_of_block (w' := wr) (a := ⟨G', o' + j * 4, none⟩) (by rw [e0])).trans z4
        have y5 := (World.cell?_of_block (w' := wr) (a := ⟨G', o' + j * 4 + 1, none⟩) (by rw [e0])).trans z5
        have y6 := (World.cell?_of_block (w' := wr) (a := ⟨G', o' + j * 4 + 2, none⟩) (by rw [e0])).trans z6
        have y7 := (World.cell?_of_block (w' := wr) (a := ⟨G', o' + j * 4 + 3, none⟩) (by rw [e0])).trans z7
        simp only at y0 y1 y2 y3 y4 y5 y6 y7
        have jI : (j : Int) < (n : Int) := by omega
        have j0I : (0 : Int) ≤ (j : Int) := by omega
        have HLE := hid (show lkE (ls.getD j lk0) (ls'.getD j lk0) = decide (a = a' ∧ p = p' ∧ b = b' ∧ q = q') by
          rw [getD_at hx, getD_at hy]; rfl)
        have hNE : ∀ w : World, (binOp .neq 83 (.agg #[.int .i64 a, .string (tx p), .int .i64 b, .string (tx q)]) (.agg #[.int .i64 a', .string (tx p'), .int .i64 b', .string (tx q')])).run Tryz.prog w = .ok (.bool (!decide (a = a' ∧ p = p' ∧ b = b' ∧ q = q'))) w := fun w => lkNeJ a a' b b' p p' q q' w
        obtain ⟨bl, hbl⟩ : ∃ bl, bl = decide (a = a' ∧ p = p' ∧ b = b' ∧ q = q') := ⟨_, rfl⟩
        rw [← hbl] at HLE
        simp only [← hbl] at hNE
        clear z0 z1 z2 z3 z4 z5 z6 z7 hx hy hgc hgc' hbl e0
        cases bl with
        | false =>
          have HE := hid (show B = false by
            rw [HBB.out, allN_false hlt HLE.out, Bool.and_false])
          simp only [Bool.not_false] at hNE
          go_wp2_with fail
          go_quiet (fail)
          go_wp2
          go_ret
          exact ⟨by rw [HE.out]; rfl, drew_more hB.out⟩
        | true =>
          have HA2 := hid (show ∀ i, i < j + 1 → lkE (ls.getD i lk0) (ls'.getD i lk0) = true from fun i hi => by
            by_cases e : i = j
            · rw [e]; exact HLE.out
            · exact hA.out i (by omega))
          simp only [Bool.not_true] at hNE
          go_wp2_with fail
          go_quiet (fail)
          go_wp2
          go_roundw
          case rel => exact ⟨j + 1, by omega, by go_num, HA2, hid (drew_more hB.out)⟩
          case measure => simp [intOf]; omega
      · have hkn : j = n := by omega
        have HE := hid (show B = true by
          rw [HBB.out, allN_iff.2 fun i hi => hA.out i (by omega)]; simp)
        go_wp2
        go_ret
        exact ⟨by rw [HE.out]; rfl, hB.out⟩
  · have HE := hid (show (decide (n = m) && allN n fun i => lkE (ls.getD i lk0) (ls'.getD i lk0)) = false from by rw [decide_eq_false hq]; rfl)
    have hne : ((n : Int) != (m : Int)) = true := by rw [bne_iff_ne]; omega
    have hne2 : (n != m) = true := by rw [bne_iff_ne]; exact hq
    go_enter Tryz.func47, Tryz.ntmps47
    go_wp2
    go_ret
    exact ⟨by rw [HE.out]; rfl, 0, rfl⟩
end Go.Proofs.YtebaopiedlioiaaGreatDoor
namespace Go.Proofs.YtebaopiedlioiaaGreatDoor
open Go.RowKit

set_option maxRecDepth 20000 in
set_option maxHeartbeats 2000000 in
theorem osameDevice_any {w : World} {x y : To.Dv} {u1 v1 u2 v2 : Value} (hc1 : Txs w u1 x.cls) (hp1 : Txs w v1 x.prt) (hc2 : Txs w u2 y.cls) (hp2 : Txs w v2 y.prt) (hl1 : x.cls.length ≤ maxLen) (hm1 : x.prt.length ≤ maxLen) (hl2 : y.cls.length ≤ maxLen) (hm2 : y.prt.length ≤ maxLen) :
    Calls Tryz.prog 46 #[.agg #[.string (tx x.name), u1, v1], .agg #[.string (tx y.name), u2, v2]] w fun e w' => e = .returned (.bool (dvE x y)) ∧ Below w.heap.size w w' := by
  have HTC := hid (fun (W : World) (hb : Below w.heap.size w W) => oEqTexts_any (hc1.below hb) (hc2.below hb) hl1 hl2)
  have HTP := hid (fun (W : World) (hb : Below w.heap.size w W) => oEqTexts_any (hp1.below hb) (hp2.below hb) hm1 hm2)
  obtain ⟨a1, c1, e1, -⟩ := hc1
  obtain ⟨a2, c2, e2, -⟩ := hc2
  obtain ⟨a3, c3, e3, -⟩ := hp1
  obtain ⟨a4, c4, e4, -⟩ := hp2
  subst e1; subst e2; subst e3; subst e4
  obtain ⟨L1, g1⟩ : ∃ L, L = x.cls.length := ⟨_, rfl⟩
  obtain ⟨L2, g2⟩ : ∃ L, L = y.cls.length := ⟨_, rfl⟩
  obtain ⟨L3, g3⟩ : ∃ L, L = x.prt.length := ⟨_, rfl⟩
  obtain ⟨L4, g4⟩ : ∃ L, L = y.prt.length := ⟨_, rfl⟩
  rw [← g1, ← g2] at HTC
  rw [← g3, ← g4] at HTP
  rw [← g1, ← g2, ← g3, ← g4]
  obtain ⟨nx, hnx⟩ : ∃ z, z = x.name := ⟨_, rfl⟩
  obtain ⟨ny, hny⟩ : ∃ z, z = y.name := ⟨_, rfl⟩
  obtain ⟨bc, hbc⟩ : ∃ b, b = decide (x.cls = y.cls) := ⟨_, rfl⟩
  obtain ⟨bp, hbp⟩ : ∃ b, b = decide (x.prt = y.prt) := ⟨_, rfl⟩
  have HDE := hid (show dvE x y = ((decide (nx = ny) && bc) && bp) by rw [hnx, hny, hbc, hbp]; rfl)
  rw [← hbc] at HTC
  rw [← hbp] at HTP
  rw [← hnx, ← hny]
  obtain ⟨B, hB⟩ : ∃ B, B = dvE x y := ⟨_, rfl⟩
  rw [← hB] at HDE ⊢
  clear g1 g2 g3 g4 hnx hny hbc hbp hB hl1 hm1 hl2 hm2
  have A1 := two_boxes w (dvOJ nx (.slice a1 L1 c1) (.slice a3 L3 c3)) (dvOJ ny (.slice a2 L2 c2) (.slice a4 L4 c4))
  obtain ⟨W1, hW1⟩ : ∃ W1, W1 = (w.alloc (dvOJ nx (.slice a1 L1 c1) (.slice a3 L3 c3))).alloc (dvOJ ny (.slice a2 L2 c2) (.slice a4 L4 c4)) := ⟨_, rfl⟩
  have hx0 : W1.heap[w.heap.size]? = some (dvOJ nx (.slice a1 L1 c1) (.slice a3 L3 c3)) := by rw [hW1]; exact A1.1
  have hx1 : W1.heap[w.heap.size + 1]? = some (dvOJ ny (.slice a2 L2 c2) (.slice a4 L4 c4)) := by rw [hW1]; exact A1.2.1
  have HB1 := hid (show Below w.heap.size w W1 from by rw [hW1]; exact ((Below.refl _ _).alloc (Nat.le_refl _) _).alloc (by simp) _)
  obtain ⟨r0, r1, r2⟩ := dvOJ_cells hx0
  obtain ⟨u0, u1, u2⟩ := dvOJ_cells hx1
  clear A1 hx0 hx1
  by_cases hn : nx = ny
  · have HNM := hid (decide_eq_true hn)
    subst hn
    have e1 : (nx == nx) = true := by simp
    go_enter Tryz.func46, Tryz.ntmps46
    go_upto_region 1 with fail
    rw [← hW1]
    clear hW1
    go_wp2_with fail
    refine (HTC.out _ HB1.out).mono ?_
    rintro en w6 ⟨rfl, n6, rfl⟩
    cases bc with
    | false =>
      have HE := hid (show B = false by rw [HDE.out, Bool.and_false]; rfl)
      go_wp2
      go_ret
      exact ⟨by rw [HE.out]; rfl, below_drewN HB1.out⟩
    | true =>
      go_wp2_with fail
      refine (HTP.out _ (below_drewN HB1.out)).mono ?_
      rintro en w7 ⟨rfl, n7, rfl⟩
      have HE := hid (show B = bp by rw [HDE.out, HNM.out]; simp)
      go_wp2
      go_ret
      exact ⟨by rw [HE.out]; rfl, below_drewN HB1.out⟩
  · have e1 : (nx == ny) = false := by rw [beq_eq_false_iff_ne]; exact hn
    have HE := hid (show B = false by rw [HDE.out, decide_eq_false hn]; rfl)
    clear hn
    go_enter Tryz.func46, Tryz.ntmps46
    go_upto_region 1 with fail
    rw [← hW1]
    clear hW1
    go_wp2
    go_ret
    exact ⟨by rw [HE.out]; rfl, HB1.out⟩
end Go.Proofs.YtebaopiedlioiaaGreatDoor
namespace Go.Proofs.YtebaopiedlioiaaGreatDoor
open Go.RowKit

theorem Below.upF {w a b : World} (h1 : Below w.heap.size w a) (h2 : Below a.heap.size a b) : Below w.heap.size w b :=
  ⟨h2.os.trans h1.os, h2.tape.trans h1.tape, h2.output.trans h1.output, Nat.le_trans h1.size h2.size, fun i hi => (h2.block i (Nat.lt_of_lt_of_le hi h1.size)).trans (h1.block i hi)⟩

set_option maxRecDepth 20000 in
set_option maxHeartbeats 2000000 in
theorem oEqDevices_any {w : World} {v1 v2 : Value} {ds ds' : List (To.Dv × Value × Value)} (hD : DvL w v1 ds) (hD' : DvL w v2 ds') (hn : ds.length ≤ maxLen) (hm : ds'.length ≤ maxLen) :
    Calls Tryz.prog 45 #[v1, v2, .func (.func 46) #[] #[]] w fun e w' => e = .returned (.bool (decide (ds.length = ds'.length) && allN ds.length fun i => dvE ((ds.map (·.1)).getD i dv0) ((ds'.map (·.1)).getD i dv0))) ∧ Below w.heap.size w w' := by
  have HD := hid hD
  have HD' := hid hD'
  obtain ⟨a1, c1, rfl, r1⟩ := hD.form
  obtain ⟨a2, c2, rfl, r2⟩ := hD'.form
  have HR1 := hid r1
  have HR2 := hid r2
  obtain ⟨n, hnn⟩ : ∃ n, n = ds.length := ⟨_, rfl⟩
  obtain ⟨m, hmm⟩ : ∃ m, m = ds'.length := ⟨_, rfl⟩
  have HN := hid hnn
  have HM := hid hmm
  rw [← hnn] at hn ⊢
  rw [← hmm] at hm ⊢
  unfold maxLen at hn hm
  clear r1 r2 hnn hmm hD hD'
  by_cases hq : n = m
  · obtain ⟨B, hBB⟩ : ∃ B, B = (decide (n = m) && allN n fun i => dvE ((ds.map (·.1)).getD i dv0) ((ds'.map (·.1)).getD i dv0)) := ⟨_, rfl⟩
    have HBB := hid (show B = allN n fun i => dvE ((ds.map (·.1)).getD i dv0) ((ds'.map (·.1)).getD i dv0) by rw [hBB, decide_eq_true hq, Bool.true_and])
    rw [← hBB]
    clear hBB
    subst hq
    have hne : ((n : Int) != (n : Int)) = false := by simp
    go_enter Tryz.func45, Tryz.ntmps45
    go_wp2_with fail
    go_loopw [17] (fun i wr => ∃ k : Nat, k ≤ n ∧ i = .int .i64 k ∧ Hid (∀ i, i < k → dvE ((ds.map (·.1)).getD i dv0) ((ds'.map (·.1)).getD i dv0) = true) ∧ Hid (Below w.heap.size w wr)) (fun i _ => n - (intOf i).toNat)
    case atStart => exact ⟨0, Nat.zero_le _, rfl, hid fun i h => absurd h (Nat.not_lt_zero _), hid (Below.refl _ _)⟩
    case round =>
      obtain ⟨k, hk, rfl, hA, hI⟩ := hrel
      by_cases hlt : k < n
      · obtain ⟨⟨qx, ux, vx⟩, hx⟩ : ∃ z, ds[k]? = some z := ⟨_, List.getElem?_eq_getElem (by have := HN.out; omega)⟩
        obtain ⟨⟨qy, uy, vy⟩, hy⟩ : ∃ z, ds'[k]? = some z := ⟨_, List.getElem?_eq_getElem (by have := HM.out; omega)⟩
        obtain ⟨D, od, rfl, hDl, hdc⟩ := HR1.out.resolve_left (fun e => by rw [e] at hx; simp at hx)
        obtain ⟨D', od', rfl, hDl', hdc'⟩ := HR2.out.resolve_left (fun e => by rw [e] at hy; simp at hy)
        have hw1 : wr.heap[D]? = w.heap[D]? := hI.out.block D hDl
        have hw2 : wr.heap[D']? = w.heap[D']? := hI.out.block D' hDl'
        obtain ⟨z0, z1, z2⟩ := hdc k _ hx
        obtain ⟨z3, z4, z5⟩ := hdc' k _ hy
        have y0 := (World.cell?_of_block (a := ⟨D, od + k * 3, none⟩) hw1).trans z0
        have y1 := (World.cell?_of_block (a := ⟨D, od + k * 3 + 1, none⟩) hw1).trans z1
        have y2 := (World.cell?_of_block (a := ⟨D, od + k * 3 + 2, none⟩) hw1).trans z2
        have y3 := (World.cell?_of_block (a := ⟨D', od' + k * 3, none⟩) hw2).trans z3
        have y4 := (World.cell?_of_block (a := ⟨D', od' + k * 3 + 1, none⟩) hw2).trans z4
        have y5 := (World.cell?_of_block (a := ⟨D', od' + k * 3 + 2, none⟩) hw2).trans z5
        simp only at y0 y1 y2 y3 y4 y5
        have y3a := alloc_cell y3 (cell_ltP y3)
        have y4a := alloc_cell y4 (cell_ltP y4)
        have y5a := alloc_cell y5 (cell_ltP y5)
        have kI : (k : Int) < (n : Int) := by omega
        have k0I : (0 : Int) ≤ (k : Int) := by omega
        have HDE := hid (show dvE ((ds.map (·.1)).getD k dv0) ((ds'.map (·.1)).getD k dv0) = dvE qx qy by
          rw [getD_at (show (ds.map (·.1))[k]? = some qx by rw [List.getElem?_map, hx]; rfl), getD_at (show (ds'.map (·.1))[k]? = some qy by rw [List.getElem?_map, hy]; rfl)])
        obtain ⟨hc1, hl1⟩ := HD.out.cls _ (List.mem_of_getElem? hx)
        obtain ⟨hp1, hm1⟩ := HD.out.prt _ (List.mem_of_getElem? hx)
        obtain ⟨hc2, hl2⟩ := HD'.out.cls _ (List.mem_of_getElem? hy)
        obtain ⟨hp2, hm2⟩ := HD'.out.prt _ (List.mem_of_getElem? hy)
        simp only at hc1 hl1 hp1 hm1 hc2 hl2 hp2 hm2
        have HSD := hid (fun (W : World) (hb : Below w.heap.size w W) => osameDevice_any (hc1.below hb) (hp1.below hb) (hc2.below hb) (hp2.below hb) hl1 hm1 hl2 hm2)
        obtain ⟨b1, e1, g1, -⟩ := hc1
        obtain ⟨b2, e2, g2, -⟩ := hc2
        obtain ⟨b3, e3, g3, -⟩ := hp1
        obtain ⟨b4, e4, g4, -⟩ := hp2
        subst g1; subst g2; subst g3; subst g4
        obtain ⟨L1, g1⟩ : ∃ L, L = qx.cls.length := ⟨_, rfl⟩
        obtain ⟨L2, g2⟩ : ∃ L, L = qy.cls.length := ⟨_, rfl⟩
        obtain ⟨L3, g3⟩ : ∃ L, L = qx.prt.length := ⟨_, rfl⟩
        obtain ⟨L4, g4⟩ : ∃ L, L = qy.prt.length := ⟨_, rfl⟩
        obtain ⟨nx, hnx⟩ : ∃ z, z = qx.name := ⟨_, rfl⟩
        obtain ⟨ny, hny⟩ : ∃ z, z = qy.name := ⟨_, rfl⟩
        obtain ⟨bd, hbd⟩ : ∃ z, z = dvE qx qy := ⟨_, rfl⟩
        rw [← g1] at y1
        rw [← g2] at y4 y4a
        rw [← g3] at y2
        rw [← g4] at y5 y5a
        rw [← hnx] at y0
        rw [← hny] at y3 y3a
        rw [← g1, ← g2, ← g3, ← g4, ← hnx, ← hny, ← hbd] at HSD
        rw [← hbd] at HDE
        clear z0 z1 z2 z3 z4 z5 hx hy hdc hdc' hw1 hw2 hl1 hl2 hm1 hm2 g1 g2 g3 g4 hbd hnx hny
        have A1 := two_boxes wr (dvOJ nx (.slice b1 L1 e1) (.slice b3 L3 e3)) (dvOJ ny (.slice b2 L2 e2) (.slice b4 L4 e4))
        obtain ⟨W1, hW1⟩ : ∃ W1, W1 = (wr.alloc (dvOJ nx (.slice b1 L1 e1) (.slice b3 L3 e3))).alloc (dvOJ ny (.slice b2 L2 e2) (.slice b4 L4 e4)) := ⟨_, rfl⟩
        have hx0 : W1.heap[wr.heap.size]? = some (dvOJ nx (.slice b1 L1 e1) (.slice b3 L3 e3)) := by rw [hW1]; exact A1.1
        have hx1 : W1.heap[wr.heap.size + 1]? = some (dvOJ ny (.slice b2 L2 e2) (.slice b4 L4 e4)) := by rw [hW1]; exact A1.2.1
        have HB1 := hid (show Below w.heap.size w W1 from Below.upF hI.out (by rw [hW1]; exact ((Below.refl _ _).alloc (Nat.le_refl _) _).alloc (by simp) _))
        obtain ⟨r0, r1, r2⟩ := dvOJ_cells hx0
        obtain ⟨u0, u1, u2⟩ := dvOJ_cells hx1
        clear A1 hx0 hx1
        go_upto_region 7 with fail
        rw [← hW1]
        clear hW1 y0 y1 y2 y3 y4 y5 y3a y4a y5a
        go_wp2_with fail
        refine (HSD.out _ HB1.out).mono ?_
        rintro en w6 ⟨rfl, hb6⟩
        have HB6 := hid (Below.upF HB1.out hb6)
        clear hb6 r0 r1 r2 u0 u1 u2
        cases bd with
        | false =>
          have HE := hid (show B = false by rw [HBB.out, allN_false hlt HDE.out])
          go_wp2
          go_ret
          exact ⟨by rw [HE.out]; rfl, HB6.out⟩
        | true =>
          have HA2 := hid (show ∀ i, i < k + 1 → dvE ((ds.map (·.1)).getD i dv0) ((ds'.map (·.1)).getD i dv0) = true from fun i hi => by
            by_cases e : i = k
            · rw [e]; exact HDE.out
            · exact hA.out i (by omega))
          go_wp2
          go_roundw
          case rel => exact ⟨k + 1, by omega, by go_num, HA2, HB6⟩
          case measure => simp [intOf]; omega
      · have hkn : k = n := by omega
        have HE := hid (show B = true by rw [HBB.out, allN_iff.2 fun i hi => hA.out i (by omega)])
        go_wp2
        go_ret
        exact ⟨by rw [HE.out]; rfl, hI.out⟩
  · have HE := hid (show (decide (n = m) && allN n fun i => dvE ((ds.map (·.1)).getD i dv0) ((ds'.map (·.1)).getD i dv0)) = false from by rw [decide_eq_false hq]; rfl)
    have hne : ((n : Int) != (m : Int)) = true := by rw [bne_iff_ne]; omega
    have hne2 : (n != m) = true := by rw [bne_iff_ne]; exact hq
    go_enter Tryz.func45, Tryz.ntmps45
    go_wp2
    go_ret
    exact ⟨by first | rfl | (rw [HE.out]; rfl), Below.refl _ _⟩

set_option maxRecDepth 20000 in
set_option maxHeartbeats 2000000 in
theorem oSame_any {w : World} {wd wd' : Int} {vd vl vd' vl' : Value} {ds ds' : List (To.Dv × Value × Value)} {ls ls' : List LkZ} (hD : DvL w vd ds) (hL : LkV w vl ls) (hD' : DvL w vd' ds') (hL' : LkV w vl' ls') (hdn : ds.length ≤ maxLen) (hln : ls.length ≤ maxLen) (hdn' : ds'.length ≤ maxLen) (hln' : ls'.length ≤ maxLen) :
    Calls Tryz.prog 18 #[.agg #[.int .i64 wd, vd, vl], .agg #[.int .i64 wd', vd', vl']] w fun e w' => e = .returned (.bool (sameT wd (ds.map (·.1)) ls wd' (ds'.map (·.1)) ls')) ∧ Below w.heap.size w w' := by
  have HED := hid (fun (W : World) (hb : Below w.heap.size w W) => oEqDevices_any (hD.below hb) (hD'.below hb) hdn hdn')
  have HEL := hid (fun (W : World) (hb : Below w.heap.size w W) => oEqLinks_any (hL.below hb) (hL'.below hb) hln hln')
  obtain ⟨dv, dc, hvd, -⟩ := hD.form
  obtain ⟨lv, lc, hvl, -⟩ := hL.form
  obtain ⟨dv', dc', hvd', -⟩ := hD'.form
  obtain ⟨lv', lc', hvl', -⟩ := hL'.form
  obtain ⟨N, hN⟩ : ∃ N, N = ds.length := ⟨_, rfl⟩
  obtain ⟨M, hM⟩ : ∃ M, M = ls.length := ⟨_, rfl⟩
  obtain ⟨N', hN'⟩ : ∃ N, N = ds'.length := ⟨_, rfl⟩
  obtain ⟨M', hM'⟩ : ∃ M, M = ls'.length := ⟨_, rfl⟩
  rw [← hN] at hvd HED
  rw [← hM] at hvl HEL
  rw [← hN'] at hvd' HED
  rw [← hM'] at hvl' HEL
  subst hvd; subst hvl; subst hvd'; subst hvl'
  obtain ⟨B1, hB1⟩ : ∃ B, B = (decide (N = N') && allN N fun i => dvE ((ds.map (·.1)).getD i dv0) ((ds'.map (·.1)).getD i dv0)) := ⟨_, rfl⟩
  obtain ⟨B2, hB2⟩ : ∃ B, B = (decide (M = M') && allN M fun i => lkE (ls.getD i lk0) (ls'.getD i lk0)) := ⟨_, rfl⟩
  obtain ⟨S, hS⟩ : ∃ S, S = sameT wd (ds.map (·.1)) ls wd' (ds'.map (·.1)) ls' := ⟨_, rfl⟩
  have HS := hid (show S = (decide (wd = wd') && (B1 && B2)) by
    rw [hS, hB1, hB2]
    unfold sameT
    rw [List.length_map, List.length_map, ← hN, ← hM, ← hN', ← hM']
    cases decide (wd = wd') <;> cases decide (N = N') <;> cases decide (M = M') <;> simp)
  rw [← hB1] at HED
  rw [← hB2] at HEL
  rw [← hS]
  clear hS hB1 hB2 hN hM hN' hM' hD hL hD' hL' hdn hln hdn' hln'
  obtain ⟨W1, hW1⟩ : ∃ W1, W1 = (w.alloc (topJ (.int .i64 wd) (.slice dv N dc) (.slice lv M lc))).alloc (topJ (.int .i64 wd') (.slice dv' N' dc') (.slice lv' M' lc')) := ⟨_, rfl⟩
  have A1 := two_boxes w (topJ (.int .i64 wd) (.slice dv N dc) (.slice lv M lc)) (topJ (.int .i64 wd') (.slice dv' N' dc') (.slice lv' M' lc'))
  have hx0 : W1.heap[w.heap.size]? = some (topJ (.int .i64 wd) (.slice dv N dc) (.slice lv M lc)) := by rw [hW1]; exact A1.1
  have hx1 : W1.heap[w.heap.size + 1]? = some (topJ (.int .i64 wd') (.slice dv' N' dc') (.slice lv' M' lc')) := by rw [hW1]; exact A1.2.1
  have HB1 := hid (show Below w.heap.size w W1 from by rw [hW1]; exact ((Below.refl _ _).alloc (Nat.le_refl _) _).alloc (by simp) _)
  have HT := hid (fun (W : World) (hb : Below W1.heap.size W1 W) => (show W.cell? ⟨w.heap.size, 2, none⟩ = some (.slice lv M lc) ∧ W.cell? ⟨w.heap.size + 1, 2, none⟩ = some (.slice lv' M' lc') from
    ⟨(topJ_cells ((hb.block _ (lt_of_block hx0)).trans hx0)).2.2, (topJ_cells ((hb.block _ (lt_of_block hx1)).trans hx1)).2.2⟩))
  obtain ⟨r0, r1, r2⟩ := topJ_cells hx0
  obtain ⟨u0, u1, u2⟩ := topJ_cells hx1
  clear A1 hx0 hx1
  by_cases q1 : wd = wd'
  · have HQ := hid (decide_eq_true q1)
    subst q1
    have e1 : (wd == wd) = true := by simp
    go_enter Tryz.func18, Tryz.ntmps18
    go_upto_region 1 with fail
    rw [← hW1]
    clear hW1
    go_wp2_with fail
    refine (HED.out _ HB1.out).mono ?_
    rintro en w6 ⟨rfl, hb6⟩
    have HB6 := hid (Below.upF HB1.out hb6)
    obtain ⟨t2, t3⟩ := HT.out w6 hb6
    clear hb6 r0 r1 r2 u0 u1 u2
    cases B1 with
    | false =>
      have HE := hid (show S = false by rw [HS.out, Bool.false_and, Bool.and_false])
      go_wp2
      go_ret
      exact ⟨by rw [HE.out]; rfl, HB6.out⟩
    | true =>
      have HE := hid (show S = B2 by rw [HS.out, HQ.out, Bool.true_and, Bool.true_and])
      go_wp2_with fail
      refine (HEL.out _ HB6.out).mono ?_
      rintro en w7 ⟨rfl, n7, rfl⟩
      go_wp2
      go_ret
      exact ⟨by rw [HE.out]; rfl, below_drewN HB6.out⟩
  · have e1 : (wd == wd') = false := by rw [beq_eq_false_iff_ne]; exact q1
    have HE := hid (show S = false by rw [HS.out, decide_eq_false q1]; rfl)
    clear q1
    go_enter Tryz.func18, Tryz.ntmps18
    go_upto_region 1 with fail
    rw [← hW1]
    clear hW1
    go_wp2
    go_ret
    exact ⟨by rw [HE.out]; rfl, HB1.out⟩
end Go.Proofs.YtebaopiedlioiaaGreatDoor
namespace Go.Proofs.YtebaopiedlioiaaGreatDoor
open Go.RowKit

theorem TwI.put0 {w X : World} {x0 x1 x2 a b c : Value} {o : Obj} (h : TwI w (topJ x0 x1 x2) o X) : ∃ V, V = ((X.setCell ⟨w.heap.size, 0, none⟩ a).setCell ⟨w.heap.size, 1, none⟩ b).setCell ⟨w.heap.size, 2, none⟩ c ∧ TwI w (topJ a b c) o V := by
  obtain ⟨V, hV, hv0, hvb, hvk, _⟩ := top_box (a := a) (b := b) (c := c) h.one
  exact ⟨V, hV, hv0, (hvk _ (by omega)).trans h.two, h.below.trans hvb⟩
theorem TwI.put1 {w X : World} {x0 x1 x2 a b c : Value} {o : Obj} (h : TwI w o (topJ x0 x1 x2) X) : ∃ V, V = ((X.setCell ⟨w.heap.size + 1, 0, none⟩ a).setCell ⟨w.heap.size + 1, 1, none⟩ b).setCell ⟨w.heap.size + 1, 2, none⟩ c ∧ TwI w o (topJ a b c) V := by
  obtain ⟨V, hV, hv0, hvb, hvk, _⟩ := top_box (a := a) (b := b) (c := c) h.two
  exact ⟨V, hV, (hvk _ (by omega)).trans h.one, hv0, h.below.trans (hvb.mono (by omega))⟩
theorem sameT_self (wd : Int) (ds : List To.Dv) (ls : List LkZ) : sameT wd ds ls wd ds ls = true := by
  unfold sameT
  rw [decide_eq_true rfl, decide_eq_true rfl, decide_eq_true rfl, allN_iff.2 fun i _ => by unfold dvE; simp, allN_iff.2 fun i _ => by unfold lkE; simp]
  rfl
theorem tx_neJ (s : List UInt8) : (tx s != tx s) = false := by
  have h : (tx s == tx s) = true := by
    show (s.toArray == s.toArray) = true
    simp
  show (!(tx s == tx s)) = false
  rw [h]
  rfl
theorem fndV_form (s : List UInt8) (zs : List (List UInt8)) : ∃ (i : Int) (b : Bool), fndV s zs = .tuple #[.int .i64 i, .bool b] := by
  unfold fndV
  split
  · exact ⟨_, _, rfl⟩
  · exact ⟨_, _, rfl⟩
theorem peerV_form (r : Option (Int × List UInt8)) : ∃ (i : Int) (q : List UInt8) (b : Bool), peerV r = .tuple #[.int .i64 i, .string (tx q), .bool b] := by
  cases r with
  | none => exact ⟨_, _, _, rfl⟩
  | some p => exact ⟨_, _, _, rfl⟩
/-- A device's name, how many classes it has, and whether there is one: as Who tells it. -/
def whoF (d : Int) (ds : List (To.Dv × Value × Value)) : List UInt8 × Nat × Bool := if d < 0 then ([], 0, false) else match ds[d.toNat]? with | some q => (q.1.name, q.1.cls.length, true) | none => ([], 0, false)
theorem whoF_none {d : Int} {ds : List (To.Dv × Value × Value)} (h : d < 0 ∨ (ds.length : Int) ≤ d) : whoF d ds = ([], 0, false) := by
  unfold whoF
  split
  · rfl
  · rw [List.getElem?_eq_none (by omega)]
theorem whoF_some {k : Nat} {ds : List (To.Dv × Value × Value)} {q : To.Dv × Value × Value} (h : ds[k]? = some q) : whoF (k : Int) ds = (q.1.name, q.1.cls.length, true) := by
  unfold whoF
  rw [if_neg (by omega), Int.toNat_natCast, h]
theorem WhoQ.form {w w' : World} {d : Int} {ds : List (To.Dv × Value × Value)} {en : Ending} (h : WhoQ w d ds en w') : (∃ a c, en = .returned (.tuple #[.agg #[.string (tx (whoF d ds).1), .slice a (whoF d ds).2.1 c], .bool (whoF d ds).2.2])) ∧ Below w.heap.size w w' := by
  obtain ⟨hb, ⟨h1, rfl⟩ | ⟨k, q, v', rfl, hq, rfl, ao, cp, rfl, _⟩⟩ := h
  · exact ⟨⟨none, 0, by rw [whoF_none h1]⟩, hb⟩
  · exact ⟨⟨ao, cp, by rw [whoF_some hq]⟩, hb⟩
theorem RWhoQ.form {w w' : World} {d : Int} {ds : List (To.Dv × Value × Value)} {en : Ending} (h : RWhoQ w d ds en w') : (∃ a c, en = .returned (.tuple #[.agg #[.string (tx (whoF d ds).1), .slice a (whoF d ds).2.1 c], .bool (whoF d ds).2.2])) ∧ Below w.heap.size w w' := by
  obtain ⟨hb, ⟨h1, rfl⟩ | ⟨k, q, ao, cp, rfl, hq, rfl⟩⟩ := h
  · exact ⟨⟨none, 0, by rw [whoF_none h1]⟩, hb⟩
  · exact ⟨⟨ao, cp, by rw [whoF_some hq]⟩, hb⟩
/-- All that the law asks for, in whatever memory behind the first. -/
theorem asks_all {w : World} {wd wd' : Int} {dv lv dv' lv' : Option Addr} {n dc k lc n' dc' k' lc' : Nat} {es es' : List (To.Dv × Value × Value)} {js js' : List LkZ} (hD : DvL w (.slice dv n dc) es) (hL : LkV w (.slice lv k lc) js) (hD' : DvL w (.slice dv' n' dc') es') (hL' : LkV w (.slice lv' k' lc') js') (l1 : es.length ≤ 40) (l2 : js.length ≤ 40) (l3 : es'.length ≤ 40) (l4 : js'.length ≤ 40)
    (hs : ∀ q ∈ es, q.1.name.length ≤ 140737488355328 ∧ q.1.cls.length * 16 ≤ 140737488355328 ∧ ∀ z ∈ q.1.cls, z.length ≤ 140737488355328) (hp : ∀ q ∈ js, q.2.1.length ≤ 140737488355328 ∧ q.2.2.2.length ≤ 140737488355328) (s : List UInt8) (d : Int) (m : List UInt8) :
    ∃ (i1 : Int) (b1 : Bool) (i2 : Int) (q2 : List UInt8) (b2 : Bool) (x3 : List UInt8) (l3 : Nat) (b3 : Bool),
      (∀ W, Below w.heap.size w W → Calls Tryz.prog 19 #[.agg #[.int .i64 wd, .slice dv n dc, .slice lv k lc], .string (tx s)] W fun en w' => en = .returned (.tuple #[.int .i64 i1, .bool b1]) ∧ Below W.heap.size W w') ∧
      (∀ W, Below w.heap.size w W → Calls Tryz.prog 20 #[.agg #[.int .i64 wd, .slice dv n dc, .slice lv k lc], .string (tx s)] W fun en w' => en = .returned (.tuple #[.int .i64 i1, .bool b1]) ∧ Below W.heap.size W w') ∧
      (∀ W, Below w.heap.size w W → Calls Tryz.prog 21 #[.agg #[.int .i64 wd, .slice dv n dc, .slice lv k lc], .int .i64 d, .string (tx m)] W fun en w' => en = .returned (.tuple #[.int .i64 i2, .string (tx q2), .bool b2]) ∧ Below W.heap.size W w') ∧
      (∀ W, Below w.heap.size w W → Calls Tryz.prog 22 #[.agg #[.int .i64 wd, .slice dv n dc, .slice lv k lc], .int .i64 d, .string (tx m)] W fun en w' => en = .returned (.tuple #[.int .i64 i2, .string (tx q2), .bool b2]) ∧ Below W.heap.size W w') ∧
      (∀ W, Below w.heap.size w W → Calls Tryz.prog 23 #[.agg #[.int .i64 wd, .slice dv n dc, .slice lv k lc], .int .i64 d] W fun en w' => (∃ a c, en = .returned (.tuple #[.agg #[.string (tx x3), .slice a l3 c], .bool b3])) ∧ Below W.heap.size W w') ∧
      (∀ W, Below w.heap.size w W → Calls Tryz.prog 24 #[.agg #[.int .i64 wd, .slice dv n dc, .slice lv k lc], .int .i64 d] W fun en w' => (∃ a c, en = .returned (.tuple #[.agg #[.string (tx x3), .slice a l3 c], .bool b3])) ∧ Below W.heap.size W w') ∧
      (∀ W, Below w.heap.size w W → Calls Tryz.prog 25 #[.agg #[.int .i64 wd, .slice dv n dc, .slice lv k lc], .int .i64 d] W fun en w' => (∃ v, en = .returned v ∧ NumsV w' v (nearS d js)) ∧ Below W.heap.size W w') ∧
      (∀ W, Below w.heap.size w W → Calls Tryz.prog 26 #[.agg #[.int .i64 wd, .slice dv n dc, .slice lv k lc], .int .i64 d] W fun en w' => (∃ v, en = .returned v ∧ NumsV w' v (nearS d js)) ∧ Below W.heap.size W w') ∧
      js.length ≤ 40 ∧
      (∀ W, Below w.heap.size w W → Calls Tryz.prog 18 #[.agg #[.int .i64 wd, .slice dv n dc, .slice lv k lc], .agg #[.int .i64 wd', .slice dv' n' dc', .slice lv' k' lc']] W fun en w' => en = .returned (.bool (sameT wd (es.map (·.1)) js wd' (es'.map (·.1)) js')) ∧ Below W.heap.size W w') ∧
      (∀ W, Below w.heap.size w W → Calls Tryz.prog 11 #[.agg #[.int .i64 wd, .slice dv n dc, .slice lv k lc], .agg #[.int .i64 wd', .slice dv' n' dc', .slice lv' k' lc']] W fun en w' => en = .returned (.bool (sameT wd (es.map (·.1)) js wd' (es'.map (·.1)) js')) ∧ Below W.heap.size W w') ∧
      (∀ W, Below w.heap.size w W → Calls Tryz.prog 18 #[.agg #[.int .i64 wd, .slice dv n dc, .slice lv k lc], .agg #[.int .i64 wd, .slice dv n dc, .slice lv k lc]] W fun en w' => en = .returned (.bool true) ∧ Below W.heap.size W w') := by
  obtain ⟨i1, b1, e1⟩ := fndV_form s (es.map (·.1.name))
  obtain ⟨i2, q2, b2, e2⟩ := peerV_form (peerJ d m js)
  have hx : (∀ q ∈ es, q.1.cls.length * 16 ≤ 140737488355328) := fun q hq => (hs q hq).2.1
  have ml : ∀ {x : Nat}, x ≤ 40 → x ≤ maxLen := fun h => by unfold maxLen; omega
  refine ⟨i1, b1, i2, q2, b2, (whoF d es).1, (whoF d es).2.1, (whoF d es).2.2, fun W hb => ?_, fun W hb => ?_, fun W hb => ?_, fun W hb => ?_, fun W hb => ?_, fun W hb => ?_, fun W hb => ?_, fun W hb => ?_, l2, fun W hb => ?_, fun W hb => ?_, fun W hb => ?_⟩
  · rw [← e1]; exact oFind_any (hD.below hb) (by omega)
  · rw [← e1]; exact RFind_any (hD.below hb) (by omega)
  · rw [← e2]; exact oPeerL_any (hL.below hb) d m hp (by omega)
  · rw [← e2]; exact RPeer_any (hL.below hb) d m (by omega)
  · exact (oWho_any (hD.below hb) d (ml l1) hs ⟨_, _, _, rfl⟩ ⟨_, rfl⟩).mono fun en w' h => h.form
  · exact (RWho_any (hD.below hb) d (ml l1) hx ⟨_, _, _, rfl⟩ ⟨_, rfl⟩).mono fun en w' h => h.form
  · exact oNear_any (hL.below hb) d (by omega)
  · exact RNear_any (hL.below hb) d (by omega)
  · exact oSame_any (hD.below hb) (hL.below hb) (hD'.below hb) (hL'.below hb) (ml l1) (ml l2) (ml l3) (ml l4)
  · exact RSameT_any (hD.below hb) (hL.below hb) (hD'.below hb) (hL'.below hb) (ml l1) (ml l2)
  · have h1 := oSame_any (wd := wd) (wd' := wd) (hD.below hb) (hL.below hb) (hD.below hb) (hL.below hb) (ml l1) (ml l2) (ml l1) (ml l2)
    rw [sameT_self] at h1
    exact h1
end Go.Proofs.YtebaopiedlioiaaGreatDoor
