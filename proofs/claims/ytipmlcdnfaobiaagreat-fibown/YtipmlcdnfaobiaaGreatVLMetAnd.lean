/-
  The law FibSteps: of any width and any changes it answers true.
  Changes of unlike keys may stand in any order: the mathematics.
  The document's SameChanges, of two alike rows of changes.
  The law FibMeets: of any width, any changes and any texts it answers true.
-/
import Derived.Test.YtipmlcdnfaobiaaGreatVMadeAnd
import Derived.Deep.RegionHeld2
import Derived.BigQuiet
namespace Go.Proofs.YtipmlcdnfaobiaaGreat
open Go.RowKit

theorem meetR_few {W : Int} {L : List Raw} (hg : GoodT W L) (h : List UInt8) : (meetR W L h).1.ports.length ≤ 64 := by
  unfold meetR
  split
  · simp [zeroR]
  · split
    · simp [zeroR]
    · rw [List.getD_eq_getElem?_getD]
      cases q : L[(metN L h).toNat]? with
      | none => simp [zeroR]
      | some r => exact (errR_small (hg.ok r (List.mem_of_getElem? q))).2.1
theorem lookR_few {W : Int} {L : List Raw} (hg : GoodT W L) (h : List UInt8) : (lookR W L h).2.1.length ≤ 64 := by
  unfold lookR
  split
  · simp
  · split
    · simp
    · rw [List.getD_eq_getElem?_getD]
      cases q : L[(metN L h).toNat]? with
      | none => simp [zeroR]
      | some r => exact (errR_small (hg.ok r (List.mem_of_getElem? q))).2.1

set_option maxRecDepth 20000 in
set_option maxHeartbeats 2000000 in
theorem SameRule_eq {w : World} {p k : Int} {m : List UInt8} {zs : List (List UInt8)} {a1 a2 : Option Addr} {n1 n2 c1 c2 : Nat} (h1 : Txs w (.slice a1 n1 c1) zs) (h2 : Txs w (.slice a2 n2 c2) zs) (hz : zs.length ≤ maxLen) :
    Calls Tryz.prog 21 #[.agg #[.int .i64 p, .string (tx m), .int .i64 k, .slice a1 n1 c1], .agg #[.int .i64 p, .string (tx m), .int .i64 k, .slice a2 n2 c2]] w fun e w' => e = .returned (.bool true) ∧ Below w.heap.size w w' := by
  have HS := hid (fun (X : World) (hX : Below w.heap.size w X) => Same_actsI (k := k) (h1.below hX) (h2.below hX) hz)
  have HB := hid (show Below w.heap.size w ((w.alloc (rob p (tx m) k (.slice a1 n1 c1))).alloc (rob p (tx m) k (.slice a2 n2 c2))) from ((Below.refl _ _).alloc (Nat.le_refl _) _).alloc (by simp) _)
  have epp : (p == p) = true := by simp
  have emm : (m == m) = true := by simp
  clear h1 h2
  go_enter Tryz.func21, Tryz.ntmps21
  go_wp2_with (first | (go_at_call 22; refine (HS.out _ HB.out).mono ?_; rintro e wz ⟨rfl, hbz⟩) | fail)
  go_ret
  exact ⟨rfl, below_2 HB.out hbz⟩

set_option maxRecDepth 20000 in
set_option maxHeartbeats 4000000 in
theorem fmeets_bad {w : World} {ao bo : Option Addr} {n cap n2 cap2 : Nat} {W : Int} (h : ¬ (1 ≤ W ∧ W ≤ 128)) : Calls Tryz.prog 4 #[.int .i64 W, .slice ao n cap, .slice bo n2 cap2] w fun e w' => e = .returned (.bool true) ∧ Below w.heap.size w w' := by
  have HM := hid (made_bad (w := w) (ao := ao) (n := n) (cap := cap) h)
  have p2 := eqlR_two
  go_enter Tryz.func4, Tryz.ntmps4
  go_wp2_with fail
  refine HM.out.mono ?_
  rintro en w1 ⟨rfl, hb1⟩
  have B1 := hid hb1
  clear hb1
  go_wp2_with (go_at_call 10; refine (fawake _).mono ?_; rintro e wz ⟨rfl, hbz⟩; have BZ := hid (below_2 B1.out hbz); clear hbz)
  go_ret
  exact ⟨rfl, BZ.out⟩

set_option maxRecDepth 20000 in
set_option maxHeartbeats 4000000 in
theorem fmeets_good {w : World} {ao bo : Option Addr} {n cap n2 cap2 : Nat} {W : Int} {cs : List (Int × Raw × Value)} {hs2 : List (List UInt8)} (h : 1 ≤ W ∧ W ≤ 128) (hc : ChIn w ao cs) (hn : cs.length = n) (hnc : n ≤ cap) (hs : ∀ u ∈ cs, Small u.2.1.mat u.2.1.ports) (h63 : n ≤ maxLen)
    (ht : Txs w (.slice bo n2 cap2) hs2) (hhn : hs2.length = n2) (hhl : ∀ x ∈ hs2, x.length ≤ maxLen) (h263 : n2 ≤ maxLen) : Calls Tryz.prog 4 #[.int .i64 W, .slice ao n cap, .slice bo n2 cap2] w fun e w' => e = .returned (.bool true) ∧ Below w.heap.size w w' := by
  have HM := hid (made_good h hc hn hnc hs h63)
  have HG := hid (madeN_good h ((chs cs).take 100))
  have HT := hid ht
  have HHN := hid hhn
  have HHL := hid hhl
  have p2 := eqlR_none
  obtain ⟨L, hL⟩ : ∃ L, L = madeN W ((chs cs).take 100) := ⟨_, rfl⟩
  rw [← hL] at HM HG
  have h263I : (n2 : Int) ≤ 9223372036854775807 := by unfold maxLen at h263; omega
  clear hc hn hs ht hhn hhl hL
  go_enter Tryz.func4, Tryz.ntmps4
  go_wp2_with fail
  refine HM.out.mono ?_
  rintro en w1 ⟨tb, rb, rfl, h1⟩
  have B1 := hid h1.out
  clear h1
  go_wp2_with (first | (go_at_call 10; refine (fawake _).mono ?_; rintro e wz ⟨rfl, hbz⟩; have BZ := hid (B1.out.on hbz); clear hbz) | fail)
  clear p2 HM B1
  go_loopw [10] (fun vi wr => ∃ j : Nat, j ≤ n2 ∧ vi = .int .i64 j ∧ Hid (Both w wr tb rb W L)) (fun vi _ => n2 - (intOf vi).toNat)
  case atStart => exact ⟨0, Nat.zero_le _, rfl, BZ⟩
  case round =>
    clear BZ
    obtain ⟨j, hj, rfl, HA⟩ := hrel
    rename World => wo
    by_cases hlt : j < n2
    · have hjI : (j : Int) < (n2 : Int) := by omega
      have hj0 : (0 : Int) ≤ (j : Int) := by omega
      obtain ⟨hd, hhd⟩ : ∃ hd, hd = hs2.getD j [] := ⟨_, rfl⟩
      obtain ⟨g, o, rfl, hcell⟩ : ∃ g o, bo = some ⟨g, o, none⟩ ∧ ∀ X, Below w.heap.size w X → X.cell? ⟨g, o + j, none⟩ = some (.string (tx hd)) := by
        obtain ⟨a', c', e, q | ⟨g, o, e2, hg, hcl⟩⟩ := HT.out
        · rw [q] at HHN; have := HHN.out; simp at this; omega
        · injection e with e1 _ _
          refine ⟨g, o, by rw [e1, e2], fun X hX => ?_⟩
          rw [hX.cell (by exact hg), hcl j (by rw [HHN.out]; exact hlt), hhd]
      have HCL := hid hcell
      have HLEN := hid (show hd.length ≤ maxLen by
        rw [hhd, List.getD_eq_getElem?_getD, List.getElem?_eq_getElem (show j < hs2.length by rw [HHN.out]; exact hlt)]
        exact HHL.out _ (List.getElem_mem _))
      have HF1 := hid (meetR_few HG.out hd)
      have HF2 := hid (lookR_few HG.out hd)
      have c0 := hcell wo HA.out.low
      have HM1 := hid (Meets_any (h := hd) HA.out.fib)
      clear hcell hhd
      obtain ⟨⟨⟨pp, mm, kk, zz⟩, x, er⟩, hmr⟩ : ∃ q, q = meetR W L hd := ⟨_, rfl⟩
      obtain ⟨⟨lk, lp, le⟩, hlr⟩ : ∃ q, q = lookR W L hd := ⟨_, rfl⟩
      have HMR := hid hmr
      have HLR := hid hlr
      rw [← hmr] at HF1
      rw [← hlr] at HF2
      simp only at HF1 HF2
      clear hmr hlr
      go_wp2_with fail
      refine HM1.out.mono ?_
      rintro en w2 hp2
      have hv2 := hp2.v
      rw [← HMR.out] at hv2
      obtain ⟨a2, n2', c2, rfl, hpo2⟩ := hv2
      have B2 := hid (HA.out.on hp2.1)
      have HP2 := hid hpo2
      clear hp2 hpo2 HM1 c0
      have c0 := HCL.out w2 B2.out.low
      have HBB2 := hid (show Below w2.heap.size w2 (w2.alloc (rob pp (tx mm) kk (.slice a2 n2' c2))) from (Below.refl _ _).alloc (Nat.le_refl _) _)
      have c1 := HCL.out _ (B2.out.on HBB2.out).low
      have HM2 := hid (RMeets_any (h := hd) (B2.out.on HBB2.out).doc HG.out HLEN.out)
      go_wp2_with fail
      refine HM2.out.mono ?_
      rintro en w3 ⟨hv3, hb3⟩
      rw [← HMR.out] at hv3
      obtain ⟨a3, n3, c3, rfl, hpo3⟩ := hv3
      have B3 := hid ((B2.out.on HBB2.out).on hb3)
      have K2 := hid (below_block hb3 (new_0 w2 (rob pp (tx mm) kk (.slice a2 n2' c2))) (by simp))
      have HP2b := hid (HP2.out.on (below_2 HBB2.out hb3))
      have HP3 := hid hpo3
      clear hb3 hpo3 HM2 c0 c1 HP2 HBB2
      have HBB3 := hid (show Below w3.heap.size w3 (w3.alloc (rob pp (tx mm) kk (.slice a3 n3 c3))) from (Below.refl _ _).alloc (Nat.le_refl _) _)
      have c0 := HCL.out w3 B3.out.low
      have c1 := HCL.out _ (B3.out.on HBB3.out).low
      have HM3 := hid (Lookup_any (h := hd) (B3.out.on HBB3.out).fib)
      generalize w2.heap.size = k2 at K2 ⊢
      go_wp2_with fail
      refine HM3.out.mono ?_
      rintro en w4 hp4
      have hv4 := hp4.v
      rw [← HLR.out] at hv4
      obtain ⟨a4, n4, c4, rfl, hpo4⟩ := hv4
      have hb4 := hp4.1
      have B4 := hid ((B3.out.on HBB3.out).on hb4)
      have K3 := hid (below_block hb4 (new_0 w3 (rob pp (tx mm) kk (.slice a3 n3 c3))) (by simp))
      have K2b := hid (below_block (below_2 HBB3.out hb4) K2.out (lt_of_block K2.out))
      have HP2c := hid (HP2b.out.on (below_2 HBB3.out hb4))
      have HP3b := hid (HP3.out.on (below_2 HBB3.out hb4))
      have HP4 := hid hpo4
      clear hb4 hp4 hpo4 HM3 c0 c1 HP2b HP3 HBB3 K2
      generalize w3.heap.size = k3 at K3 ⊢
      have HBB4 := hid (show Below w4.heap.size w4 (w4.alloc (aob lk (.slice a4 n4 c4))) from (Below.refl _ _).alloc (Nat.le_refl _) _)
      have c0 := HCL.out w4 B4.out.low
      have c1 := HCL.out _ (B4.out.on HBB4.out).low
      have HM4 := hid (RLookup_any (h := hd) (B4.out.on HBB4.out).doc HG.out HLEN.out)
      go_wp2_with fail
      refine HM4.out.mono ?_
      rintro en w5 ⟨hv5, hb5⟩
      rw [← HLR.out] at hv5
      obtain ⟨a5, n5, c5, rfl, hpo5⟩ := hv5
      have B5 := hid ((B4.out.on HBB4.out).on hb5)
      have K4 := hid (below_block hb5 (new_0 w4 (aob lk (.slice a4 n4 c4))) (by simp))
      have K3b := hid (below_block (below_2 HBB4.out hb5) K3.out (lt_of_block K3.out))
      have K2c := hid (below_block (below_2 HBB4.out hb5) K2b.out (lt_of_block K2b.out))
      have HP2d := hid (HP2c.out.on (below_2 HBB4.out hb5))
      have HP3c := hid (HP3b.out.on (below_2 HBB4.out hb5))
      have HP4b := hid (HP4.out.on (below_2 HBB4.out hb5))
      have HP5 := hid hpo5
      clear hb5 hpo5 HM4 c0 c1 HP2c HP3b HP4 HBB4 K3 K2b
      generalize w4.heap.size = k4 at K4 ⊢
      have HBB5 := hid (show Below w5.heap.size w5 (w5.alloc (aob lk (.slice a5 n5 c5))) from (Below.refl _ _).alloc (Nat.le_refl _) _)
      obtain ⟨X, hX⟩ : ∃ X, X = w5.alloc (aob lk (.slice a5 n5 c5)) := ⟨_, rfl⟩
      obtain ⟨k5, hk5⟩ : ∃ k5, k5 = w5.heap.size := ⟨_, rfl⟩
      have BX := hid (show Both w X tb rb W L by rw [hX]; exact B5.out.on HBB5.out)
      have HFS := hid (show ∀ Y, Below X.heap.size X Y → (Y.heap[k2]? = some (rob pp (tx mm) kk (.slice a2 n2' c2)) ∧ Y.heap[k3]? = some (rob pp (tx mm) kk (.slice a3 n3 c3)) ∧ Y.heap[k4]? = some (aob lk (.slice a4 n4 c4)) ∧ Y.heap[k5]? = some (aob lk (.slice a5 n5 c5))) ∧ Txs Y (.slice a2 n2' c2) zz ∧ Txs Y (.slice a3 n3 c3) zz ∧ Txs Y (.slice a4 n4 c4) lp ∧ Txs Y (.slice a5 n5 c5) lp from fun Y hY => by
        have hwY : Below w5.heap.size w5 Y := below_2 HBB5.out (by rw [← hX]; exact hY)
        refine ⟨⟨below_block hwY K2c.out (lt_of_block K2c.out), below_block hwY K3b.out (lt_of_block K3b.out), below_block hwY K4.out (lt_of_block K4.out), ?_⟩, (HP2d.out.on hwY).txs, (HP3c.out.on hwY).txs, (HP4b.out.on hwY).txs, (HP5.out.on hwY).txs⟩
        rw [hX] at hY
        rw [hk5]
        exact below_block hY (new_0 w5 _) (by simp))
      have HCS := hid (show ∀ Y, Below X.heap.size X Y → Y.cell? ⟨k2, 0, none⟩ = some (.int .i64 pp) ∧ Y.cell? ⟨k2, 1, none⟩ = some (.string (tx mm)) ∧ Y.cell? ⟨k2, 2, none⟩ = some (.int .i64 kk) ∧ Y.cell? ⟨k2, 3, none⟩ = some (.slice a2 n2' c2) ∧ Y.cell? ⟨k3, 0, none⟩ = some (.int .i64 pp) ∧ Y.cell? ⟨k3, 1, none⟩ = some (.string (tx mm)) ∧ Y.cell? ⟨k3, 2, none⟩ = some (.int .i64 kk) ∧ Y.cell? ⟨k3, 3, none⟩ = some (.slice a3 n3 c3) ∧ Y.cell? ⟨k4, 0, none⟩ = some (.int .i64 lk) ∧ Y.cell? ⟨k4, 1, none⟩ = some (.slice a4 n4 c4) ∧ Y.cell? ⟨k5, 0, none⟩ = some (.int .i64 lk) ∧ Y.cell? ⟨k5, 1, none⟩ = some (.slice a5 n5 c5) from fun Y hY => by
        obtain ⟨⟨b2, b3, b4, b5⟩, _⟩ := HFS.out Y hY
        refine ⟨?_, ?_, ?_, ?_, ?_, ?_, ?_, ?_, ?_, ?_, ?_, ?_⟩
        · rw [cell_at b2]; rfl
        · rw [cell_at b2]; rfl
        · rw [cell_at b2]; rfl
        · rw [cell_at b2]; rfl
        · rw [cell_at b3]; rfl
        · rw [cell_at b3]; rfl
        · rw [cell_at b3]; rfl
        · rw [cell_at b3]; rfl
        · rw [cell_at b4]; rfl
        · rw [cell_at b4]; rfl
        · rw [cell_at b5]; rfl
        · rw [cell_at b5]; rfl)
      have HSR := hid (fun (Y : World) (hY : Below X.heap.size X Y) => SameRule_eq (p := pp) (m := mm) (k := kk) (HFS.out Y hY).2.1 (HFS.out Y hY).2.2.1 (show zz.length ≤ maxLen by have := HF1.out; unfold maxLen; omega))
      have HSA := hid (fun (Y : World) (hY : Below X.heap.size X Y) => Same_actsI (k := lk) (HFS.out Y hY).2.2.2.1 (HFS.out Y hY).2.2.2.2 (show lp.length ≤ maxLen by have := HF2.out; unfold maxLen; omega))
      have exx : (x != x) = false := by simp
      have eer : (er != er) = false := by simp
      have ele : (le != le) = false := by simp
      have hS0 := HCS.out X (Below.refl _ _)
      have HX := hid hX
      have HK5 := hid hk5
      clear hX hk5
      rw [HX.out, HK5.out] at hS0
      obtain ⟨d0, d1, d2, d3, d4, d5, d6, d7, d8, d9, d10, d11⟩ := hS0
      clear HBB5 K2c K3b K4 HP2d HP3c HP4b HP5 B5 HFS HLEN HF1 HF2 HMR HLR HCL HT HHN HHL B2 B3 B4 HA
      go_wp2_with fail
      rw [← HX.out]
      refine (HSR.out _ (Below.refl _ _)).mono ?_
      rintro en w6 ⟨rfl, hb6⟩
      have HB6 := hid hb6
      clear hb6 d0 d1 d2 d3 d4 d5 d6 d7 d8 d9 d10 d11
      have hS6 := HCS.out w6 HB6.out
      rw [HK5.out] at hS6
      obtain ⟨d0, d1, d2, d3, d4, d5, d6, d7, d8, d9, d10, d11⟩ := hS6
      go_wp2_with fail
      refine (HSA.out _ HB6.out).mono ?_
      rintro en w7 ⟨rfl, hb7⟩
      have HB7 := hid (below_2 HB6.out hb7)
      clear hb7 d0 d1 d2 d3 d4 d5 d6 d7 d8 d9 d10 d11
      have HEND := hid (BX.out.on HB7.out)
      clear HSR HSA HCS
      go_wp2
      go_roundw
      case rel => exact ⟨j + 1, by omega, by go_num, HEND⟩
      case measure => simp [intOf]; omega
    · have hjI : ¬ ((j : Int) < (n2 : Int)) := by omega
      go_wp2
      go_ret
      exact ⟨rfl, HA.out.low⟩
theorem fmeets_any {w : World} {ao bo : Option Addr} {n cap n2 cap2 : Nat} {W : Int} {cs : List (Int × Raw × Value)} {hs2 : List (List UInt8)} (hc : ChIn w ao cs) (hn : cs.length = n) (hnc : n ≤ cap) (hs : ∀ u ∈ cs, Small u.2.1.mat u.2.1.ports) (h64 : n * 64 ≤ 140737488355328)
    (ht : Txs w (.slice bo n2 cap2) hs2) (hhn : hs2.length = n2) (hhl : ∀ x ∈ hs2, x.length ≤ maxLen) (h263 : n2 * 16 ≤ 140737488355328) : Calls Tryz.prog 4 #[.int .i64 W, .slice ao n cap, .slice bo n2 cap2] w fun e w' => e = .returned (.bool true) ∧ Below w.heap.size w w' := by
  by_cases h : 1 ≤ W ∧ W ≤ 128
  · exact fmeets_good h hc hn hnc hs (by unfold maxLen; omega) ht hhn hhl (by unfold maxLen; omega)
  · exact fmeets_bad h
end Go.Proofs.YtipmlcdnfaobiaaGreat
namespace Go.Proofs.YtipmlcdnfaobiaaGreat
open Go.RowKit

set_option maxRecDepth 20000 in
set_option maxHeartbeats 4000000 in
theorem SameChanges_eq {w : World} {a1 a2 : Option Addr} {n c1 c2 : Nat} {cs ds : List (Int × Raw × Value)} (h1 : ChIn w a1 cs) (h2 : ChIn w a2 ds) (l1 : cs.length = n) (l2 : ds.length = n) (he : chs cs = chs ds) (hz : ∀ u ∈ cs, u.2.1.ports.length ≤ maxLen) (hn : n ≤ maxLen) :
    Calls Tryz.prog 27 #[.slice a1 n c1, .slice a2 n c2] w fun e w' => e = .returned (.bool true) ∧ Below w.heap.size w w' := by
  have H1 := hid h1
  have H2 := hid h2
  have HL1 := hid l1
  have HL2 := hid l2
  have HE := hid he
  have HZ := hid hz
  have hnI : (n : Int) ≤ 9223372036854775807 := by unfold maxLen at hn; omega
  clear h1 h2 l1 l2 he hz
  go_enter Tryz.func27, Tryz.ntmps27
  go_wp2_with fail
  go_loopw [5] (fun vi wr => ∃ j : Nat, j ≤ n ∧ vi = .int .i64 j ∧ Hid (Below w.heap.size w wr)) (fun vi _ => n - (intOf vi).toNat)
  case atStart => exact ⟨0, Nat.zero_le _, rfl, Below.refl _ _⟩
  case round =>
    obtain ⟨j, hj, rfl, HB⟩ := hrel
    rename World => wo
    by_cases hlt : j < n
    · have hjI : (j : Int) < (n : Int) := by omega
      have hj0 : (0 : Int) ≤ (j : Int) := by omega
      obtain ⟨u, hu⟩ : ∃ u, cs[j]? = some u := ⟨cs[j]'(by rw [HL1.out]; exact hlt), List.getElem?_eq_getElem _⟩
      obtain ⟨v, hv⟩ : ∃ v, ds[j]? = some v := ⟨ds[j]'(by rw [HL2.out]; exact hlt), List.getElem?_eq_getElem _⟩
      have huv : (u.1, u.2.1) = (v.1, v.2.1) := by
        have := congrArg (fun l => l[j]?) HE.out
        simp only [List.getElem?_map, hu, hv, Option.map_some, Option.some.injEq] at this
        exact this
      obtain ⟨g, o, rfl⟩ : ∃ g o, a1 = some ⟨g, o, none⟩ := by
        rcases H1.out with q | ⟨g, o, e, _⟩
        · rw [q] at hu; simp at hu
        · exact ⟨g, o, e⟩
      obtain ⟨g2, o2, rfl⟩ : ∃ g o, a2 = some ⟨g, o, none⟩ := by
        rcases H2.out with q | ⟨g, o, e, _⟩
        · rw [q] at hv; simp at hv
        · exact ⟨g, o, e⟩
      have HV1 := hid (show ∀ X, Below w.heap.size w X → ChView X g o cs from fun X hX => by
        rcases H1.out.on hX with q | ⟨g', o', e, hv⟩
        · rw [q] at hu; simp at hu
        · cases e; exact hv)
      have HV2 := hid (show ∀ X, Below w.heap.size w X → ChView X g2 o2 ds from fun X hX => by
        rcases H2.out.on hX with q | ⟨g', o', e, hv'⟩
        · rw [q] at hv; simp at hv
        · cases e; exact hv')
      have HTX := hid (show ∀ X, Below w.heap.size w X → Txs X u.2.2 u.2.1.ports ∧ Txs X v.2.2 v.2.1.ports from fun X hX => ⟨((HV1.out X hX).ports u (List.mem_of_getElem? hu)).1, ((HV2.out X hX).ports v (List.mem_of_getElem? hv)).1⟩)
      have HCL := hid (show ∀ X, Below w.heap.size w X → _ from fun X hX => And.intro ((HV1.out X hX).cell j u hu) ((HV2.out X hX).cell j v hv))
      have HLZ := hid (HZ.out u (List.mem_of_getElem? hu))
      obtain ⟨kd, ⟨p, m, k, zs⟩, uv⟩ := u
      obtain ⟨kd2, r2, vv⟩ := v
      simp only [Prod.mk.injEq] at huv
      obtain ⟨rfl, rfl⟩ := huv
      simp only at HTX HCL HLZ
      obtain ⟨uo, uc, huv1, _⟩ := (HTX.out wo HB.out).1
      obtain ⟨vo, vc, huv2, _⟩ := (HTX.out wo HB.out).2
      obtain ⟨un, hun⟩ : ∃ un, un = zs.length := ⟨_, rfl⟩
      rw [← hun] at huv1 huv2
      subst huv1 huv2
      clear hu hv hun
      have HCS := hid (show ∀ X, Below w.heap.size w X → X.cell? ⟨g, o + j * 5, none⟩ = some (.int .i64 kd) ∧ X.cell? ⟨g, o + j * 5 + 1, none⟩ = some (.int .i64 p) ∧ X.cell? ⟨g, o + j * 5 + 2, none⟩ = some (.string (tx m)) ∧ X.cell? ⟨g, o + j * 5 + 3, none⟩ = some (.int .i64 k) ∧ X.cell? ⟨g, o + j * 5 + 4, none⟩ = some (.slice uo un uc) ∧ X.cell? ⟨g2, o2 + j * 5, none⟩ = some (.int .i64 kd) ∧ X.cell? ⟨g2, o2 + j * 5 + 1, none⟩ = some (.int .i64 p) ∧ X.cell? ⟨g2, o2 + j * 5 + 2, none⟩ = some (.string (tx m)) ∧ X.cell? ⟨g2, o2 + j * 5 + 3, none⟩ = some (.int .i64 k) ∧ X.cell? ⟨g2, o2 + j * 5 + 4, none⟩ = some (.slice vo un vc) from fun X hX => by
        obtain ⟨⟨x0, x1, x2, x3, x4⟩, y0, y1, y2, y3, y4⟩ := HCL.out X hX
        exact ⟨x0, x1, x2, x3, x4, y0, y1, y2, y3, y4⟩)
      have HSR := hid (fun (X : World) (hX : Below w.heap.size w X) => SameRule_eq (p := p) (m := m) (k := k) (HTX.out X hX).1 (HTX.out X hX).2 HLZ.out)
      have hS0 := HCS.out wo HB.out
      have ekk : (kd != kd) = false := by simp
      go_wp2_with fail
      go_region_held2 (fun X => X.cell? ⟨g, o + j * 5, none⟩ = some (.int .i64 kd) ∧ X.cell? ⟨g, o + j * 5 + 1, none⟩ = some (.int .i64 p) ∧ X.cell? ⟨g, o + j * 5 + 2, none⟩ = some (.string (tx m)) ∧ X.cell? ⟨g, o + j * 5 + 3, none⟩ = some (.int .i64 k) ∧ X.cell? ⟨g, o + j * 5 + 4, none⟩ = some (.slice uo un uc) ∧ X.cell? ⟨g2, o2 + j * 5, none⟩ = some (.int .i64 kd) ∧ X.cell? ⟨g2, o2 + j * 5 + 1, none⟩ = some (.int .i64 p) ∧ X.cell? ⟨g2, o2 + j * 5 + 2, none⟩ = some (.string (tx m)) ∧ X.cell? ⟨g2, o2 + j * 5 + 3, none⟩ = some (.int .i64 k) ∧ X.cell? ⟨g2, o2 + j * 5 + 4, none⟩ = some (.slice vo un vc)) (first | exact hS0 | exact hS2) (first | (go_at_call 21; refine (HSR.out _ HB.out.drew).mono ?_; rintro en w2 ⟨rfl, hb2⟩; have B2 := hid (below_2 HB.out.drew hb2); have hS2 := HCS.out w2 B2.out; clear hb2))
      clear hS0 hS2
      go_wp2
      go_roundw
      case rel => exact ⟨j + 1, by omega, by go_num, B2⟩
      case measure => simp [intOf]; omega
    · have hjI : ¬ ((j : Int) < (n : Int)) := by omega
      go_wp2
      go_ret
      exact ⟨rfl, HB.out⟩
end Go.Proofs.YtipmlcdnfaobiaaGreat
namespace Go.Proofs.YtipmlcdnfaobiaaGreat
open Go.RowKit

/-- May a change be, but for the room? -/
def okC (W : Int) (L : List Raw) (c : Int × Raw) : Prop :=
  (c.1 = 1 ∧ errR W c.2 = 0 ∧ (L.any fun a => keyB a c.2) = false) ∨ (c.1 = 2 ∧ errR W { c.2 with kind := 1, ports := [] } = 0 ∧ (L.any fun a => keyB a c.2) = true) ∨ (c.1 = 3 ∧ errR W c.2 = 0 ∧ (L.any fun a => keyB a c.2) = true)
/-- What a change leaves and puts. -/
def AftC (L L' : List Raw) (c : Int × Raw) : Prop := ∀ x, x ∈ L' ↔ (x ∈ L ∧ keyB x c.2 = false) ∨ (c.1 ≠ 2 ∧ x = c.2)
theorem keyB_self (r : Raw) : keyB r r = true := keyB_iff.2 ⟨rfl, rfl⟩
theorem any_no {L : List Raw} {r : Raw} (h : (L.any fun a => keyB a r) = false) {x : Raw} (hx : x ∈ L) : keyB x r = false := by
  cases q : keyB x r with
  | false => rfl
  | true =>
    have := (List.any_eq_true (l := L) (p := fun a => keyB a r)).2 ⟨x, hx, q⟩
    rw [h] at this
    cases this
theorem step_okC {W : Int} {L L' : List Raw} {c : Int × Raw} (h : stepN W L c.1 c.2 = .ok L') : okC W L c ∧ AftC L L' c ∧ L'.length ≤ L.length + 1 := by
  unfold stepN at h
  split at h
  · rename_i h1
    split at h
    · rename_i he
      split at h
      · cases h
      · rename_i hn
        have hn : (L.any fun a => keyB a c.2) = false := by simpa using hn
        split at h
        · cases h
        · injection h with h
          subst h
          refine ⟨Or.inl ⟨h1, he, hn⟩, fun x => ?_, by rw [putR_len]; exact Nat.le_refl _⟩
          rw [(putR_perm L c.2).mem_iff, List.mem_append, List.mem_singleton]
          constructor
          · rintro (q | q)
            · exact Or.inl ⟨q, any_no hn q⟩
            · exact Or.inr ⟨by omega, q⟩
          · rintro (⟨q, _⟩ | ⟨_, q⟩)
            · exact Or.inl q
            · exact Or.inr q
    · cases h
  · split at h
    · rename_i h2
      split at h
      · rename_i he
        split at h
        · rename_i hn
          injection h with h
          subst h
          refine ⟨Or.inr (Or.inl ⟨h2, he, hn⟩), fun x => ?_, Nat.le_succ_of_le (List.length_filter_le _ _)⟩
          unfold rmR
          rw [List.mem_filter]
          constructor
          · rintro ⟨q1, q2⟩
            exact Or.inl ⟨q1, by simpa using q2⟩
          · rintro (⟨q1, q2⟩ | ⟨q, _⟩)
            · exact ⟨q1, by simp [q2]⟩
            · exact absurd h2 q
        · cases h
      · cases h
    · split at h
      · rename_i h3
        split at h
        · rename_i he
          split at h
          · rename_i hn
            injection h with h
            subst h
            refine ⟨Or.inr (Or.inr ⟨h3, he, hn⟩), fun x => ?_, by unfold mdR; rw [List.length_map]; omega⟩
            unfold mdR
            rw [List.mem_map]
            constructor
            · rintro ⟨a, ha, rfl⟩
              cases q : keyB a c.2 with
              | true => rw [if_pos rfl]; exact Or.inr ⟨by omega, rfl⟩
              | false => rw [if_neg (by decide)]; exact Or.inl ⟨ha, q⟩
            · rintro (⟨q1, q2⟩ | ⟨_, q⟩)
              · exact ⟨x, q1, by rw [q2, if_neg (by decide)]⟩
              · obtain ⟨a, ha, hk⟩ := List.any_eq_true.1 hn
                exact ⟨a, ha, by rw [if_pos hk, q]⟩
          · cases h
        · cases h
      · cases h
theorem okC_step {W : Int} {L : List Raw} {c : Int × Raw} (h : okC W L c) (hl : L.length < 4096) : ∃ L', stepN W L c.1 c.2 = .ok L' := by
  rcases h with ⟨h1, h2, h3⟩ | ⟨h1, h2, h3⟩ | ⟨h1, h2, h3⟩
  · exact ⟨putR L c.2, by unfold stepN; rw [if_pos h1, if_pos h2, h3, if_neg (by decide), if_neg (by omega)]⟩
  · exact ⟨rmR L c.2, by unfold stepN; rw [if_neg (by omega), if_pos h1, if_pos h2, h3, if_pos rfl]⟩
  · exact ⟨mdR L c.2, by unfold stepN; rw [if_neg (by omega), if_neg (by omega), if_pos h1, if_pos h2, h3, if_pos rfl]⟩
theorem keyB_trans_no {x a b : Raw} (h : keyB a b = false) (hx : keyB x a = true) : keyB x b = false := by
  cases q : keyB x b with
  | false => rfl
  | true =>
    have h1 := keyB_iff.1 hx
    have h2 := keyB_iff.1 q
    have : keyB a b = true := keyB_iff.2 ⟨h1.1.symm.trans h2.1, h1.2.symm.trans h2.2⟩
    rw [h] at this
    cases this
theorem any_aft {L L' : List Raw} {c : Int × Raw} (h : AftC L L' c) {r : Raw} (hr : keyB c.2 r = false) : (L'.any fun a => keyB a r) = L.any fun a => keyB a r := by
  rw [Bool.eq_iff_iff, List.any_eq_true, List.any_eq_true]
  constructor
  · rintro ⟨x, hx, hk⟩
    rcases (h x).1 hx with ⟨q, _⟩ | ⟨_, q⟩
    · exact ⟨x, q, hk⟩
    · rw [q, hr] at hk; cases hk
  · rintro ⟨x, hx, hk⟩
    refine ⟨x, (h x).2 (Or.inl ⟨hx, ?_⟩), hk⟩
    cases q : keyB x c.2 with
    | false => rfl
    | true => rw [keyB_trans_no hr q] at hk; cases hk
theorem okC_aft {W : Int} {L L' : List Raw} {c d : Int × Raw} (h : AftC L L' c) (hr : keyB c.2 d.2 = false) : okC W L' d ↔ okC W L d := by
  unfold okC
  rw [any_aft h hr]
/-- No two changes have one key. -/
def Unl (cs : List (Int × Raw)) : Prop := cs.Pairwise fun c d => keyB c.2 d.2 = false
theorem keyB_comm (a b : Raw) : keyB a b = keyB b a := by
  rw [Bool.eq_iff_iff, keyB_iff, keyB_iff]
  exact ⟨fun h => ⟨h.1.symm, h.2.symm⟩, fun h => ⟨h.1.symm, h.2.symm⟩⟩
theorem Unl.rev {cs : List (Int × Raw)} (h : Unl cs) : Unl cs.reverse := by
  unfold Unl at *
  rw [List.pairwise_reverse]
  exact h.imp fun {a b} q => by rw [keyB_comm]; exact q
/-- What changes of unlike keys leave and put. -/
def AftA (L L' : List Raw) (cs : List (Int × Raw)) : Prop := ∀ x, x ∈ L' ↔ (x ∈ L ∧ ∀ c ∈ cs, keyB x c.2 = false) ∨ ∃ c ∈ cs, c.1 ≠ 2 ∧ x = c.2
theorem aft_cons {L L1 L' : List Raw} {c : Int × Raw} {cs : List (Int × Raw)} (hu : Unl (c :: cs)) (h1 : AftC L L1 c) (h2 : AftA L1 L' cs) : AftA L L' (c :: cs) := by
  have hu := (List.pairwise_cons.1 hu).1
  intro x
  rw [h2 x, h1 x]
  constructor
  · rintro (⟨(⟨q1, q2⟩ | ⟨q1, q2⟩), q3⟩ | ⟨d, hd, q⟩)
    · refine Or.inl ⟨q1, fun d hd => ?_⟩
      rcases List.mem_cons.1 hd with e | hd
      · rw [e]; exact q2
      · exact q3 d hd
    · exact Or.inr ⟨c, List.mem_cons_self, q1, q2⟩
    · exact Or.inr ⟨d, List.mem_cons_of_mem _ hd, q⟩
  · rintro (⟨q1, q2⟩ | ⟨d, hd, q1, q2⟩)
    · exact Or.inl ⟨Or.inl ⟨q1, q2 c List.mem_cons_self⟩, fun d hd => q2 d (List.mem_cons_of_mem _ hd)⟩
    · rcases List.mem_cons.1 hd with e | hd
      · subst e
        exact Or.inl ⟨Or.inr ⟨q1, q2⟩, fun d' hd' => by rw [q2]; exact hu d' hd'⟩
      · exact Or.inr ⟨d, hd, q1, q2⟩
theorem run_okA {W : Int} {cs : List (Int × Raw)} : ∀ {L L' : List Raw} {i : Nat}, Unl cs → runN W L cs i = .ok L' → (∀ c ∈ cs, okC W L c) ∧ AftA L L' cs := by
  induction cs with
  | nil => intro L L' i _ h; cases h; exact ⟨(fun c hc => by cases hc), fun x => by simp⟩
  | cons c cs ih =>
    intro L L' i hu h
    cases hs : stepN W L c.1 c.2 with
    | error e => rw [runN_no hs] at h; cases h
    | ok L1 =>
      rw [runN_ok hs] at h
      obtain ⟨o1, a1, _⟩ := step_okC hs
      obtain ⟨o2, a2⟩ := ih (List.pairwise_cons.1 hu).2 h
      refine ⟨fun d hd => ?_, aft_cons hu a1 a2⟩
      rcases List.mem_cons.1 hd with e | hd
      · rw [e]; exact o1
      · exact (okC_aft a1 ((List.pairwise_cons.1 hu).1 d hd)).1 (o2 d hd)
theorem okA_run {W : Int} {cs : List (Int × Raw)} : ∀ {L : List Raw} {i : Nat}, Unl cs → (∀ c ∈ cs, okC W L c) → L.length + cs.length ≤ 4096 → ∃ L', runN W L cs i = .ok L' := by
  induction cs with
  | nil => intro L i _ _ _; exact ⟨L, rfl⟩
  | cons c cs ih =>
    intro L i hu ho hl
    rw [List.length_cons] at hl
    obtain ⟨L1, h1⟩ := okC_step (ho c List.mem_cons_self) (by omega)
    obtain ⟨_, a1, l1⟩ := step_okC h1
    obtain ⟨L', h'⟩ := ih (i := i + 1) (List.pairwise_cons.1 hu).2 (fun d hd => (okC_aft a1 ((List.pairwise_cons.1 hu).1 d hd)).2 (ho d (List.mem_cons_of_mem _ hd))) (by omega)
    exact ⟨L', by rw [runN_ok h1]; exact h'⟩
theorem srt_nodup {L : List Raw} (h : Srt L) : L.Nodup := h.imp fun {a b} q e => by rw [e] at q; exact cmpR_irr q
theorem srt_same {L M : List Raw} (hL : Srt L) (hM : Srt M) (h : ∀ x, x ∈ L ↔ x ∈ M) : L = M :=
  one_way (R := fun a b => cmpR a b < 0) (fun _ _ p q => cmpR_asy p q) hL hM ((List.perm_ext_iff_of_nodup (srt_nodup hL) (srt_nodup hM)).2 h)
/-- Changes of unlike keys, the last first. -/
theorem run_rev {W : Int} {L L' : List Raw} {cs : List (Int × Raw)} (hg : GoodT W L) (hu : Unl cs) (h : runN W L cs 0 = .ok L') (hl : L.length + cs.length ≤ 4096) : runN W L cs.reverse 0 = .ok L' := by
  obtain ⟨o, a⟩ := run_okA hu h
  obtain ⟨M, hM⟩ := okA_run (i := 0) hu.rev (fun c hc => o c (List.mem_reverse.1 hc)) (by rw [List.length_reverse]; exact hl)
  obtain ⟨_, b⟩ := run_okA hu.rev hM
  rw [hM, srt_same (hg.run hM).srt (hg.run h).srt fun x => by rw [a x, b x]; simp]
/-- Of changes that may be, each that is done one by one may be. -/
theorem run_take {W : Int} {L L' : List Raw} {cs : List (Int × Raw)} (h : runN W L cs 0 = .ok L') : ∀ j, ∃ Lj, runN W L (cs.take j) 0 = .ok Lj := by
  intro j
  cases q : runN W L (cs.take j) 0 with
  | ok Lj => exact ⟨Lj, rfl⟩
  | error e =>
    exfalso
    have : ∀ (A B : List (Int × Raw)) (L : List Raw) (i : Nat) (e : Nat × Int), runN W L A i = .error e → runN W L (A ++ B) i = .error e := by
      intro A B
      induction A with
      | nil => intro L i e h; cases h
      | cons c A ih =>
        intro L i e h
        cases hs : stepN W L c.1 c.2 with
        | error e' => rw [runN_no hs] at h; rw [List.cons_append, runN_no hs]; exact h
        | ok L1 => rw [runN_ok hs] at h; rw [List.cons_append, runN_ok hs]; exact ih _ _ _ h
    have := this (cs.take j) (cs.drop j) L 0 e q
    rw [List.take_append_drop, h] at this
    cases this
theorem run_next {W : Int} {L L' Lj : List Raw} {cs : List (Int × Raw)} {j : Nat} {c : Int × Raw} (h : runN W L cs 0 = .ok L') (hj : runN W L (cs.take j) 0 = .ok Lj) (hc : cs[j]? = some c) : ∃ L2, stepN W Lj c.1 c.2 = .ok L2 ∧ runN W L (cs.take (j + 1)) 0 = .ok L2 := by
  obtain ⟨h1, h2⟩ := run_snoc hj hc
  cases hs : stepN W Lj c.1 c.2 with
  | ok L2 => exact ⟨L2, rfl, (h1 L2 hs).1⟩
  | error e => have := h2 e hs; rw [h] at this; cases this
end Go.Proofs.YtipmlcdnfaobiaaGreat
namespace Go.Proofs.YtipmlcdnfaobiaaGreat
open Go.RowKit

theorem FTab.grewF {w w' : World} {Bp tb b : Nat} {W : Int} {L : List Raw} {cs : Array Value} {r : Nat × Nat} (h : FTab w Bp tb W L) (hg : w.grownBy w' (some b)) (hb : w.heap[b]? = some (.cells cs 72 r)) (hne : tb ≠ b) : FTab w' Bp tb W L := by
  obtain ⟨v, ps, ht, e⟩ := h.ex
  refine ⟨h.base, v, ps, ⟨?_, ht.list.grew hg hb (by decide), fun q hq => (ht.ports q hq).grewB hg hb (by decide), ht.good⟩, e⟩
  rw [hg.block tb (lt_of_block ht.blk) (fun e => by injection e with e; exact hne e)]
  exact ht.blk
theorem FTab.low {w : World} {Bp tb : Nat} {W : Int} {L : List Raw} (h : FTab w Bp tb W L) : FTab w 0 tb W L := by
  obtain ⟨v, ps, ht, e⟩ := h.ex
  exact ⟨Nat.zero_le _, v, ps, ⟨ht.blk, ⟨own_mono ht.list.own (Nat.zero_le _), ht.list.vals⟩, fun q hq => (ht.ports q hq).mono (Nat.zero_le _), ht.good⟩, e⟩
/-- Three tables and a document's. -/
structure Tri (w0 w : World) (tb ub vb rb : Nat) (W : Int) (A B C L : List Raw) : Prop where
  low : Below w0.heap.size w0 w
  ot : w0.heap.size ≤ tb
  ou : w0.heap.size ≤ ub
  ov : w0.heap.size ≤ vb
  t : FTab w 0 tb W A
  u : FTab w 0 ub W B
  v : FTab w 0 vb W C
  doc : DTab w 0 rb W L
  tu : tb ≠ ub
  tv : tb ≠ vb
  uv : ub ≠ vb
theorem Tri.on {w0 w w' : World} {tb ub vb rb : Nat} {W : Int} {A B C L : List Raw} (h : Tri w0 w tb ub vb rb W A B C L) (hb : Below w.heap.size w w') : Tri w0 w' tb ub vb rb W A B C L :=
  ⟨below_2 h.low hb, h.ot, h.ou, h.ov, h.t.on hb, h.u.on hb, h.v.on hb, h.doc.on hb, h.tu, h.tv, h.uv⟩
theorem Tri.doT {w0 w w' : World} {tb ub vb rb : Nat} {W : Int} {A A' B C L : List Raw} (h : Tri w0 w tb ub vb rb W A B C L) (hg : w.grownBy w' (some tb)) (hA : FTab w' 0 tb W A') : Tri w0 w' tb ub vb rb W A' B C L := by
  obtain ⟨cs, hb⟩ := h.t.blk
  exact ⟨grown_low h.low hg h.ot, h.ot, h.ou, h.ov, hA, h.u.grewF hg hb h.tu.symm, h.v.grewF hg hb h.tv.symm, h.doc.grew hg hb, h.tu, h.tv, h.uv⟩
theorem Tri.doU {w0 w w' : World} {tb ub vb rb : Nat} {W : Int} {A B B' C L : List Raw} (h : Tri w0 w tb ub vb rb W A B C L) (hg : w.grownBy w' (some ub)) (hB : FTab w' 0 ub W B') : Tri w0 w' tb ub vb rb W A B' C L := by
  obtain ⟨cs, hb⟩ := h.u.blk
  exact ⟨grown_low h.low hg h.ou, h.ot, h.ou, h.ov, h.t.grewF hg hb h.tu, hB, h.v.grewF hg hb h.uv.symm, h.doc.grew hg hb, h.tu, h.tv, h.uv⟩
theorem Tri.doV {w0 w w' : World} {tb ub vb rb : Nat} {W : Int} {A B C C' L : List Raw} (h : Tri w0 w tb ub vb rb W A B C L) (hg : w.grownBy w' (some vb)) (hC : FTab w' 0 vb W C') : Tri w0 w' tb ub vb rb W A B C' L := by
  obtain ⟨cs, hb⟩ := h.v.blk
  exact ⟨grown_low h.low hg h.ov, h.ot, h.ou, h.ov, h.t.grewF hg hb h.tv, h.u.grewF hg hb h.uv, hC, h.doc.grew hg hb, h.tu, h.tv, h.uv⟩
/-- Rules of a table, and then the rules held against the document's. -/
theorem two_rows {w : World} {Bp Q tb rb : Nat} {W : Int} {L : List Raw} (hF : FTab w Bp tb W L) (hD : DTab w Q rb W L) : ∃ lo nl lc, nl = L.length ∧ w.cell? ⟨rb, 1, none⟩ = some (.slice lo nl lc) ∧ ∀ X, Below w.heap.size w X → Calls Tryz.prog 12 #[.pointer (some ⟨tb, 0, none⟩)] X fun e w' => ∃ a n c, e = .returned (.slice a n c) ∧ Below X.heap.size X w' ∧ w'.cell? ⟨rb, 1, none⟩ = some (.slice lo nl lc) ∧ Calls Tryz.prog 11 #[.slice a n c, .slice lo nl lc] w' fun e w'' => e = .returned (.bool true) ∧ Below w'.heap.size w' w'' := by
  obtain ⟨lo, lc, hc, qs, e, hr, _⟩ := hD.row
  refine ⟨lo, L.length, lc, rfl, hc, fun X hX => (Rules_any (hF.on hX)).mono ?_⟩
  rintro en w' ⟨v, qs2, rfl, ⟨a, n, c, rfl⟩, h2, e2, _, hb⟩
  have hb2 := below_2 hX hb
  exact ⟨a, n, c, rfl, hb, (hb2.cell (block_old hc)).trans hc, same_rows h2 (hr.on hb2) hF.good e2 e⟩
/-- Rules of two tables, held against each other. -/
theorem two_tabs {w : World} {Bp Bq tb ub : Nat} {W : Int} {L : List Raw} (hF : FTab w Bp tb W L) (hG : FTab w Bq ub W L) : Calls Tryz.prog 12 #[.pointer (some ⟨tb, 0, none⟩)] w fun e w' => ∃ a n c, e = .returned (.slice a n c) ∧ Below w.heap.size w w' ∧ Hid (Calls Tryz.prog 12 #[.pointer (some ⟨ub, 0, none⟩)] w' fun e w'' => ∃ a2 n2 c2, e = .returned (.slice a2 n2 c2) ∧ Below w'.heap.size w' w'' ∧ Hid (Calls Tryz.prog 11 #[.slice a n c, .slice a2 n2 c2] w'' fun e w3 => e = .returned (.bool true) ∧ Below w''.heap.size w'' w3)) := by
  refine (Rules_any hF).mono ?_
  rintro en w' ⟨v, qs, rfl, ⟨a, n, c, rfl⟩, h2, e2, _, hb⟩
  refine ⟨a, n, c, rfl, hb, (Rules_any (hG.on hb)).mono ?_⟩
  rintro en w'' ⟨v2, qs2, rfl, ⟨a2, n2, c2, rfl⟩, h3, e3, _, hb3⟩
  exact ⟨a2, n2, c2, rfl, hb3, same_rows (h2.on hb3) h3 hF.good e2 e3⟩

set_option maxRecDepth 20000 in
set_option maxHeartbeats 4000000 in
theorem fsteps_bad {w : World} {ao bo : Option Addr} {n cap n2 cap2 : Nat} {W : Int} (h : ¬ (1 ≤ W ∧ W ≤ 128)) : Calls Tryz.prog 7 #[.int .i64 W, .slice ao n cap, .slice bo n2 cap2] w fun e w' => e = .returned (.bool true) ∧ Below w.heap.size w w' := by
  have HM := hid (fun X : World => made_bad (w := X) (ao := ao) (n := n) (cap := cap) h)
  have p2 := eqlR_two
  go_enter Tryz.func7, Tryz.ntmps7
  go_wp2_with fail
  refine (HM.out _).mono ?_
  rintro en w1 ⟨rfl, hb1⟩
  have B1 := hid hb1
  clear hb1
  go_wp2_with fail
  refine (HM.out _).mono ?_
  rintro en w2 ⟨rfl, hb2⟩
  have B2 := hid (below_2 B1.out hb2)
  clear hb2
  go_wp2_with fail
  refine (HM.out _).mono ?_
  rintro en w3 ⟨rfl, hb3⟩
  have B3 := hid (below_2 B2.out hb3)
  clear hb3
  go_wp2_with (go_at_call 10; refine (fawake _).mono ?_; rintro e wz ⟨rfl, hbz⟩; have BZ := hid (below_2 B3.out hbz); clear hbz)
  go_ret
  exact ⟨rfl, BZ.out⟩
/-- Where the first loop stands. -/
structure StpAt (w0 w : World) (tb ub vb rb : Nat) (W : Int) (A B L : List Raw) (cs : List (Int × Raw)) (i : Nat) (un : Bool) : Prop where
  tri : Tri w0 w tb ub vb rb W A B L L
  run : runN W L (cs.take i) 0 = .ok B
  unl : un = true → Unl (cs.take i)
theorem unl_snoc {cs : List (Int × Raw)} {i : Nat} {c : Int × Raw} (hc : cs[i]? = some c) (h : Unl (cs.take i)) (ha : ∀ t d, t < i → cs[t]? = some d → keyB c.2 d.2 = false) : Unl (cs.take (i + 1)) := by
  unfold Unl at *
  rw [List.take_add_one, hc]
  refine List.pairwise_append.2 ⟨h, List.pairwise_singleton _ _, fun d hd x hx => ?_⟩
  have hx : x = c := by simpa using hx
  subst hx
  obtain ⟨t, ht, e⟩ := List.mem_take_iff_getElem.1 hd
  rw [keyB_comm]
  exact ha t d (by omega) (by rw [← e]; exact List.getElem?_eq_getElem _)

set_option maxRecDepth 20000 in
set_option maxHeartbeats 8000000 in
theorem fsteps_good {w : World} {ao bo : Option Addr} {n cap n2 cap2 : Nat} {W : Int} {cs ds : List (Int × Raw × Value)} (h : 1 ≤ W ∧ W ≤ 128) (hc : ChIn w ao cs) (hn : cs.length = n) (hnc : n ≤ cap) (hs : ∀ u ∈ cs, Small u.2.1.mat u.2.1.ports) (h63 : n ≤ maxLen)
    (hd : ChIn w bo ds) (hdn : ds.length = n2) (hd64 : n2 * 64 ≤ 140737488355328) : Calls Tryz.prog 7 #[.int .i64 W, .slice ao n cap, .slice bo n2 cap2] w fun e w' => e = .returned (.bool true) ∧ Below w.heap.size w w' := by
  have HM := hid (fun (X : World) (hX : Below w.heap.size w X) => made_good h (hc.on hX) hn hnc hs h63)
  have HG := hid (madeN_good h ((chs cs).take 100))
  have HC := hid hd
  have HN := hid hdn
  have p2 := eqlR_none
  obtain ⟨L, hL⟩ : ∃ L, L = madeN W ((chs cs).take 100) := ⟨_, rfl⟩
  rw [← hL] at HM HG
  clear hc hn hs hd hdn hL
  go_enter Tryz.func7, Tryz.ntmps7
  go_wp2_with fail
  refine (HM.out _ (Below.refl _ _)).mono ?_
  rintro en w1 ⟨tb, rb, rfl, h1⟩
  have B1 := hid h1.out
  clear h1
  go_wp2_with fail
  refine (HM.out _ B1.out.low).mono ?_
  rintro en w2 ⟨ub, rb2, rfl, h2⟩
  have B2 := hid h2.out
  have L2 := hid (below_2 B1.out.low h2.out.low)
  clear h2
  go_wp2_with fail
  refine (HM.out _ L2.out).mono ?_
  rintro en w3 ⟨vb, rb3, rfl, h3⟩
  have T3 := hid (show Tri w w3 tb ub vb rb W L L L L from by
    have b3 := h3.out
    have lt1 := B1.out.fib.lt
    have lt2 := B2.out.fib.lt
    have o2 := B2.out.ot
    have o3 := b3.ot
    have s1 := B1.out.low.size
    have s2 := B2.out.low.size
    exact ⟨below_2 L2.out b3.low, B1.out.ot, by omega, by omega, ((B1.out.fib.on B2.out.low).on b3.low).low, (B2.out.fib.on b3.low).low, b3.fib.low, ((B1.out.doc.on B2.out.low).on b3.low).low, by omega, by omega, by omega⟩)
  clear h3 B1 B2 L2
  go_wp2_with (first | (go_at_call 10; refine (fawake _).mono ?_; rintro e wz ⟨rfl, hbz⟩; have TZ := hid (T3.out.on hbz); clear hbz) | fail)
  have HDO := hid (Do_any (cap := cap2) TZ.out.t (HC.out.on TZ.out.low) HN.out hd64)
  clear HM T3 p2
  refine HDO.out.mono ?_
  rintro en w4 ⟨hg4, hd4⟩
  rcases hd4 with ⟨L', hrun, rfl, hF4⟩ | ⟨i, er, _, hne, rfl, hF4⟩
  · have T4 := hid (TZ.out.doT hg4 hF4)
    have HRUN := hid hrun
    clear hg4 hF4 hrun HDO TZ
    have h264I : (n2 : Int) ≤ 9223372036854775807 := by omega
    go_wp2_with fail
    go_loopw [18, 19] (fun vu vi wr => ∃ (i : Nat) (un : Bool) (B : List Raw), i ≤ n2 ∧ vi = .int .i64 i ∧ vu = .bool un ∧ Hid (StpAt w wr tb ub vb rb W L' B L (chs ds) i un)) (fun _ vi _ => n2 - (intOf vi).toNat)
    case atStart => exact ⟨0, true, L, Nat.zero_le _, rfl, rfl, T4.out, rfl, fun _ => List.Pairwise.nil⟩
    case round =>
      clear T4
      obtain ⟨i, un, B, hi, rfl, rfl, HA⟩ := hrel
      rename World => wo
      by_cases hlt : i < n2
      · have hiI : (i : Int) < (n2 : Int) := by omega
        have hi0 : (0 : Int) ≤ (i : Int) := by omega
        obtain ⟨u, hu⟩ : ∃ u, ds[i]? = some u := ⟨ds[i]'(by rw [HN.out]; exact hlt), List.getElem?_eq_getElem _⟩
        obtain ⟨g, o, rfl⟩ : ∃ g o, bo = some ⟨g, o, none⟩ := by
          rcases HC.out with q | ⟨g, o, e, _⟩
          · rw [q] at hu; simp at hu
          · exact ⟨g, o, e⟩
        have HVW := hid (show ∀ X, Below w.heap.size w X → ChView X g o ds from fun X hX => by
          rcases HC.out.on hX with q | ⟨g', o', e, hv⟩
          · rw [q] at hu; simp at hu
          · cases e; exact hv)
        have HCU := hid (show (chs ds)[i]? = some (u.1, u.2.1) by rw [List.getElem?_map, hu]; rfl)
        have HTX := hid (show ∀ X, Below w.heap.size w X → Txs X u.2.2 u.2.1.ports from fun X hX => ((HVW.out X hX).ports u (List.mem_of_getElem? hu)).1)
        have HPL := hid (((HVW.out wo HA.out.tri.low).ports u (List.mem_of_getElem? hu)).2)
        have HCL := hid (show ∀ X, Below w.heap.size w X → _ from fun X hX => (HVW.out X hX).cell i u hu)
        obtain ⟨kd, ⟨p, m, k, zs⟩, uv⟩ := u
        simp only at HCU HTX HPL HCL
        obtain ⟨uo, uc, huv, _⟩ := HTX.out wo HA.out.tri.low
        obtain ⟨un1, hun⟩ : ∃ un1, un1 = zs.length := ⟨_, rfl⟩
        rw [← hun] at huv
        subst huv
        clear hu hun
        obtain ⟨c0, c1, c2, c3, c4⟩ := HCL.out wo HA.out.tri.low
        have HBW := hid (show Below wo.heap.size wo (wo.alloc (cob5 kd p m k (.slice uo un1 uc))) from (Below.refl _ _).alloc (Nat.le_refl _) _)
        have HDO := hid (Do_any (cap := 1) (n := 1) (HA.out.tri.on HBW.out).u (one_view (kd := kd) (p := p) (m := m) (k := k) (HTX.out wo HA.out.tri.low) HPL.out) rfl (by decide))
        obtain ⟨B2, hst, hrn⟩ := run_next HRUN.out HA.out.run HCU.out
        have HST := hid hst
        have HRN := hid hrn
        clear hst hrn
        go_wp2_with fail
        refine HDO.out.mono ?_
        rintro en w5 ⟨hg5, hd5⟩
        rw [show chs [((kd, (⟨p, m, k, zs⟩ : Raw), Value.slice uo un1 uc) : Int × Raw × Value)] = [(kd, ⟨p, m, k, zs⟩)] from rfl, run_one, HST.out] at hd5
        obtain ⟨rfl, HF5⟩ : en = .returned (.tuple #[.int .i64 0, .int .i64 0]) ∧ Hid (FTab w5 0 ub W B2) := by
          rcases hd5 with ⟨L5, h1, h2, h3⟩ | ⟨i5, er, h1, _⟩
          · injection h1 with h1; subst h1; exact ⟨h2, h3⟩
          · cases h1
        have T5 := hid ((HA.out.tri.on HBW.out).doU hg5 HF5.out)
        clear hg5 hd5 c0 c1 c2 c3 c4 HDO HF5
        go_wp2_with fail
        go_loopw [18, 22] (fun vu vk wr => ∃ (t : Nat) (ux : Bool), t ≤ i ∧ vk = .int .i64 t ∧ vu = .bool ux ∧ Hid (Tri w wr tb ub vb rb W L' B2 L L) ∧ Hid (ux = true → Unl ((chs ds).take i) ∧ ∀ (s : Nat) (d : Int × Raw), s < t → (chs ds)[s]? = some d → keyB ⟨p, m, k, zs⟩ d.2 = false)) (fun _ vk _ => i - (intOf vk).toNat)
        case atStart => exact ⟨0, un, Nat.zero_le _, rfl, rfl, T5, fun h => ⟨HA.out.unl h, fun s d hs => by omega⟩⟩
        case round =>
          clear T5
          obtain ⟨t, ux, ht, rfl, rfl, HT, HU⟩ := hrel
          rename World => wi
          by_cases hti : t < i
          · have htI : (t : Int) < (i : Int) := by omega
            have ht0 : (0 : Int) ≤ (t : Int) := by omega
            have htn : (t : Int) < (n2 : Int) := by omega
            obtain ⟨u2, hu2⟩ : ∃ u2, ds[t]? = some u2 := ⟨ds[t]'(by rw [HN.out]; omega), List.getElem?_eq_getElem _⟩
            have HCU2 := hid (show (chs ds)[t]? = some (u2.1, u2.2.1) by rw [List.getElem?_map, hu2]; rfl)
            obtain ⟨_, e1, e2, _, _⟩ := (HVW.out wi HT.out.low).cell t u2 hu2
            obtain ⟨_, c1, c2, _, _⟩ := HCL.out wi HT.out.low
            obtain ⟨kd2, ⟨p2, m2, k2, zs2⟩, uv2⟩ := u2
            simp only at HCU2 e1 e2
            have HNX := hid (show ∀ ub2 : Bool, (ub2 = true → (ux = true ∧ keyB ⟨p, m, k, zs⟩ ⟨p2, m2, k2, zs2⟩ = false)) → (ub2 = true → Unl ((chs ds).take i) ∧ ∀ (s : Nat) (d : Int × Raw), s < t + 1 → (chs ds)[s]? = some d → keyB ⟨p, m, k, zs⟩ d.2 = false) from fun ub2 h1 h2 => by
              obtain ⟨q1, q2⟩ := h1 h2
              refine ⟨(HU.out q1).1, fun s d hs hd => ?_⟩
              by_cases hst : s < t
              · exact (HU.out q1).2 s d hst hd
              · have : s = t := by omega
                subst this
                rw [HCU2.out] at hd
                injection hd with hd
                rw [← hd]; exact q2)
            have HTD := hid (fun nq : Nat => HT.out.on (below_drewN (n := nq) (Below.refl wi.heap.size wi)))
            clear hu2
            cases ux with
            | false =>
              have HF := hid (HNX.out false (fun h => by cases h))
              go_wp2
              go_quiet (fail)
              go_wp2
              go_roundw
              case rel => exact ⟨t + 1, false, by omega, by go_num, rfl, HTD.out _, fun h => HF.out (by first | exact h | trivial)⟩
              case measure => simp [intOf]; omega
            | true =>
              by_cases hp : p = p2
              · subst hp
                have b1 : (p != p) = false := by simp
                by_cases hm : m = m2
                · subst hm
                  have b2 : (m != m) = false := by simp
                  have HF := hid (HNX.out false (fun h => by cases h))
                  go_wp2
                  go_quiet (fail)
                  go_wp2
                  go_roundw
                  case rel => exact ⟨t + 1, false, by omega, by go_num, rfl, HTD.out _, fun h => HF.out (by first | exact h | trivial)⟩
                  case measure => simp [intOf]; omega
                · have b2 : (m == m2) = false := by simpa using hm
                  have HF := hid (HNX.out true (fun _ => ⟨rfl, by unfold keyB; simp [hm]⟩))
                  clear hm
                  go_wp2
                  go_quiet (fail)
                  go_wp2
                  go_roundw
                  case rel => exact ⟨t + 1, true, by omega, by go_num, rfl, HTD.out _, fun h => HF.out (by first | exact h | trivial)⟩
                  case measure => simp [intOf]; omega
              · have b1 : (p != p2) = true := by simpa using hp
                have HF := hid (HNX.out true (fun _ => ⟨rfl, by unfold keyB; simp [hp]⟩))
                clear hp
                go_wp2
                go_quiet (fail)
                go_wp2
                go_roundw
                case rel => exact ⟨t + 1, true, by omega, by go_num, rfl, HTD.out _, fun h => HF.out (by first | exact h | trivial)⟩
                case measure => simp [intOf]; omega
          · have htI : ¬ ((t : Int) < (i : Int)) := by omega
            have HA2 := hid (show StpAt w wi tb ub vb rb W L' B2 L (chs ds) (i + 1) ux from ⟨HT.out, HRN.out, fun h => unl_snoc HCU.out (HU.out h).1 (fun s d hs hd => (HU.out h).2 s d (by omega) hd)⟩)
            go_wp2
            go_roundw
            case rel => exact ⟨i + 1, ux, B2, by omega, by go_num, rfl, HA2⟩
            case measure => simp [intOf]; omega
      · have hiI : ¬ ((i : Int) < (n2 : Int)) := by omega
        have HB := hid (show B = L' by
          have e : i = n2 := by omega
          have := HA.out.run
          rw [e, List.take_of_length_le (by rw [List.length_map, HN.out]; exact Nat.le_refl _), HRUN.out] at this
          injection this with this
          exact this.symm)
        have HT := hid (show Tri w wo tb ub vb rb W L' L' L L by rw [← HB.out]; rw [← HB.out] at HA; exact HA.out.tri)
        have HUN := hid (show un = true → Unl (chs ds) from fun q => by
          have e : i = n2 := by omega
          have := HA.out.unl q
          rw [e, List.take_of_length_le (by rw [List.length_map, HN.out]; exact Nat.le_refl _)] at this
          exact this)
        clear HA HB
        have HTT := hid (two_tabs HT.out.t HT.out.u)
        go_wp2_with fail
        refine HTT.out.mono ?_
        rintro en w5 ⟨a5, n5, c5, rfl, hb5, h5⟩
        have HB5 := hid hb5
        clear hb5
        go_wp2_with fail
        refine h5.out.mono ?_
        rintro en w6 ⟨a6, n6, c6, rfl, hb6, h6⟩
        have HB6 := hid (below_2 HB5.out hb6)
        clear hb6 h5
        go_wp2_with fail
        refine h6.out.mono ?_
        rintro en w7 ⟨rfl, hb7⟩
        have T7 := hid (HT.out.on (below_2 HB6.out hb7))
        clear hb7 h6 HTT HT HB5 HB6
        cases un with
        | false =>
          go_wp2
          go_ret
          exact ⟨rfl, T7.out.low⟩
        | true =>
          have HU := hid (HUN.out rfl)
          obtain ⟨lo, lc, hS0, -, -, -⟩ := T7.out.doc.row
          obtain ⟨nl, hnl⟩ : ∃ nl, nl = L.length := ⟨_, rfl⟩
          rw [← hnl] at hS0
          have HNL := hid hnl
          have hnl4 : nl ≤ 4096 := by rw [hnl]; exact HG.out.few
          have hw : IntKind.i64.wrap ((nl : Int) + (n2 : Int)) = (nl : Int) + (n2 : Int) := by rw [IntKind.wrap_i64]; omega
          clear hnl
          by_cases hgt : (4096 : Int) < (nl : Int) + (n2 : Int)
          · go_wp2
            go_ret
            exact ⟨rfl, T7.out.low⟩
          · have HREV := hid (run_rev HG.out HU.out HRUN.out (by rw [List.length_map, HN.out, ← HNL.out]; omega))
            go_wp2_with fail
            clear HUN hgt hw hS0
            go_loopw [23] (fun vi wr => ∃ (s : Nat) (Lv : List Raw), s ≤ n2 ∧ vi = .int .i64 ((s : Int) - 1) ∧ Hid (Tri w wr tb ub vb rb W L' L' Lv L) ∧ Hid (runN W L ((chs ds).reverse.take (n2 - s)) 0 = .ok Lv)) (fun vi _ => (intOf vi + 1).toNat)
            case atStart => exact ⟨n2, L, Nat.le_refl _, by go_num, T7, by show _ = _; rw [Nat.sub_self]; rfl⟩
            case round =>
              clear T7
              obtain ⟨s, Lv, hs, rfl, HT, HR⟩ := hrel
              rename World => wv
              by_cases hs0 : s = 0
              · subst hs0
                have HL := hid (show Lv = L' by
                  have := HR.out
                  rw [Nat.sub_zero, List.take_of_length_le (by rw [List.length_reverse, List.length_map, HN.out]; exact Nat.le_refl _), HREV.out] at this
                  injection this with this
                  exact this.symm)
                have HTT := hid (two_tabs HT.out.t (show FTab wv 0 vb W L' by rw [← HL.out]; exact HT.out.v))
                go_wp2_with fail
                refine HTT.out.mono ?_
                rintro en w8 ⟨a8, n8, c8, rfl, hb8, h8⟩
                have HB8 := hid hb8
                clear hb8
                go_wp2_with fail
                refine h8.out.mono ?_
                rintro en w9 ⟨a9, n9, c9, rfl, hb9, h9⟩
                have HB9 := hid (below_2 HB8.out hb9)
                clear hb9 h8
                go_wp2_with fail
                refine h9.out.mono ?_
                rintro en w10 ⟨rfl, hb10⟩
                have T10 := hid (HT.out.on (below_2 HB9.out hb10))
                clear hb10 h9
                go_wp2
                go_ret
                exact ⟨rfl, T10.out.low⟩
              · obtain ⟨q, rfl⟩ : ∃ q, s = q + 1 := ⟨s - 1, by omega⟩
                have eq1 : (((q + 1 : Nat) : Int) - 1) = (q : Int) := by omega
                rw [eq1]
                have hqI : (q : Int) < (n2 : Int) := by omega
                have hq0 : (0 : Int) ≤ (q : Int) := by omega
                obtain ⟨u, hu⟩ : ∃ u, ds[q]? = some u := ⟨ds[q]'(by rw [HN.out]; omega), List.getElem?_eq_getElem _⟩
                obtain ⟨g, o, rfl⟩ : ∃ g o, bo = some ⟨g, o, none⟩ := by
                  rcases HC.out with q | ⟨g, o, e, _⟩
                  · rw [q] at hu; simp at hu
                  · exact ⟨g, o, e⟩
                have HVW := hid (show ∀ X, Below w.heap.size w X → ChView X g o ds from fun X hX => by
                  rcases HC.out.on hX with q | ⟨g', o', e, hv⟩
                  · rw [q] at hu; simp at hu
                  · cases e; exact hv)
                have HCU := hid (show (chs ds).reverse[n2 - (q + 1)]? = some (u.1, u.2.1) by
                  have hl : (chs ds).length = n2 := by rw [List.length_map, HN.out]
                  rw [List.getElem?_reverse (by rw [hl]; omega), hl, show n2 - 1 - (n2 - (q + 1)) = q by omega, List.getElem?_map, hu]; rfl)
                have HTX := hid (show ∀ X, Below w.heap.size w X → Txs X u.2.2 u.2.1.ports from fun X hX => ((HVW.out X hX).ports u (List.mem_of_getElem? hu)).1)
                have HPL := hid (((HVW.out wv HT.out.low).ports u (List.mem_of_getElem? hu)).2)
                have HCL := hid (show ∀ X, Below w.heap.size w X → _ from fun X hX => (HVW.out X hX).cell q u hu)
                obtain ⟨kd, ⟨p, m, k, zs⟩, uv⟩ := u
                simp only at HCU HTX HPL HCL
                obtain ⟨uo, uc, huv, _⟩ := HTX.out wv HT.out.low
                obtain ⟨un1, hun⟩ : ∃ un1, un1 = zs.length := ⟨_, rfl⟩
                rw [← hun] at huv
                subst huv
                clear hu hun eq1
                obtain ⟨c0, c1, c2, c3, c4⟩ := HCL.out wv HT.out.low
                have HBW := hid (show Below wv.heap.size wv (wv.alloc (cob5 kd p m k (.slice uo un1 uc))) from (Below.refl _ _).alloc (Nat.le_refl _) _)
                have HDO := hid (Do_any (cap := 1) (n := 1) (HT.out.on HBW.out).v (one_view (kd := kd) (p := p) (m := m) (k := k) (HTX.out wv HT.out.low) HPL.out) rfl (by decide))
                obtain ⟨B2, hst, hrn⟩ := run_next HREV.out HR.out HCU.out
                have HST := hid hst
                have HRN := hid (show runN W L ((chs ds).reverse.take (n2 - q)) 0 = .ok B2 by rw [show n2 - q = n2 - (q + 1) + 1 by omega]; exact hrn)
                clear hst hrn
                go_wp2_with fail
                refine HDO.out.mono ?_
                rintro en w8 ⟨hg8, hd8⟩
                rw [show chs [((kd, (⟨p, m, k, zs⟩ : Raw), Value.slice uo un1 uc) : Int × Raw × Value)] = [(kd, ⟨p, m, k, zs⟩)] from rfl, run_one, HST.out] at hd8
                obtain ⟨rfl, HF8⟩ : en = .returned (.tuple #[.int .i64 0, .int .i64 0]) ∧ Hid (FTab w8 0 vb W B2) := by
                  rcases hd8 with ⟨L5, h1, h2, h3⟩ | ⟨i5, er, h1, _⟩
                  · injection h1 with h1; subst h1; exact ⟨h2, h3⟩
                  · cases h1
                have T8 := hid ((HT.out.on HBW.out).doV hg8 HF8.out)
                clear hg8 hd8 c0 c1 c2 c3 c4 HDO HF8
                go_wp2
                go_roundw
                case rel => exact ⟨q, B2, by omega, by go_num, T8, HRN⟩
                case measure => simp [intOf]
  · have T4 := hid (TZ.out.doT hg4 hF4)
    have hne2 : (er != 0) = true := by rw [bne_iff_ne]; exact hne
    clear hg4 hF4 hne HDO TZ
    obtain ⟨lo, nl, lc, -, hS0, hr1⟩ := two_rows T4.out.t T4.out.doc
    have HR1 := hid hr1
    clear hr1
    go_wp2_with fail
    go_region_held2 (fun W' => W'.cell? ⟨rb, 1, none⟩ = some (.slice lo nl lc)) (first | exact hS0 | exact hS2 | exact hS3) (first | (go_at_call 12; refine (HR1.out _ ((Below.refl _ _).drew)).mono ?_; rintro en w5 ⟨a5, n5, c5, rfl, hb5, hS2, hsm⟩; have HSM := hid hsm; have HB5 := hid (below_2 ((Below.refl w4.heap.size w4).drew) hb5); clear hb5 hsm) | (go_at_call 11; refine HSM.out.mono ?_; rintro en w6 ⟨rfl, hb6⟩; have hS3 := (hb6.cell (block_old hS2)).trans hS2; have T6 := hid (T4.out.on (below_2 HB5.out hb6)); clear hb6))
    clear hS0 hS2 hS3 HR1 HSM
    go_wp2
    go_ret
    exact ⟨rfl, T6.out.low⟩
theorem fsteps_any {w : World} {ao bo : Option Addr} {n cap n2 cap2 : Nat} {W : Int} {cs ds : List (Int × Raw × Value)} (hc : ChIn w ao cs) (hn : cs.length = n) (hnc : n ≤ cap) (hs : ∀ u ∈ cs, Small u.2.1.mat u.2.1.ports) (h64 : n * 64 ≤ 140737488355328)
    (hd : ChIn w bo ds) (hdn : ds.length = n2) (hd64 : n2 * 64 ≤ 140737488355328) : Calls Tryz.prog 7 #[.int .i64 W, .slice ao n cap, .slice bo n2 cap2] w fun e w' => e = .returned (.bool true) ∧ Below w.heap.size w w' := by
  by_cases h : 1 ≤ W ∧ W ≤ 128
  · exact fsteps_good h hc hn hnc hs (by unfold maxLen; omega) hd hdn hd64
  · exact fsteps_bad h
end Go.Proofs.YtipmlcdnfaobiaaGreat
