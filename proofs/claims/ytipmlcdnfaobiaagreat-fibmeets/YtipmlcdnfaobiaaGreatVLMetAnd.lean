/-
  Proved: for every width, every row of changes and every row of texts the law FibMeets answers true (Meets and Lookup answer as the document's own table), and leaves its arguments as they were. Conditions: none (the form's own reach bounds how long a text or a list that comes in is).
  Changes that came in, and how long their parts may be.
  The law FibMeets: of any width, any changes and any texts it answers true.
-/
import Derived.Test.YtipmlcdnfaobiaaGreatVMadeAnd
import Derived.SizedLaws
import Derived.Test.YtipmlcdnfaobiaaGreatUCopyAnd
import Derived.Test.YtipmlcdnfaobiaaGreatUPrintAnd
import Derived.Test.YtipmlcdnfaobiaaGreatVDocFAnd
import Derived.Test.YtipmlcdnfaobiaaGreatRows
import Derived.WalkKit
import Derived.ProofKit
import Derived.OpenShut
import Derived.ShutString
namespace Go.Proofs.YtipmlcdnfaobiaaGreat
open Go.RowKit

theorem meetR_few {W : Int} {L : List Raw} (hg : GoodT W L) (h : List UInt8) : (meetR W L h).1.ports.length ≤ 64 := by
  unfold meetR
  split
  · simp [zeroR]
  · split
    · simp [zeroR]
    · rw [List.getD_eq_getElem?_getD]
      cases q : L[(metN L h).toNat]? with
      | none => simp [zeroR]
      | some r => exact (errR_small (hg.ok r (List.mem_of_getElem? q))).2.1
theorem lookR_few {W : Int} {L : List Raw} (hg : GoodT W L) (h : List UInt8) : (lookR W L h).2.1.length ≤ 64 := by
  unfold lookR
  split
  · simp
  · split
    · simp
    · rw [List.getD_eq_getElem?_getD]
      cases q : L[(metN L h).toNat]? with
      | none => simp [zeroR]
      | some r => exact (errR_small (hg.ok r (List.mem_of_getElem? q))).2.1

set_option maxRecDepth 20000 in
set_option maxHeartbeats 2000000 in
theorem SameRule_eq {w : World} {p k : Int} {m : List UInt8} {zs : List (List UInt8)} {a1 a2 : Option Addr} {n1 n2 c1 c2 : Nat} (h1 : Txs w (.slice a1 n1 c1) zs) (h2 : Txs w (.slice a2 n2 c2) zs) (hz : zs.length ≤ maxLen) :
    Calls Tryz.prog 21 #[.agg #[.int .i64 p, .string (tx m), .int .i64 k, .slice a1 n1 c1], .agg #[.int .i64 p, .string (tx m), .int .i64 k, .slice a2 n2 c2]] w fun e w' => e = .returned (.bool true) ∧ Below w.heap.size w w' := by
  have HS := hid (fun (X : World) (hX : Below w.heap.size w X) => Same_actsI (k := k) (h1.below hX) (h2.below hX) hz)
  have HB := hid (show Below w.heap.size w ((w.alloc (rob p (tx m) k (.slice a1 n1 c1))).alloc (rob p (tx m) k (.slice a2 n2 c2))) from ((Below.refl _ _).alloc (Nat.le_refl _) _).alloc (by simp) _)
  have epp : (p == p) = true := by simp
  have emm : (m == m) = true := by simp
  clear h1 h2
  go_enter Tryz.func21, Tryz.ntmps21
  go_wp2_with (first | (go_at_call 22; refine (HS.out _ HB.out).mono ?_; rintro e wz ⟨rfl, hbz⟩) | fail)
  go_ret
  exact ⟨rfl, below_2 HB.out hbz⟩

set_option maxRecDepth 20000 in
set_option maxHeartbeats 4000000 in
theorem fmeets_bad {w : World} {ao bo : Option Addr} {n cap n2 cap2 : Nat} {W : Int} (h : ¬ (1 ≤ W ∧ W ≤ 128)) : Calls Tryz.prog 4 #[.int .i64 W, .slice ao n cap, .slice bo n2 cap2] w fun e w' => e = .returned (.bool true) ∧ Below w.heap.size w w' := by
  have HM := hid (made_bad (w := w) (ao := ao) (n := n) (cap := cap) h)
  have p2 := eqlR_two
  go_enter Tryz.func4, Tryz.ntmps4
  go_wp2_with fail
  refine HM.out.mono ?_
  rintro en w1 ⟨rfl, hb1⟩
  have B1 := hid hb1
  clear hb1
  go_wp2_with (go_at_call 10; refine (fawake _).mono ?_; rintro e wz ⟨rfl, hbz⟩; have BZ := hid (below_2 B1.out hbz); clear hbz)
  go_ret
  exact ⟨rfl, BZ.out⟩

set_option maxRecDepth 20000 in
set_option maxHeartbeats 4000000 in
theorem fmeets_good {w : World} {ao bo : Option Addr} {n cap n2 cap2 : Nat} {W : Int} {cs : List (Int × Raw × Value)} {hs2 : List (List UInt8)} (h : 1 ≤ W ∧ W ≤ 128) (hc : ChIn w ao cs) (hn : cs.length = n) (hnc : n ≤ cap) (hs : ∀ u ∈ cs, Small u.2.1.mat u.2.1.ports) (h63 : n ≤ maxLen)
    (ht : Txs w (.slice bo n2 cap2) hs2) (hhn : hs2.length = n2) (hhl : ∀ x ∈ hs2, x.length ≤ maxLen) (h263 : n2 ≤ maxLen) : Calls Tryz.prog 4 #[.int .i64 W, .slice ao n cap, .slice bo n2 cap2] w fun e w' => e = .returned (.bool true) ∧ Below w.heap.size w w' := by
  have HM := hid (made_good h hc hn hnc hs h63)
  have HG := hid (madeN_good h ((chs cs).take 100))
  have HT := hid ht
  have HHN := hid hhn
  have HHL := hid hhl
  have p2 := eqlR_none
  obtain ⟨L, hL⟩ : ∃ L, L = madeN W ((chs cs).take 100) := ⟨_, rfl⟩
  rw [← hL] at HM HG
  have h263I : (n2 : Int) ≤ 9223372036854775807 := by unfold maxLen at h263; omega
  clear hc hn hs ht hhn hhl hL
  go_enter Tryz.func4, Tryz.ntmps4
  go_wp2_with fail
  refine HM.out.mono ?_
  rintro en w1 ⟨tb, rb, rfl, h1⟩
  have B1 := hid h1.out
  clear h1
  go_wp2_with (first | (go_at_call 10; refine (fawake _).mono ?_; rintro e wz ⟨rfl, hbz⟩; have BZ := hid (B1.out.on hbz); clear hbz) | fail)
  clear p2 HM B1
  go_loopw [10] (fun vi wr => ∃ j : Nat, j ≤ n2 ∧ vi = .int .i64 j ∧ Hid (Both w wr tb rb W L)) (fun vi _ => n2 - (intOf vi).toNat)
  case atStart => exact ⟨0, Nat.zero_le _, rfl, BZ⟩
  case round =>
    clear BZ
    obtain ⟨j, hj, rfl, HA⟩ := hrel
    rename World => wo
    by_cases hlt : j < n2
    · have hjI : (j : Int) < (n2 : Int) := by omega
      have hj0 : (0 : Int) ≤ (j : Int) := by omega
      obtain ⟨hd, hhd⟩ : ∃ hd, hd = hs2.getD j [] := ⟨_, rfl⟩
      obtain ⟨g, o, rfl, hcell⟩ : ∃ g o, bo = some ⟨g, o, none⟩ ∧ ∀ X, Below w.heap.size w X → X.cell? ⟨g, o + j, none⟩ = some (.string (tx hd)) := by
        obtain ⟨a', c', e, q | ⟨g, o, e2, hg, hcl⟩⟩ := HT.out
        · rw [q] at HHN; have := HHN.out; simp at this; omega
        · injection e with e1 _ _
          refine ⟨g, o, by rw [e1, e2], fun X hX => ?_⟩
          rw [hX.cell (by exact hg), hcl j (by rw [HHN.out]; exact hlt), hhd]
      have HCL := hid hcell
      have HLEN := hid (show hd.length ≤ maxLen by
        rw [hhd, List.getD_eq_getElem?_getD, List.getElem?_eq_getElem (show j < hs2.length by rw [HHN.out]; exact hlt)]
        exact HHL.out _ (List.getElem_mem _))
      have HF1 := hid (meetR_few HG.out hd)
      have HF2 := hid (lookR_few HG.out hd)
      have c0 := hcell wo HA.out.low
      have HM1 := hid (Meets_any (h := hd) HA.out.fib)
      clear hcell hhd
      obtain ⟨⟨⟨pp, mm, kk, zz⟩, x, er⟩, hmr⟩ : ∃ q, q = meetR W L hd := ⟨_, rfl⟩
      obtain ⟨⟨lk, lp, le⟩, hlr⟩ : ∃ q, q = lookR W L hd := ⟨_, rfl⟩
      have HMR := hid hmr
      have HLR := hid hlr
      rw [← hmr] at HF1
      rw [← hlr] at HF2
      simp only at HF1 HF2
      clear hmr hlr
      go_wp2_with fail
      refine HM1.out.mono ?_
      rintro en w2 hp2
      have hv2 := hp2.v
      rw [← HMR.out] at hv2
      obtain ⟨a2, n2', c2, rfl, hpo2⟩ := hv2
      have B2 := hid (HA.out.on hp2.1)
      have HP2 := hid hpo2
      clear hp2 hpo2 HM1 c0
      have c0 := HCL.out w2 B2.out.low
      have HBB2 := hid (show Below w2.heap.size w2 (w2.alloc (rob pp (tx mm) kk (.slice a2 n2' c2))) from (Below.refl _ _).alloc (Nat.le_refl _) _)
      have c1 := HCL.out _ (B2.out.on HBB2.out).low
      have HM2 := hid (RMeets_any (h := hd) (B2.out.on HBB2.out).doc HG.out HLEN.out)
      go_wp2_with fail
      refine HM2.out.mono ?_
      rintro en w3 ⟨hv3, hb3⟩
      rw [← HMR.out] at hv3
      obtain ⟨a3, n3, c3, rfl, hpo3⟩ := hv3
      have B3 := hid ((B2.out.on HBB2.out).on hb3)
      have K2 := hid (below_block hb3 (new_0 w2 (rob pp (tx mm) kk (.slice a2 n2' c2))) (by simp))
      have HP2b := hid (HP2.out.on (below_2 HBB2.out hb3))
      have HP3 := hid hpo3
      clear hb3 hpo3 HM2 c0 c1 HP2 HBB2
      have HBB3 := hid (show Below w3.heap.size w3 (w3.alloc (rob pp (tx mm) kk (.slice a3 n3 c3))) from (Below.refl _ _).alloc (Nat.le_refl _) _)
      have c0 := HCL.out w3 B3.out.low
      have c1 := HCL.out _ (B3.out.on HBB3.out).low
      have HM3 := hid (Lookup_any (h := hd) (B3.out.on HBB3.out).fib)
      generalize w2.heap.size = k2 at K2 ⊢
      go_wp2_with fail
      refine HM3.out.mono ?_
      rintro en w4 hp4
      have hv4 := hp4.v
      rw [← HLR.out] at hv4
      obtain ⟨a4, n4, c4, rfl, hpo4⟩ := hv4
      have hb4 := hp4.1
      have B4 := hid ((B3.out.on HBB3.out).on hb4)
      have K3 := hid (below_block hb4 (new_0 w3 (rob pp (tx mm) kk (.slice a3 n3 c3))) (by simp))
      have K2b := hid (below_block (below_2 HBB3.out hb4) K2.out (lt_of_block K2.out))
      have HP2c := hid (HP2b.out.on (below_2 HBB3.out hb4))
      have HP3b := hid (HP3.out.on (below_2 HBB3.out hb4))
      have HP4 := hid hpo4
      clear hb4 hp4 hpo4 HM3 c0 c1 HP2b HP3 HBB3 K2
      generalize w3.heap.size = k3 at K3 ⊢
      have HBB4 := hid (show Below w4.heap.size w4 (w4.alloc (aob lk (.slice a4 n4 c4))) from (Below.refl _ _).alloc (Nat.le_refl _) _)
      have c0 := HCL.out w4 B4.out.low
      have c1 := HCL.out _ (B4.out.on HBB4.out).low
      have HM4 := hid (RLookup_any (h := hd) (B4.out.on HBB4.out).doc HG.out HLEN.out)
      go_wp2_with fail
      refine HM4.out.mono ?_
      rintro en w5 ⟨hv5, hb5⟩
      rw [← HLR.out] at hv5
      obtain ⟨a5, n5, c5, rfl, hpo5⟩ := hv5
      have B5 := hid ((B4.out.on HBB4.out).on hb5)
      have K4 := hid (below_block hb5 (new_0 w4 (aob lk (.slice a4 n4 c4))) (by simp))
      have K3b := hid (below_block (below_2 HBB4.out hb5) K3.out (lt_of_block K3.out))
      have K2c := hid (below_block (below_2 HBB4.out hb5) K2b.out (lt_of_block K2b.out))
      have HP2d := hid (HP2c.out.on (below_2 HBB4.out hb5))
      have HP3c := hid (HP3b.out.on (below_2 HBB4.out hb5))
      have HP4b := hid (HP4.out.on (below_2 HBB4.out hb5))
      have HP5 := hid hpo5
      clear hb5 hpo5 HM4 c0 c1 HP2c HP3b HP4 HBB4 K3 K2b
      generalize w4.heap.size = k4 at K4 ⊢
      have HBB5 := hid (show Below w5.heap.size w5 (w5.alloc (aob lk (.slice a5 n5 c5))) from (Below.refl _ _).alloc (Nat.le_refl _) _)
      obtain ⟨X, hX⟩ : ∃ X, X = w5.alloc (aob lk (.slice a5 n5 c5)) := ⟨_, rfl⟩
      obtain ⟨k5, hk5⟩ : ∃ k5, k5 = w5.heap.size := ⟨_, rfl⟩
      have BX := hid (show Both w X tb rb W L by rw [hX]; exact B5.out.on HBB5.out)
      have HFS := hid (show ∀ Y, Below X.heap.size X Y → (Y.heap[k2]? = some (rob pp (tx mm) kk (.slice a2 n2' c2)) ∧ Y.heap[k3]? = some (rob pp (tx mm) kk (.slice a3 n3 c3)) ∧ Y.heap[k4]? = some (aob lk (.slice a4 n4 c4)) ∧ Y.heap[k5]? = some (aob lk (.slice a5 n5 c5))) ∧ Txs Y (.slice a2 n2' c2) zz ∧ Txs Y (.slice a3 n3 c3) zz ∧ Txs Y (.slice a4 n4 c4) lp ∧ Txs Y (.slice a5 n5 c5) lp from fun Y hY => by
        have hwY : Below w5.heap.size w5 Y := below_2 HBB5.out (by rw [← hX]; exact hY)
        refine ⟨⟨below_block hwY K2c.out (lt_of_block K2c.out), below_block hwY K3b.out (lt_of_block K3b.out), below_block hwY K4.out (lt_of_block K4.out), ?_⟩, (HP2d.out.on hwY).txs, (HP3c.out.on hwY).txs, (HP4b.out.on hwY).txs, (HP5.out.on hwY).txs⟩
        rw [hX] at hY
        rw [hk5]
        exact below_block hY (new_0 w5 _) (by simp))
      have HCS := hid (show ∀ Y, Below X.heap.size X Y → Y.cell? ⟨k2, 0, none⟩ = some (.int .i64 pp) ∧ Y.cell? ⟨k2, 1, none⟩ = some (.string (tx mm)) ∧ Y.cell? ⟨k2, 2, none⟩ = some (.int .i64 kk) ∧ Y.cell? ⟨k2, 3, none⟩ = some (.slice a2 n2' c2) ∧ Y.cell? ⟨k3, 0, none⟩ = some (.int .i64 pp) ∧ Y.cell? ⟨k3, 1, none⟩ = some (.string (tx mm)) ∧ Y.cell? ⟨k3, 2, none⟩ = some (.int .i64 kk) ∧ Y.cell? ⟨k3, 3, none⟩ = some (.slice a3 n3 c3) ∧ Y.cell? ⟨k4, 0, none⟩ = some (.int .i64 lk) ∧ Y.cell? ⟨k4, 1, none⟩ = some (.slice a4 n4 c4) ∧ Y.cell? ⟨k5, 0, none⟩ = some (.int .i64 lk) ∧ Y.cell? ⟨k5, 1, none⟩ = some (.slice a5 n5 c5) from fun Y hY => by
        obtain ⟨⟨b2, b3, b4, b5⟩, _⟩ := HFS.out Y hY
        refine ⟨?_, ?_, ?_, ?_, ?_, ?_, ?_, ?_, ?_, ?_, ?_, ?_⟩
        · rw [cell_at b2]; rfl
        · rw [cell_at b2]; rfl
        · rw [cell_at b2]; rfl
        · rw [cell_at b2]; rfl
        · rw [cell_at b3]; rfl
        · rw [cell_at b3]; rfl
        · rw [cell_at b3]; rfl
        · rw [cell_at b3]; rfl
        · rw [cell_at b4]; rfl
        · rw [cell_at b4]; rfl
        · rw [cell_at b5]; rfl
        · rw [cell_at b5]; rfl)
      have HSR := hid (fun (Y : World) (hY : Below X.heap.size X Y) => SameRule_eq (p := pp) (m := mm) (k := kk) (HFS.out Y hY).2.1 (HFS.out Y hY).2.2.1 (show zz.length ≤ maxLen by have := HF1.out; unfold maxLen; omega))
      have HSA := hid (fun (Y : World) (hY : Below X.heap.size X Y) => Same_actsI (k := lk) (HFS.out Y hY).2.2.2.1 (HFS.out Y hY).2.2.2.2 (show lp.length ≤ maxLen by have := HF2.out; unfold maxLen; omega))
      have exx : (x != x) = false := by simp
      have eer : (er != er) = false := by simp
      have ele : (le != le) = false := by simp
      have hS0 := HCS.out X (Below.refl _ _)
      have HX := hid hX
      have HK5 := hid hk5
      clear hX hk5
      rw [HX.out, HK5.out] at hS0
      obtain ⟨d0, d1, d2, d3, d4, d5, d6, d7, d8, d9, d10, d11⟩ := hS0
      clear HBB5 K2c K3b K4 HP2d HP3c HP4b HP5 B5 HFS HLEN HF1 HF2 HMR HLR HCL HT HHN HHL B2 B3 B4 HA
      go_wp2_with fail
      rw [← HX.out]
      refine (HSR.out _ (Below.refl _ _)).mono ?_
      rintro en w6 ⟨rfl, hb6⟩
      have HB6 := hid hb6
      clear hb6 d0 d1 d2 d3 d4 d5 d6 d7 d8 d9 d10 d11
      have hS6 := HCS.out w6 HB6.out
      rw [HK5.out] at hS6
      obtain ⟨d0, d1, d2, d3, d4, d5, d6, d7, d8, d9, d10, d11⟩ := hS6
      go_wp2_with fail
      refine (HSA.out _ HB6.out).mono ?_
      rintro en w7 ⟨rfl, hb7⟩
      have HB7 := hid (below_2 HB6.out hb7)
      clear hb7 d0 d1 d2 d3 d4 d5 d6 d7 d8 d9 d10 d11
      have HEND := hid (BX.out.on HB7.out)
      clear HSR HSA HCS
      go_wp2
      go_roundw
      case rel => exact ⟨j + 1, by omega, by go_num, HEND⟩
      case measure => simp [intOf]; omega
    · have hjI : ¬ ((j : Int) < (n2 : Int)) := by omega
      go_wp2
      go_ret
      exact ⟨rfl, HA.out.low⟩
theorem fmeets_any {w : World} {ao bo : Option Addr} {n cap n2 cap2 : Nat} {W : Int} {cs : List (Int × Raw × Value)} {hs2 : List (List UInt8)} (hc : ChIn w ao cs) (hn : cs.length = n) (hnc : n ≤ cap) (hs : ∀ u ∈ cs, Small u.2.1.mat u.2.1.ports) (h64 : n * 64 ≤ 140737488355328)
    (ht : Txs w (.slice bo n2 cap2) hs2) (hhn : hs2.length = n2) (hhl : ∀ x ∈ hs2, x.length ≤ maxLen) (h263 : n2 * 16 ≤ 140737488355328) : Calls Tryz.prog 4 #[.int .i64 W, .slice ao n cap, .slice bo n2 cap2] w fun e w' => e = .returned (.bool true) ∧ Below w.heap.size w w' := by
  by_cases h : 1 ≤ W ∧ W ≤ 128
  · exact fmeets_good h hc hn hnc hs (by unfold maxLen; omega) ht hhn hhl (by unfold maxLen; omega)
  · exact fmeets_bad h
end Go.Proofs.YtipmlcdnfaobiaaGreat
namespace Go.Proofs.YtipmlcdnfaobiaaGreat
open Go.ChangeShapes Go.WideShapes Go.ChangeAt Go.RowKit
open Go.ChangeMaps (open_string shut_string)

theorem each_boundV {H : Type} {P : Program} {t : TypeId} {fs : Array Field} {l : List (TypeId × Nat)} {ds : List (DataW H)} (ht : P.underlying t = some (.struct fs)) (hl : fs.toList.map (fun f => (f.type, f.offset)) = l) (hw : ∀ k ∈ (DataW.agg ds : DataW H).weights P t, k ≤ reachBytes) :
    ∀ (i : Nat) (ty : TypeId) (off : Nat) (d : DataW H), l[i]? = some (ty, off) → ds[i]? = some d → ∀ k ∈ d.weights P ty, k ≤ reachBytes := by
  intro i ty off d hi hd k hk
  apply hw
  simp only [DataW.weights, ht]
  refine DataW.weights_mem_each (j := i) (t := ty) ?_ hd k hk
  rw [← hl, List.getElem?_map, Option.map_eq_some_iff] at hi
  obtain ⟨f, hf, e⟩ := hi
  rw [List.getElem?_map, hf]
  simp only [Prod.mk.injEq] at e
  simp [e.1]
theorem weights_allV {H : Type} {P : Program} {e : TypeId} : ∀ {ds : List (DataW H)} {d : DataW H}, d ∈ ds → ∀ k ∈ d.weights P e, k ∈ DataW.weightsAll P e ds
  | d0 :: ds, d, hd, k, hk => by
    simp only [DataW.weightsAll, List.mem_append]
    rcases List.mem_cons.1 hd with rfl | hd
    · exact Or.inl hk
    · exact Or.inr (weights_allV hd k hk)
theorem slice_boundV {H : Type} {P : Program} {t e : TypeId} {a b : List (DataW H)} (ht : P.underlying t = some (.slice e)) (hw : ∀ k ∈ (DataW.slice a b : DataW H).weights P t, k ≤ reachBytes) : (a.length + b.length) * P.bytesOf e ≤ reachBytes ∧ ∀ d ∈ a, ∀ k ∈ d.weights P e, k ≤ reachBytes := by
  refine ⟨hw _ (by simp [DataW.weights, ht]), fun d hd k hk => hw k ?_⟩
  simp only [DataW.weights, ht, List.mem_cons, List.mem_append]
  exact Or.inr (Or.inl (weights_allV hd k hk))

section
variable {H : Type} {enc : TypeId × Value → H} {w : World} {base : Nat} {spare : Nat → Bool} {held : Bool}

set_option maxRecDepth 100000 in
theorem open_rule_sV {fuel : Nat} {cs : List Value} {x : DataW H × List MemPlace} (h : DataW.trod enc Tryz.prog w base spare held fuel 44 cs = some x) (hw : ∀ k ∈ x.1.weights Tryz.prog 44, k ≤ reachBytes) :
    ∃ (p : Int) (m : ByteArray) (k : Int) (v : Value) (n : Nat) (y : DataW H × List MemPlace), cs = [.int .i64 p, .string m, .int .i64 k, v] ∧ m.size ≤ maxLen ∧ DataW.trod enc Tryz.prog w base spare held n 39 [v] = some y ∧ m.size ≤ reachBytes ∧ ∀ k ∈ y.1.weights Tryz.prog 39, k ≤ reachBytes := by
  obtain ⟨fs, hfs, hl⟩ := struct_of (P := Tryz.prog) (t := 44) (l := [(3, 0), (9, 1), (42, 2)]) (by kernel_rfl)
  obtain ⟨gs, hgs, hm⟩ := struct_of (P := Tryz.prog) (t := 42) (l := [(40, 0), (39, 1)]) (by kernel_rfl)
  obtain ⟨xs, n, _, hxe, hlen, hxl, hf⟩ := DataW.trod_struct hfs h
  have W1 := each_boundV hfs hl (by rw [hxe] at hw; exact hw)
  have hc : Tryz.prog.cellsOf 44 = 4 := by kernel_rfl
  rw [hc] at hlen
  have hsz : fs.size = 3 := by have := congrArg List.length hl; simpa using this
  match cs, hlen with
  | [c0, c1, c2, c3], _ =>
    obtain ⟨f0, e0, t0, o0⟩ := field_of hl (i := 0) rfl
    obtain ⟨f1, e1, t1, o1⟩ := field_of hl (i := 1) rfl
    obtain ⟨f2, e2, t2, o2⟩ := field_of hl (i := 2) rfl
    have g0 := hf 0 f0 e0
    have g1 := hf 1 f1 e1
    have g2 := hf 2 f2 e2
    rw [t0, o0, show Tryz.prog.cellsOf 3 = 1 by kernel_rfl, List.getElem?_eq_getElem (show 0 < xs.length by omega)] at g0
    rw [t1, o1, show Tryz.prog.cellsOf 9 = 1 by kernel_rfl, List.getElem?_eq_getElem (show 1 < xs.length by omega)] at g1
    rw [t2, o2, show Tryz.prog.cellsOf 42 = 2 by kernel_rfl, List.getElem?_eq_getElem (show 2 < xs.length by omega)] at g2
    obtain ⟨p, hp, _, _⟩ := DataW.trod_int Tryz.underlying3 g0
    obtain ⟨m, hm1, hx1, hms⟩ := DataW.trod_string Tryz.underlying9 g1
    obtain ⟨ys, n2, _, hye, _, hyl, hg⟩ := DataW.trod_struct hgs g2
    have W2 := each_boundV hgs hm (by have := W1 2 42 2 xs[2].1 rfl (by rw [List.getElem?_map, List.getElem?_eq_getElem (show 2 < xs.length by omega)]; rfl); rw [hye] at this; exact this)
    have hsz2 : gs.size = 2 := by have := congrArg List.length hm; simpa using this
    obtain ⟨k0, d0, u0, q0⟩ := field_of hm (i := 0) rfl
    obtain ⟨k1, d1, u1, q1⟩ := field_of hm (i := 1) rfl
    have r0 := hg 0 k0 d0
    have r1 := hg 1 k1 d1
    rw [u0, q0, show Tryz.prog.cellsOf 40 = 1 by kernel_rfl, List.getElem?_eq_getElem (show 0 < ys.length by omega)] at r0
    rw [u1, q1, show Tryz.prog.cellsOf 39 = 1 by kernel_rfl, List.getElem?_eq_getElem (show 1 < ys.length by omega)] at r1
    obtain ⟨k, hk, _, _⟩ := DataW.trod_int (k := .i64) (by kernel_rfl) r0
    simp at hp hm1 hk
    subst hp hm1 hk
    refine ⟨p, m, k, c3, n2, _, rfl, hms, by simpa using r1, ?_, ?_⟩
    · have := W1 1 9 1 xs[1].1 rfl (by rw [List.getElem?_map, List.getElem?_eq_getElem (show 1 < xs.length by omega)]; rfl)
      rw [hx1] at this
      have q := this m.data.toList.length (by simp [DataW.weights])
      rw [list_size] at q; exact q
    · exact W2 1 39 1 ys[1].1 rfl (by rw [List.getElem?_map, List.getElem?_eq_getElem (show 1 < ys.length by omega)]; rfl)

/-- Texts that came in. -/
theorem open_texts_sV {fuel : Nat} {v : Value} {x : DataW H × List MemPlace} (h : DataW.trod enc Tryz.prog w base (fun _ => true) held fuel 39 [v] = some x) (hw : ∀ k ∈ x.1.weights Tryz.prog 39, k ≤ reachBytes) : ∃ ps : List (List UInt8), Txs w v ps ∧ (∀ p ∈ ps, p.length ≤ maxLen) ∧ ps.length * 16 ≤ reachBytes ∧ ∀ p ∈ ps, p.length ≤ reachBytes := by
  rcases open_strings Tryz.underlying39 Tryz.underlying9 (by kernel_rfl) h with ⟨hcs, _⟩ | ⟨a, len, cap, ss, hcs, _, hl, hm, hz, hxe, hcell, hws⟩
  · simp only [List.cons.injEq, and_true] at hcs
    exact ⟨[], by rw [hcs]; exact Txs.nil _ _ _, fun p hp => absurd hp (by simp), by simp, fun p hp => absurd hp (by simp)⟩
  · simp only [List.cons.injEq, and_true] at hcs
    simp only [if_true] at hz
    rw [hxe] at hw
    obtain ⟨w1, w2⟩ := slice_boundV Tryz.underlying39 hw
    rw [show Tryz.prog.bytesOf 9 = 16 by kernel_rfl] at w1
    refine ⟨(ss.take len).map (fun s => s.data.toList), ?_, fun p hp => ?_, ?_, fun p hp => ?_⟩
    · have hlen : ((ss.take len).map (fun s => s.data.toList)).length = len := by rw [List.length_map, List.length_take]; omega
      refine ⟨some a, cap, by rw [hlen, hcs], ?_⟩
      by_cases h0 : len = 0
      · exact Or.inl (by rw [h0]; simp)
      · obtain ⟨⟨g, o, rfl⟩, hb⟩ := addr_of5 (hcell 0 (by omega))
        refine Or.inr ⟨g, o, rfl, hb, fun i hi => ?_⟩
        rw [hlen] at hi
        have := hcell i (by omega)
        rw [addr_add5] at this
        rw [this]
        have hi2 : i < ss.length := by omega
        simp [List.getD_eq_getElem?_getD, List.getElem?_map, hi, List.getElem?_eq_getElem hi2]
    · obtain ⟨s, hs, rfl⟩ := List.mem_map.1 hp
      have := hws s (List.mem_of_mem_take hs)
      rw [list_size]; exact this
    · refine Nat.le_trans (Nat.mul_le_mul_right 16 ?_) w1
      simp [strs]
    · obtain ⟨s, hs, rfl⟩ := List.mem_map.1 hp
      exact w2 (.lit (.string s.data.toList)) (List.mem_map.2 ⟨s, hs, rfl⟩) _ (by simp [DataW.weights])


set_option maxRecDepth 100000 in
theorem open_change {fuel : Nat} {cs : List Value} {x : DataW H × List MemPlace} (h : DataW.trod enc Tryz.prog w base spare held fuel 57 cs = some x) (hw : ∀ k ∈ x.1.weights Tryz.prog 57, k ≤ reachBytes) :
    ∃ (kd : Int) (rs : List Value) (n : Nat) (y : DataW H × List MemPlace), cs = .int .i64 kd :: rs ∧ DataW.trod enc Tryz.prog w base spare held n 44 rs = some y ∧ ∀ k ∈ y.1.weights Tryz.prog 44, k ≤ reachBytes := by
  obtain ⟨fs, hfs, hl⟩ := struct_of (P := Tryz.prog) (t := 57) (l := [(55, 0), (44, 1)]) (by kernel_rfl)
  obtain ⟨xs, n, _, hxe, hlen, hxl, hf⟩ := DataW.trod_struct hfs h
  have W1 := each_boundV hfs hl (by rw [hxe] at hw; exact hw)
  have hc : Tryz.prog.cellsOf 57 = 5 := by kernel_rfl
  rw [hc] at hlen
  have hsz : fs.size = 2 := by have := congrArg List.length hl; simpa using this
  match cs, hlen with
  | [c0, c1, c2, c3, c4], _ =>
    obtain ⟨f0, e0, t0, o0⟩ := field_of hl (i := 0) rfl
    obtain ⟨f1, e1, t1, o1⟩ := field_of hl (i := 1) rfl
    have g0 := hf 0 f0 e0
    have g1 := hf 1 f1 e1
    rw [t0, o0, show Tryz.prog.cellsOf 55 = 1 by kernel_rfl, List.getElem?_eq_getElem (show 0 < xs.length by omega)] at g0
    rw [t1, o1, show Tryz.prog.cellsOf 44 = 4 by kernel_rfl, List.getElem?_eq_getElem (show 1 < xs.length by omega)] at g1
    obtain ⟨kd, hk, _, _⟩ := DataW.trod_int (k := .i64) (by kernel_rfl) g0
    simp at hk
    subst hk
    exact ⟨kd, [c1, c2, c3, c4], n, _, rfl, by simpa using g1, W1 1 44 1 xs[1].1 rfl (by rw [List.getElem?_map, List.getElem?_eq_getElem (show 1 < xs.length by omega)]; rfl)⟩

/-- Changes that came in. -/
theorem open_changes {fuel : Nat} {ao : Option Addr} {len cap : Nat} {x : DataW H × List MemPlace} (h : DataW.trod enc Tryz.prog w base (fun _ => true) held fuel 22 [.slice ao len cap] = some x) (hw : ∀ k ∈ x.1.weights Tryz.prog 22, k ≤ reachBytes) : ∃ cs : List (Int × Raw × Value), ChIn w ao cs ∧ cs.length = len ∧ len ≤ cap ∧ (∀ u ∈ cs, Small u.2.1.mat u.2.1.ports) ∧ len * 64 ≤ 140737488355328 := by
  rcases Go.Deep.open_slice (e := 57) Tryz.underlying22 h with ⟨hcs, _⟩ | ⟨a, len', cap', m, n, D, Pl, hcs, _, hl, hm, hmm, hxe, hx⟩
  · simp at hcs
    exact ⟨[], Or.inl rfl, by rw [hcs.2.1]; rfl, by omega, fun q hq => absurd hq (by simp), by omega⟩
  · simp at hcs
    obtain ⟨rfl, rfl, rfl⟩ := hcs
    simp only [if_true] at hmm
    have hc : Tryz.prog.cellsOf 57 = 5 := by kernel_rfl
    by_cases h0 : len = 0
    · exact ⟨[], Or.inl rfl, by rw [h0]; rfl, hl, fun q hq => absurd hq (by simp), by omega⟩
    rw [hxe] at hw
    obtain ⟨w1, w2⟩ := slice_boundV Tryz.underlying22 hw
    rw [show Tryz.prog.bytesOf 57 = 64 by kernel_rfl] at w1
    have each : ∀ i, i < len → ∃ q : Int × Raw × Value, w.cell? (a.add (i * 5)) = some (.int .i64 q.1) ∧ w.cell? ((a.add (i * 5)).add 1) = some (.int .i64 q.2.1.prio) ∧ w.cell? ((a.add (i * 5)).add 2) = some (.string (tx q.2.1.mat)) ∧ w.cell? ((a.add (i * 5)).add 3) = some (.int .i64 q.2.1.kind) ∧ w.cell? ((a.add (i * 5)).add 4) = some q.2.2 ∧ Txs w q.2.2 q.2.1.ports ∧ (∀ p ∈ q.2.1.ports, p.length ≤ maxLen) ∧ Small q.2.1.mat q.2.1.ports := by
      intro i hi
      obtain ⟨cs', h1, h2⟩ := hx i (by omega)
      rw [hc] at h1
      obtain ⟨_, _, hcell⟩ := World.cells?_some h1
      obtain ⟨kd, rs, n0, y0, rfl, hr, hb0⟩ := open_change h2 (w2 (D i) (List.mem_map.2 ⟨i, List.mem_range.2 hi, rfl⟩))
      obtain ⟨p, m', k, v, n', y, rfl, hms, hv, hb1, hb2⟩ := open_rule_sV hr hb0
      obtain ⟨zs, hz1, hz2, hz3, hz4⟩ := open_texts_sV hv hb2
      have c0 := hcell 0 (by omega)
      have c1 := hcell 1 (by omega)
      have c2 := hcell 2 (by omega)
      have c3 := hcell 3 (by omega)
      have c4 := hcell 4 (by omega)
      have e0 : (a.add (i * 5)).add 0 = a.add (i * 5) := by unfold Addr.add; simp
      rw [e0] at c0
      exact ⟨(kd, ⟨p, m'.data.toList, k, zs⟩, v), c0, c1, c2, c3, c4, hz1, hz2, by rw [list_size]; exact Nat.le_trans hb1 (by decide), Nat.le_trans hz3 (by decide), fun z hz => Nat.le_trans (hz4 z hz) (by decide)⟩
    have : Inhabited (Int × Raw × Value) := ⟨(0, ⟨0, [], 0, []⟩, .bool false)⟩
    obtain ⟨q, hq⟩ := Go.Deep.choose_lt each
    obtain ⟨⟨g, o, rfl⟩, hb⟩ := addr_of5 (v := .int .i64 (q 0).1) (by have := (hq 0 (by omega)).1; rw [Nat.zero_mul] at this; exact this)
    refine ⟨(List.range len).map q, Or.inr ⟨g, o, rfl, hb, fun i r hr => ?_, fun r hr => ?_⟩, by simp, hl, fun r hr => ?_, ?_⟩
    · rw [List.getElem?_map, Option.map_eq_some_iff] at hr
      obtain ⟨i', hi', rfl⟩ := hr
      obtain ⟨hi, rfl⟩ := List.getElem?_eq_some_iff.1 hi'
      simp only [List.length_range] at hi
      simp only [List.getElem_range]
      obtain ⟨c0, c1, c2, c3, c4, _, _⟩ := hq i hi
      rw [addr_add5] at c0 c1 c2 c3 c4
      rw [addr_add5] at c1 c2 c3 c4
      exact ⟨c0, c1, c2, c3, c4⟩
    · obtain ⟨i, hi, rfl⟩ := List.mem_map.1 hr
      have := hq i (List.mem_range.1 hi)
      exact ⟨this.2.2.2.2.2.1, this.2.2.2.2.2.2.1⟩
    · obtain ⟨i, hi, rfl⟩ := List.mem_map.1 hr
      exact (hq i (List.mem_range.1 hi)).2.2.2.2.2.2.2
    · have e : ((List.range len).map D).length = len := by simp
      have : len * 64 ≤ reachBytes := Nat.le_trans (Nat.mul_le_mul_right 64 (by rw [e]; omega)) w1
      exact Nat.le_trans this (by decide)
end
end Go.Proofs.YtipmlcdnfaobiaaGreat
namespace Go.Proofs.YtipmlcdnfaobiaaGreat
open Go.ChangeShapes Go.WideShapes Go.ChangeAt Go.RowKit

theorem VCMet.own : ownKnob Tryz.prog.godebug = none := by kernel_rfl
theorem VCMet.laidOut : laidOutB Tryz.prog = true := by kernel_rfl
theorem VCMet.args {v0 v1 v2 : Value} {args : Array Value} {l0 l1 : List Value} (h0 : args.toList = v0 :: l0) (h1 : l0 = v1 :: l1) (h2 : l1 = v2 :: []) : args = #[v0, v1, v2] := by
  subst h1 h2
  obtain ⟨a⟩ := args
  simp only at h0
  rw [h0]

set_option maxRecDepth 100000 in
theorem VCMet.lifted (os : Os) (started : os.Started) (H : Type) (enc : TypeId × Value → H) :
    ReturnsInHanded {} Tryz.checked os 4 .any (Rows.fibMeetsSpec.pre6 enc Tryz.prog Tryz.f4 Rows.fibMeetsRow.domain false) (Rows.fibMeetsSpec.post enc Tryz.prog Tryz.f4 false true false false) := by
  refine returnsInHanded_of_change_sized (C := Tryz.checked) VCMet.own started (by kernel_rfl) Tryz.func4
    (ChangeSpec.witness6 (enc := enc) (C := Tryz.checked) false ⟨#[], #[.int .i64 0, .slice none 0 0, .slice none 0 0], []⟩ 8 (by kernel_rfl) (by kernel_rfl) (by kernel_rfl) (by kernel_rfl)) ?_
  intro W base args ds gs before hval0 hW hcnd hsz _
  have hval : ∀ (j : Nat) t v, Tryz.f4.params[j]? = some t → args[j]? = some v → Value.okWide Tryz.prog W .any base t v := hval0
  have hW' := hW
  obtain ⟨p, q, hA0, hV, rfl, hfz, hnd⟩ := hW
  have hA : DataW.TrodAll enc Tryz.prog W 0 (fun _ => true) true Tryz.f4.params.toList args.toList ds p := hA0
  rw [Tryz.params4] at hA hval
  obtain ⟨v0, vs0, d0, ds0, p0, q0, hargs0, rfl, rfl, h0, r0⟩ := trodAll_cons hA
  obtain ⟨v1, vs1, d1, ds1, p1, q1, hargs1, rfl, rfl, h1, r1⟩ := trodAll_cons r0
  obtain ⟨v2, vs2, d2, ds2, p2, q2, hargs2, rfl, rfl, h2, r2⟩ := trodAll_cons r1
  obtain ⟨rfl, rfl, rfl⟩ := trodAll_nil r2
  obtain rfl := VCMet.args hargs0 hargs1 hargs2
  obtain ⟨rfl, rfl⟩ := trodVars_none hV
  obtain ⟨a0, rfl, rfl, rfl, w0⟩ := open_int Tryz.underlying3 (hval 0 3 v0 rfl rfl) h0
  obtain ⟨a1, len1, cap1, rfl⟩ := okWide_slice Tryz.underlying22 (hval 1 22 v1 rfl rfl)
  have k1 := h1
  have lt1 : ∀ x ∈ p1, x.block < W.heap.size := by obtain ⟨m, hm⟩ := k1; exact DataW.trod_lt m _ _ _ hm
  have hwt1 : ∀ k ∈ d1.weights Tryz.prog 22, k ≤ reachBytes := fun k hk => of_decide_eq_true (List.all_eq_true.1 hsz k (DataW.weights_mem_each (j := 1) (t := 22) (d := d1) (by rw [Tryz.params4]; rfl) rfl k hk))
  obtain ⟨cs1, hc1, hcl1, hcc1, hcs1, hc641⟩ : ∃ cs : List (Int × Raw × Value), ChIn W a1 cs ∧ cs.length = len1 ∧ len1 ≤ cap1 ∧ (∀ u ∈ cs, Small u.2.1.mat u.2.1.ports) ∧ len1 * 64 ≤ 140737488355328 := by
    obtain ⟨fuel, hf⟩ := h1
    exact open_changes hf hwt1
  obtain ⟨a2, len2, cap2, rfl⟩ := okWide_slice Tryz.underlying39 (hval 2 39 v2 rfl rfl)
  have k2 := h2
  have lt2 : ∀ x ∈ p2, x.block < W.heap.size := by obtain ⟨m, hm⟩ := k2; exact DataW.trod_lt m _ _ _ hm
  have hwt2 : ∀ k ∈ d2.weights Tryz.prog 39, k ≤ reachBytes := fun k hk => of_decide_eq_true (List.all_eq_true.1 hsz k (DataW.weights_mem_each (j := 2) (t := 39) (d := d2) (by rw [Tryz.params4]; rfl) rfl k hk))
  obtain ⟨ts2, ht2, hl2, hm2, hs2⟩ : ∃ ts : List (List UInt8), Txs W (.slice a2 len2 cap2) ts ∧ ts.length = len2 ∧ (∀ x ∈ ts, x.length ≤ maxLen) ∧ len2 * 16 ≤ 140737488355328 := by
    obtain ⟨fuel, hf⟩ := h2
    obtain ⟨ts, g1, g2, g3, g4⟩ := open_texts_sV hf hwt2
    have e : ts.length = len2 := by
      obtain ⟨ao, c, e, _⟩ := g1
      injection e with _ e2 _
      exact e2.symm
    exact ⟨ts, g1, e, g2, by rw [← e]; exact Nat.le_trans g3 (by decide)⟩
  simp only [List.append_nil] at hW'
  clear hA0 hval0
  refine (fmeets_any hc1 hcl1 hcc1 hcs1 hc641 ht2 hl2 hm2 hs2).mono fun e W' ⟨he, bel⟩ => ?_
  subst he
  exact ⟨_, rfl, _, _, _, [], _, [], hW', trodAll_mk1 (shut_bool Tryz.underlying4 _), (trodAll_cons_mk (shut_int Tryz.underlying3 w0) (trodAll_cons_mk (Below.trod VCMet.laidOut (by kernel_rfl) (of_decide_eq_true (by kernel_rfl)) k1 bel lt1) (trodAll_cons_mk (Below.trod VCMet.laidOut (by kernel_rfl) (of_decide_eq_true (by kernel_rfl)) k2 bel lt2) trodAll_mk0))), rfl, bel.frame _, fun h => by cases h⟩

theorem FibMeets_holds : Rows.FibMeetsSaid :=
  OpenClaim.holds_of_wide 4 Tryz.f4 rfl rfl rfl rfl rfl rfl rfl ⟨rfl, rfl, rfl, rfl, rfl⟩ rfl rfl rfl rfl rfl (by kernel_rfl) Tryz.func4 (by kernel_rfl)
    (of_decide_eq_true (by kernel_rfl)) (by unfold Func.isWrapper; first | (rw [if_pos (by decide +kernel)]; kernel_rfl) | (rw [if_neg (by decide +kernel)]; exact ⟨rfl, rfl⟩))
    (fun os started H enc _ => VCMet.lifted os started H enc)
#print axioms FibMeets_holds
end Go.Proofs.YtipmlcdnfaobiaaGreat
