/-
  Proved: for every two expressions and every path the law RegexMeans answers true (once or more is once and any number, once or not is once or the empty path, any number of two is any number of both in turn), and leaves its arguments as they were. Conditions: the tables of Go's library and of the program start as the program's text lays them (the card's tie); none on the arguments.
  A path that came in as an argument, opened: a slice of structs with a slice of texts inside.
  The law RegexMeans answers true.
-/
import Derived.Test.YtnmmfbhmfcabhaaGreatDoorZJoinedAnd
import Derived.Deep.RegionHeld3
import Derived.Test.YtnmmfbhmfcabhaaGreatDoorZAwakeAnd
import Derived.Test.YtnmmfbhmfcabhaaGreatDoorZTakeAnd
import Derived.Test.YtnmmfbhmfcabhaaGreatDoorRows
import Derived.Test.YtnmmfbhmfcabhaaGreatDoorCards
import Derived.Test.YtnmmfbhmfcabhaaGreatDoorTie
import Derived.WalkKit
import Derived.ProofKit
import Derived.OpenShut
import Derived.ShutString
import Derived.Lay
import Derived.LaidOnce
import Derived.SevenTiedAt
import Derived.LaidSub
import Derived.MakeChecks
namespace Go.Proofs.YtnmmfbhmfcabhaaGreatDoor
open Go.RowKit

set_option maxRecDepth 20000 in
set_option maxHeartbeats 2000000 in
theorem means_any {w : World} {vr vs vp : Value} {r s : Rx} {ps : Whos} (hR : RxS w vr r.kids) (hS : RxS w vs s.kids) (fR : r.Fit) (fS : s.Fit) (hP : PathAt w vp ps) (hc : ∃ ao cap, vp = .slice ao ps.length cap ∧ ps.length ≤ cap) (hn : ps.length ≤ maxLen) (hAw : Awake9) :
    Calls Tryz.prog 6 #[.agg #[.int .i64 r.op, .string (tx r.name), vr], .agg #[.int .i64 s.op, .string (tx s.name), vs], vp] w fun e w' => e = .returned (.bool true) ∧ Below w.heap.size w w' := by
  have HPA := hid (fun (W : World) (hb : Below w.heap.size w W) => path9_any (hP.on hb) hc hn)
  have HCR := hid (fun (W : World) (hb : Below w.heap.size w W) => RCheck_any (r := r) (hR.on hb) fR)
  have HCS := hid (fun (W : World) (hb : Below w.heap.size w W) => RCheck_any (r := s) (hS.on hb) fS)
  have HAw := hid hAw
  unfold Awake9 at HAw
  obtain ⟨ao, cap, rfl, -⟩ := hR.at
  obtain ⟨bo, cbp, rfl, -⟩ := hS.at
  obtain ⟨po, pcap, rfl⟩ := hP.cut
  obtain ⟨kn, hkn⟩ : ∃ kn, kn = r.kids.length := ⟨_, rfl⟩
  obtain ⟨km, hkm⟩ : ∃ km, km = s.kids.length := ⟨_, rfl⟩
  rw [← hkn] at HCR ⊢
  rw [← hkm] at HCS ⊢
  obtain ⟨pn, hpn⟩ : ∃ pn, pn = ps.length := ⟨_, rfl⟩
  rw [← hpn] at HPA ⊢
  have BA := hid (show boxed w r (.slice ao kn cap) ((w.alloc (rxo r.op r.name (.slice ao kn cap))).alloc (rxo s.op s.name (.slice bo km cbp))) from (boxed.start w r (.slice ao kn cap)).alloc (by simp) _)
  have BB := hid (show boxed (w.alloc (rxo r.op r.name (.slice ao kn cap))) s (.slice bo km cbp) ((w.alloc (rxo r.op r.name (.slice ao kn cap))).alloc (rxo s.op s.name (.slice bo km cbp))) from boxed.start _ _ _)
  obtain ⟨cr, hcr⟩ : ∃ c, c = chkN r := ⟨_, rfl⟩
  obtain ⟨cs, hcs⟩ : ∃ c, c = chkN s := ⟨_, rfl⟩
  have HCR0 := hid hcr
  have HCS0 := hid hcs
  rw [← hcr] at HCR
  rw [← hcs] at HCS
  clear hP hc hn hAw hpn hcr hcs
  have HR := hid hR
  have HS := hid hS
  have HO := hid (fun (op : Int) (W : World) (hb : Below w.heap.size w W) => one_any (r := r) (op := op) (hR.on hb))
  have HOS := hid (fun (op : Int) (W : World) (hb : Below w.heap.size w W) => one_any (r := s) (op := op) (hS.on hb))
  have HKN := hid hkn
  have HKM := hid hkm
  rw [← hkn] at HO
  rw [← hkm] at HOS
  clear hR hS hkn hkm
  go_enter Tryz.func6, Tryz.ntmps6
  go_wp2_with fail
  refine (HPA.out _ BA.out.low).mono ?_
  rintro en w1 ⟨pu, qn, pc, rfl, HP1, hb1⟩
  have B1 := hid (BA.out.on hb1.out)
  have B2 := hid (BB.out.on hb1.out)
  clear hb1
  obtain ⟨c0, c1, c2⟩ := B1.out.cells
  obtain ⟨d0, d1, d2⟩ := B2.out.cells
  simp only [World.size_alloc] at d0 d1 d2
  go_wp2_with fail
  refine (HCR.out _ B1.out.low).mono ?_
  rintro en w2 ⟨rfl, hb2⟩
  have HP2 := hid (HP1.out.on hb2)
  have B3 := hid (B1.out.on hb2)
  have B4 := hid (B2.out.on hb2)
  clear hb2 c0 c1 c2 d0 d1 d2 HP1 B1 B2 BA BB
  obtain ⟨c0, c1, c2⟩ := B3.out.cells
  obtain ⟨d0, d1, d2⟩ := B4.out.cells
  simp only [World.size_alloc] at d0 d1 d2
  by_cases h1 : cr = 0
  · subst h1
    go_wp2_with fail
    refine (HCS.out _ B3.out.low).mono ?_
    rintro en w3 ⟨rfl, hb3⟩
    have HP3 := hid (HP2.out.on hb3)
    have B5 := hid (B3.out.on hb3)
    have B6 := hid (B4.out.on hb3)
    clear hb3 c0 c1 c2 d0 d1 d2 HP2 B3 B4
    obtain ⟨c0, c1, c2⟩ := B5.out.cells
    obtain ⟨d0, d1, d2⟩ := B6.out.cells
    simp only [World.size_alloc] at d0 d1 d2
    by_cases h2 : cs = 0
    · subst h2
      go_wp2_with fail
      refine (HO.out 6 _ B5.out.low).mono ?_
      rintro en w4 ⟨u4, n4, c4, rfl, X4, hb4⟩
      have HP4 := hid (HP3.out.on hb4.out)
      have B7 := hid (B5.out.on hb4.out)
      have B8 := hid (B6.out.on hb4.out)
      clear hb4 c0 c1 c2 d0 d1 d2 HP3 B5 B6
      obtain ⟨c0, c1, c2⟩ := B7.out.cells
      obtain ⟨d0, d1, d2⟩ := B8.out.cells
      simp only [World.size_alloc] at d0 d1 d2
      go_wp2_with fail
      obtain ⟨A, hA⟩ : ∃ A, A = oneR 6 r := ⟨_, rfl⟩
      have HAE := hid hA
      rw [← hA] at X4 ⊢
      clear hA
      generalize hwA : w4.alloc (Obj.cells #[.int .i64 A.op, .string (tx A.name), .slice u4 n4 c4] 25) = wA
      have BA4 := hid (show Below w4.heap.size w4 wA by rw [← hwA]; exact (Below.refl _ _).alloc (Nat.le_refl _) _)
      have BAX := hid (show boxed w4 A (.slice u4 n4 c4) wA by rw [← hwA]; exact boxed.start _ _ _)
      have HPW := hid (fun (W : World) (hb : Below wA.heap.size wA W) => HP4.out.on (BA4.out.trans (hb.mono BA4.out.size)))
      have B9 := hid (B7.out.on BA4.out)
      have B10 := hid (B8.out.on BA4.out)
      clear c0 c1 c2 d0 d1 d2 hwA B7 B8 HP4
      have HH := hid (fun (W : World) (hb : Below wA.heap.size wA W) => (by
        obtain ⟨c0, c1, c2⟩ := (B9.out.on hb).cells
        obtain ⟨d0, d1, d2⟩ := (B10.out.on hb).cells
        obtain ⟨e0, e1, e2⟩ := (BAX.out.on hb).cells
        rw [World.size_alloc] at d0 d1 d2
        exact ⟨⟨c0, c1, c2⟩, ⟨d0, d1, d2⟩, e0, e1, e2⟩ : (W.cell? ⟨w.heap.size, 0, none⟩ = some (.int .i64 r.op) ∧ W.cell? ⟨w.heap.size, 1, none⟩ = some (.string (tx r.name)) ∧ W.cell? ⟨w.heap.size, 2, none⟩ = some (.slice ao kn cap)) ∧ (W.cell? ⟨w.heap.size + 1, 0, none⟩ = some (.int .i64 s.op) ∧ W.cell? ⟨w.heap.size + 1, 1, none⟩ = some (.string (tx s.name)) ∧ W.cell? ⟨w.heap.size + 1, 2, none⟩ = some (.slice bo km cbp)) ∧ W.cell? ⟨w4.heap.size, 0, none⟩ = some (.int .i64 A.op) ∧ W.cell? ⟨w4.heap.size, 1, none⟩ = some (.string (tx A.name)) ∧ W.cell? ⟨w4.heap.size, 2, none⟩ = some (.slice u4 n4 c4)))
      have LA := hid (show Below w.heap.size w wA from B9.out.low)
      have XR := hid (fun (W : World) (hb : Below wA.heap.size wA W) => (by
        have := HR.out.on (LA.out.trans (hb.mono LA.out.size))
        rw [← HKN.out] at this
        exact this : RxS W (.slice ao kn cap) r.kids))
      have XS := hid (fun (W : World) (hb : Below wA.heap.size wA W) => (by
        have := HS.out.on (LA.out.trans (hb.mono LA.out.size))
        rw [← HKM.out] at this
        exact this : RxS W (.slice bo km cbp) s.kids))
      have XA := hid (fun (W : World) (hb : Below wA.heap.size wA W) => X4.out.on (BA4.out.trans (hb.mono BA4.out.size)))
      have hnr : r.nodes ≤ 1000 := (chk_zero HCR0.out.symm).2
      have hns : s.nodes ≤ 1000 := (chk_zero HCS0.out.symm).2
      have FA := hid (show A.Fit by rw [HAE.out]; exact oneR_fit fR)
      have hnA : A.nodes ≤ 1001 := by rw [HAE.out, Rx.nodes_kids]; show 1 + nodesL [r] ≤ _; simp [nodesL]; omega
      have hps : (ps.take 30).length ≤ 1000000 := by rw [List.length_take]; omega
      have XN := hid (fun (W : World) (_ : Below wA.heap.size wA W) => (RxS.nil none 0 : RxS W (.slice none 0 0) (Rx.mk 4 [] []).kids))
      obtain ⟨P1, hP1⟩ : ∃ P, P = oneR 7 r := ⟨_, rfl⟩
      obtain ⟨Q1, hQ1⟩ : ∃ Q, Q = jd2 4 r A := ⟨_, rfl⟩
      obtain ⟨P2, hP2⟩ : ∃ P, P = oneR 8 r := ⟨_, rfl⟩
      obtain ⟨Q2, hQ2⟩ : ∃ Q, Q = jd2 5 r (.mk 4 [] []) := ⟨_, rfl⟩
      obtain ⟨G, hG⟩ : ∃ Q, Q = jd2 5 r s := ⟨_, rfl⟩
      obtain ⟨E, hE⟩ : ∃ Q, Q = oneR 6 G := ⟨_, rfl⟩
      obtain ⟨T, hT⟩ : ∃ Q, Q = oneR 6 s := ⟨_, rfl⟩
      obtain ⟨U, hU⟩ : ∃ Q, Q = jd2 4 A T := ⟨_, rfl⟩
      obtain ⟨Z, hZ⟩ : ∃ Q, Q = oneR 6 U := ⟨_, rfl⟩
      have HEP1 := hid hP1
      have HEQ1 := hid hQ1
      have HEP2 := hid hP2
      have HEQ2 := hid hQ2
      have HEG := hid hG
      have HEE := hid hE
      have HET := hid hT
      have HEU := hid hU
      have HEZ := hid hZ
      have FN4 : (Rx.mk 4 [] []).Fit := Rx.Fit.mk (by simp [Rx.name]) fun k hk => absurd hk (by simp [Rx.kids])
      have FP1 := hid (show P1.Fit by rw [hP1]; exact oneR_fit fR)
      have FQ1 := hid (show Q1.Fit by rw [hQ1]; exact jdN_fit (two_fit fR FA.out))
      have FP2 := hid (show P2.Fit by rw [hP2]; exact oneR_fit fR)
      have FQ2 := hid (show Q2.Fit by rw [hQ2]; exact jdN_fit (two_fit fR FN4))
      have FE := hid (show E.Fit by rw [hE, hG]; exact oneR_fit (jdN_fit (two_fit fR fS)))
      have FZ := hid (show Z.Fit by rw [hZ, hU, hT]; exact oneR_fit (jdN_fit (two_fit FA.out (oneR_fit fS))))
      have HQ1 := hid (show ∀ q, P1.L q ↔ Q1.L q by rw [hP1, hQ1, HAE.out]; exact means_plus r)
      have HQ2 := hid (show ∀ q, P2.L q ↔ Q2.L q by rw [hP2, hQ2]; exact means_opt r)
      have HQ3 := hid (show ∀ q, E.L q ↔ Z.L q by rw [hE, hG, hZ, hU, hT, HAE.out]; exact means_star r s)
      have hnT : T.nodes ≤ 1001 := by rw [hT, Rx.nodes_kids]; show 1 + nodesL [s] ≤ _; simp [nodesL]; omega
      have hn4 : (Rx.mk 4 [] []).nodes = 1 := by rw [Rx.nodes_kids]; rfl
      have HN1 := hid (show r.nodes + A.nodes ≤ 1000000 by omega)
      have HN2 := hid (show r.nodes + (Rx.mk 4 [] []).nodes ≤ 1000000 by omega)
      have HN3 := hid (show r.nodes + s.nodes ≤ 1000000 by omega)
      have HN4 := hid (show A.nodes + T.nodes ≤ 1000000 by omega)
      clear hnr hns hnA hnT hn4 hP1 hQ1 hP2 hQ2 hG hE hT hU hZ FN4
      have HO1 := hid (fun (W : World) (hb : Below wA.heap.size wA W) => mOne (Hd := fun W => (W.cell? ⟨w.heap.size, 0, none⟩ = some (.int .i64 r.op) ∧ W.cell? ⟨w.heap.size, 1, none⟩ = some (.string (tx r.name)) ∧ W.cell? ⟨w.heap.size, 2, none⟩ = some (.slice ao kn cap)) ∧ (W.cell? ⟨w.heap.size + 1, 0, none⟩ = some (.int .i64 s.op) ∧ W.cell? ⟨w.heap.size + 1, 1, none⟩ = some (.string (tx s.name)) ∧ W.cell? ⟨w.heap.size + 1, 2, none⟩ = some (.slice bo km cbp)) ∧ W.cell? ⟨w4.heap.size, 0, none⟩ = some (.int .i64 A.op) ∧ W.cell? ⟨w4.heap.size, 1, none⟩ = some (.string (tx A.name)) ∧ W.cell? ⟨w4.heap.size, 2, none⟩ = some (.slice u4 n4 c4)) HH.out hb (XR.out W hb) 7 HEP1.out)
      have HJ1a := hid (fun (V : World) (hV : Below wA.heap.size wA V) (w5 : World) (l5 : Below V.drew.heap.size V.drew w5) => mJoin_a (Hd := fun W => (W.cell? ⟨w.heap.size, 0, none⟩ = some (.int .i64 r.op) ∧ W.cell? ⟨w.heap.size, 1, none⟩ = some (.string (tx r.name)) ∧ W.cell? ⟨w.heap.size, 2, none⟩ = some (.slice ao kn cap)) ∧ (W.cell? ⟨w.heap.size + 1, 0, none⟩ = some (.int .i64 s.op) ∧ W.cell? ⟨w.heap.size + 1, 1, none⟩ = some (.string (tx s.name)) ∧ W.cell? ⟨w.heap.size + 1, 2, none⟩ = some (.slice bo km cbp)) ∧ W.cell? ⟨w4.heap.size, 0, none⟩ = some (.int .i64 A.op) ∧ W.cell? ⟨w4.heap.size, 1, none⟩ = some (.string (tx A.name)) ∧ W.cell? ⟨w4.heap.size, 2, none⟩ = some (.slice u4 n4 c4)) HH.out (x := r) (y := A) 4 (hV.drew.trans (l5.mono hV.size)) XR.out XA.out HN1.out HEQ1.out)
      have HJ1b := hid (fun (V : World) (hV : Below wA.heap.size wA V) (w5 : World) (l5 : Below (V.drew.alloc (Obj.cells #[.int .i64 r.op, .string (tx r.name), .slice ao kn cap, .int .i64 A.op, .string (tx A.name), .slice u4 n4 c4] 25)).heap.size (V.drew.alloc (Obj.cells #[.int .i64 r.op, .string (tx r.name), .slice ao kn cap, .int .i64 A.op, .string (tx A.name), .slice u4 n4 c4] 25)) w5) => mJoin_b (Hd := fun W => (W.cell? ⟨w.heap.size, 0, none⟩ = some (.int .i64 r.op) ∧ W.cell? ⟨w.heap.size, 1, none⟩ = some (.string (tx r.name)) ∧ W.cell? ⟨w.heap.size, 2, none⟩ = some (.slice ao kn cap)) ∧ (W.cell? ⟨w.heap.size + 1, 0, none⟩ = some (.int .i64 s.op) ∧ W.cell? ⟨w.heap.size + 1, 1, none⟩ = some (.string (tx s.name)) ∧ W.cell? ⟨w.heap.size + 1, 2, none⟩ = some (.slice bo km cbp)) ∧ W.cell? ⟨w4.heap.size, 0, none⟩ = some (.int .i64 A.op) ∧ W.cell? ⟨w4.heap.size, 1, none⟩ = some (.string (tx A.name)) ∧ W.cell? ⟨w4.heap.size, 2, none⟩ = some (.slice u4 n4 c4)) HH.out (x := r) (y := A) 4 hV l5 XR.out XA.out HN1.out HEQ1.out)
      have HL1 := hid (fun (W : World) (hb : Below wA.heap.size wA W) (u5 u6 : Option Addr) (n5 c5 n6 c6 : Nat) (x5 : RxS W (.slice u5 n5 c5) P1.kids) (x6 : RxS W (.slice u6 n6 c6) Q1.kids) => mAlike (Hd := fun W => (W.cell? ⟨w.heap.size, 0, none⟩ = some (.int .i64 r.op) ∧ W.cell? ⟨w.heap.size, 1, none⟩ = some (.string (tx r.name)) ∧ W.cell? ⟨w.heap.size, 2, none⟩ = some (.slice ao kn cap)) ∧ (W.cell? ⟨w.heap.size + 1, 0, none⟩ = some (.int .i64 s.op) ∧ W.cell? ⟨w.heap.size + 1, 1, none⟩ = some (.string (tx s.name)) ∧ W.cell? ⟨w.heap.size + 1, 2, none⟩ = some (.slice bo km cbp)) ∧ W.cell? ⟨w4.heap.size, 0, none⟩ = some (.int .i64 A.op) ∧ W.cell? ⟨w4.heap.size, 1, none⟩ = some (.string (tx A.name)) ∧ W.cell? ⟨w4.heap.size, 2, none⟩ = some (.slice u4 n4 c4)) HH.out hb FP1.out FQ1.out HQ1.out (HPW.out W hb) hps x5 x6)
      have HO2 := hid (fun (W : World) (hb : Below wA.heap.size wA W) => mOne (Hd := fun W => (W.cell? ⟨w.heap.size, 0, none⟩ = some (.int .i64 r.op) ∧ W.cell? ⟨w.heap.size, 1, none⟩ = some (.string (tx r.name)) ∧ W.cell? ⟨w.heap.size, 2, none⟩ = some (.slice ao kn cap)) ∧ (W.cell? ⟨w.heap.size + 1, 0, none⟩ = some (.int .i64 s.op) ∧ W.cell? ⟨w.heap.size + 1, 1, none⟩ = some (.string (tx s.name)) ∧ W.cell? ⟨w.heap.size + 1, 2, none⟩ = some (.slice bo km cbp)) ∧ W.cell? ⟨w4.heap.size, 0, none⟩ = some (.int .i64 A.op) ∧ W.cell? ⟨w4.heap.size, 1, none⟩ = some (.string (tx A.name)) ∧ W.cell? ⟨w4.heap.size, 2, none⟩ = some (.slice u4 n4 c4)) HH.out hb (XR.out W hb) 8 HEP2.out)
      have HJ2a := hid (fun (V : World) (hV : Below wA.heap.size wA V) (w5 : World) (l5 : Below V.drew.heap.size V.drew w5) => mJoin_a (Hd := fun W => (W.cell? ⟨w.heap.size, 0, none⟩ = some (.int .i64 r.op) ∧ W.cell? ⟨w.heap.size, 1, none⟩ = some (.string (tx r.name)) ∧ W.cell? ⟨w.heap.size, 2, none⟩ = some (.slice ao kn cap)) ∧ (W.cell? ⟨w.heap.size + 1, 0, none⟩ = some (.int .i64 s.op) ∧ W.cell? ⟨w.heap.size + 1, 1, none⟩ = some (.string (tx s.name)) ∧ W.cell? ⟨w.heap.size + 1, 2, none⟩ = some (.slice bo km cbp)) ∧ W.cell? ⟨w4.heap.size, 0, none⟩ = some (.int .i64 A.op) ∧ W.cell? ⟨w4.heap.size, 1, none⟩ = some (.string (tx A.name)) ∧ W.cell? ⟨w4.heap.size, 2, none⟩ = some (.slice u4 n4 c4)) HH.out (x := r) (y := .mk 4 [] []) 5 (hV.drew.trans (l5.mono hV.size)) XR.out XN.out HN2.out HEQ2.out)
      have HJ2b := hid (fun (V : World) (hV : Below wA.heap.size wA V) (w5 : World) (l5 : Below (V.drew.alloc (Obj.cells #[.int .i64 r.op, .string (tx r.name), .slice ao kn cap, .int .i64 (Rx.mk 4 [] []).op, .string (tx (Rx.mk 4 [] []).name), .slice none 0 0] 25)).heap.size (V.drew.alloc (Obj.cells #[.int .i64 r.op, .string (tx r.name), .slice ao kn cap, .int .i64 (Rx.mk 4 [] []).op, .string (tx (Rx.mk 4 [] []).name), .slice none 0 0] 25)) w5) => mJoin_b (Hd := fun W => (W.cell? ⟨w.heap.size, 0, none⟩ = some (.int .i64 r.op) ∧ W.cell? ⟨w.heap.size, 1, none⟩ = some (.string (tx r.name)) ∧ W.cell? ⟨w.heap.size, 2, none⟩ = some (.slice ao kn cap)) ∧ (W.cell? ⟨w.heap.size + 1, 0, none⟩ = some (.int .i64 s.op) ∧ W.cell? ⟨w.heap.size + 1, 1, none⟩ = some (.string (tx s.name)) ∧ W.cell? ⟨w.heap.size + 1, 2, none⟩ = some (.slice bo km cbp)) ∧ W.cell? ⟨w4.heap.size, 0, none⟩ = some (.int .i64 A.op) ∧ W.cell? ⟨w4.heap.size, 1, none⟩ = some (.string (tx A.name)) ∧ W.cell? ⟨w4.heap.size, 2, none⟩ = some (.slice u4 n4 c4)) HH.out (x := r) (y := .mk 4 [] []) 5 hV l5 XR.out XN.out HN2.out HEQ2.out)
      have HL2 := hid (fun (W : World) (hb : Below wA.heap.size wA W) (u5 u6 : Option Addr) (n5 c5 n6 c6 : Nat) (x5 : RxS W (.slice u5 n5 c5) P2.kids) (x6 : RxS W (.slice u6 n6 c6) Q2.kids) => mAlike (Hd := fun W => (W.cell? ⟨w.heap.size, 0, none⟩ = some (.int .i64 r.op) ∧ W.cell? ⟨w.heap.size, 1, none⟩ = some (.string (tx r.name)) ∧ W.cell? ⟨w.heap.size, 2, none⟩ = some (.slice ao kn cap)) ∧ (W.cell? ⟨w.heap.size + 1, 0, none⟩ = some (.int .i64 s.op) ∧ W.cell? ⟨w.heap.size + 1, 1, none⟩ = some (.string (tx s.name)) ∧ W.cell? ⟨w.heap.size + 1, 2, none⟩ = some (.slice bo km cbp)) ∧ W.cell? ⟨w4.heap.size, 0, none⟩ = some (.int .i64 A.op) ∧ W.cell? ⟨w4.heap.size, 1, none⟩ = some (.string (tx A.name)) ∧ W.cell? ⟨w4.heap.size, 2, none⟩ = some (.slice u4 n4 c4)) HH.out hb FP2.out FQ2.out HQ2.out (HPW.out W hb) hps x5 x6)
      have HJ3 := hid (fun (W : World) (hb : Below wA.heap.size wA W) => mJoin_a (Hd := fun W => (W.cell? ⟨w.heap.size, 0, none⟩ = some (.int .i64 r.op) ∧ W.cell? ⟨w.heap.size, 1, none⟩ = some (.string (tx r.name)) ∧ W.cell? ⟨w.heap.size, 2, none⟩ = some (.slice ao kn cap)) ∧ (W.cell? ⟨w.heap.size + 1, 0, none⟩ = some (.int .i64 s.op) ∧ W.cell? ⟨w.heap.size + 1, 1, none⟩ = some (.string (tx s.name)) ∧ W.cell? ⟨w.heap.size + 1, 2, none⟩ = some (.slice bo km cbp)) ∧ W.cell? ⟨w4.heap.size, 0, none⟩ = some (.int .i64 A.op) ∧ W.cell? ⟨w4.heap.size, 1, none⟩ = some (.string (tx A.name)) ∧ W.cell? ⟨w4.heap.size, 2, none⟩ = some (.slice u4 n4 c4)) HH.out (w5 := W) (x := r) (y := s) 5 hb XR.out XS.out HN3.out HEG.out)
      have HO3 := hid (fun (W : World) (hb : Below wA.heap.size wA W) (v : Value) (hx : RxS W v G.kids) => mOne (Hd := fun W => (W.cell? ⟨w.heap.size, 0, none⟩ = some (.int .i64 r.op) ∧ W.cell? ⟨w.heap.size, 1, none⟩ = some (.string (tx r.name)) ∧ W.cell? ⟨w.heap.size, 2, none⟩ = some (.slice ao kn cap)) ∧ (W.cell? ⟨w.heap.size + 1, 0, none⟩ = some (.int .i64 s.op) ∧ W.cell? ⟨w.heap.size + 1, 1, none⟩ = some (.string (tx s.name)) ∧ W.cell? ⟨w.heap.size + 1, 2, none⟩ = some (.slice bo km cbp)) ∧ W.cell? ⟨w4.heap.size, 0, none⟩ = some (.int .i64 A.op) ∧ W.cell? ⟨w4.heap.size, 1, none⟩ = some (.string (tx A.name)) ∧ W.cell? ⟨w4.heap.size, 2, none⟩ = some (.slice u4 n4 c4)) HH.out hb hx 6 HEE.out)
      have LB1 := hid (Below.refl wA.heap.size wA)
      have LV1 := hid (show Below wA.heap.size wA wA.drew from (Below.refl _ _).drew)
      have LW1 := hid (show Below wA.heap.size wA (wA.drew.alloc (Obj.cells #[.int .i64 r.op, .string (tx r.name), .slice ao kn cap, .int .i64 A.op, .string (tx A.name), .slice u4 n4 c4] 25)) from ((Below.refl wA.heap.size wA).drew).alloc (Nat.le_refl _) _)
      obtain ⟨⟨c0, c1, c2⟩, ⟨d0, d1, d2⟩, e0, e1, e2⟩ := HH.out wA (Below.refl _ _)
      go_region_held3 (fun W => (W.cell? ⟨w.heap.size, 0, none⟩ = some (.int .i64 r.op) ∧ W.cell? ⟨w.heap.size, 1, none⟩ = some (.string (tx r.name)) ∧ W.cell? ⟨w.heap.size, 2, none⟩ = some (.slice ao kn cap)) ∧ (W.cell? ⟨w.heap.size + 1, 0, none⟩ = some (.int .i64 s.op) ∧ W.cell? ⟨w.heap.size + 1, 1, none⟩ = some (.string (tx s.name)) ∧ W.cell? ⟨w.heap.size + 1, 2, none⟩ = some (.slice bo km cbp)) ∧ W.cell? ⟨w4.heap.size, 0, none⟩ = some (.int .i64 A.op) ∧ W.cell? ⟨w4.heap.size, 1, none⟩ = some (.string (tx A.name)) ∧ W.cell? ⟨w4.heap.size, 2, none⟩ = some (.slice u4 n4 c4)) (first | (go_keep; done) | exact S5 | exact S6 | exact S7) (first
        | (go_at_call 24; refine (HO1.out wA.drew LV1.out).mono ?_; rintro en w5 ⟨u5, n5, c5, rfl, S5, X5, L5, M5⟩)
        | (go_at_call 24; refine (HO1.out (wA.drew.alloc (Obj.cells #[.int .i64 r.op, .string (tx r.name), .slice ao kn cap, .int .i64 A.op, .string (tx A.name), .slice u4 n4 c4] 25)) LW1.out).mono ?_; rintro en w5 ⟨u5, n5, c5, rfl, S5, X5, L5, M5⟩)
        | (go_at_call 26; refine (HJ1a.out _ LB1.out w5 M5.out).mono ?_; rintro en w6 ⟨u6, n6, c6, rfl, S6, X6, L6, M6⟩)
        | (go_at_call 26; refine (HJ1b.out _ LB1.out w5 M5.out).mono ?_; rintro en w6 ⟨u6, n6, c6, rfl, S6, X6, L6, M6⟩)
        | (go_at_call 25; refine (HL1.out w6 L6.out u5 u6 n5 c5 n6 c6 (X5.out.on M6.out) X6.out).mono ?_; rintro en w7 ⟨rfl, S7, L7⟩))
      all_goals (
        clear c0 c1 c2 d0 d1 d2 e0 e1 e2
        obtain ⟨⟨c0, c1, c2⟩, ⟨d0, d1, d2⟩, e0, e1, e2⟩ := S7
        have LV2 := hid (show Below wA.heap.size wA w7.drew from L7.out.drew)
        have LW2 := hid (show Below wA.heap.size wA (w7.drew.alloc (Obj.cells #[.int .i64 r.op, .string (tx r.name), .slice ao kn cap, .int .i64 (Rx.mk 4 [] []).op, .string (tx (Rx.mk 4 [] []).name), .slice none 0 0] 25)) from L7.out.drew.alloc L7.out.size _)
        have LB2 := hid (show Below wA.heap.size wA w7 from L7.out)
        clear S5 S6 X5 X6 L5 L6 M5 M6 L7
        go_wp2_with fail
        go_region_held3 (fun W => (W.cell? ⟨w.heap.size, 0, none⟩ = some (.int .i64 r.op) ∧ W.cell? ⟨w.heap.size, 1, none⟩ = some (.string (tx r.name)) ∧ W.cell? ⟨w.heap.size, 2, none⟩ = some (.slice ao kn cap)) ∧ (W.cell? ⟨w.heap.size + 1, 0, none⟩ = some (.int .i64 s.op) ∧ W.cell? ⟨w.heap.size + 1, 1, none⟩ = some (.string (tx s.name)) ∧ W.cell? ⟨w.heap.size + 1, 2, none⟩ = some (.slice bo km cbp)) ∧ W.cell? ⟨w4.heap.size, 0, none⟩ = some (.int .i64 A.op) ∧ W.cell? ⟨w4.heap.size, 1, none⟩ = some (.string (tx A.name)) ∧ W.cell? ⟨w4.heap.size, 2, none⟩ = some (.slice u4 n4 c4)) (first | (go_keep; done) | exact S8 | exact S9 | exact S10) (first
        | (go_at_call 24; refine (HO2.out w7.drew LV2.out).mono ?_; rintro en w8 ⟨u8, n8, c8, rfl, S8, X8, L8, M8⟩)
        | (go_at_call 24; refine (HO2.out (w7.drew.alloc (Obj.cells #[.int .i64 r.op, .string (tx r.name), .slice ao kn cap, .int .i64 (Rx.mk 4 [] []).op, .string (tx (Rx.mk 4 [] []).name), .slice none 0 0] 25)) LW2.out).mono ?_; rintro en w8 ⟨u8, n8, c8, rfl, S8, X8, L8, M8⟩)
        | (go_at_call 26; refine (HJ2a.out _ LB2.out w8 M8.out).mono ?_; rintro en w9 ⟨u9, n9, c9, rfl, S9, X9, L9, M9⟩)
        | (go_at_call 26; refine (HJ2b.out _ LB2.out w8 M8.out).mono ?_; rintro en w9 ⟨u9, n9, c9, rfl, S9, X9, L9, M9⟩)
        | (go_at_call 25; refine (HL2.out w9 L9.out u8 u9 n8 c8 n9 c9 (X8.out.on M9.out) X9.out).mono ?_; rintro en w10 ⟨rfl, S10, L10⟩))
        all_goals (
          clear c0 c1 c2 d0 d1 d2 e0 e1 e2
          obtain ⟨⟨c0, c1, c2⟩, ⟨d0, d1, d2⟩, e0, e1, e2⟩ := S10
          clear S8 S9 X8 X9 L8 L9 M8 M9
          go_wp2_with fail
          refine (HJ3.out w10 L10.out).mono ?_
          rintro en w11 ⟨u11, n11, c11, rfl, S11, X11, L11, M11⟩
          clear c0 c1 c2 d0 d1 d2 e0 e1 e2 L10
          obtain ⟨⟨c0, c1, c2⟩, ⟨d0, d1, d2⟩, e0, e1, e2⟩ := S11
          go_wp2_with fail
          refine (HO3.out w11 L11.out _ X11.out).mono ?_
          rintro en w12 ⟨u12, n12, c12, rfl, S12, X12, L12, M12⟩
          clear c0 c1 c2 d0 d1 d2 e0 e1 e2 X11 L11 M11 M12
          obtain ⟨⟨c0, c1, c2⟩, ⟨d0, d1, d2⟩, e0, e1, e2⟩ := S12
          go_wp2_with fail
          generalize hwE : w12.alloc (Obj.cells #[.int .i64 E.op, .string (tx E.name), .slice u12 n12 c12] 25) = wE
          have BXE := hid (show boxed w12 E (.slice u12 n12 c12) wE by rw [← hwE]; exact boxed.start _ _ _)
          have LE := hid (show Below w12.heap.size w12 wE by rw [← hwE]; exact (Below.refl _ _).alloc (Nat.le_refl _) _)
          have LAE := hid (show Below wA.heap.size wA wE from L12.out.trans (LE.out.mono L12.out.size))
          clear hwE c0 c1 c2 d0 d1 d2 e0 e1 e2
          have UP := hid (fun (W : World) (hb : Below wE.heap.size wE W) => (LAE.out.trans (hb.mono LAE.out.size) : Below wA.heap.size wA W))
          have HHE := hid (fun (W : World) (hb : Below wE.heap.size wE W) => (⟨HH.out W (UP.out W hb), (BXE.out.on hb).cells⟩ : ((W.cell? ⟨w.heap.size, 0, none⟩ = some (.int .i64 r.op) ∧ W.cell? ⟨w.heap.size, 1, none⟩ = some (.string (tx r.name)) ∧ W.cell? ⟨w.heap.size, 2, none⟩ = some (.slice ao kn cap)) ∧ (W.cell? ⟨w.heap.size + 1, 0, none⟩ = some (.int .i64 s.op) ∧ W.cell? ⟨w.heap.size + 1, 1, none⟩ = some (.string (tx s.name)) ∧ W.cell? ⟨w.heap.size + 1, 2, none⟩ = some (.slice bo km cbp)) ∧ W.cell? ⟨w4.heap.size, 0, none⟩ = some (.int .i64 A.op) ∧ W.cell? ⟨w4.heap.size, 1, none⟩ = some (.string (tx A.name)) ∧ W.cell? ⟨w4.heap.size, 2, none⟩ = some (.slice u4 n4 c4)) ∧ W.cell? ⟨w12.heap.size, 0, none⟩ = some (.int .i64 E.op) ∧ W.cell? ⟨w12.heap.size, 1, none⟩ = some (.string (tx E.name)) ∧ W.cell? ⟨w12.heap.size, 2, none⟩ = some (.slice u12 n12 c12)))
          have HO4 := hid (fun (W : World) (hb : Below wE.heap.size wE W) => mOne (Hd := fun W => ((W.cell? ⟨w.heap.size, 0, none⟩ = some (.int .i64 r.op) ∧ W.cell? ⟨w.heap.size, 1, none⟩ = some (.string (tx r.name)) ∧ W.cell? ⟨w.heap.size, 2, none⟩ = some (.slice ao kn cap)) ∧ (W.cell? ⟨w.heap.size + 1, 0, none⟩ = some (.int .i64 s.op) ∧ W.cell? ⟨w.heap.size + 1, 1, none⟩ = some (.string (tx s.name)) ∧ W.cell? ⟨w.heap.size + 1, 2, none⟩ = some (.slice bo km cbp)) ∧ W.cell? ⟨w4.heap.size, 0, none⟩ = some (.int .i64 A.op) ∧ W.cell? ⟨w4.heap.size, 1, none⟩ = some (.string (tx A.name)) ∧ W.cell? ⟨w4.heap.size, 2, none⟩ = some (.slice u4 n4 c4)) ∧ W.cell? ⟨w12.heap.size, 0, none⟩ = some (.int .i64 E.op) ∧ W.cell? ⟨w12.heap.size, 1, none⟩ = some (.string (tx E.name)) ∧ W.cell? ⟨w12.heap.size, 2, none⟩ = some (.slice u12 n12 c12)) HHE.out hb (XS.out W (UP.out W hb)) 6 HET.out)
          have HJ4 := hid (fun (W : World) (hb : Below wE.heap.size wE W) (u : Option Addr) (n c : Nat) (hx : RxS W (.slice u n c) T.kids) => (by
            have hw : Below W.heap.size W (W.alloc (Obj.cells #[.int .i64 A.op, .string (tx A.name), .slice u4 n4 c4, .int .i64 T.op, .string (tx T.name), .slice u n c] 25)) := (Below.refl _ _).alloc (Nat.le_refl _) _
            have hbW : Below wE.heap.size wE (W.alloc (Obj.cells #[.int .i64 A.op, .string (tx A.name), .slice u4 n4 c4, .int .i64 T.op, .string (tx T.name), .slice u n c] 25)) := hb.trans (hw.mono hb.size)
            exact mJoin (Hd := fun W => ((W.cell? ⟨w.heap.size, 0, none⟩ = some (.int .i64 r.op) ∧ W.cell? ⟨w.heap.size, 1, none⟩ = some (.string (tx r.name)) ∧ W.cell? ⟨w.heap.size, 2, none⟩ = some (.slice ao kn cap)) ∧ (W.cell? ⟨w.heap.size + 1, 0, none⟩ = some (.int .i64 s.op) ∧ W.cell? ⟨w.heap.size + 1, 1, none⟩ = some (.string (tx s.name)) ∧ W.cell? ⟨w.heap.size + 1, 2, none⟩ = some (.slice bo km cbp)) ∧ W.cell? ⟨w4.heap.size, 0, none⟩ = some (.int .i64 A.op) ∧ W.cell? ⟨w4.heap.size, 1, none⟩ = some (.string (tx A.name)) ∧ W.cell? ⟨w4.heap.size, 2, none⟩ = some (.slice u4 n4 c4)) ∧ W.cell? ⟨w12.heap.size, 0, none⟩ = some (.int .i64 E.op) ∧ W.cell? ⟨w12.heap.size, 1, none⟩ = some (.string (tx E.name)) ∧ W.cell? ⟨w12.heap.size, 2, none⟩ = some (.slice u12 n12 c12)) HHE.out 4 hbW (new_0 _ _) (XA.out _ (UP.out _ hbW)) (hx.on hw) HN4.out HEU.out : Calls Tryz.prog 26 #[.int .i64 4, .slice (some ⟨W.heap.size, 0, none⟩) 2 2] (W.alloc (Obj.cells #[.int .i64 A.op, .string (tx A.name), .slice u4 n4 c4, .int .i64 T.op, .string (tx T.name), .slice u n c] 25)) fun e w6 => ∃ u6 n6 c6, e = .returned (.agg #[.int .i64 U.op, .string (tx U.name), .slice u6 n6 c6]) ∧ (((w6.cell? ⟨w.heap.size, 0, none⟩ = some (.int .i64 r.op) ∧ w6.cell? ⟨w.heap.size, 1, none⟩ = some (.string (tx r.name)) ∧ w6.cell? ⟨w.heap.size, 2, none⟩ = some (.slice ao kn cap)) ∧ (w6.cell? ⟨w.heap.size + 1, 0, none⟩ = some (.int .i64 s.op) ∧ w6.cell? ⟨w.heap.size + 1, 1, none⟩ = some (.string (tx s.name)) ∧ w6.cell? ⟨w.heap.size + 1, 2, none⟩ = some (.slice bo km cbp)) ∧ w6.cell? ⟨w4.heap.size, 0, none⟩ = some (.int .i64 A.op) ∧ w6.cell? ⟨w4.heap.size, 1, none⟩ = some (.string (tx A.name)) ∧ w6.cell? ⟨w4.heap.size, 2, none⟩ = some (.slice u4 n4 c4)) ∧ w6.cell? ⟨w12.heap.size, 0, none⟩ = some (.int .i64 E.op) ∧ w6.cell? ⟨w12.heap.size, 1, none⟩ = some (.string (tx E.name)) ∧ w6.cell? ⟨w12.heap.size, 2, none⟩ = some (.slice u12 n12 c12)) ∧ Hid (RxS w6 (.slice u6 n6 c6) U.kids) ∧ Hid (Below wE.heap.size wE w6) ∧ Hid (Below (W.alloc (Obj.cells #[.int .i64 A.op, .string (tx A.name), .slice u4 n4 c4, .int .i64 T.op, .string (tx T.name), .slice u n c] 25)).heap.size (W.alloc (Obj.cells #[.int .i64 A.op, .string (tx A.name), .slice u4 n4 c4, .int .i64 T.op, .string (tx T.name), .slice u n c] 25)) w6)))
          have HO5 := hid (fun (W : World) (hb : Below wE.heap.size wE W) (v : Value) (hx : RxS W v U.kids) => mOne (Hd := fun W => ((W.cell? ⟨w.heap.size, 0, none⟩ = some (.int .i64 r.op) ∧ W.cell? ⟨w.heap.size, 1, none⟩ = some (.string (tx r.name)) ∧ W.cell? ⟨w.heap.size, 2, none⟩ = some (.slice ao kn cap)) ∧ (W.cell? ⟨w.heap.size + 1, 0, none⟩ = some (.int .i64 s.op) ∧ W.cell? ⟨w.heap.size + 1, 1, none⟩ = some (.string (tx s.name)) ∧ W.cell? ⟨w.heap.size + 1, 2, none⟩ = some (.slice bo km cbp)) ∧ W.cell? ⟨w4.heap.size, 0, none⟩ = some (.int .i64 A.op) ∧ W.cell? ⟨w4.heap.size, 1, none⟩ = some (.string (tx A.name)) ∧ W.cell? ⟨w4.heap.size, 2, none⟩ = some (.slice u4 n4 c4)) ∧ W.cell? ⟨w12.heap.size, 0, none⟩ = some (.int .i64 E.op) ∧ W.cell? ⟨w12.heap.size, 1, none⟩ = some (.string (tx E.name)) ∧ W.cell? ⟨w12.heap.size, 2, none⟩ = some (.slice u12 n12 c12)) HHE.out hb hx 6 HEZ.out)
          have HL4 := hid (fun (W : World) (hb : Below wE.heap.size wE W) (v : Value) (hx : RxS W v Z.kids) => mAlike (Hd := fun W => ((W.cell? ⟨w.heap.size, 0, none⟩ = some (.int .i64 r.op) ∧ W.cell? ⟨w.heap.size, 1, none⟩ = some (.string (tx r.name)) ∧ W.cell? ⟨w.heap.size, 2, none⟩ = some (.slice ao kn cap)) ∧ (W.cell? ⟨w.heap.size + 1, 0, none⟩ = some (.int .i64 s.op) ∧ W.cell? ⟨w.heap.size + 1, 1, none⟩ = some (.string (tx s.name)) ∧ W.cell? ⟨w.heap.size + 1, 2, none⟩ = some (.slice bo km cbp)) ∧ W.cell? ⟨w4.heap.size, 0, none⟩ = some (.int .i64 A.op) ∧ W.cell? ⟨w4.heap.size, 1, none⟩ = some (.string (tx A.name)) ∧ W.cell? ⟨w4.heap.size, 2, none⟩ = some (.slice u4 n4 c4)) ∧ W.cell? ⟨w12.heap.size, 0, none⟩ = some (.int .i64 E.op) ∧ W.cell? ⟨w12.heap.size, 1, none⟩ = some (.string (tx E.name)) ∧ W.cell? ⟨w12.heap.size, 2, none⟩ = some (.slice u12 n12 c12)) HHE.out hb FE.out FZ.out HQ3.out (HPW.out W (UP.out W hb)) hps (X12.out.on (LE.out.trans (hb.mono LE.out.size))) hx)
          have HA4 := hid (fun (W : World) (hb : Below wE.heap.size wE W) => (by
            refine (HAw.out W).mono ?_
            rintro e w17 ⟨rfl, l17⟩
            exact ⟨rfl, HHE.out _ (hb.trans (l17.mono hb.size)), hb.trans (l17.mono hb.size)⟩ : Calls Tryz.prog 14 #[] W fun e w17 => e = .returned (.bool true) ∧ (((w17.cell? ⟨w.heap.size, 0, none⟩ = some (.int .i64 r.op) ∧ w17.cell? ⟨w.heap.size, 1, none⟩ = some (.string (tx r.name)) ∧ w17.cell? ⟨w.heap.size, 2, none⟩ = some (.slice ao kn cap)) ∧ (w17.cell? ⟨w.heap.size + 1, 0, none⟩ = some (.int .i64 s.op) ∧ w17.cell? ⟨w.heap.size + 1, 1, none⟩ = some (.string (tx s.name)) ∧ w17.cell? ⟨w.heap.size + 1, 2, none⟩ = some (.slice bo km cbp)) ∧ w17.cell? ⟨w4.heap.size, 0, none⟩ = some (.int .i64 A.op) ∧ w17.cell? ⟨w4.heap.size, 1, none⟩ = some (.string (tx A.name)) ∧ w17.cell? ⟨w4.heap.size, 2, none⟩ = some (.slice u4 n4 c4)) ∧ w17.cell? ⟨w12.heap.size, 0, none⟩ = some (.int .i64 E.op) ∧ w17.cell? ⟨w12.heap.size, 1, none⟩ = some (.string (tx E.name)) ∧ w17.cell? ⟨w12.heap.size, 2, none⟩ = some (.slice u12 n12 c12)) ∧ Hid (Below wE.heap.size wE w17)))
          have LD := hid (show Below wE.heap.size wE wE.drew from (Below.refl _ _).drew)
          obtain ⟨⟨⟨c0, c1, c2⟩, ⟨d0, d1, d2⟩, e0, e1, e2⟩, f0, f1, f2⟩ := HHE.out wE (Below.refl _ _)
          go_region_held3 (fun W => ((W.cell? ⟨w.heap.size, 0, none⟩ = some (.int .i64 r.op) ∧ W.cell? ⟨w.heap.size, 1, none⟩ = some (.string (tx r.name)) ∧ W.cell? ⟨w.heap.size, 2, none⟩ = some (.slice ao kn cap)) ∧ (W.cell? ⟨w.heap.size + 1, 0, none⟩ = some (.int .i64 s.op) ∧ W.cell? ⟨w.heap.size + 1, 1, none⟩ = some (.string (tx s.name)) ∧ W.cell? ⟨w.heap.size + 1, 2, none⟩ = some (.slice bo km cbp)) ∧ W.cell? ⟨w4.heap.size, 0, none⟩ = some (.int .i64 A.op) ∧ W.cell? ⟨w4.heap.size, 1, none⟩ = some (.string (tx A.name)) ∧ W.cell? ⟨w4.heap.size, 2, none⟩ = some (.slice u4 n4 c4)) ∧ W.cell? ⟨w12.heap.size, 0, none⟩ = some (.int .i64 E.op) ∧ W.cell? ⟨w12.heap.size, 1, none⟩ = some (.string (tx E.name)) ∧ W.cell? ⟨w12.heap.size, 2, none⟩ = some (.slice u12 n12 c12)) (first | (go_keep; done) | exact S13 | exact S14 | exact S15 | exact S16 | exact S17) (first
            | (go_at_call 24; refine (HO4.out wE.drew LD.out).mono ?_; rintro en w13 ⟨u13, n13, c13, rfl, S13, X13, L13, M13⟩)
            | (go_at_call 26; refine (HJ4.out w13 L13.out u13 n13 c13 X13.out).mono ?_; rintro en w14 ⟨u14, n14, c14, rfl, S14, X14, L14, M14⟩)
            | (go_at_call 24; refine (HO5.out w14 L14.out _ X14.out).mono ?_; rintro en w15 ⟨u15, n15, c15, rfl, S15, X15, L15, M15⟩)
            | (go_at_call 25; refine (HL4.out w15 L15.out _ X15.out).mono ?_; rintro en w16 ⟨rfl, S16, L16⟩)
            | (go_at_call 14; refine (HA4.out w16 L16.out).mono ?_; rintro en w17 ⟨rfl, S17, L17⟩))
          go_wp2
          exact bodyPost_ret (v := .bool true) (by simp [results, Tryz.results6, go_sem]) rfl ⟨rfl, LA.out.trans ((UP.out _ L17.out).mono LA.out.size)⟩))
    · have hI : ((cs : Int) == 0) = false := by rw [beq_eq_false_iff_ne]; omega
      go_wp2_with fail
      refine (HAw.out _).mono ?_
      rintro en w4 ⟨rfl, hb4⟩
      go_wp2
      exact bodyPost_ret (v := .bool true) (by simp [results, Tryz.results6, go_sem]) rfl ⟨rfl, (B5.out.on hb4).low⟩
  · have hI : ((cr : Int) == 0) = false := by rw [beq_eq_false_iff_ne]; omega
    go_wp2_with fail
    refine (HAw.out _).mono ?_
    rintro en w3 ⟨rfl, hb3⟩
    go_wp2
    exact bodyPost_ret (v := .bool true) (by simp [results, Tryz.results6, go_sem]) rfl ⟨rfl, (B3.out.on hb3).low⟩
end Go.Proofs.YtnmmfbhmfcabhaaGreatDoor
namespace Go.Proofs.YtnmmfbhmfcabhaaGreatDoor
open Go.ChangeShapes Go.WideShapes Go.ChangeAt Go.RowKit

section
variable {H : Type} {enc : TypeId × Value → H} {w : World} {base : Nat} {held : Bool}

/-- Texts that came in. -/
theorem open_textsX {fuel : Nat} {v : Value} {x : DataW H × List MemPlace} (h : DataW.trod enc Tryz.prog w base (fun _ => true) held fuel 47 [v] = some x) : ∃ ps : List (List UInt8), Txs w v ps ∧ ps.length ≤ maxLen := by
  rcases open_strings Tryz.underlying47 Tryz.underlying9 (by kernel_rfl) h with ⟨hcs, _⟩ | ⟨a, len, cap, ss, hcs, _, hl, hm, hz, _, hcell, hws⟩
  · simp only [List.cons.injEq, and_true] at hcs
    exact ⟨[], by rw [hcs]; exact Txs.nil _ _ _, by simp⟩
  · simp only [List.cons.injEq, and_true] at hcs
    simp only [if_true] at hz
    have hlen : ((ss.take len).map (fun s => s.data.toList)).length = len := by rw [List.length_map, List.length_take]; omega
    refine ⟨(ss.take len).map (fun s => s.data.toList), ?_, by rw [hlen]; omega⟩
    refine ⟨some a, cap, by rw [hlen, hcs], ?_⟩
    by_cases h0 : len = 0
    · exact Or.inl (by rw [h0]; simp)
    · obtain ⟨⟨g, o, rfl⟩, hb⟩ := addrOfX (hcell 0 (by omega))
      refine Or.inr ⟨g, o, rfl, hb, fun i hi => ?_⟩
      rw [hlen] at hi
      have := hcell i (by omega)
      rw [addrAddX] at this
      rw [this]
      have hi2 : i < ss.length := by omega
      simp [List.getD_eq_getElem?_getD, List.getElem?_map, hi, List.getElem?_eq_getElem hi2]

set_option maxRecDepth 100000 in
theorem open_who {fuel : Nat} {cs : List Value} {x : DataW H × List MemPlace} (h : DataW.trod enc Tryz.prog w base (fun _ => true) held fuel 66 cs = some x) :
    ∃ (p : List UInt8 × List (List UInt8)) (v : Value), cs = [.string (tx p.1), v] ∧ Txs w v p.2 ∧ p.2.length ≤ maxLen := by
  obtain ⟨fs, hfs, hl⟩ := structOfX (P := Tryz.prog) (t := 66) (l := [(9, 0), (47, 1)]) (by kernel_rfl)
  obtain ⟨xs, n, _, _, hlen, hxl, hf⟩ := DataW.trod_struct hfs h
  have hc : Tryz.prog.cellsOf 66 = 2 := by kernel_rfl
  rw [hc] at hlen
  have hsz : fs.size = 2 := by have := congrArg List.length hl; simpa using this
  match cs, hlen with
  | [c0, c1], _ =>
    obtain ⟨f0, e0, t0, o0⟩ := fieldOfX hl (i := 0) rfl
    obtain ⟨f1, e1, t1, o1⟩ := fieldOfX hl (i := 1) rfl
    have g0 := hf 0 f0 e0
    have g1 := hf 1 f1 e1
    rw [t0, o0, show Tryz.prog.cellsOf 9 = 1 by kernel_rfl, List.getElem?_eq_getElem (show 0 < xs.length by omega)] at g0
    rw [t1, o1, show Tryz.prog.cellsOf 47 = 1 by kernel_rfl, List.getElem?_eq_getElem (show 1 < xs.length by omega)] at g1
    obtain ⟨m, hm1, _, hms⟩ := DataW.trod_string Tryz.underlying9 g0
    simp at hm1
    subst hm1
    have g1' : DataW.trod enc Tryz.prog w base (fun _ => true) held n 47 [c1] = some xs[1] := by simpa using g1
    obtain ⟨zs, hz, hzl⟩ := open_textsX g1'
    exact ⟨(m.data.toList, zs), c1, rfl, hz, hzl⟩

/-- A path that came in. -/
theorem open_path {fuel : Nat} {v : Value} {x : DataW H × List MemPlace} (h : DataW.trod enc Tryz.prog w base (fun _ => true) held fuel 41 [v] = some x) : ∃ ps : Whos, PathAt w v ps ∧ (∃ ao cap, v = .slice ao ps.length cap ∧ ps.length ≤ cap) ∧ ps.length ≤ maxLen := by
  rcases DataW.trod_slice Tryz.underlying41 h with ⟨hcs, _⟩ | ⟨a, len, cap, elems, rest, n2, hn2, hcs, _, _, hlc, hlm, hel, helem, _, _⟩
  · simp only [List.cons.injEq, and_true] at hcs
    exact ⟨[], ⟨none, 0, by rw [hcs]; rfl, Or.inl rfl⟩, ⟨none, 0, by rw [hcs]; rfl, by simp⟩, by simp⟩
  · simp only [List.cons.injEq, and_true] at hcs
    subst hcs
    rw [show Tryz.prog.cellsOf 66 = 2 by kernel_rfl] at helem
    have each : ∀ i, i < len → ∃ q : (List UInt8 × List (List UInt8)) × Value, w.cell? (a.add (i * 2)) = some (.string (tx q.1.1)) ∧ w.cell? ((a.add (i * 2)).add 1) = some q.2 ∧ Txs w q.2 q.1.2 ∧ q.1.2.length ≤ maxLen := by
      intro i hi
      have h1 := helem i hi
      rw [List.getElem?_eq_getElem (show i < elems.length by omega), Option.bind_eq_some_iff] at h1
      obtain ⟨cs', h2, h3⟩ := h1
      obtain ⟨_, _, hcell⟩ := World.cells?_some h2
      obtain ⟨p, u, rfl, h4, h5⟩ := open_who h3
      have c0 := hcell 0 (by omega)
      have c1 := hcell 1 (by omega)
      have e0 : (a.add (i * 2)).add 0 = a.add (i * 2) := by unfold Addr.add; simp
      rw [e0] at c0
      exact ⟨(p, u), c0, c1, h4, h5⟩
    by_cases h0 : len = 0
    · subst h0
      exact ⟨[], ⟨some a, cap, rfl, Or.inl rfl⟩, ⟨some a, cap, rfl, by simp⟩, by simp⟩
    have : Inhabited ((List UInt8 × List (List UInt8)) × Value) := ⟨(([], []), .bool false)⟩
    obtain ⟨q, hq⟩ := Go.Deep.choose_lt each
    obtain ⟨⟨g, o, rfl⟩, hb⟩ := addrOfX (v := .string (tx (q 0).1.1)) (by have := (hq 0 (by omega)).1; rw [Nat.zero_mul] at this; exact this)
    refine ⟨(List.range len).map fun i => (q i).1, ⟨some ⟨g, o, none⟩, cap, by simp, Or.inr ⟨g, o, rfl, hb, fun i p hp => ?_⟩⟩, ⟨some ⟨g, o, none⟩, cap, by simp, by simp; omega⟩, by simp; omega⟩
    rw [List.getElem?_map, Option.map_eq_some_iff] at hp
    obtain ⟨i', hi', rfl⟩ := hp
    obtain ⟨hi, rfl⟩ := List.getElem?_eq_some_iff.1 hi'
    simp only [List.length_range] at hi
    simp only [List.getElem_range]
    obtain ⟨c0, c1, h4, h5⟩ := hq i hi
    rw [addrAddX] at c0 c1
    rw [addrAddX] at c1
    obtain ⟨vo, vc, e, hr⟩ := h4
    refine ⟨h5, vo, (q i).1.2.length, vc, c0, ?_, ?_⟩
    · rw [c1, e]
    · exact ⟨vo, vc, rfl, hr⟩
end
end Go.Proofs.YtnmmfbhmfcabhaaGreatDoor
namespace Go.Proofs.YtnmmfbhmfcabhaaGreatDoor
open Go.ChangeShapes Go.WideShapes Go.ChangeAt Go.RowKit
open Go.ChangeMaps (open_string shut_string)

theorem ZCMean.laidOut : laidOutB Tryz.prog = true := by kernel_rfl
theorem ZCMean.own : ownKnob Tryz.prog.godebug = none := by kernel_rfl

set_option maxRecDepth 100000 in
set_option maxHeartbeats 2000000 in
theorem ZCMean.lifted (os : Os) (started : os.Started) (H : Type) (enc : TypeId × Value → H) :
    ReturnsInHanded {} Tryz.checked os 6 .any (fun w args => (Rows.regexMeansSpec.pre enc Tryz.prog Tryz.f6 [] false w args ∧ laidMetH Tryz.prog Rows.regexMeansRow.laid w) ∧ sizedMet enc Tryz.prog Tryz.f6 (OpenSpec.ofChange Rows.regexMeansSpec) false w args)
      (Rows.regexMeansSpec.post enc Tryz.prog Tryz.f6 false true false false) := by
  refine returnsInHanded_of_change_and (C := Tryz.checked) (X := fun w _ => laidMetH Tryz.prog Rows.regexMeansRow.laid w) (fun _ _ _ hh h => h.of_heap hh) ZCMean.own started (by kernel_rfl) Tryz.func6
    (ChangeSpec.witness_shaped (enc := enc) (C := Tryz.checked) (os := os) (X := fun w _ => laidMetH Tryz.prog Rows.regexMeansRow.laid w) false (World.laidAll Tryz.prog os Rows.regexMeansRow.laid) #[.agg #[.int .i64 0, .string ByteArray.empty, .slice none 0 0], .agg #[.int .i64 0, .string ByteArray.empty, .slice none 0 0], .slice none 0 0] 8 (World.laidAll_os _ _ _)
      (World.shaped_of_ZipB (by kernel_rfl) (by kernel_rfl)) (by kernel_rfl) (by kernel_rfl) (by kernel_rfl)
      (by rw [MakeChecks.laidMetH_plain _ _ _ (by kernel_rfl)]; exact laidMet_laidAll _ (by kernel_rfl) (by kernel_rfl))) ?_
  intro W base args ds gs before hval0 hW _ _ _ _
  have hval : ∀ (j : Nat) t v, Tryz.f6.params[j]? = some t → args[j]? = some v → Value.okWide Tryz.prog W .any base t v := hval0
  have hW' := hW
  obtain ⟨p, q, hA0, hV, rfl, _, _⟩ := hW
  have hA : DataW.TrodAll enc Tryz.prog W 0 (fun _ => true) true Tryz.f6.params.toList args.toList ds p := hA0
  rw [Tryz.params6] at hA hval
  obtain ⟨v0, vs0, d0, ds0, p0, q0, hargs, rfl, rfl, h0, r0⟩ := trodAll_cons hA
  obtain ⟨v1, vs1, d1, ds1, p1, q1, rfl, rfl, rfl, h1, r1⟩ := trodAll_cons r0
  obtain ⟨v2, vs2, d2, ds2, p2, q2, rfl, rfl, rfl, h2, r2⟩ := trodAll_cons r1
  obtain ⟨rfl, rfl, rfl⟩ := trodAll_nil r2
  obtain rfl : args = #[v0, v1, v2] := by cases args; simp_all
  obtain ⟨rfl, rfl⟩ := trodVars_none hV
  obtain ⟨fs, hfs, _⟩ := structOfX (P := Tryz.prog) (t := 25) (l := [(22, 0), (9, 1), (23, 2)]) (by kernel_rfl)
  obtain ⟨cs0, rfl, hcs0⟩ := okWide_struct hfs (hval 0 25 v0 rfl rfl)
  have k0 := h0
  have lt0 : ∀ x ∈ p0, x.block < W.heap.size := by obtain ⟨m, hm⟩ := k0; exact DataW.trod_lt m _ _ _ hm
  obtain ⟨r0x, u0, hr0, hS0, hF0⟩ : ∃ (r : Rx) (v : Value), cs0 = #[.int .i64 r.op, .string (tx r.name), v] ∧ RxS W v r.kids ∧ r.Fit := by
    obtain ⟨m, hm⟩ := h0
    obtain ⟨r, v, e1, e2, e3⟩ := open_regex m hm
    refine ⟨r, v, ?_, e2, e3⟩
    apply Array.toList_inj.1
    simpa [Value.cells] using e1
  subst hr0
  obtain ⟨cs1, rfl, hcs1⟩ := okWide_struct hfs (hval 1 25 v1 rfl rfl)
  have k1 := h1
  have lt1 : ∀ x ∈ p1, x.block < W.heap.size := by obtain ⟨m, hm⟩ := k1; exact DataW.trod_lt m _ _ _ hm
  obtain ⟨r1x, u1, hr1, hS1, hF1⟩ : ∃ (r : Rx) (v : Value), cs1 = #[.int .i64 r.op, .string (tx r.name), v] ∧ RxS W v r.kids ∧ r.Fit := by
    obtain ⟨m, hm⟩ := h1
    obtain ⟨r, v, e1, e2, e3⟩ := open_regex m hm
    refine ⟨r, v, ?_, e2, e3⟩
    apply Array.toList_inj.1
    simpa [Value.cells] using e1
  subst hr1
  obtain ⟨a2, len2, cap2, rfl⟩ := okWide_slice Tryz.underlying41 (hval 2 41 v2 rfl rfl)
  have k2 := h2
  have lt2 : ∀ x ∈ p2, x.block < W.heap.size := by obtain ⟨m, hm⟩ := k2; exact DataW.trod_lt m _ _ _ hm
  obtain ⟨ps2, hP2, hc2, hn2⟩ : ∃ ps : Whos, PathAt W (.slice a2 len2 cap2) ps ∧ (∃ ao cap, Value.slice a2 len2 cap2 = .slice ao ps.length cap ∧ ps.length ≤ cap) ∧ ps.length ≤ maxLen := by
    obtain ⟨fuel, hf⟩ := h2
    exact open_path hf
  simp only [List.append_nil] at hW'
  refine (means_any hS0 hS1 hF0 hF1 hP2 hc2 hn2 awake9).mono fun e W' ⟨he, hb⟩ => ?_
  subst he
  exact ⟨_, rfl, _, _, _, [], _, [], hW', trodAll_mk1 (shut_bool Tryz.underlying4 _), (trodAll_cons_mk (Below.trod ZCMean.laidOut (by kernel_rfl) (of_decide_eq_true (by kernel_rfl)) k0 hb lt0) (trodAll_cons_mk (Below.trod ZCMean.laidOut (by kernel_rfl) (of_decide_eq_true (by kernel_rfl)) k1 hb lt1) (trodAll_cons_mk (Below.trod ZCMean.laidOut (by kernel_rfl) (of_decide_eq_true (by kernel_rfl)) k2 hb lt2) trodAll_mk0))), rfl, hb.frame _, fun h => by cases h⟩

theorem ZCMean.holds : Rows.RegexMeansSaid :=
  OpenClaim.holds_of_wide 6 Tryz.f6 rfl rfl rfl rfl rfl rfl rfl ⟨rfl, rfl, rfl, rfl, rfl⟩ rfl rfl rfl rfl rfl (by kernel_rfl) Tryz.func6 (by kernel_rfl)
    (of_decide_eq_true (by kernel_rfl)) (by unfold Func.isWrapper; first | (rw [if_pos (by decide +kernel)]; kernel_rfl) | (rw [if_neg (by decide +kernel)]; exact ⟨rfl, rfl⟩))
    (fun os started H enc _ => ZCMean.lifted os started H enc)

theorem RegexMeans_holds : Rows.RegexMeansCardSaid :=
  Claim7.holds_tied_plain_at .later [] [.data, .pinned] true (true, "a6601d23f094c93534be1edba3855d570ddf2a0c27ea29f2c4f01eecda35024c") false ZCMean.holds (fun _ h => by cases h) (by kernel_rfl) (fun _ h => by cases h) regexMeans_row_tie rfl ⟨rfl, rfl⟩ (by kernel_rfl) rfl
    (fun f fn hf hfn => by
      obtain rfl : f = 6 := Option.some.inj ((show Tryz.prog.funcNamed "milestone/milestonelaw09.RegexMeans" = some 6 by kernel_rfl).symm.trans hf) |>.symm
      obtain rfl : fn = Tryz.f6 := (Option.some.inj (Tryz.func6.symm.trans hfn)).symm
      exact ⟨by kernel_rfl, fun j t ht => by
        rw [Tryz.params6] at ht
        have hm : t ∈ [25, 25, 41] := by simpa using Array.mem_of_getElem? ht
        have hall : ([25, 25, 41].all fun u => !Tryz.prog.wantsStandIn u) = true := by kernel_rfl
        exact (show Tryz.prog.wantsStandIn t = false by simpa using List.all_eq_true.1 hall t hm)⟩)
    (by kernel_rfl)
#print axioms RegexMeans_holds
end Go.Proofs.YtnmmfbhmfcabhaaGreatDoor
