/-
  Proved: for every width, every row of changes and every text the law FibTexts answers true (the text of a table is the document's, and is loaded as the same table; any text is loaded, or answered with its first fault, as the document says), and leaves its arguments as they were. Conditions: the tables of Go's library and of the program start as the program's text lays them (the card's tie); none on the arguments (the form's own reach bounds how long a text or a list that comes in is).
  Changes that came in, and how long their parts may be.
  The law FibTexts: of any width, any changes and any text it answers true.
  The law FibSteps: of any width and any changes it answers true.
-/
import Derived.Test.YtemmhingmeinjaaGreatDoorVMadeAnd
import Derived.Test.YtemmhingmeinjaaGreatDoorVTxtPAnd
import Derived.BigQuiet
import Derived.Test.YtemmhingmeinjaaGreatDoorLMeetsAnd
import Derived.Deep.RegionHeld2
import Derived.SizedLaws
import Derived.Test.YtemmhingmeinjaaGreatDoorUCopyAnd
import Derived.Test.YtemmhingmeinjaaGreatDoorVDocWAnd
import Derived.Test.YtemmhingmeinjaaGreatDoorVDocFAnd
import Derived.Test.YtemmhingmeinjaaGreatDoorRows
import Derived.Test.YtemmhingmeinjaaGreatDoorCards
import Derived.Test.YtemmhingmeinjaaGreatDoorTie
import Derived.WalkKit
import Derived.ProofKit
import Derived.OpenShut
import Derived.ShutString
import Derived.Lay
import Derived.LaidOnce
import Derived.SevenTiedAt
import Derived.LaidSub
import Derived.MakeChecks
namespace Go.Proofs.YtemmhingmeinjaaGreatDoor
open Go.RowKit

theorem FTab.grewF {w w' : World} {Bp tb b : Nat} {W : Int} {L : List Raw} {cs : Array Value} {r : Nat × Nat} (h : FTab w Bp tb W L) (hg : w.grownBy w' (some b)) (hb : w.heap[b]? = some (.cells cs 63 r)) (hne : tb ≠ b) : FTab w' Bp tb W L := by
  obtain ⟨v, ps, ht, e⟩ := h.ex
  refine ⟨h.base, v, ps, ⟨?_, ht.list.grew hg hb (by decide), fun q hq => (ht.ports q hq).grewB hg hb (by decide), ht.good⟩, e⟩
  rw [hg.block tb (lt_of_block ht.blk) (fun e => by injection e with e; exact hne e)]
  exact ht.blk
theorem FTab.low {w : World} {Bp tb : Nat} {W : Int} {L : List Raw} (h : FTab w Bp tb W L) : FTab w 0 tb W L := by
  obtain ⟨v, ps, ht, e⟩ := h.ex
  exact ⟨Nat.zero_le _, v, ps, ⟨ht.blk, ⟨own_mono ht.list.own (Nat.zero_le _), ht.list.vals⟩, fun q hq => (ht.ports q hq).mono (Nat.zero_le _), ht.good⟩, e⟩
end Go.Proofs.YtemmhingmeinjaaGreatDoor
namespace Go.Proofs.YtemmhingmeinjaaGreatDoor
open Go.RowKit

/-- Rules of a table, and then the rules held against a row. -/
theorem FTab.two {w : World} {Bp tb rb : Nat} {W : Int} {L : List Raw} {lo : Option Addr} {nl lc : Nat} {qs : List (Raw × Value)} (h : FTab w Bp tb W L) (hc : w.cell? ⟨rb, 1, none⟩ = some (.slice lo nl lc)) (hn : nl = L.length) (e : qs.map Prod.fst = L) (hr : RowV w (.slice lo nl lc) nl qs) :
    ∀ X, Below w.heap.size w X → Calls Tryz.prog 11 #[.pointer (some ⟨tb, 0, none⟩)] X fun e w' => ∃ a n c, e = .returned (.slice a n c) ∧ Below X.heap.size X w' ∧ w'.cell? ⟨rb, 1, none⟩ = some (.slice lo nl lc) ∧ Calls Tryz.prog 10 #[.slice a n c, .slice lo nl lc] w' fun e w'' => e = .returned (.bool true) ∧ Below w'.heap.size w' w'' := by
  subst hn
  intro X hX
  refine (Rules_any (h.on hX)).mono ?_
  rintro en w' ⟨v, qs2, rfl, ⟨a, n, c, rfl⟩, h2, e2, _, hb⟩
  have hb2 := below_2 hX hb
  exact ⟨a, n, c, rfl, hb, (hb2.cell (block_old hc)).trans hc, same_rows h2 (hr.on hb2) h.good e2 e⟩

set_option maxRecDepth 20000 in
set_option maxHeartbeats 4000000 in
theorem ftexts_bad {w : World} {ao : Option Addr} {n cap : Nat} {s : ByteArray} {W : Int} (h : ¬ (1 ≤ W ∧ W ≤ 128)) : Calls Tryz.prog 3 #[.int .i64 W, .slice ao n cap, .string s] w fun e w' => e = .returned (.bool true) ∧ Below w.heap.size w w' := by
  have HM := hid (made_bad (w := w) (ao := ao) (n := n) (cap := cap) h)
  have p2 := eqlR_two
  go_enter Tryz.func3, Tryz.ntmps3
  go_wp2_with fail
  refine HM.out.mono ?_
  rintro en w1 ⟨rfl, hb1⟩
  have B1 := hid hb1
  clear hb1
  go_wp2_with (go_at_call 5; refine (fawake _).mono ?_; rintro e wz ⟨rfl, hbz⟩; have BZ := hid (below_2 B1.out hbz); clear hbz)
  go_ret
  exact ⟨rfl, BZ.out⟩

set_option maxRecDepth 20000 in
set_option maxHeartbeats 4000000 in
theorem ftexts_good {w : World} {ao : Option Addr} {n cap : Nat} {W : Int} {s : List UInt8} {cs : List (Int × Raw × Value)} (h : 1 ≤ W ∧ W ≤ 128) (hc : ChIn w ao cs) (hn : cs.length = n) (hnc : n ≤ cap) (hs : ∀ u ∈ cs, Small u.2.1.mat u.2.1.ports) (h63 : n ≤ maxLen) (hT : PowTab w) :
    Calls Tryz.prog 3 #[.int .i64 W, .slice ao n cap, .string (tx s)] w fun e w' => e = .returned (.bool true) ∧ Below w.heap.size w w' := by
  have HM := hid (made_good h hc hn hnc hs h63)
  have HG := hid (madeN_good h ((chs cs).take 100))
  have HL100 := hid (show (madeN W ((chs cs).take 100)).length ≤ 100 from Nat.le_trans (madeN_len _ _) (by rw [List.length_take]; omega))
  have HPT := hid hT
  have HWD := hid h
  have p2 := eqlR_none
  have p3 : ∀ (X : World) (a : Addr), (binOp .eql 23 (.pointer (some a)) (.pointer none)).run Tryz.prog X = .ok (.bool false) X := fun X a => by
    have h : ∀ d : Nat, (Op.equalIn (d + 1) 23 (.pointer (some a)) (.pointer none)).run Tryz.prog X = .ok false X := fun d => by
      simp [Op.equalIn, run_underlying Tryz.underlying23, sizeOf, typeInfo]
    simp only [binOp]
    simp [Op.equal, Op.maxDepth, h 9999]
  obtain ⟨L, hL⟩ : ∃ L, L = madeN W ((chs cs).take 100) := ⟨_, rfl⟩
  rw [← hL] at HM HG HL100
  obtain ⟨T, hTT⟩ : ∃ T, T = Ru.printT (L.map Raw.rl) := ⟨_, rfl⟩
  have HTT := hid hTT
  have eTT : ((tx T).toList == (tx T).toList) = true := by simp
  clear hc hn hs hL hT h hTT
  go_enter Tryz.func3, Tryz.ntmps3
  go_wp2_with fail
  refine HM.out.mono ?_
  rintro en w1 ⟨tb, rb, rfl, h1⟩
  have B1 := hid h1.out
  clear h1 HM
  go_wp2_with (first | (go_at_call 5; refine (fawake _).mono ?_; rintro e wz ⟨rfl, hbz⟩; have BZ := hid (B1.out.on hbz); clear hbz) | fail)
  have hT1 := Text_any BZ.out.fib (HPT.out.below BZ.out.low)
  rw [← HTT.out] at hT1
  have HT1 := hid hT1
  clear hT1
  refine HT1.out.mono ?_
  rintro en w2 ⟨rfl, hb2⟩
  have B2 := hid (BZ.out.on hb2)
  clear hb2 HT1
  have hT2 := RText_any B2.out.doc HG.out (HPT.out.below B2.out.low)
  rw [← HTT.out] at hT2
  have HT2 := hid hT2
  clear hT2
  go_wp2_with fail
  refine HT2.out.mono ?_
  rintro en w3 ⟨rfl, hb3⟩
  have B3 := hid (B2.out.on hb3)
  clear hb3 HT2
  go_wp2_with fail
  refine (New_good HWD.out).mono ?_
  rintro en w4 ⟨rfl, h4⟩
  obtain ⟨ob, hob⟩ : ∃ ob, ob = w3.heap.size := ⟨_, rfl⟩
  have B4 := hid (B3.out.on h4.out.2)
  have O4 := hid h4.out.1
  have HOB := hid (show w.heap.size ≤ ob by rw [hob]; exact B3.out.low.size)
  have HNE := hid (show tb ≠ ob by have := B3.out.fib.lt; omega)
  rw [← hob] at O4 ⊢
  clear h4 hob
  have HLD := hid (Load_any (s := T) O4.out)
  have HBK := hid (show ∀ L2, LdR T W [] L2 → (prsX T W).2.2.2 = 0 ∧ L2 = L from fun L2 h2 => by
    rw [HTT.out] at h2 ⊢
    exact LdR.back HG.out HL100.out h2)
  clear HWD HPT HL100 HTT B1 BZ B2 B3
  go_wp2_with fail
  refine HLD.out.mono ?_
  rintro en w5 ⟨hg5, he5, L2, hl2, hf5⟩
  obtain ⟨hz, hLL⟩ := HBK.out L2 hl2
  have ez : ldT (prsX T W).2 = (0, 0, 0) := by unfold ldT; rw [if_pos hz]
  rw [ez] at he5
  subst he5
  rw [hLL] at hf5
  have B5 := hid (show Both w w5 tb rb W L from by
    obtain ⟨cc, hcc⟩ := O4.out.blk
    exact ⟨grown_low B4.out.low hg5 HOB.out, B4.out.ot, B4.out.orr, B4.out.fib.grewF hg5 hcc HNE.out, B4.out.doc.grew hg5 hcc⟩)
  obtain ⟨lo, lc, hS0, qs, eqs, hrow, _⟩ := B5.out.doc.row
  have HR5 := hid (hf5.two hS0 rfl eqs hrow)
  obtain ⟨nl, hnl⟩ : ∃ nl, nl = L.length := ⟨_, rfl⟩
  rw [← hnl] at HR5 hS0
  clear hg5 hl2 hf5 hz hLL ez HBK HLD O4 B4 hrow eqs hnl HNE
  go_wp2_with fail
  go_region_held2 (fun W' => W'.cell? ⟨rb, 1, none⟩ = some (.slice lo nl lc)) (first | exact hS0 | exact hS2 | exact hS3) (first | (go_at_call 11; refine (HR5.out _ ((Below.refl _ _).drew)).mono ?_; rintro en w6 ⟨a6, n6, c6, rfl, hb6, hS2, hsm⟩; have HSM := hid hsm; have HB6 := hid (below_2 ((Below.refl w5.heap.size w5).drew) hb6); clear hb6 hsm) | (go_at_call 10; refine HSM.out.mono ?_; rintro en w7 ⟨rfl, hb7⟩; have hS3 := (hb7.cell (block_old hS2)).trans hS2; have B7 := hid (B5.out.on (below_2 HB6.out hb7)); clear hb7))
  clear hS0 hS2 hS3 HR5 HSM HB6 B5
  have HL7 := hid (Load_any (s := s) B7.out.fib)
  go_wp2_with fail
  refine HL7.out.mono ?_
  rintro en w8 ⟨hg8, he8, L8, hl8, hf8⟩
  have HL8 := hid (grown_low B7.out.low hg8 B7.out.ot)
  have HD8 := hid (show DTab w8 w.heap.size rb W L from by
    obtain ⟨cc, hcc⟩ := B7.out.fib.blk
    exact B7.out.doc.grew hg8 hcc)
  have HF8 := hid hf8
  have HL8d := hid hl8
  have HOR := hid B7.out.orr
  obtain ⟨⟨x, y, z⟩, hxyz⟩ : ∃ f, f = ldT (prsX s W).2 := ⟨_, rfl⟩
  rw [← hxyz] at he8
  subst he8
  have HXYZ := hid hxyz
  have HRL := hid (RLoad_any (s := s) HG.out.wide HD8.out)
  clear hg8 hf8 hl8 hxyz HL7
  simp only
  go_wp2_with fail
  refine HRL.out.mono ?_
  rintro en w9 ⟨hg9, he9, L9, lo9, lc9, qs9, hl9, hT0, eqs9, hrow9⟩
  rw [← HXYZ.out] at he9
  subst he9
  obtain rfl := HL8d.out.one hl9
  have HF9 := hid (show FTab w9 w.heap.size tb W L8 from by
    obtain ⟨cc, hcc⟩ := HD8.out.blk
    exact HF8.out.grew hg9 hcc)
  have HLW := hid (grown_low HL8.out hg9 HOR.out)
  have HR9 := hid (HF9.out.two hT0 rfl eqs9 hrow9)
  obtain ⟨nl9, hnl9⟩ : ∃ nl, nl = L8.length := ⟨_, rfl⟩
  rw [← hnl9] at HR9 hT0
  clear hg9 hl9 eqs9 hrow9 hnl9 HRL HD8 HF8 HL8 HL8d HXYZ HG p2 p3
  have exx : ((x : Int) == (x : Int)) = true := by simp
  have eyy : ((y : Int) == (y : Int)) = true := by simp
  have ezz : ((z : Int) == (z : Int)) = true := by simp
  simp only
  go_wp2_with fail
  go_region_held2 (fun W' => W'.cell? ⟨rb, 1, none⟩ = some (.slice lo9 nl9 lc9)) (first | exact hT0 | exact hT2 | exact hT3) (first | (go_at_call 11; refine (HR9.out _ ((Below.refl _ _).drew)).mono ?_; rintro en wa ⟨aa, na, ca, rfl, hba, hT2, hsm⟩; have HSM := hid hsm; have HBa := hid (below_2 ((Below.refl w9.heap.size w9).drew) hba); clear hba hsm) | (go_at_call 10; refine HSM.out.mono ?_; rintro en wb ⟨rfl, hbb⟩; have hT3 := (hbb.cell (block_old hT2)).trans hT2; have HBb := hid (below_2 HBa.out hbb); clear hbb))
  go_wp2
  go_ret
  exact ⟨rfl, below_2 HLW.out HBb.out⟩
theorem ftexts_any {w : World} {ao : Option Addr} {n cap : Nat} {W : Int} {s : ByteArray} {cs : List (Int × Raw × Value)} (hc : ChIn w ao cs) (hn : cs.length = n) (hnc : n ≤ cap) (hs : ∀ u ∈ cs, Small u.2.1.mat u.2.1.ports) (h63 : n ≤ maxLen) (hT : PowTab w) :
    Calls Tryz.prog 3 #[.int .i64 W, .slice ao n cap, .string s] w fun e w' => e = .returned (.bool true) ∧ Below w.heap.size w w' := by
  by_cases h : 1 ≤ W ∧ W ≤ 128
  · have e : s = tx s.data.toList := by cases s; rfl
    rw [e]
    exact ftexts_good h hc hn hnc hs h63 hT
  · exact ftexts_bad h
end Go.Proofs.YtemmhingmeinjaaGreatDoor
namespace Go.Proofs.YtemmhingmeinjaaGreatDoor
open Go.ChangeShapes Go.WideShapes Go.ChangeAt Go.RowKit
open Go.ChangeMaps (open_string shut_string)

theorem each_boundV {H : Type} {P : Program} {t : TypeId} {fs : Array Field} {l : List (TypeId × Nat)} {ds : List (DataW H)} (ht : P.underlying t = some (.struct fs)) (hl : fs.toList.map (fun f => (f.type, f.offset)) = l) (hw : ∀ k ∈ (DataW.agg ds : DataW H).weights P t, k ≤ reachBytes) :
    ∀ (i : Nat) (ty : TypeId) (off : Nat) (d : DataW H), l[i]? = some (ty, off) → ds[i]? = some d → ∀ k ∈ d.weights P ty, k ≤ reachBytes := by
  intro i ty off d hi hd k hk
  apply hw
  simp only [DataW.weights, ht]
  refine DataW.weights_mem_each (j := i) (t := ty) ?_ hd k hk
  rw [← hl, List.getElem?_map, Option.map_eq_some_iff] at hi
  obtain ⟨f, hf, e⟩ := hi
  rw [List.getElem?_map, hf]
  simp only [Prod.mk.injEq] at e
  simp [e.1]
theorem weights_allV {H : Type} {P : Program} {e : TypeId} : ∀ {ds : List (DataW H)} {d : DataW H}, d ∈ ds → ∀ k ∈ d.weights P e, k ∈ DataW.weightsAll P e ds
  | d0 :: ds, d, hd, k, hk => by
    simp only [DataW.weightsAll, List.mem_append]
    rcases List.mem_cons.1 hd with rfl | hd
    · exact Or.inl hk
    · exact Or.inr (weights_allV hd k hk)
theorem slice_boundV {H : Type} {P : Program} {t e : TypeId} {a b : List (DataW H)} (ht : P.underlying t = some (.slice e)) (hw : ∀ k ∈ (DataW.slice a b : DataW H).weights P t, k ≤ reachBytes) : (a.length + b.length) * P.bytesOf e ≤ reachBytes ∧ ∀ d ∈ a, ∀ k ∈ d.weights P e, k ≤ reachBytes := by
  refine ⟨hw _ (by simp [DataW.weights, ht]), fun d hd k hk => hw k ?_⟩
  simp only [DataW.weights, ht, List.mem_cons, List.mem_append]
  exact Or.inr (Or.inl (weights_allV hd k hk))

section
variable {H : Type} {enc : TypeId × Value → H} {w : World} {base : Nat} {spare : Nat → Bool} {held : Bool}

set_option maxRecDepth 100000 in
theorem open_rule_sV {fuel : Nat} {cs : List Value} {x : DataW H × List MemPlace} (h : DataW.trod enc Tryz.prog w base spare held fuel 51 cs = some x) (hw : ∀ k ∈ x.1.weights Tryz.prog 51, k ≤ reachBytes) :
    ∃ (p : Int) (m : ByteArray) (k : Int) (v : Value) (n : Nat) (y : DataW H × List MemPlace), cs = [.int .i64 p, .string m, .int .i64 k, v] ∧ m.size ≤ maxLen ∧ DataW.trod enc Tryz.prog w base spare held n 47 [v] = some y ∧ m.size ≤ reachBytes ∧ ∀ k ∈ y.1.weights Tryz.prog 47, k ≤ reachBytes := by
  obtain ⟨fs, hfs, hl⟩ := struct_of (P := Tryz.prog) (t := 51) (l := [(3, 0), (9, 1), (49, 2)]) (by kernel_rfl)
  obtain ⟨gs, hgs, hm⟩ := struct_of (P := Tryz.prog) (t := 49) (l := [(46, 0), (47, 1)]) (by kernel_rfl)
  obtain ⟨xs, n, _, hxe, hlen, hxl, hf⟩ := DataW.trod_struct hfs h
  have W1 := each_boundV hfs hl (by rw [hxe] at hw; exact hw)
  have hc : Tryz.prog.cellsOf 51 = 4 := by kernel_rfl
  rw [hc] at hlen
  have hsz : fs.size = 3 := by have := congrArg List.length hl; simpa using this
  match cs, hlen with
  | [c0, c1, c2, c3], _ =>
    obtain ⟨f0, e0, t0, o0⟩ := field_of hl (i := 0) rfl
    obtain ⟨f1, e1, t1, o1⟩ := field_of hl (i := 1) rfl
    obtain ⟨f2, e2, t2, o2⟩ := field_of hl (i := 2) rfl
    have g0 := hf 0 f0 e0
    have g1 := hf 1 f1 e1
    have g2 := hf 2 f2 e2
    rw [t0, o0, show Tryz.prog.cellsOf 3 = 1 by kernel_rfl, List.getElem?_eq_getElem (show 0 < xs.length by omega)] at g0
    rw [t1, o1, show Tryz.prog.cellsOf 9 = 1 by kernel_rfl, List.getElem?_eq_getElem (show 1 < xs.length by omega)] at g1
    rw [t2, o2, show Tryz.prog.cellsOf 49 = 2 by kernel_rfl, List.getElem?_eq_getElem (show 2 < xs.length by omega)] at g2
    obtain ⟨p, hp, _, _⟩ := DataW.trod_int Tryz.underlying3 g0
    obtain ⟨m, hm1, hx1, hms⟩ := DataW.trod_string Tryz.underlying9 g1
    obtain ⟨ys, n2, _, hye, _, hyl, hg⟩ := DataW.trod_struct hgs g2
    have W2 := each_boundV hgs hm (by have := W1 2 49 2 xs[2].1 rfl (by rw [List.getElem?_map, List.getElem?_eq_getElem (show 2 < xs.length by omega)]; rfl); rw [hye] at this; exact this)
    have hsz2 : gs.size = 2 := by have := congrArg List.length hm; simpa using this
    obtain ⟨k0, d0, u0, q0⟩ := field_of hm (i := 0) rfl
    obtain ⟨k1, d1, u1, q1⟩ := field_of hm (i := 1) rfl
    have r0 := hg 0 k0 d0
    have r1 := hg 1 k1 d1
    rw [u0, q0, show Tryz.prog.cellsOf 46 = 1 by kernel_rfl, List.getElem?_eq_getElem (show 0 < ys.length by omega)] at r0
    rw [u1, q1, show Tryz.prog.cellsOf 47 = 1 by kernel_rfl, List.getElem?_eq_getElem (show 1 < ys.length by omega)] at r1
    obtain ⟨k, hk, _, _⟩ := DataW.trod_int (k := .i64) (by kernel_rfl) r0
    simp at hp hm1 hk
    subst hp hm1 hk
    refine ⟨p, m, k, c3, n2, _, rfl, hms, by simpa using r1, ?_, ?_⟩
    · have := W1 1 9 1 xs[1].1 rfl (by rw [List.getElem?_map, List.getElem?_eq_getElem (show 1 < xs.length by omega)]; rfl)
      rw [hx1] at this
      have q := this m.data.toList.length (by simp [DataW.weights])
      rw [list_size] at q; exact q
    · exact W2 1 47 1 ys[1].1 rfl (by rw [List.getElem?_map, List.getElem?_eq_getElem (show 1 < ys.length by omega)]; rfl)

/-- Texts that came in. -/
theorem open_texts_sV {fuel : Nat} {v : Value} {x : DataW H × List MemPlace} (h : DataW.trod enc Tryz.prog w base (fun _ => true) held fuel 47 [v] = some x) (hw : ∀ k ∈ x.1.weights Tryz.prog 47, k ≤ reachBytes) : ∃ ps : List (List UInt8), Txs w v ps ∧ (∀ p ∈ ps, p.length ≤ maxLen) ∧ ps.length * 16 ≤ reachBytes ∧ ∀ p ∈ ps, p.length ≤ reachBytes := by
  rcases open_strings Tryz.underlying47 Tryz.underlying9 (by kernel_rfl) h with ⟨hcs, _⟩ | ⟨a, len, cap, ss, hcs, _, hl, hm, hz, hxe, hcell, hws⟩
  · simp only [List.cons.injEq, and_true] at hcs
    exact ⟨[], by rw [hcs]; exact Txs.nil _ _ _, fun p hp => absurd hp (by simp), by simp, fun p hp => absurd hp (by simp)⟩
  · simp only [List.cons.injEq, and_true] at hcs
    simp only [if_true] at hz
    rw [hxe] at hw
    obtain ⟨w1, w2⟩ := slice_boundV Tryz.underlying47 hw
    rw [show Tryz.prog.bytesOf 9 = 16 by kernel_rfl] at w1
    refine ⟨(ss.take len).map (fun s => s.data.toList), ?_, fun p hp => ?_, ?_, fun p hp => ?_⟩
    · have hlen : ((ss.take len).map (fun s => s.data.toList)).length = len := by rw [List.length_map, List.length_take]; omega
      refine ⟨some a, cap, by rw [hlen, hcs], ?_⟩
      by_cases h0 : len = 0
      · exact Or.inl (by rw [h0]; simp)
      · obtain ⟨⟨g, o, rfl⟩, hb⟩ := addr_of5 (hcell 0 (by omega))
        refine Or.inr ⟨g, o, rfl, hb, fun i hi => ?_⟩
        rw [hlen] at hi
        have := hcell i (by omega)
        rw [addr_add5] at this
        rw [this]
        have hi2 : i < ss.length := by omega
        simp [List.getD_eq_getElem?_getD, List.getElem?_map, hi, List.getElem?_eq_getElem hi2]
    · obtain ⟨s, hs, rfl⟩ := List.mem_map.1 hp
      have := hws s (List.mem_of_mem_take hs)
      rw [list_size]; exact this
    · refine Nat.le_trans (Nat.mul_le_mul_right 16 ?_) w1
      simp [strs]
    · obtain ⟨s, hs, rfl⟩ := List.mem_map.1 hp
      exact w2 (.lit (.string s.data.toList)) (List.mem_map.2 ⟨s, hs, rfl⟩) _ (by simp [DataW.weights])


set_option maxRecDepth 100000 in
theorem open_change {fuel : Nat} {cs : List Value} {x : DataW H × List MemPlace} (h : DataW.trod enc Tryz.prog w base spare held fuel 53 cs = some x) (hw : ∀ k ∈ x.1.weights Tryz.prog 53, k ≤ reachBytes) :
    ∃ (kd : Int) (rs : List Value) (n : Nat) (y : DataW H × List MemPlace), cs = .int .i64 kd :: rs ∧ DataW.trod enc Tryz.prog w base spare held n 51 rs = some y ∧ ∀ k ∈ y.1.weights Tryz.prog 51, k ≤ reachBytes := by
  obtain ⟨fs, hfs, hl⟩ := struct_of (P := Tryz.prog) (t := 53) (l := [(45, 0), (51, 1)]) (by kernel_rfl)
  obtain ⟨xs, n, _, hxe, hlen, hxl, hf⟩ := DataW.trod_struct hfs h
  have W1 := each_boundV hfs hl (by rw [hxe] at hw; exact hw)
  have hc : Tryz.prog.cellsOf 53 = 5 := by kernel_rfl
  rw [hc] at hlen
  have hsz : fs.size = 2 := by have := congrArg List.length hl; simpa using this
  match cs, hlen with
  | [c0, c1, c2, c3, c4], _ =>
    obtain ⟨f0, e0, t0, o0⟩ := field_of hl (i := 0) rfl
    obtain ⟨f1, e1, t1, o1⟩ := field_of hl (i := 1) rfl
    have g0 := hf 0 f0 e0
    have g1 := hf 1 f1 e1
    rw [t0, o0, show Tryz.prog.cellsOf 45 = 1 by kernel_rfl, List.getElem?_eq_getElem (show 0 < xs.length by omega)] at g0
    rw [t1, o1, show Tryz.prog.cellsOf 51 = 4 by kernel_rfl, List.getElem?_eq_getElem (show 1 < xs.length by omega)] at g1
    obtain ⟨kd, hk, _, _⟩ := DataW.trod_int (k := .i64) (by kernel_rfl) g0
    simp at hk
    subst hk
    exact ⟨kd, [c1, c2, c3, c4], n, _, rfl, by simpa using g1, W1 1 51 1 xs[1].1 rfl (by rw [List.getElem?_map, List.getElem?_eq_getElem (show 1 < xs.length by omega)]; rfl)⟩

/-- Changes that came in. -/
theorem open_changes {fuel : Nat} {ao : Option Addr} {len cap : Nat} {x : DataW H × List MemPlace} (h : DataW.trod enc Tryz.prog w base (fun _ => true) held fuel 22 [.slice ao len cap] = some x) (hw : ∀ k ∈ x.1.weights Tryz.prog 22, k ≤ reachBytes) : ∃ cs : List (Int × Raw × Value), ChIn w ao cs ∧ cs.length = len ∧ len ≤ cap ∧ (∀ u ∈ cs, Small u.2.1.mat u.2.1.ports) ∧ len * 64 ≤ 140737488355328 := by
  rcases Go.Deep.open_slice (e := 53) Tryz.underlying22 h with ⟨hcs, _⟩ | ⟨a, len', cap', m, n, D, Pl, hcs, _, hl, hm, hmm, hxe, hx⟩
  · simp at hcs
    exact ⟨[], Or.inl rfl, by rw [hcs.2.1]; rfl, by omega, fun q hq => absurd hq (by simp), by omega⟩
  · simp at hcs
    obtain ⟨rfl, rfl, rfl⟩ := hcs
    simp only [if_true] at hmm
    have hc : Tryz.prog.cellsOf 53 = 5 := by kernel_rfl
    by_cases h0 : len = 0
    · exact ⟨[], Or.inl rfl, by rw [h0]; rfl, hl, fun q hq => absurd hq (by simp), by omega⟩
    rw [hxe] at hw
    obtain ⟨w1, w2⟩ := slice_boundV Tryz.underlying22 hw
    rw [show Tryz.prog.bytesOf 53 = 64 by kernel_rfl] at w1
    have each : ∀ i, i < len → ∃ q : Int × Raw × Value, w.cell? (a.add (i * 5)) = some (.int .i64 q.1) ∧ w.cell? ((a.add (i * 5)).add 1) = some (.int .i64 q.2.1.prio) ∧ w.cell? ((a.add (i * 5)).add 2) = some (.string (tx q.2.1.mat)) ∧ w.cell? ((a.add (i * 5)).add 3) = some (.int .i64 q.2.1.kind) ∧ w.cell? ((a.add (i * 5)).add 4) = some q.2.2 ∧ Txs w q.2.2 q.2.1.ports ∧ (∀ p ∈ q.2.1.ports, p.length ≤ maxLen) ∧ Small q.2.1.mat q.2.1.ports := by
      intro i hi
      obtain ⟨cs', h1, h2⟩ := hx i (by omega)
      rw [hc] at h1
      obtain ⟨_, _, hcell⟩ := World.cells?_some h1
      obtain ⟨kd, rs, n0, y0, rfl, hr, hb0⟩ := open_change h2 (w2 (D i) (List.mem_map.2 ⟨i, List.mem_range.2 hi, rfl⟩))
      obtain ⟨p, m', k, v, n', y, rfl, hms, hv, hb1, hb2⟩ := open_rule_sV hr hb0
      obtain ⟨zs, hz1, hz2, hz3, hz4⟩ := open_texts_sV hv hb2
      have c0 := hcell 0 (by omega)
      have c1 := hcell 1 (by omega)
      have c2 := hcell 2 (by omega)
      have c3 := hcell 3 (by omega)
      have c4 := hcell 4 (by omega)
      have e0 : (a.add (i * 5)).add 0 = a.add (i * 5) := by unfold Addr.add; simp
      rw [e0] at c0
      exact ⟨(kd, ⟨p, m'.data.toList, k, zs⟩, v), c0, c1, c2, c3, c4, hz1, hz2, by rw [list_size]; exact Nat.le_trans hb1 (by decide), Nat.le_trans hz3 (by decide), fun z hz => Nat.le_trans (hz4 z hz) (by decide)⟩
    have : Inhabited (Int × Raw × Value) := ⟨(0, ⟨0, [], 0, []⟩, .bool false)⟩
    obtain ⟨q, hq⟩ := Go.Deep.choose_lt each
    obtain ⟨⟨g, o, rfl⟩, hb⟩ := addr_of5 (v := .int .i64 (q 0).1) (by have := (hq 0 (by omega)).1; rw [Nat.zero_mul] at this; exact this)
    refine ⟨(List.range len).map q, Or.inr ⟨g, o, rfl, hb, fun i r hr => ?_, fun r hr => ?_⟩, by simp, hl, fun r hr => ?_, ?_⟩
    · rw [List.getElem?_map, Option.map_eq_some_iff] at hr
      obtain ⟨i', hi', rfl⟩ := hr
      obtain ⟨hi, rfl⟩ := List.getElem?_eq_some_iff.1 hi'
      simp only [List.length_range] at hi
      simp only [List.getElem_range]
      obtain ⟨c0, c1, c2, c3, c4, _, _⟩ := hq i hi
      rw [addr_add5] at c0 c1 c2 c3 c4
      rw [addr_add5] at c1 c2 c3 c4
      exact ⟨c0, c1, c2, c3, c4⟩
    · obtain ⟨i, hi, rfl⟩ := List.mem_map.1 hr
      have := hq i (List.mem_range.1 hi)
      exact ⟨this.2.2.2.2.2.1, this.2.2.2.2.2.2.1⟩
    · obtain ⟨i, hi, rfl⟩ := List.mem_map.1 hr
      exact (hq i (List.mem_range.1 hi)).2.2.2.2.2.2.2
    · have e : ((List.range len).map D).length = len := by simp
      have : len * 64 ≤ reachBytes := Nat.le_trans (Nat.mul_le_mul_right 64 (by rw [e]; omega)) w1
      exact Nat.le_trans this (by decide)
end
end Go.Proofs.YtemmhingmeinjaaGreatDoor
namespace Go.Proofs.YtemmhingmeinjaaGreatDoor
open Go.ChangeShapes Go.WideShapes Go.ChangeAt Go.RowKit
open Go.ChangeMaps (open_string shut_string)

theorem VCTxt.laidOut : laidOutB Tryz.prog = true := by kernel_rfl
theorem VCTxt.own : ownKnob Tryz.prog.godebug = none := by kernel_rfl
theorem VCTxt.pow {W : World} (h : laidMetH Tryz.prog Rows.fibTextsRow.laid W) : PowTab W := by
  rw [MakeChecks.laidMetH_plain _ _ _ (by kernel_rfl)] at h
  have hF := h.filter (fun x => x.1 == "internal/strconv.uint64pow10")
  rw [show Rows.fibTextsRow.laid.filter (fun x => x.1 == "internal/strconv.uint64pow10") = [("internal/strconv.uint64pow10", Lib.tabData .u64 Lib.pow10Tab)] by kernel_rfl] at hF
  exact Lib.tabIs_of_head (g := 0) (t := 230) (e := 193) (n := 20) (by kernel_rfl) (by kernel_rfl) (by kernel_rfl) (by kernel_rfl) (by kernel_rfl) (by kernel_rfl) hF
theorem VCTxt.args {v0 v1 v2 : Value} {args : Array Value} {l0 l1 : List Value} (h0 : args.toList = v0 :: l0) (h1 : l0 = v1 :: l1) (h2 : l1 = v2 :: []) : args = #[v0, v1, v2] := by
  subst h1 h2
  obtain ⟨a⟩ := args
  simp only at h0
  rw [h0]

set_option maxRecDepth 100000 in
set_option maxHeartbeats 2000000 in
theorem VCTxt.lifted (os : Os) (started : os.Started) (H : Type) (enc : TypeId × Value → H) :
    ReturnsInHanded {} Tryz.checked os 3 .any (fun w args => (Rows.fibTextsSpec.pre enc Tryz.prog Tryz.f3 [] false w args ∧ laidMetH Tryz.prog Rows.fibTextsRow.laid w) ∧ sizedMet enc Tryz.prog Tryz.f3 (OpenSpec.ofChange Rows.fibTextsSpec) false w args)
      (Rows.fibTextsSpec.post enc Tryz.prog Tryz.f3 false true false false) := by
  refine returnsInHanded_of_change_and (C := Tryz.checked) (X := fun w _ => laidMetH Tryz.prog Rows.fibTextsRow.laid w) (fun _ _ _ hh h => h.of_heap hh) VCTxt.own started (by kernel_rfl) Tryz.func3
    (ChangeSpec.witness_shaped (enc := enc) (C := Tryz.checked) (os := os) (X := fun w _ => laidMetH Tryz.prog Rows.fibTextsRow.laid w) false (World.laidAll Tryz.prog os Rows.fibTextsRow.laid) #[.int .i64 0, .slice none 0 0, .string ByteArray.empty] 8 (World.laidAll_os _ _ _)
      (World.shaped_of_ZipB (by kernel_rfl) (by kernel_rfl)) (by kernel_rfl) (by kernel_rfl) (by kernel_rfl)
      (by rw [MakeChecks.laidMetH_plain _ _ _ (by kernel_rfl)]; exact laidMet_laidAll _ (by kernel_rfl) (by kernel_rfl))) ?_
  intro W base args ds gs before hval0 hW _ hsz hL _
  have hval : ∀ (j : Nat) t v, Tryz.f3.params[j]? = some t → args[j]? = some v → Value.okWide Tryz.prog W .any base t v := hval0
  have hW' := hW
  obtain ⟨p, q, hA0, hV, rfl, _, _⟩ := hW
  have hA : DataW.TrodAll enc Tryz.prog W 0 (fun _ => true) true Tryz.f3.params.toList args.toList ds p := hA0
  rw [Tryz.params3] at hA hval
  obtain ⟨v0, vs0, d0, ds0, p0, q0, hargs0, rfl, rfl, h0, r0⟩ := trodAll_cons hA
  obtain ⟨v1, vs1, d1, ds1, p1, q1, hargs1, rfl, rfl, h1, r1⟩ := trodAll_cons r0
  obtain ⟨v2, vs2, d2, ds2, p2, q2, hargs2, rfl, rfl, h2, r2⟩ := trodAll_cons r1
  obtain ⟨rfl, rfl, rfl⟩ := trodAll_nil r2
  obtain rfl := VCTxt.args hargs0 hargs1 hargs2
  obtain ⟨rfl, rfl⟩ := trodVars_none hV
  obtain ⟨a0, rfl, rfl, rfl, w0⟩ := open_int Tryz.underlying3 (hval 0 3 v0 rfl rfl) h0
  obtain ⟨a1, len1, cap1, rfl⟩ := okWide_slice Tryz.underlying22 (hval 1 22 v1 rfl rfl)
  have k1 := h1
  have lt1 : ∀ x ∈ p1, x.block < W.heap.size := by obtain ⟨m, hm⟩ := k1; exact DataW.trod_lt m _ _ _ hm
  have hwt1 : ∀ k ∈ d1.weights Tryz.prog 22, k ≤ reachBytes := fun k hk => of_decide_eq_true (List.all_eq_true.1 hsz k (DataW.weights_mem_each (j := 1) (t := 22) (d := d1) (by rw [Tryz.params3]; rfl) rfl k hk))
  obtain ⟨cs1, hc1, hcl1, hcc1, hcs1, hc641⟩ : ∃ cs : List (Int × Raw × Value), ChIn W a1 cs ∧ cs.length = len1 ∧ len1 ≤ cap1 ∧ (∀ u ∈ cs, Small u.2.1.mat u.2.1.ports) ∧ len1 * 64 ≤ 140737488355328 := by
    obtain ⟨fuel, hf⟩ := h1
    exact open_changes hf hwt1
  obtain ⟨a2, rfl, rfl, rfl, w2⟩ := open_string Tryz.underlying9 (hval 2 9 v2 rfl rfl) h2
  simp only [List.append_nil] at hW'
  clear hA0 hval0
  refine (ftexts_any hc1 hcl1 hcc1 hcs1 (by unfold maxLen; omega) (VCTxt.pow hL)).mono fun e W' ⟨he, bel⟩ => ?_
  subst he
  exact ⟨_, rfl, _, _, _, [], _, [], hW', trodAll_mk1 (shut_bool Tryz.underlying4 _), (trodAll_cons_mk (shut_int Tryz.underlying3 w0) (trodAll_cons_mk (Below.trod VCTxt.laidOut (by kernel_rfl) (of_decide_eq_true (by kernel_rfl)) k1 bel lt1) (trodAll_cons_mk (shut_string Tryz.underlying9 w2) trodAll_mk0))), rfl, bel.frame _, fun h => by cases h⟩

theorem VCTxt.holds : Rows.FibTextsSaid :=
  OpenClaim.holds_of_wide 3 Tryz.f3 rfl rfl rfl rfl rfl rfl rfl ⟨rfl, rfl, rfl, rfl, rfl⟩ rfl rfl rfl rfl rfl (by kernel_rfl) Tryz.func3 (by kernel_rfl)
    (of_decide_eq_true (by kernel_rfl)) (by unfold Func.isWrapper; first | (rw [if_pos (by decide +kernel)]; kernel_rfl) | (rw [if_neg (by decide +kernel)]; exact ⟨rfl, rfl⟩))
    (fun os started H enc _ => VCTxt.lifted os started H enc)

theorem FibTexts_holds : Rows.FibTextsCardSaid :=
  Claim7.holds_tied_plain_at .later [] [.data, .data, .data, .data, .pinned] true (true, "f412e5d3b2d05879442934005c5246ba11ed52312775940f176f965e8112a0c3") false VCTxt.holds (fun _ h => by cases h) (by kernel_rfl) (fun _ h => by cases h) fibTexts_row_tie rfl ⟨rfl, rfl⟩ (by kernel_rfl) rfl
    (fun f fn hf hfn => by
      obtain rfl : f = 3 := Option.some.inj ((show Tryz.prog.funcNamed "milestone/milestonelaw06.FibTexts" = some 3 by kernel_rfl).symm.trans hf) |>.symm
      obtain rfl : fn = Tryz.f3 := (Option.some.inj (Tryz.func3.symm.trans hfn)).symm
      exact ⟨by kernel_rfl, fun j t ht => by
        rw [Tryz.params3] at ht
        have hm : t ∈ [3, 22, 9] := by simpa using Array.mem_of_getElem? ht
        have hall : ([3, 22, 9].all fun u => !Tryz.prog.wantsStandIn u) = true := by kernel_rfl
        exact (show Tryz.prog.wantsStandIn t = false by simpa using List.all_eq_true.1 hall t hm)⟩)
    (by kernel_rfl)
#print axioms FibTexts_holds
end Go.Proofs.YtemmhingmeinjaaGreatDoor
