/-
  The document's Meets and Lookup; what both Meets tell, both Lookup.
  The law FibChanges: of any width and any changes it answers true.
  Rules and Width of a table; rows of rules held against each other.
  made: a table and the document's, with changes done one by one.
-/
import Derived.Test.YtipmlcdnfaobiaaGreatVDocH
import Derived.Test.YtipmlcdnfaobiaaGreatLMeetsAnd
import Derived.Test.YtipmlcdnfaobiaaGreatVDocFAnd
import Derived.Test.YtipmlcdnfaobiaaGreatUCopyAnd
import Derived.Deep.RegionHeld2
import Derived.BigQuiet
namespace Go.Proofs.YtipmlcdnfaobiaaGreat
open Go.RowKit

/-- What one change makes of the rules, done or refused. -/
def stN (W : Int) (L : List Raw) (c : Int × Raw) : List Raw := match stepN W L c.1 c.2 with
  | .ok L' => L'
  | .error _ => L
/-- What changes make, done one by one. -/
def madeN (W : Int) (cs : List (Int × Raw)) : List Raw := cs.foldl (stN W) []
theorem madeN_snoc {W : Int} {cs : List (Int × Raw)} {j : Nat} {c : Int × Raw} (h : cs[j]? = some c) : madeN W (cs.take (j + 1)) = stN W (madeN W (cs.take j)) c := by
  unfold madeN
  rw [List.take_add_one, h, List.foldl_append]
  rfl
theorem run_one {W : Int} {L : List Raw} {k : Int} {r : Raw} : runN W L [(k, r)] 0 = match stepN W L k r with
    | .ok L' => .ok L'
    | .error e => .error (0, e) := by
  cases h : stepN W L k r with
  | ok L' => simp [runN, h]
  | error e => simp [runN, h]
/-- Both tables, in a world that keeps what was there. -/
structure Both (w0 w : World) (tb rb : Nat) (W : Int) (L : List Raw) : Prop where
  low : Below w0.heap.size w0 w
  ot : w0.heap.size ≤ tb
  orr : w0.heap.size ≤ rb
  fib : FTab w w0.heap.size tb W L
  doc : DTab w w0.heap.size rb W L
theorem Both.on {w0 w w' : World} {tb rb : Nat} {W : Int} {L : List Raw} (h : Both w0 w tb rb W L) (hb : Below w.heap.size w w') : Both w0 w' tb rb W L :=
  ⟨below_2 h.low hb, h.ot, h.orr, h.fib.on hb, h.doc.on hb⟩
/-- Both tables behind the same changes. -/
theorem grown_low {w0 w w' : World} {b : Nat} (h : Below w0.heap.size w0 w) (hg : w.grownBy w' (some b)) (hb : w0.heap.size ≤ b) : Below w0.heap.size w0 w' := h.grown hg h.size (fun k hk => by injection hk with e; omega)
theorem one_view {w : World} {kd p k : Int} {m : List UInt8} {zs : List (List UInt8)} {v : Value} (ht : Txs w v zs) (hz : ∀ z ∈ zs, z.length ≤ maxLen) : ChIn (w.alloc (cob5 kd p m k v)) (some ⟨w.heap.size, 0, none⟩) [(kd, ⟨p, m, k, zs⟩, v)] := by
  have hn := new_0 w (cob5 kd p m k v)
  refine Or.inr ⟨w.heap.size, 0, rfl, lt_of_block hn, fun i u hi => ?_, fun u hu => ?_⟩
  · have h0 : i = 0 := by have := (List.getElem?_eq_some_iff.1 hi).1; simp at this; exact this
    subst h0
    have : (kd, (⟨p, m, k, zs⟩ : Raw), v) = u := by simpa using hi
    subst this
    refine ⟨?_, ?_, ?_, ?_, ?_⟩ <;> · rw [cell_at hn]; rfl
  · rw [List.mem_singleton.1 hu]
    exact ⟨ht.below ((Below.refl _ _).alloc (Nat.le_refl _) _), hz⟩
theorem ChView.at {w : World} {g o j : Nat} {cs : List (Int × Raw × Value)} {u : Int × Raw × Value} (h : ChView w g o cs) (hu : cs[j]? = some u) : ChView w g (o + j * 5) [u] := by
  refine ⟨h.old, fun i x hi => ?_, fun x hx => ?_⟩
  · have h0 : i = 0 := by have := (List.getElem?_eq_some_iff.1 hi).1; simp at this; exact this
    subst h0
    have : u = x := by simpa using hi
    subst this
    simpa using h.cell j u hu
  · rw [List.mem_singleton.1 hx]
    exact h.ports u (List.mem_of_getElem? hu)

set_option maxRecDepth 8000 in
set_option maxHeartbeats 2000000 in
theorem made_bad {w : World} {ao : Option Addr} {n cap : Nat} {W : Int} (h : ¬ (1 ≤ W ∧ W ≤ 128)) : Calls Tryz.prog 9 #[.int .i64 W, .slice ao n cap] w fun e w' => e = .returned (.tuple #[.pointer none, .pointer none, .bool true]) ∧ Below w.heap.size w w' := by
  have HN := hid (fun X : World => New_bad (w := X) h)
  have HR := hid (fun X : World => RNew_bad (w := X) h)
  have p1 : ∀ (X : World), (binOp .eql 23 (.pointer none) (.pointer none)).run Tryz.prog X = .ok (.bool true) X := fun X => by
    have h : ∀ d : Nat, (Op.equalIn (d + 1) 23 (.pointer none) (.pointer none)).run Tryz.prog X = .ok true X := fun d => by
      simp [Op.equalIn, run_underlying Tryz.underlying23, sizeOf, typeInfo]
    simp only [binOp]
    simp [Op.equal, Op.maxDepth, h 9999]
  have p2 : ∀ (X : World), (binOp .eql 24 (.pointer none) (.pointer none)).run Tryz.prog X = .ok (.bool true) X := fun X => by
    have h : ∀ d : Nat, (Op.equalIn (d + 1) 24 (.pointer none) (.pointer none)).run Tryz.prog X = .ok true X := fun d => by
      simp [Op.equalIn, run_underlying Tryz.underlying24, sizeOf, typeInfo]
    simp only [binOp]
    simp [Op.equal, Op.maxDepth, h 9999]
  go_enter Tryz.func9, Tryz.ntmps9
  go_wp2_with fail
  refine (HN.out _).mono ?_
  rintro en w1 ⟨rfl, hw⟩
  subst hw
  go_wp2_with fail
  refine (HR.out _).mono ?_
  rintro en w2 ⟨rfl, hw⟩
  subst hw
  go_wp2_with fail
  refine wp_loop_rounds 1 ?_
  rw [rounds_succ]
  go_wp2
  refine bodyPost_ret (v := .tuple #[.pointer none, .pointer none, .bool true]) (by simp [results, Tryz.results9, go_sem]) rfl ⟨rfl, Below.refl _ _⟩

set_option maxRecDepth 20000 in
set_option maxHeartbeats 4000000 in
theorem made_good {w : World} {ao : Option Addr} {n cap : Nat} {W : Int} {cs : List (Int × Raw × Value)} (h : 1 ≤ W ∧ W ≤ 128) (hc : ChIn w ao cs) (hn : cs.length = n) (hnc : n ≤ cap) (hs : ∀ u ∈ cs, Small u.2.1.mat u.2.1.ports) (h63 : n ≤ maxLen) :
    Calls Tryz.prog 9 #[.int .i64 W, .slice ao n cap] w fun e w' => ∃ tb rb, e = .returned (.tuple #[.pointer (some ⟨tb, 0, none⟩), .pointer (some ⟨rb, 0, none⟩), .bool true]) ∧ Hid (Both w w' tb rb W (madeN W ((chs cs).take 100))) := by
  have HN := hid (New_good (w := w) h)
  have HR := hid (fun X : World => RNew_good (w := X) (Q := w.heap.size) h)
  have HC := hid hc
  have HLN := hid hn
  have HS := hid hs
  have p1 : ∀ (X : World) (a : Addr), (binOp .eql 23 (.pointer (some a)) (.pointer none)).run Tryz.prog X = .ok (.bool false) X := fun X a => by
    have h : ∀ d : Nat, (Op.equalIn (d + 1) 23 (.pointer (some a)) (.pointer none)).run Tryz.prog X = .ok false X := fun d => by
      simp [Op.equalIn, run_underlying Tryz.underlying23, sizeOf, typeInfo]
    simp only [binOp]
    simp [Op.equal, Op.maxDepth, h 9999]
  have p2 : ∀ (X : World) (a : Addr), (binOp .eql 24 (.pointer (some a)) (.pointer none)).run Tryz.prog X = .ok (.bool false) X := fun X a => by
    have h : ∀ d : Nat, (Op.equalIn (d + 1) 24 (.pointer (some a)) (.pointer none)).run Tryz.prog X = .ok false X := fun d => by
      simp [Op.equalIn, run_underlying Tryz.underlying24, sizeOf, typeInfo]
    simp only [binOp]
    simp [Op.equal, Op.maxDepth, h 9999]
  have h63I : (n : Int) ≤ 9223372036854775807 := by unfold maxLen at h63; omega
  clear hc hn hs
  go_enter Tryz.func9, Tryz.ntmps9
  go_wp2_with fail
  refine HN.out.mono ?_
  rintro en w1 ⟨rfl, h1⟩
  have HF1 := hid h1.out.1
  have B1 := hid h1.out.2
  clear h1
  go_wp2_with fail
  refine (HR.out _).mono ?_
  rintro en w2 ⟨rfl, h2⟩
  have HB2 := hid (show Both w w2 w.heap.size w1.heap.size W (madeN W ((chs cs).take 0)) from ⟨below_2 B1.out h2.out.2, Nat.le_refl _, B1.out.size, HF1.out.on h2.out.2, h2.out.1⟩)
  clear h2
  generalize w1.heap.size = rb at HB2 ⊢
  obtain ⟨tb, htb⟩ : ∃ tb, tb = w.heap.size := ⟨_, rfl⟩
  rw [← htb] at HB2 ⊢
  clear HN HR HF1 B1 htb
  go_wp2_with fail
  go_loopw [11] (fun vi wr => ∃ j : Nat, j ≤ n ∧ j ≤ 100 ∧ vi = .int .i64 j ∧ Hid (Both w wr tb rb W (madeN W ((chs cs).take j)))) (fun vi _ => n - (intOf vi).toNat)
  case atStart => exact ⟨0, Nat.zero_le _, Nat.zero_le _, rfl, HB2⟩
  case round =>
    clear HB2
    obtain ⟨j, hj, h100, rfl, HA⟩ := hrel
    rename World => wo
    by_cases hlt : j < n
    · have hjI : (j : Int) < (n : Int) := by omega
      have hj0 : (0 : Int) ≤ (j : Int) := by omega
      by_cases hl100 : j < 100
      · have hj100 : (j : Int) < 100 := by omega
        obtain ⟨u, hu⟩ : ∃ u, cs[j]? = some u := ⟨cs[j]'(by rw [HLN.out]; exact hlt), List.getElem?_eq_getElem _⟩
        obtain ⟨g, o, rfl⟩ : ∃ g o, ao = some ⟨g, o, none⟩ := by
          rcases HC.out with q | ⟨g, o, e, _⟩
          · rw [q] at hu; simp at hu
          · exact ⟨g, o, e⟩
        have HVW := hid (show ∀ X, Below w.heap.size w X → ChView X g o cs from fun X hX => by
          rcases HC.out.on hX with q | ⟨g', o', e, hv⟩
          · rw [q] at hu; simp at hu
          · cases e; exact hv)
        have HSM := hid (HS.out u (List.mem_of_getElem? hu))
        have HCU := hid (show (chs cs)[j]? = some (u.1, u.2.1) by rw [List.getElem?_map, hu]; rfl)
        have HTX := hid (show ∀ X, Below w.heap.size w X → Txs X u.2.2 u.2.1.ports from fun X hX => ((HVW.out X hX).ports u (List.mem_of_getElem? hu)).1)
        have HPL := hid (((HVW.out wo HA.out.low).ports u (List.mem_of_getElem? hu)).2)
        have HCL := hid (show ∀ X, Below w.heap.size w X → _ from fun X hX => (HVW.out X hX).cell j u hu)
        have HAT := hid (show ∀ X, Below w.heap.size w X → ChIn X (some ⟨g, o + j * 5, none⟩) [u] from fun X hX => Or.inr ⟨g, o + j * 5, rfl, (HVW.out X hX).at hu⟩)
        obtain ⟨kd, ⟨p, m, k, zs⟩, uv⟩ := u
        simp only at HSM HCU HTX HPL HCL
        obtain ⟨uo, uc, huv, _⟩ := HTX.out wo HA.out.low
        obtain ⟨un, hun⟩ : ∃ un, un = zs.length := ⟨_, rfl⟩
        rw [← hun] at huv
        subst huv
        clear hu hun
        obtain ⟨c0, c1, c2, c3, c4⟩ := HCL.out wo HA.out.low
        have HBW := hid (show Below wo.heap.size wo (wo.alloc (cob5 kd p m k (.slice uo un uc))) from (Below.refl _ _).alloc (Nat.le_refl _) _)
        have HDO := hid (Do_any (cap := 1) (n := 1) (HA.out.on HBW.out).fib (one_view (kd := kd) (p := p) (m := m) (k := k) (HTX.out wo HA.out.low) HPL.out) rfl (by decide))
        have HSNO := hid (madeN_snoc (W := W) HCU.out)
        go_wp2_with fail
        refine HDO.out.mono ?_
        rintro en w3 ⟨hg3, hd3⟩
        have HD3 := hid hd3
        have HL3 := hid (grown_low (HA.out.on HBW.out).low hg3 HA.out.ot)
        have HDT := hid (show DTab w3 w.heap.size rb W (madeN W ((chs cs).take j)) from by
          obtain ⟨cc, hcc⟩ := (HA.out.on HBW.out).fib.blk
          exact (HA.out.on HBW.out).doc.grew hg3 hcc)
        clear hg3 hd3
        have HRD := hid (RDo_any (n := 1) (cap := cap - j) HDT.out HL3.out.size HA.out.fib.good (HAT.out w3 HL3.out) rfl (fun x hx => by rw [List.mem_singleton.1 hx]; exact HSM.out) (by unfold maxLen; omega))
        have HKEEP := hid (show ∀ X, w3.grownBy X (some rb) → Below w.heap.size w X ∧ ∀ L, FTab w3 w.heap.size tb W L → FTab X w.heap.size tb W L from fun X hX => ⟨grown_low HL3.out hX HA.out.orr, fun L hL => by
          obtain ⟨cc, hcc⟩ := HDT.out.blk
          exact hL.grew hX hcc⟩)
        have hjc : (j : Int) ≤ (cap : Int) := by omega
        have hjc1 : (j : Int) < (cap : Int) := by omega
        have hjc2 : (j : Int) + 1 ≤ (cap : Int) := by omega
        clear c0 c1 c2 c3 c4
        rw [show chs [((kd, (⟨p, m, k, zs⟩ : Raw), Value.slice uo un uc) : Int × Raw × Value)] = [(kd, ⟨p, m, k, zs⟩)] from rfl, run_one] at HD3
        cases hst : stepN W (madeN W ((chs cs).take j)) kd ⟨p, m, k, zs⟩ with
        | ok L2 =>
          have HST := hid hst
          have HE := hid (show madeN W ((chs cs).take (j + 1)) = L2 by rw [HSNO.out]; unfold stN; rw [hst])
          obtain ⟨rfl, HF3⟩ : en = .returned (.tuple #[.int .i64 0, .int .i64 0]) ∧ Hid (FTab w3 w.heap.size tb W L2) := by
            rcases HD3.out with ⟨L', h1, h2, h3⟩ | ⟨i, er, h1, _⟩
            · rw [hst] at h1; injection h1 with h1; subst h1; exact ⟨h2, h3⟩
            · rw [hst] at h1; cases h1
          clear hst HD3
          go_wp2_with fail
          refine HRD.out.mono ?_
          rintro en w4 ⟨hg4, hd4⟩
          rw [show chs [((kd, (⟨p, m, k, zs⟩ : Raw), Value.slice uo un uc) : Int × Raw × Value)] = [(kd, ⟨p, m, k, zs⟩)] from rfl, run_one, HST.out] at hd4
          obtain ⟨rfl, HR4⟩ : en = .returned (.tuple #[.int .i64 0, .int .i64 0]) ∧ Hid (DTab w4 w.heap.size rb W L2) := by
            rcases hd4 with ⟨L', h1, h2, h3⟩ | ⟨i, er, h1, _⟩
            · injection h1 with h1; subst h1; exact ⟨h2, h3⟩
            · cases h1
          have HA4 := hid (show Both w w4 tb rb W (madeN W ((chs cs).take (j + 1))) from by rw [HE.out]; exact ⟨(HKEEP.out _ hg4).1, HA.out.ot, HA.out.orr, (HKEEP.out _ hg4).2 _ HF3.out, HR4.out⟩)
          clear hg4 hd4
          go_wp2
          go_roundw
          case rel => exact ⟨j + 1, by omega, by omega, by go_num, HA4⟩
          case measure => simp [intOf]; omega
        | error er =>
          have HST := hid hst
          have HE := hid (show madeN W ((chs cs).take (j + 1)) = madeN W ((chs cs).take j) by rw [HSNO.out]; unfold stN; rw [hst])
          obtain ⟨rfl, HF3⟩ : en = .returned (.tuple #[.int .i64 0, .int .i64 er]) ∧ Hid (FTab w3 w.heap.size tb W (madeN W ((chs cs).take j))) := by
            rcases HD3.out with ⟨L', h1, h2, h3⟩ | ⟨i, er', h1, _, h2, h3⟩
            · rw [hst] at h1; cases h1
            · rw [hst] at h1; injection h1 with h1; injection h1 with h1 h4; subst h1 h4; exact ⟨h2, h3⟩
          clear hst HD3
          go_wp2_with fail
          refine HRD.out.mono ?_
          rintro en w4 ⟨hg4, hd4⟩
          rw [show chs [((kd, (⟨p, m, k, zs⟩ : Raw), Value.slice uo un uc) : Int × Raw × Value)] = [(kd, ⟨p, m, k, zs⟩)] from rfl, run_one, HST.out] at hd4
          obtain ⟨rfl, HR4⟩ : en = .returned (.tuple #[.int .i64 0, .int .i64 er]) ∧ Hid (DTab w4 w.heap.size rb W (madeN W ((chs cs).take j))) := by
            rcases hd4 with ⟨L', h1, h2, h3⟩ | ⟨i, er', h1, _, h2, h3⟩
            · cases h1
            · injection h1 with h1; injection h1 with h1 h4; subst h1 h4; exact ⟨h2, h3⟩
          have HA4 := hid (show Both w w4 tb rb W (madeN W ((chs cs).take (j + 1))) from by rw [HE.out]; exact ⟨(HKEEP.out _ hg4).1, HA.out.ot, HA.out.orr, (HKEEP.out _ hg4).2 _ HF3.out, HR4.out⟩)
          clear hg4 hd4
          have hee : (er != er) = false := by simp
          go_wp2
          go_roundw
          case rel => exact ⟨j + 1, by omega, by omega, by go_num, HA4⟩
          case measure => simp [intOf]; omega
      · have hj100 : ¬ (j : Int) < 100 := by omega
        have HEND := hid (show Both w wo tb rb W (madeN W ((chs cs).take 100)) from by
          have e100 : j = 100 := by omega
          rw [e100] at HA
          exact HA.out)
        go_wp2
        refine bodyPost_ret (v := .tuple #[.pointer (some ⟨tb, 0, none⟩), .pointer (some ⟨rb, 0, none⟩), .bool true]) (by simp [results, Tryz.results9, go_sem]) rfl ⟨tb, rb, rfl, HEND⟩
    · have hjI : ¬ ((j : Int) < (n : Int)) := by omega
      have HEND := hid (show Both w wo tb rb W (madeN W ((chs cs).take 100)) from by
        have e1 : (chs cs).take j = (chs cs).take 100 := by rw [List.take_of_length_le (by rw [List.length_map, HLN.out]; omega), List.take_of_length_le (by rw [List.length_map, HLN.out]; omega)]
        rw [e1] at HA; exact HA.out)
      go_wp2
      refine bodyPost_ret (v := .tuple #[.pointer (some ⟨tb, 0, none⟩), .pointer (some ⟨rb, 0, none⟩), .bool true]) (by simp [results, Tryz.results9, go_sem]) rfl ⟨tb, rb, rfl, HEND⟩
end Go.Proofs.YtipmlcdnfaobiaaGreat
namespace Go.Proofs.YtipmlcdnfaobiaaGreat
open Go.RowKit

/-- A row of rules for reading, wherever it lies. -/
def RowV (w : World) (v : Value) (n : Nat) (qs : List (Raw × Value)) : Prop := qs.length = n ∧ ∃ ao c, v = .slice ao n c ∧ (qs = [] ∨ ∃ g o, ao = some ⟨g, o, none⟩ ∧ RawView w g o qs)
theorem RawView.onV {w w' : World} {g o : Nat} {ps : List (Raw × Value)} (hv : RawView w g o ps) (hb : Below w.heap.size w w') : RawView w' g o ps :=
  ⟨Nat.lt_of_lt_of_le hv.old hb.size, fun i q hq => by
    obtain ⟨c0, c1, c2, c3⟩ := hv.cell i q hq
    exact ⟨(hb.cell (by exact hv.old)).trans c0, (hb.cell (by exact hv.old)).trans c1, (hb.cell (by exact hv.old)).trans c2, (hb.cell (by exact hv.old)).trans c3⟩, fun q hq => ⟨(hv.ports q hq).1.below hb, (hv.ports q hq).2⟩⟩
theorem RowV.on {w w' : World} {v : Value} {n : Nat} {qs : List (Raw × Value)} (h : RowV w v n qs) (hb : Below w.heap.size w w') : RowV w' v n qs := by
  obtain ⟨hn, ao, c, e, q | ⟨g, o, e2, hv⟩⟩ := h
  · exact ⟨hn, ao, c, e, Or.inl q⟩
  · exact ⟨hn, ao, c, e, Or.inr ⟨g, o, e2, hv.onV hb⟩⟩
theorem OwnR.rowV {w : World} {B : Nat} {v : Value} {ps : List (Raw × Value)} (h : OwnR w B v ps) (hp : ∀ q ∈ ps, Txs w q.2 q.1.ports ∧ ∀ p ∈ q.1.ports, p.length ≤ maxLen) : RowV w v ps.length ps := by
  obtain ⟨ao, c, rfl, _, _⟩ := h.form
  refine ⟨rfl, ao, c, rfl, ?_⟩
  rcases own_cells h.own with ⟨_, h0, _⟩ | ⟨g, e, _, _, hg, hc⟩
  · exact Or.inl (List.length_eq_zero_iff.1 h0)
  · refine Or.inr ⟨g, 0, e, hg, fun i q hq => ?_, hp⟩
    obtain ⟨h0, h1, h2, h3⟩ := flatV_get hq
    rw [Nat.zero_add]
    exact ⟨hc _ _ h0, hc _ _ h1, hc _ _ h2, hc _ _ h3⟩
theorem DocL.rowV {w : World} {B Q : Nat} {v : Value} {ps : List (Raw × Value)} (h : DocL w B Q v ps) : RowV w v ps.length ps := h.own.rowV h.txs
theorem good_small {W : Int} {L : List Raw} (h : GoodT W L) {ps : List (Raw × Value)} (e : ps.map Prod.fst = L) : ∀ q ∈ ps, Small q.1.mat q.1.ports := fun q hq => (errR_small (h.ok q.1 (by rw [← e]; exact List.mem_map_of_mem hq))).1
theorem good_len {W : Int} {L : List Raw} (h : GoodT W L) {ps : List (Raw × Value)} (e : ps.map Prod.fst = L) : ∀ q ∈ ps, q.1.ports.length ≤ maxLen := fun q hq => by
  have := (good_small h e q hq).2.1
  unfold maxLen
  omega
theorem good_each {W : Int} {L : List Raw} (h : GoodT W L) {ps : List (Raw × Value)} (e : ps.map Prod.fst = L) : ∀ q ∈ ps, ∀ p ∈ q.1.ports, p.length ≤ maxLen := fun q hq p hp => by
  have := (good_small h e q hq).2.2 p hp
  unfold maxLen
  omega
theorem same_rows {w : World} {v1 v2 : Value} {n : Nat} {q1 q2 : List (Raw × Value)} {W : Int} {L : List Raw} (h1 : RowV w v1 n q1) (h2 : RowV w v2 n q2) (hg : GoodT W L) (e1 : q1.map Prod.fst = L) (e2 : q2.map Prod.fst = L) :
    Calls Tryz.prog 11 #[v1, v2] w fun e w' => e = .returned (.bool true) ∧ Below w.heap.size w w' := by
  obtain ⟨l1, a1, c1, rfl, k1⟩ := h1
  obtain ⟨l2, a2, c2, rfl, k2⟩ := h2
  have hf := hg.few
  rw [← e1, List.length_map] at hf
  rcases k1 with k1 | ⟨g, o, rfl, k1⟩
  · subst k1
    have : n = 0 := l1.symm
    subst this
    exact SameRules_none _ _ _ _ _
  · rcases k2 with k2 | ⟨g2, o2, rfl, k2⟩
    · subst k2
      have : n = 0 := l2.symm
      subst this
      exact SameRules_none _ _ _ _ _
    · exact SameRules_rr c1 c2 n k1 (good_len hg e1) k2 l1 l2 (by rw [e1, e2]) (by omega)
theorem sorted_stays {ps : List (Raw × Value)} {M : List Nat} (hs : Srt (ps.map Prod.fst)) (hM : Pc (cmpAt ps) 0 ps.length M) : M.map (rawAt ps) = ps.map Prod.fst := by
  have ha : Apart_ ps ps.length := fun i j hij hj q => by
    have := List.pairwise_iff_getElem.1 hs i j (by rw [List.length_map]; omega) (by rw [List.length_map]; omega) hij
    rw [List.getElem_map, List.getElem_map] at this
    rw [rawAt_some (List.getElem?_eq_getElem hj), rawAt_some (List.getElem?_eq_getElem (show i < ps.length by omega))] at q
    rw [cmpR_same q.symm] at this
    omega
  exact one_way (R := fun a b => cmpR a b < 0) (fun a b h k => cmpR_asy h k) (raw_rise hM ha) hs (raw_perm hM)

/-- What Rules tells. -/
def RulesPost (w : World) (L : List Raw) (e : Ending) (w' : World) : Prop := ∃ v qs, e = .returned v ∧ (∃ a n c, v = .slice a n c) ∧ RowV w' v L.length qs ∧ qs.map Prod.fst = L ∧ (∀ q ∈ qs, Ported w' w.heap.size q.2 q.1.ports) ∧ Below w.heap.size w w'

set_option maxRecDepth 4000 in
set_option maxHeartbeats 1000000 in
theorem copies_any {w : World} {v : Value} {n : Nat} {W : Int} {L : List Raw} {ps : List (Raw × Value)} (h : RowV w v n ps) (hg : GoodT W L) (e : ps.map Prod.fst = L) : Calls Tryz.prog 32 #[v] w fun e w' => RulesPost w L e w' := by
  obtain ⟨hn, ao, c, rfl, k⟩ := h
  have hf := hg.few
  rw [← e, List.length_map, hn] at hf
  have hl : L.length = n := by rw [← e, List.length_map, hn]
  rcases k with k | ⟨g, o, rfl, k⟩
  · subst k
    have hn0 : n = 0 := hn.symm
    subst hn0
    have HO := hid (Order_none (w := w) (ao := ao) (cap := c))
    have HL := hid (show L = [] from e.symm)
    clear hn hf hl e hg
    go_enter Tryz.func32, Tryz.ntmps32
    go_wp2_with fail
    refine HO.out.mono ?_
    rintro en w2 ⟨ob, rfl, hb⟩
    have HB := hid hb
    clear hb
    go_wp2
    go_ret
    rw [HL.out]
    exact ⟨_, [], rfl, ⟨_, _, _, rfl⟩, ⟨rfl, _, _, rfl, Or.inl rfl⟩, rfl, (fun q hq => by cases hq), HB.out⟩
  · refine (copies_some k hn hf (good_small hg e)).mono ?_
    rintro en w' ⟨ob, qs, M, hP⟩
    have hP := hP.out
    have hM := hP.sorted
    rw [← hn] at hM
    have hq : qs.map Prod.fst = L := by rw [hP.same, sorted_stays (by rw [e]; exact hg.srt) hM, e]
    have hql : qs.length = n := by rw [← hl, ← hq, List.length_map]
    refine ⟨_, qs, hP.told, ⟨_, _, _, rfl⟩, ⟨by rw [hl]; exact hql, _, _, by rw [hl], Or.inr ⟨ob, 0, rfl, hP.view⟩⟩, hq, hP.own, hP.low⟩

set_option maxRecDepth 4000 in
set_option maxHeartbeats 1000000 in
theorem Rules_any {w : World} {Bp tb : Nat} {W : Int} {L : List Raw} (hF : FTab w Bp tb W L) :
    Calls Tryz.prog 12 #[.pointer (some ⟨tb, 0, none⟩)] w fun e w' => RulesPost w L e w' := by
  obtain ⟨v, ps, ht, he⟩ := hF.ex
  have HC := hid (copies_any (w := w) (ht.list.rowV (fun q hq => ⟨(ht.ports q hq).txs, good_each ht.good rfl q hq⟩)) hF.good he)
  obtain ⟨lo, lc, hv, _⟩ := ht.list.form
  subst hv
  have t1 : w.cell? ⟨tb, 1, none⟩ = some (.slice lo ps.length lc) := by rw [cell_at ht.blk]; rfl
  have HMD := hid (made_yes ht.blk)
  clear ht hF he
  go_enter Tryz.func12, Tryz.ntmps12
  go_wp2_with fail
  refine HMD.out.mono ?_
  rintro en w1 ⟨rfl, hw1⟩
  subst hw1
  go_wp2_with fail
  refine HC.out.mono ?_
  rintro en w2 ⟨v2, qs, rfl, ⟨a2, n2, c2, rfl⟩, h2⟩
  have H2 := hid h2
  clear h2
  go_wp2
  go_ret
  exact ⟨_, qs, rfl, ⟨_, _, _, rfl⟩, H2.out⟩
set_option maxRecDepth 4000 in
set_option maxHeartbeats 1000000 in
theorem Width_any {w : World} {Bp tb : Nat} {W : Int} {L : List Raw} (hF : FTab w Bp tb W L) :
    Calls Tryz.prog 16 #[.pointer (some ⟨tb, 0, none⟩)] w fun e w' => e = .returned (.int .i64 W) ∧ w' = w := by
  obtain ⟨v, ps, ht, rfl⟩ := hF.ex
  have t1 : w.cell? ⟨tb, 0, none⟩ = some (.int .i64 W) := by rw [cell_at ht.blk]; rfl
  have HMD := hid (made_yes ht.blk)
  clear ht hF
  go_enter Tryz.func16, Tryz.ntmps16
  go_wp2_with fail
  refine HMD.out.mono ?_
  rintro en w1 ⟨rfl, hw1⟩
  subst hw1
  go_wp2
  go_ret
  exact ⟨rfl, rfl⟩
end Go.Proofs.YtipmlcdnfaobiaaGreat
namespace Go.Proofs.YtipmlcdnfaobiaaGreat
open Go.RowKit

theorem eqlR_none (w : World) (a : Addr) : (binOp .eql 24 (.pointer (some a)) (.pointer none)).run Tryz.prog w = .ok (.bool false) w := by
  have h : ∀ d : Nat, (Op.equalIn (d + 1) 24 (.pointer (some a)) (.pointer none)).run Tryz.prog w = .ok false w := fun d => by
    simp [Op.equalIn, run_underlying Tryz.underlying24, sizeOf, typeInfo]
  simp only [binOp]
  simp [Op.equal, Op.maxDepth, h 9999]
theorem eqlR_two (w : World) : (binOp .eql 24 (.pointer none) (.pointer none)).run Tryz.prog w = .ok (.bool true) w := by
  have h : ∀ d : Nat, (Op.equalIn (d + 1) 24 (.pointer none) (.pointer none)).run Tryz.prog w = .ok true w := fun d => by
    simp [Op.equalIn, run_underlying Tryz.underlying24, sizeOf, typeInfo]
  simp only [binOp]
  simp [Op.equal, Op.maxDepth, h 9999]
theorem madeN_good {W : Int} (h : 1 ≤ W ∧ W ≤ 128) (cs : List (Int × Raw)) : GoodT W (madeN W cs) := by
  have : ∀ (cs : List (Int × Raw)) (L : List Raw), GoodT W L → GoodT W (cs.foldl (stN W) L) := by
    intro cs
    induction cs with
    | nil => exact fun L h => h
    | cons c cs ih =>
      intro L h
      refine ih _ ?_
      unfold stN
      split
      · rename_i q; exact h.step q
      · exact h
  exact this cs [] (GoodT.nil h)
/-- The document's rules, as they lie. -/
theorem DTab.row {w : World} {Q rb : Nat} {W : Int} {L : List Raw} (h : DTab w Q rb W L) : ∃ lo lc, w.cell? ⟨rb, 1, none⟩ = some (.slice lo L.length lc) ∧ ∃ qs, qs.map Prod.fst = L ∧ RowV w (.slice lo L.length lc) L.length qs ∧ DocL w 0 Q (.slice lo L.length lc) qs := by
  obtain ⟨v, ps, hB, hd, e⟩ := h.ex
  obtain ⟨lo, lc, rfl, _⟩ := hd.own.form
  have hl : ps.length = L.length := by rw [← e, List.length_map]
  have hr := hd.rowV
  rw [hl] at hr hB hd
  exact ⟨lo, lc, by rw [cell_at hB]; rfl, ps, e, hr, hd⟩

/-- Rules of a table, and then the rules held against the document's. -/
theorem Both.two {w0 w : World} {tb rb : Nat} {W : Int} {L : List Raw} (h : Both w0 w tb rb W L) : ∃ lo nl lc, nl = L.length ∧ w.cell? ⟨rb, 1, none⟩ = some (.slice lo nl lc) ∧ ∀ X, Below w.heap.size w X → Calls Tryz.prog 12 #[.pointer (some ⟨tb, 0, none⟩)] X fun e w' => ∃ a n c, e = .returned (.slice a n c) ∧ Below X.heap.size X w' ∧ w'.cell? ⟨rb, 1, none⟩ = some (.slice lo nl lc) ∧ Calls Tryz.prog 11 #[.slice a n c, .slice lo nl lc] w' fun e w'' => e = .returned (.bool true) ∧ Below w'.heap.size w' w'' := by
  obtain ⟨lo, lc, hc, qs, e, hr, _⟩ := h.doc.row
  refine ⟨lo, L.length, lc, rfl, hc, fun X hX => (Rules_any (h.fib.on hX)).mono ?_⟩
  rintro en w' ⟨v, qs2, rfl, ⟨a, n, c, rfl⟩, h2, e2, _, hb⟩
  have hb2 := below_2 hX hb
  exact ⟨a, n, c, rfl, hb, (hb2.cell (block_old hc)).trans hc, same_rows h2 (hr.on hb2) h.fib.good e2 e⟩

set_option maxRecDepth 20000 in
set_option maxHeartbeats 4000000 in
theorem fchanges_bad {w : World} {ao bo : Option Addr} {n cap n2 cap2 : Nat} {W : Int} (h : ¬ (1 ≤ W ∧ W ≤ 128)) : Calls Tryz.prog 3 #[.int .i64 W, .slice ao n cap, .slice bo n2 cap2] w fun e w' => e = .returned (.bool true) ∧ Below w.heap.size w w' := by
  have HM := hid (made_bad (w := w) (ao := ao) (n := n) (cap := cap) h)
  have p2 := eqlR_two
  go_enter Tryz.func3, Tryz.ntmps3
  go_wp2_with fail
  refine HM.out.mono ?_
  rintro en w1 ⟨rfl, hb1⟩
  have B1 := hid hb1
  clear hb1
  go_wp2_with (go_at_call 10; refine (fawake _).mono ?_; rintro e wz ⟨rfl, hbz⟩; have BZ := hid (below_2 B1.out hbz); clear hbz)
  go_ret
  exact ⟨rfl, BZ.out⟩

set_option maxRecDepth 20000 in
set_option maxHeartbeats 4000000 in
theorem fchanges_good {w : World} {ao bo : Option Addr} {n cap n2 cap2 : Nat} {W : Int} {cs ds : List (Int × Raw × Value)} (h : 1 ≤ W ∧ W ≤ 128) (hc : ChIn w ao cs) (hn : cs.length = n) (hnc : n ≤ cap) (hs : ∀ u ∈ cs, Small u.2.1.mat u.2.1.ports) (h63 : n ≤ maxLen)
    (hd : ChIn w bo ds) (hdn : ds.length = n2) (hds : ∀ u ∈ ds, Small u.2.1.mat u.2.1.ports) (hd64 : n2 * 64 ≤ 140737488355328) : Calls Tryz.prog 3 #[.int .i64 W, .slice ao n cap, .slice bo n2 cap2] w fun e w' => e = .returned (.bool true) ∧ Below w.heap.size w w' := by
  have HM := hid (made_good h hc hn hnc hs h63)
  have HG := hid (madeN_good h ((chs cs).take 100))
  have HC := hid hd
  have HN := hid hdn
  have HS := hid hds
  have p2 := eqlR_none
  obtain ⟨L, hL⟩ : ∃ L, L = madeN W ((chs cs).take 100) := ⟨_, rfl⟩
  rw [← hL] at HM HG
  clear hc hn hs hd hdn hds hL
  go_enter Tryz.func3, Tryz.ntmps3
  go_wp2_with fail
  refine HM.out.mono ?_
  rintro en w1 ⟨tb, rb, rfl, h1⟩
  have B1 := hid h1.out
  clear h1
  go_wp2_with (first | (go_at_call 10; refine (fawake _).mono ?_; rintro e wz ⟨rfl, hbz⟩; have BZ := hid (B1.out.on hbz); clear hbz) | fail)
  obtain ⟨lo, nl, lc, -, hS0, hr1⟩ := BZ.out.two
  have HR1 := hid hr1
  clear hr1
  go_region_held2 (fun W' => W'.cell? ⟨rb, 1, none⟩ = some (.slice lo nl lc)) (first | exact hS0 | exact hS2 | exact hS3) (first | (go_at_call 12; refine (HR1.out _ ((Below.refl _ _).drew)).mono ?_; rintro en w2 ⟨a2, n2', c2, rfl, hb2, hS2, hsm⟩; have HSM := hid hsm; have HB2 := hid (below_2 ((Below.refl wz.heap.size wz).drew) hb2); clear hb2 hsm) | (go_at_call 11; refine HSM.out.mono ?_; rintro en w3 ⟨rfl, hb3⟩; have hS3 := (hb3.cell (block_old hS2)).trans hS2; have B3 := hid (BZ.out.on (below_2 HB2.out hb3)); clear hb3))
  clear hS0 hS2 hS3 HR1 HSM
  have HDO := hid (Do_any (cap := cap2) B3.out.fib (HC.out.on B3.out.low) HN.out hd64)
  go_wp2_with fail
  refine HDO.out.mono ?_
  rintro en w4 ⟨hg4, hd4⟩
  have HD4 := hid hd4
  have HL4 := hid (grown_low B3.out.low hg4 B3.out.ot)
  have HDT := hid (show DTab w4 w.heap.size rb W L from by
    obtain ⟨cc, hcc⟩ := B3.out.fib.blk
    exact B3.out.doc.grew hg4 hcc)
  clear hg4 hd4
  have HRD := hid (RDo_any (cap := cap2) HDT.out HL4.out.size HG.out (HC.out.on HL4.out) HN.out HS.out (by unfold maxLen; omega))
  have HKEEP := hid (show ∀ X, w4.grownBy X (some rb) → Below w.heap.size w X ∧ ∀ L, FTab w4 w.heap.size tb W L → FTab X w.heap.size tb W L from fun X hX => ⟨grown_low HL4.out hX B3.out.orr, fun L hL => by
    obtain ⟨cc, hcc⟩ := HDT.out.blk
    exact hL.grew hX hcc⟩)
  obtain ⟨x, y, L2, rfl, hres⟩ : ∃ (x y : Int) (L2 : List Raw), en = .returned (.tuple #[.int .i64 x, .int .i64 y]) ∧ FTab w4 w.heap.size tb W L2 ∧ ∀ e5 w5, RDoPost w4 w.heap.size rb W L (chs ds) e5 w5 → e5 = .returned (.tuple #[.int .i64 x, .int .i64 y]) ∧ Both w w5 tb rb W L2 := by
    rcases HD4.out with ⟨L', h1, h2, h3⟩ | ⟨i, er, h1, _, h2, h3⟩
    · refine ⟨0, 0, L', h2, h3, fun e5 w5 ⟨hg5, hd5⟩ => ?_⟩
      rcases hd5 with ⟨L5, k1, k2, k3⟩ | ⟨i5, er5, k1, _⟩
      · rw [h1] at k1; injection k1 with k1; subst k1
        exact ⟨k2, (HKEEP.out _ hg5).1, B3.out.ot, B3.out.orr, (HKEEP.out _ hg5).2 _ h3, k3⟩
      · rw [h1] at k1; cases k1
    · refine ⟨i, er, L, h2, h3, fun e5 w5 ⟨hg5, hd5⟩ => ?_⟩
      rcases hd5 with ⟨L5, k1, k2, k3⟩ | ⟨i5, er5, k1, _, k2, k3⟩
      · rw [h1] at k1; cases k1
      · rw [h1] at k1; injection k1 with k1; injection k1 with k1 k4; subst k1 k4
        exact ⟨k2, (HKEEP.out _ hg5).1, B3.out.ot, B3.out.orr, (HKEEP.out _ hg5).2 _ h3, k3⟩
  have HRES := hid hres
  clear hres HD4
  go_wp2_with fail
  refine HRD.out.mono ?_
  rintro en w5 hp5
  obtain ⟨rfl, hB5⟩ := HRES.out.2 _ _ hp5
  have B5 := hid hB5
  clear hp5 hB5
  obtain ⟨lo5, nl5, lc5, hnl, hT0, hr5⟩ := B5.out.two
  have HR5 := hid hr5
  have HLEN := hid (show ∀ X, Below w5.heap.size w5 X → Calls Tryz.prog 15 #[.pointer (some ⟨tb, 0, none⟩)] X fun e w' => e = .returned (.int .i64 (nl5 : Int)) ∧ w' = X from fun X hX => by rw [hnl]; exact Len_any (B5.out.fib.on hX))
  clear hr5 hnl
  have exx : (x == x) = true := by simp
  have eyy : (y == y) = true := by simp
  have eww : (W == W) = true := by simp
  have enn : ((nl5 : Int) == (nl5 : Int)) = true := by simp
  have HFL := hid (show ∀ X, Below w5.heap.size w5 X → X.cell? ⟨rb, 1, none⟩ = some (.slice lo5 nl5 lc5) from fun X hX => (hX.cell (block_old hT0)).trans hT0)
  clear HM HKEEP HRES HDO HRD HC HS HN HG HL4 HDT B1 BZ B3 HB2 p2 HFL hd64 h63 hnc h
  go_wp2_with fail
  go_region_held2 (fun W' => W'.cell? ⟨rb, 1, none⟩ = some (.slice lo5 nl5 lc5)) (first | exact hT0 | exact hT2 | exact hT3) (first | (go_at_call 12; refine (HR5.out _ ((Below.refl _ _).drew)).mono ?_; rintro en w6 ⟨a6, n6, c6, rfl, hb6, hT2, hsm⟩; have HSM := hid hsm; have HB6 := hid (below_2 ((Below.refl w5.heap.size w5).drew) hb6); clear hb6 hsm) | (go_at_call 11; refine HSM.out.mono ?_; rintro en w7 ⟨rfl, hb7⟩; have hT3 := (hb7.cell (block_old hT2)).trans hT2; have HB7 := hid (below_2 HB6.out hb7); clear hb7) | (go_at_call 15; refine (HLEN.out _ HB7.out).mono ?_; rintro en w8 ⟨rfl, hw8⟩; subst hw8) | (go_at_call 16; refine (Width_any (B5.out.fib.on HB7.out)).mono ?_; rintro en w9 ⟨rfl, hw9⟩; subst hw9))
  go_wp2
  go_ret
  exact ⟨rfl, (B5.out.on HB7.out).low⟩
end Go.Proofs.YtipmlcdnfaobiaaGreat
namespace Go.Proofs.YtipmlcdnfaobiaaGreat
open Go.RowKit

theorem head_eq {W : Int} {h : List UInt8} (hw : 1 ≤ W ∧ W ≤ 128) : headB W h = ((!Cub.hasX (tx h) && Cub.Cu.right h) && decide ((h.length : Int) = W)) := by
  have hr : Cub.Cu.right (List.replicate W.toNat 120) = true := by
    unfold Cub.Cu.right
    rw [List.length_replicate]
    simp only [Bool.and_eq_true, decide_eq_true_eq, List.all_eq_true]
    refine ⟨⟨fun x hx => ?_, by omega⟩, by omega⟩
    rw [List.eq_of_mem_replicate hx]; rfl
  have e1 : (tx h).data.toList = h := rfl
  have e2 : (⟨(List.replicate W.toNat 120).toArray⟩ : ByteArray).data.toList = List.replicate W.toNat 120 := rfl
  have e3 : (tx h).size = h.length := rfl
  have e4 : (⟨(List.replicate W.toNat 120).toArray⟩ : ByteArray).size = W.toNat := by show (List.replicate W.toNat (120 : UInt8)).toArray.size = _; simp
  unfold headB Cub.errH Cub.err2
  rw [e1, e2, e3, e4, hr]
  cases hx : Cub.hasX (tx h) with
  | true => simp
  | false =>
    cases hc : Cub.Cu.right h with
    | false => simp
    | true =>
      simp only [Bool.false_eq_true, if_false, and_self, if_true, Bool.not_false, Bool.and_self, Bool.true_and]
      by_cases he : (h.length : Int) = W
      · rw [if_pos (by omega)]; simp [he]
      · rw [if_neg (by omega)]; simp [he]
/-- No rule. -/
def zeroR : Raw := ⟨0, [], 0, []⟩
/-- The rule that a header meets, whether there is one, and the error. -/
def meetR (W : Int) (L : List Raw) (h : List UInt8) : Raw × Bool × Int :=
  if headB W h = false then (zeroR, false, 21) else if metN L h < 0 then (zeroR, false, 0) else (L.getD (metN L h).toNat zeroR, true, 0)
/-- What is done with a header. -/
def lookR (W : Int) (L : List Raw) (h : List UInt8) : Int × List (List UInt8) × Int :=
  if headB W h = false then (0, [], 21) else if metN L h < 0 then (1, [], 0) else ((L.getD (metN L h).toNat zeroR).kind, (L.getD (metN L h).toNat zeroR).ports, 0)
theorem Ported.none (w : World) (B : Nat) : Ported w B (.slice none 0 0) [] := ⟨_, _, rfl, Nat.le_refl _, Or.inl rfl⟩
def MeetV (w' : World) (r : Raw × Bool × Int) (e : Ending) : Prop := ∃ a n c, e = .returned (.tuple #[.agg #[.int .i64 r.1.prio, .string (tx r.1.mat), .int .i64 r.1.kind, .slice a n c], .bool r.2.1, .int .i64 r.2.2]) ∧ Ported w' 0 (.slice a n c) r.1.ports
def LookV (w' : World) (r : Int × List (List UInt8) × Int) (e : Ending) : Prop := ∃ a n c, e = .returned (.tuple #[.agg #[.int .i64 r.1, .slice a n c], .int .i64 r.2.2]) ∧ Ported w' 0 (.slice a n c) r.2.1
theorem MeetPost.v {w w' : World} {W : Int} {L : List Raw} {h : List UInt8} {e : Ending} (hp : MeetPost w W L h e w') : MeetV w' (meetR W L h) e := by
  unfold meetR
  rcases hp.2 with ⟨h1, h2⟩ | ⟨h1, h2, h3⟩ | ⟨h1, j, r, ao, n, c, h2, h3, h4, h5⟩
  · rw [if_pos h1]
    exact ⟨none, 0, 0, h2, Ported.none _ _⟩
  · rw [if_neg (by rw [h1]; decide), if_pos h2]
    exact ⟨none, 0, 0, h3, Ported.none _ _⟩
  · rw [if_neg (by rw [h1]; decide), if_neg (by omega), h3, show ((j : Int)).toNat = j from rfl, List.getD_eq_getElem?_getD, h2]
    exact ⟨ao, n, c, h4, h5.mono (Nat.zero_le _)⟩
theorem LookPost.v {w w' : World} {W : Int} {L : List Raw} {h : List UInt8} {e : Ending} (hp : LookPost w W L h e w') : LookV w' (lookR W L h) e := by
  unfold lookR
  rcases hp.2 with ⟨h1, h2⟩ | ⟨h1, h2, h3⟩ | ⟨h1, j, r, ao, n, c, h2, h3, h4, h5⟩
  · rw [if_pos h1]
    exact ⟨none, 0, 0, h2, Ported.none _ _⟩
  · rw [if_neg (by rw [h1]; decide), if_pos h2]
    exact ⟨none, 0, 0, h3, Ported.none _ _⟩
  · rw [if_neg (by rw [h1]; decide), if_neg (by omega), h3, show ((j : Int)).toNat = j from rfl, List.getD_eq_getElem?_getD, h2]
    exact ⟨ao, n, c, h4, h5.mono (Nat.zero_le _)⟩
theorem metN_eq {L : List Raw} {h : List UInt8} {r : Raw} {j : Nat} (hj : L[j]? = some r) (hl : liesB r h = true) (hno : ∀ b ∈ L.take j, liesB b h = false) : metN L h = (j : Int) := by
  have : L.findIdx? (fun a => liesB a h) = some j := by
    rw [List.findIdx?_eq_some_iff_getElem]
    obtain ⟨hlt, e⟩ := List.getElem?_eq_some_iff.1 hj
    refine ⟨hlt, by rw [e]; exact hl, fun i hi => ?_⟩
    rw [hno _ (List.mem_take_iff_getElem.2 ⟨i, by omega, rfl⟩)]
    decide
  unfold metN
  rw [this]
theorem metN_no {L : List Raw} {h : List UInt8} (hno : ∀ b ∈ L, liesB b h = false) : metN L h = -1 := by
  have : L.findIdx? (fun a => liesB a h) = none := by
    rw [List.findIdx?_eq_none_iff]
    exact hno
  unfold metN
  rw [this]

set_option maxRecDepth 20000 in
set_option maxHeartbeats 4000000 in
theorem RMeets_any {w : World} {Q rb : Nat} {W : Int} {L : List Raw} {h : List UInt8} (hD : DTab w Q rb W L) (hg : GoodT W L) (hh : h.length ≤ maxLen) :
    Calls Tryz.prog 18 #[.pointer (some ⟨rb, 0, none⟩), .string (tx h)] w fun e w' => MeetV w' (meetR W L h) e ∧ Below w.heap.size w w' := by
  obtain ⟨v, ps, hB, hd, he⟩ := hD.ex
  obtain ⟨lo, lc, hv, -, -⟩ := hd.own.form
  subst hv
  obtain ⟨n, hn⟩ : ∃ n, n = ps.length := ⟨_, rfl⟩
  rw [← hn] at hB hd
  have HN := hid hn
  have HD := hid hd
  have HE := hid he
  have HG := hid hg
  have HMH := hid hh
  have hn4 : n ≤ 4096 := by have := hg.few; rw [← he, List.length_map, ← hn] at this; exact this
  have HB0 := hid (show Below w.heap.size w (w.alloc (rob 0 (tx []) 0 (.slice none 0 0))) from (Below.refl _ _).alloc (Nat.le_refl _) _)
  have HR0 := hid (new_0 w (rob 0 (tx []) 0 (.slice none 0 0)))
  have HBK := hid (show ∀ X, Below w.heap.size w X → X.heap[rb]? = some (.cells #[.int .i64 W, .slice lo n lc] 32 (0, 0)) from fun X hX => below_block hX hB (lt_of_block hB))
  have HHD := hid (Cub.Header_any (tx h) (w.alloc (rob 0 (tx []) 0 (.slice none 0 0))) (by exact hh))
  have t0 : ∀ o, (w.alloc o).cell? ⟨rb, 0, none⟩ = some (.int .i64 W) := fun o => by rw [cell_at (new_old _ o hB)]; rfl
  have hsz : (tx h).size = h.length := rfl
  obtain ⟨r0, r1, r2, r3, f0, f1, f2, f3⟩ := rob_cells HR0.out
  have HEQ := hid (head_eq (h := h) hg.wide)
  rw [show (tx h).data.toList = h from rfl] at HHD
  obtain ⟨hb, hhb⟩ : ∃ hb, hb = (!Cub.hasX (tx h) && Cub.Cu.right h) := ⟨_, rfl⟩
  rw [← hhb] at HHD HEQ
  have hB5 := rob_4 (rob_3 (rob_2 (rob_1 HR0.out 0) (tx [])) 0) (.slice none 0 0)
  obtain ⟨n0, n1, n2, n3, -, -, -, -⟩ := rob_cells hB5
  have HBF := hid ((((HB0.out.setCell (p := ⟨w.heap.size, 0, none⟩) (Nat.le_refl _) (.int .i64 0)).setCell (p := ⟨w.heap.size, 1, none⟩) (Nat.le_refl _) (.string (tx []))).setCell (p := ⟨w.heap.size, 2, none⟩) (Nat.le_refl _) (.int .i64 0)).setCell (p := ⟨w.heap.size, 3, none⟩) (Nat.le_refl _) (.slice none 0 0))
  obtain ⟨hl, hhl⟩ : ∃ hl, hl = h.length := ⟨_, rfl⟩
  have HHL := hid hhl
  have hszn : (tx h).size = hl := hhl.symm
  rw [← hhl] at HEQ
  clear hB hd he hn hg hD hhb hB5 hhl hh hsz
  cases hb with
  | false =>
    have HHF := hid (show meetR W L h = (zeroR, false, 21) by unfold meetR; rw [if_pos (by rw [HEQ.out]; rfl)])
    go_enter Tryz.func18, Tryz.ntmps18
    go_wp2_with fail
    refine HHD.out.mono ?_
    rintro en w1 ⟨rfl, hw1⟩
    subst hw1
    go_wp2
    refine bodyPost_ret (v := .tuple #[noR, .bool false, .int .i64 21]) (by simp [results, Tryz.results18, go_sem]) rfl ⟨by rw [HHF.out]; exact ⟨none, 0, 0, rfl, Ported.none _ _⟩, HB0.out⟩
  | true =>
    by_cases hlw : (hl : Int) = W
    · have HHF := hid (show headB W h = true by rw [HEQ.out]; simp [hlw])
      have hne : ((hl : Int) != W) = false := by simp [hlw]
      clear hlw
      go_enter Tryz.func18, Tryz.ntmps18
      go_wp2_with fail
      refine HHD.out.mono ?_
      rintro en w1 ⟨rfl, hw1⟩
      have B1 := hid (show Below w.heap.size w w1 by rw [hw1]; exact HB0.out)
      have HR1 := hid (show w1.heap[w.heap.size]? = some (rob 0 (tx []) 0 (.slice none 0 0)) by rw [hw1]; exact HR0.out)
      clear hw1 r0 r1 r2 r3 f0 f1 f2 f3 n0 n1 n2 n3 t0 HBF HB0 HR0 HHD HEQ
      have t0 : w1.cell? ⟨rb, 0, none⟩ = some (.int .i64 W) := by rw [cell_at (HBK.out w1 B1.out)]; rfl
      go_wp2_with fail
      clear t0
      go_loopw [7] (fun vi wr => ∃ j : Nat, j ≤ n ∧ vi = .int .i64 j ∧ Hid ((∀ b ∈ L.take j, liesB b h = false) ∧ wr.heap[w.heap.size]? = some (rob 0 (tx []) 0 (.slice none 0 0)) ∧ Below w.heap.size w wr)) (fun vi _ => n - (intOf vi).toNat)
      case atStart => exact ⟨0, Nat.zero_le _, rfl, fun b hb => by simp at hb, HR1.out, B1.out⟩
      case round =>
        obtain ⟨j, hj, rfl, HJ⟩ := hrel
        rename World => wo
        have t1 : wo.cell? ⟨rb, 1, none⟩ = some (.slice lo n lc) := by rw [cell_at (HBK.out wo HJ.out.2.2)]; rfl
        by_cases hlt : j < n
        · obtain ⟨q, hq⟩ : ∃ q, ps[j]? = some q := ⟨ps[j]'(by rw [← HN.out]; exact hlt), List.getElem?_eq_getElem _⟩
          have HQ1 := hid (show L[j]? = some q.1 by rw [← HE.out, List.getElem?_map, hq]; rfl)
          obtain ⟨g, rfl⟩ : ∃ g, lo = some ⟨g, 0, none⟩ := by
            obtain ⟨lo', lc', e, _, hf⟩ := HD.out.own.form
            injection e with e1 _ _
            subst e1
            rcases hf with ⟨_, h0⟩ | ⟨g, h1, _⟩
            · rw [h0] at hq; simp at hq
            · exact ⟨g, h1⟩
          have HOK := hid (errR_small (HG.out.ok q.1 (List.mem_of_getElem? HQ1.out)))
          have HCL := hid (show ∀ X, Below w.heap.size w X → _ from fun X hX => (HD.out.own.on hX).cells hq)
          have HTX := hid (show ∀ X, Below w.heap.size w X → Ported X 0 q.2 q.1.ports from fun X hX => ((HD.out.on hX).prt q (List.mem_of_getElem? hq)).1.mono (Nat.zero_le _))
          obtain ⟨⟨pp, mm, kk, zz⟩, uv⟩ := q
          simp only at HQ1 HOK HCL HTX
          obtain ⟨uo, uc, huv, _⟩ := HTX.out wo HJ.out.2.2
          obtain ⟨un, hun⟩ : ∃ un, un = zz.length := ⟨_, rfl⟩
          rw [← hun] at huv
          subst huv
          have HTK := hid (show L.take (j + 1) = L.take j ++ [⟨pp, mm, kk, zz⟩] by rw [List.take_add_one, HQ1.out]; rfl)
          obtain ⟨c0, c1, c2, c3⟩ := HCL.out wo HJ.out.2.2
          have hjI : (j : Int) < (n : Int) := by omega
          have hj0 : (0 : Int) ≤ (j : Int) := by omega
          have HHAS := hid (Cub.RHas_any (tx mm) (tx h) wo (by have := HOK.out.2.2.1; show mm.length ≤ _; unfold maxLen; omega) (by exact HMH.out))
          clear hq hun
          rcases Bool.eq_false_or_eq_true (Cub.hasB (tx mm) (tx h)) with hl1 | hl1
          · rw [hl1] at HHAS
            have HM := hid (show meetR W L h = (⟨pp, mm, kk, zz⟩, true, 0) by
              have e := metN_eq HQ1.out (show liesB ⟨pp, mm, kk, zz⟩ h = true from hl1) HJ.out.1
              unfold meetR
              rw [if_neg (by rw [HHF.out]; decide), e, if_neg (by omega), show ((j : Int)).toNat = j from rfl, List.getD_eq_getElem?_getD, HQ1.out]
              rfl)
            clear hl1
            go_wp2_with fail
            refine HHAS.out.mono ?_
            rintro en w2 ⟨rfl, hb2⟩
            have B2 := hid (below_2 HJ.out.2.2 hb2)
            have HR2 := hid (below_block hb2 HJ.out.2.1 (lt_of_block HJ.out.2.1))
            clear hb2 c0 c1 c2 c3 t1
            obtain ⟨c0, c1, c2, c3⟩ := HCL.out w2 B2.out
            have t1 : w2.cell? ⟨rb, 1, none⟩ = some (.slice (some ⟨g, 0, none⟩) n lc) := by rw [cell_at (HBK.out w2 B2.out)]; rfl
            obtain ⟨r0, r1, r2, r3, f0, f1, f2, f3⟩ := rob_cells HR2.out
            have hB5 := rob_4 (rob_3 (rob_2 (rob_1 HR2.out pp) (tx mm)) kk) (.slice uo un uc)
            obtain ⟨n0, n1, n2, n3, -, -, -, -⟩ := rob_cells hB5
            have HBF := hid ((((B2.out.setCell (p := ⟨w.heap.size, 0, none⟩) (Nat.le_refl _) (.int .i64 pp)).setCell (p := ⟨w.heap.size, 1, none⟩) (Nat.le_refl _) (.string (tx mm))).setCell (p := ⟨w.heap.size, 2, none⟩) (Nat.le_refl _) (.int .i64 kk)).setCell (p := ⟨w.heap.size, 3, none⟩) (Nat.le_refl _) (.slice uo un uc))
            clear hB5
            go_wp2
            refine bodyPost_ret (v := .tuple #[.agg #[.int .i64 pp, .string (tx mm), .int .i64 kk, .slice uo un uc], .bool true, .int .i64 0]) (by simp [results, Tryz.results18, go_sem, n0, n1, n2, n3]) rfl ⟨by rw [HM.out]; exact ⟨uo, un, uc, rfl, HTX.out _ HBF.out⟩, HBF.out⟩
          · rw [hl1] at HHAS
            have HNO := hid (show ∀ b ∈ L.take (j + 1), liesB b h = false from fun b hb => by
              rw [HTK.out] at hb
              rcases List.mem_append.1 hb with hb | hb
              · exact HJ.out.1 b hb
              · rw [List.mem_singleton.1 hb]; exact hl1)
            clear hl1
            go_wp2_with fail
            refine HHAS.out.mono ?_
            rintro en w2 ⟨rfl, hb2⟩
            have B2 := hid (below_2 HJ.out.2.2 hb2)
            have HR2 := hid (below_block hb2 HJ.out.2.1 (lt_of_block HJ.out.2.1))
            clear hb2 c0 c1 c2 c3 t1
            go_wp2
            go_roundw
            case rel => exact ⟨j + 1, by omega, by go_num, HNO.out, HR2.out, B2.out⟩
            case measure => simp [intOf]; omega
        · have hjI : ¬ ((j : Int) < (n : Int)) := by omega
          have HM := hid (show meetR W L h = (zeroR, false, 0) by
            have e := metN_no (L := L) (h := h) (fun b hb => HJ.out.1 b (by rw [List.take_of_length_le (by rw [← HE.out, List.length_map, ← HN.out]; omega)]; exact hb))
            unfold meetR
            rw [if_neg (by rw [HHF.out]; decide), e, if_pos (by decide)])
          obtain ⟨r0, r1, r2, r3, f0, f1, f2, f3⟩ := rob_cells HJ.out.2.1
          have hB5 := rob_4 (rob_3 (rob_2 (rob_1 HJ.out.2.1 0) (tx [])) 0) (.slice none 0 0)
          obtain ⟨n0, n1, n2, n3, -, -, -, -⟩ := rob_cells hB5
          have HBF := hid ((((HJ.out.2.2.setCell (p := ⟨w.heap.size, 0, none⟩) (Nat.le_refl _) (.int .i64 0)).setCell (p := ⟨w.heap.size, 1, none⟩) (Nat.le_refl _) (.string (tx []))).setCell (p := ⟨w.heap.size, 2, none⟩) (Nat.le_refl _) (.int .i64 0)).setCell (p := ⟨w.heap.size, 3, none⟩) (Nat.le_refl _) (.slice none 0 0))
          clear hB5
          go_wp2
          refine bodyPost_ret (v := .tuple #[noR, .bool false, .int .i64 0]) (by simp [results, Tryz.results18, go_sem, n0, n1, n2, n3]) rfl ⟨by rw [HM.out]; exact ⟨none, 0, 0, rfl, Ported.none _ _⟩, HBF.out⟩
    · have HHF := hid (show meetR W L h = (zeroR, false, 21) by unfold meetR; rw [if_pos (by rw [HEQ.out]; simp [hlw])])
      have hne : ((hl : Int) != W) = true := by simp [hlw]
      clear hlw
      go_enter Tryz.func18, Tryz.ntmps18
      go_wp2_with fail
      refine HHD.out.mono ?_
      rintro en w1 ⟨rfl, hw1⟩
      subst hw1
      go_wp2
      refine bodyPost_ret (v := .tuple #[noR, .bool false, .int .i64 21]) (by simp [results, Tryz.results18, go_sem]) rfl ⟨by rw [HHF.out]; exact ⟨none, 0, 0, rfl, Ported.none _ _⟩, HB0.out⟩

set_option maxRecDepth 20000 in
set_option maxHeartbeats 2000000 in
theorem RLookup_any {w : World} {Q rb : Nat} {W : Int} {L : List Raw} {h : List UInt8} (hD : DTab w Q rb W L) (hg : GoodT W L) (hh : h.length ≤ maxLen) :
    Calls Tryz.prog 20 #[.pointer (some ⟨rb, 0, none⟩), .string (tx h)] w fun e w' => LookV w' (lookR W L h) e ∧ Below w.heap.size w w' := by
  have HB0 := hid (show Below w.heap.size w (w.alloc (aob 0 (.slice none 0 0))) from (Below.refl _ _).alloc (Nat.le_refl _) _)
  have HA0 := hid (new_0 w (aob 0 (.slice none 0 0)))
  have HM := hid (RMeets_any (h := h) (hD.on HB0.out) hg hh)
  have HREL := hid (show (meetR W L h).2.2 = (lookR W L h).2.2 ∧ ((meetR W L h).2.2 ≠ 0 → (lookR W L h).1 = 0 ∧ (lookR W L h).2.1 = []) ∧ ((meetR W L h).2.2 = 0 → (meetR W L h).2.1 = false → (lookR W L h).1 = 1 ∧ (lookR W L h).2.1 = []) ∧ ((meetR W L h).2.1 = true → (lookR W L h).1 = (meetR W L h).1.kind ∧ (lookR W L h).2.1 = (meetR W L h).1.ports) from by
    unfold meetR lookR
    split
    · simp
    · split <;> simp)
  clear hD hg hh
  obtain ⟨⟨r, x, er⟩, hr⟩ : ∃ q, q = meetR W L h := ⟨_, rfl⟩
  obtain ⟨⟨lk, lp, le⟩, hl⟩ : ∃ q, q = lookR W L h := ⟨_, rfl⟩
  rw [← hr] at HM HREL
  rw [← hl] at HREL ⊢
  simp only at HREL
  clear hr hl
  go_enter Tryz.func20, Tryz.ntmps20
  go_wp2_with fail
  refine HM.out.mono ?_
  rintro en w2 ⟨⟨ao, n, c, rfl, htx⟩, hb2⟩
  have HTX := hid htx
  have B2 := hid (below_2 HB0.out hb2)
  have hA2 := below_block hb2 HA0.out (lt_of_block HA0.out)
  have a0 : ∀ o, (w2.alloc o).cell? ⟨w.heap.size, 0, none⟩ = some (.int .i64 0) := fun o => by rw [cell_at (new_old _ o hA2)]; rfl
  have a1 : ∀ o, (w2.alloc o).cell? ⟨w.heap.size, 1, none⟩ = some (.slice none 0 0) := fun o => by rw [cell_at (new_old _ o hA2)]; rfl
  have g0 : ∀ o, (w2.alloc o).frozen? ⟨w.heap.size, 0, none⟩ = false := fun o => free_of (new_old _ o hA2)
  have g1 : ∀ o, (w2.alloc o).frozen? ⟨w.heap.size, 1, none⟩ = false := fun o => free_of (new_old _ o hA2)
  have HA2 := hid hA2
  obtain ⟨pp, mm, kk, zz⟩ := r
  simp only at HREL HTX
  clear hb2 hA2 htx
  have HEND := hid (show ∀ (k : Int) (v : Value), Below w.heap.size w (((w2.alloc (rob pp (tx mm) kk (.slice ao n c))).setCell ⟨w.heap.size, 0, none⟩ (.int .i64 k)).setCell ⟨w.heap.size, 1, none⟩ v) from fun k v => ((B2.out.alloc B2.out.size _).setCell (p := ⟨w.heap.size, 0, none⟩) (Nat.le_refl _) (.int .i64 k)).setCell (p := ⟨w.heap.size, 1, none⟩) (Nat.le_refl _) v)
  by_cases he : er = 0
  · subst he
    cases x with
    | false =>
      have hA3 := block_set (o := 1) (.slice none 0 0) (block_set (o := 0) (.int .i64 1) (new_old _ (rob pp (tx mm) kk (.slice ao n c)) HA2.out))
      have n0 := cell_at (o := 0) hA3
      have n1 := cell_at (o := 1) hA3
      simp at n0 n1
      clear hA3
      go_wp2
      refine bodyPost_ret (v := .tuple #[.agg #[.int .i64 1, .slice none 0 0], .int .i64 0]) (by simp [results, Tryz.results20, go_sem, n0, n1]) rfl ⟨⟨none, 0, 0, ?_, ?_⟩, HEND.out _ _⟩
      · rw [(HREL.out.2.2.1 (by first | rfl | trivial) (by first | rfl | trivial)).1, ← HREL.out.1]
      · rw [(HREL.out.2.2.1 (by first | rfl | trivial) (by first | rfl | trivial)).2]; exact Ported.none _ _
    | true =>
      have hA3 := block_set (o := 1) (.slice ao n c) (block_set (o := 0) (.int .i64 kk) (new_old _ (rob pp (tx mm) kk (.slice ao n c)) HA2.out))
      have n0 := cell_at (o := 0) hA3
      have n1 := cell_at (o := 1) hA3
      simp at n0 n1
      clear hA3
      go_wp2
      refine bodyPost_ret (v := .tuple #[.agg #[.int .i64 kk, .slice ao n c], .int .i64 0]) (by simp [results, Tryz.results20, go_sem, n0, n1]) rfl ⟨⟨ao, n, c, ?_, ?_⟩, HEND.out _ _⟩
      · rw [(HREL.out.2.2.2 (by first | rfl | trivial)).1, ← HREL.out.1]
      · rw [(HREL.out.2.2.2 (by first | rfl | trivial)).2]
        obtain ⟨ao', c', e1, e2, q0 | ⟨b, e3, e4, cs', e5, e6⟩⟩ := HTX.out.on ((Below.refl _ w2).alloc (Nat.le_refl _) (rob pp (tx mm) kk (.slice ao n c)))
        · exact ⟨ao', c', e1, e2, Or.inl q0⟩
        · refine ⟨ao', c', e1, e2, Or.inr ⟨b, e3, e4, cs', ?_, e6⟩⟩
          have hne : b ≠ w.heap.size := ne_type e5 (new_old _ _ HA2.out) (by decide)
          exact block_other _ (block_other _ e5 hne) hne
  · have hne : (er != 0) = true := by rw [bne_iff_ne]; exact he
    have hA3 := block_set (o := 1) (.slice none 0 0) (block_set (o := 0) (.int .i64 0) (new_old _ (rob pp (tx mm) kk (.slice ao n c)) HA2.out))
    have n0 := cell_at (o := 0) hA3
    have n1 := cell_at (o := 1) hA3
    simp at n0 n1
    have HNE := hid he
    clear hA3 he
    go_wp2
    refine bodyPost_ret (v := .tuple #[.agg #[.int .i64 0, .slice none 0 0], .int .i64 er]) (by simp [results, Tryz.results20, go_sem, n0, n1]) rfl ⟨⟨none, 0, 0, ?_, ?_⟩, HEND.out _ _⟩
    · rw [(HREL.out.2.1 HNE.out).1, ← HREL.out.1]
    · rw [(HREL.out.2.1 HNE.out).2]; exact Ported.none _ _
end Go.Proofs.YtipmlcdnfaobiaaGreat
