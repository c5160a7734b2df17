/-
  Proved: for every width and every two rows of changes the law FibChanges answers true (New, Do and Rules answer as the document's own table, changes all or none), and leaves its arguments as they were. Conditions: none (the form's own reach bounds how long a text or a list that comes in is).
  Changes that came in, and how long their parts may be.
  The law FibChanges: of any width and any changes it answers true.
  Rules and Width of a table; rows of rules held against each other.
  made: a table and the document's, with changes done one by one.
-/
import Derived.Test.YtipmlcdnfaobiaaGreatVDocH
import Derived.Test.YtipmlcdnfaobiaaGreatLMeetsAnd
import Derived.Test.YtipmlcdnfaobiaaGreatVDocFAnd
import Derived.Test.YtipmlcdnfaobiaaGreatUCopyAnd
import Derived.Deep.RegionHeld2
import Derived.SizedLaws
import Derived.Test.YtipmlcdnfaobiaaGreatUPrintAnd
import Derived.Test.YtipmlcdnfaobiaaGreatRows
import Derived.WalkKit
import Derived.ProofKit
import Derived.OpenShut
import Derived.ShutString
namespace Go.Proofs.YtipmlcdnfaobiaaGreat
open Go.RowKit

/-- What one change makes of the rules, done or refused. -/
def stN (W : Int) (L : List Raw) (c : Int × Raw) : List Raw := match stepN W L c.1 c.2 with
  | .ok L' => L'
  | .error _ => L
/-- What changes make, done one by one. -/
def madeN (W : Int) (cs : List (Int × Raw)) : List Raw := cs.foldl (stN W) []
theorem madeN_snoc {W : Int} {cs : List (Int × Raw)} {j : Nat} {c : Int × Raw} (h : cs[j]? = some c) : madeN W (cs.take (j + 1)) = stN W (madeN W (cs.take j)) c := by
  unfold madeN
  rw [List.take_add_one, h, List.foldl_append]
  rfl
theorem run_one {W : Int} {L : List Raw} {k : Int} {r : Raw} : runN W L [(k, r)] 0 = match stepN W L k r with
    | .ok L' => .ok L'
    | .error e => .error (0, e) := by
  cases h : stepN W L k r with
  | ok L' => simp [runN, h]
  | error e => simp [runN, h]
/-- Both tables, in a world that keeps what was there. -/
structure Both (w0 w : World) (tb rb : Nat) (W : Int) (L : List Raw) : Prop where
  low : Below w0.heap.size w0 w
  ot : w0.heap.size ≤ tb
  orr : w0.heap.size ≤ rb
  fib : FTab w w0.heap.size tb W L
  doc : DTab w rb W L
theorem Both.on {w0 w w' : World} {tb rb : Nat} {W : Int} {L : List Raw} (h : Both w0 w tb rb W L) (hb : Below w.heap.size w w') : Both w0 w' tb rb W L :=
  ⟨below_2 h.low hb, h.ot, h.orr, h.fib.on hb, h.doc.on hb⟩
/-- Both tables behind the same changes. -/
theorem grown_low {w0 w w' : World} {b : Nat} (h : Below w0.heap.size w0 w) (hg : w.grownBy w' (some b)) (hb : w0.heap.size ≤ b) : Below w0.heap.size w0 w' := h.grown hg h.size (fun k hk => by injection hk with e; omega)
theorem one_view {w : World} {kd p k : Int} {m : List UInt8} {zs : List (List UInt8)} {v : Value} (ht : Txs w v zs) (hz : ∀ z ∈ zs, z.length ≤ maxLen) : ChIn (w.alloc (cob5 kd p m k v)) (some ⟨w.heap.size, 0, none⟩) [(kd, ⟨p, m, k, zs⟩, v)] := by
  have hn := new_0 w (cob5 kd p m k v)
  refine Or.inr ⟨w.heap.size, 0, rfl, lt_of_block hn, fun i u hi => ?_, fun u hu => ?_⟩
  · have h0 : i = 0 := by have := (List.getElem?_eq_some_iff.1 hi).1; simp at this; exact this
    subst h0
    have : (kd, (⟨p, m, k, zs⟩ : Raw), v) = u := by simpa using hi
    subst this
    refine ⟨?_, ?_, ?_, ?_, ?_⟩ <;> · rw [cell_at hn]; rfl
  · rw [List.mem_singleton.1 hu]
    exact ⟨ht.below ((Below.refl _ _).alloc (Nat.le_refl _) _), hz⟩
theorem ChView.at {w : World} {g o j : Nat} {cs : List (Int × Raw × Value)} {u : Int × Raw × Value} (h : ChView w g o cs) (hu : cs[j]? = some u) : ChView w g (o + j * 5) [u] := by
  refine ⟨h.old, fun i x hi => ?_, fun x hx => ?_⟩
  · have h0 : i = 0 := by have := (List.getElem?_eq_some_iff.1 hi).1; simp at this; exact this
    subst h0
    have : u = x := by simpa using hi
    subst this
    simpa using h.cell j u hu
  · rw [List.mem_singleton.1 hx]
    exact h.ports u (List.mem_of_getElem? hu)

set_option maxRecDepth 8000 in
set_option maxHeartbeats 2000000 in
theorem made_bad {w : World} {ao : Option Addr} {n cap : Nat} {W : Int} (h : ¬ (1 ≤ W ∧ W ≤ 128)) : Calls Tryz.prog 9 #[.int .i64 W, .slice ao n cap] w fun e w' => e = .returned (.tuple #[.pointer none, .pointer none, .bool true]) ∧ Below w.heap.size w w' := by
  have HN := hid (fun X : World => New_bad (w := X) h)
  have HR := hid (fun X : World => RNew_bad (w := X) h)
  have p1 : ∀ (X : World), (binOp .eql 23 (.pointer none) (.pointer none)).run Tryz.prog X = .ok (.bool true) X := fun X => by
    have h : ∀ d : Nat, (Op.equalIn (d + 1) 23 (.pointer none) (.pointer none)).run Tryz.prog X = .ok true X := fun d => by
      simp [Op.equalIn, run_underlying Tryz.underlying23, sizeOf, typeInfo]
    simp only [binOp]
    simp [Op.equal, Op.maxDepth, h 9999]
  have p2 : ∀ (X : World), (binOp .eql 24 (.pointer none) (.pointer none)).run Tryz.prog X = .ok (.bool true) X := fun X => by
    have h : ∀ d : Nat, (Op.equalIn (d + 1) 24 (.pointer none) (.pointer none)).run Tryz.prog X = .ok true X := fun d => by
      simp [Op.equalIn, run_underlying Tryz.underlying24, sizeOf, typeInfo]
    simp only [binOp]
    simp [Op.equal, Op.maxDepth, h 9999]
  go_enter Tryz.func9, Tryz.ntmps9
  go_wp2_with fail
  refine (HN.out _).mono ?_
  rintro en w1 ⟨rfl, hw⟩
  subst hw
  go_wp2_with fail
  refine (HR.out _).mono ?_
  rintro en w2 ⟨rfl, hw⟩
  subst hw
  go_wp2_with fail
  refine wp_loop_rounds 1 ?_
  rw [rounds_succ]
  go_wp2
  refine bodyPost_ret (v := .tuple #[.pointer none, .pointer none, .bool true]) (by simp [results, Tryz.results9, go_sem]) rfl ⟨rfl, Below.refl _ _⟩

set_option maxRecDepth 20000 in
set_option maxHeartbeats 4000000 in
theorem made_good {w : World} {ao : Option Addr} {n cap : Nat} {W : Int} {cs : List (Int × Raw × Value)} (h : 1 ≤ W ∧ W ≤ 128) (hc : ChIn w ao cs) (hn : cs.length = n) (hnc : n ≤ cap) (hs : ∀ u ∈ cs, Small u.2.1.mat u.2.1.ports) (h63 : n ≤ maxLen) :
    Calls Tryz.prog 9 #[.int .i64 W, .slice ao n cap] w fun e w' => ∃ tb rb, e = .returned (.tuple #[.pointer (some ⟨tb, 0, none⟩), .pointer (some ⟨rb, 0, none⟩), .bool true]) ∧ Hid (Both w w' tb rb W (madeN W ((chs cs).take 100))) := by
  have HN := hid (New_good (w := w) h)
  have HR := hid (fun X : World => RNew_good (w := X) h)
  have HC := hid hc
  have HLN := hid hn
  have HS := hid hs
  have p1 : ∀ (X : World) (a : Addr), (binOp .eql 23 (.pointer (some a)) (.pointer none)).run Tryz.prog X = .ok (.bool false) X := fun X a => by
    have h : ∀ d : Nat, (Op.equalIn (d + 1) 23 (.pointer (some a)) (.pointer none)).run Tryz.prog X = .ok false X := fun d => by
      simp [Op.equalIn, run_underlying Tryz.underlying23, sizeOf, typeInfo]
    simp only [binOp]
    simp [Op.equal, Op.maxDepth, h 9999]
  have p2 : ∀ (X : World) (a : Addr), (binOp .eql 24 (.pointer (some a)) (.pointer none)).run Tryz.prog X = .ok (.bool false) X := fun X a => by
    have h : ∀ d : Nat, (Op.equalIn (d + 1) 24 (.pointer (some a)) (.pointer none)).run Tryz.prog X = .ok false X := fun d => by
      simp [Op.equalIn, run_underlying Tryz.underlying24, sizeOf, typeInfo]
    simp only [binOp]
    simp [Op.equal, Op.maxDepth, h 9999]
  have h63I : (n : Int) ≤ 9223372036854775807 := by unfold maxLen at h63; omega
  clear hc hn hs
  go_enter Tryz.func9, Tryz.ntmps9
  go_wp2_with fail
  refine HN.out.mono ?_
  rintro en w1 ⟨rfl, h1⟩
  have HF1 := hid h1.out.1
  have B1 := hid h1.out.2
  clear h1
  go_wp2_with fail
  refine (HR.out _).mono ?_
  rintro en w2 ⟨rfl, h2⟩
  have HB2 := hid (show Both w w2 w.heap.size w1.heap.size W (madeN W ((chs cs).take 0)) from ⟨below_2 B1.out h2.out.2, Nat.le_refl _, B1.out.size, HF1.out.on h2.out.2, h2.out.1⟩)
  clear h2
  generalize w1.heap.size = rb at HB2 ⊢
  obtain ⟨tb, htb⟩ : ∃ tb, tb = w.heap.size := ⟨_, rfl⟩
  rw [← htb] at HB2 ⊢
  clear HN HR HF1 B1 htb
  go_wp2_with fail
  go_loopw [11] (fun vi wr => ∃ j : Nat, j ≤ n ∧ j ≤ 100 ∧ vi = .int .i64 j ∧ Hid (Both w wr tb rb W (madeN W ((chs cs).take j)))) (fun vi _ => n - (intOf vi).toNat)
  case atStart => exact ⟨0, Nat.zero_le _, Nat.zero_le _, rfl, HB2⟩
  case round =>
    clear HB2
    obtain ⟨j, hj, h100, rfl, HA⟩ := hrel
    rename World => wo
    by_cases hlt : j < n
    · have hjI : (j : Int) < (n : Int) := by omega
      have hj0 : (0 : Int) ≤ (j : Int) := by omega
      by_cases hl100 : j < 100
      · have hj100 : (j : Int) < 100 := by omega
        obtain ⟨u, hu⟩ : ∃ u, cs[j]? = some u := ⟨cs[j]'(by rw [HLN.out]; exact hlt), List.getElem?_eq_getElem _⟩
        obtain ⟨g, o, rfl⟩ : ∃ g o, ao = some ⟨g, o, none⟩ := by
          rcases HC.out with q | ⟨g, o, e, _⟩
          · rw [q] at hu; simp at hu
          · exact ⟨g, o, e⟩
        have HVW := hid (show ∀ X, Below w.heap.size w X → ChView X g o cs from fun X hX => by
          rcases HC.out.on hX with q | ⟨g', o', e, hv⟩
          · rw [q] at hu; simp at hu
          · cases e; exact hv)
        have HSM := hid (HS.out u (List.mem_of_getElem? hu))
        have HCU := hid (show (chs cs)[j]? = some (u.1, u.2.1) by rw [List.getElem?_map, hu]; rfl)
        have HTX := hid (show ∀ X, Below w.heap.size w X → Txs X u.2.2 u.2.1.ports from fun X hX => ((HVW.out X hX).ports u (List.mem_of_getElem? hu)).1)
        have HPL := hid (((HVW.out wo HA.out.low).ports u (List.mem_of_getElem? hu)).2)
        have HCL := hid (show ∀ X, Below w.heap.size w X → _ from fun X hX => (HVW.out X hX).cell j u hu)
        have HAT := hid (show ∀ X, Below w.heap.size w X → ChIn X (some ⟨g, o + j * 5, none⟩) [u] from fun X hX => Or.inr ⟨g, o + j * 5, rfl, (HVW.out X hX).at hu⟩)
        obtain ⟨kd, ⟨p, m, k, zs⟩, uv⟩ := u
        simp only at HSM HCU HTX HPL HCL
        obtain ⟨uo, uc, huv, _⟩ := HTX.out wo HA.out.low
        obtain ⟨un, hun⟩ : ∃ un, un = zs.length := ⟨_, rfl⟩
        rw [← hun] at huv
        subst huv
        clear hu hun
        obtain ⟨c0, c1, c2, c3, c4⟩ := HCL.out wo HA.out.low
        have HBW := hid (show Below wo.heap.size wo (wo.alloc (cob5 kd p m k (.slice uo un uc))) from (Below.refl _ _).alloc (Nat.le_refl _) _)
        have HDO := hid (Do_any (cap := 1) (n := 1) (HA.out.on HBW.out).fib (one_view (kd := kd) (p := p) (m := m) (k := k) (HTX.out wo HA.out.low) HPL.out) rfl (by decide))
        have HSNO := hid (madeN_snoc (W := W) HCU.out)
        go_wp2_with fail
        refine HDO.out.mono ?_
        rintro en w3 ⟨hg3, hd3⟩
        have HD3 := hid hd3
        have HL3 := hid (grown_low (HA.out.on HBW.out).low hg3 HA.out.ot)
        have HDT := hid (show DTab w3 rb W (madeN W ((chs cs).take j)) from by
          obtain ⟨cc, hcc⟩ := (HA.out.on HBW.out).fib.blk
          exact (HA.out.on HBW.out).doc.grew hg3 hcc)
        clear hg3 hd3
        have HRD := hid (RDo_any (n := 1) (cap := cap - j) HDT.out HA.out.fib.good (HAT.out w3 HL3.out) rfl (fun x hx => by rw [List.mem_singleton.1 hx]; exact HSM.out) (by unfold maxLen; omega))
        have HKEEP := hid (show ∀ X, w3.grownBy X (some rb) → Below w.heap.size w X ∧ ∀ L, FTab w3 w.heap.size tb W L → FTab X w.heap.size tb W L from fun X hX => ⟨grown_low HL3.out hX HA.out.orr, fun L hL => by
          obtain ⟨cc, hcc⟩ := HDT.out.blk
          exact hL.grew hX hcc⟩)
        have hjc : (j : Int) ≤ (cap : Int) := by omega
        have hjc1 : (j : Int) < (cap : Int) := by omega
        have hjc2 : (j : Int) + 1 ≤ (cap : Int) := by omega
        clear c0 c1 c2 c3 c4
        rw [show chs [((kd, (⟨p, m, k, zs⟩ : Raw), Value.slice uo un uc) : Int × Raw × Value)] = [(kd, ⟨p, m, k, zs⟩)] from rfl, run_one] at HD3
        cases hst : stepN W (madeN W ((chs cs).take j)) kd ⟨p, m, k, zs⟩ with
        | ok L2 =>
          have HST := hid hst
          have HE := hid (show madeN W ((chs cs).take (j + 1)) = L2 by rw [HSNO.out]; unfold stN; rw [hst])
          obtain ⟨rfl, HF3⟩ : en = .returned (.tuple #[.int .i64 0, .int .i64 0]) ∧ Hid (FTab w3 w.heap.size tb W L2) := by
            rcases HD3.out with ⟨L', h1, h2, h3⟩ | ⟨i, er, h1, _⟩
            · rw [hst] at h1; injection h1 with h1; subst h1; exact ⟨h2, h3⟩
            · rw [hst] at h1; cases h1
          clear hst HD3
          go_wp2_with fail
          refine HRD.out.mono ?_
          rintro en w4 ⟨hg4, hd4⟩
          rw [show chs [((kd, (⟨p, m, k, zs⟩ : Raw), Value.slice uo un uc) : Int × Raw × Value)] = [(kd, ⟨p, m, k, zs⟩)] from rfl, run_one, HST.out] at hd4
          obtain ⟨rfl, HR4⟩ : en = .returned (.tuple #[.int .i64 0, .int .i64 0]) ∧ Hid (DTab w4 rb W L2) := by
            rcases hd4 with ⟨L', h1, h2, h3⟩ | ⟨i, er, h1, _⟩
            · injection h1 with h1; subst h1; exact ⟨h2, h3⟩
            · cases h1
          have HA4 := hid (show Both w w4 tb rb W (madeN W ((chs cs).take (j + 1))) from by rw [HE.out]; exact ⟨(HKEEP.out _ hg4).1, HA.out.ot, HA.out.orr, (HKEEP.out _ hg4).2 _ HF3.out, HR4.out⟩)
          clear hg4 hd4
          go_wp2
          go_roundw
          case rel => exact ⟨j + 1, by omega, by omega, by go_num, HA4⟩
          case measure => simp [intOf]; omega
        | error er =>
          have HST := hid hst
          have HE := hid (show madeN W ((chs cs).take (j + 1)) = madeN W ((chs cs).take j) by rw [HSNO.out]; unfold stN; rw [hst])
          obtain ⟨rfl, HF3⟩ : en = .returned (.tuple #[.int .i64 0, .int .i64 er]) ∧ Hid (FTab w3 w.heap.size tb W (madeN W ((chs cs).take j))) := by
            rcases HD3.out with ⟨L', h1, h2, h3⟩ | ⟨i, er', h1, _, h2, h3⟩
            · rw [hst] at h1; cases h1
            · rw [hst] at h1; injection h1 with h1; injection h1 with h1 h4; subst h1 h4; exact ⟨h2, h3⟩
          clear hst HD3
          go_wp2_with fail
          refine HRD.out.mono ?_
          rintro en w4 ⟨hg4, hd4⟩
          rw [show chs [((kd, (⟨p, m, k, zs⟩ : Raw), Value.slice uo un uc) : Int × Raw × Value)] = [(kd, ⟨p, m, k, zs⟩)] from rfl, run_one, HST.out] at hd4
          obtain ⟨rfl, HR4⟩ : en = .returned (.tuple #[.int .i64 0, .int .i64 er]) ∧ Hid (DTab w4 rb W (madeN W ((chs cs).take j))) := by
            rcases hd4 with ⟨L', h1, h2, h3⟩ | ⟨i, er', h1, _, h2, h3⟩
            · cases h1
            · injection h1 with h1; injection h1 with h1 h4; subst h1 h4; exact ⟨h2, h3⟩
          have HA4 := hid (show Both w w4 tb rb W (madeN W ((chs cs).take (j + 1))) from by rw [HE.out]; exact ⟨(HKEEP.out _ hg4).1, HA.out.ot, HA.out.orr, (HKEEP.out _ hg4).2 _ HF3.out, HR4.out⟩)
          clear hg4 hd4
          have hee : (er != er) = false := by simp
          go_wp2
          go_roundw
          case rel => exact ⟨j + 1, by omega, by omega, by go_num, HA4⟩
          case measure => simp [intOf]; omega
      · have hj100 : ¬ (j : Int) < 100 := by omega
        have HEND := hid (show Both w wo tb rb W (madeN W ((chs cs).take 100)) from by
          have e100 : j = 100 := by omega
          rw [e100] at HA
          exact HA.out)
        go_wp2
        refine bodyPost_ret (v := .tuple #[.pointer (some ⟨tb, 0, none⟩), .pointer (some ⟨rb, 0, none⟩), .bool true]) (by simp [results, Tryz.results9, go_sem]) rfl ⟨tb, rb, rfl, HEND⟩
    · have hjI : ¬ ((j : Int) < (n : Int)) := by omega
      have HEND := hid (show Both w wo tb rb W (madeN W ((chs cs).take 100)) from by
        have e1 : (chs cs).take j = (chs cs).take 100 := by rw [List.take_of_length_le (by rw [List.length_map, HLN.out]; omega), List.take_of_length_le (by rw [List.length_map, HLN.out]; omega)]
        rw [e1] at HA; exact HA.out)
      go_wp2
      refine bodyPost_ret (v := .tuple #[.pointer (some ⟨tb, 0, none⟩), .pointer (some ⟨rb, 0, none⟩), .bool true]) (by simp [results, Tryz.results9, go_sem]) rfl ⟨tb, rb, rfl, HEND⟩
end Go.Proofs.YtipmlcdnfaobiaaGreat
namespace Go.Proofs.YtipmlcdnfaobiaaGreat
open Go.RowKit

/-- A row of rules for reading, wherever it lies. -/
def RowV (w : World) (v : Value) (n : Nat) (qs : List (Raw × Value)) : Prop := qs.length = n ∧ ∃ ao c, v = .slice ao n c ∧ (qs = [] ∨ ∃ g o, ao = some ⟨g, o, none⟩ ∧ RawView w g o qs)
theorem RawView.onV {w w' : World} {g o : Nat} {ps : List (Raw × Value)} (hv : RawView w g o ps) (hb : Below w.heap.size w w') : RawView w' g o ps :=
  ⟨Nat.lt_of_lt_of_le hv.old hb.size, fun i q hq => by
    obtain ⟨c0, c1, c2, c3⟩ := hv.cell i q hq
    exact ⟨(hb.cell (by exact hv.old)).trans c0, (hb.cell (by exact hv.old)).trans c1, (hb.cell (by exact hv.old)).trans c2, (hb.cell (by exact hv.old)).trans c3⟩, fun q hq => ⟨(hv.ports q hq).1.below hb, (hv.ports q hq).2⟩⟩
theorem RowV.on {w w' : World} {v : Value} {n : Nat} {qs : List (Raw × Value)} (h : RowV w v n qs) (hb : Below w.heap.size w w') : RowV w' v n qs := by
  obtain ⟨hn, ao, c, e, q | ⟨g, o, e2, hv⟩⟩ := h
  · exact ⟨hn, ao, c, e, Or.inl q⟩
  · exact ⟨hn, ao, c, e, Or.inr ⟨g, o, e2, hv.onV hb⟩⟩
theorem OwnR.rowV {w : World} {B : Nat} {v : Value} {ps : List (Raw × Value)} (h : OwnR w B v ps) (hp : ∀ q ∈ ps, Txs w q.2 q.1.ports ∧ ∀ p ∈ q.1.ports, p.length ≤ maxLen) : RowV w v ps.length ps := by
  obtain ⟨ao, c, rfl, _, _⟩ := h.form
  refine ⟨rfl, ao, c, rfl, ?_⟩
  rcases own_cells h.own with ⟨_, h0, _⟩ | ⟨g, e, _, _, hg, hc⟩
  · exact Or.inl (List.length_eq_zero_iff.1 h0)
  · refine Or.inr ⟨g, 0, e, hg, fun i q hq => ?_, hp⟩
    obtain ⟨h0, h1, h2, h3⟩ := flatV_get hq
    rw [Nat.zero_add]
    exact ⟨hc _ _ h0, hc _ _ h1, hc _ _ h2, hc _ _ h3⟩
theorem DocL.rowV {w : World} {B : Nat} {v : Value} {ps : List (Raw × Value)} (h : DocL w B v ps) : RowV w v ps.length ps := h.own.rowV h.txs
theorem good_small {W : Int} {L : List Raw} (h : GoodT W L) {ps : List (Raw × Value)} (e : ps.map Prod.fst = L) : ∀ q ∈ ps, Small q.1.mat q.1.ports := fun q hq => (errR_small (h.ok q.1 (by rw [← e]; exact List.mem_map_of_mem hq))).1
theorem good_len {W : Int} {L : List Raw} (h : GoodT W L) {ps : List (Raw × Value)} (e : ps.map Prod.fst = L) : ∀ q ∈ ps, q.1.ports.length ≤ maxLen := fun q hq => by
  have := (good_small h e q hq).2.1
  unfold maxLen
  omega
theorem good_each {W : Int} {L : List Raw} (h : GoodT W L) {ps : List (Raw × Value)} (e : ps.map Prod.fst = L) : ∀ q ∈ ps, ∀ p ∈ q.1.ports, p.length ≤ maxLen := fun q hq p hp => by
  have := (good_small h e q hq).2.2 p hp
  unfold maxLen
  omega
theorem same_rows {w : World} {v1 v2 : Value} {n : Nat} {q1 q2 : List (Raw × Value)} {W : Int} {L : List Raw} (h1 : RowV w v1 n q1) (h2 : RowV w v2 n q2) (hg : GoodT W L) (e1 : q1.map Prod.fst = L) (e2 : q2.map Prod.fst = L) :
    Calls Tryz.prog 11 #[v1, v2] w fun e w' => e = .returned (.bool true) ∧ Below w.heap.size w w' := by
  obtain ⟨l1, a1, c1, rfl, k1⟩ := h1
  obtain ⟨l2, a2, c2, rfl, k2⟩ := h2
  have hf := hg.few
  rw [← e1, List.length_map] at hf
  rcases k1 with k1 | ⟨g, o, rfl, k1⟩
  · subst k1
    have : n = 0 := l1.symm
    subst this
    exact SameRules_none _ _ _ _ _
  · rcases k2 with k2 | ⟨g2, o2, rfl, k2⟩
    · subst k2
      have : n = 0 := l2.symm
      subst this
      exact SameRules_none _ _ _ _ _
    · exact SameRules_rr c1 c2 n k1 (good_len hg e1) k2 l1 l2 (by rw [e1, e2]) (by omega)
theorem sorted_stays {ps : List (Raw × Value)} {M : List Nat} (hs : Srt (ps.map Prod.fst)) (hM : Pc (cmpAt ps) 0 ps.length M) : M.map (rawAt ps) = ps.map Prod.fst := by
  have ha : Apart_ ps ps.length := fun i j hij hj q => by
    have := List.pairwise_iff_getElem.1 hs i j (by rw [List.length_map]; omega) (by rw [List.length_map]; omega) hij
    rw [List.getElem_map, List.getElem_map] at this
    rw [rawAt_some (List.getElem?_eq_getElem hj), rawAt_some (List.getElem?_eq_getElem (show i < ps.length by omega))] at q
    rw [cmpR_same q.symm] at this
    omega
  exact one_way (R := fun a b => cmpR a b < 0) (fun a b h k => cmpR_asy h k) (raw_rise hM ha) hs (raw_perm hM)

/-- What Rules tells. -/
def RulesPost (w : World) (L : List Raw) (e : Ending) (w' : World) : Prop := ∃ v qs, e = .returned v ∧ (∃ a n c, v = .slice a n c) ∧ RowV w' v L.length qs ∧ qs.map Prod.fst = L ∧ (∀ q ∈ qs, Ported w' w.heap.size q.2 q.1.ports) ∧ Below w.heap.size w w'

set_option maxRecDepth 4000 in
set_option maxHeartbeats 1000000 in
theorem copies_any {w : World} {v : Value} {n : Nat} {W : Int} {L : List Raw} {ps : List (Raw × Value)} (h : RowV w v n ps) (hg : GoodT W L) (e : ps.map Prod.fst = L) : Calls Tryz.prog 32 #[v] w fun e w' => RulesPost w L e w' := by
  obtain ⟨hn, ao, c, rfl, k⟩ := h
  have hf := hg.few
  rw [← e, List.length_map, hn] at hf
  have hl : L.length = n := by rw [← e, List.length_map, hn]
  rcases k with k | ⟨g, o, rfl, k⟩
  · subst k
    have hn0 : n = 0 := hn.symm
    subst hn0
    have HO := hid (Order_none (w := w) (ao := ao) (cap := c))
    have HL := hid (show L = [] from e.symm)
    clear hn hf hl e hg
    go_enter Tryz.func32, Tryz.ntmps32
    go_wp2_with fail
    refine HO.out.mono ?_
    rintro en w2 ⟨ob, rfl, hb⟩
    have HB := hid hb
    clear hb
    go_wp2
    go_ret
    rw [HL.out]
    exact ⟨_, [], rfl, ⟨_, _, _, rfl⟩, ⟨rfl, _, _, rfl, Or.inl rfl⟩, rfl, (fun q hq => by cases hq), HB.out⟩
  · refine (copies_some k hn hf (good_small hg e)).mono ?_
    rintro en w' ⟨ob, qs, M, hP⟩
    have hP := hP.out
    have hM := hP.sorted
    rw [← hn] at hM
    have hq : qs.map Prod.fst = L := by rw [hP.same, sorted_stays (by rw [e]; exact hg.srt) hM, e]
    have hql : qs.length = n := by rw [← hl, ← hq, List.length_map]
    refine ⟨_, qs, hP.told, ⟨_, _, _, rfl⟩, ⟨by rw [hl]; exact hql, _, _, by rw [hl], Or.inr ⟨ob, 0, rfl, hP.view⟩⟩, hq, hP.own, hP.low⟩

set_option maxRecDepth 4000 in
set_option maxHeartbeats 1000000 in
theorem Rules_any {w : World} {Bp tb : Nat} {W : Int} {L : List Raw} (hF : FTab w Bp tb W L) :
    Calls Tryz.prog 12 #[.pointer (some ⟨tb, 0, none⟩)] w fun e w' => RulesPost w L e w' := by
  obtain ⟨v, ps, ht, he⟩ := hF.ex
  have HC := hid (copies_any (w := w) (ht.list.rowV (fun q hq => ⟨(ht.ports q hq).txs, good_each ht.good rfl q hq⟩)) hF.good he)
  obtain ⟨lo, lc, hv, _⟩ := ht.list.form
  subst hv
  have t1 : w.cell? ⟨tb, 1, none⟩ = some (.slice lo ps.length lc) := by rw [cell_at ht.blk]; rfl
  have HMD := hid (made_yes ht.blk)
  clear ht hF he
  go_enter Tryz.func12, Tryz.ntmps12
  go_wp2_with fail
  refine HMD.out.mono ?_
  rintro en w1 ⟨rfl, hw1⟩
  subst hw1
  go_wp2_with fail
  refine HC.out.mono ?_
  rintro en w2 ⟨v2, qs, rfl, ⟨a2, n2, c2, rfl⟩, h2⟩
  have H2 := hid h2
  clear h2
  go_wp2
  go_ret
  exact ⟨_, qs, rfl, ⟨_, _, _, rfl⟩, H2.out⟩
set_option maxRecDepth 4000 in
set_option maxHeartbeats 1000000 in
theorem Width_any {w : World} {Bp tb : Nat} {W : Int} {L : List Raw} (hF : FTab w Bp tb W L) :
    Calls Tryz.prog 16 #[.pointer (some ⟨tb, 0, none⟩)] w fun e w' => e = .returned (.int .i64 W) ∧ w' = w := by
  obtain ⟨v, ps, ht, rfl⟩ := hF.ex
  have t1 : w.cell? ⟨tb, 0, none⟩ = some (.int .i64 W) := by rw [cell_at ht.blk]; rfl
  have HMD := hid (made_yes ht.blk)
  clear ht hF
  go_enter Tryz.func16, Tryz.ntmps16
  go_wp2_with fail
  refine HMD.out.mono ?_
  rintro en w1 ⟨rfl, hw1⟩
  subst hw1
  go_wp2
  go_ret
  exact ⟨rfl, rfl⟩
end Go.Proofs.YtipmlcdnfaobiaaGreat
namespace Go.Proofs.YtipmlcdnfaobiaaGreat
open Go.RowKit

theorem eqlR_none (w : World) (a : Addr) : (binOp .eql 24 (.pointer (some a)) (.pointer none)).run Tryz.prog w = .ok (.bool false) w := by
  have h : ∀ d : Nat, (Op.equalIn (d + 1) 24 (.pointer (some a)) (.pointer none)).run Tryz.prog w = .ok false w := fun d => by
    simp [Op.equalIn, run_underlying Tryz.underlying24, sizeOf, typeInfo]
  simp only [binOp]
  simp [Op.equal, Op.maxDepth, h 9999]
theorem eqlR_two (w : World) : (binOp .eql 24 (.pointer none) (.pointer none)).run Tryz.prog w = .ok (.bool true) w := by
  have h : ∀ d : Nat, (Op.equalIn (d + 1) 24 (.pointer none) (.pointer none)).run Tryz.prog w = .ok true w := fun d => by
    simp [Op.equalIn, run_underlying Tryz.underlying24, sizeOf, typeInfo]
  simp only [binOp]
  simp [Op.equal, Op.maxDepth, h 9999]
theorem madeN_good {W : Int} (h : 1 ≤ W ∧ W ≤ 128) (cs : List (Int × Raw)) : GoodT W (madeN W cs) := by
  have : ∀ (cs : List (Int × Raw)) (L : List Raw), GoodT W L → GoodT W (cs.foldl (stN W) L) := by
    intro cs
    induction cs with
    | nil => exact fun L h => h
    | cons c cs ih =>
      intro L h
      refine ih _ ?_
      unfold stN
      split
      · rename_i q; exact h.step q
      · exact h
  exact this cs [] (GoodT.nil h)
/-- The document's rules, as they lie. -/
theorem DTab.row {w : World} {rb : Nat} {W : Int} {L : List Raw} (h : DTab w rb W L) : ∃ lo lc, w.cell? ⟨rb, 1, none⟩ = some (.slice lo L.length lc) ∧ ∃ qs, qs.map Prod.fst = L ∧ RowV w (.slice lo L.length lc) L.length qs ∧ DocL w 0 (.slice lo L.length lc) qs := by
  obtain ⟨v, ps, hB, hd, e⟩ := h.ex
  obtain ⟨lo, lc, rfl, _⟩ := hd.own.form
  have hl : ps.length = L.length := by rw [← e, List.length_map]
  have hr := hd.rowV
  rw [hl] at hr hB hd
  exact ⟨lo, lc, by rw [cell_at hB]; rfl, ps, e, hr, hd⟩

/-- Rules of a table, and then the rules held against the document's. -/
theorem Both.two {w0 w : World} {tb rb : Nat} {W : Int} {L : List Raw} (h : Both w0 w tb rb W L) : ∃ lo nl lc, nl = L.length ∧ w.cell? ⟨rb, 1, none⟩ = some (.slice lo nl lc) ∧ ∀ X, Below w.heap.size w X → Calls Tryz.prog 12 #[.pointer (some ⟨tb, 0, none⟩)] X fun e w' => ∃ a n c, e = .returned (.slice a n c) ∧ Below X.heap.size X w' ∧ w'.cell? ⟨rb, 1, none⟩ = some (.slice lo nl lc) ∧ Calls Tryz.prog 11 #[.slice a n c, .slice lo nl lc] w' fun e w'' => e = .returned (.bool true) ∧ Below w'.heap.size w' w'' := by
  obtain ⟨lo, lc, hc, qs, e, hr, _⟩ := h.doc.row
  refine ⟨lo, L.length, lc, rfl, hc, fun X hX => (Rules_any (h.fib.on hX)).mono ?_⟩
  rintro en w' ⟨v, qs2, rfl, ⟨a, n, c, rfl⟩, h2, e2, _, hb⟩
  have hb2 := below_2 hX hb
  exact ⟨a, n, c, rfl, hb, (hb2.cell (block_old hc)).trans hc, same_rows h2 (hr.on hb2) h.fib.good e2 e⟩

set_option maxRecDepth 20000 in
set_option maxHeartbeats 4000000 in
theorem fchanges_bad {w : World} {ao bo : Option Addr} {n cap n2 cap2 : Nat} {W : Int} (h : ¬ (1 ≤ W ∧ W ≤ 128)) : Calls Tryz.prog 3 #[.int .i64 W, .slice ao n cap, .slice bo n2 cap2] w fun e w' => e = .returned (.bool true) ∧ Below w.heap.size w w' := by
  have HM := hid (made_bad (w := w) (ao := ao) (n := n) (cap := cap) h)
  have p2 := eqlR_two
  go_enter Tryz.func3, Tryz.ntmps3
  go_wp2_with fail
  refine HM.out.mono ?_
  rintro en w1 ⟨rfl, hb1⟩
  have B1 := hid hb1
  clear hb1
  go_wp2_with (go_at_call 10; refine (fawake _).mono ?_; rintro e wz ⟨rfl, hbz⟩; have BZ := hid (below_2 B1.out hbz); clear hbz)
  go_ret
  exact ⟨rfl, BZ.out⟩

set_option maxRecDepth 20000 in
set_option maxHeartbeats 4000000 in
theorem fchanges_good {w : World} {ao bo : Option Addr} {n cap n2 cap2 : Nat} {W : Int} {cs ds : List (Int × Raw × Value)} (h : 1 ≤ W ∧ W ≤ 128) (hc : ChIn w ao cs) (hn : cs.length = n) (hnc : n ≤ cap) (hs : ∀ u ∈ cs, Small u.2.1.mat u.2.1.ports) (h63 : n ≤ maxLen)
    (hd : ChIn w bo ds) (hdn : ds.length = n2) (hds : ∀ u ∈ ds, Small u.2.1.mat u.2.1.ports) (hd64 : n2 * 64 ≤ 140737488355328) : Calls Tryz.prog 3 #[.int .i64 W, .slice ao n cap, .slice bo n2 cap2] w fun e w' => e = .returned (.bool true) ∧ Below w.heap.size w w' := by
  have HM := hid (made_good h hc hn hnc hs h63)
  have HG := hid (madeN_good h ((chs cs).take 100))
  have HC := hid hd
  have HN := hid hdn
  have HS := hid hds
  have p2 := eqlR_none
  obtain ⟨L, hL⟩ : ∃ L, L = madeN W ((chs cs).take 100) := ⟨_, rfl⟩
  rw [← hL] at HM HG
  clear hc hn hs hd hdn hds hL
  go_enter Tryz.func3, Tryz.ntmps3
  go_wp2_with fail
  refine HM.out.mono ?_
  rintro en w1 ⟨tb, rb, rfl, h1⟩
  have B1 := hid h1.out
  clear h1
  go_wp2_with (first | (go_at_call 10; refine (fawake _).mono ?_; rintro e wz ⟨rfl, hbz⟩; have BZ := hid (B1.out.on hbz); clear hbz) | fail)
  obtain ⟨lo, nl, lc, -, hS0, hr1⟩ := BZ.out.two
  have HR1 := hid hr1
  clear hr1
  go_region_held2 (fun W' => W'.cell? ⟨rb, 1, none⟩ = some (.slice lo nl lc)) (first | exact hS0 | exact hS2 | exact hS3) (first | (go_at_call 12; refine (HR1.out _ ((Below.refl _ _).drew)).mono ?_; rintro en w2 ⟨a2, n2', c2, rfl, hb2, hS2, hsm⟩; have HSM := hid hsm; have HB2 := hid (below_2 ((Below.refl wz.heap.size wz).drew) hb2); clear hb2 hsm) | (go_at_call 11; refine HSM.out.mono ?_; rintro en w3 ⟨rfl, hb3⟩; have hS3 := (hb3.cell (block_old hS2)).trans hS2; have B3 := hid (BZ.out.on (below_2 HB2.out hb3)); clear hb3))
  clear hS0 hS2 hS3 HR1 HSM
  have HDO := hid (Do_any (cap := cap2) B3.out.fib (HC.out.on B3.out.low) HN.out hd64)
  go_wp2_with fail
  refine HDO.out.mono ?_
  rintro en w4 ⟨hg4, hd4⟩
  have HD4 := hid hd4
  have HL4 := hid (grown_low B3.out.low hg4 B3.out.ot)
  have HDT := hid (show DTab w4 rb W L from by
    obtain ⟨cc, hcc⟩ := B3.out.fib.blk
    exact B3.out.doc.grew hg4 hcc)
  clear hg4 hd4
  have HRD := hid (RDo_any (cap := cap2) HDT.out HG.out (HC.out.on HL4.out) HN.out HS.out (by unfold maxLen; omega))
  have HKEEP := hid (show ∀ X, w4.grownBy X (some rb) → Below w.heap.size w X ∧ ∀ L, FTab w4 w.heap.size tb W L → FTab X w.heap.size tb W L from fun X hX => ⟨grown_low HL4.out hX B3.out.orr, fun L hL => by
    obtain ⟨cc, hcc⟩ := HDT.out.blk
    exact hL.grew hX hcc⟩)
  obtain ⟨x, y, L2, rfl, hres⟩ : ∃ (x y : Int) (L2 : List Raw), en = .returned (.tuple #[.int .i64 x, .int .i64 y]) ∧ FTab w4 w.heap.size tb W L2 ∧ ∀ e5 w5, RDoPost w4 rb W L (chs ds) e5 w5 → e5 = .returned (.tuple #[.int .i64 x, .int .i64 y]) ∧ Both w w5 tb rb W L2 := by
    rcases HD4.out with ⟨L', h1, h2, h3⟩ | ⟨i, er, h1, _, h2, h3⟩
    · refine ⟨0, 0, L', h2, h3, fun e5 w5 ⟨hg5, hd5⟩ => ?_⟩
      rcases hd5 with ⟨L5, k1, k2, k3⟩ | ⟨i5, er5, k1, _⟩
      · rw [h1] at k1; injection k1 with k1; subst k1
        exact ⟨k2, (HKEEP.out _ hg5).1, B3.out.ot, B3.out.orr, (HKEEP.out _ hg5).2 _ h3, k3⟩
      · rw [h1] at k1; cases k1
    · refine ⟨i, er, L, h2, h3, fun e5 w5 ⟨hg5, hd5⟩ => ?_⟩
      rcases hd5 with ⟨L5, k1, k2, k3⟩ | ⟨i5, er5, k1, _, k2, k3⟩
      · rw [h1] at k1; cases k1
      · rw [h1] at k1; injection k1 with k1; injection k1 with k1 k4; subst k1 k4
        exact ⟨k2, (HKEEP.out _ hg5).1, B3.out.ot, B3.out.orr, (HKEEP.out _ hg5).2 _ h3, k3⟩
  have HRES := hid hres
  clear hres HD4
  go_wp2_with fail
  refine HRD.out.mono ?_
  rintro en w5 hp5
  obtain ⟨rfl, hB5⟩ := HRES.out.2 _ _ hp5
  have B5 := hid hB5
  clear hp5 hB5
  obtain ⟨lo5, nl5, lc5, hnl, hT0, hr5⟩ := B5.out.two
  have HR5 := hid hr5
  have HLEN := hid (show ∀ X, Below w5.heap.size w5 X → Calls Tryz.prog 15 #[.pointer (some ⟨tb, 0, none⟩)] X fun e w' => e = .returned (.int .i64 (nl5 : Int)) ∧ w' = X from fun X hX => by rw [hnl]; exact Len_any (B5.out.fib.on hX))
  clear hr5 hnl
  have exx : (x == x) = true := by simp
  have eyy : (y == y) = true := by simp
  have eww : (W == W) = true := by simp
  have enn : ((nl5 : Int) == (nl5 : Int)) = true := by simp
  have HFL := hid (show ∀ X, Below w5.heap.size w5 X → X.cell? ⟨rb, 1, none⟩ = some (.slice lo5 nl5 lc5) from fun X hX => (hX.cell (block_old hT0)).trans hT0)
  clear HM HKEEP HRES HDO HRD HC HS HN HG HL4 HDT B1 BZ B3 HB2 p2 HFL hd64 h63 hnc h
  go_wp2_with fail
  go_region_held2 (fun W' => W'.cell? ⟨rb, 1, none⟩ = some (.slice lo5 nl5 lc5)) (first | exact hT0 | exact hT2 | exact hT3) (first | (go_at_call 12; refine (HR5.out _ ((Below.refl _ _).drew)).mono ?_; rintro en w6 ⟨a6, n6, c6, rfl, hb6, hT2, hsm⟩; have HSM := hid hsm; have HB6 := hid (below_2 ((Below.refl w5.heap.size w5).drew) hb6); clear hb6 hsm) | (go_at_call 11; refine HSM.out.mono ?_; rintro en w7 ⟨rfl, hb7⟩; have hT3 := (hb7.cell (block_old hT2)).trans hT2; have HB7 := hid (below_2 HB6.out hb7); clear hb7) | (go_at_call 15; refine (HLEN.out _ HB7.out).mono ?_; rintro en w8 ⟨rfl, hw8⟩; subst hw8) | (go_at_call 16; refine (Width_any (B5.out.fib.on HB7.out)).mono ?_; rintro en w9 ⟨rfl, hw9⟩; subst hw9))
  go_wp2
  go_ret
  exact ⟨rfl, (B5.out.on HB7.out).low⟩
end Go.Proofs.YtipmlcdnfaobiaaGreat
namespace Go.Proofs.YtipmlcdnfaobiaaGreat
open Go.ChangeShapes Go.WideShapes Go.ChangeAt Go.RowKit
open Go.ChangeMaps (open_string shut_string)

theorem each_boundV {H : Type} {P : Program} {t : TypeId} {fs : Array Field} {l : List (TypeId × Nat)} {ds : List (DataW H)} (ht : P.underlying t = some (.struct fs)) (hl : fs.toList.map (fun f => (f.type, f.offset)) = l) (hw : ∀ k ∈ (DataW.agg ds : DataW H).weights P t, k ≤ reachBytes) :
    ∀ (i : Nat) (ty : TypeId) (off : Nat) (d : DataW H), l[i]? = some (ty, off) → ds[i]? = some d → ∀ k ∈ d.weights P ty, k ≤ reachBytes := by
  intro i ty off d hi hd k hk
  apply hw
  simp only [DataW.weights, ht]
  refine DataW.weights_mem_each (j := i) (t := ty) ?_ hd k hk
  rw [← hl, List.getElem?_map, Option.map_eq_some_iff] at hi
  obtain ⟨f, hf, e⟩ := hi
  rw [List.getElem?_map, hf]
  simp only [Prod.mk.injEq] at e
  simp [e.1]
theorem weights_allV {H : Type} {P : Program} {e : TypeId} : ∀ {ds : List (DataW H)} {d : DataW H}, d ∈ ds → ∀ k ∈ d.weights P e, k ∈ DataW.weightsAll P e ds
  | d0 :: ds, d, hd, k, hk => by
    simp only [DataW.weightsAll, List.mem_append]
    rcases List.mem_cons.1 hd with rfl | hd
    · exact Or.inl hk
    · exact Or.inr (weights_allV hd k hk)
theorem slice_boundV {H : Type} {P : Program} {t e : TypeId} {a b : List (DataW H)} (ht : P.underlying t = some (.slice e)) (hw : ∀ k ∈ (DataW.slice a b : DataW H).weights P t, k ≤ reachBytes) : (a.length + b.length) * P.bytesOf e ≤ reachBytes ∧ ∀ d ∈ a, ∀ k ∈ d.weights P e, k ≤ reachBytes := by
  refine ⟨hw _ (by simp [DataW.weights, ht]), fun d hd k hk => hw k ?_⟩
  simp only [DataW.weights, ht, List.mem_cons, List.mem_append]
  exact Or.inr (Or.inl (weights_allV hd k hk))

section
variable {H : Type} {enc : TypeId × Value → H} {w : World} {base : Nat} {spare : Nat → Bool} {held : Bool}

set_option maxRecDepth 100000 in
theorem open_rule_sV {fuel : Nat} {cs : List Value} {x : DataW H × List MemPlace} (h : DataW.trod enc Tryz.prog w base spare held fuel 44 cs = some x) (hw : ∀ k ∈ x.1.weights Tryz.prog 44, k ≤ reachBytes) :
    ∃ (p : Int) (m : ByteArray) (k : Int) (v : Value) (n : Nat) (y : DataW H × List MemPlace), cs = [.int .i64 p, .string m, .int .i64 k, v] ∧ m.size ≤ maxLen ∧ DataW.trod enc Tryz.prog w base spare held n 39 [v] = some y ∧ m.size ≤ reachBytes ∧ ∀ k ∈ y.1.weights Tryz.prog 39, k ≤ reachBytes := by
  obtain ⟨fs, hfs, hl⟩ := struct_of (P := Tryz.prog) (t := 44) (l := [(3, 0), (9, 1), (42, 2)]) (by kernel_rfl)
  obtain ⟨gs, hgs, hm⟩ := struct_of (P := Tryz.prog) (t := 42) (l := [(40, 0), (39, 1)]) (by kernel_rfl)
  obtain ⟨xs, n, _, hxe, hlen, hxl, hf⟩ := DataW.trod_struct hfs h
  have W1 := each_boundV hfs hl (by rw [hxe] at hw; exact hw)
  have hc : Tryz.prog.cellsOf 44 = 4 := by kernel_rfl
  rw [hc] at hlen
  have hsz : fs.size = 3 := by have := congrArg List.length hl; simpa using this
  match cs, hlen with
  | [c0, c1, c2, c3], _ =>
    obtain ⟨f0, e0, t0, o0⟩ := field_of hl (i := 0) rfl
    obtain ⟨f1, e1, t1, o1⟩ := field_of hl (i := 1) rfl
    obtain ⟨f2, e2, t2, o2⟩ := field_of hl (i := 2) rfl
    have g0 := hf 0 f0 e0
    have g1 := hf 1 f1 e1
    have g2 := hf 2 f2 e2
    rw [t0, o0, show Tryz.prog.cellsOf 3 = 1 by kernel_rfl, List.getElem?_eq_getElem (show 0 < xs.length by omega)] at g0
    rw [t1, o1, show Tryz.prog.cellsOf 9 = 1 by kernel_rfl, List.getElem?_eq_getElem (show 1 < xs.length by omega)] at g1
    rw [t2, o2, show Tryz.prog.cellsOf 42 = 2 by kernel_rfl, List.getElem?_eq_getElem (show 2 < xs.length by omega)] at g2
    obtain ⟨p, hp, _, _⟩ := DataW.trod_int Tryz.underlying3 g0
    obtain ⟨m, hm1, hx1, hms⟩ := DataW.trod_string Tryz.underlying9 g1
    obtain ⟨ys, n2, _, hye, _, hyl, hg⟩ := DataW.trod_struct hgs g2
    have W2 := each_boundV hgs hm (by have := W1 2 42 2 xs[2].1 rfl (by rw [List.getElem?_map, List.getElem?_eq_getElem (show 2 < xs.length by omega)]; rfl); rw [hye] at this; exact this)
    have hsz2 : gs.size = 2 := by have := congrArg List.length hm; simpa using this
    obtain ⟨k0, d0, u0, q0⟩ := field_of hm (i := 0) rfl
    obtain ⟨k1, d1, u1, q1⟩ := field_of hm (i := 1) rfl
    have r0 := hg 0 k0 d0
    have r1 := hg 1 k1 d1
    rw [u0, q0, show Tryz.prog.cellsOf 40 = 1 by kernel_rfl, List.getElem?_eq_getElem (show 0 < ys.length by omega)] at r0
    rw [u1, q1, show Tryz.prog.cellsOf 39 = 1 by kernel_rfl, List.getElem?_eq_getElem (show 1 < ys.length by omega)] at r1
    obtain ⟨k, hk, _, _⟩ := DataW.trod_int (k := .i64) (by kernel_rfl) r0
    simp at hp hm1 hk
    subst hp hm1 hk
    refine ⟨p, m, k, c3, n2, _, rfl, hms, by simpa using r1, ?_, ?_⟩
    · have := W1 1 9 1 xs[1].1 rfl (by rw [List.getElem?_map, List.getElem?_eq_getElem (show 1 < xs.length by omega)]; rfl)
      rw [hx1] at this
      have q := this m.data.toList.length (by simp [DataW.weights])
      rw [list_size] at q; exact q
    · exact W2 1 39 1 ys[1].1 rfl (by rw [List.getElem?_map, List.getElem?_eq_getElem (show 1 < ys.length by omega)]; rfl)

/-- Texts that came in. -/
theorem open_texts_sV {fuel : Nat} {v : Value} {x : DataW H × List MemPlace} (h : DataW.trod enc Tryz.prog w base (fun _ => true) held fuel 39 [v] = some x) (hw : ∀ k ∈ x.1.weights Tryz.prog 39, k ≤ reachBytes) : ∃ ps : List (List UInt8), Txs w v ps ∧ (∀ p ∈ ps, p.length ≤ maxLen) ∧ ps.length * 16 ≤ reachBytes ∧ ∀ p ∈ ps, p.length ≤ reachBytes := by
  rcases open_strings Tryz.underlying39 Tryz.underlying9 (by kernel_rfl) h with ⟨hcs, _⟩ | ⟨a, len, cap, ss, hcs, _, hl, hm, hz, hxe, hcell, hws⟩
  · simp only [List.cons.injEq, and_true] at hcs
    exact ⟨[], by rw [hcs]; exact Txs.nil _ _ _, fun p hp => absurd hp (by simp), by simp, fun p hp => absurd hp (by simp)⟩
  · simp only [List.cons.injEq, and_true] at hcs
    simp only [if_true] at hz
    rw [hxe] at hw
    obtain ⟨w1, w2⟩ := slice_boundV Tryz.underlying39 hw
    rw [show Tryz.prog.bytesOf 9 = 16 by kernel_rfl] at w1
    refine ⟨(ss.take len).map (fun s => s.data.toList), ?_, fun p hp => ?_, ?_, fun p hp => ?_⟩
    · have hlen : ((ss.take len).map (fun s => s.data.toList)).length = len := by rw [List.length_map, List.length_take]; omega
      refine ⟨some a, cap, by rw [hlen, hcs], ?_⟩
      by_cases h0 : len = 0
      · exact Or.inl (by rw [h0]; simp)
      · obtain ⟨⟨g, o, rfl⟩, hb⟩ := addr_of5 (hcell 0 (by omega))
        refine Or.inr ⟨g, o, rfl, hb, fun i hi => ?_⟩
        rw [hlen] at hi
        have := hcell i (by omega)
        rw [addr_add5] at this
        rw [this]
        have hi2 : i < ss.length := by omega
        simp [List.getD_eq_getElem?_getD, List.getElem?_map, hi, List.getElem?_eq_getElem hi2]
    · obtain ⟨s, hs, rfl⟩ := List.mem_map.1 hp
      have := hws s (List.mem_of_mem_take hs)
      rw [list_size]; exact this
    · refine Nat.le_trans (Nat.mul_le_mul_right 16 ?_) w1
      simp [strs]
    · obtain ⟨s, hs, rfl⟩ := List.mem_map.1 hp
      exact w2 (.lit (.string s.data.toList)) (List.mem_map.2 ⟨s, hs, rfl⟩) _ (by simp [DataW.weights])


set_option maxRecDepth 100000 in
theorem open_change {fuel : Nat} {cs : List Value} {x : DataW H × List MemPlace} (h : DataW.trod enc Tryz.prog w base spare held fuel 57 cs = some x) (hw : ∀ k ∈ x.1.weights Tryz.prog 57, k ≤ reachBytes) :
    ∃ (kd : Int) (rs : List Value) (n : Nat) (y : DataW H × List MemPlace), cs = .int .i64 kd :: rs ∧ DataW.trod enc Tryz.prog w base spare held n 44 rs = some y ∧ ∀ k ∈ y.1.weights Tryz.prog 44, k ≤ reachBytes := by
  obtain ⟨fs, hfs, hl⟩ := struct_of (P := Tryz.prog) (t := 57) (l := [(55, 0), (44, 1)]) (by kernel_rfl)
  obtain ⟨xs, n, _, hxe, hlen, hxl, hf⟩ := DataW.trod_struct hfs h
  have W1 := each_boundV hfs hl (by rw [hxe] at hw; exact hw)
  have hc : Tryz.prog.cellsOf 57 = 5 := by kernel_rfl
  rw [hc] at hlen
  have hsz : fs.size = 2 := by have := congrArg List.length hl; simpa using this
  match cs, hlen with
  | [c0, c1, c2, c3, c4], _ =>
    obtain ⟨f0, e0, t0, o0⟩ := field_of hl (i := 0) rfl
    obtain ⟨f1, e1, t1, o1⟩ := field_of hl (i := 1) rfl
    have g0 := hf 0 f0 e0
    have g1 := hf 1 f1 e1
    rw [t0, o0, show Tryz.prog.cellsOf 55 = 1 by kernel_rfl, List.getElem?_eq_getElem (show 0 < xs.length by omega)] at g0
    rw [t1, o1, show Tryz.prog.cellsOf 44 = 4 by kernel_rfl, List.getElem?_eq_getElem (show 1 < xs.length by omega)] at g1
    obtain ⟨kd, hk, _, _⟩ := DataW.trod_int (k := .i64) (by kernel_rfl) g0
    simp at hk
    subst hk
    exact ⟨kd, [c1, c2, c3, c4], n, _, rfl, by simpa using g1, W1 1 44 1 xs[1].1 rfl (by rw [List.getElem?_map, List.getElem?_eq_getElem (show 1 < xs.length by omega)]; rfl)⟩

/-- Changes that came in. -/
theorem open_changes {fuel : Nat} {ao : Option Addr} {len cap : Nat} {x : DataW H × List MemPlace} (h : DataW.trod enc Tryz.prog w base (fun _ => true) held fuel 22 [.slice ao len cap] = some x) (hw : ∀ k ∈ x.1.weights Tryz.prog 22, k ≤ reachBytes) : ∃ cs : List (Int × Raw × Value), ChIn w ao cs ∧ cs.length = len ∧ len ≤ cap ∧ (∀ u ∈ cs, Small u.2.1.mat u.2.1.ports) ∧ len * 64 ≤ 140737488355328 := by
  rcases Go.Deep.open_slice (e := 57) Tryz.underlying22 h with ⟨hcs, _⟩ | ⟨a, len', cap', m, n, D, Pl, hcs, _, hl, hm, hmm, hxe, hx⟩
  · simp at hcs
    exact ⟨[], Or.inl rfl, by rw [hcs.2.1]; rfl, by omega, fun q hq => absurd hq (by simp), by omega⟩
  · simp at hcs
    obtain ⟨rfl, rfl, rfl⟩ := hcs
    simp only [if_true] at hmm
    have hc : Tryz.prog.cellsOf 57 = 5 := by kernel_rfl
    by_cases h0 : len = 0
    · exact ⟨[], Or.inl rfl, by rw [h0]; rfl, hl, fun q hq => absurd hq (by simp), by omega⟩
    rw [hxe] at hw
    obtain ⟨w1, w2⟩ := slice_boundV Tryz.underlying22 hw
    rw [show Tryz.prog.bytesOf 57 = 64 by kernel_rfl] at w1
    have each : ∀ i, i < len → ∃ q : Int × Raw × Value, w.cell? (a.add (i * 5)) = some (.int .i64 q.1) ∧ w.cell? ((a.add (i * 5)).add 1) = some (.int .i64 q.2.1.prio) ∧ w.cell? ((a.add (i * 5)).add 2) = some (.string (tx q.2.1.mat)) ∧ w.cell? ((a.add (i * 5)).add 3) = some (.int .i64 q.2.1.kind) ∧ w.cell? ((a.add (i * 5)).add 4) = some q.2.2 ∧ Txs w q.2.2 q.2.1.ports ∧ (∀ p ∈ q.2.1.ports, p.length ≤ maxLen) ∧ Small q.2.1.mat q.2.1.ports := by
      intro i hi
      obtain ⟨cs', h1, h2⟩ := hx i (by omega)
      rw [hc] at h1
      obtain ⟨_, _, hcell⟩ := World.cells?_some h1
      obtain ⟨kd, rs, n0, y0, rfl, hr, hb0⟩ := open_change h2 (w2 (D i) (List.mem_map.2 ⟨i, List.mem_range.2 hi, rfl⟩))
      obtain ⟨p, m', k, v, n', y, rfl, hms, hv, hb1, hb2⟩ := open_rule_sV hr hb0
      obtain ⟨zs, hz1, hz2, hz3, hz4⟩ := open_texts_sV hv hb2
      have c0 := hcell 0 (by omega)
      have c1 := hcell 1 (by omega)
      have c2 := hcell 2 (by omega)
      have c3 := hcell 3 (by omega)
      have c4 := hcell 4 (by omega)
      have e0 : (a.add (i * 5)).add 0 = a.add (i * 5) := by unfold Addr.add; simp
      rw [e0] at c0
      exact ⟨(kd, ⟨p, m'.data.toList, k, zs⟩, v), c0, c1, c2, c3, c4, hz1, hz2, by rw [list_size]; exact Nat.le_trans hb1 (by decide), Nat.le_trans hz3 (by decide), fun z hz => Nat.le_trans (hz4 z hz) (by decide)⟩
    have : Inhabited (Int × Raw × Value) := ⟨(0, ⟨0, [], 0, []⟩, .bool false)⟩
    obtain ⟨q, hq⟩ := Go.Deep.choose_lt each
    obtain ⟨⟨g, o, rfl⟩, hb⟩ := addr_of5 (v := .int .i64 (q 0).1) (by have := (hq 0 (by omega)).1; rw [Nat.zero_mul] at this; exact this)
    refine ⟨(List.range len).map q, Or.inr ⟨g, o, rfl, hb, fun i r hr => ?_, fun r hr => ?_⟩, by simp, hl, fun r hr => ?_, ?_⟩
    · rw [List.getElem?_map, Option.map_eq_some_iff] at hr
      obtain ⟨i', hi', rfl⟩ := hr
      obtain ⟨hi, rfl⟩ := List.getElem?_eq_some_iff.1 hi'
      simp only [List.length_range] at hi
      simp only [List.getElem_range]
      obtain ⟨c0, c1, c2, c3, c4, _, _⟩ := hq i hi
      rw [addr_add5] at c0 c1 c2 c3 c4
      rw [addr_add5] at c1 c2 c3 c4
      exact ⟨c0, c1, c2, c3, c4⟩
    · obtain ⟨i, hi, rfl⟩ := List.mem_map.1 hr
      have := hq i (List.mem_range.1 hi)
      exact ⟨this.2.2.2.2.2.1, this.2.2.2.2.2.2.1⟩
    · obtain ⟨i, hi, rfl⟩ := List.mem_map.1 hr
      exact (hq i (List.mem_range.1 hi)).2.2.2.2.2.2.2
    · have e : ((List.range len).map D).length = len := by simp
      have : len * 64 ≤ reachBytes := Nat.le_trans (Nat.mul_le_mul_right 64 (by rw [e]; omega)) w1
      exact Nat.le_trans this (by decide)
end
end Go.Proofs.YtipmlcdnfaobiaaGreat
namespace Go.Proofs.YtipmlcdnfaobiaaGreat
open Go.ChangeShapes Go.WideShapes Go.ChangeAt Go.RowKit

theorem VCChg.own : ownKnob Tryz.prog.godebug = none := by kernel_rfl
theorem VCChg.laidOut : laidOutB Tryz.prog = true := by kernel_rfl
theorem VCChg.args {v0 v1 v2 : Value} {args : Array Value} {l l2 : List Value} (h : args.toList = v0 :: l) (h1 : l = v1 :: l2) (h2 : l2 = v2 :: []) : args = #[v0, v1, v2] := by
  subst h1 h2
  obtain ⟨a⟩ := args
  simp only at h
  rw [h]

theorem fchanges_any {w : World} {ao bo : Option Addr} {n cap n2 cap2 : Nat} {W : Int} {cs ds : List (Int × Raw × Value)} (hc : ChIn w ao cs) (hn : cs.length = n) (hnc : n ≤ cap) (hs : ∀ u ∈ cs, Small u.2.1.mat u.2.1.ports) (h64 : n * 64 ≤ 140737488355328)
    (hd : ChIn w bo ds) (hdn : ds.length = n2) (hds : ∀ u ∈ ds, Small u.2.1.mat u.2.1.ports) (hd64 : n2 * 64 ≤ 140737488355328) : Calls Tryz.prog 3 #[.int .i64 W, .slice ao n cap, .slice bo n2 cap2] w fun e w' => e = .returned (.bool true) ∧ Below w.heap.size w w' := by
  by_cases h : 1 ≤ W ∧ W ≤ 128
  · exact fchanges_good h hc hn hnc hs (by unfold maxLen; omega) hd hdn hds hd64
  · exact fchanges_bad h

set_option maxRecDepth 100000 in
theorem VCChg.lifted (os : Os) (started : os.Started) (H : Type) (enc : TypeId × Value → H) :
    ReturnsInHanded {} Tryz.checked os 3 .any (Rows.fibChangesSpec.pre6 enc Tryz.prog Tryz.f3 Rows.fibChangesRow.domain false) (Rows.fibChangesSpec.post enc Tryz.prog Tryz.f3 false true false false) := by
  refine returnsInHanded_of_change_sized (C := Tryz.checked) VCChg.own started (by kernel_rfl) Tryz.func3
    (ChangeSpec.witness6 (enc := enc) (C := Tryz.checked) false ⟨#[], #[.int .i64 0, .slice none 0 0, .slice none 0 0], []⟩ 8 (by kernel_rfl) (by kernel_rfl) (by kernel_rfl) (by kernel_rfl)) ?_
  intro W base args ds gs before hval0 hW hcnd hsz _
  have hval : ∀ (j : Nat) t v, Tryz.f3.params[j]? = some t → args[j]? = some v → Value.okWide Tryz.prog W .any base t v := hval0
  have hW' := hW
  obtain ⟨p, q, hA0, hV, rfl, hfz, hnd⟩ := hW
  have hA : DataW.TrodAll enc Tryz.prog W 0 (fun _ => true) true Tryz.f3.params.toList args.toList ds p := hA0
  rw [Tryz.params3] at hA hval
  obtain ⟨v0, vs0, d0, ds0, p0, q0, hargs, rfl, rfl, h0, r0⟩ := trodAll_cons hA
  obtain ⟨v1, vs1, d1, ds1, p1, q1, hargs1, rfl, rfl, h1, r1⟩ := trodAll_cons r0
  obtain ⟨v2, vs2, d2, ds2, p2, q2, hargs2, rfl, rfl, h2, r2⟩ := trodAll_cons r1
  obtain ⟨rfl, rfl, rfl⟩ := trodAll_nil r2
  obtain rfl := VCChg.args hargs hargs1 hargs2
  obtain ⟨rfl, rfl⟩ := trodVars_none hV
  obtain ⟨a0, rfl, rfl, rfl, w0⟩ := open_int Tryz.underlying3 (hval 0 3 v0 rfl rfl) h0
  obtain ⟨a1, len1, cap1, rfl⟩ := okWide_slice Tryz.underlying22 (hval 1 22 v1 rfl rfl)
  obtain ⟨a2, len2, cap2, rfl⟩ := okWide_slice Tryz.underlying22 (hval 2 22 v2 rfl rfl)
  have k1 := h1
  have k2 := h2
  have lt1 : ∀ x ∈ p1, x.block < W.heap.size := by obtain ⟨m, hm⟩ := k1; exact DataW.trod_lt m _ _ _ hm
  have lt2 : ∀ x ∈ p2, x.block < W.heap.size := by obtain ⟨m, hm⟩ := k2; exact DataW.trod_lt m _ _ _ hm
  have hwt1 : ∀ k ∈ d1.weights Tryz.prog 22, k ≤ reachBytes := fun k hk => of_decide_eq_true (List.all_eq_true.1 hsz k (DataW.weights_mem_each (j := 1) (t := 22) (d := d1) (by rw [Tryz.params3]; rfl) rfl k hk))
  have hwt2 : ∀ k ∈ d2.weights Tryz.prog 22, k ≤ reachBytes := fun k hk => of_decide_eq_true (List.all_eq_true.1 hsz k (DataW.weights_mem_each (j := 2) (t := 22) (d := d2) (by rw [Tryz.params3]; rfl) rfl k hk))
  obtain ⟨cs, hc, hcl, hcc, hcs, hc64⟩ : ∃ cs : List (Int × Raw × Value), ChIn W a1 cs ∧ cs.length = len1 ∧ len1 ≤ cap1 ∧ (∀ u ∈ cs, Small u.2.1.mat u.2.1.ports) ∧ len1 * 64 ≤ 140737488355328 := by
    obtain ⟨fuel, hf⟩ := h1
    exact open_changes hf hwt1
  obtain ⟨es, he, hel, hec, hes, he64⟩ : ∃ cs : List (Int × Raw × Value), ChIn W a2 cs ∧ cs.length = len2 ∧ len2 ≤ cap2 ∧ (∀ u ∈ cs, Small u.2.1.mat u.2.1.ports) ∧ len2 * 64 ≤ 140737488355328 := by
    obtain ⟨fuel, hf⟩ := h2
    exact open_changes hf hwt2
  simp only [List.append_nil] at hW'
  clear hA0 hval0
  refine (fchanges_any hc hcl hcc hcs hc64 he hel hes he64).mono fun e W' ⟨he, bel⟩ => ?_
  subst he
  exact ⟨_, rfl, _, _, _, [], _, [], hW', trodAll_mk1 (shut_bool Tryz.underlying4 _), (trodAll_cons_mk (shut_int Tryz.underlying3 w0) (trodAll_cons_mk (Below.trod VCChg.laidOut (by kernel_rfl) (of_decide_eq_true (by kernel_rfl)) k1 bel lt1) (trodAll_cons_mk (Below.trod VCChg.laidOut (by kernel_rfl) (of_decide_eq_true (by kernel_rfl)) k2 bel lt2) trodAll_mk0))), rfl, bel.frame _, fun h => by cases h⟩

theorem FibChanges_holds : Rows.FibChangesSaid :=
  OpenClaim.holds_of_wide 3 Tryz.f3 rfl rfl rfl rfl rfl rfl rfl ⟨rfl, rfl, rfl, rfl, rfl⟩ rfl rfl rfl rfl rfl (by kernel_rfl) Tryz.func3 (by kernel_rfl)
    (of_decide_eq_true (by kernel_rfl)) (by unfold Func.isWrapper; first | (rw [if_pos (by decide +kernel)]; kernel_rfl) | (rw [if_neg (by decide +kernel)]; exact ⟨rfl, rfl⟩))
    (fun os started H enc _ => VCChg.lifted os started H enc)
#print axioms FibChanges_holds
end Go.Proofs.YtipmlcdnfaobiaaGreat
