/-
  Texts of tables, by their mathematics: what is parsed may be; how long a printed text is; what parsed rules come to in order.
-/
import Derived.Test.YtemmhingmeinjaaGreatDoorVDocH
import Derived.Test.YtemmhingmeinjaaGreatDoorLMeetsAnd
import Derived.Test.YtemmhingmeinjaaGreatDoorVDocFAnd
import Derived.Test.YtemmhingmeinjaaGreatDoorUCopyAnd
import Derived.Test.YtemmhingmeinjaaGreatDoorVDocWAnd
import Derived.Test.YtemmhingmeinjaaGreatDoorUWordsAnd
import Derived.Test.YtemmhingmeinjaaGreatDoorULOrdAnd
namespace Go.Proofs.YtemmhingmeinjaaGreatDoor
open Go.RowKit

def stN (W : Int) (L : List Raw) (c : Int × Raw) : List Raw := match stepN W L c.1 c.2 with
  | .ok L' => L'
  | .error _ => L
def madeN (W : Int) (cs : List (Int × Raw)) : List Raw := cs.foldl (stN W) []
theorem madeN_snoc {W : Int} {cs : List (Int × Raw)} {j : Nat} {c : Int × Raw} (h : cs[j]? = some c) : madeN W (cs.take (j + 1)) = stN W (madeN W (cs.take j)) c := by
  unfold madeN
  rw [List.take_add_one, h, List.foldl_append]
  rfl
theorem run_one {W : Int} {L : List Raw} {k : Int} {r : Raw} : runN W L [(k, r)] 0 = match stepN W L k r with
    | .ok L' => .ok L'
    | .error e => .error (0, e) := by
  cases h : stepN W L k r with
  | ok L' => simp [runN, h]
  | error e => simp [runN, h]
structure Both (w0 w : World) (tb rb : Nat) (W : Int) (L : List Raw) : Prop where
  low : Below w0.heap.size w0 w
  ot : w0.heap.size ≤ tb
  orr : w0.heap.size ≤ rb
  fib : FTab w w0.heap.size tb W L
  doc : DTab w w0.heap.size rb W L
theorem Both.on {w0 w w' : World} {tb rb : Nat} {W : Int} {L : List Raw} (h : Both w0 w tb rb W L) (hb : Below w.heap.size w w') : Both w0 w' tb rb W L :=
  ⟨below_2 h.low hb, h.ot, h.orr, h.fib.on hb, h.doc.on hb⟩
theorem grown_low {w0 w w' : World} {b : Nat} (h : Below w0.heap.size w0 w) (hg : w.grownBy w' (some b)) (hb : w0.heap.size ≤ b) : Below w0.heap.size w0 w' := h.grown hg h.size (fun k hk => by injection hk with e; omega)
theorem one_view {w : World} {kd p k : Int} {m : List UInt8} {zs : List (List UInt8)} {v : Value} (ht : Txs w v zs) (hz : ∀ z ∈ zs, z.length ≤ maxLen) : ChIn (w.alloc (cob5 kd p m k v)) (some ⟨w.heap.size, 0, none⟩) [(kd, ⟨p, m, k, zs⟩, v)] := by
  have hn := new_0 w (cob5 kd p m k v)
  refine Or.inr ⟨w.heap.size, 0, rfl, lt_of_block hn, fun i u hi => ?_, fun u hu => ?_⟩
  · have h0 : i = 0 := by have := (List.getElem?_eq_some_iff.1 hi).1; simp at this; exact this
    subst h0
    have : (kd, (⟨p, m, k, zs⟩ : Raw), v) = u := by simpa using hi
    subst this
    refine ⟨?_, ?_, ?_, ?_, ?_⟩ <;> · rw [cell_at hn]; rfl
  · rw [List.mem_singleton.1 hu]
    exact ⟨ht.below ((Below.refl _ _).alloc (Nat.le_refl _) _), hz⟩
theorem ChView.at {w : World} {g o j : Nat} {cs : List (Int × Raw × Value)} {u : Int × Raw × Value} (h : ChView w g o cs) (hu : cs[j]? = some u) : ChView w g (o + j * 5) [u] := by
  refine ⟨h.old, fun i x hi => ?_, fun x hx => ?_⟩
  · have h0 : i = 0 := by have := (List.getElem?_eq_some_iff.1 hi).1; simp at this; exact this
    subst h0
    have : u = x := by simpa using hi
    subst this
    simpa using h.cell j u hu
  · rw [List.mem_singleton.1 hx]
    exact h.ports u (List.mem_of_getElem? hu)

set_option maxRecDepth 8000 in
set_option maxHeartbeats 2000000 in
theorem made_bad {w : World} {ao : Option Addr} {n cap : Nat} {W : Int} (h : ¬ (1 ≤ W ∧ W ≤ 128)) : Calls Tryz.prog 4 #[.int .i64 W, .slice ao n cap] w fun e w' => e = .returned (.tuple #[.pointer none, .pointer none, .bool true]) ∧ Below w.heap.size w w' := by
  have HN := hid (fun X : World => New_bad (w := X) h)
  have HR := hid (fun X : World => RNew_bad (w := X) h)
  have p1 : ∀ (X : World), (binOp .eql 23 (.pointer none) (.pointer none)).run Tryz.prog X = .ok (.bool true) X := fun X => by
    have h : ∀ d : Nat, (Op.equalIn (d + 1) 23 (.pointer none) (.pointer none)).run Tryz.prog X = .ok true X := fun d => by
      simp [Op.equalIn, run_underlying Tryz.underlying23, sizeOf, typeInfo]
    simp only [binOp]
    simp [Op.equal, Op.maxDepth, h 9999]
  have p2 : ∀ (X : World), (binOp .eql 24 (.pointer none) (.pointer none)).run Tryz.prog X = .ok (.bool true) X := fun X => by
    have h : ∀ d : Nat, (Op.equalIn (d + 1) 24 (.pointer none) (.pointer none)).run Tryz.prog X = .ok true X := fun d => by
      simp [Op.equalIn, run_underlying Tryz.underlying24, sizeOf, typeInfo]
    simp only [binOp]
    simp [Op.equal, Op.maxDepth, h 9999]
  go_enter Tryz.func4, Tryz.ntmps4
  go_wp2_with fail
  refine (HN.out _).mono ?_
  rintro en w1 ⟨rfl, hw⟩
  subst hw
  go_wp2_with fail
  refine (HR.out _).mono ?_
  rintro en w2 ⟨rfl, hw⟩
  subst hw
  go_wp2_with fail
  refine wp_loop_rounds 1 ?_
  rw [rounds_succ]
  go_wp2
  refine bodyPost_ret (v := .tuple #[.pointer none, .pointer none, .bool true]) (by simp [results, Tryz.results4, go_sem]) rfl ⟨rfl, Below.refl _ _⟩

set_option maxRecDepth 20000 in
set_option maxHeartbeats 4000000 in
theorem made_good {w : World} {ao : Option Addr} {n cap : Nat} {W : Int} {cs : List (Int × Raw × Value)} (h : 1 ≤ W ∧ W ≤ 128) (hc : ChIn w ao cs) (hn : cs.length = n) (hnc : n ≤ cap) (hs : ∀ u ∈ cs, Small u.2.1.mat u.2.1.ports) (h63 : n ≤ maxLen) :
    Calls Tryz.prog 4 #[.int .i64 W, .slice ao n cap] w fun e w' => ∃ tb rb, e = .returned (.tuple #[.pointer (some ⟨tb, 0, none⟩), .pointer (some ⟨rb, 0, none⟩), .bool true]) ∧ Hid (Both w w' tb rb W (madeN W ((chs cs).take 100))) := by
  have HN := hid (New_good (w := w) h)
  have HR := hid (fun X : World => RNew_good (w := X) (Q := w.heap.size) h)
  have HC := hid hc
  have HLN := hid hn
  have HS := hid hs
  have p1 : ∀ (X : World) (a : Addr), (binOp .eql 23 (.pointer (some a)) (.pointer none)).run Tryz.prog X = .ok (.bool false) X := fun X a => by
    have h : ∀ d : Nat, (Op.equalIn (d + 1) 23 (.pointer (some a)) (.pointer none)).run Tryz.prog X = .ok false X := fun d => by
      simp [Op.equalIn, run_underlying Tryz.underlying23, sizeOf, typeInfo]
    simp only [binOp]
    simp [Op.equal, Op.maxDepth, h 9999]
  have p2 : ∀ (X : World) (a : Addr), (binOp .eql 24 (.pointer (some a)) (.pointer none)).run Tryz.prog X = .ok (.bool false) X := fun X a => by
    have h : ∀ d : Nat, (Op.equalIn (d + 1) 24 (.pointer (some a)) (.pointer none)).run Tryz.prog X = .ok false X := fun d => by
      simp [Op.equalIn, run_underlying Tryz.underlying24, sizeOf, typeInfo]
    simp only [binOp]
    simp [Op.equal, Op.maxDepth, h 9999]
  have h63I : (n : Int) ≤ 9223372036854775807 := by unfold maxLen at h63; omega
  clear hc hn hs
  go_enter Tryz.func4, Tryz.ntmps4
  go_wp2_with fail
  refine HN.out.mono ?_
  rintro en w1 ⟨rfl, h1⟩
  have HF1 := hid h1.out.1
  have B1 := hid h1.out.2
  clear h1
  go_wp2_with fail
  refine (HR.out _).mono ?_
  rintro en w2 ⟨rfl, h2⟩
  have HB2 := hid (show Both w w2 w.heap.size w1.heap.size W (madeN W ((chs cs).take 0)) from ⟨below_2 B1.out h2.out.2, Nat.le_refl _, B1.out.size, HF1.out.on h2.out.2, h2.out.1⟩)
  clear h2
  generalize w1.heap.size = rb at HB2 ⊢
  obtain ⟨tb, htb⟩ : ∃ tb, tb = w.heap.size := ⟨_, rfl⟩
  rw [← htb] at HB2 ⊢
  clear HN HR HF1 B1 htb
  go_wp2_with fail
  go_loopw [11] (fun vi wr => ∃ j : Nat, j ≤ n ∧ j ≤ 100 ∧ vi = .int .i64 j ∧ Hid (Both w wr tb rb W (madeN W ((chs cs).take j)))) (fun vi _ => n - (intOf vi).toNat)
  case atStart => exact ⟨0, Nat.zero_le _, Nat.zero_le _, rfl, HB2⟩
  case round =>
    clear HB2
    obtain ⟨j, hj, h100, rfl, HA⟩ := hrel
    rename World => wo
    by_cases hlt : j < n
    · have hjI : (j : Int) < (n : Int) := by omega
      have hj0 : (0 : Int) ≤ (j : Int) := by omega
      by_cases hl100 : j < 100
      · have hj100 : (j : Int) < 100 := by omega
        obtain ⟨u, hu⟩ : ∃ u, cs[j]? = some u := ⟨cs[j]'(by rw [HLN.out]; exact hlt), List.getElem?_eq_getElem _⟩
        obtain ⟨g, o, rfl⟩ : ∃ g o, ao = some ⟨g, o, none⟩ := by
          rcases HC.out with q | ⟨g, o, e, _⟩
          · rw [q] at hu; simp at hu
          · exact ⟨g, o, e⟩
        have HVW := hid (show ∀ X, Below w.heap.size w X → ChView X g o cs from fun X hX => by
          rcases HC.out.on hX with q | ⟨g', o', e, hv⟩
          · rw [q] at hu; simp at hu
          · cases e; exact hv)
        have HSM := hid (HS.out u (List.mem_of_getElem? hu))
        have HCU := hid (show (chs cs)[j]? = some (u.1, u.2.1) by rw [List.getElem?_map, hu]; rfl)
        have HTX := hid (show ∀ X, Below w.heap.size w X → Txs X u.2.2 u.2.1.ports from fun X hX => ((HVW.out X hX).ports u (List.mem_of_getElem? hu)).1)
        have HPL := hid (((HVW.out wo HA.out.low).ports u (List.mem_of_getElem? hu)).2)
        have HCL := hid (show ∀ X, Below w.heap.size w X → _ from fun X hX => (HVW.out X hX).cell j u hu)
        have HAT := hid (show ∀ X, Below w.heap.size w X → ChIn X (some ⟨g, o + j * 5, none⟩) [u] from fun X hX => Or.inr ⟨g, o + j * 5, rfl, (HVW.out X hX).at hu⟩)
        obtain ⟨kd, ⟨p, m, k, zs⟩, uv⟩ := u
        simp only at HSM HCU HTX HPL HCL
        obtain ⟨uo, uc, huv, _⟩ := HTX.out wo HA.out.low
        obtain ⟨un, hun⟩ : ∃ un, un = zs.length := ⟨_, rfl⟩
        rw [← hun] at huv
        subst huv
        clear hu hun
        obtain ⟨c0, c1, c2, c3, c4⟩ := HCL.out wo HA.out.low
        have HBW := hid (show Below wo.heap.size wo (wo.alloc (cob5 kd p m k (.slice uo un uc))) from (Below.refl _ _).alloc (Nat.le_refl _) _)
        have HDO := hid (Do_any (cap := 1) (n := 1) (HA.out.on HBW.out).fib (one_view (kd := kd) (p := p) (m := m) (k := k) (HTX.out wo HA.out.low) HPL.out) rfl (by decide))
        have HSNO := hid (madeN_snoc (W := W) HCU.out)
        go_wp2_with fail
        refine HDO.out.mono ?_
        rintro en w3 ⟨hg3, hd3⟩
        have HD3 := hid hd3
        have HL3 := hid (grown_low (HA.out.on HBW.out).low hg3 HA.out.ot)
        have HDT := hid (show DTab w3 w.heap.size rb W (madeN W ((chs cs).take j)) from by
          obtain ⟨cc, hcc⟩ := (HA.out.on HBW.out).fib.blk
          exact (HA.out.on HBW.out).doc.grew hg3 hcc)
        clear hg3 hd3
        have HRD := hid (RDo_any (n := 1) (cap := cap - j) HDT.out HL3.out.size HA.out.fib.good (HAT.out w3 HL3.out) rfl (fun x hx => by rw [List.mem_singleton.1 hx]; exact HSM.out) (by unfold maxLen; omega))
        have HKEEP := hid (show ∀ X, w3.grownBy X (some rb) → Below w.heap.size w X ∧ ∀ L, FTab w3 w.heap.size tb W L → FTab X w.heap.size tb W L from fun X hX => ⟨grown_low HL3.out hX HA.out.orr, fun L hL => by
          obtain ⟨cc, hcc⟩ := HDT.out.blk
          exact hL.grew hX hcc⟩)
        have hjc : (j : Int) ≤ (cap : Int) := by omega
        have hjc1 : (j : Int) < (cap : Int) := by omega
        have hjc2 : (j : Int) + 1 ≤ (cap : Int) := by omega
        clear c0 c1 c2 c3 c4
        rw [show chs [((kd, (⟨p, m, k, zs⟩ : Raw), Value.slice uo un uc) : Int × Raw × Value)] = [(kd, ⟨p, m, k, zs⟩)] from rfl, run_one] at HD3
        cases hst : stepN W (madeN W ((chs cs).take j)) kd ⟨p, m, k, zs⟩ with
        | ok L2 =>
          have HST := hid hst
          have HE := hid (show madeN W ((chs cs).take (j + 1)) = L2 by rw [HSNO.out]; unfold stN; rw [hst])
          obtain ⟨rfl, HF3⟩ : en = .returned (.tuple #[.int .i64 0, .int .i64 0]) ∧ Hid (FTab w3 w.heap.size tb W L2) := by
            rcases HD3.out with ⟨L', h1, h2, h3⟩ | ⟨i, er, h1, _⟩
            · rw [hst] at h1; injection h1 with h1; subst h1; exact ⟨h2, h3⟩
            · rw [hst] at h1; cases h1
          clear hst HD3
          go_wp2_with fail
          refine HRD.out.mono ?_
          rintro en w4 ⟨hg4, hd4⟩
          rw [show chs [((kd, (⟨p, m, k, zs⟩ : Raw), Value.slice uo un uc) : Int × Raw × Value)] = [(kd, ⟨p, m, k, zs⟩)] from rfl, run_one, HST.out] at hd4
          obtain ⟨rfl, HR4⟩ : en = .returned (.tuple #[.int .i64 0, .int .i64 0]) ∧ Hid (DTab w4 w.heap.size rb W L2) := by
            rcases hd4 with ⟨L', h1, h2, h3⟩ | ⟨i, er, h1, _⟩
            · injection h1 with h1; subst h1; exact ⟨h2, h3⟩
            · cases h1
          have HA4 := hid (show Both w w4 tb rb W (madeN W ((chs cs).take (j + 1))) from by rw [HE.out]; exact ⟨(HKEEP.out _ hg4).1, HA.out.ot, HA.out.orr, (HKEEP.out _ hg4).2 _ HF3.out, HR4.out⟩)
          clear hg4 hd4
          go_wp2
          go_roundw
          case rel => exact ⟨j + 1, by omega, by omega, by go_num, HA4⟩
          case measure => simp [intOf]; omega
        | error er =>
          have HST := hid hst
          have HE := hid (show madeN W ((chs cs).take (j + 1)) = madeN W ((chs cs).take j) by rw [HSNO.out]; unfold stN; rw [hst])
          obtain ⟨rfl, HF3⟩ : en = .returned (.tuple #[.int .i64 0, .int .i64 er]) ∧ Hid (FTab w3 w.heap.size tb W (madeN W ((chs cs).take j))) := by
            rcases HD3.out with ⟨L', h1, h2, h3⟩ | ⟨i, er', h1, _, h2, h3⟩
            · rw [hst] at h1; cases h1
            · rw [hst] at h1; injection h1 with h1; injection h1 with h1 h4; subst h1 h4; exact ⟨h2, h3⟩
          clear hst HD3
          go_wp2_with fail
          refine HRD.out.mono ?_
          rintro en w4 ⟨hg4, hd4⟩
          rw [show chs [((kd, (⟨p, m, k, zs⟩ : Raw), Value.slice uo un uc) : Int × Raw × Value)] = [(kd, ⟨p, m, k, zs⟩)] from rfl, run_one, HST.out] at hd4
          obtain ⟨rfl, HR4⟩ : en = .returned (.tuple #[.int .i64 0, .int .i64 er]) ∧ Hid (DTab w4 w.heap.size rb W (madeN W ((chs cs).take j))) := by
            rcases hd4 with ⟨L', h1, h2, h3⟩ | ⟨i, er', h1, _, h2, h3⟩
            · cases h1
            · injection h1 with h1; injection h1 with h1 h4; subst h1 h4; exact ⟨h2, h3⟩
          have HA4 := hid (show Both w w4 tb rb W (madeN W ((chs cs).take (j + 1))) from by rw [HE.out]; exact ⟨(HKEEP.out _ hg4).1, HA.out.ot, HA.out.orr, (HKEEP.out _ hg4).2 _ HF3.out, HR4.out⟩)
          clear hg4 hd4
          have hee : (er != er) = false := by simp
          go_wp2
          go_roundw
          case rel => exact ⟨j + 1, by omega, by omega, by go_num, HA4⟩
          case measure => simp [intOf]; omega
      · have hj100 : ¬ (j : Int) < 100 := by omega
        have HEND := hid (show Both w wo tb rb W (madeN W ((chs cs).take 100)) from by
          have e100 : j = 100 := by omega
          rw [e100] at HA
          exact HA.out)
        go_wp2
        refine bodyPost_ret (v := .tuple #[.pointer (some ⟨tb, 0, none⟩), .pointer (some ⟨rb, 0, none⟩), .bool true]) (by simp [results, Tryz.results4, go_sem]) rfl ⟨tb, rb, rfl, HEND⟩
    · have hjI : ¬ ((j : Int) < (n : Int)) := by omega
      have HEND := hid (show Both w wo tb rb W (madeN W ((chs cs).take 100)) from by
        have e1 : (chs cs).take j = (chs cs).take 100 := by rw [List.take_of_length_le (by rw [List.length_map, HLN.out]; omega), List.take_of_length_le (by rw [List.length_map, HLN.out]; omega)]
        rw [e1] at HA; exact HA.out)
      go_wp2
      refine bodyPost_ret (v := .tuple #[.pointer (some ⟨tb, 0, none⟩), .pointer (some ⟨rb, 0, none⟩), .bool true]) (by simp [results, Tryz.results4, go_sem]) rfl ⟨tb, rb, rfl, HEND⟩
end Go.Proofs.YtemmhingmeinjaaGreatDoor
namespace Go.Proofs.YtemmhingmeinjaaGreatDoor
open Go.RowKit

def RowV (w : World) (v : Value) (n : Nat) (qs : List (Raw × Value)) : Prop := qs.length = n ∧ ∃ ao c, v = .slice ao n c ∧ (qs = [] ∨ ∃ g o, ao = some ⟨g, o, none⟩ ∧ RawView w g o qs)
theorem RawView.onV {w w' : World} {g o : Nat} {ps : List (Raw × Value)} (hv : RawView w g o ps) (hb : Below w.heap.size w w') : RawView w' g o ps :=
  ⟨Nat.lt_of_lt_of_le hv.old hb.size, fun i q hq => by
    obtain ⟨c0, c1, c2, c3⟩ := hv.cell i q hq
    exact ⟨(hb.cell (by exact hv.old)).trans c0, (hb.cell (by exact hv.old)).trans c1, (hb.cell (by exact hv.old)).trans c2, (hb.cell (by exact hv.old)).trans c3⟩, fun q hq => ⟨(hv.ports q hq).1.below hb, (hv.ports q hq).2⟩⟩
theorem RowV.on {w w' : World} {v : Value} {n : Nat} {qs : List (Raw × Value)} (h : RowV w v n qs) (hb : Below w.heap.size w w') : RowV w' v n qs := by
  obtain ⟨hn, ao, c, e, q | ⟨g, o, e2, hv⟩⟩ := h
  · exact ⟨hn, ao, c, e, Or.inl q⟩
  · exact ⟨hn, ao, c, e, Or.inr ⟨g, o, e2, hv.onV hb⟩⟩
theorem OwnR.rowV {w : World} {B : Nat} {v : Value} {ps : List (Raw × Value)} (h : OwnR w B v ps) (hp : ∀ q ∈ ps, Txs w q.2 q.1.ports ∧ ∀ p ∈ q.1.ports, p.length ≤ maxLen) : RowV w v ps.length ps := by
  obtain ⟨ao, c, rfl, _, _⟩ := h.form
  refine ⟨rfl, ao, c, rfl, ?_⟩
  rcases own_cells h.own with ⟨_, h0, _⟩ | ⟨g, e, _, _, hg, hc⟩
  · exact Or.inl (List.length_eq_zero_iff.1 h0)
  · refine Or.inr ⟨g, 0, e, hg, fun i q hq => ?_, hp⟩
    obtain ⟨h0, h1, h2, h3⟩ := flatV_get hq
    rw [Nat.zero_add]
    exact ⟨hc _ _ h0, hc _ _ h1, hc _ _ h2, hc _ _ h3⟩
theorem DocL.rowV {w : World} {B Q : Nat} {v : Value} {ps : List (Raw × Value)} (h : DocL w B Q v ps) : RowV w v ps.length ps := h.own.rowV h.txs
theorem good_small {W : Int} {L : List Raw} (h : GoodT W L) {ps : List (Raw × Value)} (e : ps.map Prod.fst = L) : ∀ q ∈ ps, Small q.1.mat q.1.ports := fun q hq => (errR_small (h.ok q.1 (by rw [← e]; exact List.mem_map_of_mem hq))).1
theorem good_len {W : Int} {L : List Raw} (h : GoodT W L) {ps : List (Raw × Value)} (e : ps.map Prod.fst = L) : ∀ q ∈ ps, q.1.ports.length ≤ maxLen := fun q hq => by
  have := (good_small h e q hq).2.1
  unfold maxLen
  omega
theorem good_each {W : Int} {L : List Raw} (h : GoodT W L) {ps : List (Raw × Value)} (e : ps.map Prod.fst = L) : ∀ q ∈ ps, ∀ p ∈ q.1.ports, p.length ≤ maxLen := fun q hq p hp => by
  have := (good_small h e q hq).2.2 p hp
  unfold maxLen
  omega
theorem same_rows {w : World} {v1 v2 : Value} {n : Nat} {q1 q2 : List (Raw × Value)} {W : Int} {L : List Raw} (h1 : RowV w v1 n q1) (h2 : RowV w v2 n q2) (hg : GoodT W L) (e1 : q1.map Prod.fst = L) (e2 : q2.map Prod.fst = L) :
    Calls Tryz.prog 10 #[v1, v2] w fun e w' => e = .returned (.bool true) ∧ Below w.heap.size w w' := by
  obtain ⟨l1, a1, c1, rfl, k1⟩ := h1
  obtain ⟨l2, a2, c2, rfl, k2⟩ := h2
  have hf := hg.few
  rw [← e1, List.length_map] at hf
  rcases k1 with k1 | ⟨g, o, rfl, k1⟩
  · subst k1
    have : n = 0 := l1.symm
    subst this
    exact SameRules_none _ _ _ _ _
  · rcases k2 with k2 | ⟨g2, o2, rfl, k2⟩
    · subst k2
      have : n = 0 := l2.symm
      subst this
      exact SameRules_none _ _ _ _ _
    · exact SameRules_rr c1 c2 n k1 (good_len hg e1) k2 l1 l2 (by rw [e1, e2]) (by omega)
theorem sorted_stays {ps : List (Raw × Value)} {M : List Nat} (hs : Srt (ps.map Prod.fst)) (hM : Pc (cmpAt ps) 0 ps.length M) : M.map (rawAt ps) = ps.map Prod.fst := by
  have ha : Apart_ ps ps.length := fun i j hij hj q => by
    have := List.pairwise_iff_getElem.1 hs i j (by rw [List.length_map]; omega) (by rw [List.length_map]; omega) hij
    rw [List.getElem_map, List.getElem_map] at this
    rw [rawAt_some (List.getElem?_eq_getElem hj), rawAt_some (List.getElem?_eq_getElem (show i < ps.length by omega))] at q
    rw [cmpR_same q.symm] at this
    omega
  exact one_way (R := fun a b => cmpR a b < 0) (fun a b h k => cmpR_asy h k) (raw_rise hM ha) hs (raw_perm hM)

def RulesPost (w : World) (L : List Raw) (e : Ending) (w' : World) : Prop := ∃ v qs, e = .returned v ∧ (∃ a n c, v = .slice a n c) ∧ RowV w' v L.length qs ∧ qs.map Prod.fst = L ∧ (∀ q ∈ qs, Ported w' w.heap.size q.2 q.1.ports) ∧ Below w.heap.size w w'

set_option maxRecDepth 4000 in
set_option maxHeartbeats 1000000 in
theorem copies_any {w : World} {v : Value} {n : Nat} {W : Int} {L : List Raw} {ps : List (Raw × Value)} (h : RowV w v n ps) (hg : GoodT W L) (e : ps.map Prod.fst = L) : Calls Tryz.prog 24 #[v] w fun e w' => RulesPost w L e w' := by
  obtain ⟨hn, ao, c, rfl, k⟩ := h
  have hf := hg.few
  rw [← e, List.length_map, hn] at hf
  have hl : L.length = n := by rw [← e, List.length_map, hn]
  rcases k with k | ⟨g, o, rfl, k⟩
  · subst k
    have hn0 : n = 0 := hn.symm
    subst hn0
    have HO := hid (Order_none (w := w) (ao := ao) (cap := c))
    have HL := hid (show L = [] from e.symm)
    clear hn hf hl e hg
    go_enter Tryz.func24, Tryz.ntmps24
    go_wp2_with fail
    refine HO.out.mono ?_
    rintro en w2 ⟨ob, rfl, hb⟩
    have HB := hid hb
    clear hb
    go_wp2
    go_ret
    rw [HL.out]
    exact ⟨_, [], rfl, ⟨_, _, _, rfl⟩, ⟨rfl, _, _, rfl, Or.inl rfl⟩, rfl, (fun q hq => by cases hq), HB.out⟩
  · refine (copies_some k hn hf (good_small hg e)).mono ?_
    rintro en w' ⟨ob, qs, M, hP⟩
    have hP := hP.out
    have hM := hP.sorted
    rw [← hn] at hM
    have hq : qs.map Prod.fst = L := by rw [hP.same, sorted_stays (by rw [e]; exact hg.srt) hM, e]
    have hql : qs.length = n := by rw [← hl, ← hq, List.length_map]
    refine ⟨_, qs, hP.told, ⟨_, _, _, rfl⟩, ⟨by rw [hl]; exact hql, _, _, by rw [hl], Or.inr ⟨ob, 0, rfl, hP.view⟩⟩, hq, hP.own, hP.low⟩

set_option maxRecDepth 4000 in
set_option maxHeartbeats 1000000 in
theorem Rules_any {w : World} {Bp tb : Nat} {W : Int} {L : List Raw} (hF : FTab w Bp tb W L) :
    Calls Tryz.prog 11 #[.pointer (some ⟨tb, 0, none⟩)] w fun e w' => RulesPost w L e w' := by
  obtain ⟨v, ps, ht, he⟩ := hF.ex
  have HC := hid (copies_any (w := w) (ht.list.rowV (fun q hq => ⟨(ht.ports q hq).txs, good_each ht.good rfl q hq⟩)) hF.good he)
  obtain ⟨lo, lc, hv, _⟩ := ht.list.form
  subst hv
  have t1 : w.cell? ⟨tb, 1, none⟩ = some (.slice lo ps.length lc) := by rw [cell_at ht.blk]; rfl
  have HMD := hid (made_yes ht.blk)
  clear ht hF he
  go_enter Tryz.func11, Tryz.ntmps11
  go_wp2_with fail
  refine HMD.out.mono ?_
  rintro en w1 ⟨rfl, hw1⟩
  subst hw1
  go_wp2_with fail
  refine HC.out.mono ?_
  rintro en w2 ⟨v2, qs, rfl, ⟨a2, n2, c2, rfl⟩, h2⟩
  have H2 := hid h2
  clear h2
  go_wp2
  go_ret
  exact ⟨_, qs, rfl, ⟨_, _, _, rfl⟩, H2.out⟩
end Go.Proofs.YtemmhingmeinjaaGreatDoor
namespace Go.Proofs.YtemmhingmeinjaaGreatDoor
open Go.RowKit

def okC (W : Int) (L : List Raw) (c : Int × Raw) : Prop :=
  (c.1 = 1 ∧ errR W c.2 = 0 ∧ (L.any fun a => keyB a c.2) = false) ∨ (c.1 = 2 ∧ errR W { c.2 with kind := 1, ports := [] } = 0 ∧ (L.any fun a => keyB a c.2) = true) ∨ (c.1 = 3 ∧ errR W c.2 = 0 ∧ (L.any fun a => keyB a c.2) = true)
def AftC (L L' : List Raw) (c : Int × Raw) : Prop := ∀ x, x ∈ L' ↔ (x ∈ L ∧ keyB x c.2 = false) ∨ (c.1 ≠ 2 ∧ x = c.2)
theorem any_no {L : List Raw} {r : Raw} (h : (L.any fun a => keyB a r) = false) {x : Raw} (hx : x ∈ L) : keyB x r = false := by
  cases q : keyB x r with
  | false => rfl
  | true =>
    have := (List.any_eq_true (l := L) (p := fun a => keyB a r)).2 ⟨x, hx, q⟩
    rw [h] at this
    cases this
theorem step_okC {W : Int} {L L' : List Raw} {c : Int × Raw} (h : stepN W L c.1 c.2 = .ok L') : okC W L c ∧ AftC L L' c ∧ L'.length ≤ L.length + 1 := by
  unfold stepN at h
  split at h
  · rename_i h1
    split at h
    · rename_i he
      split at h
      · cases h
      · rename_i hn
        have hn : (L.any fun a => keyB a c.2) = false := by simpa using hn
        split at h
        · cases h
        · injection h with h
          subst h
          refine ⟨Or.inl ⟨h1, he, hn⟩, fun x => ?_, by rw [putR_len]; exact Nat.le_refl _⟩
          rw [(putR_perm L c.2).mem_iff, List.mem_append, List.mem_singleton]
          constructor
          · rintro (q | q)
            · exact Or.inl ⟨q, any_no hn q⟩
            · exact Or.inr ⟨by omega, q⟩
          · rintro (⟨q, _⟩ | ⟨_, q⟩)
            · exact Or.inl q
            · exact Or.inr q
    · cases h
  · split at h
    · rename_i h2
      split at h
      · rename_i he
        split at h
        · rename_i hn
          injection h with h
          subst h
          refine ⟨Or.inr (Or.inl ⟨h2, he, hn⟩), fun x => ?_, Nat.le_succ_of_le (List.length_filter_le _ _)⟩
          unfold rmR
          rw [List.mem_filter]
          constructor
          · rintro ⟨q1, q2⟩
            exact Or.inl ⟨q1, by simpa using q2⟩
          · rintro (⟨q1, q2⟩ | ⟨q, _⟩)
            · exact ⟨q1, by simp [q2]⟩
            · exact absurd h2 q
        · cases h
      · cases h
    · split at h
      · rename_i h3
        split at h
        · rename_i he
          split at h
          · rename_i hn
            injection h with h
            subst h
            refine ⟨Or.inr (Or.inr ⟨h3, he, hn⟩), fun x => ?_, by unfold mdR; rw [List.length_map]; omega⟩
            unfold mdR
            rw [List.mem_map]
            constructor
            · rintro ⟨a, ha, rfl⟩
              cases q : keyB a c.2 with
              | true => rw [if_pos rfl]; exact Or.inr ⟨by omega, rfl⟩
              | false => rw [if_neg (by decide)]; exact Or.inl ⟨ha, q⟩
            · rintro (⟨q1, q2⟩ | ⟨_, q⟩)
              · exact ⟨x, q1, by rw [q2, if_neg (by decide)]⟩
              · obtain ⟨a, ha, hk⟩ := List.any_eq_true.1 hn
                exact ⟨a, ha, by rw [if_pos hk, q]⟩
          · cases h
        · cases h
      · cases h
end Go.Proofs.YtemmhingmeinjaaGreatDoor
namespace Go.Proofs.YtemmhingmeinjaaGreatDoor
open Go.RowKit
open Wo (Wd)

theorem pts_names {e : Wd} : ∀ (l : List Wd) (acc : List (List UInt8)) (r : Wd × List (List UInt8) × List Wd), Ru.pts e l acc = .ok r → (∀ p ∈ acc, Wo.nameB p = true) → (∀ p ∈ r.2.1, Wo.nameB p = true) ∧ 1 ≤ r.2.1.length
  | [], acc, r, h, _ => by rw [Ru.pts] at h; cases h
  | [w], acc, r, h, _ => by
    rw [Ru.pts] at h
    split at h <;> cases h
  | w :: v :: t, acc, r, h, ha => by
    rw [Ru.pts] at h
    split at h
    · cases h
    · rename_i hw
      have ha' : ∀ p ∈ acc ++ [w.1], Wo.nameB p = true := fun p hp => by
        rcases List.mem_append.1 hp with hp | hp
        · exact ha p hp
        · rw [List.mem_singleton.1 hp]; simpa using hw
      split at h
      · exact pts_names t _ r h ha'
      · split at h
        · injection h with h
          rw [← h]
          exact ⟨ha', by simp⟩
        · cases h
theorem prt_may {e : Wd} {l : List Wd} {ps : List (List UInt8)} {t : List Wd} (h : Ru.prt e l = .ok (ps, t)) : okPorts ps := by
  have h64 := prt_few h
  unfold Ru.prt at h
  split at h
  · cases h
  · revert h
    cases hp : Ru.pts e l.tail [] with
    | error f => intro h; cases h
    | ok r =>
      obtain ⟨v, acc, t'⟩ := r
      intro h
      simp only at h
      split at h
      · cases h
      · simp only [Except.ok.injEq, Prod.mk.injEq] at h
        obtain ⟨h1, h2⟩ := pts_names _ _ _ hp (fun p hp => by cases hp)
        rw [← h.1] at h64 ⊢
        simp only at h1 h2
        refine ⟨?_, h64, fun p hp => h1 p ((Ru.mem_nrm _ _).1 hp), Ru.rise_nrm _⟩
        cases acc with
        | nil => simp at h2
        | cons a r => exact List.length_pos_of_mem ((Ru.mem_nrm _ a).2 (by simp))
theorem act_may {e : Wd} {l : List Wd} {k : Nat} {ps : List (List UInt8)} {t : List Wd} (h : Ru.act e l = .ok (k, ps, t)) : ((k = 1 ∨ k = 2) ∧ ps = []) ∨ ((k = 3 ∨ k = 4) ∧ okPorts ps) := by
  have hk4 := Ru.kindN_le (Ru.nx e l).1
  unfold Ru.act at h
  split at h
  · cases h
  · rename_i h0
    split at h
    · rename_i h2
      simp only [Except.ok.injEq, Prod.mk.injEq] at h
      rw [← h.1, ← h.2.1]; exact Or.inl ⟨by omega, rfl⟩
    · rename_i h2
      revert h
      cases hp : Ru.prt e l.tail with
      | error f => intro h; cases h
      | ok r =>
        obtain ⟨ps', t'⟩ := r
        intro h
        simp only [Except.ok.injEq, Prod.mk.injEq] at h
        rw [← h.1, ← h.2.1]; exact Or.inr ⟨by omega, prt_may hp⟩
theorem numV_le (l : List UInt8) : Wo.numV l ≤ 2147483647 := by
  unfold Wo.numV
  split
  · rename_i h
    unfold Wo.numB at h
    simp only [decide_eq_true_eq] at h
    exact h.2.2.2
  · omega
theorem rul_may {width : Nat} {l : List Wd} {y : Ru.Rl} (h : Ru.rul width l = .ok y) : Ru.OkRl width y := by
  unfold Ru.rul at h
  split at h
  · cases h
  · split at h
    · cases h
    · split at h
      · cases h
      · rename_i hr
        split at h
        · cases h
        · rename_i hl
          revert h
          cases ha : Ru.act (Ru.endW l) l.tail.tail.tail with
          | error f => intro h; cases h
          | ok r =>
            obtain ⟨k, ps, t⟩ := r
            intro h
            simp only at h
            split at h
            · cases h
            · injection h with h
              rw [← h]
              exact ⟨numV_le _, by simpa using hr, by simpa using hl, act_may ha⟩
theorem rds_may {width : Nat} (ls : List (List Wd)) : ∀ (acc rs : List Ru.Rl), Ru.rds width ls acc = .ok rs → (∀ y ∈ acc, Ru.OkRl width y) → acc.Pairwise (fun a b => Ru.same a b = false) → (∀ y ∈ rs, Ru.OkRl width y) ∧ rs.Pairwise (fun a b => Ru.same a b = false) := by
  induction ls with
  | nil =>
    intro acc rs h h1 h2
    rw [Ru.rds] at h
    injection h with h
    rw [← h]; exact ⟨h1, h2⟩
  | cons l r ih =>
    intro acc rs h h1 h2
    rw [Ru.rds] at h
    cases hy : Ru.rul width l with
    | error f => rw [hy] at h; cases h
    | ok x =>
      rw [hy] at h
      simp only at h
      split at h
      · cases h
      · rename_i hs
        split at h
        · cases h
        · refine ih _ rs h (fun y hy' => ?_) ?_
          · rcases List.mem_append.1 hy' with hy' | hy'
            · exact h1 y hy'
            · rw [List.mem_singleton.1 hy']; exact rul_may hy
          · refine List.pairwise_append.2 ⟨h2, by simp, fun a ha b hb => ?_⟩
            rw [List.mem_singleton.1 hb]
            cases q : Ru.same a x with
            | false => rfl
            | true => exact absurd (List.any_eq_true.2 ⟨a, ha, q⟩) hs
theorem prs_may {s : List UInt8} {width : Int} {rs : List Ru.Rl} (h : Ru.prs s width = .ok rs) : (1 ≤ width ∧ width ≤ 128) ∧ (∀ y ∈ rs, Ru.OkRl width.toNat y) ∧ rs.Pairwise (fun a b => Ru.same a b = false) := by
  unfold Ru.prs at h
  split at h
  · cases h
  · rename_i hw
    split at h
    · cases h
    · exact ⟨by omega, rds_may _ [] rs h (fun y hy => absurd hy (by simp)) List.Pairwise.nil⟩

def rawR (x : Ru.Rl) : Raw := ⟨x.prio, x.mat, x.kind, x.ports⟩
theorem rl_rawR {W : Int} {r : Raw} (h : errR W r = 0) : rawR r.rl = r := by
  have h1 := (Raw.okRl (errR_ok.1 h)).2
  obtain ⟨p, m, k, z⟩ := r
  show (⟨(p.toNat : Int), m, (k.toNat : Int), z⟩ : Raw) = ⟨p, m, k, z⟩
  have e1 : p = (p.toNat : Int) := h1.1
  have e2 : k = (k.toNat : Int) := h1.2
  rw [← e1, ← e2]
theorem errR_rawR {W : Int} {x : Ru.Rl} (hw : 1 ≤ W ∧ W ≤ 128) (h : Ru.OkRl W.toNat x) : errR W (rawR x) = 0 := by
  refine errR_ok.2 ⟨hw, ?_, h.cube, ?_, ?_⟩
  · have := h.prio
    show (0 : Int) ≤ (x.prio : Int) ∧ (x.prio : Int) ≤ 2147483647
    omega
  · have := h.len
    show (x.mat.length : Int) = W
    omega
  · rcases h.act with ⟨q, p⟩ | ⟨q, p⟩
    · exact Or.inl ⟨by show (x.kind : Int) = 1 ∨ (x.kind : Int) = 2; omega, p⟩
    · exact Or.inr ⟨by show (x.kind : Int) = 3 ∨ (x.kind : Int) = 4; omega, p⟩
theorem good_sorted {W : Int} {ps : List (Raw × Value)} {rs : List Ru.Rl} {L : List Nat} (hw : 1 ≤ W ∧ W ≤ 128) (he : ps.map Prod.fst = rs.map rawR) (hok : ∀ y ∈ rs, Ru.OkRl W.toNat y) (hk : rs.Pairwise (fun a b => Ru.same a b = false)) (hn : rs.length ≤ 4096) (hL : Pc (cmpAt ps) 0 ps.length L) : GoodT W (L.map (rawAt ps)) := by
  have hlen : ps.length = rs.length := by have := congrArg List.length he; simpa using this
  have hat : ∀ i (hi : i < rs.length), rawAt ps i = rawR rs[i] := fun i hi => by
    have hi2 : i < ps.length := by omega
    rw [rawAt_some (List.getElem?_eq_getElem hi2)]
    have := congrArg (fun l => l[i]?) he
    simp only [List.getElem?_map, List.getElem?_eq_getElem hi2, List.getElem?_eq_getElem hi, Option.map_some, Option.some.injEq] at this
    exact this
  have ha : Apart_ ps ps.length := fun i j hij hj q => by
    have hi : i < rs.length := by omega
    have hj' : j < rs.length := by omega
    rw [hat i hi, hat j hj'] at q
    have h1 := List.pairwise_iff_getElem.1 hk i j hi hj' hij
    have q1 : ((rs[j].prio : Nat) : Int) = (rs[i].prio : Int) := q.1
    have q2 : rs[j].mat = rs[i].mat := q.2
    exact absurd h1 (by unfold Ru.same; rw [decide_eq_true ⟨by omega, q2.symm⟩]; simp)
  have hp := raw_perm hL
  refine ⟨hw, raw_rise hL ha, ?_, fun r hr => ?_⟩
  · rw [hp.length_eq, List.length_map]; omega
  · have hr' := hp.mem_iff.1 hr
    rw [he] at hr'
    obtain ⟨x, hx, rfl⟩ := List.mem_map.1 hr'
    exact errR_rawR hw (hok x hx)

theorem seq_short64 {r : List (List UInt8)} (h : ∀ q ∈ r, Wo.nameB q = true) : ∀ l ∈ Ru.seqT r, l.length ≤ 64 := by
  induction r with
  | nil => intro l hl; rw [List.mem_singleton.1 hl]; decide
  | cons q r ih =>
    intro l hl
    rcases List.mem_cons.1 hl with rfl | hl
    · decide
    · rcases List.mem_cons.1 hl with rfl | hl
      · exact nameB_short (h _ (by simp))
      · exact ih (fun y hy => h y (List.mem_cons_of_mem _ hy)) l hl
theorem act_short64 {width : Nat} {x : Ru.Rl} (hx : Ru.OkRl width x) : ∀ l ∈ actW x.kind x.ports, l.length ≤ 64 := by
  intro l hl
  unfold actW at hl
  rcases List.mem_cons.1 hl with rfl | hl
  · unfold Ru.kwG; repeat' split
    all_goals decide
  · rcases hx.act with ⟨_, q⟩ | ⟨_, q⟩
    · rw [q] at hl; simp [Ru.tailW] at hl
    · cases hp : x.ports with
      | nil => rw [hp] at hl; simp [Ru.tailW] at hl
      | cons p r =>
        rw [hp, Ru.tailW] at hl
        have hn := q.2.2.1
        rw [hp] at hn
        rcases List.mem_cons.1 hl with rfl | hl
        · decide
        · rcases List.mem_cons.1 hl with rfl | hl
          · exact nameB_short (hn _ (by simp))
          · exact seq_short64 (fun y hy => hn y (List.mem_cons_of_mem _ hy)) l hl
theorem joinT_cons (a b : List UInt8) (r : List (List UInt8)) : (Wo.joinT a (b :: r)).length ≤ b.length + 1 + (Wo.joinT b r).length := by
  have e : Wo.joinT a (b :: r) = (if Wo.glue a b then 32 :: b else b) ++ Wo.joinT b r := rfl
  rw [e, List.length_append]
  split
  · rw [List.length_cons]; omega
  · omega
theorem digits_short {n : Nat} (h : n ≤ 2147483647) : (Lib.decDigits n).length ≤ 10 := by
  rcases Nat.lt_or_ge 10 (Lib.decDigits n).length with q | q
  · have := (Ru.digits_num h).1
    rw [Wo.num_long q] at this
    cases this
  · exact q
theorem line_len2 {width : Nat} {x : Ru.Rl} (hw : width ≤ 128) (hx : Ru.OkRl width x) : (Wo.sayL (Ru.lineW x)).length ≤ 8774 := by
  have h1 := act_short64 hx
  have h2 := (line_short hx).2
  rw [lineW_eq] at h2 ⊢
  simp only [List.length_cons] at h2
  have hd := digits_short hx.prio
  have hm := hx.len
  show (Ru.ruleT ++ Wo.joinT Ru.ruleT (Lib.decDigits x.prio :: x.mat :: actW x.kind x.ports)).length ≤ 8774
  rw [List.length_append]
  have a1 := joinT_cons Ru.ruleT (Lib.decDigits x.prio) (x.mat :: actW x.kind x.ports)
  have a2 := joinT_cons (Lib.decDigits x.prio) x.mat (actW x.kind x.ports)
  have a3 := joinT_len 64 (actW x.kind x.ports) x.mat h1
  have a4 : Ru.ruleT.length = 4 := rfl
  omega
theorem printT_len2 {width : Nat} (hw : width ≤ 128) (rs : List Ru.Rl) (h : ∀ x ∈ rs, Ru.OkRl width x) : (Ru.printT rs).length ≤ rs.length * 8775 := by
  induction rs with
  | nil => simp [Ru.printT]
  | cons x r ih =>
    have e : Ru.printT (x :: r) = Wo.sayL (Ru.lineW x) ++ 10 :: Ru.printT r := by simp [Ru.printT]
    have h1 := ih (fun y hy => h y (List.mem_cons_of_mem _ hy))
    have h2 := line_len2 hw (h x (by simp))
    rw [e, List.length_append, List.length_cons, List.length_cons, Nat.add_mul, Nat.one_mul]
    omega
theorem stN_len (W : Int) (L : List Raw) (c : Int × Raw) : (stN W L c).length ≤ L.length + 1 := by
  unfold stN
  cases hs : stepN W L c.1 c.2 with
  | error e => exact Nat.le_succ _
  | ok L' =>
    show L'.length ≤ _
    exact (step_okC hs).2.2
theorem foldl_stN_len (W : Int) (cs : List (Int × Raw)) : ∀ L, (cs.foldl (stN W) L).length ≤ L.length + cs.length := by
  induction cs with
  | nil => intro L; simp
  | cons c r ih =>
    intro L
    have h1 := ih (stN W L c)
    have h2 := stN_len W L c
    rw [List.foldl_cons, List.length_cons]
    omega
theorem madeN_len (W : Int) (cs : List (Int × Raw)) : (madeN W cs).length ≤ cs.length := by
  have := foldl_stN_len W cs []
  simpa [madeN] using this

theorem good_rl {W : Int} {L : List Raw} (h : GoodT W L) : (∀ x ∈ L.map Raw.rl, Ru.OkRl W.toNat x) ∧ (L.map Raw.rl).Pairwise (fun a b => Ru.same a b = false) ∧ (L.map Raw.rl).map rawR = L := by
  refine ⟨fun x hx => ?_, ?_, ?_⟩
  · obtain ⟨r, hr, rfl⟩ := List.mem_map.1 hx
    exact (Raw.okRl (errR_ok.1 (h.ok r hr))).1
  · rw [List.pairwise_map]
    refine (List.Pairwise.and_mem.1 h.srt).imp ?_
    rintro a b ⟨ha, hb, hab⟩
    cases q : Ru.same a.rl b.rl with
    | false => rfl
    | true =>
      unfold Ru.same at q
      simp only [decide_eq_true_eq] at q
      have ea := (Raw.okRl (errR_ok.1 (h.ok a ha))).2.1
      have eb := (Raw.okRl (errR_ok.1 (h.ok b hb))).2.1
      rw [cmpR_same ⟨by rw [ea, eb, q.1], q.2⟩] at hab
      omega
  · rw [List.map_map]
    conv => rhs; rw [← List.map_id L]
    exact List.map_congr_left fun r hr => rl_rawR (h.ok r hr)
end Go.Proofs.YtemmhingmeinjaaGreatDoor
