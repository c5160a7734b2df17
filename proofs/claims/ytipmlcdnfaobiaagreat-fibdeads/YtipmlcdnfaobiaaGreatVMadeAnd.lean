/-
  The law FibChanges: of any width and any changes it answers true.
  Rules and Width of a table; rows of rules held against each other.
  Dead rules are never the first that a header meets.
  Changes that undo others: the mathematics.
  Changes of unlike keys may stand in any order: the mathematics.
  made: a table and the document's, with changes done one by one.
-/
import Derived.Test.YtipmlcdnfaobiaaGreatVDocEAnd
import Derived.Test.YtipmlcdnfaobiaaGreatVDeadMAnd
import Derived.Test.YtipmlcdnfaobiaaGreatVTryAAnd
import Derived.Test.YtipmlcdnfaobiaaGreatUCopyAnd
import Derived.Deep.RegionHeld2
namespace Go.Proofs.YtipmlcdnfaobiaaGreat
open Go.RowKit

/-- What one change makes of the rules, done or refused. -/
def stN (W : Int) (L : List Raw) (c : Int × Raw) : List Raw := match stepN W L c.1 c.2 with
  | .ok L' => L'
  | .error _ => L
/-- What changes make, done one by one. -/
def madeN (W : Int) (cs : List (Int × Raw)) : List Raw := cs.foldl (stN W) []
theorem madeN_snoc {W : Int} {cs : List (Int × Raw)} {j : Nat} {c : Int × Raw} (h : cs[j]? = some c) : madeN W (cs.take (j + 1)) = stN W (madeN W (cs.take j)) c := by
  unfold madeN
  rw [List.take_add_one, h, List.foldl_append]
  rfl
theorem run_one {W : Int} {L : List Raw} {k : Int} {r : Raw} : runN W L [(k, r)] 0 = match stepN W L k r with
    | .ok L' => .ok L'
    | .error e => .error (0, e) := by
  cases h : stepN W L k r with
  | ok L' => simp [runN, h]
  | error e => simp [runN, h]
/-- Both tables, in a world that keeps what was there. -/
structure Both (w0 w : World) (tb rb : Nat) (W : Int) (L : List Raw) : Prop where
  low : Below w0.heap.size w0 w
  ot : w0.heap.size ≤ tb
  orr : w0.heap.size ≤ rb
  fib : FTab w w0.heap.size tb W L
  doc : DTab w w0.heap.size rb W L
theorem Both.on {w0 w w' : World} {tb rb : Nat} {W : Int} {L : List Raw} (h : Both w0 w tb rb W L) (hb : Below w.heap.size w w') : Both w0 w' tb rb W L :=
  ⟨below_2 h.low hb, h.ot, h.orr, h.fib.on hb, h.doc.on hb⟩
/-- Both tables behind the same changes. -/
theorem grown_low {w0 w w' : World} {b : Nat} (h : Below w0.heap.size w0 w) (hg : w.grownBy w' (some b)) (hb : w0.heap.size ≤ b) : Below w0.heap.size w0 w' := h.grown hg h.size (fun k hk => by injection hk with e; omega)
theorem one_view {w : World} {kd p k : Int} {m : List UInt8} {zs : List (List UInt8)} {v : Value} (ht : Txs w v zs) (hz : ∀ z ∈ zs, z.length ≤ maxLen) : ChIn (w.alloc (cob5 kd p m k v)) (some ⟨w.heap.size, 0, none⟩) [(kd, ⟨p, m, k, zs⟩, v)] := by
  have hn := new_0 w (cob5 kd p m k v)
  refine Or.inr ⟨w.heap.size, 0, rfl, lt_of_block hn, fun i u hi => ?_, fun u hu => ?_⟩
  · have h0 : i = 0 := by have := (List.getElem?_eq_some_iff.1 hi).1; simp at this; exact this
    subst h0
    have : (kd, (⟨p, m, k, zs⟩ : Raw), v) = u := by simpa using hi
    subst this
    refine ⟨?_, ?_, ?_, ?_, ?_⟩ <;> · rw [cell_at hn]; rfl
  · rw [List.mem_singleton.1 hu]
    exact ⟨ht.below ((Below.refl _ _).alloc (Nat.le_refl _) _), hz⟩
theorem ChView.at {w : World} {g o j : Nat} {cs : List (Int × Raw × Value)} {u : Int × Raw × Value} (h : ChView w g o cs) (hu : cs[j]? = some u) : ChView w g (o + j * 5) [u] := by
  refine ⟨h.old, fun i x hi => ?_, fun x hx => ?_⟩
  · have h0 : i = 0 := by have := (List.getElem?_eq_some_iff.1 hi).1; simp at this; exact this
    subst h0
    have : u = x := by simpa using hi
    subst this
    simpa using h.cell j u hu
  · rw [List.mem_singleton.1 hx]
    exact h.ports u (List.mem_of_getElem? hu)

set_option maxRecDepth 8000 in
set_option maxHeartbeats 2000000 in
theorem made_bad {w : World} {ao : Option Addr} {n cap : Nat} {W : Int} (h : ¬ (1 ≤ W ∧ W ≤ 128)) : Calls Tryz.prog 9 #[.int .i64 W, .slice ao n cap] w fun e w' => e = .returned (.tuple #[.pointer none, .pointer none, .bool true]) ∧ Below w.heap.size w w' := by
  have HN := hid (fun X : World => New_bad (w := X) h)
  have HR := hid (fun X : World => RNew_bad (w := X) h)
  have p1 : ∀ (X : World), (binOp .eql 23 (.pointer none) (.pointer none)).run Tryz.prog X = .ok (.bool true) X := fun X => by
    have h : ∀ d : Nat, (Op.equalIn (d + 1) 23 (.pointer none) (.pointer none)).run Tryz.prog X = .ok true X := fun d => by
      simp [Op.equalIn, run_underlying Tryz.underlying23, sizeOf, typeInfo]
    simp only [binOp]
    simp [Op.equal, Op.maxDepth, h 9999]
  have p2 : ∀ (X : World), (binOp .eql 24 (.pointer none) (.pointer none)).run Tryz.prog X = .ok (.bool true) X := fun X => by
    have h : ∀ d : Nat, (Op.equalIn (d + 1) 24 (.pointer none) (.pointer none)).run Tryz.prog X = .ok true X := fun d => by
      simp [Op.equalIn, run_underlying Tryz.underlying24, sizeOf, typeInfo]
    simp only [binOp]
    simp [Op.equal, Op.maxDepth, h 9999]
  go_enter Tryz.func9, Tryz.ntmps9
  go_wp2_with fail
  refine (HN.out _).mono ?_
  rintro en w1 ⟨rfl, hw⟩
  subst hw
  go_wp2_with fail
  refine (HR.out _).mono ?_
  rintro en w2 ⟨rfl, hw⟩
  subst hw
  go_wp2_with fail
  refine wp_loop_rounds 1 ?_
  rw [rounds_succ]
  go_wp2
  refine bodyPost_ret (v := .tuple #[.pointer none, .pointer none, .bool true]) (by simp [results, Tryz.results9, go_sem]) rfl ⟨rfl, Below.refl _ _⟩

set_option maxRecDepth 20000 in
set_option maxHeartbeats 4000000 in
theorem made_good {w : World} {ao : Option Addr} {n cap : Nat} {W : Int} {cs : List (Int × Raw × Value)} (h : 1 ≤ W ∧ W ≤ 128) (hc : ChIn w ao cs) (hn : cs.length = n) (hnc : n ≤ cap) (hs : ∀ u ∈ cs, Small u.2.1.mat u.2.1.ports) (h63 : n ≤ maxLen) :
    Calls Tryz.prog 9 #[.int .i64 W, .slice ao n cap] w fun e w' => ∃ tb rb, e = .returned (.tuple #[.pointer (some ⟨tb, 0, none⟩), .pointer (some ⟨rb, 0, none⟩), .bool true]) ∧ Hid (Both w w' tb rb W (madeN W ((chs cs).take 100))) := by
  have HN := hid (New_good (w := w) h)
  have HR := hid (fun X : World => RNew_good (w := X) (Q := w.heap.size) h)
  have HC := hid hc
  have HLN := hid hn
  have HS := hid hs
  have p1 : ∀ (X : World) (a : Addr), (binOp .eql 23 (.pointer (some a)) (.pointer none)).run Tryz.prog X = .ok (.bool false) X := fun X a => by
    have h : ∀ d : Nat, (Op.equalIn (d + 1) 23 (.pointer (some a)) (.pointer none)).run Tryz.prog X = .ok false X := fun d => by
      simp [Op.equalIn, run_underlying Tryz.underlying23, sizeOf, typeInfo]
    simp only [binOp]
    simp [Op.equal, Op.maxDepth, h 9999]
  have p2 : ∀ (X : World) (a : Addr), (binOp .eql 24 (.pointer (some a)) (.pointer none)).run Tryz.prog X = .ok (.bool false) X := fun X a => by
    have h : ∀ d : Nat, (Op.equalIn (d + 1) 24 (.pointer (some a)) (.pointer none)).run Tryz.prog X = .ok false X := fun d => by
      simp [Op.equalIn, run_underlying Tryz.underlying24, sizeOf, typeInfo]
    simp only [binOp]
    simp [Op.equal, Op.maxDepth, h 9999]
  have h63I : (n : Int) ≤ 9223372036854775807 := by unfold maxLen at h63; omega
  clear hc hn hs
  go_enter Tryz.func9, Tryz.ntmps9
  go_wp2_with fail
  refine HN.out.mono ?_
  rintro en w1 ⟨rfl, h1⟩
  have HF1 := hid h1.out.1
  have B1 := hid h1.out.2
  clear h1
  go_wp2_with fail
  refine (HR.out _).mono ?_
  rintro en w2 ⟨rfl, h2⟩
  have HB2 := hid (show Both w w2 w.heap.size w1.heap.size W (madeN W ((chs cs).take 0)) from ⟨below_2 B1.out h2.out.2, Nat.le_refl _, B1.out.size, HF1.out.on h2.out.2, h2.out.1⟩)
  clear h2
  generalize w1.heap.size = rb at HB2 ⊢
  obtain ⟨tb, htb⟩ : ∃ tb, tb = w.heap.size := ⟨_, rfl⟩
  rw [← htb] at HB2 ⊢
  clear HN HR HF1 B1 htb
  go_wp2_with fail
  go_loopw [11] (fun vi wr => ∃ j : Nat, j ≤ n ∧ j ≤ 100 ∧ vi = .int .i64 j ∧ Hid (Both w wr tb rb W (madeN W ((chs cs).take j)))) (fun vi _ => n - (intOf vi).toNat)
  case atStart => exact ⟨0, Nat.zero_le _, Nat.zero_le _, rfl, HB2⟩
  case round =>
    clear HB2
    obtain ⟨j, hj, h100, rfl, HA⟩ := hrel
    rename World => wo
    by_cases hlt : j < n
    · have hjI : (j : Int) < (n : Int) := by omega
      have hj0 : (0 : Int) ≤ (j : Int) := by omega
      by_cases hl100 : j < 100
      · have hj100 : (j : Int) < 100 := by omega
        obtain ⟨u, hu⟩ : ∃ u, cs[j]? = some u := ⟨cs[j]'(by rw [HLN.out]; exact hlt), List.getElem?_eq_getElem _⟩
        obtain ⟨g, o, rfl⟩ : ∃ g o, ao = some ⟨g, o, none⟩ := by
          rcases HC.out with q | ⟨g, o, e, _⟩
          · rw [q] at hu; simp at hu
          · exact ⟨g, o, e⟩
        have HVW := hid (show ∀ X, Below w.heap.size w X → ChView X g o cs from fun X hX => by
          rcases HC.out.on hX with q | ⟨g', o', e, hv⟩
          · rw [q] at hu; simp at hu
          · cases e; exact hv)
        have HSM := hid (HS.out u (List.mem_of_getElem? hu))
        have HCU := hid (show (chs cs)[j]? = some (u.1, u.2.1) by rw [List.getElem?_map, hu]; rfl)
        have HTX := hid (show ∀ X, Below w.heap.size w X → Txs X u.2.2 u.2.1.ports from fun X hX => ((HVW.out X hX).ports u (List.mem_of_getElem? hu)).1)
        have HPL := hid (((HVW.out wo HA.out.low).ports u (List.mem_of_getElem? hu)).2)
        have HCL := hid (show ∀ X, Below w.heap.size w X → _ from fun X hX => (HVW.out X hX).cell j u hu)
        have HAT := hid (show ∀ X, Below w.heap.size w X → ChIn X (some ⟨g, o + j * 5, none⟩) [u] from fun X hX => Or.inr ⟨g, o + j * 5, rfl, (HVW.out X hX).at hu⟩)
        obtain ⟨kd, ⟨p, m, k, zs⟩, uv⟩ := u
        simp only at HSM HCU HTX HPL HCL
        obtain ⟨uo, uc, huv, _⟩ := HTX.out wo HA.out.low
        obtain ⟨un, hun⟩ : ∃ un, un = zs.length := ⟨_, rfl⟩
        rw [← hun] at huv
        subst huv
        clear hu hun
        obtain ⟨c0, c1, c2, c3, c4⟩ := HCL.out wo HA.out.low
        have HBW := hid (show Below wo.heap.size wo (wo.alloc (cob5 kd p m k (.slice uo un uc))) from (Below.refl _ _).alloc (Nat.le_refl _) _)
        have HDO := hid (Do_any (cap := 1) (n := 1) (HA.out.on HBW.out).fib (one_view (kd := kd) (p := p) (m := m) (k := k) (HTX.out wo HA.out.low) HPL.out) rfl (by decide))
        have HSNO := hid (madeN_snoc (W := W) HCU.out)
        go_wp2_with fail
        refine HDO.out.mono ?_
        rintro en w3 ⟨hg3, hd3⟩
        have HD3 := hid hd3
        have HL3 := hid (grown_low (HA.out.on HBW.out).low hg3 HA.out.ot)
        have HDT := hid (show DTab w3 w.heap.size rb W (madeN W ((chs cs).take j)) from by
          obtain ⟨cc, hcc⟩ := (HA.out.on HBW.out).fib.blk
          exact (HA.out.on HBW.out).doc.grew hg3 hcc)
        clear hg3 hd3
        have HRD := hid (RDo_any (n := 1) (cap := cap - j) HDT.out HL3.out.size HA.out.fib.good (HAT.out w3 HL3.out) rfl (fun x hx => by rw [List.mem_singleton.1 hx]; exact HSM.out) (by unfold maxLen; omega))
        have HKEEP := hid (show ∀ X, w3.grownBy X (some rb) → Below w.heap.size w X ∧ ∀ L, FTab w3 w.heap.size tb W L → FTab X w.heap.size tb W L from fun X hX => ⟨grown_low HL3.out hX HA.out.orr, fun L hL => by
          obtain ⟨cc, hcc⟩ := HDT.out.blk
          exact hL.grew hX hcc⟩)
        have hjc : (j : Int) ≤ (cap : Int) := by omega
        have hjc1 : (j : Int) < (cap : Int) := by omega
        have hjc2 : (j : Int) + 1 ≤ (cap : Int) := by omega
        clear c0 c1 c2 c3 c4
        rw [show chs [((kd, (⟨p, m, k, zs⟩ : Raw), Value.slice uo un uc) : Int × Raw × Value)] = [(kd, ⟨p, m, k, zs⟩)] from rfl, run_one] at HD3
        cases hst : stepN W (madeN W ((chs cs).take j)) kd ⟨p, m, k, zs⟩ with
        | ok L2 =>
          have HST := hid hst
          have HE := hid (show madeN W ((chs cs).take (j + 1)) = L2 by rw [HSNO.out]; unfold stN; rw [hst])
          obtain ⟨rfl, HF3⟩ : en = .returned (.tuple #[.int .i64 0, .int .i64 0]) ∧ Hid (FTab w3 w.heap.size tb W L2) := by
            rcases HD3.out with ⟨L', h1, h2, h3⟩ | ⟨i, er, h1, _⟩
            · rw [hst] at h1; injection h1 with h1; subst h1; exact ⟨h2, h3⟩
            · rw [hst] at h1; cases h1
          clear hst HD3
          go_wp2_with fail
          refine HRD.out.mono ?_
          rintro en w4 ⟨hg4, hd4⟩
          rw [show chs [((kd, (⟨p, m, k, zs⟩ : Raw), Value.slice uo un uc) : Int × Raw × Value)] = [(kd, ⟨p, m, k, zs⟩)] from rfl, run_one, HST.out] at hd4
          obtain ⟨rfl, HR4⟩ : en = .returned (.tuple #[.int .i64 0, .int .i64 0]) ∧ Hid (DTab w4 w.heap.size rb W L2) := by
            rcases hd4 with ⟨L', h1, h2, h3⟩ | ⟨i, er, h1, _⟩
            · injection h1 with h1; subst h1; exact ⟨h2, h3⟩
            · cases h1
          have HA4 := hid (show Both w w4 tb rb W (madeN W ((chs cs).take (j + 1))) from by rw [HE.out]; exact ⟨(HKEEP.out _ hg4).1, HA.out.ot, HA.out.orr, (HKEEP.out _ hg4).2 _ HF3.out, HR4.out⟩)
          clear hg4 hd4
          go_wp2
          go_roundw
          case rel => exact ⟨j + 1, by omega, by omega, by go_num, HA4⟩
          case measure => simp [intOf]; omega
        | error er =>
          have HST := hid hst
          have HE := hid (show madeN W ((chs cs).take (j + 1)) = madeN W ((chs cs).take j) by rw [HSNO.out]; unfold stN; rw [hst])
          obtain ⟨rfl, HF3⟩ : en = .returned (.tuple #[.int .i64 0, .int .i64 er]) ∧ Hid (FTab w3 w.heap.size tb W (madeN W ((chs cs).take j))) := by
            rcases HD3.out with ⟨L', h1, h2, h3⟩ | ⟨i, er', h1, _, h2, h3⟩
            · rw [hst] at h1; cases h1
            · rw [hst] at h1; injection h1 with h1; injection h1 with h1 h4; subst h1 h4; exact ⟨h2, h3⟩
          clear hst HD3
          go_wp2_with fail
          refine HRD.out.mono ?_
          rintro en w4 ⟨hg4, hd4⟩
          rw [show chs [((kd, (⟨p, m, k, zs⟩ : Raw), Value.slice uo un uc) : Int × Raw × Value)] = [(kd, ⟨p, m, k, zs⟩)] from rfl, run_one, HST.out] at hd4
          obtain ⟨rfl, HR4⟩ : en = .returned (.tuple #[.int .i64 0, .int .i64 er]) ∧ Hid (DTab w4 w.heap.size rb W (madeN W ((chs cs).take j))) := by
            rcases hd4 with ⟨L', h1, h2, h3⟩ | ⟨i, er', h1, _, h2, h3⟩
            · cases h1
            · injection h1 with h1; injection h1 with h1 h4; subst h1 h4; exact ⟨h2, h3⟩
          have HA4 := hid (show Both w w4 tb rb W (madeN W ((chs cs).take (j + 1))) from by rw [HE.out]; exact ⟨(HKEEP.out _ hg4).1, HA.out.ot, HA.out.orr, (HKEEP.out _ hg4).2 _ HF3.out, HR4.out⟩)
          clear hg4 hd4
          have hee : (er != er) = false := by simp
          go_wp2
          go_roundw
          case rel => exact ⟨j + 1, by omega, by omega, by go_num, HA4⟩
          case measure => simp [intOf]; omega
      · have hj100 : ¬ (j : Int) < 100 := by omega
        have HEND := hid (show Both w wo tb rb W (madeN W ((chs cs).take 100)) from by
          have e100 : j = 100 := by omega
          rw [e100] at HA
          exact HA.out)
        go_wp2
        refine bodyPost_ret (v := .tuple #[.pointer (some ⟨tb, 0, none⟩), .pointer (some ⟨rb, 0, none⟩), .bool true]) (by simp [results, Tryz.results9, go_sem]) rfl ⟨tb, rb, rfl, HEND⟩
    · have hjI : ¬ ((j : Int) < (n : Int)) := by omega
      have HEND := hid (show Both w wo tb rb W (madeN W ((chs cs).take 100)) from by
        have e1 : (chs cs).take j = (chs cs).take 100 := by rw [List.take_of_length_le (by rw [List.length_map, HLN.out]; omega), List.take_of_length_le (by rw [List.length_map, HLN.out]; omega)]
        rw [e1] at HA; exact HA.out)
      go_wp2
      refine bodyPost_ret (v := .tuple #[.pointer (some ⟨tb, 0, none⟩), .pointer (some ⟨rb, 0, none⟩), .bool true]) (by simp [results, Tryz.results9, go_sem]) rfl ⟨tb, rb, rfl, HEND⟩
end Go.Proofs.YtipmlcdnfaobiaaGreat
namespace Go.Proofs.YtipmlcdnfaobiaaGreat
open Go.RowKit

/-- May a change be, but for the room? -/
def okC (W : Int) (L : List Raw) (c : Int × Raw) : Prop :=
  (c.1 = 1 ∧ errR W c.2 = 0 ∧ (L.any fun a => keyB a c.2) = false) ∨ (c.1 = 2 ∧ errR W { c.2 with kind := 1, ports := [] } = 0 ∧ (L.any fun a => keyB a c.2) = true) ∨ (c.1 = 3 ∧ errR W c.2 = 0 ∧ (L.any fun a => keyB a c.2) = true)
/-- What a change leaves and puts. -/
def AftC (L L' : List Raw) (c : Int × Raw) : Prop := ∀ x, x ∈ L' ↔ (x ∈ L ∧ keyB x c.2 = false) ∨ (c.1 ≠ 2 ∧ x = c.2)
theorem keyB_self (r : Raw) : keyB r r = true := keyB_iff.2 ⟨rfl, rfl⟩
theorem any_no {L : List Raw} {r : Raw} (h : (L.any fun a => keyB a r) = false) {x : Raw} (hx : x ∈ L) : keyB x r = false := by
  cases q : keyB x r with
  | false => rfl
  | true =>
    have := (List.any_eq_true (l := L) (p := fun a => keyB a r)).2 ⟨x, hx, q⟩
    rw [h] at this
    cases this
theorem step_okC {W : Int} {L L' : List Raw} {c : Int × Raw} (h : stepN W L c.1 c.2 = .ok L') : okC W L c ∧ AftC L L' c ∧ L'.length ≤ L.length + 1 := by
  unfold stepN at h
  split at h
  · rename_i h1
    split at h
    · rename_i he
      split at h
      · cases h
      · rename_i hn
        have hn : (L.any fun a => keyB a c.2) = false := by simpa using hn
        split at h
        · cases h
        · injection h with h
          subst h
          refine ⟨Or.inl ⟨h1, he, hn⟩, fun x => ?_, by rw [putR_len]; exact Nat.le_refl _⟩
          rw [(putR_perm L c.2).mem_iff, List.mem_append, List.mem_singleton]
          constructor
          · rintro (q | q)
            · exact Or.inl ⟨q, any_no hn q⟩
            · exact Or.inr ⟨by omega, q⟩
          · rintro (⟨q, _⟩ | ⟨_, q⟩)
            · exact Or.inl q
            · exact Or.inr q
    · cases h
  · split at h
    · rename_i h2
      split at h
      · rename_i he
        split at h
        · rename_i hn
          injection h with h
          subst h
          refine ⟨Or.inr (Or.inl ⟨h2, he, hn⟩), fun x => ?_, Nat.le_succ_of_le (List.length_filter_le _ _)⟩
          unfold rmR
          rw [List.mem_filter]
          constructor
          · rintro ⟨q1, q2⟩
            exact Or.inl ⟨q1, by simpa using q2⟩
          · rintro (⟨q1, q2⟩ | ⟨q, _⟩)
            · exact ⟨q1, by simp [q2]⟩
            · exact absurd h2 q
        · cases h
      · cases h
    · split at h
      · rename_i h3
        split at h
        · rename_i he
          split at h
          · rename_i hn
            injection h with h
            subst h
            refine ⟨Or.inr (Or.inr ⟨h3, he, hn⟩), fun x => ?_, by unfold mdR; rw [List.length_map]; omega⟩
            unfold mdR
            rw [List.mem_map]
            constructor
            · rintro ⟨a, ha, rfl⟩
              cases q : keyB a c.2 with
              | true => rw [if_pos rfl]; exact Or.inr ⟨by omega, rfl⟩
              | false => rw [if_neg (by decide)]; exact Or.inl ⟨ha, q⟩
            · rintro (⟨q1, q2⟩ | ⟨_, q⟩)
              · exact ⟨x, q1, by rw [q2, if_neg (by decide)]⟩
              · obtain ⟨a, ha, hk⟩ := List.any_eq_true.1 hn
                exact ⟨a, ha, by rw [if_pos hk, q]⟩
          · cases h
        · cases h
      · cases h
theorem okC_step {W : Int} {L : List Raw} {c : Int × Raw} (h : okC W L c) (hl : L.length < 4096) : ∃ L', stepN W L c.1 c.2 = .ok L' := by
  rcases h with ⟨h1, h2, h3⟩ | ⟨h1, h2, h3⟩ | ⟨h1, h2, h3⟩
  · exact ⟨putR L c.2, by unfold stepN; rw [if_pos h1, if_pos h2, h3, if_neg (by decide), if_neg (by omega)]⟩
  · exact ⟨rmR L c.2, by unfold stepN; rw [if_neg (by omega), if_pos h1, if_pos h2, h3, if_pos rfl]⟩
  · exact ⟨mdR L c.2, by unfold stepN; rw [if_neg (by omega), if_neg (by omega), if_pos h1, if_pos h2, h3, if_pos rfl]⟩
theorem keyB_trans_no {x a b : Raw} (h : keyB a b = false) (hx : keyB x a = true) : keyB x b = false := by
  cases q : keyB x b with
  | false => rfl
  | true =>
    have h1 := keyB_iff.1 hx
    have h2 := keyB_iff.1 q
    have : keyB a b = true := keyB_iff.2 ⟨h1.1.symm.trans h2.1, h1.2.symm.trans h2.2⟩
    rw [h] at this
    cases this
theorem any_aft {L L' : List Raw} {c : Int × Raw} (h : AftC L L' c) {r : Raw} (hr : keyB c.2 r = false) : (L'.any fun a => keyB a r) = L.any fun a => keyB a r := by
  rw [Bool.eq_iff_iff, List.any_eq_true, List.any_eq_true]
  constructor
  · rintro ⟨x, hx, hk⟩
    rcases (h x).1 hx with ⟨q, _⟩ | ⟨_, q⟩
    · exact ⟨x, q, hk⟩
    · rw [q, hr] at hk; cases hk
  · rintro ⟨x, hx, hk⟩
    refine ⟨x, (h x).2 (Or.inl ⟨hx, ?_⟩), hk⟩
    cases q : keyB x c.2 with
    | false => rfl
    | true => rw [keyB_trans_no hr q] at hk; cases hk
theorem okC_aft {W : Int} {L L' : List Raw} {c d : Int × Raw} (h : AftC L L' c) (hr : keyB c.2 d.2 = false) : okC W L' d ↔ okC W L d := by
  unfold okC
  rw [any_aft h hr]
/-- No two changes have one key. -/
def Unl (cs : List (Int × Raw)) : Prop := cs.Pairwise fun c d => keyB c.2 d.2 = false
theorem keyB_comm (a b : Raw) : keyB a b = keyB b a := by
  rw [Bool.eq_iff_iff, keyB_iff, keyB_iff]
  exact ⟨fun h => ⟨h.1.symm, h.2.symm⟩, fun h => ⟨h.1.symm, h.2.symm⟩⟩
theorem Unl.rev {cs : List (Int × Raw)} (h : Unl cs) : Unl cs.reverse := by
  unfold Unl at *
  rw [List.pairwise_reverse]
  exact h.imp fun {a b} q => by rw [keyB_comm]; exact q
/-- What changes of unlike keys leave and put. -/
def AftA (L L' : List Raw) (cs : List (Int × Raw)) : Prop := ∀ x, x ∈ L' ↔ (x ∈ L ∧ ∀ c ∈ cs, keyB x c.2 = false) ∨ ∃ c ∈ cs, c.1 ≠ 2 ∧ x = c.2
theorem aft_cons {L L1 L' : List Raw} {c : Int × Raw} {cs : List (Int × Raw)} (hu : Unl (c :: cs)) (h1 : AftC L L1 c) (h2 : AftA L1 L' cs) : AftA L L' (c :: cs) := by
  have hu := (List.pairwise_cons.1 hu).1
  intro x
  rw [h2 x, h1 x]
  constructor
  · rintro (⟨(⟨q1, q2⟩ | ⟨q1, q2⟩), q3⟩ | ⟨d, hd, q⟩)
    · refine Or.inl ⟨q1, fun d hd => ?_⟩
      rcases List.mem_cons.1 hd with e | hd
      · rw [e]; exact q2
      · exact q3 d hd
    · exact Or.inr ⟨c, List.mem_cons_self, q1, q2⟩
    · exact Or.inr ⟨d, List.mem_cons_of_mem _ hd, q⟩
  · rintro (⟨q1, q2⟩ | ⟨d, hd, q1, q2⟩)
    · exact Or.inl ⟨Or.inl ⟨q1, q2 c List.mem_cons_self⟩, fun d hd => q2 d (List.mem_cons_of_mem _ hd)⟩
    · rcases List.mem_cons.1 hd with e | hd
      · subst e
        exact Or.inl ⟨Or.inr ⟨q1, q2⟩, fun d' hd' => by rw [q2]; exact hu d' hd'⟩
      · exact Or.inr ⟨d, hd, q1, q2⟩
theorem run_okA {W : Int} {cs : List (Int × Raw)} : ∀ {L L' : List Raw} {i : Nat}, Unl cs → runN W L cs i = .ok L' → (∀ c ∈ cs, okC W L c) ∧ AftA L L' cs := by
  induction cs with
  | nil => intro L L' i _ h; cases h; exact ⟨(fun c hc => by cases hc), fun x => by simp⟩
  | cons c cs ih =>
    intro L L' i hu h
    cases hs : stepN W L c.1 c.2 with
    | error e => rw [runN_no hs] at h; cases h
    | ok L1 =>
      rw [runN_ok hs] at h
      obtain ⟨o1, a1, _⟩ := step_okC hs
      obtain ⟨o2, a2⟩ := ih (List.pairwise_cons.1 hu).2 h
      refine ⟨fun d hd => ?_, aft_cons hu a1 a2⟩
      rcases List.mem_cons.1 hd with e | hd
      · rw [e]; exact o1
      · exact (okC_aft a1 ((List.pairwise_cons.1 hu).1 d hd)).1 (o2 d hd)
theorem okA_run {W : Int} {cs : List (Int × Raw)} : ∀ {L : List Raw} {i : Nat}, Unl cs → (∀ c ∈ cs, okC W L c) → L.length + cs.length ≤ 4096 → ∃ L', runN W L cs i = .ok L' := by
  induction cs with
  | nil => intro L i _ _ _; exact ⟨L, rfl⟩
  | cons c cs ih =>
    intro L i hu ho hl
    rw [List.length_cons] at hl
    obtain ⟨L1, h1⟩ := okC_step (ho c List.mem_cons_self) (by omega)
    obtain ⟨_, a1, l1⟩ := step_okC h1
    obtain ⟨L', h'⟩ := ih (i := i + 1) (List.pairwise_cons.1 hu).2 (fun d hd => (okC_aft a1 ((List.pairwise_cons.1 hu).1 d hd)).2 (ho d (List.mem_cons_of_mem _ hd))) (by omega)
    exact ⟨L', by rw [runN_ok h1]; exact h'⟩
theorem srt_nodup {L : List Raw} (h : Srt L) : L.Nodup := h.imp fun {a b} q e => by rw [e] at q; exact cmpR_irr q
theorem srt_same {L M : List Raw} (hL : Srt L) (hM : Srt M) (h : ∀ x, x ∈ L ↔ x ∈ M) : L = M :=
  one_way (R := fun a b => cmpR a b < 0) (fun _ _ p q => cmpR_asy p q) hL hM ((List.perm_ext_iff_of_nodup (srt_nodup hL) (srt_nodup hM)).2 h)
/-- Changes of unlike keys, the last first. -/
theorem run_rev {W : Int} {L L' : List Raw} {cs : List (Int × Raw)} (hg : GoodT W L) (hu : Unl cs) (h : runN W L cs 0 = .ok L') (hl : L.length + cs.length ≤ 4096) : runN W L cs.reverse 0 = .ok L' := by
  obtain ⟨o, a⟩ := run_okA hu h
  obtain ⟨M, hM⟩ := okA_run (i := 0) hu.rev (fun c hc => o c (List.mem_reverse.1 hc)) (by rw [List.length_reverse]; exact hl)
  obtain ⟨_, b⟩ := run_okA hu.rev hM
  rw [hM, srt_same (hg.run hM).srt (hg.run h).srt fun x => by rw [a x, b x]; simp]
/-- Of changes that may be, each that is done one by one may be. -/
theorem run_take {W : Int} {L L' : List Raw} {cs : List (Int × Raw)} (h : runN W L cs 0 = .ok L') : ∀ j, ∃ Lj, runN W L (cs.take j) 0 = .ok Lj := by
  intro j
  cases q : runN W L (cs.take j) 0 with
  | ok Lj => exact ⟨Lj, rfl⟩
  | error e =>
    exfalso
    have : ∀ (A B : List (Int × Raw)) (L : List Raw) (i : Nat) (e : Nat × Int), runN W L A i = .error e → runN W L (A ++ B) i = .error e := by
      intro A B
      induction A with
      | nil => intro L i e h; cases h
      | cons c A ih =>
        intro L i e h
        cases hs : stepN W L c.1 c.2 with
        | error e' => rw [runN_no hs] at h; rw [List.cons_append, runN_no hs]; exact h
        | ok L1 => rw [runN_ok hs] at h; rw [List.cons_append, runN_ok hs]; exact ih _ _ _ h
    have := this (cs.take j) (cs.drop j) L 0 e q
    rw [List.take_append_drop, h] at this
    cases this
theorem run_next {W : Int} {L L' Lj : List Raw} {cs : List (Int × Raw)} {j : Nat} {c : Int × Raw} (h : runN W L cs 0 = .ok L') (hj : runN W L (cs.take j) 0 = .ok Lj) (hc : cs[j]? = some c) : ∃ L2, stepN W Lj c.1 c.2 = .ok L2 ∧ runN W L (cs.take (j + 1)) 0 = .ok L2 := by
  obtain ⟨h1, h2⟩ := run_snoc hj hc
  cases hs : stepN W Lj c.1 c.2 with
  | ok L2 => exact ⟨L2, rfl, (h1 L2 hs).1⟩
  | error e => have := h2 e hs; rw [h] at this; cases this
end Go.Proofs.YtipmlcdnfaobiaaGreat
namespace Go.Proofs.YtipmlcdnfaobiaaGreat
open Go.RowKit

theorem errR_drop {W : Int} {r : Raw} (h : errR W r = 0) : errR W { r with kind := 1, ports := [] } = 0 := by
  have h := errR_ok.1 h
  refine errR_ok.2 ⟨h.wide, h.prio, h.cube, h.len, Or.inl ⟨Or.inl rfl, rfl⟩⟩
theorem oldR_mem {L : List Raw} {r : Raw} (hs : Srt L) (h : (L.any fun a => keyB a r) = true) : oldR L r ∈ L ∧ keyB (oldR L r) r = true := by
  obtain ⟨a, ha, hk⟩ := List.any_eq_true.1 h
  obtain ⟨j, hj⟩ := List.getElem?_of_mem ha
  rw [oldR_at hs hj hk]
  exact ⟨ha, hk⟩
theorem key_one {L : List Raw} (hs : Srt L) {a b : Raw} (ha : a ∈ L) (hb : b ∈ L) (hk : keyB a b = true) : a = b := by
  obtain ⟨j, hj⟩ := List.getElem?_of_mem hb
  rw [cut_mid_ hj] at ha
  obtain ⟨h1, h2⟩ := hs.others hj (keyB_self b)
  rcases List.mem_append.1 ha with ha | ha
  · rw [h1 a ha] at hk; cases hk
  · rcases List.mem_cons.1 ha with ha | ha
    · exact ha
    · rw [h2 a ha] at hk; cases hk
theorem keyB_like {a b : Raw} (h : keyB a b = true) (x : Raw) : keyB x a = keyB x b := by
  have h := keyB_iff.1 h
  rw [Bool.eq_iff_iff, keyB_iff, keyB_iff]
  exact ⟨fun q => ⟨q.1.trans h.1, q.2.trans h.2⟩, fun q => ⟨q.1.trans h.1.symm, q.2.trans h.2.symm⟩⟩
theorem rm_short {L : List Raw} {r : Raw} (h : (L.any fun a => keyB a r) = true) : (rmR L r).length < L.length := by
  obtain ⟨a, ha, hk⟩ := List.any_eq_true.1 h
  unfold rmR
  refine List.length_filter_lt_length_iff_exists.2 ⟨a, ha, by simp [hk]⟩
/-- A change and what undoes it. -/
theorem step_undo {W : Int} {L L1 : List Raw} {k : Int} {r : Raw} (hg : GoodT W L) (h : stepN W L k r = .ok L1) : stepN W L1 (undoN L k r).1 (undoN L k r).2 = .ok L := by
  obtain ⟨o1, a1, l1⟩ := step_okC (c := (k, r)) h
  have hg1 := hg.step h
  have fin : ∀ u : Int × Raw, okC W L1 u → L1.length < 4096 → (∀ x, ((x ∈ L1 ∧ keyB x u.2 = false) ∨ (u.1 ≠ 2 ∧ x = u.2)) ↔ x ∈ L) → stepN W L1 u.1 u.2 = .ok L := fun u ho hl hm => by
    obtain ⟨L2, h2⟩ := okC_step ho hl
    obtain ⟨_, a2, _⟩ := step_okC h2
    rw [h2, srt_same (hg1.step h2).srt hg.srt fun x => by rw [a2 x]; exact hm x]
  have a1 : ∀ x, x ∈ L1 ↔ (x ∈ L ∧ keyB x r = false) ∨ (k ≠ 2 ∧ x = r) := a1
  rcases o1 with ⟨h1, he, hn⟩ | ⟨h1, he, hn⟩ | ⟨h1, he, hn⟩
  · have h1 : k = 1 := h1
    subst h1
    have hin : r ∈ L1 := (a1 r).2 (Or.inr ⟨by omega, rfl⟩)
    have hok : okC W L1 (2, r) := Or.inr (Or.inl ⟨rfl, errR_drop he, List.any_eq_true.2 ⟨r, hin, keyB_self r⟩⟩)
    have hm : ∀ x, ((x ∈ L1 ∧ keyB x r = false) ∨ ((2 : Int) ≠ 2 ∧ x = r)) ↔ x ∈ L := fun x => by
      rw [a1 x]
      constructor
      · rintro (⟨(⟨q, _⟩ | ⟨_, q⟩), q2⟩ | ⟨q, _⟩)
        · exact q
        · rw [q, keyB_self] at q2; cases q2
        · exact absurd rfl q
      · exact fun q => Or.inl ⟨Or.inl ⟨q, any_no hn q⟩, any_no hn q⟩
    have e : undoN L 1 r = (2, r) := by unfold undoN; rw [if_pos rfl]
    rw [e]
    obtain ⟨L2, h2⟩ : ∃ L2, stepN W L1 2 r = .ok L2 := by
      rcases hok with ⟨q, _⟩ | ⟨_, q1, q2⟩ | ⟨q, _⟩
      · exact absurd (show (2 : Int) = 1 from q) (by decide)
      · exact ⟨rmR L1 r, by unfold stepN; rw [if_neg (by decide), if_pos rfl, if_pos q1, if_pos q2]⟩
      · exact absurd (show (2 : Int) = 3 from q) (by decide)
    obtain ⟨_, a2, _⟩ := step_okC (c := ((2 : Int), r)) h2
    show stepN W L1 2 r = .ok L
    rw [h2, srt_same (hg1.step h2).srt hg.srt fun x => by rw [a2 x]; exact hm x]
  · have h1 : k = 2 := h1
    subst h1
    obtain ⟨hm, hk⟩ := oldR_mem hg.srt hn
    have hl1 : L1 = rmR L r := by
      unfold stepN at h
      rw [if_neg (by decide), if_pos rfl, if_pos he, if_pos hn] at h
      injection h with h
      exact h.symm
    have hno : (L1.any fun a => keyB a (oldR L r)) = false := by
      cases q : L1.any fun a => keyB a (oldR L r) with
      | false => rfl
      | true =>
        obtain ⟨x, hx, hkx⟩ := List.any_eq_true.1 q
        rw [keyB_like hk] at hkx
        rcases (a1 x).1 hx with ⟨_, q⟩ | ⟨q, _⟩
        · rw [q] at hkx; cases hkx
        · exact absurd rfl q
    have e : undoN L 2 r = (1, oldR L r) := by unfold undoN; rw [if_neg (by decide), if_pos rfl]
    rw [e]
    refine fin (1, oldR L r) (Or.inl ⟨rfl, hg.ok _ hm, hno⟩) (by have h9 : (rmR L r).length < L.length := rm_short hn; have := hg.few; rw [hl1]; omega) fun x => ?_
    rw [a1 x]
    constructor
    · rintro (⟨(⟨q, _⟩ | ⟨q, _⟩), _⟩ | ⟨_, q⟩)
      · exact q
      · exact absurd rfl q
      · rw [show x = oldR L r from q]; exact hm
    · intro q
      cases hx : keyB x r with
      | false => exact Or.inl ⟨Or.inl ⟨q, rfl⟩, by show keyB x (oldR L r) = false; rw [keyB_like hk, hx]⟩
      | true => exact Or.inr ⟨show (1 : Int) ≠ 2 by decide, key_one hg.srt q hm (by rw [keyB_like hk, hx])⟩
  · have h1 : k = 3 := h1
    subst h1
    obtain ⟨hm, hk⟩ := oldR_mem hg.srt hn
    have hin : r ∈ L1 := (a1 r).2 (Or.inr ⟨by omega, rfl⟩)
    have e : undoN L 3 r = (3, oldR L r) := by unfold undoN; rw [if_neg (by decide), if_neg (by decide)]
    rw [e]
    have hany : (L1.any fun a => keyB a (oldR L r)) = true := List.any_eq_true.2 ⟨r, hin, by rw [keyB_comm]; exact hk⟩
    obtain ⟨L2, h2⟩ : ∃ L2, stepN W L1 3 (oldR L r) = .ok L2 := ⟨mdR L1 (oldR L r), by unfold stepN; rw [if_neg (by decide), if_neg (by decide), if_pos rfl, if_pos (hg.ok _ hm), if_pos hany]⟩
    obtain ⟨_, a2, _⟩ := step_okC (c := ((3 : Int), oldR L r)) h2
    show stepN W L1 3 (oldR L r) = .ok L
    rw [h2, srt_same (hg1.step h2).srt hg.srt fun x => ?_]
    rw [a2 x, a1 x]
    constructor
    · rintro (⟨(⟨q, _⟩ | ⟨_, q⟩), q2⟩ | ⟨_, q⟩)
      · exact q
      · rw [q, keyB_comm] at q2
        rw [show keyB (oldR L r) r = true from hk] at q2
        cases q2
      · rw [show x = oldR L r from q]; exact hm
    · intro q
      cases hx : keyB x r with
      | false => exact Or.inl ⟨Or.inl ⟨q, rfl⟩, by show keyB x (oldR L r) = false; rw [keyB_like hk, hx]⟩
      | true => exact Or.inr ⟨show (3 : Int) ≠ 2 by decide, key_one hg.srt q hm (by rw [keyB_like hk, hx])⟩
/-- Changes and what undoes them, the last first. -/
theorem run_undo {W : Int} {cs : List (Int × Raw)} : ∀ {L L' : List Raw} {i : Nat}, GoodT W L → runN W L cs i = .ok L' → runN W L' (undosN W L cs).reverse 0 = .ok L := by
  induction cs with
  | nil => intro L L' i _ h; cases h; rfl
  | cons c cs ih =>
    intro L L' i hg h
    cases hs : stepN W L c.1 c.2 with
    | error e => rw [runN_no hs] at h; cases h
    | ok L1 =>
      rw [runN_ok hs] at h
      rw [undosN_ok hs, List.reverse_cons, run_step (ih (hg.step hs) h)]
      have := step_undo hg hs
      rw [show ([undoN L c.1 c.2] : List (Int × Raw)) = undoN L c.1 c.2 :: [] from rfl, runN_ok this]
      rfl
end Go.Proofs.YtipmlcdnfaobiaaGreat
namespace Go.Proofs.YtipmlcdnfaobiaaGreat
open Go.RowKit

theorem dead_at {L : List Raw} : ∀ k, k ≤ L.length → ∀ r ∈ (stD (L.take k)).2, ∃ j, j < k ∧ L[j]? = some r ∧ Cub.leftTo r.mat (stD (L.take j)).1 (stD (L.take j)).1.length = [] := by
  intro k
  induction k with
  | zero => intro _ r hr; cases hr
  | succ k ih =>
    intro hk r hr
    have hk' : k < L.length := by omega
    obtain ⟨x, hx⟩ : ∃ x, L[k]? = some x := ⟨L[k], List.getElem?_eq_getElem hk'⟩
    have et : L.take (k + 1) = L.take k ++ [x] := by rw [List.take_add_one, hx]; rfl
    rw [et, stD_snoc] at hr
    unfold stepD at hr
    by_cases h0 : Cub.leftTo x.mat (stD (L.take k)).1 (stD (L.take k)).1.length = []
    · rw [if_pos h0] at hr
      rcases List.mem_append.1 hr with q | q
      · obtain ⟨j, h1, h2⟩ := ih (by omega) r q
        exact ⟨j, by omega, h2⟩
      · rw [List.mem_singleton.1 q]
        exact ⟨k, by omega, hx, h0⟩
    · rw [if_neg h0] at hr
      obtain ⟨j, h1, h2⟩ := ih (by omega) r hr
      exact ⟨j, by omega, h2⟩
theorem GoodT.wid {W : Int} {L : List Raw} (h : GoodT W L) : Wid W.toNat (mats L) := fun l hl => by
  obtain ⟨r, hr, rfl⟩ := List.mem_map.1 hl
  have := errR_ok.1 (h.ok r hr)
  exact ⟨this.cube, by have := this.len; omega⟩
theorem head_errH {W : Int} {h m : List UInt8} (hh : headB W h = true) (hm : Cub.Cu.right m = true ∧ m.length = W.toNat) : Cub.errH (tx m) (tx h) = 0 := by
  have hh := of_decide_eq_true hh
  unfold Cub.errH at hh ⊢
  split at hh
  · cases hh
  · rename_i hx
    rw [if_neg hx]
    obtain ⟨h1, _, h3⟩ := Cub.err2_zero hh
    refine Cub.err2_of h1 (by simpa using hm.1) (h3.trans ?_)
    show (List.replicate W.toNat (120 : UInt8)).toArray.size = m.toArray.size
    simp [hm.2]
theorem dead_found {W : Int} {L : List Raw} {h : List UInt8} {r : Raw} (hg : GoodT W L) (hh : headB W h = true) (hf : L.find? (fun a => liesB a h) = some r) : r ∉ (stD L).2 := by
  intro hd
  obtain ⟨hp, ys, zs, e, hno⟩ := List.find?_eq_some_iff_append.1 hf
  have hd' : r ∈ (stD (L.take L.length)).2 := by rw [List.take_length]; exact hd
  obtain ⟨j, hj, hr, h0⟩ := dead_at L.length (Nat.le_refl _) r hd'
  have hja : L.take j = ys := by
    obtain ⟨o1, o2⟩ := hg.srt.others hr (keyB_self r)
    have hjl : j = ys.length := by
      rcases Nat.lt_trichotomy j ys.length with q | q | q
      · have : r ∈ ys := by
          rw [e, List.getElem?_append_left q] at hr
          exact List.mem_of_getElem? hr
        have := hno r this
        rw [hp] at this
        cases this
      · exact q
      · have : r ∈ L.take j := by
          rw [List.mem_take_iff_getElem]
          exact ⟨ys.length, by rw [e]; simp; omega, by simp [e]⟩
        have := o1 r this
        rw [keyB_self] at this
        cases this
    rw [e, hjl, List.take_left]
  have hm := hg.wid r.mat (List.mem_map_of_mem (List.mem_of_getElem? hr))
  obtain ⟨hW, hs⟩ := dead_same hg.wid j (Nat.le_of_lt (by have := (List.getElem?_eq_some_iff.1 hr).1; exact this))
  rw [(hs r.mat hm).1, hja] at h0
  have hWa : Wid W.toNat (mats ys) := fun l hl => hg.wid l (by rw [e]; simp only [mats, List.map_append, List.mem_append]; exact Or.inl hl)
  have i1 := Cub.in_left (Wid.err hm hWa) (head_errH hh hm) (mats ys).length (Nat.le_refl _)
  rw [List.take_length, show (tx r.mat).data.toList = r.mat by simp, h0, show Cub.hasB (tx r.mat) (tx h) = true from hp] at i1
  have i1 : Cub.inB (mats ys) (tx h) = true := by
    cases q : Cub.inB (mats ys) (tx h) with
    | true => rfl
    | false => rw [q] at i1; simp [Cub.inB] at i1
  obtain ⟨l, hl, hi⟩ := List.any_eq_true.1 i1
  obtain ⟨a, ha, rfl⟩ := List.mem_map.1 hl
  have := hno a ha
  rw [show liesB a h = true from hi] at this
  cases this
theorem find_and {α : Type} {p q : α → Bool} {L : List α} (h : ∀ x, L.find? p = some x → q x = true) : L.find? (fun a => q a && p a) = L.find? p := by
  induction L with
  | nil => rfl
  | cons a L ih =>
    cases hp : p a with
    | true =>
      have hq := h a (by rw [List.find?_cons, hp])
      rw [List.find?_cons, List.find?_cons, hp, hq]
      rfl
    | false =>
      rw [List.find?_cons, List.find?_cons, hp, Bool.and_false]
      exact ih (fun x hx => h x (by rw [List.find?_cons, hp]; exact hx))
/-- Rules without some that are dead: what a header meets first stays. -/
theorem dead_gone {W : Int} {L L' : List Raw} {D : List Raw} {h : List UInt8} (hg : GoodT W L) (hg' : GoodT W L') (hD : ∀ d ∈ D, d ∈ (stD L).2) (hm : ∀ x, x ∈ L' ↔ x ∈ L ∧ ∀ d ∈ D, keyB x d = false) (hh : headB W h = true) : L'.find? (fun a => liesB a h) = L.find? (fun a => liesB a h) := by
  have e : L' = L.filter (fun x => D.all fun d => !keyB x d) := by
    refine srt_same hg'.srt (List.Pairwise.filter _ hg.srt) fun x => ?_
    rw [hm x, List.mem_filter, List.all_eq_true]
    constructor
    · rintro ⟨h1, h2⟩; exact ⟨h1, fun d hd => by rw [h2 d hd]; rfl⟩
    · rintro ⟨h1, h2⟩; exact ⟨h1, fun d hd => by have := h2 d hd; simpa using this⟩
  have e2 : (fun a => decide ((D.all fun d => !keyB a d) = true ∧ liesB a h = true)) = fun a => (D.all fun d => !keyB a d) && liesB a h := by
    funext a
    rw [Bool.eq_iff_iff, decide_eq_true_iff, Bool.and_eq_true]
  rw [e, List.find?_filter, e2]
  refine find_and fun x hx => ?_
  have hxL := List.mem_of_find?_eq_some hx
  rw [List.all_eq_true]
  intro d hd
  cases q : keyB x d with
  | false => rfl
  | true =>
    obtain ⟨j, _, hj, _⟩ := dead_at L.length (Nat.le_refl _) d (by rw [List.take_length]; exact hD d hd)
    have := key_one hg.srt hxL (List.mem_of_getElem? hj) q
    subst this
    exact absurd (hD _ hd) (dead_found hg hh hx)
end Go.Proofs.YtipmlcdnfaobiaaGreat
namespace Go.Proofs.YtipmlcdnfaobiaaGreat
open Go.RowKit

/-- A row of rules for reading, wherever it lies. -/
def RowV (w : World) (v : Value) (n : Nat) (qs : List (Raw × Value)) : Prop := qs.length = n ∧ ∃ ao c, v = .slice ao n c ∧ (qs = [] ∨ ∃ g o, ao = some ⟨g, o, none⟩ ∧ RawView w g o qs)
theorem RawView.onV {w w' : World} {g o : Nat} {ps : List (Raw × Value)} (hv : RawView w g o ps) (hb : Below w.heap.size w w') : RawView w' g o ps :=
  ⟨Nat.lt_of_lt_of_le hv.old hb.size, fun i q hq => by
    obtain ⟨c0, c1, c2, c3⟩ := hv.cell i q hq
    exact ⟨(hb.cell (by exact hv.old)).trans c0, (hb.cell (by exact hv.old)).trans c1, (hb.cell (by exact hv.old)).trans c2, (hb.cell (by exact hv.old)).trans c3⟩, fun q hq => ⟨(hv.ports q hq).1.below hb, (hv.ports q hq).2⟩⟩
theorem RowV.on {w w' : World} {v : Value} {n : Nat} {qs : List (Raw × Value)} (h : RowV w v n qs) (hb : Below w.heap.size w w') : RowV w' v n qs := by
  obtain ⟨hn, ao, c, e, q | ⟨g, o, e2, hv⟩⟩ := h
  · exact ⟨hn, ao, c, e, Or.inl q⟩
  · exact ⟨hn, ao, c, e, Or.inr ⟨g, o, e2, hv.onV hb⟩⟩
theorem OwnR.rowV {w : World} {B : Nat} {v : Value} {ps : List (Raw × Value)} (h : OwnR w B v ps) (hp : ∀ q ∈ ps, Txs w q.2 q.1.ports ∧ ∀ p ∈ q.1.ports, p.length ≤ maxLen) : RowV w v ps.length ps := by
  obtain ⟨ao, c, rfl, _, _⟩ := h.form
  refine ⟨rfl, ao, c, rfl, ?_⟩
  rcases own_cells h.own with ⟨_, h0, _⟩ | ⟨g, e, _, _, hg, hc⟩
  · exact Or.inl (List.length_eq_zero_iff.1 h0)
  · refine Or.inr ⟨g, 0, e, hg, fun i q hq => ?_, hp⟩
    obtain ⟨h0, h1, h2, h3⟩ := flatV_get hq
    rw [Nat.zero_add]
    exact ⟨hc _ _ h0, hc _ _ h1, hc _ _ h2, hc _ _ h3⟩
theorem DocL.rowV {w : World} {B Q : Nat} {v : Value} {ps : List (Raw × Value)} (h : DocL w B Q v ps) : RowV w v ps.length ps := h.own.rowV h.txs
theorem good_small {W : Int} {L : List Raw} (h : GoodT W L) {ps : List (Raw × Value)} (e : ps.map Prod.fst = L) : ∀ q ∈ ps, Small q.1.mat q.1.ports := fun q hq => (errR_small (h.ok q.1 (by rw [← e]; exact List.mem_map_of_mem hq))).1
theorem good_len {W : Int} {L : List Raw} (h : GoodT W L) {ps : List (Raw × Value)} (e : ps.map Prod.fst = L) : ∀ q ∈ ps, q.1.ports.length ≤ maxLen := fun q hq => by
  have := (good_small h e q hq).2.1
  unfold maxLen
  omega
theorem good_each {W : Int} {L : List Raw} (h : GoodT W L) {ps : List (Raw × Value)} (e : ps.map Prod.fst = L) : ∀ q ∈ ps, ∀ p ∈ q.1.ports, p.length ≤ maxLen := fun q hq p hp => by
  have := (good_small h e q hq).2.2 p hp
  unfold maxLen
  omega
theorem same_rows {w : World} {v1 v2 : Value} {n : Nat} {q1 q2 : List (Raw × Value)} {W : Int} {L : List Raw} (h1 : RowV w v1 n q1) (h2 : RowV w v2 n q2) (hg : GoodT W L) (e1 : q1.map Prod.fst = L) (e2 : q2.map Prod.fst = L) :
    Calls Tryz.prog 11 #[v1, v2] w fun e w' => e = .returned (.bool true) ∧ Below w.heap.size w w' := by
  obtain ⟨l1, a1, c1, rfl, k1⟩ := h1
  obtain ⟨l2, a2, c2, rfl, k2⟩ := h2
  have hf := hg.few
  rw [← e1, List.length_map] at hf
  rcases k1 with k1 | ⟨g, o, rfl, k1⟩
  · subst k1
    have : n = 0 := l1.symm
    subst this
    exact SameRules_none _ _ _ _ _
  · rcases k2 with k2 | ⟨g2, o2, rfl, k2⟩
    · subst k2
      have : n = 0 := l2.symm
      subst this
      exact SameRules_none _ _ _ _ _
    · exact SameRules_rr c1 c2 n k1 (good_len hg e1) k2 l1 l2 (by rw [e1, e2]) (by omega)
theorem sorted_stays {ps : List (Raw × Value)} {M : List Nat} (hs : Srt (ps.map Prod.fst)) (hM : Pc (cmpAt ps) 0 ps.length M) : M.map (rawAt ps) = ps.map Prod.fst := by
  have ha : Apart_ ps ps.length := fun i j hij hj q => by
    have := List.pairwise_iff_getElem.1 hs i j (by rw [List.length_map]; omega) (by rw [List.length_map]; omega) hij
    rw [List.getElem_map, List.getElem_map] at this
    rw [rawAt_some (List.getElem?_eq_getElem hj), rawAt_some (List.getElem?_eq_getElem (show i < ps.length by omega))] at q
    rw [cmpR_same q.symm] at this
    omega
  exact one_way (R := fun a b => cmpR a b < 0) (fun a b h k => cmpR_asy h k) (raw_rise hM ha) hs (raw_perm hM)

/-- What Rules tells. -/
def RulesPost (w : World) (L : List Raw) (e : Ending) (w' : World) : Prop := ∃ v qs, e = .returned v ∧ (∃ a n c, v = .slice a n c) ∧ RowV w' v L.length qs ∧ qs.map Prod.fst = L ∧ (∀ q ∈ qs, Ported w' w.heap.size q.2 q.1.ports) ∧ Below w.heap.size w w'

set_option maxRecDepth 4000 in
set_option maxHeartbeats 1000000 in
theorem copies_any {w : World} {v : Value} {n : Nat} {W : Int} {L : List Raw} {ps : List (Raw × Value)} (h : RowV w v n ps) (hg : GoodT W L) (e : ps.map Prod.fst = L) : Calls Tryz.prog 32 #[v] w fun e w' => RulesPost w L e w' := by
  obtain ⟨hn, ao, c, rfl, k⟩ := h
  have hf := hg.few
  rw [← e, List.length_map, hn] at hf
  have hl : L.length = n := by rw [← e, List.length_map, hn]
  rcases k with k | ⟨g, o, rfl, k⟩
  · subst k
    have hn0 : n = 0 := hn.symm
    subst hn0
    have HO := hid (Order_none (w := w) (ao := ao) (cap := c))
    have HL := hid (show L = [] from e.symm)
    clear hn hf hl e hg
    go_enter Tryz.func32, Tryz.ntmps32
    go_wp2_with fail
    refine HO.out.mono ?_
    rintro en w2 ⟨ob, rfl, hb⟩
    have HB := hid hb
    clear hb
    go_wp2
    go_ret
    rw [HL.out]
    exact ⟨_, [], rfl, ⟨_, _, _, rfl⟩, ⟨rfl, _, _, rfl, Or.inl rfl⟩, rfl, (fun q hq => by cases hq), HB.out⟩
  · refine (copies_some k hn hf (good_small hg e)).mono ?_
    rintro en w' ⟨ob, qs, M, hP⟩
    have hP := hP.out
    have hM := hP.sorted
    rw [← hn] at hM
    have hq : qs.map Prod.fst = L := by rw [hP.same, sorted_stays (by rw [e]; exact hg.srt) hM, e]
    have hql : qs.length = n := by rw [← hl, ← hq, List.length_map]
    refine ⟨_, qs, hP.told, ⟨_, _, _, rfl⟩, ⟨by rw [hl]; exact hql, _, _, by rw [hl], Or.inr ⟨ob, 0, rfl, hP.view⟩⟩, hq, hP.own, hP.low⟩

set_option maxRecDepth 4000 in
set_option maxHeartbeats 1000000 in
theorem Rules_any {w : World} {Bp tb : Nat} {W : Int} {L : List Raw} (hF : FTab w Bp tb W L) :
    Calls Tryz.prog 12 #[.pointer (some ⟨tb, 0, none⟩)] w fun e w' => RulesPost w L e w' := by
  obtain ⟨v, ps, ht, he⟩ := hF.ex
  have HC := hid (copies_any (w := w) (ht.list.rowV (fun q hq => ⟨(ht.ports q hq).txs, good_each ht.good rfl q hq⟩)) hF.good he)
  obtain ⟨lo, lc, hv, _⟩ := ht.list.form
  subst hv
  have t1 : w.cell? ⟨tb, 1, none⟩ = some (.slice lo ps.length lc) := by rw [cell_at ht.blk]; rfl
  have HMD := hid (made_yes ht.blk)
  clear ht hF he
  go_enter Tryz.func12, Tryz.ntmps12
  go_wp2_with fail
  refine HMD.out.mono ?_
  rintro en w1 ⟨rfl, hw1⟩
  subst hw1
  go_wp2_with fail
  refine HC.out.mono ?_
  rintro en w2 ⟨v2, qs, rfl, ⟨a2, n2, c2, rfl⟩, h2⟩
  have H2 := hid h2
  clear h2
  go_wp2
  go_ret
  exact ⟨_, qs, rfl, ⟨_, _, _, rfl⟩, H2.out⟩
set_option maxRecDepth 4000 in
set_option maxHeartbeats 1000000 in
theorem Width_any {w : World} {Bp tb : Nat} {W : Int} {L : List Raw} (hF : FTab w Bp tb W L) :
    Calls Tryz.prog 16 #[.pointer (some ⟨tb, 0, none⟩)] w fun e w' => e = .returned (.int .i64 W) ∧ w' = w := by
  obtain ⟨v, ps, ht, rfl⟩ := hF.ex
  have t1 : w.cell? ⟨tb, 0, none⟩ = some (.int .i64 W) := by rw [cell_at ht.blk]; rfl
  have HMD := hid (made_yes ht.blk)
  clear ht hF
  go_enter Tryz.func16, Tryz.ntmps16
  go_wp2_with fail
  refine HMD.out.mono ?_
  rintro en w1 ⟨rfl, hw1⟩
  subst hw1
  go_wp2
  go_ret
  exact ⟨rfl, rfl⟩
end Go.Proofs.YtipmlcdnfaobiaaGreat
namespace Go.Proofs.YtipmlcdnfaobiaaGreat
open Go.RowKit

theorem eqlR_none (w : World) (a : Addr) : (binOp .eql 24 (.pointer (some a)) (.pointer none)).run Tryz.prog w = .ok (.bool false) w := by
  have h : ∀ d : Nat, (Op.equalIn (d + 1) 24 (.pointer (some a)) (.pointer none)).run Tryz.prog w = .ok false w := fun d => by
    simp [Op.equalIn, run_underlying Tryz.underlying24, sizeOf, typeInfo]
  simp only [binOp]
  simp [Op.equal, Op.maxDepth, h 9999]
theorem eqlR_two (w : World) : (binOp .eql 24 (.pointer none) (.pointer none)).run Tryz.prog w = .ok (.bool true) w := by
  have h : ∀ d : Nat, (Op.equalIn (d + 1) 24 (.pointer none) (.pointer none)).run Tryz.prog w = .ok true w := fun d => by
    simp [Op.equalIn, run_underlying Tryz.underlying24, sizeOf, typeInfo]
  simp only [binOp]
  simp [Op.equal, Op.maxDepth, h 9999]
theorem madeN_good {W : Int} (h : 1 ≤ W ∧ W ≤ 128) (cs : List (Int × Raw)) : GoodT W (madeN W cs) := by
  have : ∀ (cs : List (Int × Raw)) (L : List Raw), GoodT W L → GoodT W (cs.foldl (stN W) L) := by
    intro cs
    induction cs with
    | nil => exact fun L h => h
    | cons c cs ih =>
      intro L h
      refine ih _ ?_
      unfold stN
      split
      · rename_i q; exact h.step q
      · exact h
  exact this cs [] (GoodT.nil h)
/-- The document's rules, as they lie. -/
theorem DTab.row {w : World} {Q rb : Nat} {W : Int} {L : List Raw} (h : DTab w Q rb W L) : ∃ lo lc, w.cell? ⟨rb, 1, none⟩ = some (.slice lo L.length lc) ∧ ∃ qs, qs.map Prod.fst = L ∧ RowV w (.slice lo L.length lc) L.length qs ∧ DocL w 0 Q (.slice lo L.length lc) qs := by
  obtain ⟨v, ps, hB, hd, e⟩ := h.ex
  obtain ⟨lo, lc, rfl, _⟩ := hd.own.form
  have hl : ps.length = L.length := by rw [← e, List.length_map]
  have hr := hd.rowV
  rw [hl] at hr hB hd
  exact ⟨lo, lc, by rw [cell_at hB]; rfl, ps, e, hr, hd⟩

/-- Rules of a table, and then the rules held against the document's. -/
theorem Both.two {w0 w : World} {tb rb : Nat} {W : Int} {L : List Raw} (h : Both w0 w tb rb W L) : ∃ lo nl lc, nl = L.length ∧ w.cell? ⟨rb, 1, none⟩ = some (.slice lo nl lc) ∧ ∀ X, Below w.heap.size w X → Calls Tryz.prog 12 #[.pointer (some ⟨tb, 0, none⟩)] X fun e w' => ∃ a n c, e = .returned (.slice a n c) ∧ Below X.heap.size X w' ∧ w'.cell? ⟨rb, 1, none⟩ = some (.slice lo nl lc) ∧ Calls Tryz.prog 11 #[.slice a n c, .slice lo nl lc] w' fun e w'' => e = .returned (.bool true) ∧ Below w'.heap.size w' w'' := by
  obtain ⟨lo, lc, hc, qs, e, hr, _⟩ := h.doc.row
  refine ⟨lo, L.length, lc, rfl, hc, fun X hX => (Rules_any (h.fib.on hX)).mono ?_⟩
  rintro en w' ⟨v, qs2, rfl, ⟨a, n, c, rfl⟩, h2, e2, _, hb⟩
  have hb2 := below_2 hX hb
  exact ⟨a, n, c, rfl, hb, (hb2.cell (block_old hc)).trans hc, same_rows h2 (hr.on hb2) h.fib.good e2 e⟩

set_option maxRecDepth 20000 in
set_option maxHeartbeats 4000000 in
theorem fchanges_bad {w : World} {ao bo : Option Addr} {n cap n2 cap2 : Nat} {W : Int} (h : ¬ (1 ≤ W ∧ W ≤ 128)) : Calls Tryz.prog 3 #[.int .i64 W, .slice ao n cap, .slice bo n2 cap2] w fun e w' => e = .returned (.bool true) ∧ Below w.heap.size w w' := by
  have HM := hid (made_bad (w := w) (ao := ao) (n := n) (cap := cap) h)
  have p2 := eqlR_two
  go_enter Tryz.func3, Tryz.ntmps3
  go_wp2_with fail
  refine HM.out.mono ?_
  rintro en w1 ⟨rfl, hb1⟩
  have B1 := hid hb1
  clear hb1
  go_wp2_with (go_at_call 10; refine (fawake _).mono ?_; rintro e wz ⟨rfl, hbz⟩; have BZ := hid (below_2 B1.out hbz); clear hbz)
  go_ret
  exact ⟨rfl, BZ.out⟩

set_option maxRecDepth 20000 in
set_option maxHeartbeats 4000000 in
theorem fchanges_good {w : World} {ao bo : Option Addr} {n cap n2 cap2 : Nat} {W : Int} {cs ds : List (Int × Raw × Value)} (h : 1 ≤ W ∧ W ≤ 128) (hc : ChIn w ao cs) (hn : cs.length = n) (hnc : n ≤ cap) (hs : ∀ u ∈ cs, Small u.2.1.mat u.2.1.ports) (h63 : n ≤ maxLen)
    (hd : ChIn w bo ds) (hdn : ds.length = n2) (hds : ∀ u ∈ ds, Small u.2.1.mat u.2.1.ports) (hd64 : n2 * 64 ≤ 140737488355328) : Calls Tryz.prog 3 #[.int .i64 W, .slice ao n cap, .slice bo n2 cap2] w fun e w' => e = .returned (.bool true) ∧ Below w.heap.size w w' := by
  have HM := hid (made_good h hc hn hnc hs h63)
  have HG := hid (madeN_good h ((chs cs).take 100))
  have HC := hid hd
  have HN := hid hdn
  have HS := hid hds
  have p2 := eqlR_none
  obtain ⟨L, hL⟩ : ∃ L, L = madeN W ((chs cs).take 100) := ⟨_, rfl⟩
  rw [← hL] at HM HG
  clear hc hn hs hd hdn hds hL
  go_enter Tryz.func3, Tryz.ntmps3
  go_wp2_with fail
  refine HM.out.mono ?_
  rintro en w1 ⟨tb, rb, rfl, h1⟩
  have B1 := hid h1.out
  clear h1
  go_wp2_with (first | (go_at_call 10; refine (fawake _).mono ?_; rintro e wz ⟨rfl, hbz⟩; have BZ := hid (B1.out.on hbz); clear hbz) | fail)
  obtain ⟨lo, nl, lc, -, hS0, hr1⟩ := BZ.out.two
  have HR1 := hid hr1
  clear hr1
  go_region_held2 (fun W' => W'.cell? ⟨rb, 1, none⟩ = some (.slice lo nl lc)) (first | exact hS0 | exact hS2 | exact hS3) (first | (go_at_call 12; refine (HR1.out _ ((Below.refl _ _).drew)).mono ?_; rintro en w2 ⟨a2, n2', c2, rfl, hb2, hS2, hsm⟩; have HSM := hid hsm; have HB2 := hid (below_2 ((Below.refl wz.heap.size wz).drew) hb2); clear hb2 hsm) | (go_at_call 11; refine HSM.out.mono ?_; rintro en w3 ⟨rfl, hb3⟩; have hS3 := (hb3.cell (block_old hS2)).trans hS2; have B3 := hid (BZ.out.on (below_2 HB2.out hb3)); clear hb3))
  clear hS0 hS2 hS3 HR1 HSM
  have HDO := hid (Do_any (cap := cap2) B3.out.fib (HC.out.on B3.out.low) HN.out hd64)
  go_wp2_with fail
  refine HDO.out.mono ?_
  rintro en w4 ⟨hg4, hd4⟩
  have HD4 := hid hd4
  have HL4 := hid (grown_low B3.out.low hg4 B3.out.ot)
  have HDT := hid (show DTab w4 w.heap.size rb W L from by
    obtain ⟨cc, hcc⟩ := B3.out.fib.blk
    exact B3.out.doc.grew hg4 hcc)
  clear hg4 hd4
  have HRD := hid (RDo_any (cap := cap2) HDT.out HL4.out.size HG.out (HC.out.on HL4.out) HN.out HS.out (by unfold maxLen; omega))
  have HKEEP := hid (show ∀ X, w4.grownBy X (some rb) → Below w.heap.size w X ∧ ∀ L, FTab w4 w.heap.size tb W L → FTab X w.heap.size tb W L from fun X hX => ⟨grown_low HL4.out hX B3.out.orr, fun L hL => by
    obtain ⟨cc, hcc⟩ := HDT.out.blk
    exact hL.grew hX hcc⟩)
  obtain ⟨x, y, L2, rfl, hres⟩ : ∃ (x y : Int) (L2 : List Raw), en = .returned (.tuple #[.int .i64 x, .int .i64 y]) ∧ FTab w4 w.heap.size tb W L2 ∧ ∀ e5 w5, RDoPost w4 w.heap.size rb W L (chs ds) e5 w5 → e5 = .returned (.tuple #[.int .i64 x, .int .i64 y]) ∧ Both w w5 tb rb W L2 := by
    rcases HD4.out with ⟨L', h1, h2, h3⟩ | ⟨i, er, h1, _, h2, h3⟩
    · refine ⟨0, 0, L', h2, h3, fun e5 w5 ⟨hg5, hd5⟩ => ?_⟩
      rcases hd5 with ⟨L5, k1, k2, k3⟩ | ⟨i5, er5, k1, _⟩
      · rw [h1] at k1; injection k1 with k1; subst k1
        exact ⟨k2, (HKEEP.out _ hg5).1, B3.out.ot, B3.out.orr, (HKEEP.out _ hg5).2 _ h3, k3⟩
      · rw [h1] at k1; cases k1
    · refine ⟨i, er, L, h2, h3, fun e5 w5 ⟨hg5, hd5⟩ => ?_⟩
      rcases hd5 with ⟨L5, k1, k2, k3⟩ | ⟨i5, er5, k1, _, k2, k3⟩
      · rw [h1] at k1; cases k1
      · rw [h1] at k1; injection k1 with k1; injection k1 with k1 k4; subst k1 k4
        exact ⟨k2, (HKEEP.out _ hg5).1, B3.out.ot, B3.out.orr, (HKEEP.out _ hg5).2 _ h3, k3⟩
  have HRES := hid hres
  clear hres HD4
  go_wp2_with fail
  refine HRD.out.mono ?_
  rintro en w5 hp5
  obtain ⟨rfl, hB5⟩ := HRES.out.2 _ _ hp5
  have B5 := hid hB5
  clear hp5 hB5
  obtain ⟨lo5, nl5, lc5, hnl, hT0, hr5⟩ := B5.out.two
  have HR5 := hid hr5
  have HLEN := hid (show ∀ X, Below w5.heap.size w5 X → Calls Tryz.prog 15 #[.pointer (some ⟨tb, 0, none⟩)] X fun e w' => e = .returned (.int .i64 (nl5 : Int)) ∧ w' = X from fun X hX => by rw [hnl]; exact Len_any (B5.out.fib.on hX))
  clear hr5 hnl
  have exx : (x == x) = true := by simp
  have eyy : (y == y) = true := by simp
  have eww : (W == W) = true := by simp
  have enn : ((nl5 : Int) == (nl5 : Int)) = true := by simp
  have HFL := hid (show ∀ X, Below w5.heap.size w5 X → X.cell? ⟨rb, 1, none⟩ = some (.slice lo5 nl5 lc5) from fun X hX => (hX.cell (block_old hT0)).trans hT0)
  clear HM HKEEP HRES HDO HRD HC HS HN HG HL4 HDT B1 BZ B3 HB2 p2 HFL hd64 h63 hnc h
  go_wp2_with fail
  go_region_held2 (fun W' => W'.cell? ⟨rb, 1, none⟩ = some (.slice lo5 nl5 lc5)) (first | exact hT0 | exact hT2 | exact hT3) (first | (go_at_call 12; refine (HR5.out _ ((Below.refl _ _).drew)).mono ?_; rintro en w6 ⟨a6, n6, c6, rfl, hb6, hT2, hsm⟩; have HSM := hid hsm; have HB6 := hid (below_2 ((Below.refl w5.heap.size w5).drew) hb6); clear hb6 hsm) | (go_at_call 11; refine HSM.out.mono ?_; rintro en w7 ⟨rfl, hb7⟩; have hT3 := (hb7.cell (block_old hT2)).trans hT2; have HB7 := hid (below_2 HB6.out hb7); clear hb7) | (go_at_call 15; refine (HLEN.out _ HB7.out).mono ?_; rintro en w8 ⟨rfl, hw8⟩; subst hw8) | (go_at_call 16; refine (Width_any (B5.out.fib.on HB7.out)).mono ?_; rintro en w9 ⟨rfl, hw9⟩; subst hw9))
  go_wp2
  go_ret
  exact ⟨rfl, (B5.out.on HB7.out).low⟩
end Go.Proofs.YtipmlcdnfaobiaaGreat
