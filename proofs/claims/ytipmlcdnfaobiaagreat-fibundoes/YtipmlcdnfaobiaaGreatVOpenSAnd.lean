/-
  Proved: for every width and every two rows of changes the law FibUndoes answers true (Undo tells what the document's tells, leaves the table, and its changes undo them), and leaves its arguments as they were. Conditions: none (the form's own reach bounds how long a text or a list that comes in is).
  Changes that came in, and how long their parts may be.
-/
import Derived.SizedLaws
import Derived.Test.YtipmlcdnfaobiaaGreatUCopyAnd
import Derived.Test.YtipmlcdnfaobiaaGreatUPrintAnd
import Derived.Test.YtipmlcdnfaobiaaGreatVDocFAnd
import Derived.Test.YtipmlcdnfaobiaaGreatRows
import Derived.Test.YtipmlcdnfaobiaaGreatVBackAnd
import Derived.WalkKit
import Derived.ProofKit
import Derived.OpenShut
import Derived.ShutString
namespace Go.Proofs.YtipmlcdnfaobiaaGreat
open Go.ChangeShapes Go.WideShapes Go.ChangeAt Go.RowKit
open Go.ChangeMaps (open_string shut_string)

theorem each_boundV {H : Type} {P : Program} {t : TypeId} {fs : Array Field} {l : List (TypeId × Nat)} {ds : List (DataW H)} (ht : P.underlying t = some (.struct fs)) (hl : fs.toList.map (fun f => (f.type, f.offset)) = l) (hw : ∀ k ∈ (DataW.agg ds : DataW H).weights P t, k ≤ reachBytes) :
    ∀ (i : Nat) (ty : TypeId) (off : Nat) (d : DataW H), l[i]? = some (ty, off) → ds[i]? = some d → ∀ k ∈ d.weights P ty, k ≤ reachBytes := by
  intro i ty off d hi hd k hk
  apply hw
  simp only [DataW.weights, ht]
  refine DataW.weights_mem_each (j := i) (t := ty) ?_ hd k hk
  rw [← hl, List.getElem?_map, Option.map_eq_some_iff] at hi
  obtain ⟨f, hf, e⟩ := hi
  rw [List.getElem?_map, hf]
  simp only [Prod.mk.injEq] at e
  simp [e.1]
theorem weights_allV {H : Type} {P : Program} {e : TypeId} : ∀ {ds : List (DataW H)} {d : DataW H}, d ∈ ds → ∀ k ∈ d.weights P e, k ∈ DataW.weightsAll P e ds
  | d0 :: ds, d, hd, k, hk => by
    simp only [DataW.weightsAll, List.mem_append]
    rcases List.mem_cons.1 hd with rfl | hd
    · exact Or.inl hk
    · exact Or.inr (weights_allV hd k hk)
theorem slice_boundV {H : Type} {P : Program} {t e : TypeId} {a b : List (DataW H)} (ht : P.underlying t = some (.slice e)) (hw : ∀ k ∈ (DataW.slice a b : DataW H).weights P t, k ≤ reachBytes) : (a.length + b.length) * P.bytesOf e ≤ reachBytes ∧ ∀ d ∈ a, ∀ k ∈ d.weights P e, k ≤ reachBytes := by
  refine ⟨hw _ (by simp [DataW.weights, ht]), fun d hd k hk => hw k ?_⟩
  simp only [DataW.weights, ht, List.mem_cons, List.mem_append]
  exact Or.inr (Or.inl (weights_allV hd k hk))

section
variable {H : Type} {enc : TypeId × Value → H} {w : World} {base : Nat} {spare : Nat → Bool} {held : Bool}

set_option maxRecDepth 100000 in
theorem open_rule_sV {fuel : Nat} {cs : List Value} {x : DataW H × List MemPlace} (h : DataW.trod enc Tryz.prog w base spare held fuel 44 cs = some x) (hw : ∀ k ∈ x.1.weights Tryz.prog 44, k ≤ reachBytes) :
    ∃ (p : Int) (m : ByteArray) (k : Int) (v : Value) (n : Nat) (y : DataW H × List MemPlace), cs = [.int .i64 p, .string m, .int .i64 k, v] ∧ m.size ≤ maxLen ∧ DataW.trod enc Tryz.prog w base spare held n 39 [v] = some y ∧ m.size ≤ reachBytes ∧ ∀ k ∈ y.1.weights Tryz.prog 39, k ≤ reachBytes := by
  obtain ⟨fs, hfs, hl⟩ := struct_of (P := Tryz.prog) (t := 44) (l := [(3, 0), (9, 1), (42, 2)]) (by kernel_rfl)
  obtain ⟨gs, hgs, hm⟩ := struct_of (P := Tryz.prog) (t := 42) (l := [(40, 0), (39, 1)]) (by kernel_rfl)
  obtain ⟨xs, n, _, hxe, hlen, hxl, hf⟩ := DataW.trod_struct hfs h
  have W1 := each_boundV hfs hl (by rw [hxe] at hw; exact hw)
  have hc : Tryz.prog.cellsOf 44 = 4 := by kernel_rfl
  rw [hc] at hlen
  have hsz : fs.size = 3 := by have := congrArg List.length hl; simpa using this
  match cs, hlen with
  | [c0, c1, c2, c3], _ =>
    obtain ⟨f0, e0, t0, o0⟩ := field_of hl (i := 0) rfl
    obtain ⟨f1, e1, t1, o1⟩ := field_of hl (i := 1) rfl
    obtain ⟨f2, e2, t2, o2⟩ := field_of hl (i := 2) rfl
    have g0 := hf 0 f0 e0
    have g1 := hf 1 f1 e1
    have g2 := hf 2 f2 e2
    rw [t0, o0, show Tryz.prog.cellsOf 3 = 1 by kernel_rfl, List.getElem?_eq_getElem (show 0 < xs.length by omega)] at g0
    rw [t1, o1, show Tryz.prog.cellsOf 9 = 1 by kernel_rfl, List.getElem?_eq_getElem (show 1 < xs.length by omega)] at g1
    rw [t2, o2, show Tryz.prog.cellsOf 42 = 2 by kernel_rfl, List.getElem?_eq_getElem (show 2 < xs.length by omega)] at g2
    obtain ⟨p, hp, _, _⟩ := DataW.trod_int Tryz.underlying3 g0
    obtain ⟨m, hm1, hx1, hms⟩ := DataW.trod_string Tryz.underlying9 g1
    obtain ⟨ys, n2, _, hye, _, hyl, hg⟩ := DataW.trod_struct hgs g2
    have W2 := each_boundV hgs hm (by have := W1 2 42 2 xs[2].1 rfl (by rw [List.getElem?_map, List.getElem?_eq_getElem (show 2 < xs.length by omega)]; rfl); rw [hye] at this; exact this)
    have hsz2 : gs.size = 2 := by have := congrArg List.length hm; simpa using this
    obtain ⟨k0, d0, u0, q0⟩ := field_of hm (i := 0) rfl
    obtain ⟨k1, d1, u1, q1⟩ := field_of hm (i := 1) rfl
    have r0 := hg 0 k0 d0
    have r1 := hg 1 k1 d1
    rw [u0, q0, show Tryz.prog.cellsOf 40 = 1 by kernel_rfl, List.getElem?_eq_getElem (show 0 < ys.length by omega)] at r0
    rw [u1, q1, show Tryz.prog.cellsOf 39 = 1 by kernel_rfl, List.getElem?_eq_getElem (show 1 < ys.length by omega)] at r1
    obtain ⟨k, hk, _, _⟩ := DataW.trod_int (k := .i64) (by kernel_rfl) r0
    simp at hp hm1 hk
    subst hp hm1 hk
    refine ⟨p, m, k, c3, n2, _, rfl, hms, by simpa using r1, ?_, ?_⟩
    · have := W1 1 9 1 xs[1].1 rfl (by rw [List.getElem?_map, List.getElem?_eq_getElem (show 1 < xs.length by omega)]; rfl)
      rw [hx1] at this
      have q := this m.data.toList.length (by simp [DataW.weights])
      rw [list_size] at q; exact q
    · exact W2 1 39 1 ys[1].1 rfl (by rw [List.getElem?_map, List.getElem?_eq_getElem (show 1 < ys.length by omega)]; rfl)

/-- Texts that came in. -/
theorem open_texts_sV {fuel : Nat} {v : Value} {x : DataW H × List MemPlace} (h : DataW.trod enc Tryz.prog w base (fun _ => true) held fuel 39 [v] = some x) (hw : ∀ k ∈ x.1.weights Tryz.prog 39, k ≤ reachBytes) : ∃ ps : List (List UInt8), Txs w v ps ∧ (∀ p ∈ ps, p.length ≤ maxLen) ∧ ps.length * 16 ≤ reachBytes ∧ ∀ p ∈ ps, p.length ≤ reachBytes := by
  rcases open_strings Tryz.underlying39 Tryz.underlying9 (by kernel_rfl) h with ⟨hcs, _⟩ | ⟨a, len, cap, ss, hcs, _, hl, hm, hz, hxe, hcell, hws⟩
  · simp only [List.cons.injEq, and_true] at hcs
    exact ⟨[], by rw [hcs]; exact Txs.nil _ _ _, fun p hp => absurd hp (by simp), by simp, fun p hp => absurd hp (by simp)⟩
  · simp only [List.cons.injEq, and_true] at hcs
    simp only [if_true] at hz
    rw [hxe] at hw
    obtain ⟨w1, w2⟩ := slice_boundV Tryz.underlying39 hw
    rw [show Tryz.prog.bytesOf 9 = 16 by kernel_rfl] at w1
    refine ⟨(ss.take len).map (fun s => s.data.toList), ?_, fun p hp => ?_, ?_, fun p hp => ?_⟩
    · have hlen : ((ss.take len).map (fun s => s.data.toList)).length = len := by rw [List.length_map, List.length_take]; omega
      refine ⟨some a, cap, by rw [hlen, hcs], ?_⟩
      by_cases h0 : len = 0
      · exact Or.inl (by rw [h0]; simp)
      · obtain ⟨⟨g, o, rfl⟩, hb⟩ := addr_of5 (hcell 0 (by omega))
        refine Or.inr ⟨g, o, rfl, hb, fun i hi => ?_⟩
        rw [hlen] at hi
        have := hcell i (by omega)
        rw [addr_add5] at this
        rw [this]
        have hi2 : i < ss.length := by omega
        simp [List.getD_eq_getElem?_getD, List.getElem?_map, hi, List.getElem?_eq_getElem hi2]
    · obtain ⟨s, hs, rfl⟩ := List.mem_map.1 hp
      have := hws s (List.mem_of_mem_take hs)
      rw [list_size]; exact this
    · refine Nat.le_trans (Nat.mul_le_mul_right 16 ?_) w1
      simp [strs]
    · obtain ⟨s, hs, rfl⟩ := List.mem_map.1 hp
      exact w2 (.lit (.string s.data.toList)) (List.mem_map.2 ⟨s, hs, rfl⟩) _ (by simp [DataW.weights])


set_option maxRecDepth 100000 in
theorem open_change {fuel : Nat} {cs : List Value} {x : DataW H × List MemPlace} (h : DataW.trod enc Tryz.prog w base spare held fuel 57 cs = some x) (hw : ∀ k ∈ x.1.weights Tryz.prog 57, k ≤ reachBytes) :
    ∃ (kd : Int) (rs : List Value) (n : Nat) (y : DataW H × List MemPlace), cs = .int .i64 kd :: rs ∧ DataW.trod enc Tryz.prog w base spare held n 44 rs = some y ∧ ∀ k ∈ y.1.weights Tryz.prog 44, k ≤ reachBytes := by
  obtain ⟨fs, hfs, hl⟩ := struct_of (P := Tryz.prog) (t := 57) (l := [(55, 0), (44, 1)]) (by kernel_rfl)
  obtain ⟨xs, n, _, hxe, hlen, hxl, hf⟩ := DataW.trod_struct hfs h
  have W1 := each_boundV hfs hl (by rw [hxe] at hw; exact hw)
  have hc : Tryz.prog.cellsOf 57 = 5 := by kernel_rfl
  rw [hc] at hlen
  have hsz : fs.size = 2 := by have := congrArg List.length hl; simpa using this
  match cs, hlen with
  | [c0, c1, c2, c3, c4], _ =>
    obtain ⟨f0, e0, t0, o0⟩ := field_of hl (i := 0) rfl
    obtain ⟨f1, e1, t1, o1⟩ := field_of hl (i := 1) rfl
    have g0 := hf 0 f0 e0
    have g1 := hf 1 f1 e1
    rw [t0, o0, show Tryz.prog.cellsOf 55 = 1 by kernel_rfl, List.getElem?_eq_getElem (show 0 < xs.length by omega)] at g0
    rw [t1, o1, show Tryz.prog.cellsOf 44 = 4 by kernel_rfl, List.getElem?_eq_getElem (show 1 < xs.length by omega)] at g1
    obtain ⟨kd, hk, _, _⟩ := DataW.trod_int (k := .i64) (by kernel_rfl) g0
    simp at hk
    subst hk
    exact ⟨kd, [c1, c2, c3, c4], n, _, rfl, by simpa using g1, W1 1 44 1 xs[1].1 rfl (by rw [List.getElem?_map, List.getElem?_eq_getElem (show 1 < xs.length by omega)]; rfl)⟩

/-- Changes that came in. -/
theorem open_changes {fuel : Nat} {ao : Option Addr} {len cap : Nat} {x : DataW H × List MemPlace} (h : DataW.trod enc Tryz.prog w base (fun _ => true) held fuel 22 [.slice ao len cap] = some x) (hw : ∀ k ∈ x.1.weights Tryz.prog 22, k ≤ reachBytes) : ∃ cs : List (Int × Raw × Value), ChIn w ao cs ∧ cs.length = len ∧ len ≤ cap ∧ (∀ u ∈ cs, Small u.2.1.mat u.2.1.ports) ∧ len * 64 ≤ 140737488355328 := by
  rcases Go.Deep.open_slice (e := 57) Tryz.underlying22 h with ⟨hcs, _⟩ | ⟨a, len', cap', m, n, D, Pl, hcs, _, hl, hm, hmm, hxe, hx⟩
  · simp at hcs
    exact ⟨[], Or.inl rfl, by rw [hcs.2.1]; rfl, by omega, fun q hq => absurd hq (by simp), by omega⟩
  · simp at hcs
    obtain ⟨rfl, rfl, rfl⟩ := hcs
    simp only [if_true] at hmm
    have hc : Tryz.prog.cellsOf 57 = 5 := by kernel_rfl
    by_cases h0 : len = 0
    · exact ⟨[], Or.inl rfl, by rw [h0]; rfl, hl, fun q hq => absurd hq (by simp), by omega⟩
    rw [hxe] at hw
    obtain ⟨w1, w2⟩ := slice_boundV Tryz.underlying22 hw
    rw [show Tryz.prog.bytesOf 57 = 64 by kernel_rfl] at w1
    have each : ∀ i, i < len → ∃ q : Int × Raw × Value, w.cell? (a.add (i * 5)) = some (.int .i64 q.1) ∧ w.cell? ((a.add (i * 5)).add 1) = some (.int .i64 q.2.1.prio) ∧ w.cell? ((a.add (i * 5)).add 2) = some (.string (tx q.2.1.mat)) ∧ w.cell? ((a.add (i * 5)).add 3) = some (.int .i64 q.2.1.kind) ∧ w.cell? ((a.add (i * 5)).add 4) = some q.2.2 ∧ Txs w q.2.2 q.2.1.ports ∧ (∀ p ∈ q.2.1.ports, p.length ≤ maxLen) ∧ Small q.2.1.mat q.2.1.ports := by
      intro i hi
      obtain ⟨cs', h1, h2⟩ := hx i (by omega)
      rw [hc] at h1
      obtain ⟨_, _, hcell⟩ := World.cells?_some h1
      obtain ⟨kd, rs, n0, y0, rfl, hr, hb0⟩ := open_change h2 (w2 (D i) (List.mem_map.2 ⟨i, List.mem_range.2 hi, rfl⟩))
      obtain ⟨p, m', k, v, n', y, rfl, hms, hv, hb1, hb2⟩ := open_rule_sV hr hb0
      obtain ⟨zs, hz1, hz2, hz3, hz4⟩ := open_texts_sV hv hb2
      have c0 := hcell 0 (by omega)
      have c1 := hcell 1 (by omega)
      have c2 := hcell 2 (by omega)
      have c3 := hcell 3 (by omega)
      have c4 := hcell 4 (by omega)
      have e0 : (a.add (i * 5)).add 0 = a.add (i * 5) := by unfold Addr.add; simp
      rw [e0] at c0
      exact ⟨(kd, ⟨p, m'.data.toList, k, zs⟩, v), c0, c1, c2, c3, c4, hz1, hz2, by rw [list_size]; exact Nat.le_trans hb1 (by decide), Nat.le_trans hz3 (by decide), fun z hz => Nat.le_trans (hz4 z hz) (by decide)⟩
    have : Inhabited (Int × Raw × Value) := ⟨(0, ⟨0, [], 0, []⟩, .bool false)⟩
    obtain ⟨q, hq⟩ := Go.Deep.choose_lt each
    obtain ⟨⟨g, o, rfl⟩, hb⟩ := addr_of5 (v := .int .i64 (q 0).1) (by have := (hq 0 (by omega)).1; rw [Nat.zero_mul] at this; exact this)
    refine ⟨(List.range len).map q, Or.inr ⟨g, o, rfl, hb, fun i r hr => ?_, fun r hr => ?_⟩, by simp, hl, fun r hr => ?_, ?_⟩
    · rw [List.getElem?_map, Option.map_eq_some_iff] at hr
      obtain ⟨i', hi', rfl⟩ := hr
      obtain ⟨hi, rfl⟩ := List.getElem?_eq_some_iff.1 hi'
      simp only [List.length_range] at hi
      simp only [List.getElem_range]
      obtain ⟨c0, c1, c2, c3, c4, _, _⟩ := hq i hi
      rw [addr_add5] at c0 c1 c2 c3 c4
      rw [addr_add5] at c1 c2 c3 c4
      exact ⟨c0, c1, c2, c3, c4⟩
    · obtain ⟨i, hi, rfl⟩ := List.mem_map.1 hr
      have := hq i (List.mem_range.1 hi)
      exact ⟨this.2.2.2.2.2.1, this.2.2.2.2.2.2.1⟩
    · obtain ⟨i, hi, rfl⟩ := List.mem_map.1 hr
      exact (hq i (List.mem_range.1 hi)).2.2.2.2.2.2.2
    · have e : ((List.range len).map D).length = len := by simp
      have : len * 64 ≤ reachBytes := Nat.le_trans (Nat.mul_le_mul_right 64 (by rw [e]; omega)) w1
      exact Nat.le_trans this (by decide)
end
end Go.Proofs.YtipmlcdnfaobiaaGreat
namespace Go.Proofs.YtipmlcdnfaobiaaGreat
open Go.ChangeShapes Go.WideShapes Go.ChangeAt Go.RowKit

theorem VCUnd.own : ownKnob Tryz.prog.godebug = none := by kernel_rfl
theorem VCUnd.laidOut : laidOutB Tryz.prog = true := by kernel_rfl
theorem VCUnd.args {v0 v1 v2 : Value} {args : Array Value} {l0 l1 : List Value} (h0 : args.toList = v0 :: l0) (h1 : l0 = v1 :: l1) (h2 : l1 = v2 :: []) : args = #[v0, v1, v2] := by
  subst h1 h2
  obtain ⟨a⟩ := args
  simp only at h0
  rw [h0]

set_option maxRecDepth 100000 in
theorem VCUnd.lifted (os : Os) (started : os.Started) (H : Type) (enc : TypeId × Value → H) :
    ReturnsInHanded {} Tryz.checked os 6 .any (Rows.fibUndoesSpec.pre6 enc Tryz.prog Tryz.f6 Rows.fibUndoesRow.domain false) (Rows.fibUndoesSpec.post enc Tryz.prog Tryz.f6 false true false false) := by
  refine returnsInHanded_of_change_sized (C := Tryz.checked) VCUnd.own started (by kernel_rfl) Tryz.func6
    (ChangeSpec.witness6 (enc := enc) (C := Tryz.checked) false ⟨#[], #[.int .i64 0, .slice none 0 0, .slice none 0 0], []⟩ 8 (by kernel_rfl) (by kernel_rfl) (by kernel_rfl) (by kernel_rfl)) ?_
  intro W base args ds gs before hval0 hW hcnd hsz _
  have hval : ∀ (j : Nat) t v, Tryz.f6.params[j]? = some t → args[j]? = some v → Value.okWide Tryz.prog W .any base t v := hval0
  have hW' := hW
  obtain ⟨p, q, hA0, hV, rfl, hfz, hnd⟩ := hW
  have hA : DataW.TrodAll enc Tryz.prog W 0 (fun _ => true) true Tryz.f6.params.toList args.toList ds p := hA0
  rw [Tryz.params6] at hA hval
  obtain ⟨v0, vs0, d0, ds0, p0, q0, hargs0, rfl, rfl, h0, r0⟩ := trodAll_cons hA
  obtain ⟨v1, vs1, d1, ds1, p1, q1, hargs1, rfl, rfl, h1, r1⟩ := trodAll_cons r0
  obtain ⟨v2, vs2, d2, ds2, p2, q2, hargs2, rfl, rfl, h2, r2⟩ := trodAll_cons r1
  obtain ⟨rfl, rfl, rfl⟩ := trodAll_nil r2
  obtain rfl := VCUnd.args hargs0 hargs1 hargs2
  obtain ⟨rfl, rfl⟩ := trodVars_none hV
  obtain ⟨a0, rfl, rfl, rfl, w0⟩ := open_int Tryz.underlying3 (hval 0 3 v0 rfl rfl) h0
  obtain ⟨a1, len1, cap1, rfl⟩ := okWide_slice Tryz.underlying22 (hval 1 22 v1 rfl rfl)
  have k1 := h1
  have lt1 : ∀ x ∈ p1, x.block < W.heap.size := by obtain ⟨m, hm⟩ := k1; exact DataW.trod_lt m _ _ _ hm
  have hwt1 : ∀ k ∈ d1.weights Tryz.prog 22, k ≤ reachBytes := fun k hk => of_decide_eq_true (List.all_eq_true.1 hsz k (DataW.weights_mem_each (j := 1) (t := 22) (d := d1) (by rw [Tryz.params6]; rfl) rfl k hk))
  obtain ⟨cs1, hc1, hcl1, hcc1, hcs1, hc641⟩ : ∃ cs : List (Int × Raw × Value), ChIn W a1 cs ∧ cs.length = len1 ∧ len1 ≤ cap1 ∧ (∀ u ∈ cs, Small u.2.1.mat u.2.1.ports) ∧ len1 * 64 ≤ 140737488355328 := by
    obtain ⟨fuel, hf⟩ := h1
    exact open_changes hf hwt1
  obtain ⟨a2, len2, cap2, rfl⟩ := okWide_slice Tryz.underlying22 (hval 2 22 v2 rfl rfl)
  have k2 := h2
  have lt2 : ∀ x ∈ p2, x.block < W.heap.size := by obtain ⟨m, hm⟩ := k2; exact DataW.trod_lt m _ _ _ hm
  have hwt2 : ∀ k ∈ d2.weights Tryz.prog 22, k ≤ reachBytes := fun k hk => of_decide_eq_true (List.all_eq_true.1 hsz k (DataW.weights_mem_each (j := 2) (t := 22) (d := d2) (by rw [Tryz.params6]; rfl) rfl k hk))
  obtain ⟨cs2, hc2, hcl2, hcc2, hcs2, hc642⟩ : ∃ cs : List (Int × Raw × Value), ChIn W a2 cs ∧ cs.length = len2 ∧ len2 ≤ cap2 ∧ (∀ u ∈ cs, Small u.2.1.mat u.2.1.ports) ∧ len2 * 64 ≤ 140737488355328 := by
    obtain ⟨fuel, hf⟩ := h2
    exact open_changes hf hwt2
  simp only [List.append_nil] at hW'
  clear hA0 hval0
  refine (fundoes_any hc1 hcl1 hcc1 hcs1 hc641 hc2 hcl2 hcs2 hc642).mono fun e W' ⟨he, bel⟩ => ?_
  subst he
  exact ⟨_, rfl, _, _, _, [], _, [], hW', trodAll_mk1 (shut_bool Tryz.underlying4 _), (trodAll_cons_mk (shut_int Tryz.underlying3 w0) (trodAll_cons_mk (Below.trod VCUnd.laidOut (by kernel_rfl) (of_decide_eq_true (by kernel_rfl)) k1 bel lt1) (trodAll_cons_mk (Below.trod VCUnd.laidOut (by kernel_rfl) (of_decide_eq_true (by kernel_rfl)) k2 bel lt2) trodAll_mk0))), rfl, bel.frame _, fun h => by cases h⟩

theorem FibUndoes_holds : Rows.FibUndoesSaid :=
  OpenClaim.holds_of_wide 6 Tryz.f6 rfl rfl rfl rfl rfl rfl rfl ⟨rfl, rfl, rfl, rfl, rfl⟩ rfl rfl rfl rfl rfl (by kernel_rfl) Tryz.func6 (by kernel_rfl)
    (of_decide_eq_true (by kernel_rfl)) (by unfold Func.isWrapper; first | (rw [if_pos (by decide +kernel)]; kernel_rfl) | (rw [if_neg (by decide +kernel)]; exact ⟨rfl, rfl⟩))
    (fun os started H enc _ => VCUnd.lifted os started H enc)
#print axioms FibUndoes_holds
end Go.Proofs.YtipmlcdnfaobiaaGreat
