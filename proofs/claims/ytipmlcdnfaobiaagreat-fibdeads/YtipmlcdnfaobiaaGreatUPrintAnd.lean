/-
  The closure of Order: two rules of a row, compared by their numbers.
  Which rule stands ahead: the program's Ahead and the document's.
  Which rule stands ahead: compare, Ahead.
  Which rule stands ahead: compare, Ahead.
  Rules that came in as an argument, opened: a slice of structs with a struct and a slice of texts inside.
  The law RulesBack: what is printed is parsed as the same rules.
  The document's SameRules, of rules that came in and rules that were parsed; the text and the Print of no rule.
  Print, of any rules that came in.
-/
import Derived.Test.YtipmlcdnfaobiaaGreatUChkAAnd
import Derived.WalkKit
import Derived.ProofKit
import Derived.OpenShut
import Derived.ShutString
import Derived.Deep.Slices
import Derived.ChangeArms
import Derived.SliceStrings
namespace Go.Proofs.YtipmlcdnfaobiaaGreat
open Go.RowKit
open Wo (Wd)

/-- A rule as it came in. -/
structure Raw where
  prio : Int
  mat : List UInt8
  kind : Int
  ports : List (List UInt8)
def Raw.ok (width : Int) (r : Raw) : Prop := okRule width r.prio r.mat r.kind r.ports
/-- Rules that came in, for reading. -/
structure RawView (w : World) (g o : Nat) (ps : List (Raw × Value)) : Prop where
  old : g < w.heap.size
  cell : ∀ (i : Nat) (q : Raw × Value), ps[i]? = some q → w.cell? ⟨g, o + i * 4, none⟩ = some (.int .i64 q.1.prio) ∧ w.cell? ⟨g, o + i * 4 + 1, none⟩ = some (.string (tx q.1.mat)) ∧ w.cell? ⟨g, o + i * 4 + 2, none⟩ = some (.int .i64 q.1.kind) ∧ w.cell? ⟨g, o + i * 4 + 3, none⟩ = some q.2
  ports : ∀ q ∈ ps, Txs w q.2 q.1.ports ∧ ∀ p ∈ q.1.ports, p.length ≤ maxLen
end Go.Proofs.YtipmlcdnfaobiaaGreat
namespace Go.Proofs.YtipmlcdnfaobiaaGreat
open Go.RowKit
open Wo (Wd)

end Go.Proofs.YtipmlcdnfaobiaaGreat
namespace Go.Proofs.YtipmlcdnfaobiaaGreat
open Go.RowKit
open Wo (Wd)

/-- Rules that came in. -/
structure RawIn (w : World) (ao : Option Addr) (ps : List (Raw × Value)) : Prop where
  at_ : ps = [] ∨ ∃ g o, ao = some ⟨g, o, none⟩ ∧ RawView w g o ps
theorem RawIn.take {w : World} {ao : Option Addr} {ps : List (Raw × Value)} (h : RawIn w ao ps) (k : Nat) : RawIn w ao (ps.take k) := by
  rcases h.at_ with rfl | ⟨g, o, e, hv⟩
  · exact ⟨Or.inl (by simp)⟩
  · refine ⟨Or.inr ⟨g, o, e, hv.old, fun i q hq => hv.cell i q ?_, fun q hq => hv.ports q (List.mem_of_mem_take hq)⟩⟩
    rw [List.getElem?_take] at hq
    split at hq
    · exact hq
    · cases hq
end Go.Proofs.YtipmlcdnfaobiaaGreat
namespace Go.Proofs.YtipmlcdnfaobiaaGreat
open Go.ChangeShapes Go.WideShapes Go.ChangeAt Go.RowKit
open Wo (Wd)

theorem struct_of {P : Program} {t : TypeId} {l : List (TypeId × Nat)} (h : (match P.underlying t with | some (.struct fs) => decide (fs.toList.map (fun f => (f.type, f.offset)) = l) | _ => false) = true) : ∃ fs, P.underlying t = some (.struct fs) ∧ fs.toList.map (fun f => (f.type, f.offset)) = l := by
  split at h
  · rename_i fs e
    exact ⟨fs, e, of_decide_eq_true h⟩
  · cases h
theorem field_of {fs : Array Field} {l : List (TypeId × Nat)} (h : fs.toList.map (fun f => (f.type, f.offset)) = l) {i : Nat} {ty : TypeId} {off : Nat} (hi : l[i]? = some (ty, off)) : ∃ f, fs[i]? = some f ∧ f.type = ty ∧ f.offset = off := by
  rw [← h, List.getElem?_map, Option.map_eq_some_iff] at hi
  obtain ⟨f, hf, e⟩ := hi
  simp only [Prod.mk.injEq] at e
  exact ⟨f, by simpa using hf, e.1, e.2⟩

section
variable {H : Type} {enc : TypeId × Value → H} {w : World} {base : Nat} {spare : Nat → Bool} {held : Bool}

set_option maxRecDepth 100000 in
theorem open_rule {fuel : Nat} {cs : List Value} {x : DataW H × List MemPlace} (h : DataW.trod enc Tryz.prog w base spare held fuel 44 cs = some x) :
    ∃ (p : Int) (m : ByteArray) (k : Int) (v : Value) (n : Nat) (y : DataW H × List MemPlace), cs = [.int .i64 p, .string m, .int .i64 k, v] ∧ m.size ≤ maxLen ∧ DataW.trod enc Tryz.prog w base spare held n 39 [v] = some y := by
  obtain ⟨fs, hfs, hl⟩ := struct_of (P := Tryz.prog) (t := 44) (l := [(3, 0), (9, 1), (42, 2)]) (by kernel_rfl)
  obtain ⟨gs, hgs, hm⟩ := struct_of (P := Tryz.prog) (t := 42) (l := [(40, 0), (39, 1)]) (by kernel_rfl)
  obtain ⟨xs, n, _, _, hlen, hxl, hf⟩ := DataW.trod_struct hfs h
  have hc : Tryz.prog.cellsOf 44 = 4 := by kernel_rfl
  rw [hc] at hlen
  have hsz : fs.size = 3 := by have := congrArg List.length hl; simpa using this
  match cs, hlen with
  | [c0, c1, c2, c3], _ =>
    obtain ⟨f0, e0, t0, o0⟩ := field_of hl (i := 0) rfl
    obtain ⟨f1, e1, t1, o1⟩ := field_of hl (i := 1) rfl
    obtain ⟨f2, e2, t2, o2⟩ := field_of hl (i := 2) rfl
    have g0 := hf 0 f0 e0
    have g1 := hf 1 f1 e1
    have g2 := hf 2 f2 e2
    rw [t0, o0, show Tryz.prog.cellsOf 3 = 1 by kernel_rfl, List.getElem?_eq_getElem (show 0 < xs.length by omega)] at g0
    rw [t1, o1, show Tryz.prog.cellsOf 9 = 1 by kernel_rfl, List.getElem?_eq_getElem (show 1 < xs.length by omega)] at g1
    rw [t2, o2, show Tryz.prog.cellsOf 42 = 2 by kernel_rfl, List.getElem?_eq_getElem (show 2 < xs.length by omega)] at g2
    obtain ⟨p, hp, _, _⟩ := DataW.trod_int Tryz.underlying3 g0
    obtain ⟨m, hm1, _, hms⟩ := DataW.trod_string Tryz.underlying9 g1
    obtain ⟨ys, n2, _, _, _, hyl, hg⟩ := DataW.trod_struct hgs g2
    have hsz2 : gs.size = 2 := by have := congrArg List.length hm; simpa using this
    obtain ⟨k0, d0, u0, q0⟩ := field_of hm (i := 0) rfl
    obtain ⟨k1, d1, u1, q1⟩ := field_of hm (i := 1) rfl
    have r0 := hg 0 k0 d0
    have r1 := hg 1 k1 d1
    rw [u0, q0, show Tryz.prog.cellsOf 40 = 1 by kernel_rfl, List.getElem?_eq_getElem (show 0 < ys.length by omega)] at r0
    rw [u1, q1, show Tryz.prog.cellsOf 39 = 1 by kernel_rfl, List.getElem?_eq_getElem (show 1 < ys.length by omega)] at r1
    obtain ⟨k, hk, _, _⟩ := DataW.trod_int (k := .i64) (by kernel_rfl) r0
    simp at hp hm1 hk
    subst hp hm1 hk
    exact ⟨p, m, k, c3, n2, _, rfl, hms, by simpa using r1⟩

theorem addr_add5 (g o i : Nat) : (⟨g, o, none⟩ : Addr).add i = ⟨g, o + i, none⟩ := by
  unfold Addr.add; split <;> simp_all
theorem addr_of5 {w : World} {a : Addr} {v : Value} (h : w.cell? (a.add 0) = some v) : (∃ g o, a = ⟨g, o, none⟩) ∧ a.block < w.heap.size := by
  have e : a.add 0 = a := by unfold Addr.add; simp
  rw [e] at h
  obtain ⟨g, o, sp⟩ := a
  have hlt : g < w.heap.size := World.block_lt_of_cell? w _ h
  refine ⟨?_, hlt⟩
  cases sp with
  | none => exact ⟨g, o, rfl⟩
  | some s =>
    exfalso
    unfold World.cell? at h
    simp only [Option.isSome_some, if_true] at h
    split at h <;> cases h

/-- Texts that came in. -/
theorem open_texts {fuel : Nat} {v : Value} {x : DataW H × List MemPlace} (h : DataW.trod enc Tryz.prog w base (fun _ => true) held fuel 39 [v] = some x) : ∃ ps : List (List UInt8), Txs w v ps ∧ ∀ p ∈ ps, p.length ≤ maxLen := by
  rcases open_strings Tryz.underlying39 Tryz.underlying9 (by kernel_rfl) h with ⟨hcs, _⟩ | ⟨a, len, cap, ss, hcs, _, hl, hm, hz, _, hcell, hws⟩
  · simp only [List.cons.injEq, and_true] at hcs
    exact ⟨[], by rw [hcs]; exact Txs.nil _ _ _, fun p hp => absurd hp (by simp)⟩
  · simp only [List.cons.injEq, and_true] at hcs
    simp only [if_true] at hz
    refine ⟨(ss.take len).map (fun s => s.data.toList), ?_, fun p hp => ?_⟩
    · have hlen : ((ss.take len).map (fun s => s.data.toList)).length = len := by rw [List.length_map, List.length_take]; omega
      refine ⟨some a, cap, by rw [hlen, hcs], ?_⟩
      by_cases h0 : len = 0
      · exact Or.inl (by rw [h0]; simp)
      · obtain ⟨⟨g, o, rfl⟩, hb⟩ := addr_of5 (hcell 0 (by omega))
        refine Or.inr ⟨g, o, rfl, hb, fun i hi => ?_⟩
        rw [hlen] at hi
        have := hcell i (by omega)
        rw [addr_add5] at this
        rw [this]
        have hi2 : i < ss.length := by omega
        simp [List.getD_eq_getElem?_getD, List.getElem?_map, hi, List.getElem?_eq_getElem hi2]
    · obtain ⟨s, hs, rfl⟩ := List.mem_map.1 hp
      have := hws s (List.mem_of_mem_take hs)
      rw [list_size]; exact this

/-- Rules that came in. -/
theorem open_rules {fuel : Nat} {ao : Option Addr} {len cap : Nat} {x : DataW H × List MemPlace} (h : DataW.trod enc Tryz.prog w base (fun _ => true) held fuel 29 [.slice ao len cap] = some x) : ∃ ps : List (Raw × Value), RawIn w ao ps ∧ ps.length = len ∧ len ≤ cap := by
  rcases Go.Deep.open_slice (e := 44) Tryz.underlying29 h with ⟨hcs, _⟩ | ⟨a, len', cap', m, n, D, Pl, hcs, _, hl, hm, hmm, _, hx⟩
  · simp at hcs
    exact ⟨[], ⟨Or.inl rfl⟩, by rw [hcs.2.1]; rfl, by omega⟩
  · simp at hcs
    obtain ⟨rfl, rfl, rfl⟩ := hcs
    simp only [if_true] at hmm
    have hc : Tryz.prog.cellsOf 44 = 4 := by kernel_rfl
    by_cases h0 : len = 0
    · exact ⟨[], ⟨Or.inl rfl⟩, by rw [h0]; rfl, hl⟩
    have each : ∀ i, i < len → ∃ q : Raw × Value, w.cell? (a.add (i * 4)) = some (.int .i64 q.1.prio) ∧ w.cell? ((a.add (i * 4)).add 1) = some (.string (tx q.1.mat)) ∧ w.cell? ((a.add (i * 4)).add 2) = some (.int .i64 q.1.kind) ∧ w.cell? ((a.add (i * 4)).add 3) = some q.2 ∧ Txs w q.2 q.1.ports ∧ ∀ p ∈ q.1.ports, p.length ≤ maxLen := by
      intro i hi
      obtain ⟨cs', h1, h2⟩ := hx i (by omega)
      rw [hc] at h1
      obtain ⟨_, _, hcell⟩ := World.cells?_some h1
      obtain ⟨p, m', k, v, n', y, rfl, hms, hv⟩ := open_rule h2
      obtain ⟨zs, hz1, hz2⟩ := open_texts hv
      have c0 := hcell 0 (by omega)
      have c1 := hcell 1 (by omega)
      have c2 := hcell 2 (by omega)
      have c3 := hcell 3 (by omega)
      have e0 : (a.add (i * 4)).add 0 = a.add (i * 4) := by unfold Addr.add; simp
      rw [e0] at c0
      exact ⟨(⟨p, m'.data.toList, k, zs⟩, v), c0, c1, c2, c3, hz1, hz2⟩
    have : Inhabited (Raw × Value) := ⟨(⟨0, [], 0, []⟩, .bool false)⟩
    obtain ⟨q, hq⟩ := Go.Deep.choose_lt each
    obtain ⟨⟨g, o, rfl⟩, hb⟩ := addr_of5 (v := .int .i64 (q 0).1.prio) (by have := (hq 0 (by omega)).1; rw [Nat.zero_mul] at this; exact this)
    refine ⟨(List.range len).map q, ⟨Or.inr ⟨g, o, rfl, hb, fun i r hr => ?_, fun r hr => ?_⟩⟩, by simp, hl⟩
    · rw [List.getElem?_map, Option.map_eq_some_iff] at hr
      obtain ⟨i', hi', rfl⟩ := hr
      obtain ⟨hi, rfl⟩ := List.getElem?_eq_some_iff.1 hi'
      simp only [List.length_range] at hi
      simp only [List.getElem_range]
      obtain ⟨c0, c1, c2, c3, _, _⟩ := hq i hi
      rw [addr_add5] at c0 c1 c2 c3
      rw [addr_add5] at c1 c2 c3
      exact ⟨c0, c1, c2, c3⟩
    · obtain ⟨i, hi, rfl⟩ := List.mem_map.1 hr
      have := hq i (List.mem_range.1 hi)
      exact ⟨this.2.2.2.2.1, this.2.2.2.2.2⟩
end
end Go.Proofs.YtipmlcdnfaobiaaGreat
namespace Go.Proofs.YtipmlcdnfaobiaaGreat
open Go.RowKit

theorem nanInt_any (x : Int) (w : World) : Calls Tryz.prog 111 #[.int .i64 x] w fun e w' => e = .returned (.bool false) ∧ w' = w := by
  go_enter Tryz.func111, Tryz.ntmps111
  go_wp2
  go_ret
  exact ⟨by simp, rfl⟩
theorem nanStr_any (x : List UInt8) (w : World) : Calls Tryz.prog 112 #[.string (tx x)] w fun e w' => e = .returned (.bool false) ∧ w' = w := by
  go_enter Tryz.func112, Tryz.ntmps112
  go_wp2
  go_ret
  exact ⟨by simp, rfl⟩
/-- Below, above or alike. -/
def cmpI (x y : Int) : Int := if x < y then -1 else if y < x then 1 else 0
def cmpL (x y : List UInt8) : Int := if x < y then -1 else if y < x then 1 else 0

set_option maxHeartbeats 1000000 in
theorem cmpInt_any (x y : Int) (w : World) : Calls Tryz.prog 87 #[.int .i64 x, .int .i64 y] w fun e w' => e = .returned (.int .i64 (cmpI x y)) ∧ w' = w := by
  have HX := hid (nanInt_any x)
  have HY := hid (nanInt_any y)
  rcases Int.lt_trichotomy x y with h | h | h
  · have e := hid (show cmpI x y = -1 by unfold cmpI; rw [if_pos h])
    go_enter Tryz.func87, Tryz.ntmps87
    go_wp2_with (first | (go_at_call 111; refine (nanInt_any _ _).mono ?_; rintro e w' ⟨rfl, rfl⟩))
    go_ret
    exact ⟨by rw [e.out]; rfl, rfl⟩
  · subst h
    have e := hid (show cmpI x x = 0 by unfold cmpI; rw [if_neg (Int.lt_irrefl _), if_neg (Int.lt_irrefl _)])
    go_enter Tryz.func87, Tryz.ntmps87
    go_wp2_with (first | (go_at_call 111; refine (nanInt_any _ _).mono ?_; rintro e w' ⟨rfl, rfl⟩))
    go_ret
    exact ⟨by rw [e.out]; rfl, rfl⟩
  · have hn : ¬ x < y := by omega
    have e := hid (show cmpI x y = 1 by unfold cmpI; rw [if_neg hn, if_pos h])
    go_enter Tryz.func87, Tryz.ntmps87
    go_wp2_with (first | (go_at_call 111; refine (nanInt_any _ _).mono ?_; rintro e w' ⟨rfl, rfl⟩))
    go_ret
    exact ⟨by rw [e.out]; rfl, rfl⟩

set_option maxHeartbeats 1000000 in
theorem cmpStr_any (x y : List UInt8) (w : World) : Calls Tryz.prog 88 #[.string (tx x), .string (tx y)] w fun e w' => e = .returned (.int .i64 (cmpL x y)) ∧ w' = w := by
  by_cases h : x < y
  · have e := hid (show cmpL x y = -1 by unfold cmpL; rw [if_pos h])
    have h1 : Op.bytesLess x y = true := by rw [bytesLess_eq]; exact decide_eq_true h
    clear h
    go_enter Tryz.func88, Tryz.ntmps88
    go_wp2_with (first | (go_at_call 112; refine (nanStr_any _ _).mono ?_; rintro e w' ⟨rfl, rfl⟩))
    go_ret
    exact ⟨by rw [e.out]; rfl, rfl⟩
  · have h1 : Op.bytesLess x y = false := by rw [bytesLess_eq]; exact decide_eq_false h
    by_cases h2 : y < x
    · have e := hid (show cmpL x y = 1 by unfold cmpL; rw [if_neg h, if_pos h2])
      have h3 : (x == y) = false := by rw [beq_eq_false_iff_ne]; rintro rfl; exact h h2
      clear h h2
      go_enter Tryz.func88, Tryz.ntmps88
      go_wp2_with (first | (go_at_call 112; refine (nanStr_any _ _).mono ?_; rintro e w' ⟨rfl, rfl⟩))
      go_ret
      exact ⟨by rw [e.out]; rfl, rfl⟩
    · have e := hid (show cmpL x y = 0 by unfold cmpL; rw [if_neg h, if_neg h2])
      have h3 : (x == y) = true := by
        rw [beq_iff_eq]
        rcases Ru.lt_or h with q | q
        · exact absurd q h2
        · exact q
      clear h h2
      go_enter Tryz.func88, Tryz.ntmps88
      go_wp2_with (first | (go_at_call 112; refine (nanStr_any _ _).mono ?_; rintro e w' ⟨rfl, rfl⟩))
      go_ret
      exact ⟨by rw [e.out]; rfl, rfl⟩

set_option maxHeartbeats 1000000 in
/-- cmp.Or of two. -/
theorem cmpOr_two {w : World} {g : Nat} {a b : Int} (h0 : w.cell? ⟨g, 0, none⟩ = some (.int .i64 a)) (h1 : w.cell? ⟨g, 1, none⟩ = some (.int .i64 b)) : Calls Tryz.prog 86 #[.slice (some ⟨g, 0, none⟩) 2 2] w fun e w' => e = .returned (.int .i64 (if a = 0 then b else a)) ∧ w' = w := by
  by_cases ha : a = 0
  · rw [if_pos ha]
    subst ha
    by_cases hb : b = 0
    · subst hb
      go_enter Tryz.func86, Tryz.ntmps86
      go_wp2_with fail
      refine wp_loop_rounds 3 ?_
      rw [rounds_succ]
      go_wp2_with fail
      rw [rounds_succ]
      go_wp2_with fail
      rw [rounds_succ]
      go_wp2
      go_ret
      exact ⟨rfl, rfl⟩
    · go_enter Tryz.func86, Tryz.ntmps86
      go_wp2_with fail
      refine wp_loop_rounds 2 ?_
      rw [rounds_succ]
      go_wp2_with fail
      rw [rounds_succ]
      go_wp2
      go_ret
      exact ⟨rfl, rfl⟩
  · rw [if_neg ha]
    go_enter Tryz.func86, Tryz.ntmps86
    go_wp2_with fail
    refine wp_loop_rounds 1 ?_
    rw [rounds_succ]
    go_wp2
    go_ret
    exact ⟨rfl, rfl⟩
end Go.Proofs.YtipmlcdnfaobiaaGreat
namespace Go.Proofs.YtipmlcdnfaobiaaGreat
open Go.RowKit

set_option maxRecDepth 20000 in
set_option maxHeartbeats 2000000 in
theorem compare_any {w : World} {p q k l : Int} {m n : List UInt8} {ao bo : Option Addr} {la ca lb cb : Nat} :
    Calls Tryz.prog 66 #[.agg #[.int .i64 p, .string (tx m), .int .i64 k, .slice ao la ca], .agg #[.int .i64 q, .string (tx n), .int .i64 l, .slice bo lb cb]] w fun e w' => e = .returned (.int .i64 (if cmpI q p = 0 then cmpL m n else cmpI q p)) ∧ Below w.heap.size w w' := by
  have HI := hid (fun w' => cmpInt_any q p w')
  have HS := hid (fun w' => cmpStr_any m n w')
  obtain ⟨a, ha⟩ : ∃ a, a = cmpI q p := ⟨_, rfl⟩
  obtain ⟨b, hb⟩ : ∃ b, b = cmpL m n := ⟨_, rfl⟩
  rw [← ha] at HI ⊢
  rw [← hb] at HS ⊢
  obtain ⟨r, hr⟩ : ∃ r, r = (if a = 0 then b else a) := ⟨_, rfl⟩
  have HO := hid (fun (X : World) => cmpOr_two (w := (X.alloc (.cells #[.int .i64 a, .int .i64 b] 3)).drew) (g := X.heap.size) (a := a) (b := b) (by rw [cell_at (show ((X.alloc (.cells #[.int .i64 a, .int .i64 b] 3)).drew).heap[X.heap.size]? = some (.cells #[.int .i64 a, .int .i64 b] 3) from new_0 _ _)]; rfl) (by rw [cell_at (show ((X.alloc (.cells #[.int .i64 a, .int .i64 b] 3)).drew).heap[X.heap.size]? = some (.cells #[.int .i64 a, .int .i64 b] 3) from new_0 _ _)]; rfl))
  rw [← hr] at HO ⊢
  clear ha hb hr
  obtain ⟨X, hX⟩ : ∃ X, X = (w.alloc (rob p (tx m) k (.slice ao la ca))).alloc (rob q (tx n) l (.slice bo lb cb)) := ⟨_, rfl⟩
  have hXb0 : X.heap[w.heap.size]? = some (rob p (tx m) k (.slice ao la ca)) := by rw [hX]; exact new_old _ _ (new_0 w _)
  have hXb1 : X.heap[w.heap.size + 1]? = some (rob q (tx n) l (.slice bo lb cb)) := by rw [hX]; exact new_1 _ _ _
  have BX := hid (show Below w.heap.size w X by rw [hX]; exact ((Below.refl _ _).alloc (Nat.le_refl _) _).alloc (by simp) _)
  have SX := hid (fun (W : World) (h0 : W.heap[w.heap.size]? = some (rob p (tx m) k (.slice ao la ca))) (h1 : W.heap[w.heap.size + 1]? = some (rob q (tx n) l (.slice bo lb cb))) => And.intro (rob_cells h0).1 (And.intro (rob_cells h0).2.1 (And.intro (rob_cells h1).1 (rob_cells h1).2.1)))
  have S0 := hid (SX.out X hXb0 hXb1)
  have S1 := hid (fun (O : Obj) => SX.out (X.alloc O) (new_old _ _ hXb0) (new_old _ _ hXb1))
  clear hXb0 hXb1
  go_enter Tryz.func66, Tryz.ntmps66
  go_wp2_with fail
  rw [← hX]
  clear hX
  go_region_held2 (fun W => W.cell? ⟨w.heap.size, 0, none⟩ = some (.int .i64 p) ∧ W.cell? ⟨w.heap.size, 1, none⟩ = some (.string (tx m)) ∧ W.cell? ⟨w.heap.size + 1, 0, none⟩ = some (.int .i64 q) ∧ W.cell? ⟨w.heap.size + 1, 1, none⟩ = some (.string (tx n))) (first | exact S0.out | exact S1.out _ | assumption) (first | (go_at_call 87; refine (HI.out _).mono ?_; rintro en w2 ⟨rfl, rfl⟩) | (go_at_call 88; refine (HS.out _).mono ?_; rintro en w3 ⟨rfl, rfl⟩) | (go_at_call 86; refine (HO.out X).mono ?_; rintro en w4 ⟨rfl, rfl⟩))
  go_wp2
  go_ret
  exact ⟨rfl, (BX.out.alloc BX.out.size _).drew⟩
end Go.Proofs.YtipmlcdnfaobiaaGreat
namespace Go.Proofs.YtipmlcdnfaobiaaGreat
open Go.RowKit

/-- The first stands ahead: by its priority, else by its match. -/
def aheadB (p q : Int) (m n : List UInt8) : Bool := decide (q < p ∨ (p = q ∧ m < n))
set_option maxRecDepth 20000 in
set_option maxHeartbeats 2000000 in
theorem RAhead_any {w : World} {p q k l : Int} {m n : List UInt8} {ao bo : Option Addr} {la ca lb cb : Nat} :
    Calls Tryz.prog 73 #[.agg #[.int .i64 p, .string (tx m), .int .i64 k, .slice ao la ca], .agg #[.int .i64 q, .string (tx n), .int .i64 l, .slice bo lb cb]] w fun e w' => e = .returned (.bool (aheadB p q m n)) ∧ Below w.heap.size w w' := by
  have BX := hid (show Below w.heap.size w ((w.alloc (rob p (tx m) k (.slice ao la ca))).alloc (rob q (tx n) l (.slice bo lb cb))) from ((Below.refl _ _).alloc (Nat.le_refl _) _).alloc (by simp) _)
  by_cases h : p = q
  · subst h
    have HE := hid (show aheadB p p m n = Op.bytesLess m n by unfold aheadB; rw [bytesLess_eq]; simp)
    rw [HE.out]
    clear HE
    go_enter Tryz.func73, Tryz.ntmps73
    go_wp2
    go_ret
    exact ⟨rfl, BX.out⟩
  · have HE := hid (show aheadB p q m n = decide (q < p) by unfold aheadB; simp [h])
    rw [HE.out]
    clear HE
    have hne : (p == q) = false := by rw [beq_eq_false_iff_ne]; exact h
    go_enter Tryz.func73, Tryz.ntmps73
    go_wp2
    go_ret
    exact ⟨rfl, BX.out⟩
end Go.Proofs.YtipmlcdnfaobiaaGreat
namespace Go.Proofs.YtipmlcdnfaobiaaGreat
open Go.RowKit

/-- Two rules, compared. -/
def cmpR (a b : Raw) : Int := if cmpI b.prio a.prio = 0 then cmpL a.mat b.mat else cmpI b.prio a.prio

theorem block_old {w : World} {a : Addr} {v : Value} (h : w.cell? a = some v) : a.block < w.heap.size := World.block_lt_of_cell? w _ h

set_option maxRecDepth 20000 in
set_option maxHeartbeats 2000000 in
theorem order_cmp {w : World} {g o n cap i j c : Nat} {ps : List (Raw × Value)} (hv : w.cell? ⟨c, 0, none⟩ = some (.slice (some ⟨g, o, none⟩) n cap)) (h : RawView w g o ps) (hn : ps.length = n) {a b : Raw × Value} (ha : ps[i]? = some a) (hb : ps[j]? = some b) :
    Calls Tryz.prog 65 #[.int .i64 i, .int .i64 j, .pointer (some ⟨c, 0, none⟩)] w fun e w' => e = .returned (.int .i64 (cmpR a.1 b.1)) ∧ Below w.heap.size w w' := by
  obtain ⟨a0, a1, a2, a3⟩ := h.cell i a ha
  obtain ⟨b0, b1, b2, b3⟩ := h.cell j b hb
  have hi : i < n := by rw [← hn]; exact (List.getElem?_eq_some_iff.1 ha).1
  have hj : j < n := by rw [← hn]; exact (List.getElem?_eq_some_iff.1 hb).1
  have pa := (h.ports a (List.mem_of_getElem? ha)).1
  have pb := (h.ports b (List.mem_of_getElem? hb)).1
  obtain ⟨⟨p, m, k, za⟩, va⟩ := a
  obtain ⟨⟨q, m', l, zb⟩, vb⟩ := b
  simp only at a0 a1 a2 a3 b0 b1 b2 b3 pa pb
  obtain ⟨ao, ca, rfl, _⟩ := pa
  obtain ⟨bo, cb, rfl, _⟩ := pb
  have HC := hid (fun w' => compare_any (w := w') (p := p) (q := q) (k := k) (l := l) (m := m) (n := m') (ao := ao) (bo := bo) (la := za.length) (ca := ca) (lb := zb.length) (cb := cb))
  obtain ⟨r, hr⟩ : ∃ r, r = (if cmpI q p = 0 then cmpL m m' else cmpI q p) := ⟨_, rfl⟩
  show Calls _ _ _ _ fun e w' => e = .returned (.int .i64 (if cmpI q p = 0 then cmpL m m' else cmpI q p)) ∧ Below w.heap.size w w'
  rw [← hr] at HC ⊢
  clear ha hb h hn hr
  have i0 : (0 : Int) ≤ (i : Int) := by omega
  have i1 : (i : Int) < (n : Int) := by omega
  have j0 : (0 : Int) ≤ (j : Int) := by omega
  have j1 : (j : Int) < (n : Int) := by omega
  go_enter Tryz.func65, Tryz.ntmps65
  go_wp2_with fail
  go_region_held2 (fun W => W.cell? ⟨c, 0, none⟩ = some (.slice (some ⟨g, o, none⟩) n cap) ∧ W.cell? ⟨g, o + i * 4, none⟩ = some (.int .i64 p) ∧ W.cell? ⟨g, o + i * 4 + 1, none⟩ = some (.string (tx m)) ∧ W.cell? ⟨g, o + i * 4 + 2, none⟩ = some (.int .i64 k) ∧ W.cell? ⟨g, o + i * 4 + 3, none⟩ = some (.slice ao za.length ca) ∧ W.cell? ⟨g, o + j * 4, none⟩ = some (.int .i64 q) ∧ W.cell? ⟨g, o + j * 4 + 1, none⟩ = some (.string (tx m')) ∧ W.cell? ⟨g, o + j * 4 + 2, none⟩ = some (.int .i64 l) ∧ W.cell? ⟨g, o + j * 4 + 3, none⟩ = some (.slice bo zb.length cb)) (first | exact ⟨hv, a0, a1, a2, a3, b0, b1, b2, b3⟩ | exact hS2) (first | (go_at_call 66; refine (HC.out _).mono ?_; rintro en w2 ⟨rfl, hb2⟩; have B2 := hid hb2; have hS2 := And.intro ((hb2.cell (block_old hv)).trans hv) (And.intro ((hb2.cell (block_old a0)).trans a0) (And.intro ((hb2.cell (block_old a1)).trans a1) (And.intro ((hb2.cell (block_old a2)).trans a2) (And.intro ((hb2.cell (block_old a3)).trans a3) (And.intro ((hb2.cell (block_old b0)).trans b0) (And.intro ((hb2.cell (block_old b1)).trans b1) (And.intro ((hb2.cell (block_old b2)).trans b2) ((hb2.cell (block_old b3)).trans b3)))))))); clear hb2))
  go_wp2
  go_ret
  exact ⟨rfl, (Below.refl w.heap.size w).drew.trans (show Below w.heap.size w.drew w2 from B2.out)⟩
end Go.Proofs.YtipmlcdnfaobiaaGreat
