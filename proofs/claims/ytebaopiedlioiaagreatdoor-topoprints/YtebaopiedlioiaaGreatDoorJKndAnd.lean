/-
  The reader of topologies: what lies in memory behind each kind of line.
  The topology of a text's lines, or its first fault: read.
  The reader of topologies: what lies in memory between two lines; where a line is at fault.
  The reader of topologies: a width.
  The reader of topologies: begin.
  The reader of topologies: read's deferred call.
  The reader of topologies: which method reads the rest of a line, by the line's first word.
-/
import Derived.Test.YtebaopiedlioiaaGreatDoorJRdAnd
import Derived.Test.YtebaopiedlioiaaGreatDoorWRefSAnd
import Derived.Test.YtebaopiedlioiaaGreatDoorJSrtAnd
import Derived.Test.YtebaopiedlioiaaGreatDoorJDevBAnd
namespace Go.Proofs.YtebaopiedlioiaaGreatDoor
open Go.RowKit
open Wo (Wd)

/-- A method of the reader, as a value. -/
abbrev mvJ (f : FuncId) (rb : Nat) : Value := .func (.func f) #[.pointer (some ⟨rb, 0, none⟩)] #[]
abbrev kndO (rb : Nat) : Obj := .map #[⟨.string (tx To.widthT), mvJ 92 rb, 0⟩, ⟨.string (tx To.deviceT), mvJ 93 rb, 1⟩, ⟨.string (tx To.linkT), mvJ 94 rb, 2⟩] 3
theorem kchk (w : World) (b : Bool) (s : ByteArray) : (Instr.checkKey b 10000 9 (.string s)).run Tryz.prog w = .ok () w := by
  rw [Instr.checkKey]
  simp [run_underlying Tryz.underlying9, Result.andThen]
theorem kfind (w : World) (s : ByteArray) (es : List MapEntry) (r : Option (Nat × Value)) (hf : Instr.findNow .string (.string s) es 0 = some r) : (Instr.findKey 9 (.string s) es).run Tryz.prog w = .ok r w := by
  unfold Instr.findKey
  simp [run_underlying Tryz.underlying9, hf, Result.andThen]
theorem kupd {w : World} {b clock : Nat} {es : Array MapEntry} {k : List UInt8} {v : Value} (hm : w.heap[b]? = some (.map es clock)) (hf : Instr.findNow .string (.string (tx k)) es.toList 0 = some none) : ∃ W, (Instr.mapUpdate 113 (.map (some b)) (.string (tx k)) v).run Tryz.prog w = .ok () W ∧ W.heap[b]? = some (.map (es.push ⟨.string (tx k), v, clock⟩) (clock + 1)) ∧ w.grownBy W (some b) := by
  refine ⟨{ w with heap := w.heap.setIfInBounds b (.map (es.push ⟨.string (tx k), v, clock⟩) (clock + 1)) }, ?_, ?_, ?_⟩
  · unfold Instr.mapUpdate
    simp [run_underlying Tryz.underlying113, MapKept.run_getObj_map hm, kchk, kfind _ _ _ _ hf, MapKept.run_setObj_map _ hm, Result.andThen]
  · have := lt_of_block hm
    simp [this]
  · refine ⟨rfl, rfl, rfl, by simp, fun k hk hne => ?_⟩
    simp only [Array.getElem?_setIfInBounds]
    rw [if_neg (fun e => hne (by rw [e]))]

set_option maxRecDepth 20000 in
set_option maxHeartbeats 1000000 in
theorem okinds (rb : Nat) (w : World) : Calls Tryz.prog 57 #[.pointer (some ⟨rb, 0, none⟩)] w fun e w' => e = .returned (.map (some w.heap.size)) ∧ w'.heap[w.heap.size]? = some (kndO rb) ∧ Below w.heap.size w w' := by
  have hM : ∀ w : World, (Instr.makeMap 113 none).run Tryz.prog w = .ok (.map (some w.heap.size)) (w.alloc (.map #[] 0)) := fun _ => by kernel_rfl
  obtain ⟨W1, r1, b1, g1⟩ := kupd (w := w.alloc (.map #[] 0)) (b := w.heap.size) (clock := 0) (es := #[]) (k := To.widthT) (v := mvJ 92 rb) (new_0 _ _) rfl
  obtain ⟨W2, r2, b2, g2⟩ := kupd (k := To.deviceT) (v := mvJ 93 rb) b1 (by rfl)
  obtain ⟨W3, r3, b3, g3⟩ := kupd (k := To.linkT) (v := mvJ 94 rb) b2 (by rfl)
  change (Instr.mapUpdate 113 (.map (some w.heap.size)) (.string ⟨#[119, 105, 100, 116, 104]⟩) (.func (.func 92) #[.pointer (some ⟨rb, 0, none⟩)] #[])).run Tryz.prog _ = _ at r1
  change (Instr.mapUpdate 113 (.map (some w.heap.size)) (.string ⟨#[100, 101, 118, 105, 99, 101]⟩) (.func (.func 93) #[.pointer (some ⟨rb, 0, none⟩)] #[])).run Tryz.prog _ = _ at r2
  change (Instr.mapUpdate 113 (.map (some w.heap.size)) (.string ⟨#[108, 105, 110, 107]⟩) (.func (.func 94) #[.pointer (some ⟨rb, 0, none⟩)] #[])).run Tryz.prog _ = _ at r3
  have HF := hid (show W3.heap[w.heap.size]? = some (kndO rb) ∧ Below w.heap.size w W3 from by
    refine ⟨b3, ((g3.os.trans g2.os).trans g1.os), ((g3.tape.trans g2.tape).trans g1.tape), ((g3.output.trans g2.output).trans g1.output), ?_, fun k hk => ?_⟩
    · have h1 := g1.size
      have h2 := g2.size
      have h3 := g3.size
      simp only [World.size_alloc] at h1
      omega
    · have h1 := g1.size
      have h2 := g2.size
      simp only [World.size_alloc] at h1
      have hne : some k ≠ some w.heap.size := fun e => by injection e with e; omega
      rw [g3.block k (by omega) hne, g2.block k (by omega) hne, g1.block k (by simp only [World.size_alloc]; omega) hne, Below.heap_alloc _ _ _ hk])
  clear b1 b2 b3 g1 g2 g3
  go_enter Tryz.func57, Tryz.ntmps57
  go_wp2
  go_ret
  exact ⟨rfl, HF.out⟩
/-- What the map of methods tells of a word. -/
def kndV (rb : Nat) (s : List UInt8) : Value := if s = To.widthT then mvJ 92 rb else if s = To.deviceT then mvJ 93 rb else if s = To.linkT then mvJ 94 rb else .nilFunc
theorem kndO_look {w : World} {b rb : Nat} (hm : w.heap[b]? = some (kndO rb)) (s : List UInt8) : (Instr.lookup 113 (.map (some b)) (.string (tx s)) false).run Tryz.prog w = .ok (kndV rb s) w := by
  have hz : (zeroValue 1).run Tryz.prog w = .ok .nilFunc w := by kernel_rfl
  have he : ∀ t : List UInt8, (tx s == tx t) = decide (s = t) := fun t => by
    show (s.toArray == t.toArray) = decide (s = t)
    by_cases h : s = t
    · subst h; simp
    · rw [decide_eq_false h, beq_eq_false_iff_ne]
      intro q
      exact h (by simpa using q)
  by_cases h1 : s = To.widthT
  · have hf : Instr.findNow .string (.string (tx s)) [⟨.string (tx To.widthT), mvJ 92 rb, 0⟩, ⟨.string (tx To.deviceT), mvJ 93 rb, 1⟩, ⟨.string (tx To.linkT), mvJ 94 rb, 2⟩] 0 = some (some (0, mvJ 92 rb)) := by
      simp only [Instr.findNow, Instr.sameNow, he, decide_eq_true h1]
    have hv : kndV rb s = mvJ 92 rb := by unfold kndV; rw [if_pos h1]
    rw [hv]
    unfold Instr.lookup
    simp [run_underlying Tryz.underlying113, MapKept.run_getObj_map hm, kchk, kfind _ _ _ _ hf, Result.andThen]
  · by_cases h2 : s = To.deviceT
    · have hf : Instr.findNow .string (.string (tx s)) [⟨.string (tx To.widthT), mvJ 92 rb, 0⟩, ⟨.string (tx To.deviceT), mvJ 93 rb, 1⟩, ⟨.string (tx To.linkT), mvJ 94 rb, 2⟩] 0 = some (some (1, mvJ 93 rb)) := by
        simp only [Instr.findNow, Instr.sameNow, he, decide_eq_false h1, decide_eq_true h2]
      have hv : kndV rb s = mvJ 93 rb := by unfold kndV; rw [if_neg h1, if_pos h2]
      rw [hv]
      unfold Instr.lookup
      simp [run_underlying Tryz.underlying113, MapKept.run_getObj_map hm, kchk, kfind _ _ _ _ hf, Result.andThen]
    · by_cases h3 : s = To.linkT
      · have hf : Instr.findNow .string (.string (tx s)) [⟨.string (tx To.widthT), mvJ 92 rb, 0⟩, ⟨.string (tx To.deviceT), mvJ 93 rb, 1⟩, ⟨.string (tx To.linkT), mvJ 94 rb, 2⟩] 0 = some (some (2, mvJ 94 rb)) := by
          simp only [Instr.findNow, Instr.sameNow, he, decide_eq_false h1, decide_eq_false h2, decide_eq_true h3]
        have hv : kndV rb s = mvJ 94 rb := by unfold kndV; rw [if_neg h1, if_neg h2, if_pos h3]
        rw [hv]
        unfold Instr.lookup
        simp [run_underlying Tryz.underlying113, MapKept.run_getObj_map hm, kchk, kfind _ _ _ _ hf, Result.andThen]
      · have hf : Instr.findNow .string (.string (tx s)) [⟨.string (tx To.widthT), mvJ 92 rb, 0⟩, ⟨.string (tx To.deviceT), mvJ 93 rb, 1⟩, ⟨.string (tx To.linkT), mvJ 94 rb, 2⟩] 0 = some none := by
          simp only [Instr.findNow, Instr.sameNow, he, decide_eq_false h1, decide_eq_false h2, decide_eq_false h3]
        have hv : kndV rb s = .nilFunc := by unfold kndV; rw [if_neg h1, if_neg h2, if_neg h3]
        rw [hv]
        unfold Instr.lookup
        simp [run_underlying Tryz.underlying113, MapKept.run_getObj_map hm, kchk, kfind _ _ _ _ hf, hz, Result.andThen]
end Go.Proofs.YtebaopiedlioiaaGreatDoor
namespace Go.Proofs.YtebaopiedlioiaaGreatDoor
open Go.RowKit
open Wo (Wd)

theorem ocaught_not (r l f : Addr) (w : World) :
    CallsD Tryz.prog 55 #[.pointer (some r), .pointer (some l), .pointer (some f)] .returning w fun x u' w' => x = .returned (.tuple #[]) ∧ u' = .returning ∧ w' = w := by
  refine callsD_of_wpS Tryz.func55 rfl fun c₀ cs hu => ?_
  apply wpS_seq
  apply wpS_region
  simp [wpOpsS, go_sem, recoverD, hu, Tryz.ntmps55, Exit.thenS]
  refine wpS_cond (t := false) (by simp [Act.eval, Array.replicate]) ?_
  simp only [Bool.false_eq_true, if_false]
  refine wpS_of_wp (wp_skip ?_)
  cases c₀
  simp_all [bodyPostS, results, Tryz.results55]

abbrev fobJ (a b c : Value) : Obj := .cells #[a, b, c] 60
abbrev tobJ (a b c : Value) : Obj := .cells #[a, b, c] 25

set_option maxRecDepth 4000 in
set_option maxHeartbeats 1000000 in
theorem ocaught (N rb : Nat) (ft : Ru.Ft) (x0 x1 x2 y0 y1 y2 : Value) (pv : Int) (w : World) (hr : JFt w rb ft) (h0 : w.heap[N]? = some (tobJ x0 x1 x2)) (h1 : w.heap[N + 1]? = some (fobJ y0 y1 y2)) (_hNr : N ≠ rb) (_hN1 : N + 1 ≠ rb) :
    CallsD Tryz.prog 55 #[.pointer (some ⟨rb, 0, none⟩), .pointer (some ⟨N, 0, none⟩), .pointer (some ⟨N + 1, 0, none⟩)] (.panicking (pan pv)) w fun e u' w' =>
      e = .returned (.tuple #[]) ∧ u' = .panicking [{ v := .iface 26 (.int .i64 pv), recovered := true }] ∧
      w'.heap[N]? = some (tobJ (.int .i64 0) (.slice none 0 0) (.slice none 0 0)) ∧ w'.heap[N + 1]? = some (fobJ (.int .i64 ft.1) (.int .i64 ft.2.1) (.int .i64 ft.2.2)) ∧ Below N w w' := by
  obtain ⟨c0, c1, c2, c3, c4, c5, c6, c7, c8, c9, c10, c11, hc⟩ := hr.ex
  have r5 := cell_at (o := 12) hc
  have r6 := cell_at (o := 13) hc
  have r7 := cell_at (o := 14) hc
  simp only [List.getElem?_toArray, List.getElem?_cons_succ, List.getElem?_cons_zero] at r5 r6 r7
  have a0 := cell_at (o := 0) h0
  have a4 := cell_at (o := 1) h0
  have a5 := cell_at (o := 2) h0
  have a1 := cell_at (o := 0) h1
  have a2 := cell_at (o := 1) h1
  have a3 := cell_at (o := 2) h1
  have f0 := free_of (o := 0) h0
  have f4 := free_of (o := 1) h0
  have f5 := free_of (o := 2) h0
  have f1 := free_of (o := 0) h1
  have f2 := free_of (o := 1) h1
  have f3 := free_of (o := 2) h1
  refine callsD_of_wpS Tryz.func55 rfl fun c₀ cs hu => ?_
  apply wpS_seq
  apply wpS_region
  simp [wpOpsS, go_sem, recoverD, hu, Tryz.ntmps55, Exit.thenS]
  refine wpS_cond (t := true) (by simp [Act.eval, Array.replicate]) ?_
  simp only [if_true]
  apply wpS_region
  simp [wpOpsS, go_sem, r5, r6, r7, a0, a1, a2, a3, a4, a5, f0, f1, f2, f3, f4, f5, bodyPostS, results, Tryz.results55]
  have hne : N ≠ N + 1 := by omega
  have hne' : N + 1 ≠ N := by omega
  have b0 := block_set (o := 2) (.slice none 0 0) (block_set (o := 1) (.slice none 0 0) (block_set (o := 0) (.int .i64 0) h0))
  have e1 : (((w.setCell ⟨N, 0, none⟩ (.int .i64 0)).setCell ⟨N, 1, none⟩ (.slice none 0 0)).setCell ⟨N, 2, none⟩ (.slice none 0 0)).heap[N + 1]? = some (fobJ y0 y1 y2) := by
    rw [Below.heap_setCell _ _ _ _ hne', Below.heap_setCell _ _ _ _ hne', Below.heap_setCell _ _ _ _ hne', h1]
  refine ⟨?_, ?_, ?_⟩
  · rw [Below.heap_setCell _ _ _ _ hne, Below.heap_setCell _ _ _ _ hne, Below.heap_setCell _ _ _ _ hne]
    exact b0
  · exact block_set (o := 2) (.int .i64 ft.2.2) (block_set (o := 1) (.int .i64 ft.2.1) (block_set (o := 0) (.int .i64 ft.1) e1))
  · have hs : N ≤ N + 1 := Nat.le_succ _
    repeat (refine Below.setCell ?_ (by dsimp only; omega) _)
    exact Below.refl _ _
end Go.Proofs.YtebaopiedlioiaaGreatDoor
namespace Go.Proofs.YtebaopiedlioiaaGreatDoor
open Go.RowKit
open Wo (Wd)

theorem endW_lastJ {l : List Wd} {x : Wd} (h : l[l.length - 1]? = some x) : Ru.endW l = ([], x.2.1, x.2.2 + x.1.length) := by
  unfold Ru.endW
  rw [List.getLast?_eq_getElem?, h]

set_option maxRecDepth 20000 in
set_option maxHeartbeats 1000000 in
theorem obegin_any {w : World} {rb g cap : Nat} {c0 c1 c2 c3 c4 d5 d6 d7 d8 d9 d10 d11 d12 d13 d14 : Value} {a : Wd} {t : List Wd} (hc : w.heap[rb]? = some (.cells #[c0, c1, c2, c3, c4, d5, d6, d7, d8, d9, d10, d11, d12, d13, d14] 111 (0, 0))) (hg : g < w.heap.size)
    (hL : ∀ (i : Nat) (y : Wd), (a :: t)[i]? = some y → w.cell? ⟨g, i * 3, none⟩ = some (.string (tx y.1)) ∧ w.cell? ⟨g, i * 3 + 1, none⟩ = some (.int .i64 y.2.1) ∧ w.cell? ⟨g, i * 3 + 2, none⟩ = some (.int .i64 y.2.2)) (hgr : g ≠ rb) (hcap : t.length + 1 ≤ cap) (hcm : cap ≤ 9223372036854775807) (hsm : ∀ x ∈ a :: t, x.1.length ≤ 1048576 ∧ x.2.2 ≤ 1048577) :
    Calls Tryz.prog 58 #[.pointer (some ⟨rb, 0, none⟩), .slice (some ⟨g, 0, none⟩) (t.length + 1) cap] w fun en w' => en = .returned (.tuple #[]) ∧ JOn w w' rb g c0 c1 c2 c3 c4 a t (Ru.endW (a :: t)) := by
  obtain ⟨x, hx⟩ : ∃ x, (a :: t)[t.length]? = some x := ⟨(a :: t)[t.length]'(by simp), List.getElem?_eq_getElem (by simp)⟩
  have he : Ru.endW (a :: t) = ([], x.2.1, x.2.2 + x.1.length) := endW_lastJ (by simpa using hx)
  rw [he]
  have hlt := lt_of_block hc
  obtain ⟨q1, q2, q3⟩ := hL _ x hx
  obtain ⟨p1, p2, p3⟩ := hL 0 a rfl
  simp only [Nat.zero_mul, Nat.zero_add] at p1 p2 p3
  have hxm := hsm x (List.mem_of_getElem? hx)
  have hxI : (x.2.2 : Int) + (x.1.length : Int) ≤ 2097153 := by omega
  have hx0 : (0 : Int) ≤ (x.2.2 : Int) + (x.1.length : Int) := by omega
  have kk : ∀ (o : Nat) (v : Value), (#[c0, c1, c2, c3, c4, d5, d6, d7, d8, d9, d10, d11, d12, d13, d14] : Array Value)[o]? = some v → w.cell? ⟨rb, o, none⟩ = some v := fun o v h => by rw [cell_at hc]; exact h
  have k5 := kk 5 d5 rfl
  have k6 := kk 6 d6 rfl
  have k7 := kk 7 d7 rfl
  have k8 := kk 8 d8 rfl
  have k9 := kk 9 d9 rfl
  have k10 := kk 10 d10 rfl
  have k11 := kk 11 d11 rfl
  have g5 := free_of (o := 5) hc
  have g6 := free_of (o := 6) hc
  have g7 := free_of (o := 7) hc
  have g8 := free_of (o := 8) hc
  have g9 := free_of (o := 9) hc
  have g10 := free_of (o := 10) hc
  have g11 := free_of (o := 11) hc
  have hm0 : (0 : Int) ≤ (t.length : Int) := by omega
  have hmI : (t.length : Int) < (t.length : Int) + 1 := by omega
  have hcI : (1 : Int) ≤ (cap : Int) := by omega
  have hlI : (1 : Int) ≤ (t.length : Int) + 1 := by omega
  have hgr' : ¬ rb = g := fun q => hgr q.symm
  have HR := hid (fun (o' cap' : Nat) (ho : (1 < cap ∧ o' = 3 ∧ cap' = cap - 1) ∨ (cap = 1 ∧ cap' = 0)) => (by
    obtain ⟨V, hV⟩ : ∃ V, V = (((((((w.setCell ⟨rb, 5, none⟩ (.string (tx a.1))).setCell ⟨rb, 6, none⟩ (.int .i64 a.2.1)).setCell ⟨rb, 7, none⟩ (.int .i64 a.2.2)).setCell ⟨rb, 8, none⟩ (.slice (some ⟨g, o', none⟩) t.length cap')).setCell ⟨rb, 9, none⟩ (.string (tx []))).setCell ⟨rb, 10, none⟩ (.int .i64 x.2.1)).setCell ⟨rb, 11, none⟩ (.int .i64 ((x.2.2 : Int) + (x.1.length : Int)))) := ⟨_, rfl⟩
    have eb : V.heap[g]? = w.heap[g]? := by
      rw [hV, Below.heap_setCell _ _ _ _ hgr, Below.heap_setCell _ _ _ _ hgr, Below.heap_setCell _ _ _ _ hgr, Below.heap_setCell _ _ _ _ hgr, Below.heap_setCell _ _ _ _ hgr, Below.heap_setCell _ _ _ _ hgr, Below.heap_setCell _ _ _ _ hgr]
    have hsz : V.heap.size = w.heap.size := by rw [hV]; simp only [World.size_setCell]
    have hrd : JRd V rb g c0 c1 c2 c3 c4 a t ([], x.2.1, x.2.2 + x.1.length) := by
      refine ⟨o', cap', d12, d13, d14, ?_, ?_, ?_, hgr, by omega, fun i y hy => ?_⟩
      · rw [hV, block_set (o := 11) _ (block_set (o := 10) _ (block_set (o := 9) _ (block_set (o := 8) _ (block_set (o := 7) _ (block_set (o := 6) _ (block_set (o := 5) _ hc))))))]
        simp
      · rcases ho with ⟨_, _, rfl⟩ | ⟨_, rfl⟩ <;> omega
      · rcases ho with ⟨_, _, rfl⟩ | ⟨_, rfl⟩ <;> omega
      · have hil := (List.getElem?_eq_some_iff.1 hy).1
        obtain ⟨r1, r2, r3⟩ := hL (i + 1) y (by simpa using hy)
        have ce : ∀ o, V.cell? ⟨g, o, none⟩ = w.cell? ⟨g, o, none⟩ := fun o => World.cell?_of_block eb
        rcases ho with ⟨_, rfl, _⟩ | ⟨_, _⟩
        · rw [ce, ce, ce, show 3 + i * 3 = (i + 1) * 3 by omega]
          exact ⟨r1, r2, r3⟩
        · omega
    have hgw : w.grownBy V (some rb) := by
      rw [hV]
      exact grown_two (grown_two (grown_two (grown_two (grown_two (grown_two (grown_set _ _ _ _) (grown_set _ _ _ _)) (grown_set _ _ _ _)) (grown_set _ _ _ _)) (grown_set _ _ _ _)) (grown_set _ _ _ _)) (grown_set _ _ _ _)
    rw [← hV]
    exact ((show JOn w V rb g c0 c1 c2 c3 c4 a t ([], x.2.1, x.2.2 + x.1.length) from ⟨hrd, hgw⟩).alloc (wob x)).drew : JOn w (((((((((w.setCell ⟨rb, 5, none⟩ (.string (tx a.1))).setCell ⟨rb, 6, none⟩ (.int .i64 a.2.1)).setCell ⟨rb, 7, none⟩ (.int .i64 a.2.2)).setCell ⟨rb, 8, none⟩ (.slice (some ⟨g, o', none⟩) t.length cap')).setCell ⟨rb, 9, none⟩ (.string (tx []))).setCell ⟨rb, 10, none⟩ (.int .i64 x.2.1)).setCell ⟨rb, 11, none⟩ (.int .i64 ((x.2.2 : Int) + (x.1.length : Int)))).alloc (wob x)).drew) rb g c0 c1 c2 c3 c4 a t ([], x.2.1, x.2.2 + x.1.length)))
  clear kk hsm hx he hxm hL hc
  by_cases h1 : cap = 1
  · subst h1
    have HF := hid (HR.out 0 0 (Or.inr ⟨rfl, rfl⟩))
    obtain ⟨n, hn⟩ : ∃ n, n = t.length := ⟨_, rfl⟩
    rw [← hn] at HF hcap hm0 hmI hlI q1 q2 q3 ⊢
    clear HR hn
    go_enter Tryz.func58, Tryz.ntmps58
    go_wp2_with fail
    go_region
    all_goals go_wp2
    refine bodyPost_end (v := .tuple #[]) (by simp [results, Tryz.results58, go_sem]) rfl ⟨rfl, ?_⟩
    have HG := HF.out
    rw [show n = 0 by omega, show tx [] = ⟨#[]⟩ from rfl, wob] at HG
    exact HG
  · have hcJ : (1 : Int) < (cap : Int) := by omega
    have HF := hid (HR.out 3 (cap - 1) (Or.inl ⟨by omega, rfl, rfl⟩))
    obtain ⟨n, hn⟩ : ∃ n, n = t.length := ⟨_, rfl⟩
    rw [← hn] at HF hcap hm0 hmI hlI q1 q2 q3 ⊢
    clear HR hn
    go_enter Tryz.func58, Tryz.ntmps58
    go_wp2_with fail
    go_region
    all_goals go_wp2
    refine bodyPost_end (v := .tuple #[]) (by simp [results, Tryz.results58, go_sem]) rfl ⟨rfl, ?_⟩
    have HG := HF.out
    rw [show tx [] = ⟨#[]⟩ from rfl, wob] at HG
    exact HG
end Go.Proofs.YtebaopiedlioiaaGreatDoor
namespace Go.Proofs.YtebaopiedlioiaaGreatDoor
open Go.RowKit Go
open Wo (Wd)

theorem JRd.set0 {w : World} {rb g : Nat} {c0 c1 c2 c3 c4 : Value} {x : Wd} {l : List Wd} {e : Wd} (h : JRd w rb g c0 c1 c2 c3 c4 x l e) (v : Value) : JRd (w.setCell ⟨rb, 0, none⟩ v) rb g v c1 c2 c3 c4 x l e := by
  obtain ⟨o, cap, f0, f1, f2, hc, h1, h2, h3, h4, h5⟩ := h.ex
  have eb : (w.setCell ⟨rb, 0, none⟩ v).heap[g]? = w.heap[g]? := Below.heap_setCell _ _ _ _ h3
  refine ⟨o, cap, f0, f1, f2, by rw [block_set (o := 0) _ hc]; rfl, h1, h2, h3, by simpa using h4, fun i y hy => ?_⟩
  obtain ⟨q1, q2, q3⟩ := h5 i y hy
  exact ⟨by rw [World.cell?_of_block eb]; exact q1, by rw [World.cell?_of_block eb]; exact q2, by rw [World.cell?_of_block eb]; exact q3⟩
theorem oNumber (l : List UInt8) (w : World) (hl : l.length ≤ 1048576) : Calls Tryz.prog 130 #[.string (tx l)] w fun en w' => en = .returned (.tuple #[.int .i64 (Wo.numV l), .int .i64 (Wo.numE l)]) ∧ w' = w := by
  have := Number_any (tx l) w (by rw [tx_size]; unfold maxLen; omega)
  rw [show (tx l).data.toList = l from rfl] at this
  exact this
/-- What width leaves. -/
def WidQ (w : World) (rb g : Nat) (c1 c2 c3 c4 : Value) (x : Wd) (e : Wd) (r : Except Ru.Ft Nat) (en : Ending) (w' : World) : Prop :=
  (∃ n, r = .ok n ∧ en = .returned (.tuple #[]) ∧ JOn w w' rb g (.int .i64 n) c1 c2 c3 c4 x [] e) ∨ (∃ f, r = .error f ∧ JGave w rb f en w')

set_option maxRecDepth 20000 in
set_option maxHeartbeats 1000000 in
theorem owidth_any {w : World} {rb g : Nat} {c0 c1 c2 c3 c4 : Value} {x : Wd} {l : List Wd} {e : Wd} (h : JRd w rb g c0 c1 c2 c3 c4 x l e) (hx : (Ru.nx e l).1.length ≤ 1048576) :
    Calls Tryz.prog 92 #[.pointer (some ⟨rb, 0, none⟩)] w fun en w' => WidQ w rb g c1 c2 c3 c4 x e (To.wid e l) en w' := by
  have HN := hid (onext_on (JOn.start h))
  obtain ⟨y, hy⟩ : ∃ y, y = Ru.nx e l := ⟨_, rfl⟩
  have HW : Hid (To.wid e l = if Wo.numE y.1 ≠ 0 then .error (Ru.ft y (Wo.numE y.1)) else if ¬ (1 ≤ Wo.numV y.1 ∧ Wo.numV y.1 ≤ 128) then .error (Ru.ft y 5) else if l.tail ≠ [] then .error (Ru.ft (Ru.nx e l.tail) 110) else .ok (Wo.numV y.1)) := by rw [hy]; rfl
  rw [← hy] at HN hx
  have HU := hid (fun W => oNumber y.1 W hx)
  obtain ⟨n, hn⟩ : ∃ n, n = Wo.numV y.1 := ⟨_, rfl⟩
  obtain ⟨d, hd⟩ : ∃ d, d = Wo.numE y.1 := ⟨_, rfl⟩
  rw [← hn, ← hd] at HU HW
  have HF := hid (fun (W : World) (hj : JOn w W rb g c0 c1 c2 c3 c4 x l.tail e) => ofinish_on hj)
  have hrl := h.lt
  clear h hy hn hd hx
  go_enter Tryz.func92, Tryz.ntmps92
  go_wp2_with fail
  refine HN.out.mono ?_
  rintro en w1 ⟨rfl, H1⟩
  go_wp2_with fail
  refine (HU.out _).mono ?_
  rintro en w2 ⟨rfl, rfl⟩
  by_cases h0 : d = 0
  · subst h0
    go_wp2_with fail
    refine (omust_yes _ _ _ _).mono ?_
    rintro en w3 ⟨rfl, rfl⟩
    have HI := hid (fun W => oisWidth (n : Int) W)
    obtain ⟨b, hb⟩ : ∃ b, b = decide (1 ≤ (n : Int) ∧ (n : Int) ≤ 128) := ⟨_, rfl⟩
    rw [← hb] at HI
    have HBT := hid (show (b = true → (1 ≤ n ∧ n ≤ 128)) ∧ (b = false → ¬ (1 ≤ n ∧ n ≤ 128)) by
      rw [hb]
      refine ⟨fun q => ?_, fun q => ?_⟩
      · have := of_decide_eq_true q; omega
      · have := of_decide_eq_false q; omega)
    clear hb
    go_wp2_with fail
    go_region_held2 (fun w' => w'.cell? ⟨w1.heap.size, 0, none⟩ = some (.string (tx y.1)) ∧ w'.cell? ⟨w1.heap.size, 1, none⟩ = some (.int .i64 y.2.1) ∧ w'.cell? ⟨w1.heap.size, 2, none⟩ = some (.int .i64 y.2.2)) (go_keep) (first | (go_at_call 56; refine (omust_on ((H1.out.alloc _).alloc _).drew b y 5).mono ?_; rintro en w2 (⟨HB, rfl, rfl⟩ | ⟨HB, q, rfl, hf, hg⟩); rotate_left; (exact ⟨rfl, Or.inr ⟨_, by rw [HW.out, if_neg (by simp), if_pos (HBT.out.2 HB.out)], q, rfl, hf, hg⟩⟩)) | (go_at_call 74; refine (HI.out _).mono ?_; rintro en w2 ⟨rfl, rfl⟩))
    have H2 := hid ((((H1.out.alloc (wob y)).alloc (wob y)).drew).alloc (wob y))
    go_wp2_with fail
    refine (HF.out _ H2.out).mono ?_
    rintro en w4 (⟨HL, rfl, H4⟩ | ⟨HL, q, rfl, hf, hg⟩)
    · obtain ⟨o, cap, ⟨k0, -⟩, -, -, -, kf, -⟩ := H4.out.rd.cells
      have kf0 := kf 0
      have H5 := hid (show JOn w (w4.setCell ⟨rb, 0, none⟩ (.int .i64 n)) rb g (.int .i64 n) c1 c2 c3 c4 x [] e from ⟨by have := H4.out.rd.set0 (.int .i64 (n : Int)); rw [HL.out] at this; exact this, grown_two H4.out.on (grown_set _ _ _ _)⟩)
      clear kf
      go_wp2
      exact bodyPost_end (v := .tuple #[]) (by simp [results, Tryz.results92, go_sem]) rfl (Or.inl ⟨n, by rw [HW.out, if_neg (by simp), if_neg (fun q => q (HBT.out.1 HB.out)), if_neg (fun q => q HL.out)], rfl, H5.out⟩)
    · exact ⟨rfl, Or.inr ⟨_, by rw [HW.out, if_neg (by simp), if_neg (fun q => q (HBT.out.1 HB.out)), if_pos HL.out], q, rfl, hf, hg⟩⟩
  · have h0I : ((d : Int) == 0) = false := by rw [beq_eq_false_iff_ne]; omega
    have HER := hid (show To.wid e l = .error (Ru.ft y d) by rw [HW.out, if_pos h0])
    go_wp2_with fail
    refine (omust_no (H1.out.alloc _).rd y d).mono ?_
    rintro en w3 ⟨q, rfl, hf, hg⟩
    exact ⟨rfl, Or.inr ⟨_, HER.out, q, rfl, hf, grown_two (H1.out.alloc _).on hg⟩⟩
end Go.Proofs.YtebaopiedlioiaaGreatDoor
namespace Go.Proofs.YtebaopiedlioiaaGreatDoor
open Go.RowKit
open Wo (Wd)

/-- A text's lines in memory: block g holds the lines, block G i the words of line i. -/
structure LsJ (w : World) (g : Nat) (ls : List (List Wd)) (G C : Nat → Nat) : Prop where
  old : g < w.heap.size
  line : ∀ (i : Nat) (x : List Wd), ls[i]? = some x → w.cell? ⟨g, i, none⟩ = some (.slice (some ⟨G i, 0, none⟩) x.length (C i))
  word : ∀ (i : Nat) (x : List Wd), ls[i]? = some x → G i < w.heap.size ∧ ∀ (j : Nat) (y : Wd), x[j]? = some y → w.cell? ⟨G i, j * 3, none⟩ = some (.string (tx y.1)) ∧ w.cell? ⟨G i, j * 3 + 1, none⟩ = some (.int .i64 y.2.1) ∧ w.cell? ⟨G i, j * 3 + 2, none⟩ = some (.int .i64 y.2.2)
  cap : ∀ (i : Nat) (x : List Wd), ls[i]? = some x → x.length ≤ C i ∧ C i ≤ maxLen
  small : ∀ x ∈ ls, 0 < x.length ∧ x.length ≤ 1048576 ∧ ∀ y ∈ x, y.1.length ≤ 1048576 ∧ y.2.2 ≤ 1048577
theorem LsJ.below {w w' : World} {g : Nat} {ls : List (List Wd)} {G C : Nat → Nat} (h : LsJ w g ls G C) (hb : Below w.heap.size w w') : LsJ w' g ls G C := {
  old := Nat.lt_of_lt_of_le h.old hb.size
  line := fun i x hx => by rw [hb.cell (by exact h.old)]; exact h.line i x hx
  word := fun i x hx => ⟨Nat.lt_of_lt_of_le (h.word i x hx).1 hb.size, fun j y hy => by
    have hl := (h.word i x hx).1
    obtain ⟨q1, q2, q3⟩ := (h.word i x hx).2 j y hy
    exact ⟨(hb.cell (by exact hl)).trans q1, (hb.cell (by exact hl)).trans q2, (hb.cell (by exact hl)).trans q3⟩⟩
  cap := h.cap
  small := h.small }
/-- A reader in memory, whatever its line. -/
def RawR (w : World) (rb : Nat) (c0 c1 c2 c3 c4 : Value) : Prop := ∃ d5 d6 d7 d8 d9 d10 d11 d12 d13 d14 : Value, w.heap[rb]? = some (.cells #[c0, c1, c2, c3, c4, d5, d6, d7, d8, d9, d10, d11, d12, d13, d14] 111 (0, 0))
theorem JRd.raw {w : World} {rb g : Nat} {c0 c1 c2 c3 c4 : Value} {x : Wd} {l : List Wd} {e : Wd} (h : JRd w rb g c0 c1 c2 c3 c4 x l e) : RawR w rb c0 c1 c2 c3 c4 := by
  obtain ⟨o, cap, f0, f1, f2, hc, -⟩ := h.ex
  exact ⟨_, _, _, _, _, _, _, _, _, _, hc⟩
/-- What lies in memory between two lines. -/
structure RdI (N : Nat) (w : World) (s : TSt) (vs : List (To.Dv × Value × Value)) (c1 c2 : Value) (wr : World) : Prop where
  t : wr.heap[N]? = some (tobJ (.int .i64 0) (.slice none 0 0) (.slice none 0 0))
  f : wr.heap[N + 1]? = some (fobJ (.int .i64 0) (.int .i64 0) (.int .i64 0))
  r : RawR wr (N + 4) (.int .i64 s.wid) c1 c2 (.map (some (N + 2))) (.map (some (N + 3)))
  now : wr.heap[N + 5]? = some (wob ([], 0, 0))
  num : NumAt wr (N + 2) s.nms
  tak : TakAt wr (N + 3) s.ks
  knd : wr.heap[N + 7]? = some (kndO (N + 4))
  dvs : DvO (N + 8) wr c1 vs
  ofs : vs.map (·.1) = s.ds
  lks : wr.ownsRow (N + 8) 83 4 c2 s.ls.length (flatL s.ls)
  below : Below N w wr
  size : N + 8 ≤ wr.heap.size
  ok : TOk s
section
variable {N : Nat} {w wr w' : World} {s s' : TSt} {vs vs' : List (To.Dv × Value × Value)} {c1 c2 c1' c2' : Value}
theorem RdI.far (h : RdI N w s vs c1 c2 wr) {k : Nat} (hk : k < N + 8) : c1.ownBlock ≠ some k ∧ c2.ownBlock ≠ some k := ⟨fun q => by have := (h.dvs.row.lt k q).1; omega, fun q => by have := (h.lks.lt k q).1; omega⟩
theorem RdI.next (h : RdI N w s vs c1 c2 wr) (hk : ∀ k, k < wr.heap.size → k ≠ N + 4 → k ≠ N + 2 → k ≠ N + 3 → c1.ownBlock ≠ some k → c2.ownBlock ≠ some k → w'.heap[k]? = wr.heap[k]?) (hs : wr.heap.size ≤ w'.heap.size) (ho : w'.os = wr.os) (ht : w'.tape = wr.tape) (hu : w'.output = wr.output)
    (hr : RawR w' (N + 4) (.int .i64 s'.wid) c1' c2' (.map (some (N + 2))) (.map (some (N + 3)))) (hn : NumAt w' (N + 2) s'.nms) (hK : TakAt w' (N + 3) s'.ks) (hd : DvO (N + 8) w' c1' vs') (hof : vs'.map (·.1) = s'.ds) (hl : w'.ownsRow (N + 8) 83 4 c2' s'.ls.length (flatL s'.ls)) (hok : TOk s') : RdI N w s' vs' c1' c2' w' := by
  have hz := h.size
  have e : ∀ k, k < N + 8 → k ≠ N + 4 → k ≠ N + 2 → k ≠ N + 3 → w'.heap[k]? = wr.heap[k]? := fun k h1 h2 h3 h4 => hk k (by omega) h2 h3 h4 (h.far h1).1 (h.far h1).2
  exact ⟨(e N (by omega) (by omega) (by omega) (by omega)).trans h.t, (e (N + 1) (by omega) (by omega) (by omega) (by omega)).trans h.f, hr, (e (N + 5) (by omega) (by omega) (by omega) (by omega)).trans h.now, hn, hK, (e (N + 7) (by omega) (by omega) (by omega) (by omega)).trans h.knd, hd, hof, hl,
    ⟨ho.trans h.below.os, ht.trans h.below.tape, hu.trans h.below.output, Nat.le_trans h.below.size hs, fun k hk1 => (e k (by omega) (by omega) (by omega) (by omega)).trans (h.below.block k hk1)⟩, by omega, hok⟩
end
/-- What read answers. -/
def RdPost (w : World) (ls : List (List Wd)) (en : Ending) (w' : World) : Prop :=
  Below w.heap.size w w' ∧ ((∃ f : Ru.Ft, readT ls = .error f ∧ en = .returned (.tuple #[.agg #[.int .i64 0, .slice none 0 0, .slice none 0 0], .agg #[.int .i64 f.1, .int .i64 f.2.1, .int .i64 f.2.2]])) ∨
    (∃ s vs ds' ls' c1 c2, readT ls = .ok s ∧ TOk s ∧ vs.map (·.1) = s.ds ∧ en = .returned (.tuple #[.agg #[.int .i64 s.wid, c1, c2], .agg #[.int .i64 0, .int .i64 0, .int .i64 0]]) ∧ ds'.Perm vs ∧ ds'.Pairwise (fun a b => ¬ b.1.name < a.1.name) ∧ ls'.Perm (s.ls.map (renL (posF vs ds'))) ∧ ls'.Pairwise (fun a b => ¬ ocE b.a b.p a.a a.p < 0) ∧ DvO w.heap.size w' c1 ds' ∧ w'.ownsRow w.heap.size 83 4 c2 ls'.length (flatL ls')))
/-- The deferred call of read. -/
abbrev odef (N : Nat) : Deferred := { target := Target.fn (Fn.func 55) #[.pointer (some ⟨N + 1 + 1 + 1 + 1, 0, none⟩), .pointer (some ⟨N, 0, none⟩), .pointer (some ⟨N + 1, 0, none⟩)], args := #[] }
set_option maxHeartbeats 1000000 in
/-- Where a line is at fault: the deferred call, and what is answered. -/
theorem oleave {w w' : World} {ls : List (List Wd)} {tmps : Array Value} {f : Ru.Ft} {q : Int} {x0 x1 x2 y0 y1 y2 : Value} (h2 : tmps[2]? = some (.pointer (some ⟨w.heap.size, 0, none⟩))) (h3 : tmps[3]? = some (.pointer (some ⟨w.heap.size + 1, 0, none⟩)))
    (hb : Below w.heap.size w w') (ht : w'.heap[w.heap.size]? = some (tobJ x0 x1 x2)) (hf : w'.heap[w.heap.size + 1]? = some (fobJ y0 y1 y2)) (hF : JFt w' (w.heap.size + 4) f) (hr : readT ls = .error f) :
    Leaves Tryz.prog Tryz.f28 tmps (fun en w' => RdPost w ls en w') [odef w.heap.size] (.panicking (pan q)) w' := by
  refine leaves_cons (f := 55) (args := #[.pointer (some ⟨w.heap.size + 4, 0, none⟩), .pointer (some ⟨w.heap.size, 0, none⟩), .pointer (some ⟨w.heap.size + 1, 0, none⟩)]) (by simp) (by simp [go_sem]) ?_
  refine (ocaught w.heap.size (w.heap.size + 4) f _ _ _ _ _ _ q w' hF ht hf (by omega) (by omega)).mono ?_
  rintro e u' W ⟨rfl, rfl, k0, k1, hB⟩
  have c0 := cell_at (o := 0) k0
  have c1 := cell_at (o := 1) k0
  have c2 := cell_at (o := 2) k0
  have c3 := cell_at (o := 0) k1
  have c4 := cell_at (o := 1) k1
  have c5 := cell_at (o := 2) k1
  simp only [List.getElem?_toArray, List.getElem?_cons_succ, List.getElem?_cons_zero] at c0 c1 c2 c3 c4 c5
  refine ⟨.tuple #[.agg #[.int .i64 0, .slice none 0 0, .slice none 0 0], .agg #[.int .i64 f.1, .int .i64 f.2.1, .int .i64 f.2.2]], ?_, hb.trans hB, Or.inl ⟨f, hr, rfl⟩⟩
  simp [results, Tryz.results28, go_sem, h2, h3, c0, c1, c2, c3, c4, c5]

set_option maxHeartbeats 1000000 in
theorem omust_raw {w : World} {rb : Nat} {c0 c1 c2 c3 c4 : Value} (hR : RawR w rb c0 c1 c2 c3 c4) (b : Bool) (x : Wd) (e : Nat) :
    Calls Tryz.prog 56 #[.pointer (some ⟨rb, 0, none⟩), .bool b, wv x, .int .i64 e] w fun en w' => (Hid (b = true) ∧ en = .returned (.tuple #[]) ∧ w' = w.alloc (wob x)) ∨ (Hid (b = false) ∧ JGave w rb (Ru.ft x e) en w') := by
  cases b with
  | true => exact (omust_yes _ x e w).mono fun en w' h => Or.inl ⟨rfl, h⟩
  | false =>
    obtain ⟨d5, d6, d7, d8, d9, d10, d11, d12, d13, d14, hc0⟩ := hR
    have hc := new_old w (wob x) hc0
    have k5 := cell_at (o := 12) hc
    have k6 := cell_at (o := 13) hc
    have k7 := cell_at (o := 14) hc
    simp only [List.getElem?_toArray, List.getElem?_cons_succ, List.getElem?_cons_zero] at k5 k6 k7
    have g5 : (w.alloc (wob x)).frozen? ⟨rb, 12, none⟩ = false := free_of hc
    have g6 : (w.alloc (wob x)).frozen? ⟨rb, 13, none⟩ = false := free_of hc
    have g7 : (w.alloc (wob x)).frozen? ⟨rb, 14, none⟩ = false := free_of hc
    have HF : Hid (JFt ((((w.alloc (wob x)).setCell ⟨rb, 12, none⟩ (.int .i64 x.2.1)).setCell ⟨rb, 13, none⟩ (.int .i64 x.2.2)).setCell ⟨rb, 14, none⟩ (.int .i64 e)) rb (Ru.ft x e) ∧ w.grownBy ((((w.alloc (wob x)).setCell ⟨rb, 12, none⟩ (.int .i64 x.2.1)).setCell ⟨rb, 13, none⟩ (.int .i64 x.2.2)).setCell ⟨rb, 14, none⟩ (.int .i64 e)) (some rb)) :=
      ⟨⟨_, _, _, _, _, _, _, _, _, _, _, _, by rw [block_set (o := 14) _ (block_set (o := 13) _ (block_set (o := 12) _ hc))]; rfl⟩, grown_two (grown_two (grown_two (grown_alloc _ _ _) (grown_set _ _ _ _)) (grown_set _ _ _ _)) (grown_set _ _ _ _)⟩
    clear hc hc0
    have q : Calls Tryz.prog 56 #[.pointer (some ⟨rb, 0, none⟩), .bool false, wv x, .int .i64 e] w fun en w' => JGave w rb (Ru.ft x e) en w' := by
      go_enter Tryz.func56, Tryz.ntmps56
      go_wp2
      exact ⟨rfl, e, rfl, HF.out⟩
    exact q.mono fun en w' h => Or.inr ⟨rfl, h⟩
end Go.Proofs.YtebaopiedlioiaaGreatDoor
namespace Go.Proofs.YtebaopiedlioiaaGreatDoor
open Go.RowKit
open Wo (Wd)

/-- The world ahead of the first line. -/
theorem RdI.start (w : World) : ∃ W, W = (((((((w.alloc (tobJ (.int .i64 0) (.slice none 0 0) (.slice none 0 0))).alloc (fobJ (.int .i64 0) (.int .i64 0) (.int .i64 0))).alloc (.map #[] 0)).alloc (.map #[] 0)).alloc (.cells #[.int .i64 0, .slice none 0 0, .slice none 0 0, .map (some (w.heap.size + 1 + 1)), .map (some (w.heap.size + 1 + 1 + 1)), .string ⟨#[]⟩, .int .i64 0, .int .i64 0, .slice none 0 0, .string ⟨#[]⟩, .int .i64 0, .int .i64 0, .int .i64 0, .int .i64 0, .int .i64 0] 111)).alloc (.cells #[.string ⟨#[]⟩, .int .i64 0, .int .i64 0] 74)).alloc (wob ([], 0, 0))) ∧ W.heap.size = w.heap.size + 7 ∧
    ∀ W', W'.heap[w.heap.size + 7]? = some (kndO (w.heap.size + 4)) → Below (w.heap.size + 7) W W' → RdI w.heap.size w TSt.nil [] (.slice none 0 0) (.slice none 0 0) W' := by
  refine ⟨_, rfl, by simp only [World.size_alloc], fun W' hk hb => ?_⟩
  have hz : W'.heap.size ≥ w.heap.size + 8 := lt_of_block hk
  obtain ⟨W1, h1⟩ : ∃ W1, W1 = w.alloc (tobJ (.int .i64 0) (.slice none 0 0) (.slice none 0 0)) := ⟨_, rfl⟩
  obtain ⟨W2, h2⟩ : ∃ W2, W2 = W1.alloc (fobJ (.int .i64 0) (.int .i64 0) (.int .i64 0)) := ⟨_, rfl⟩
  obtain ⟨W3, h3⟩ : ∃ W3, W3 = W2.alloc (.map #[] 0) := ⟨_, rfl⟩
  obtain ⟨W4, h4⟩ : ∃ W4, W4 = W3.alloc (.map #[] 0) := ⟨_, rfl⟩
  obtain ⟨W5, h5⟩ : ∃ W5, W5 = W4.alloc (.cells #[.int .i64 0, .slice none 0 0, .slice none 0 0, .map (some (w.heap.size + 1 + 1)), .map (some (w.heap.size + 1 + 1 + 1)), .string ⟨#[]⟩, .int .i64 0, .int .i64 0, .slice none 0 0, .string ⟨#[]⟩, .int .i64 0, .int .i64 0, .int .i64 0, .int .i64 0, .int .i64 0] 111) := ⟨_, rfl⟩
  obtain ⟨W6, h6⟩ : ∃ W6, W6 = W5.alloc (.cells #[.string ⟨#[]⟩, .int .i64 0, .int .i64 0] 74) := ⟨_, rfl⟩
  obtain ⟨W7, h7⟩ : ∃ W7, W7 = W6.alloc (wob ([], 0, 0)) := ⟨_, rfl⟩
  rw [← h1, ← h2, ← h3, ← h4, ← h5, ← h6, ← h7] at hb
  have s1 : W1.heap.size = w.heap.size + 1 := by rw [h1]; simp only [World.size_alloc]
  have s2 : W2.heap.size = w.heap.size + 2 := by rw [h2]; simp only [World.size_alloc, s1]
  have s3 : W3.heap.size = w.heap.size + 3 := by rw [h3]; simp only [World.size_alloc, s2]
  have s4 : W4.heap.size = w.heap.size + 4 := by rw [h4]; simp only [World.size_alloc, s3]
  have s5 : W5.heap.size = w.heap.size + 5 := by rw [h5]; simp only [World.size_alloc, s4]
  have s6 : W6.heap.size = w.heap.size + 6 := by rw [h6]; simp only [World.size_alloc, s5]
  have e7 : ∀ k, k < w.heap.size + 6 → W'.heap[k]? = W6.heap[k]? := fun k q => by rw [hb.block k (by omega), h7, heap_old _ _ (by omega)]
  have e6 : ∀ k, k < w.heap.size + 5 → W'.heap[k]? = W5.heap[k]? := fun k q => by rw [e7 k (by omega), h6, heap_old _ _ (by omega)]
  have e5 : ∀ k, k < w.heap.size + 4 → W'.heap[k]? = W4.heap[k]? := fun k q => by rw [e6 k (by omega), h5, heap_old _ _ (by omega)]
  have e4 : ∀ k, k < w.heap.size + 3 → W'.heap[k]? = W3.heap[k]? := fun k q => by rw [e5 k (by omega), h4, heap_old _ _ (by omega)]
  have e3 : ∀ k, k < w.heap.size + 2 → W'.heap[k]? = W2.heap[k]? := fun k q => by rw [e4 k (by omega), h3, heap_old _ _ (by omega)]
  have e2 : ∀ k, k < w.heap.size + 1 → W'.heap[k]? = W1.heap[k]? := fun k q => by rw [e3 k (by omega), h2, heap_old _ _ (by omega)]
  have e1 : ∀ k, k < w.heap.size → W'.heap[k]? = w.heap[k]? := fun k q => by rw [e2 k (by omega), h1, heap_old _ _ (by omega)]
  refine ⟨(e2 _ (by omega)).trans (by rw [h1]; exact new_0 _ _), (e3 _ (by omega)).trans (by rw [h2]; exact new_atJ _ s1.symm), ?_, (e7 _ (by omega)).trans (by rw [h6]; exact new_atJ _ s5.symm), ?_, ?_, hk, DvO.nil _ _, rfl, World.ownsRow_nil _ _ _ _, ?_, hz, TOk.nil⟩
  · refine ⟨.string ⟨#[]⟩, .int .i64 0, .int .i64 0, .slice none 0 0, .string ⟨#[]⟩, .int .i64 0, .int .i64 0, .int .i64 0, .int .i64 0, .int .i64 0, (e6 _ (by omega)).trans ?_⟩
    rw [h5]
    exact new_atJ _ s4.symm
  · have := NumAt.new W2
    rw [← h3, s2] at this
    exact this.same (e4 _ (by omega))
  · have := TakAt.new W3
    rw [← h4, s3] at this
    exact this.same (e5 _ (by omega))
  · have o1 := hb.os
    have o2 := hb.tape
    have o3 := hb.output
    have o4 := hb.size
    rw [h7, h6, h5, h4, h3, h2, h1] at o1 o2 o3
    exact ⟨o1, o2, o3, by omega, e1⟩
end Go.Proofs.YtebaopiedlioiaaGreatDoor
namespace Go.Proofs.YtebaopiedlioiaaGreatDoor
open Go.RowKit
open Wo (Wd)

section
variable {N g : Nat} {w wr w' : World} {s : TSt} {vs : List (To.Dv × Value × Value)} {c1 c2 : Value} {x e : Wd} {t : List Wd}
theorem RdI.on (h : RdI N w s vs c1 c2 wr) {l : List Wd} {y z : Wd} {n : Nat} (hn : n ≤ 128) (hj : JOn wr w' (N + 4) g (.int .i64 n) c1 c2 (.map (some (N + 2))) (.map (some (N + 3))) y l z) : RdI N w { s with wid := n } vs c1 c2 w' := by
  have hz := h.size
  have hb : ∀ k, k < wr.heap.size → k ≠ N + 4 → w'.heap[k]? = wr.heap[k]? := fun k h1 h2 => hj.on.block k h1 (fun q => h2 (by injection q))
  exact h.next (s' := { s with wid := n }) (fun k h1 h2 _ _ _ _ => hb k h1 h2) hj.on.size hj.on.os hj.on.tape hj.on.output hj.rd.raw (h.num.same (hb _ (by omega) (by omega))) (h.tak.same (hb _ (by omega) (by omega))) (h.dvs.keep fun k h1 h2 => hb k h2 (by omega)) h.ofs (own_sameJ h.lks fun k q => hb k (h.lks.lt k q).2 (by have := (h.lks.lt k q).1; omega)) (h.ok.width hn)
theorem RdI.grew (h : RdI N w s vs c1 c2 wr) (hb : Below wr.heap.size wr w') : RdI N w s vs c1 c2 w' := by
  have hz := h.size
  obtain ⟨d5, d6, d7, d8, d9, d10, d11, d12, d13, d14, hr⟩ := h.r
  exact h.next (fun k h1 _ _ _ _ _ => hb.block k h1) hb.size hb.os hb.tape hb.output ⟨d5, d6, d7, d8, d9, d10, d11, d12, d13, d14, (hb.block _ (by omega)).trans hr⟩ (h.num.same (hb.block _ (by omega))) (h.tak.same (hb.block _ (by omega))) (h.dvs.keep fun k _ h2 => hb.block k h2) h.ofs (own_sameJ h.lks fun k q => hb.block k (h.lks.lt k q).2) h.ok
theorem RdI.gave (h : RdI N w s vs c1 c2 wr) (hg : Gr2 wr w' (N + 4) (N + 3)) : Below N w w' ∧ w'.heap[N]? = some (tobJ (.int .i64 0) (.slice none 0 0) (.slice none 0 0)) ∧ w'.heap[N + 1]? = some (fobJ (.int .i64 0) (.int .i64 0) (.int .i64 0)) := by
  have hz := h.size
  exact ⟨⟨hg.os.trans h.below.os, hg.tape.trans h.below.tape, hg.output.trans h.below.output, Nat.le_trans h.below.size hg.size, fun k hk => (hg.block k (by omega) (by omega) (by omega)).trans (h.below.block k hk)⟩, (hg.block N (by omega) (by omega) (by omega)).trans h.t, (hg.block (N + 1) (by omega) (by omega) (by omega)).trans h.f⟩
theorem RdI.device (h : RdI N w s vs c1 c2 wr) {en : Ending} {d : To.Dv} (hsm : (Ru.nx e t).1.length ≤ 1048576) (hd : To.dev x e s.nms t = .ok d) (hq : DevQ (N + 8) wr (N + 4) g (N + 2) (.int .i64 s.wid) c1 c2 (.map (some (N + 3))) x e s.nms vs.length (flatD vs) (.ok d) en w') : ∃ vs' c1', en = .returned (.tuple #[]) ∧ RdI N w { s with ds := s.ds ++ [d] } vs' c1' c2 w' := by
  have hz := h.size
  rcases hq with ⟨d', vc, vp, v', h1, h2, h3, h4, h5, h6, h7, h8, h9, ho, ht, hu, hk⟩ | ⟨f, hf, _⟩
  · injection h1 with h1
    subst h1
    obtain ⟨k1, k2, k3⟩ := dev_ok hd hsm
    refine ⟨vs ++ [(d, vc, vp)], v', h2, h.next (s' := { s with ds := s.ds ++ [d] }) (fun k q1 q2 q3 q4 q5 q6 => hk k q1 q2 q3 q5) h9 ho ht hu h3.raw ?_ (h.tak.same (hk _ (by omega) (by omega) (by omega) (h.far (by omega)).1)) ?_ ?_ (own_sameJ h.lks fun k q => hk k (h.lks.lt k q).2 (by have := (h.lks.lt k q).1; omega) (by have := (h.lks.lt k q).1; omega) (own_apartJ h.lks h.dvs.row Tryz.lnkNeJ q)) (h.ok.device k1 k2 k3)⟩
    · show NumAt w' (N + 2) ((s.ds ++ [d]).map (·.name))
      rw [List.map_append]
      exact h4
    · exact h.dvs.snoc (rb := N + 4) (nb := N + 2) (by omega) (by omega) hz h5 h6 h7 hk
    · rw [List.map_append, h.ofs]; rfl
  · cases hf
theorem RdI.link (h : RdI N w s vs c1 c2 wr) {en : Ending} {a b : Nat × List UInt8} (hd : lnkJ (fun p m => hasP s.ds p m) s.nms s.ks x e s.ls.length t = .ok (a, b)) (hq : LnkQ (N + 8) wr (N + 4) g (N + 2) (N + 3) (.int .i64 s.wid) c1 c2 x e s.nms s.ks s.ls.length (flatL s.ls) (.ok (a, b)) en w') : ∃ c2', en = .returned (.tuple #[]) ∧ RdI N w { s with ls := s.ls ++ [jndL a b], ks := s.ks ++ [a] ++ [b] } vs c1 c2' w' := by
  have hz := h.size
  rcases hq with ⟨a', b', v', h1, h2, h3, h4, h5, h6, h7, h8, ho, ht, hu, hk⟩ | ⟨f, hf, _⟩
  · injection h1 with h1
    injection h1 with ha hb
    subst ha hb
    obtain ⟨k1, k2, k3⟩ := lnkJ_ok hd
    refine ⟨v', h2, h.next (s' := { s with ls := s.ls ++ [jndL a b], ks := s.ks ++ [a] ++ [b] }) (fun k q1 q2 q3 q4 q5 q6 => hk k q1 q2 q4 q6) h8 ho ht hu h3.raw h4 h5 ⟨?_, fun q hq => ?_, fun q hq => ?_⟩ h.ofs ?_ (h.ok.link k1 k2 k3)⟩
    · exact own_sameJ h.dvs.row fun k q => hk k (h.dvs.row.lt k q).2 (by have := (h.dvs.row.lt k q).1; omega) (by have := (h.dvs.row.lt k q).1; omega) (own_apartJ h.dvs.row h.lks (fun e => Tryz.lnkNeJ e.symm) q)
    · have hc := h.dvs.cls q hq
      exact own_sameJ hc fun k r => hk k (hc.lt k r).2 (by have := (hc.lt k r).1; omega) (by have := (hc.lt k r).1; omega) (own_apartJ hc h.lks (fun e => Tryz.lnkNeS e.symm) r)
    · have hc := h.dvs.prt q hq
      exact own_sameJ hc fun k r => hk k (hc.lt k r).2 (by have := (hc.lt k r).1; omega) (by have := (hc.lt k r).1; omega) (own_apartJ hc h.lks (fun e => Tryz.lnkNeS e.symm) r)
    · show w'.ownsRow (N + 8) 83 4 v' (s.ls ++ [jndL a b]).length (flatL (s.ls ++ [jndL a b]))
      rw [List.length_append, List.length_singleton, flatL_app, flatL_one, ← jndL_cells]
      exact h6
  · cases hf
end
theorem run_error {ls : List (List Wd)} {k : Nat} {s : TSt} {a : Wd} {t : List Wd} {f : Ru.Ft} (h : rdsT 0 TSt.nil ls = rdsT k s (ls.drop k)) (hd : ls[k]? = some (a :: t)) (he : linT k s a (Ru.endW (a :: t)) t = .error f) : readT ls = .error f := by
  have hk := (List.getElem?_eq_some_iff.1 hd).1
  have e1 : ls.drop k = (a :: t) :: ls.drop (k + 1) := by
    rw [List.drop_eq_getElem_cons hk]
    congr 1
    rw [List.getElem?_eq_getElem hk] at hd
    exact Option.some.inj hd
  rw [e1, rdsT_cons, he] at h
  unfold readT
  rw [if_neg (fun q => by rw [q] at hk; exact absurd hk (Nat.not_lt_zero _)), h]
theorem run_next {ls : List (List Wd)} {k : Nat} {s s' : TSt} {a : Wd} {t : List Wd} (h : rdsT 0 TSt.nil ls = rdsT k s (ls.drop k)) (hd : ls[k]? = some (a :: t)) (he : linT k s a (Ru.endW (a :: t)) t = .ok s') : rdsT 0 TSt.nil ls = rdsT (k + 1) s' (ls.drop (k + 1)) := by
  have hk := (List.getElem?_eq_some_iff.1 hd).1
  have e1 : ls.drop k = (a :: t) :: ls.drop (k + 1) := by
    rw [List.drop_eq_getElem_cons hk]
    congr 1
    rw [List.getElem?_eq_getElem hk] at hd
    exact Option.some.inj hd
  rw [e1, rdsT_cons, he] at h
  exact h
/-- All lines are read, and put in order. -/
theorem rd_done {w w2 w3 V : World} {s : TSt} {vs : List (To.Dv × Value × Value)} {c1 c2 : Value} {ls : List (List Wd)} (hI : RdI w.heap.size w s vs c1 c2 w2) (hO : OrdQ (w.heap.size + 8) w2 c1 c2 vs s.ls w3) (bV : Below w.heap.size w3 V) (vk : ∀ k, k ≠ w.heap.size → k ≠ w.heap.size + 1 → V.heap[k]? = w3.heap[k]?) (hr : readT ls = .ok s) :
    RdPost w ls (.returned (.tuple #[.agg #[.int .i64 s.wid, c1, c2], .agg #[.int .i64 0, .int .i64 0, .int .i64 0]])) V := by
  obtain ⟨ds', ls', p1, p2, p3, p4, hd, hl, hs, o1, o2, o3, hkeep⟩ := hO
  have hz := hI.size
  have hb := hI.below
  refine ⟨⟨bV.os.trans (o1.trans hb.os), bV.tape.trans (o2.trans hb.tape), bV.output.trans (o3.trans hb.output), ?_, fun k hk => ?_⟩, Or.inr ⟨s, vs, ds', ls', _, _, hr, hI.ok, hI.ofs, rfl, p1, p2, p3, p4, ⟨?_, fun q hq => ?_, fun q hq => ?_⟩, ?_⟩⟩
  · have := bV.size; have := hb.size; omega
  · rw [bV.block k hk, hkeep k (by omega) (hI.far (by omega)).1 (hI.far (by omega)).2, hb.block k hk]
  · exact own_sameJ (own_baseJ hd.row (by omega)) fun k q => vk k (by have := (hd.row.lt k q).1; omega) (by have := (hd.row.lt k q).1; omega)
  · have hc := hd.cls q hq
    exact own_sameJ (own_baseJ hc (by omega)) fun k r => vk k (by have := (hc.lt k r).1; omega) (by have := (hc.lt k r).1; omega)
  · have hc := hd.prt q hq
    exact own_sameJ (own_baseJ hc (by omega)) fun k r => vk k (by have := (hc.lt k r).1; omega) (by have := (hc.lt k r).1; omega)
  · exact own_sameJ (own_baseJ hl (by omega)) fun k q => vk k (by have := (hl.lt k q).1; omega) (by have := (hl.lt k q).1; omega)
/-- What the two results hold when read is done. -/
theorem rd_boxes {w3 : World} {N : Nat} {x0 x1 x2 y0 y1 y2 a b c : Value} (ht : w3.heap[N]? = some (tobJ x0 x1 x2)) (hf : w3.heap[N + 1]? = some (fobJ y0 y1 y2)) : ∃ V, V = ((((((w3.setCell ⟨N, 0, none⟩ a).setCell ⟨N, 1, none⟩ b).setCell ⟨N, 2, none⟩ c).setCell ⟨N + 1, 0, none⟩ (.int .i64 0)).setCell ⟨N + 1, 1, none⟩ (.int .i64 0)).setCell ⟨N + 1, 2, none⟩ (.int .i64 0)) ∧
    (V.cell? ⟨N, 0, none⟩ = some a ∧ V.cell? ⟨N, 1, none⟩ = some b ∧ V.cell? ⟨N, 2, none⟩ = some c ∧ V.cell? ⟨N + 1, 0, none⟩ = some (.int .i64 0) ∧ V.cell? ⟨N + 1, 1, none⟩ = some (.int .i64 0) ∧ V.cell? ⟨N + 1, 2, none⟩ = some (.int .i64 0)) ∧ Below N w3 V ∧ ∀ k, k ≠ N → k ≠ N + 1 → V.heap[k]? = w3.heap[k]? := by
  have hne : N ≠ N + 1 := by omega
  have hne' : N + 1 ≠ N := by omega
  refine ⟨_, rfl, ?_, ?_, fun k h1 h2 => ?_⟩
  · have e1 : (((w3.setCell ⟨N, 0, none⟩ a).setCell ⟨N, 1, none⟩ b).setCell ⟨N, 2, none⟩ c).heap[N + 1]? = some (fobJ y0 y1 y2) := by
      rw [Below.heap_setCell _ _ _ _ hne', Below.heap_setCell _ _ _ _ hne', Below.heap_setCell _ _ _ _ hne', hf]
    have vf := block_set (o := 2) (.int .i64 0) (block_set (o := 1) (.int .i64 0) (block_set (o := 0) (.int .i64 0) e1))
    have vt : ((((((w3.setCell ⟨N, 0, none⟩ a).setCell ⟨N, 1, none⟩ b).setCell ⟨N, 2, none⟩ c).setCell ⟨N + 1, 0, none⟩ (.int .i64 0)).setCell ⟨N + 1, 1, none⟩ (.int .i64 0)).setCell ⟨N + 1, 2, none⟩ (.int .i64 0)).heap[N]? = some (tobJ a b c) := by
      rw [Below.heap_setCell _ _ _ _ hne, Below.heap_setCell _ _ _ _ hne, Below.heap_setCell _ _ _ _ hne]
      exact block_set (o := 2) c (block_set (o := 1) b (block_set (o := 0) a ht))
    refine ⟨?_, ?_, ?_, ?_, ?_, ?_⟩
    · rw [cell_at vt]; rfl
    · rw [cell_at vt]; rfl
    · rw [cell_at vt]; rfl
    · rw [cell_at vf]; rfl
    · rw [cell_at vf]; rfl
    · rw [cell_at vf]; rfl
  · have hs : N ≤ N + 1 := Nat.le_succ _
    repeat (refine Below.setCell ?_ (by dsimp only; omega) _)
    exact Below.refl _ _
  · rw [Below.heap_setCell _ _ _ _ h2, Below.heap_setCell _ _ _ _ h2, Below.heap_setCell _ _ _ _ h2, Below.heap_setCell _ _ _ _ h1, Below.heap_setCell _ _ _ _ h1, Below.heap_setCell _ _ _ _ h1]
end Go.Proofs.YtebaopiedlioiaaGreatDoor
