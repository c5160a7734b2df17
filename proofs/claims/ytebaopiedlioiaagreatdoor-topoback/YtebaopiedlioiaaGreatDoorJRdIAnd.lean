/-
  topo.Parse: a text's topology, or its first fault.
  The topology of a text's lines, or its first fault: the walk of read.
  The reader of topologies: what lies in memory behind each kind of line.
  The topology of a text's lines, or its first fault: read.
  The reader of topologies: what lies in memory between two lines; where a line is at fault.
-/
import Derived.Test.YtebaopiedlioiaaGreatDoorJDvOAnd
import Derived.Test.YtebaopiedlioiaaGreatDoorJOrdrAnd
import Derived.Test.YtebaopiedlioiaaGreatDoorWSkipAnd
namespace Go.Proofs.YtebaopiedlioiaaGreatDoor
open Go.RowKit
open Wo (Wd)

/-- A text's lines in memory: block g holds the lines, block G i the words of line i. -/
structure LsJ (w : World) (g : Nat) (ls : List (List Wd)) (G C : Nat → Nat) : Prop where
  old : g < w.heap.size
  line : ∀ (i : Nat) (x : List Wd), ls[i]? = some x → w.cell? ⟨g, i, none⟩ = some (.slice (some ⟨G i, 0, none⟩) x.length (C i))
  word : ∀ (i : Nat) (x : List Wd), ls[i]? = some x → G i < w.heap.size ∧ ∀ (j : Nat) (y : Wd), x[j]? = some y → w.cell? ⟨G i, j * 3, none⟩ = some (.string (tx y.1)) ∧ w.cell? ⟨G i, j * 3 + 1, none⟩ = some (.int .i64 y.2.1) ∧ w.cell? ⟨G i, j * 3 + 2, none⟩ = some (.int .i64 y.2.2)
  cap : ∀ (i : Nat) (x : List Wd), ls[i]? = some x → x.length ≤ C i ∧ C i ≤ maxLen
  small : ∀ x ∈ ls, 0 < x.length ∧ x.length ≤ 1048576 ∧ ∀ y ∈ x, y.1.length ≤ 1048576 ∧ y.2.2 ≤ 1048577
theorem LsJ.below {w w' : World} {g : Nat} {ls : List (List Wd)} {G C : Nat → Nat} (h : LsJ w g ls G C) (hb : Below w.heap.size w w') : LsJ w' g ls G C := {
  old := Nat.lt_of_lt_of_le h.old hb.size
  line := fun i x hx => by rw [hb.cell (by exact h.old)]; exact h.line i x hx
  word := fun i x hx => ⟨Nat.lt_of_lt_of_le (h.word i x hx).1 hb.size, fun j y hy => by
    have hl := (h.word i x hx).1
    obtain ⟨q1, q2, q3⟩ := (h.word i x hx).2 j y hy
    exact ⟨(hb.cell (by exact hl)).trans q1, (hb.cell (by exact hl)).trans q2, (hb.cell (by exact hl)).trans q3⟩⟩
  cap := h.cap
  small := h.small }
/-- A reader in memory, whatever its line. -/
def RawR (w : World) (rb : Nat) (c0 c1 c2 c3 c4 : Value) : Prop := ∃ d5 d6 d7 d8 d9 d10 d11 d12 d13 d14 : Value, w.heap[rb]? = some (.cells #[c0, c1, c2, c3, c4, d5, d6, d7, d8, d9, d10, d11, d12, d13, d14] 111 (0, 0))
theorem JRd.raw {w : World} {rb g : Nat} {c0 c1 c2 c3 c4 : Value} {x : Wd} {l : List Wd} {e : Wd} (h : JRd w rb g c0 c1 c2 c3 c4 x l e) : RawR w rb c0 c1 c2 c3 c4 := by
  obtain ⟨o, cap, f0, f1, f2, hc, -⟩ := h.ex
  exact ⟨_, _, _, _, _, _, _, _, _, _, hc⟩
/-- What lies in memory between two lines. -/
structure RdI (N : Nat) (w : World) (s : TSt) (vs : List (To.Dv × Value × Value)) (c1 c2 : Value) (wr : World) : Prop where
  t : wr.heap[N]? = some (tobJ (.int .i64 0) (.slice none 0 0) (.slice none 0 0))
  f : wr.heap[N + 1]? = some (fobJ (.int .i64 0) (.int .i64 0) (.int .i64 0))
  r : RawR wr (N + 4) (.int .i64 s.wid) c1 c2 (.map (some (N + 2))) (.map (some (N + 3)))
  now : wr.heap[N + 5]? = some (wob ([], 0, 0))
  num : NumAt wr (N + 2) s.nms
  tak : TakAt wr (N + 3) s.ks
  knd : wr.heap[N + 7]? = some (kndO (N + 4))
  dvs : DvO (N + 8) wr c1 vs
  ofs : vs.map (·.1) = s.ds
  lks : wr.ownsRow (N + 8) 83 4 c2 s.ls.length (flatL s.ls)
  below : Below N w wr
  size : N + 8 ≤ wr.heap.size
  ok : TOk s
section
variable {N : Nat} {w wr w' : World} {s s' : TSt} {vs vs' : List (To.Dv × Value × Value)} {c1 c2 c1' c2' : Value}
theorem RdI.far (h : RdI N w s vs c1 c2 wr) {k : Nat} (hk : k < N + 8) : c1.ownBlock ≠ some k ∧ c2.ownBlock ≠ some k := ⟨fun q => by have := (h.dvs.row.lt k q).1; omega, fun q => by have := (h.lks.lt k q).1; omega⟩
theorem RdI.next (h : RdI N w s vs c1 c2 wr) (hk : ∀ k, k < wr.heap.size → k ≠ N + 4 → k ≠ N + 2 → k ≠ N + 3 → c1.ownBlock ≠ some k → c2.ownBlock ≠ some k → w'.heap[k]? = wr.heap[k]?) (hs : wr.heap.size ≤ w'.heap.size) (ho : w'.os = wr.os) (ht : w'.tape = wr.tape) (hu : w'.output = wr.output)
    (hr : RawR w' (N + 4) (.int .i64 s'.wid) c1' c2' (.map (some (N + 2))) (.map (some (N + 3)))) (hn : NumAt w' (N + 2) s'.nms) (hK : TakAt w' (N + 3) s'.ks) (hd : DvO (N + 8) w' c1' vs') (hof : vs'.map (·.1) = s'.ds) (hl : w'.ownsRow (N + 8) 83 4 c2' s'.ls.length (flatL s'.ls)) (hok : TOk s') : RdI N w s' vs' c1' c2' w' := by
  have hz := h.size
  have e : ∀ k, k < N + 8 → k ≠ N + 4 → k ≠ N + 2 → k ≠ N + 3 → w'.heap[k]? = wr.heap[k]? := fun k h1 h2 h3 h4 => hk k (by omega) h2 h3 h4 (h.far h1).1 (h.far h1).2
  exact ⟨(e N (by omega) (by omega) (by omega) (by omega)).trans h.t, (e (N + 1) (by omega) (by omega) (by omega) (by omega)).trans h.f, hr, (e (N + 5) (by omega) (by omega) (by omega) (by omega)).trans h.now, hn, hK, (e (N + 7) (by omega) (by omega) (by omega) (by omega)).trans h.knd, hd, hof, hl,
    ⟨ho.trans h.below.os, ht.trans h.below.tape, hu.trans h.below.output, Nat.le_trans h.below.size hs, fun k hk1 => (e k (by omega) (by omega) (by omega) (by omega)).trans (h.below.block k hk1)⟩, by omega, hok⟩
end
/-- What read answers. -/
def RdPost (w : World) (ls : List (List Wd)) (en : Ending) (w' : World) : Prop :=
  Below w.heap.size w w' ∧ ((∃ f : Ru.Ft, readT ls = .error f ∧ en = .returned (.tuple #[.agg #[.int .i64 0, .slice none 0 0, .slice none 0 0], .agg #[.int .i64 f.1, .int .i64 f.2.1, .int .i64 f.2.2]])) ∨
    (∃ s vs ds' ls' c1 c2, readT ls = .ok s ∧ TOk s ∧ vs.map (·.1) = s.ds ∧ en = .returned (.tuple #[.agg #[.int .i64 s.wid, c1, c2], .agg #[.int .i64 0, .int .i64 0, .int .i64 0]]) ∧ ds'.Perm vs ∧ ds'.Pairwise (fun a b => ¬ b.1.name < a.1.name) ∧ ls'.Perm (s.ls.map (renL (posF vs ds'))) ∧ ls'.Pairwise (fun a b => ¬ ocE b.a b.p a.a a.p < 0) ∧ DvO w.heap.size w' c1 ds' ∧ w'.ownsRow w.heap.size 83 4 c2 ls'.length (flatL ls')))
/-- The deferred call of read. -/
abbrev odef (N : Nat) : Deferred := { target := Target.fn (Fn.func 55) #[.pointer (some ⟨N + 1 + 1 + 1 + 1, 0, none⟩), .pointer (some ⟨N, 0, none⟩), .pointer (some ⟨N + 1, 0, none⟩)], args := #[] }
set_option maxHeartbeats 1000000 in
/-- Where a line is at fault: the deferred call, and what is answered. -/
theorem oleave {w w' : World} {ls : List (List Wd)} {tmps : Array Value} {f : Ru.Ft} {q : Int} {x0 x1 x2 y0 y1 y2 : Value} (h2 : tmps[2]? = some (.pointer (some ⟨w.heap.size, 0, none⟩))) (h3 : tmps[3]? = some (.pointer (some ⟨w.heap.size + 1, 0, none⟩)))
    (hb : Below w.heap.size w w') (ht : w'.heap[w.heap.size]? = some (tobJ x0 x1 x2)) (hf : w'.heap[w.heap.size + 1]? = some (fobJ y0 y1 y2)) (hF : JFt w' (w.heap.size + 4) f) (hr : readT ls = .error f) :
    Leaves Tryz.prog Tryz.f28 tmps (fun en w' => RdPost w ls en w') [odef w.heap.size] (.panicking (pan q)) w' := by
  refine leaves_cons (f := 55) (args := #[.pointer (some ⟨w.heap.size + 4, 0, none⟩), .pointer (some ⟨w.heap.size, 0, none⟩), .pointer (some ⟨w.heap.size + 1, 0, none⟩)]) (by simp) (by simp [go_sem]) ?_
  refine (ocaught w.heap.size (w.heap.size + 4) f _ _ _ _ _ _ q w' hF ht hf (by omega) (by omega)).mono ?_
  rintro e u' W ⟨rfl, rfl, k0, k1, hB⟩
  have c0 := cell_at (o := 0) k0
  have c1 := cell_at (o := 1) k0
  have c2 := cell_at (o := 2) k0
  have c3 := cell_at (o := 0) k1
  have c4 := cell_at (o := 1) k1
  have c5 := cell_at (o := 2) k1
  simp only [List.getElem?_toArray, List.getElem?_cons_succ, List.getElem?_cons_zero] at c0 c1 c2 c3 c4 c5
  refine ⟨.tuple #[.agg #[.int .i64 0, .slice none 0 0, .slice none 0 0], .agg #[.int .i64 f.1, .int .i64 f.2.1, .int .i64 f.2.2]], ?_, hb.trans hB, Or.inl ⟨f, hr, rfl⟩⟩
  simp [results, Tryz.results28, go_sem, h2, h3, c0, c1, c2, c3, c4, c5]

set_option maxHeartbeats 1000000 in
theorem omust_raw {w : World} {rb : Nat} {c0 c1 c2 c3 c4 : Value} (hR : RawR w rb c0 c1 c2 c3 c4) (b : Bool) (x : Wd) (e : Nat) :
    Calls Tryz.prog 56 #[.pointer (some ⟨rb, 0, none⟩), .bool b, wv x, .int .i64 e] w fun en w' => (Hid (b = true) ∧ en = .returned (.tuple #[]) ∧ w' = w.alloc (wob x)) ∨ (Hid (b = false) ∧ JGave w rb (Ru.ft x e) en w') := by
  cases b with
  | true => exact (omust_yes _ x e w).mono fun en w' h => Or.inl ⟨rfl, h⟩
  | false =>
    obtain ⟨d5, d6, d7, d8, d9, d10, d11, d12, d13, d14, hc0⟩ := hR
    have hc := new_old w (wob x) hc0
    have k5 := cell_at (o := 12) hc
    have k6 := cell_at (o := 13) hc
    have k7 := cell_at (o := 14) hc
    simp only [List.getElem?_toArray, List.getElem?_cons_succ, List.getElem?_cons_zero] at k5 k6 k7
    have g5 : (w.alloc (wob x)).frozen? ⟨rb, 12, none⟩ = false := free_of hc
    have g6 : (w.alloc (wob x)).frozen? ⟨rb, 13, none⟩ = false := free_of hc
    have g7 : (w.alloc (wob x)).frozen? ⟨rb, 14, none⟩ = false := free_of hc
    have HF : Hid (JFt ((((w.alloc (wob x)).setCell ⟨rb, 12, none⟩ (.int .i64 x.2.1)).setCell ⟨rb, 13, none⟩ (.int .i64 x.2.2)).setCell ⟨rb, 14, none⟩ (.int .i64 e)) rb (Ru.ft x e) ∧ w.grownBy ((((w.alloc (wob x)).setCell ⟨rb, 12, none⟩ (.int .i64 x.2.1)).setCell ⟨rb, 13, none⟩ (.int .i64 x.2.2)).setCell ⟨rb, 14, none⟩ (.int .i64 e)) (some rb)) :=
      ⟨⟨_, _, _, _, _, _, _, _, _, _, _, _, by rw [block_set (o := 14) _ (block_set (o := 13) _ (block_set (o := 12) _ hc))]; rfl⟩, grown_two (grown_two (grown_two (grown_alloc _ _ _) (grown_set _ _ _ _)) (grown_set _ _ _ _)) (grown_set _ _ _ _)⟩
    clear hc hc0
    have q : Calls Tryz.prog 56 #[.pointer (some ⟨rb, 0, none⟩), .bool false, wv x, .int .i64 e] w fun en w' => JGave w rb (Ru.ft x e) en w' := by
      go_enter Tryz.func56, Tryz.ntmps56
      go_wp2
      exact ⟨rfl, e, rfl, HF.out⟩
    exact q.mono fun en w' h => Or.inr ⟨rfl, h⟩
end Go.Proofs.YtebaopiedlioiaaGreatDoor
namespace Go.Proofs.YtebaopiedlioiaaGreatDoor
open Go.RowKit
open Wo (Wd)

/-- The world ahead of the first line. -/
theorem RdI.start (w : World) : ∃ W, W = (((((((w.alloc (tobJ (.int .i64 0) (.slice none 0 0) (.slice none 0 0))).alloc (fobJ (.int .i64 0) (.int .i64 0) (.int .i64 0))).alloc (.map #[] 0)).alloc (.map #[] 0)).alloc (.cells #[.int .i64 0, .slice none 0 0, .slice none 0 0, .map (some (w.heap.size + 1 + 1)), .map (some (w.heap.size + 1 + 1 + 1)), .string ⟨#[]⟩, .int .i64 0, .int .i64 0, .slice none 0 0, .string ⟨#[]⟩, .int .i64 0, .int .i64 0, .int .i64 0, .int .i64 0, .int .i64 0] 111)).alloc (.cells #[.string ⟨#[]⟩, .int .i64 0, .int .i64 0] 74)).alloc (wob ([], 0, 0))) ∧ W.heap.size = w.heap.size + 7 ∧
    ∀ W', W'.heap[w.heap.size + 7]? = some (kndO (w.heap.size + 4)) → Below (w.heap.size + 7) W W' → RdI w.heap.size w TSt.nil [] (.slice none 0 0) (.slice none 0 0) W' := by
  refine ⟨_, rfl, by simp only [World.size_alloc], fun W' hk hb => ?_⟩
  have hz : W'.heap.size ≥ w.heap.size + 8 := lt_of_block hk
  obtain ⟨W1, h1⟩ : ∃ W1, W1 = w.alloc (tobJ (.int .i64 0) (.slice none 0 0) (.slice none 0 0)) := ⟨_, rfl⟩
  obtain ⟨W2, h2⟩ : ∃ W2, W2 = W1.alloc (fobJ (.int .i64 0) (.int .i64 0) (.int .i64 0)) := ⟨_, rfl⟩
  obtain ⟨W3, h3⟩ : ∃ W3, W3 = W2.alloc (.map #[] 0) := ⟨_, rfl⟩
  obtain ⟨W4, h4⟩ : ∃ W4, W4 = W3.alloc (.map #[] 0) := ⟨_, rfl⟩
  obtain ⟨W5, h5⟩ : ∃ W5, W5 = W4.alloc (.cells #[.int .i64 0, .slice none 0 0, .slice none 0 0, .map (some (w.heap.size + 1 + 1)), .map (some (w.heap.size + 1 + 1 + 1)), .string ⟨#[]⟩, .int .i64 0, .int .i64 0, .slice none 0 0, .string ⟨#[]⟩, .int .i64 0, .int .i64 0, .int .i64 0, .int .i64 0, .int .i64 0] 111) := ⟨_, rfl⟩
  obtain ⟨W6, h6⟩ : ∃ W6, W6 = W5.alloc (.cells #[.string ⟨#[]⟩, .int .i64 0, .int .i64 0] 74) := ⟨_, rfl⟩
  obtain ⟨W7, h7⟩ : ∃ W7, W7 = W6.alloc (wob ([], 0, 0)) := ⟨_, rfl⟩
  rw [← h1, ← h2, ← h3, ← h4, ← h5, ← h6, ← h7] at hb
  have s1 : W1.heap.size = w.heap.size + 1 := by rw [h1]; simp only [World.size_alloc]
  have s2 : W2.heap.size = w.heap.size + 2 := by rw [h2]; simp only [World.size_alloc, s1]
  have s3 : W3.heap.size = w.heap.size + 3 := by rw [h3]; simp only [World.size_alloc, s2]
  have s4 : W4.heap.size = w.heap.size + 4 := by rw [h4]; simp only [World.size_alloc, s3]
  have s5 : W5.heap.size = w.heap.size + 5 := by rw [h5]; simp only [World.size_alloc, s4]
  have s6 : W6.heap.size = w.heap.size + 6 := by rw [h6]; simp only [World.size_alloc, s5]
  have e7 : ∀ k, k < w.heap.size + 6 → W'.heap[k]? = W6.heap[k]? := fun k q => by rw [hb.block k (by omega), h7, heap_old _ _ (by omega)]
  have e6 : ∀ k, k < w.heap.size + 5 → W'.heap[k]? = W5.heap[k]? := fun k q => by rw [e7 k (by omega), h6, heap_old _ _ (by omega)]
  have e5 : ∀ k, k < w.heap.size + 4 → W'.heap[k]? = W4.heap[k]? := fun k q => by rw [e6 k (by omega), h5, heap_old _ _ (by omega)]
  have e4 : ∀ k, k < w.heap.size + 3 → W'.heap[k]? = W3.heap[k]? := fun k q => by rw [e5 k (by omega), h4, heap_old _ _ (by omega)]
  have e3 : ∀ k, k < w.heap.size + 2 → W'.heap[k]? = W2.heap[k]? := fun k q => by rw [e4 k (by omega), h3, heap_old _ _ (by omega)]
  have e2 : ∀ k, k < w.heap.size + 1 → W'.heap[k]? = W1.heap[k]? := fun k q => by rw [e3 k (by omega), h2, heap_old _ _ (by omega)]
  have e1 : ∀ k, k < w.heap.size → W'.heap[k]? = w.heap[k]? := fun k q => by rw [e2 k (by omega), h1, heap_old _ _ (by omega)]
  refine ⟨(e2 _ (by omega)).trans (by rw [h1]; exact new_0 _ _), (e3 _ (by omega)).trans (by rw [h2]; exact new_atJ _ s1.symm), ?_, (e7 _ (by omega)).trans (by rw [h6]; exact new_atJ _ s5.symm), ?_, ?_, hk, DvO.nil _ _, rfl, World.ownsRow_nil _ _ _ _, ?_, hz, TOk.nil⟩
  · refine ⟨.string ⟨#[]⟩, .int .i64 0, .int .i64 0, .slice none 0 0, .string ⟨#[]⟩, .int .i64 0, .int .i64 0, .int .i64 0, .int .i64 0, .int .i64 0, (e6 _ (by omega)).trans ?_⟩
    rw [h5]
    exact new_atJ _ s4.symm
  · have := NumAt.new W2
    rw [← h3, s2] at this
    exact this.same (e4 _ (by omega))
  · have := TakAt.new W3
    rw [← h4, s3] at this
    exact this.same (e5 _ (by omega))
  · have o1 := hb.os
    have o2 := hb.tape
    have o3 := hb.output
    have o4 := hb.size
    rw [h7, h6, h5, h4, h3, h2, h1] at o1 o2 o3
    exact ⟨o1, o2, o3, by omega, e1⟩
end Go.Proofs.YtebaopiedlioiaaGreatDoor
namespace Go.Proofs.YtebaopiedlioiaaGreatDoor
open Go.RowKit
open Wo (Wd)

section
variable {N g : Nat} {w wr w' : World} {s : TSt} {vs : List (To.Dv × Value × Value)} {c1 c2 : Value} {x e : Wd} {t : List Wd}
theorem RdI.on (h : RdI N w s vs c1 c2 wr) {l : List Wd} {y z : Wd} {n : Nat} (hn : n ≤ 128) (hj : JOn wr w' (N + 4) g (.int .i64 n) c1 c2 (.map (some (N + 2))) (.map (some (N + 3))) y l z) : RdI N w { s with wid := n } vs c1 c2 w' := by
  have hz := h.size
  have hb : ∀ k, k < wr.heap.size → k ≠ N + 4 → w'.heap[k]? = wr.heap[k]? := fun k h1 h2 => hj.on.block k h1 (fun q => h2 (by injection q))
  exact h.next (s' := { s with wid := n }) (fun k h1 h2 _ _ _ _ => hb k h1 h2) hj.on.size hj.on.os hj.on.tape hj.on.output hj.rd.raw (h.num.same (hb _ (by omega) (by omega))) (h.tak.same (hb _ (by omega) (by omega))) (h.dvs.keep fun k h1 h2 => hb k h2 (by omega)) h.ofs (own_sameJ h.lks fun k q => hb k (h.lks.lt k q).2 (by have := (h.lks.lt k q).1; omega)) (h.ok.width hn)
theorem RdI.grew (h : RdI N w s vs c1 c2 wr) (hb : Below wr.heap.size wr w') : RdI N w s vs c1 c2 w' := by
  have hz := h.size
  obtain ⟨d5, d6, d7, d8, d9, d10, d11, d12, d13, d14, hr⟩ := h.r
  exact h.next (fun k h1 _ _ _ _ _ => hb.block k h1) hb.size hb.os hb.tape hb.output ⟨d5, d6, d7, d8, d9, d10, d11, d12, d13, d14, (hb.block _ (by omega)).trans hr⟩ (h.num.same (hb.block _ (by omega))) (h.tak.same (hb.block _ (by omega))) (h.dvs.keep fun k _ h2 => hb.block k h2) h.ofs (own_sameJ h.lks fun k q => hb.block k (h.lks.lt k q).2) h.ok
theorem RdI.gave (h : RdI N w s vs c1 c2 wr) (hg : Gr2 wr w' (N + 4) (N + 3)) : Below N w w' ∧ w'.heap[N]? = some (tobJ (.int .i64 0) (.slice none 0 0) (.slice none 0 0)) ∧ w'.heap[N + 1]? = some (fobJ (.int .i64 0) (.int .i64 0) (.int .i64 0)) := by
  have hz := h.size
  exact ⟨⟨hg.os.trans h.below.os, hg.tape.trans h.below.tape, hg.output.trans h.below.output, Nat.le_trans h.below.size hg.size, fun k hk => (hg.block k (by omega) (by omega) (by omega)).trans (h.below.block k hk)⟩, (hg.block N (by omega) (by omega) (by omega)).trans h.t, (hg.block (N + 1) (by omega) (by omega) (by omega)).trans h.f⟩
theorem RdI.device (h : RdI N w s vs c1 c2 wr) {en : Ending} {d : To.Dv} (hsm : (Ru.nx e t).1.length ≤ 1048576) (hd : To.dev x e s.nms t = .ok d) (hq : DevQ (N + 8) wr (N + 4) g (N + 2) (.int .i64 s.wid) c1 c2 (.map (some (N + 3))) x e s.nms vs.length (flatD vs) (.ok d) en w') : ∃ vs' c1', en = .returned (.tuple #[]) ∧ RdI N w { s with ds := s.ds ++ [d] } vs' c1' c2 w' := by
  have hz := h.size
  rcases hq with ⟨d', vc, vp, v', h1, h2, h3, h4, h5, h6, h7, h8, h9, ho, ht, hu, hk⟩ | ⟨f, hf, _⟩
  · injection h1 with h1
    subst h1
    obtain ⟨k1, k2, k3⟩ := dev_ok hd hsm
    refine ⟨vs ++ [(d, vc, vp)], v', h2, h.next (s' := { s with ds := s.ds ++ [d] }) (fun k q1 q2 q3 q4 q5 q6 => hk k q1 q2 q3 q5) h9 ho ht hu h3.raw ?_ (h.tak.same (hk _ (by omega) (by omega) (by omega) (h.far (by omega)).1)) ?_ ?_ (own_sameJ h.lks fun k q => hk k (h.lks.lt k q).2 (by have := (h.lks.lt k q).1; omega) (by have := (h.lks.lt k q).1; omega) (own_apartJ h.lks h.dvs.row Tryz.lnkNeJ q)) (h.ok.device k1 k2 k3)⟩
    · show NumAt w' (N + 2) ((s.ds ++ [d]).map (·.name))
      rw [List.map_append]
      exact h4
    · exact h.dvs.snoc (rb := N + 4) (nb := N + 2) (by omega) (by omega) hz h5 h6 h7 hk
    · rw [List.map_append, h.ofs]; rfl
  · cases hf
theorem RdI.link (h : RdI N w s vs c1 c2 wr) {en : Ending} {a b : Nat × List UInt8} (hd : lnkJ (fun p m => hasP s.ds p m) s.nms s.ks x e s.ls.length t = .ok (a, b)) (hq : LnkQ (N + 8) wr (N + 4) g (N + 2) (N + 3) (.int .i64 s.wid) c1 c2 x e s.nms s.ks s.ls.length (flatL s.ls) (.ok (a, b)) en w') : ∃ c2', en = .returned (.tuple #[]) ∧ RdI N w { s with ls := s.ls ++ [jndL a b], ks := s.ks ++ [a] ++ [b] } vs c1 c2' w' := by
  have hz := h.size
  rcases hq with ⟨a', b', v', h1, h2, h3, h4, h5, h6, h7, h8, ho, ht, hu, hk⟩ | ⟨f, hf, _⟩
  · injection h1 with h1
    injection h1 with ha hb
    subst ha hb
    obtain ⟨k1, k2, k3⟩ := lnkJ_ok hd
    refine ⟨v', h2, h.next (s' := { s with ls := s.ls ++ [jndL a b], ks := s.ks ++ [a] ++ [b] }) (fun k q1 q2 q3 q4 q5 q6 => hk k q1 q2 q4 q6) h8 ho ht hu h3.raw h4 h5 ⟨?_, fun q hq => ?_, fun q hq => ?_⟩ h.ofs ?_ (h.ok.link k1 k2 k3)⟩
    · exact own_sameJ h.dvs.row fun k q => hk k (h.dvs.row.lt k q).2 (by have := (h.dvs.row.lt k q).1; omega) (by have := (h.dvs.row.lt k q).1; omega) (own_apartJ h.dvs.row h.lks (fun e => Tryz.lnkNeJ e.symm) q)
    · have hc := h.dvs.cls q hq
      exact own_sameJ hc fun k r => hk k (hc.lt k r).2 (by have := (hc.lt k r).1; omega) (by have := (hc.lt k r).1; omega) (own_apartJ hc h.lks (fun e => Tryz.lnkNeS e.symm) r)
    · have hc := h.dvs.prt q hq
      exact own_sameJ hc fun k r => hk k (hc.lt k r).2 (by have := (hc.lt k r).1; omega) (by have := (hc.lt k r).1; omega) (own_apartJ hc h.lks (fun e => Tryz.lnkNeS e.symm) r)
    · show w'.ownsRow (N + 8) 83 4 v' (s.ls ++ [jndL a b]).length (flatL (s.ls ++ [jndL a b]))
      rw [List.length_append, List.length_singleton, flatL_app, flatL_one, ← jndL_cells]
      exact h6
  · cases hf
end
theorem run_error {ls : List (List Wd)} {k : Nat} {s : TSt} {a : Wd} {t : List Wd} {f : Ru.Ft} (h : rdsT 0 TSt.nil ls = rdsT k s (ls.drop k)) (hd : ls[k]? = some (a :: t)) (he : linT k s a (Ru.endW (a :: t)) t = .error f) : readT ls = .error f := by
  have hk := (List.getElem?_eq_some_iff.1 hd).1
  have e1 : ls.drop k = (a :: t) :: ls.drop (k + 1) := by
    rw [List.drop_eq_getElem_cons hk]
    congr 1
    rw [List.getElem?_eq_getElem hk] at hd
    exact Option.some.inj hd
  rw [e1, rdsT_cons, he] at h
  unfold readT
  rw [if_neg (fun q => by rw [q] at hk; exact absurd hk (Nat.not_lt_zero _)), h]
theorem run_next {ls : List (List Wd)} {k : Nat} {s s' : TSt} {a : Wd} {t : List Wd} (h : rdsT 0 TSt.nil ls = rdsT k s (ls.drop k)) (hd : ls[k]? = some (a :: t)) (he : linT k s a (Ru.endW (a :: t)) t = .ok s') : rdsT 0 TSt.nil ls = rdsT (k + 1) s' (ls.drop (k + 1)) := by
  have hk := (List.getElem?_eq_some_iff.1 hd).1
  have e1 : ls.drop k = (a :: t) :: ls.drop (k + 1) := by
    rw [List.drop_eq_getElem_cons hk]
    congr 1
    rw [List.getElem?_eq_getElem hk] at hd
    exact Option.some.inj hd
  rw [e1, rdsT_cons, he] at h
  exact h
/-- All lines are read, and put in order. -/
theorem rd_done {w w2 w3 V : World} {s : TSt} {vs : List (To.Dv × Value × Value)} {c1 c2 : Value} {ls : List (List Wd)} (hI : RdI w.heap.size w s vs c1 c2 w2) (hO : OrdQ (w.heap.size + 8) w2 c1 c2 vs s.ls w3) (bV : Below w.heap.size w3 V) (vk : ∀ k, k ≠ w.heap.size → k ≠ w.heap.size + 1 → V.heap[k]? = w3.heap[k]?) (hr : readT ls = .ok s) :
    RdPost w ls (.returned (.tuple #[.agg #[.int .i64 s.wid, c1, c2], .agg #[.int .i64 0, .int .i64 0, .int .i64 0]])) V := by
  obtain ⟨ds', ls', p1, p2, p3, p4, hd, hl, hs, o1, o2, o3, hkeep⟩ := hO
  have hz := hI.size
  have hb := hI.below
  refine ⟨⟨bV.os.trans (o1.trans hb.os), bV.tape.trans (o2.trans hb.tape), bV.output.trans (o3.trans hb.output), ?_, fun k hk => ?_⟩, Or.inr ⟨s, vs, ds', ls', _, _, hr, hI.ok, hI.ofs, rfl, p1, p2, p3, p4, ⟨?_, fun q hq => ?_, fun q hq => ?_⟩, ?_⟩⟩
  · have := bV.size; have := hb.size; omega
  · rw [bV.block k hk, hkeep k (by omega) (hI.far (by omega)).1 (hI.far (by omega)).2, hb.block k hk]
  · exact own_sameJ (own_baseJ hd.row (by omega)) fun k q => vk k (by have := (hd.row.lt k q).1; omega) (by have := (hd.row.lt k q).1; omega)
  · have hc := hd.cls q hq
    exact own_sameJ (own_baseJ hc (by omega)) fun k r => vk k (by have := (hc.lt k r).1; omega) (by have := (hc.lt k r).1; omega)
  · have hc := hd.prt q hq
    exact own_sameJ (own_baseJ hc (by omega)) fun k r => vk k (by have := (hc.lt k r).1; omega) (by have := (hc.lt k r).1; omega)
  · exact own_sameJ (own_baseJ hl (by omega)) fun k q => vk k (by have := (hl.lt k q).1; omega) (by have := (hl.lt k q).1; omega)
/-- What the two results hold when read is done. -/
theorem rd_boxes {w3 : World} {N : Nat} {x0 x1 x2 y0 y1 y2 a b c : Value} (ht : w3.heap[N]? = some (tobJ x0 x1 x2)) (hf : w3.heap[N + 1]? = some (fobJ y0 y1 y2)) : ∃ V, V = ((((((w3.setCell ⟨N, 0, none⟩ a).setCell ⟨N, 1, none⟩ b).setCell ⟨N, 2, none⟩ c).setCell ⟨N + 1, 0, none⟩ (.int .i64 0)).setCell ⟨N + 1, 1, none⟩ (.int .i64 0)).setCell ⟨N + 1, 2, none⟩ (.int .i64 0)) ∧
    (V.cell? ⟨N, 0, none⟩ = some a ∧ V.cell? ⟨N, 1, none⟩ = some b ∧ V.cell? ⟨N, 2, none⟩ = some c ∧ V.cell? ⟨N + 1, 0, none⟩ = some (.int .i64 0) ∧ V.cell? ⟨N + 1, 1, none⟩ = some (.int .i64 0) ∧ V.cell? ⟨N + 1, 2, none⟩ = some (.int .i64 0)) ∧ Below N w3 V ∧ ∀ k, k ≠ N → k ≠ N + 1 → V.heap[k]? = w3.heap[k]? := by
  have hne : N ≠ N + 1 := by omega
  have hne' : N + 1 ≠ N := by omega
  refine ⟨_, rfl, ?_, ?_, fun k h1 h2 => ?_⟩
  · have e1 : (((w3.setCell ⟨N, 0, none⟩ a).setCell ⟨N, 1, none⟩ b).setCell ⟨N, 2, none⟩ c).heap[N + 1]? = some (fobJ y0 y1 y2) := by
      rw [Below.heap_setCell _ _ _ _ hne', Below.heap_setCell _ _ _ _ hne', Below.heap_setCell _ _ _ _ hne', hf]
    have vf := block_set (o := 2) (.int .i64 0) (block_set (o := 1) (.int .i64 0) (block_set (o := 0) (.int .i64 0) e1))
    have vt : ((((((w3.setCell ⟨N, 0, none⟩ a).setCell ⟨N, 1, none⟩ b).setCell ⟨N, 2, none⟩ c).setCell ⟨N + 1, 0, none⟩ (.int .i64 0)).setCell ⟨N + 1, 1, none⟩ (.int .i64 0)).setCell ⟨N + 1, 2, none⟩ (.int .i64 0)).heap[N]? = some (tobJ a b c) := by
      rw [Below.heap_setCell _ _ _ _ hne, Below.heap_setCell _ _ _ _ hne, Below.heap_setCell _ _ _ _ hne]
      exact block_set (o := 2) c (block_set (o := 1) b (block_set (o := 0) a ht))
    refine ⟨?_, ?_, ?_, ?_, ?_, ?_⟩
    · rw [cell_at vt]; rfl
    · rw [cell_at vt]; rfl
    · rw [cell_at vt]; rfl
    · rw [cell_at vf]; rfl
    · rw [cell_at vf]; rfl
    · rw [cell_at vf]; rfl
  · have hs : N ≤ N + 1 := Nat.le_succ _
    repeat (refine Below.setCell ?_ (by dsimp only; omega) _)
    exact Below.refl _ _
  · rw [Below.heap_setCell _ _ _ _ h2, Below.heap_setCell _ _ _ _ h2, Below.heap_setCell _ _ _ _ h2, Below.heap_setCell _ _ _ _ h1, Below.heap_setCell _ _ _ _ h1, Below.heap_setCell _ _ _ _ h1]
end Go.Proofs.YtebaopiedlioiaaGreatDoor
namespace Go.Proofs.YtebaopiedlioiaaGreatDoor
open Go.RowKit
open Wo (Wd)

theorem endW_none (l : List Wd) : (Ru.endW l).1 = [] := by
  unfold Ru.endW
  split <;> rfl

set_option maxRecDepth 4000 in
set_option maxHeartbeats 4000000 in
theorem oread_any {w : World} {g : Nat} {ls : List (List Wd)} {G C : Nat → Nat} (hL : LsJ w g ls G C) (cap : Nat) (hne : ls ≠ []) (hn : ls.length ≤ 1048577) :
    Calls Tryz.prog 28 #[.slice (some ⟨g, 0, none⟩) ls.length cap] w fun en w' => RdPost w ls en w' := by
  have hmf : ∀ (fn : Fn) (first cap : Array Value) (w : World), (Instr.makeFunc fn first cap).run Tryz.prog w = .ok (.func fn first cap) w := fun _ _ _ _ => rfl
  have hmm : ∀ w : World, (Instr.makeMap 107 none).run Tryz.prog w = .ok (.map (some w.heap.size)) (w.alloc (.map #[] 0)) := fun _ => by kernel_rfl
  have hmn : ∀ w : World, (Instr.makeMap 109 none).run Tryz.prog w = .ok (.map (some w.heap.size)) (w.alloc (.map #[] 0)) := fun _ => by kernel_rfl
  have hnf : ∀ (fn : Fn) (first cap : Array Value) (w : World), (binOp .neq 1 (.func fn first cap) .nilFunc).run Tryz.prog w = .ok (.bool true) w := fun _ _ _ _ => by kernel_rfl
  have hnn0 : ∀ (w : World), (binOp .neq 1 .nilFunc .nilFunc).run Tryz.prog w = .ok (.bool false) w := fun _ => by kernel_rfl
  obtain ⟨n, hnn⟩ : ∃ n, ls.length = n := ⟨_, rfl⟩
  have h0 : 0 < ls.length := List.length_pos_iff.2 hne
  rw [hnn] at h0 hn ⊢
  have HNN := hid hnn
  have HL := hid hL
  have HNE := hid hne
  have hgl := hL.old
  obtain ⟨W7, hW7, hz7, hst⟩ := RdI.start w
  have HST := hid hst
  have HZ7 := hid hz7
  clear hL hne hnn hst hz7
  go_enter_defers Tryz.func28, Tryz.ntmps28
  go_wp2_with fail
  refine (omust_yes _ ([], 0, 0) 110 _).mono ?_
  rintro en w0 ⟨rfl, rfl⟩
  go_wp2_with fail
  rw [← hW7]
  clear hW7
  refine (okinds (w.heap.size + 4) W7).mono ?_
  rintro en W8 ⟨rfl, hk8, hb8⟩
  rw [HZ7.out] at hk8 hb8 ⊢
  have I0 := hid (HST.out W8 hk8 hb8)
  clear hk8 hb8
  go_wp2_with fail
  go_loopw [23] (fun i wr => ∃ (k : Nat) (s : TSt) (vs : List (To.Dv × Value × Value)) (c1 c2 : Value), k ≤ n ∧ i = .int .i64 k ∧ Hid (RdI w.heap.size w s vs c1 c2 wr) ∧ Hid (rdsT 0 TSt.nil ls = rdsT k s (ls.drop k))) (fun i _ => n - (intOf i).toNat)
  case atStart => exact ⟨0, TSt.nil, [], _, _, Nat.zero_le _, rfl, I0, hid rfl⟩
  case round =>
    obtain ⟨k, s, vs, c1, c2, hk, rfl, hI, hR⟩ := hrel
    by_cases hkn : k < n
    · have hkl : k < ls.length := by rw [HNN.out]; exact hkn
      obtain ⟨ln, hln⟩ : ∃ ln, ls[k]? = some ln := ⟨_, List.getElem?_eq_getElem hkl⟩
      have hsm := HL.out.small ln (List.mem_of_getElem? hln)
      obtain ⟨a, t, rfl⟩ : ∃ a t, ln = a :: t := by
        cases ln with
        | nil => exact absurd hsm.1 (by simp)
        | cons a t => exact ⟨a, t, rfl⟩
      have HLN := hid hln
      have hz := hI.out.size
      have hLr := HL.out.below hI.out.below
      have y0 := hLr.line k _ hln
      obtain ⟨hG, hW⟩ := hLr.word k _ hln
      have hG0 := (HL.out.word k _ hln).1
      have hcp := HL.out.cap k _ hln
      obtain ⟨gk, hgk⟩ : ∃ gk, G k = gk := ⟨_, rfl⟩
      obtain ⟨ck, hck⟩ : ∃ ck, C k = ck := ⟨_, rfl⟩
      rw [hgk] at y0 hG hW hG0
      rw [hck] at y0 hcp
      have HRW := hid hI.out.r
      have HBG := hid (show Calls Tryz.prog 58 #[.pointer (some ⟨w.heap.size + 4, 0, none⟩), .slice (some ⟨gk, 0, none⟩) (t.length + 1) ck] wr fun en w' => en = .returned (.tuple #[]) ∧ JOn wr w' (w.heap.size + 4) gk (.int .i64 s.wid) c1 c2 (.map (some (w.heap.size + 2))) (.map (some (w.heap.size + 3))) a t (Ru.endW (a :: t)) from by
        obtain ⟨d5, d6, d7, d8, d9, d10, d11, d12, d13, d14, hc⟩ := HRW.out
        exact obegin_any hc hG hW (by omega) (by simpa using hcp.1) (by have := hcp.2; unfold maxLen at this; omega) (fun x hx => hsm.2.2 x hx))
      obtain ⟨e, he⟩ : ∃ e, Ru.endW (a :: t) = e := ⟨_, rfl⟩
      have HSH := hid (show ShortJ e t from ⟨by rw [← he]; exact endW_none _, fun x hx => (hsm.2.2 x (List.mem_cons_of_mem _ hx)).1⟩)
      have HE := hid he
      rw [he] at HBG
      have hkI : (k : Int) < (n : Int) := by omega
      have hk0 : (0 : Int) ≤ (k : Int) := by omega
      obtain ⟨tl, htl⟩ : ∃ tl, t.length + 1 = tl := ⟨_, rfl⟩
      rw [htl] at HBG
      rw [List.length_cons, htl] at y0
      clear hln hsm hLr hG hW hcp hgk hck he hkl htl
      go_wp2_with fail
      refine HBG.out.mono ?_
      rintro en w1 ⟨rfl, hJ1⟩
      have J1 := hid hJ1
      obtain ⟨o1, cp1, -, ⟨q5, q6, q7⟩, -⟩ := hJ1.rd.cells
      have hlk := kndO_look (w := w1) (b := w.heap.size + 7) (rb := w.heap.size + 4) ((hJ1.on.block _ (by omega) (fun q => by injection q with q; omega)).trans hI.out.knd) a.1
      have I1 := hid (hI.out.on hI.out.ok.wd hJ1)
      clear hJ1
      change w1.cell? ⟨w.heap.size + 1 + 1 + 1 + 1, 5, none⟩ = _ at q5
      change w1.cell? ⟨w.heap.size + 1 + 1 + 1 + 1, 6, none⟩ = _ at q6
      change w1.cell? ⟨w.heap.size + 1 + 1 + 1 + 1, 7, none⟩ = _ at q7
      by_cases hw : a.1 = To.widthT
      · have hv : kndV (w.heap.size + 4) a.1 = mvJ 92 (w.heap.size + 4) := by unfold kndV; rw [if_pos hw]
        rw [hv] at hlk
        change _ = Result.ok (Value.func (.func 92) #[.pointer (some ⟨w.heap.size + 1 + 1 + 1 + 1, 0, none⟩)] #[]) _ at hlk
        have hbw : (a.1 == [119, 105, 100, 116, 104]) = true := by rw [hw]; rfl
        have HW := hid hw
        clear hv hw
        by_cases hk00 : k = 0
        · subst hk00
          go_wp2_with fail
          refine (omust_yes _ a 110 w1).mono ?_
          rintro en w2 ⟨rfl, rfl⟩
          have J2 := hid (J1.out.alloc (wob a))
          have I2 := hid (hI.out.on hI.out.ok.wd J2.out)
          have HWD := hid (owidth_any J2.out.rd HSH.out.nx)
          clear hlk hbw q5 q6 q7
          go_wp2_with fail
          refine HWD.out.mono ?_
          rintro en w3 (⟨m, hwd, rfl, hJ3⟩ | ⟨f, hwd, q, rfl, hF, hg⟩)
          · have I3 := hid (I2.out.on (wid_ok hwd) hJ3)
            have R3 := hid (run_next hR.out HLN.out (show linT 0 s a (Ru.endW (a :: t)) t = .ok { s with wid := m } by rw [HE.out]; unfold linT; rw [if_pos HW.out, if_pos rfl, hwd]))
            clear hJ3 hwd
            go_wp2
            exact ⟨⟨1, _, _, _, _, by omega, by simp, I3, R3⟩, by simp [intOf]; omega⟩
          · obtain ⟨b1, b2, b3⟩ := I2.out.gave (Gr2.ofA hg)
            exact oleave rfl rfl b1 b2 b3 hF (run_error hR.out HLN.out (by rw [HE.out]; unfold linT; rw [if_pos HW.out, if_pos rfl, hwd]))
        · have hk3 : ((k : Int) == 0) = false := by rw [beq_eq_false_iff_ne]; omega
          go_wp2_with fail
          refine (omust_raw I1.out.r false a 110).mono ?_
          rintro en w2 (⟨HB, -⟩ | ⟨-, q, rfl, hF, hg⟩)
          · exact absurd HB.out (by decide)
          · obtain ⟨b1, b2, b3⟩ := I1.out.gave (Gr2.ofA hg)
            exact oleave rfl rfl b1 b2 b3 hF (run_error hR.out HLN.out (by rw [HE.out]; unfold linT; rw [if_pos HW.out, if_neg hk00]))
      · have hbw : (a.1 == [119, 105, 100, 116, 104]) = false := by rw [beq_eq_false_iff_ne]; exact hw
        have HW := hid hw
        clear hw
        by_cases hk00 : k = 0
        · subst hk00
          have hvs : kndV (w.heap.size + 4) a.1 = Value.func (.func 93) #[.pointer (some ⟨w.heap.size + 1 + 1 + 1 + 1, 0, none⟩)] #[] ∨ kndV (w.heap.size + 4) a.1 = Value.func (.func 94) #[.pointer (some ⟨w.heap.size + 1 + 1 + 1 + 1, 0, none⟩)] #[] ∨ kndV (w.heap.size + 4) a.1 = Value.nilFunc := by
            unfold kndV
            rw [if_neg HW.out]
            by_cases h1 : a.1 = To.deviceT
            · rw [if_pos h1]; exact Or.inl rfl
            · rw [if_neg h1]
              by_cases h2 : a.1 = To.linkT
              · rw [if_pos h2]; exact Or.inr (Or.inl rfl)
              · rw [if_neg h2]; exact Or.inr (Or.inr rfl)
          rcases hvs with hv | hv | hv <;> (
            rw [hv] at hlk
            clear hv
            go_wp2_with fail
            refine (omust_raw I1.out.r false a 110).mono ?_
            rintro en w2 (⟨HB, -⟩ | ⟨-, q, rfl, hF, hg⟩)
            · exact absurd HB.out (by decide)
            · obtain ⟨b1, b2, b3⟩ := I1.out.gave (Gr2.ofA hg)
              exact oleave rfl rfl b1 b2 b3 hF (run_error hR.out HLN.out (by rw [HE.out]; unfold linT; rw [if_neg HW.out, if_pos rfl])))
        · have hk3 : ((k : Int) == 0) = false := by rw [beq_eq_false_iff_ne]; omega
          by_cases hd : a.1 = To.deviceT
          · have hv : kndV (w.heap.size + 4) a.1 = mvJ 93 (w.heap.size + 4) := by unfold kndV; rw [if_neg HW.out, if_pos hd]
            rw [hv] at hlk
            change _ = Result.ok (Value.func (.func 93) #[.pointer (some ⟨w.heap.size + 1 + 1 + 1 + 1, 0, none⟩)] #[]) _ at hlk
            have HD := hid hd
            clear hv hd
            go_wp2_with fail
            refine (omust_yes _ a 110 w1).mono ?_
            rintro en w2 ⟨rfl, rfl⟩
            have J2 := hid (J1.out.alloc (wob a))
            have I2 := hid (hI.out.on hI.out.ok.wd J2.out)
            have hN8 : w.heap.size + 8 ≤ (w1.alloc (wob a)).heap.size := I2.out.size
            have HDV := hid (odevice_any (B := w.heap.size + 8) J2.out.rd HSH.out I2.out.num (by omega) (by omega) I2.out.dvs.row (by rw [← List.length_map (f := fun q : To.Dv × Value × Value => q.1), I2.out.ofs]; simp [TSt.nms]) (by have h1 := I2.out.ok.dl; have h2 := congrArg List.length I2.out.ofs; rw [List.length_map] at h2; simp only at h1 h2; omega) (I2.out.far (by omega)).1 (I2.out.far (by omega)).1 (I2.out.far (by omega)).1 hN8)
            clear hlk hbw q5 q6 q7
            go_wp2_with fail
            refine HDV.out.mono ?_
            intro en w3 hq
            cases hdv : To.dev a e s.nms t with
            | ok d =>
              have hq' := hq
              rw [show To.dev a e ({ s with wid := s.wid } : TSt).nms t = .ok d from hdv] at hq'
              obtain ⟨vs', c1', rfl, hI3⟩ := I2.out.device HSH.out.nx hdv hq'
              have I3 := hid hI3
              have R3 := hid (run_next hR.out HLN.out (show linT k s a (Ru.endW (a :: t)) t = .ok { s with ds := s.ds ++ [d] } by rw [HE.out]; unfold linT; rw [if_neg HW.out, if_neg hk00, if_pos HD.out, hdv]))
              clear hI3 hq hq'
              go_wp2
              exact ⟨⟨k + 1, _, _, _, _, by omega, by simp, I3, R3⟩, by simp [intOf]; omega⟩
            | error f =>
              rcases hq with ⟨d', vc, vp, v', h1, _⟩ | ⟨f', h1, q, rfl, hF, hg⟩
              · rw [show To.dev a e ({ s with wid := s.wid } : TSt).nms t = .error f from hdv] at h1; cases h1
              · obtain ⟨b1, b2, b3⟩ := I2.out.gave (Gr2.ofA hg)
                exact oleave rfl rfl b1 b2 b3 hF (run_error hR.out HLN.out (by rw [HE.out]; unfold linT; rw [if_neg HW.out, if_neg hk00, if_pos HD.out, show To.dev a e s.nms t = .error f' from h1]))
          · by_cases hl : a.1 = To.linkT
            · have hv : kndV (w.heap.size + 4) a.1 = mvJ 94 (w.heap.size + 4) := by unfold kndV; rw [if_neg HW.out, if_neg hd, if_pos hl]
              rw [hv] at hlk
              change _ = Result.ok (Value.func (.func 94) #[.pointer (some ⟨w.heap.size + 1 + 1 + 1 + 1, 0, none⟩)] #[]) _ at hlk
              have HD := hid (And.intro hd hl)
              clear hv hd hl
              go_wp2_with fail
              refine (omust_yes _ a 110 w1).mono ?_
              rintro en w2 ⟨rfl, rfl⟩
              have J2 := hid (J1.out.alloc (wob a))
              have I2 := hid (hI.out.on hI.out.ok.wd J2.out)
              have hN8 : w.heap.size + 8 ≤ (w1.alloc (wob a)).heap.size := I2.out.size
              have HLV := hid (olink_any (B := w.heap.size + 8) (hp := fun p m => hasP s.ds p m) (JL.start J2.out.rd I2.out.num I2.out.tak) (by omega) (by omega) (by omega) (by omega) HSH.out (by have := I2.out.ok.dl; simp only [TSt.nms, List.length_map]; simp only at this; omega) (by have h1 := I2.out.ok.kl; have h2 := I2.out.ok.ll; simp only at h1 h2 ⊢; omega) I2.out.lks I2.out.ok.ll (I2.out.far (by omega)).2 (I2.out.far (by omega)).2 (I2.out.far (by omega)).2 (I2.out.far (by omega)).2 hN8 (fun W p m hW _ => by have := ohasPort_gr2 I2.out.dvs (by omega) (by omega) W p m hW; rw [I2.out.ofs] at this; exact this))
              clear hlk hbw q5 q6 q7
              go_wp2_with fail
              refine HLV.out.mono ?_
              intro en w3 hq
              cases hdv : lnkJ (fun p m => hasP s.ds p m) s.nms s.ks a e s.ls.length t with
              | ok ab =>
                obtain ⟨la, lb⟩ := ab
                have hq' := hq
                rw [show lnkJ (fun p m => hasP s.ds p m) ({ s with wid := s.wid } : TSt).nms ({ s with wid := s.wid } : TSt).ks a e ({ s with wid := s.wid } : TSt).ls.length t = .ok (la, lb) from hdv] at hq'
                obtain ⟨c2', rfl, hI3⟩ := I2.out.link hdv hq'
                have I3 := hid hI3
                have R3 := hid (run_next hR.out HLN.out (show linT k s a (Ru.endW (a :: t)) t = .ok { s with ls := s.ls ++ [jndL la lb], ks := s.ks ++ [la] ++ [lb] } by rw [HE.out]; unfold linT; rw [if_neg HW.out, if_neg hk00, if_neg HD.out.1, if_pos HD.out.2, hdv]))
                clear hI3 hq hq'
                go_wp2
                exact ⟨⟨k + 1, _, _, _, _, by omega, by simp, I3, R3⟩, by simp [intOf]; omega⟩
              | error f =>
                rcases hq with ⟨a', b', v', h1, _⟩ | ⟨f', h1, q, rfl, hF, hg⟩
                · rw [show lnkJ (fun p m => hasP s.ds p m) ({ s with wid := s.wid } : TSt).nms ({ s with wid := s.wid } : TSt).ks a e ({ s with wid := s.wid } : TSt).ls.length t = .error f from hdv] at h1; cases h1
                · obtain ⟨b1, b2, b3⟩ := I2.out.gave hg
                  exact oleave rfl rfl b1 b2 b3 hF (run_error hR.out HLN.out (by rw [HE.out]; unfold linT; rw [if_neg HW.out, if_neg hk00, if_neg HD.out.1, if_pos HD.out.2, show lnkJ (fun p m => hasP s.ds p m) s.nms s.ks a e s.ls.length t = .error f' from h1]))
            · have hv : kndV (w.heap.size + 4) a.1 = Value.nilFunc := by unfold kndV; rw [if_neg HW.out, if_neg hd, if_neg hl]
              rw [hv] at hlk
              have HD := hid (And.intro hd hl)
              clear hv hd hl
              go_wp2_with fail
              refine (omust_raw I1.out.r false a 110).mono ?_
              rintro en w2 (⟨HB, -⟩ | ⟨-, q, rfl, hF, hg⟩)
              · exact absurd HB.out (by decide)
              · obtain ⟨b1, b2, b3⟩ := I1.out.gave (Gr2.ofA hg)
                exact oleave rfl rfl b1 b2 b3 hF (run_error hR.out HLN.out (by rw [HE.out]; unfold linT; rw [if_neg HW.out, if_neg hk00, if_neg HD.out.1, if_neg HD.out.2]))
    · have hkn' : k = n := by omega
      subst hkn'
      have HRUN := hid (show rdsT 0 TSt.nil ls = .ok s from by
        rw [hR.out, ← HNN.out, List.drop_length]
        rfl)
      obtain ⟨d5, d6, d7, d8, d9, d10, d11, d12, d13, d14, hraw⟩ := hI.out.r
      have HRAW := hid hraw
      obtain ⟨dv, dc, hc1⟩ := own_formJ hI.out.dvs.row
      obtain ⟨lv, lc, hc2⟩ := own_formJ hI.out.lks
      subst hc1 hc2
      have q1 : wr.cell? ⟨w.heap.size + 1 + 1 + 1 + 1, 1, none⟩ = some (.slice dv vs.length dc) := by rw [cell_at hraw]; rfl
      have n0 : wr.cell? ⟨w.heap.size + 1 + 1 + 1 + 1 + 1, 0, none⟩ = some (.string ⟨#[]⟩) := by rw [cell_at hI.out.now]; rfl
      have n1 : wr.cell? ⟨w.heap.size + 1 + 1 + 1 + 1 + 1, 1, none⟩ = some (.int .i64 0) := by rw [cell_at hI.out.now]; rfl
      have n2 : wr.cell? ⟨w.heap.size + 1 + 1 + 1 + 1 + 1, 2, none⟩ = some (.int .i64 0) := by rw [cell_at hI.out.now]; rfl
      clear hraw
      obtain ⟨vn, hvn⟩ : ∃ vn, vs.length = vn := ⟨_, rfl⟩
      obtain ⟨bv, hbv⟩ : ∃ bv, decide (0 < vn) = bv := ⟨_, rfl⟩
      rw [hvn] at q1
      have HVN := hid hvn
      have HBV := hid hbv
      clear hvn
      go_wp2_with fail
      refine (omust_raw hI.out.r bv ([], 0, 0) 113).mono ?_
      rintro en w2 (⟨HB, rfl, rfl⟩ | ⟨HB, q, rfl, hF, hg⟩)
      rotate_left
      · obtain ⟨b1, b2, b3⟩ := hI.out.gave (Gr2.ofA hg)
        refine oleave rfl rfl b1 b2 b3 hF ?_
        have h0 : vs = [] := by
          have h1 := HBV.out
          rw [HB.out] at h1
          have h2 := of_decide_eq_false h1
          have h3 := HVN.out
          exact List.eq_nil_of_length_eq_zero (by omega)
        have h4 : s.ds = [] := by rw [← hI.out.ofs, h0]; rfl
        unfold readT
        rw [if_neg HNE.out, HRUN.out]
        show (if s.ds = [] then _ else _) = _
        rw [if_pos h4]
        rfl
      have I2 := hid (hI.out.grew (w' := wr.alloc (wob ([], 0, 0))) ((Below.refl _ _).alloc (Nat.le_refl _) _))
      have hnm : vs.map (·.1.name) = s.nms := by unfold TSt.nms; rw [← hI.out.ofs, List.map_map]; rfl
      have hvl : vs.length = s.ds.length := by rw [← hI.out.ofs, List.length_map]
      have HOR := hid (show Calls Tryz.prog 59 #[.pointer (some ⟨w.heap.size + 4, 0, none⟩)] (wr.alloc (wob ([], 0, 0))) fun en w' => en = .returned (.tuple #[]) ∧ OrdQ (w.heap.size + 8) (wr.alloc (wob ([], 0, 0))) (.slice dv vs.length dc) (.slice lv s.ls.length lc) vs s.ls w' from by
        obtain ⟨d5, d6, d7, d8, d9, d10, d11, d12, d13, d14, hr⟩ := I2.out.r
        exact oorder_any hr I2.out.dvs I2.out.lks (by rw [hnm]; exact I2.out.num) (by rw [hnm]; exact I2.out.ok.nd) (by rw [hvl]; exact I2.out.ok.dl) I2.out.ok.ll (by omega) (by omega) (by omega) (fun l hl => by rw [hvl]; exact I2.out.ok.at_ l hl) (fun d hd => I2.out.ok.sm d.1 (by rw [← I2.out.ofs]; exact List.mem_map_of_mem hd)))
      clear q1 n0 n1 n2 hnm hvl
      go_wp2_with fail
      refine HOR.out.mono ?_
      rintro en w3 ⟨rfl, hO⟩
      have HO := hid hO
      obtain ⟨ds', ls', -, -, -, -, -, -, -, -, -, -, hkeep⟩ := hO
      have hz2 := I2.out.size
      have ek : ∀ k, k < w.heap.size + 8 → w3.heap[k]? = (wr.alloc (wob ([], 0, 0))).heap[k]? := fun k hk => hkeep k (by omega) (I2.out.far hk).1 (I2.out.far hk).2
      obtain ⟨d5', d6', d7', d8', d9', d10', d11', d12', d13', d14', hr3⟩ := I2.out.r
      have hr3' := (ek (w.heap.size + 4) (by omega)).trans hr3
      have ht3 := (ek w.heap.size (by omega)).trans I2.out.t
      have hf3 := (ek (w.heap.size + 1) (by omega)).trans I2.out.f
      have r0 : w3.cell? ⟨w.heap.size + 1 + 1 + 1 + 1, 0, none⟩ = some (.int .i64 s.wid) := by rw [cell_at hr3']; rfl
      have r1 : w3.cell? ⟨w.heap.size + 1 + 1 + 1 + 1, 1, none⟩ = some (.slice dv vs.length dc) := by rw [cell_at hr3']; rfl
      have r2 : w3.cell? ⟨w.heap.size + 1 + 1 + 1 + 1, 2, none⟩ = some (.slice lv s.ls.length lc) := by rw [cell_at hr3']; rfl
      have t0 : w3.cell? ⟨w.heap.size, 0, none⟩ = some (.int .i64 0) := by rw [cell_at ht3]; rfl
      have t1 : w3.cell? ⟨w.heap.size, 1, none⟩ = some (.slice none 0 0) := by rw [cell_at ht3]; rfl
      have t2 : w3.cell? ⟨w.heap.size, 2, none⟩ = some (.slice none 0 0) := by rw [cell_at ht3]; rfl
      have u0 : w3.cell? ⟨w.heap.size + 1, 0, none⟩ = some (.int .i64 0) := by rw [cell_at hf3]; rfl
      have u1 : w3.cell? ⟨w.heap.size + 1, 1, none⟩ = some (.int .i64 0) := by rw [cell_at hf3]; rfl
      have u2 : w3.cell? ⟨w.heap.size + 1, 2, none⟩ = some (.int .i64 0) := by rw [cell_at hf3]; rfl
      have ft0 : w3.frozen? ⟨w.heap.size, 0, none⟩ = false := free_of ht3
      have ft1 : w3.frozen? ⟨w.heap.size, 1, none⟩ = false := free_of ht3
      have ft2 : w3.frozen? ⟨w.heap.size, 2, none⟩ = false := free_of ht3
      have fu0 : w3.frozen? ⟨w.heap.size + 1, 0, none⟩ = false := free_of hf3
      have fu1 : w3.frozen? ⟨w.heap.size + 1, 1, none⟩ = false := free_of hf3
      have fu2 : w3.frozen? ⟨w.heap.size + 1, 2, none⟩ = false := free_of hf3
      obtain ⟨V, hV, ⟨v0, v1, v2, v3, v4, v5⟩, bV, vk⟩ := rd_boxes (a := .int .i64 s.wid) (b := .slice dv vs.length dc) (c := .slice lv s.ls.length lc) ht3 hf3
      have HFN := hid (rd_done I2.out HO.out bV vk (show readT ls = .ok s from by
        have h0 : s.ds ≠ [] := fun q => by
          have h1 := HBV.out
          rw [HB.out] at h1
          have h2 := of_decide_eq_true h1
          have h3 := HVN.out
          have h4 := congrArg List.length I2.out.ofs
          rw [List.length_map, q, List.length_nil] at h4
          omega
        unfold readT
        rw [if_neg HNE.out, HRUN.out]
        show (if s.ds = [] then _ else _) = _
        rw [if_neg h0]))
      clear hr3 hr3' ht3 hf3 vk bV
      go_wp2
      rw [← hV]
      refine leaves_cons (f := 55) (args := #[.pointer (some ⟨w.heap.size + 4, 0, none⟩), .pointer (some ⟨w.heap.size, 0, none⟩), .pointer (some ⟨w.heap.size + 1, 0, none⟩)]) (by simp) (by simp [go_sem]) ?_
      refine (ocaught_not _ _ _ _).mono ?_
      rintro e u' w'' ⟨rfl, rfl, rfl⟩
      refine ⟨.tuple #[.agg #[.int .i64 s.wid, .slice dv vs.length dc, .slice lv s.ls.length lc], .agg #[.int .i64 0, .int .i64 0, .int .i64 0]], ?_, HFN.out⟩
      simp [results, Tryz.results28, go_sem, v0, v1, v2, v3, v4, v5]
end Go.Proofs.YtebaopiedlioiaaGreatDoor
namespace Go.Proofs.YtebaopiedlioiaaGreatDoor
open Go.RowKit
open Wo (Wd)

theorem tk_boundsJ (l : List UInt8) (c : Nat) : (Wo.tk l c).1.length ≤ l.length ∧ ∀ p ∈ (Wo.tk l c).1, p.2 ≤ c + l.length := by
  generalize hn : l.length = n
  induction n using Nat.strongRecOn generalizing l c with
  | ind n ih =>
    cases l with
    | nil => rw [Wo.tk_nil]; exact ⟨by simp, fun p hp => absurd hp (by simp)⟩
    | cons a t =>
      simp only [List.length_cons] at hn
      by_cases h35 : a.toNat = 35
      · rw [Wo.tk_hash _ _ _ h35]; exact ⟨by simp, fun p hp => absurd hp (by simp)⟩
      · cases hb : Wo.blk a.toNat with
        | true =>
          rw [Wo.tk_blank _ _ _ h35 hb]
          obtain ⟨h1, h2⟩ := ih t.length (by omega) t (c + 1) rfl
          exact ⟨by omega, fun p hp => by have := h2 p hp; omega⟩
        | false =>
          by_cases h0 : Wo.fst (a :: t) = 0
          · rw [Wo.tk_fault _ _ _ h35 hb h0]; exact ⟨by simp, fun p hp => absurd hp (by simp)⟩
          · rw [Wo.tk_word _ _ _ h35 hb h0]
            have hle := Wo.fst_le (a :: t)
            simp only [List.length_cons] at hle
            obtain ⟨h1, h2⟩ := ih ((a :: t).drop (Wo.fst (a :: t))).length (by rw [List.length_drop, List.length_cons]; omega) _ (c + Wo.fst (a :: t)) rfl
            rw [List.length_drop, List.length_cons] at h1 h2
            refine ⟨by simp only [List.length_cons]; omega, fun p hp => ?_⟩
            rcases List.mem_cons.1 hp with rfl | hp
            · show c ≤ _; omega
            · have := h2 p hp; omega
theorem lns_boundsJ (s : List UInt8) : (Wo.lns s).length ≤ s.length + 1 ∧ ∀ l ∈ Wo.lns s, l.length ≤ s.length := by
  induction s with
  | nil => exact ⟨by simp [Wo.lns], fun l hl => by simp [Wo.lns] at hl; simp [hl]⟩
  | cons a t ih =>
    unfold Wo.lns
    split
    · refine ⟨by simp only [List.length_cons]; have := ih.1; omega, fun l hl => ?_⟩
      rcases List.mem_cons.1 hl with rfl | hl
      · simp
      · have := ih.2 l hl; simp only [List.length_cons]; omega
    · cases e : Wo.lns t with
      | nil => exact absurd e (Wo.lns_ne t)
      | cons h r =>
        rw [e] at ih
        refine ⟨by have := ih.1; simp only [List.length_cons] at this ⊢; omega, fun l hl => ?_⟩
        rcases List.mem_cons.1 hl with rfl | hl
        · have := ih.2 h List.mem_cons_self; simp only [List.length_cons]; omega
        · have := ih.2 l (List.mem_cons_of_mem _ hl); simp only [List.length_cons]; omega
theorem rd_boundsJ (m : Nat) (ls : List (List UInt8)) (n : Nat) (h : ∀ l ∈ ls, l.length ≤ m) : (Wo.rd ls n).1.length ≤ ls.length ∧ ∀ x ∈ (Wo.rd ls n).1, x.length ≤ m ∧ ∀ y ∈ x, y.1.length ≤ m ∧ y.2.2 ≤ m + 1 := by
  induction ls generalizing n with
  | nil => exact ⟨by simp [Wo.rd], fun x hx => absurd hx (by simp [Wo.rd])⟩
  | cons l ls ih =>
    obtain ⟨i1, i2⟩ := ih (n + 1) (fun q hq => h q (List.mem_cons_of_mem _ hq))
    have hl := h l List.mem_cons_self
    cases e : (Wo.tk l 1).2 with
    | some c => rw [Wo.rd_fault e]; exact ⟨by simp, fun x hx => absurd hx (by simp)⟩
    | none =>
      by_cases hz : (Wo.tk l 1).1 = []
      · rw [Wo.rd_none e hz]; exact ⟨by simp only [List.length_cons]; omega, i2⟩
      · rw [Wo.rd_some e hz]
        refine ⟨by simp only [List.length_cons]; omega, fun x hx => ?_⟩
        rcases List.mem_cons.1 hx with rfl | hx
        · obtain ⟨b1, b2⟩ := tk_boundsJ l 1
          refine ⟨by simp only [Wo.wds, List.length_map]; omega, fun y hy => ?_⟩
          simp only [Wo.wds, List.mem_map] at hy
          obtain ⟨p, hp, rfl⟩ := hy
          have h1 := tk_len l 1 p hp
          have h2 := b2 p hp
          exact ⟨by show p.1.length ≤ m; omega, by show p.2 ≤ m + 1; omega⟩
        · exact i2 x hx
theorem read_boundsJ (s : List UInt8) : (Wo.read s).length ≤ s.length + 1 ∧ ∀ x ∈ Wo.read s, 0 < x.length ∧ x.length ≤ s.length ∧ ∀ y ∈ x, y.1.length ≤ s.length ∧ y.2.2 ≤ s.length + 1 := by
  obtain ⟨l1, l2⟩ := lns_boundsJ s
  obtain ⟨r1, r2⟩ := rd_boundsJ s.length (Wo.lns s) 1 l2
  refine ⟨?_, fun x hx => ⟨read_ne s x hx, ?_⟩⟩
  · unfold Wo.read
    split
    · omega
    · simp
  · unfold Wo.read at hx
    split at hx
    · exact r2 x hx
    · exact absurd hx (by simp)
theorem lines_forJ {w : World} {B : Nat} {v : Value} {s : List UInt8} (h : LinesAt w B v (Wo.read s)) (hs : s.length ≤ 1048576) (h0 : 0 < (Wo.read s).length) : ∃ g cap G C, v = .slice (some ⟨g, 0, none⟩) (Wo.read s).length cap ∧ LsJ w g (Wo.read s) G C := by
  obtain ⟨vs, ho, hl, hi⟩ := h
  obtain ⟨rb1, rb2⟩ := read_boundsJ s
  obtain ⟨g, cap, rfl, hg, hc⟩ := own_some ho h0
  have key : ∀ i : Nat, ∃ G C : Nat, ∀ x : List Wd, (Wo.read s)[i]? = some x → vs[i]? = some (Value.slice (some ⟨G, 0, none⟩) x.length C) ∧ (G < w.heap.size ∧ ∀ (j : Nat) (y : Wd), x[j]? = some y → w.cell? ⟨G, j * 3, none⟩ = some (.string (tx y.1)) ∧ w.cell? ⟨G, j * 3 + 1, none⟩ = some (.int .i64 y.2.1) ∧ w.cell? ⟨G, j * 3 + 2, none⟩ = some (.int .i64 y.2.2)) ∧ x.length ≤ C ∧ C ≤ maxLen := by
    intro i
    cases hx : (Wo.read s)[i]? with
    | none => exact ⟨0, 0, fun x h => by cases h⟩
    | some x =>
      obtain ⟨u, hu, hown⟩ := hi i x hx
      obtain ⟨g2, cap2, rfl, hg2, hc2⟩ := own_some hown (rb2 x (List.mem_of_getElem? hx)).1
      refine ⟨g2, cap2, fun y hy => ?_⟩
      cases hy
      refine ⟨hu, ⟨hg2, fun k y hy => ?_⟩, ?_⟩
      · obtain ⟨f1, f2, f3⟩ := flatW_at hy
        exact ⟨hc2 _ _ f1, hc2 _ _ f2, hc2 _ _ f3⟩
      · rcases hown.2 with ⟨e, _⟩ | ⟨g3, c3, cur, e, _, _, h1, h2, _⟩
        · cases e
        · simp only [Value.slice.injEq] at e
          rw [e.2.2]; exact ⟨h1, h2⟩
  refine ⟨g, cap, fun i => (key i).choose, fun i => (key i).choose_spec.choose, rfl, ⟨hg, fun i x hx => ?_, fun i x hx => ?_, fun i x hx => ?_, fun x hx => ?_⟩⟩
  · exact hc i _ ((key i).choose_spec.choose_spec x hx).1
  · exact ((key i).choose_spec.choose_spec x hx).2.1
  · exact ((key i).choose_spec.choose_spec x hx).2.2
  · obtain ⟨h1, h2, h3⟩ := rb2 x hx
    exact ⟨h1, by omega, fun y hy => by have := h3 y hy; omega⟩

set_option maxRecDepth 4000 in
set_option maxHeartbeats 2000000 in
theorem oread_none (ao : Option Addr) (cap : Nat) (w : World) :
    Calls Tryz.prog 28 #[.slice ao 0 cap] w fun en w' => RdPost w [] en w' := by
  have hmf : ∀ (fn : Fn) (first cap : Array Value) (w : World), (Instr.makeFunc fn first cap).run Tryz.prog w = .ok (.func fn first cap) w := fun _ _ _ _ => rfl
  have hmm : ∀ w : World, (Instr.makeMap 107 none).run Tryz.prog w = .ok (.map (some w.heap.size)) (w.alloc (.map #[] 0)) := fun _ => by kernel_rfl
  have hmn : ∀ w : World, (Instr.makeMap 109 none).run Tryz.prog w = .ok (.map (some w.heap.size)) (w.alloc (.map #[] 0)) := fun _ => by kernel_rfl
  obtain ⟨W1, h1⟩ : ∃ W1, W1 = w.alloc (tobJ (.int .i64 0) (.slice none 0 0) (.slice none 0 0)) := ⟨_, rfl⟩
  obtain ⟨W2, h2⟩ : ∃ W2, W2 = W1.alloc (fobJ (.int .i64 0) (.int .i64 0) (.int .i64 0)) := ⟨_, rfl⟩
  obtain ⟨W4, h4⟩ : ∃ W4, W4 = (W2.alloc (.map #[] 0)).alloc (.map #[] 0) := ⟨_, rfl⟩
  obtain ⟨W5, h5⟩ : ∃ W5, W5 = W4.alloc (.cells #[.int .i64 0, .slice none 0 0, .slice none 0 0, .map (some (w.heap.size + 1 + 1)), .map (some (w.heap.size + 1 + 1 + 1)), .string ⟨#[]⟩, .int .i64 0, .int .i64 0, .slice none 0 0, .string ⟨#[]⟩, .int .i64 0, .int .i64 0, .int .i64 0, .int .i64 0, .int .i64 0] 111) := ⟨_, rfl⟩
  obtain ⟨W6, h6⟩ : ∃ W6, W6 = W5.alloc (.cells #[.string ⟨#[]⟩, .int .i64 0, .int .i64 0] 74) := ⟨_, rfl⟩
  have s1 : W1.heap.size = w.heap.size + 1 := by rw [h1]; simp only [World.size_alloc]
  have s2 : W2.heap.size = w.heap.size + 2 := by rw [h2]; simp only [World.size_alloc, s1]
  have s4 : W4.heap.size = w.heap.size + 4 := by rw [h4]; simp only [World.size_alloc, s2]
  have s5 : W5.heap.size = w.heap.size + 5 := by rw [h5]; simp only [World.size_alloc, s4]
  have s6 : W6.heap.size = w.heap.size + 6 := by rw [h6]; simp only [World.size_alloc, s5]
  have e6 : ∀ k, k < w.heap.size + 5 → W6.heap[k]? = W5.heap[k]? := fun k q => by rw [h6, heap_old _ _ (by omega)]
  have e5 : ∀ k, k < w.heap.size + 4 → W6.heap[k]? = W4.heap[k]? := fun k q => by rw [e6 k (by omega), h5, heap_old _ _ (by omega)]
  have e3 : ∀ k, k < w.heap.size + 2 → W6.heap[k]? = W2.heap[k]? := fun k q => by rw [e5 k (by omega), h4, heap_old _ _ (by simp only [World.size_alloc]; omega), heap_old _ _ (by omega)]
  have e2 : ∀ k, k < w.heap.size + 1 → W6.heap[k]? = W1.heap[k]? := fun k q => by rw [e3 k (by omega), h2, heap_old _ _ (by omega)]
  have e1 : ∀ k, k < w.heap.size → W6.heap[k]? = w.heap[k]? := fun k q => by rw [e2 k (by omega), h1, heap_old _ _ (by omega)]
  have HR := hid (show RawR W6 (w.heap.size + 4) (.int .i64 0) (.slice none 0 0) (.slice none 0 0) (.map (some (w.heap.size + 2))) (.map (some (w.heap.size + 3))) from ⟨.string ⟨#[]⟩, .int .i64 0, .int .i64 0, .slice none 0 0, .string ⟨#[]⟩, .int .i64 0, .int .i64 0, .int .i64 0, .int .i64 0, .int .i64 0, (e6 _ (by omega)).trans (by rw [h5]; exact new_atJ _ s4.symm)⟩)
  have HT := hid (show W6.heap[w.heap.size]? = some (tobJ (.int .i64 0) (.slice none 0 0) (.slice none 0 0)) from (e2 _ (by omega)).trans (by rw [h1]; exact new_0 _ _))
  have HF := hid (show W6.heap[w.heap.size + 1]? = some (fobJ (.int .i64 0) (.int .i64 0) (.int .i64 0)) from (e3 _ (by omega)).trans (by rw [h2]; exact new_atJ _ s1.symm))
  have HB := hid (show Below w.heap.size w W6 from ⟨by rw [h6, h5, h4, h2, h1]; rfl, by rw [h6, h5, h4, h2, h1]; rfl, by rw [h6, h5, h4, h2, h1]; rfl, by omega, e1⟩)
  have HS := hid s6
  have HW : W6 = ((((((w.alloc (tobJ (.int .i64 0) (.slice none 0 0) (.slice none 0 0))).alloc (fobJ (.int .i64 0) (.int .i64 0) (.int .i64 0))).alloc (.map #[] 0)).alloc (.map #[] 0)).alloc (.cells #[.int .i64 0, .slice none 0 0, .slice none 0 0, .map (some (w.heap.size + 1 + 1)), .map (some (w.heap.size + 1 + 1 + 1)), .string ⟨#[]⟩, .int .i64 0, .int .i64 0, .slice none 0 0, .string ⟨#[]⟩, .int .i64 0, .int .i64 0, .int .i64 0, .int .i64 0, .int .i64 0] 111)).alloc (.cells #[.string ⟨#[]⟩, .int .i64 0, .int .i64 0] 74)) := by rw [h6, h5, h4, h2, h1]
  clear h1 h2 h4 h5 h6 s1 s2 s4 s5 s6 e6 e5 e3 e2 e1
  go_enter_defers Tryz.func28, Tryz.ntmps28
  go_wp2_with fail
  rw [← HW]
  clear HW
  refine (omust_raw HR.out false ([], 0, 0) 110).mono ?_
  rintro en w2 (⟨HB2, -⟩ | ⟨-, q, rfl, hF, hg⟩)
  · exact absurd HB2.out (by decide)
  · have hs := HS.out
    refine oleave rfl rfl ?_ ((hg.block w.heap.size (by omega) (fun q => by injection q with q; omega)).trans HT.out) ((hg.block (w.heap.size + 1) (by omega) (fun q => by injection q with q; omega)).trans HF.out) hF rfl
    exact ⟨hg.os.trans HB.out.os, hg.tape.trans HB.out.tape, hg.output.trans HB.out.output, Nat.le_trans HB.out.size hg.size, fun k hk => (hg.block k (by omega) (fun q => by injection q with q; omega)).trans (HB.out.block k hk)⟩
end Go.Proofs.YtebaopiedlioiaaGreatDoor
