/-
  The reader of rules: a line's rule: the walk.
-/
import Derived.Test.YtemmhingmeinjaaGreatDoorReadAnd
import Derived.Test.YtemmhingmeinjaaGreatDoorULay
namespace Go.Proofs.YtemmhingmeinjaaGreatDoor
open Go.RowKit Go.Sort Go.Lib

theorem Tryz.fSort : Tryz.laysSort_ren.f 190 = 171 := by kernel_rfl
theorem Tryz.fCompact : Tryz.laysCompact_ren.f 194 = 172 := by kernel_rfl

def TxtAt (w : World) (g : Nat) (zs : List (List UInt8)) : Prop := ∃ cs, w.heap[g]? = some (.cells cs 9 (0, 0)) ∧ ∀ (i : Nat) (z : List UInt8), zs[i]? = some z → cs[i]? = some (.string (tx z))
theorem TxtAt.cell {w : World} {g : Nat} {zs : List (List UInt8)} (h : TxtAt w g zs) {i : Nat} {z : List UInt8} (hz : zs[i]? = some z) : w.cell? ⟨g, i, none⟩ = some (.string (tx z)) := by
  obtain ⟨cs, h1, h2⟩ := h
  rw [cell_at h1]; exact h2 i z hz
theorem TxtAt.lt {w : World} {g : Nat} {zs : List (List UInt8)} (h : TxtAt w g zs) : g < w.heap.size := by
  obtain ⟨cs, h1, h2⟩ := h
  exact lt_of_block h1
theorem TxtAt.holds {w : World} {g : Nat} {zs : List (List UInt8)} (h : TxtAt w g zs) : Holds encStr w g 0 zs.toArray := by
  intro j hj
  simp only [List.size_toArray] at hj
  obtain ⟨cs, h1, h2⟩ := h
  refine ⟨?_, free_of h1⟩
  rw [Nat.zero_add, cell_at h1, h2 j zs[j] (List.getElem?_eq_getElem hj)]
  simp [hj]
theorem TxtAt.put {w : World} {g : Nat} {zs ys : List (List UInt8)} (h : TxtAt w g zs) (hl : ys.length = zs.length) (n : Nat) : TxtAt (putRow encStr (Sort.ahead w n) g 0 ys.toArray) g ys := by
  obtain ⟨cs, h1, h2⟩ := h
  have hc : ∀ (i : Nat) (z : List UInt8), ys[i]? = some z → i < cs.size := fun i z hz => by
    have hi : i < zs.length := by have := (List.getElem?_eq_some_iff.1 hz).1; omega
    exact (Array.getElem?_eq_some_iff.1 (h2 i zs[i] (List.getElem?_eq_getElem hi))).1
  refine ⟨putCells encStr 0 ys.toArray cs, ?_, fun i z hz => ?_⟩
  · show (mapBlock (Sort.ahead w n) g (putCells encStr 0 ys.toArray)).heap[g]? = _
    have h1' : (Sort.ahead w n).heap[g]? = some (.cells cs 9 (0, 0)) := h1
    unfold mapBlock
    simp only [Array.getElem?_modify, h1', if_true, Option.map_some]
    rfl
  · have hi := hc i z hz
    have hiy : i < ys.length := (List.getElem?_eq_some_iff.1 hz).1
    unfold putCells
    rw [Array.getElem?_mapIdx, Array.getElem?_eq_getElem hi]
    simp only [Option.map_some, Nat.zero_le, Nat.zero_add, List.size_toArray, hiy, and_self, if_true, Nat.sub_zero]
    have : ys.toArray[i]! = z := by
      rw [List.getElem?_eq_getElem hiy] at hz
      simp only [Option.some.injEq] at hz
      simp [hiy, hz]
    rw [this]
theorem put_grown (w : World) (g n : Nat) (ys : List (List UInt8)) (os : Array Obj) : w.grownBy (Sort.grow (putRow encStr (Sort.ahead w n) g 0 ys.toArray) os) (some g) := by
  refine ⟨rfl, rfl, rfl, by simp [Sort.grow, putRow, mapBlock, Sort.ahead], fun i hi hne => ?_⟩
  have hne' : i ≠ g := fun e => hne (by rw [e])
  have hsz : i < (putRow encStr (Sort.ahead w n) g 0 ys.toArray).heap.size := by rw [size_putRow]; exact hi
  show ((putRow encStr (Sort.ahead w n) g 0 ys.toArray).heap ++ os)[i]? = _
  rw [Array.getElem?_append_left hsz]
  show (mapBlock (Sort.ahead w n) g _).heap[i]? = _
  unfold mapBlock
  simp only [Array.getElem?_modify]
  rw [if_neg (fun e => hne' e.symm)]
  rfl
theorem TxtAt.grow {w : World} {g : Nat} {zs : List (List UInt8)} (h : TxtAt w g zs) (os : Array Obj) : TxtAt (Sort.grow w os) g zs := by
  obtain ⟨cs, h1, h2⟩ := h
  refine ⟨cs, ?_, h2⟩
  show (w.heap ++ os)[g]? = _
  rw [Array.getElem?_append_left (lt_of_block h1)]
  exact h1

theorem sort_texts {w : World} {g : Nat} {zs : List (List UInt8)} (h : TxtAt w g zs) (cap : Nat) (hz : zs.length ≤ 1048576) :
    Calls Tryz.prog 171 #[.slice (some ⟨g, 0, none⟩) zs.length cap] w fun e w' => e = .returned (.tuple #[]) ∧ TxtAt w' g (zs.mergeSort fun x y => decide (x ≤ y)) ∧ w.grownBy w' (some g) := by
  have := Any.slices_Sort_string Tryz.laysSort g 0 cap zs w h.holds h.lt (by omega)
  rw [Tryz.fSort] at this
  refine this.mono ?_
  rintro e w' ⟨rfl, n, os, rfl⟩
  exact ⟨rfl, (h.put (by simp) n).grow os, put_grown _ _ _ _ _⟩

theorem compact_texts {w : World} {g : Nat} {zs : List (List UInt8)} (h : TxtAt w g zs) (cap : Nat) (hz : zs.length ≤ 1048576) (hc : zs.length ≤ cap) :
    Calls Tryz.prog 172 #[.slice (some ⟨g, 0, none⟩) zs.length cap] w fun e w' => e = .returned (.slice (some ⟨g, 0, none⟩) (Lib.compact zs).length cap) ∧ TxtAt w' g (Lib.compact zs) ∧ w.grownBy w' (some g) := by
  have := Any.slices_Compact_string Tryz.laysCompact g 0 cap zs w h.holds (by omega) hc
  rw [Tryz.fCompact] at this
  refine this.mono ?_
  rintro e w' ⟨rfl, q, rfl⟩
  have hle : (Lib.compact zs).length ≤ zs.length := by
    unfold Lib.compact Lib.compactUpTo
    rw [List.length_map]
    exact Nat.le_trans (List.length_filter_le _ _) (by simp)
  have hp := h.put (ys := Lib.compact zs ++ List.replicate (zs.length - (Lib.compact zs).length) []) (by simp; omega) q
  refine ⟨rfl, ?_, ?_⟩
  · obtain ⟨cs, h1, h2⟩ := hp
    exact ⟨cs, h1, fun i z hi => h2 i z (by rw [List.getElem?_append_left (List.getElem?_eq_some_iff.1 hi).1]; exact hi)⟩
  · have := put_grown w g q (Lib.compact zs ++ List.replicate (zs.length - (Lib.compact zs).length) []) #[]
    rwa [Sort.grow_empty] at this
end Go.Proofs.YtemmhingmeinjaaGreatDoor
namespace Go.Proofs.YtemmhingmeinjaaGreatDoor
open Go.RowKit
open Wo (Wd)

def leftN (w : World) (rb : Nat) : Nat := match w.cell? ⟨rb, 1, none⟩ with
  | some (.slice _ n _) => n
  | _ => 0
theorem RdAt.leftN {w : World} {rb g width : Nat} {l : List Wd} {e : Wd} (h : RdAt w rb g width l e) : leftN w rb = l.length := by
  obtain ⟨o, cap, f0, f1, f2, hc, _⟩ := h.ex
  have : w.cell? ⟨rb, 1, none⟩ = some (.slice (some ⟨g, o, none⟩) l.length cap) := by rw [cell_at hc]; rfl
  unfold Go.Proofs.YtemmhingmeinjaaGreatDoor.leftN
  rw [this]
theorem grown_row {w0 w1 w2 : World} {rb : Nat} {row : Option Nat} (h : w0.grownBy w1 (some rb)) (k : w1.grownBy w2 row) (hs : ∀ i, row = some i → w0.heap.size ≤ i) : w0.grownBy w2 (some rb) :=
  ⟨k.os.trans h.os, k.tape.trans h.tape, k.output.trans h.output, Nat.le_trans h.size k.size, fun i hi hne => (k.block i (Nat.lt_of_lt_of_le hi h.size) (fun e => by have := hs i e.symm; omega)).trans (h.block i hi hne)⟩
theorem RdOn.row {w0 w w' : World} {rb g width : Nat} {l : List Wd} {e : Wd} {row : Option Nat} (h : RdOn w0 w rb g width l e) (hg : w.grownBy w' row) (hr : rb < w0.heap.size) (hgl : g < w0.heap.size) (hs : ∀ i, row = some i → w0.heap.size ≤ i) : RdOn w0 w' rb g width l e := by
  obtain ⟨o, cap, f0, f1, f2, hc, h1, h2, h3, h4, h5⟩ := h.rd.ex
  have ek : ∀ k, k < w0.heap.size → w'.heap[k]? = w.heap[k]? := fun k hk => hg.block k (Nat.lt_of_lt_of_le hk h.on.size) (fun e => by have := hs k e.symm; omega)
  refine ⟨⟨o, cap, f0, f1, f2, (ek _ hr).trans hc, h1, h2, h3, by have := hg.size; omega, fun i x hx => ?_⟩, grown_row h.on hg hs⟩
  obtain ⟨q1, q2, q3⟩ := h5 i x hx
  exact ⟨by rw [World.cell?_of_block (ek g hgl)]; exact q1, by rw [World.cell?_of_block (ek g hgl)]; exact q2, by rw [World.cell?_of_block (ek g hgl)]; exact q3⟩
theorem utext_on {w0 w : World} {rb g width : Nat} {l : List Wd} {e : Wd} (hR : RdOn w0 w rb g width l e) (s : List UInt8) (n : Nat) :
    Calls Tryz.prog 107 #[.pointer (some ⟨rb, 0, none⟩), .string (tx s), .int .i64 n] w fun en w' =>
      (Hid ((Ru.nx e l).1 = s) ∧ en = .returned (.tuple #[]) ∧ Hid (RdOn w0 w' rb g width l.tail e)) ∨ (Hid ((Ru.nx e l).1 ≠ s) ∧ Gave w0 rb (Ru.ft (Ru.nx e l) n) en w') :=
  (utext_any hR.rd s n).mono fun _ _ h => h.elim (fun h => Or.inl ⟨h.1, h.2.1, h.2.2.1, grown_two hR.on h.2.2.2⟩) (fun h => Or.inr ⟨h.1, h.2.after hR.on⟩)
theorem uport_on {w0 w : World} {rb g width : Nat} {l : List Wd} {e : Wd} (hR : RdOn w0 w rb g width l e) (hx : (Ru.nx e l).1.length ≤ 1048576) :
    Calls Tryz.prog 170 #[.pointer (some ⟨rb, 0, none⟩)] w fun en w' =>
      (Hid (Wo.nameB (Ru.nx e l).1 = true) ∧ en = .returned (.string (tx (Ru.nx e l).1)) ∧ Hid (RdOn w0 w' rb g width l.tail e)) ∨ (Hid (Wo.nameB (Ru.nx e l).1 = false) ∧ Gave w0 rb (Ru.ft (Ru.nx e l) 31) en w') :=
  (uport hR.rd hx).mono fun _ _ h => h.elim (fun h => Or.inl ⟨h.1, h.2.1, h.2.2.rd, grown_two hR.on h.2.2.on⟩) (fun h => Or.inr ⟨h.1, h.2.after hR.on⟩)

def Short (e : Wd) (l : List Wd) : Prop := e.1 = [] ∧ ∀ x ∈ l, x.1.length ≤ 1048576
theorem Short.nx {e : Wd} {l : List Wd} (h : Short e l) : (Ru.nx e l).1.length ≤ 1048576 := by
  cases l with
  | nil => show e.1.length ≤ _; rw [h.1]; simp
  | cons x t => exact h.2 x List.mem_cons_self
theorem Short.tail {e : Wd} {l : List Wd} (h : Short e l) : Short e l.tail := ⟨h.1, fun x hx => h.2 x (List.mem_of_mem_tail hx)⟩

def PortsPost (w : World) (rb g width : Nat) (l : List Wd) (e : Wd) (en : Ending) (w' : World) : Prop :=
  (∃ ps t b cap, Ru.prt e l = .ok (ps, t) ∧ en = .returned (.slice (some ⟨b, 0, none⟩) ps.length cap) ∧ w.heap.size ≤ b ∧ TxtAt w' b ps ∧ RdOn w w' rb g width t e) ∨ (∃ f, Ru.prt e l = .error f ∧ Gave w rb f en w')

theorem Tryz.infoStr : (Tryz.prog.info? 9).map (fun i => (i.zero, i.size, i.bytes)) = some (some (.string ByteArray.empty), 1, 16) := by kernel_rfl

theorem prt_31 {e : Wd} {l : List Wd} (h : (Ru.nx e l).1 = [40]) (he : e.1 = []) (hb : Wo.nameB (Ru.nx e l.tail).1 = false) : Ru.prt e l = .error (Ru.ft (Ru.nx e l.tail) 31) := by
  unfold Ru.prt
  rw [if_neg (fun q => q h), Ru.pts_eq he, if_pos hb]
def fin (r : Except Ru.Ft (Wd × List (List UInt8) × List Wd)) : Except Ru.Ft (List (List UInt8) × List Wd) := match r with
  | .error f => .error f
  | .ok (v, acc, t) => if 64 < (Ru.nrm acc).length then .error (Ru.ft v 3) else .ok (Ru.nrm acc, t)
theorem prt_on {e : Wd} {l : List Wd} (h : (Ru.nx e l).1 = [40]) (he : e.1 = []) (hb : Wo.nameB (Ru.nx e l.tail).1 = true) : Ru.prt e l = fin (Ru.ptsW e (Ru.nx e l.tail.tail) l.tail.tail.tail [(Ru.nx e l.tail).1]) := by
  unfold Ru.prt
  rw [if_neg (fun q => q h), Ru.pts_eq he, if_neg (by rw [hb]; simp)]
  rfl
structure PInv (w wr : World) (rb g width : Nat) (l : List Wd) (e : Wd) (wb : Nat) (v : Value) (left : List Wd) (acc : List (List UInt8)) (x : Wd) : Prop where
  own : wr.ownsRow w.heap.size 9 1 v acc.length (svs acc)
  rd : RdOn w wr rb g width left e
  blk : wr.heap[wb]? = some (.cells #[.string (tx x.1), .int .i64 x.2.1, .int .i64 x.2.2] 143 (0, 0))
  short : Short e left
  few : acc.length + left.length ≤ 1048576
  all : Ru.prt e l = fin (Ru.ptsW e x left acc)
  pos : 0 < acc.length
section
variable {w wr : World} {rb g width : Nat} {l : List Wd} {e : Wd} {wb : Nat} {v : Value} {left : List Wd} {acc : List (List UInt8)} {x : Wd}
theorem PInv.w0 (h : PInv w wr rb g width l e wb v left acc x) : wr.cell? ⟨wb, 0, none⟩ = some (.string (tx x.1)) := by rw [cell_at h.blk]; rfl
theorem PInv.w1 (h : PInv w wr rb g width l e wb v left acc x) : wr.cell? ⟨wb, 1, none⟩ = some (.int .i64 x.2.1) := by rw [cell_at h.blk]; rfl
theorem PInv.w2 (h : PInv w wr rb g width l e wb v left acc x) : wr.cell? ⟨wb, 2, none⟩ = some (.int .i64 x.2.2) := by rw [cell_at h.blk]; rfl
theorem RdOn.trans {w0 w1 w2 : World} {l1 l2 : List Wd} (h1 : RdOn w0 w1 rb g width l1 e) (h2 : RdOn w1 w2 rb g width l2 e) : RdOn w0 w2 rb g width l2 e := ⟨h2.rd, grown_two h1.on h2.on⟩
theorem PInv.start {w1 w2 : World} {nm : List UInt8} (h1 : RdOn w w1 rb g width l.tail.tail e) (h2 : RdOn (w1.alloc (.cells #[.string (tx nm)] 9)) w2 rb g width l.tail.tail.tail e) (hs : Short e l) (hl : l.length ≤ 1048576) (hrb : rb < w.heap.size)
    (hp : Ru.prt e l = fin (Ru.ptsW e x l.tail.tail.tail [nm])) : PInv w (w2.alloc (wob x)) rb g width l e w2.heap.size (.slice (some ⟨w1.heap.size, 0, none⟩) 1 1) l.tail.tail.tail [nm] x := {
  own := by
    have hsz := h1.on.size
    refine ⟨rfl, Or.inr ⟨w1.heap.size, 1, #[.string (tx nm)], rfl, h1.on.size, ?_, Nat.le_refl _, by decide, rfl, rfl⟩⟩
    refine new_old _ _ ?_
    have q := new_0 w1 (.cells #[.string (tx nm)] 9)
    exact (h2.on.block w1.heap.size (lt_of_block q) (fun e => by simp at e; omega)).trans q
  rd := ((h1.alloc _).trans h2).alloc _
  blk := new_0 _ _
  short := hs.tail.tail.tail
  few := by simp only [List.length_cons, List.length_nil, List.length_tail]; omega
  all := hp
  pos := Nat.zero_lt_one }
theorem svs_snoc (acc : List (List UInt8)) (nm : List UInt8) : svs (acc ++ [nm]) = svs acc ++ [.string (tx nm)] := by simp [svs]
theorem PInv.word {w4 w5 w6 : World} {o : Obj} (J : PInv w wr rb g width l e wb v left acc x) (hrb : rb < w.heap.size) (hwb : w.heap.size ≤ wb) (h4 : RdOn wr w4 rb g width left.tail e) (hg5 : (w4.alloc o).grownBy w5 v.ownBlock) (h6 : w5.grownBy w6 (some rb)) :
    w6.heap[wb]? = some (.cells #[.string (tx x.1), .int .i64 x.2.1, .int .i64 x.2.2] 143 (0, 0)) := by
  have b4 := new_old w4 o (block_grow J.blk h4.on (by omega))
  have own4 := (J.own.kept h4.on (by rcases hv : v.ownBlock with _ | k; exact Or.inl rfl; exact Or.inr (fun q => by have := (J.own.lt k hv).1; simp at q; omega))).alloc o
  have b5 := (hg5.block _ (lt_of_block b4) (fun q => own_ne own4 b4 (by decide) q.symm)).trans b4
  exact block_grow b5 h6 (by omega)
theorem PInv.next {w4 w5 w6 : World} {o : Obj} {v' : Value} {nm : List UInt8} {y : Wd} (J : PInv w wr rb g width l e wb v left acc x) (hrb : rb < w.heap.size) (hgl : g < w.heap.size) (hwb : w.heap.size ≤ wb) (hc : x.1 = [44]) (hn : Wo.nameB (Ru.nx e left).1 = true) (hnm : nm = (Ru.nx e left).1) (hy : y = Ru.nx e left.tail)
    (h4 : RdOn wr w4 rb g width left.tail e) (hown : w5.ownsRow w.heap.size 9 1 v' (acc.length + 1) (svs acc ++ [.string (tx nm)])) (hg5 : (w4.alloc o).grownBy w5 v.ownBlock) (h6 : RdOn w5 w6 rb g width left.tail.tail e) :
    PInv w (((w6.setCell ⟨wb, 0, none⟩ (.string (tx y.1))).setCell ⟨wb, 1, none⟩ (.int .i64 y.2.1)).setCell ⟨wb, 2, none⟩ (.int .i64 y.2.2)) rb g width l e wb v' left.tail.tail (acc ++ [nm]) y ∧ left.tail.tail.length < left.length := by
  have bw := J.word hrb hwb h4 hg5 h6.on
  have c1 := block_set (o := 0) (.string (tx y.1)) bw
  have c2 := block_set (o := 1) (.int .i64 y.2.1) c1
  have c3 := block_set (o := 2) (.int .i64 y.2.2) c2
  have hne : 0 < left.length := by
    rcases left with _ | ⟨a, t⟩
    · have : (Ru.nx e []).1 = [] := J.short.1
      rw [this] at hn; exact absurd hn (by decide)
    · simp
  have own6 := hown.kept h6.on (by rcases hv : v'.ownBlock with _ | k; exact Or.inl rfl; exact Or.inr (fun q => by have := (hown.lt k hv).1; simp at q; omega))
  have own7 := own6.kept (grown_cell _ _ 0 (.string (tx y.1))) (Or.inr (own_ne own6 bw (by decide)))
  have own8 := own7.kept (grown_cell _ _ 1 (.int .i64 y.2.1)) (Or.inr (own_ne own7 c1 (by decide)))
  have own9 := own8.kept (grown_cell _ _ 2 (.int .i64 y.2.2)) (Or.inr (own_ne own8 c2 (by decide)))
  refine ⟨{ own := ?_, rd := ?_, blk := c3, short := J.short.tail.tail, few := ?_, all := ?_, pos := by simp }, by simp only [List.length_tail]; omega⟩
  · rw [svs_snoc, List.length_append, List.length_singleton]; exact own9
  · have r5 : RdOn w w5 rb g width left.tail e := ((J.rd.trans h4).alloc o).row hg5 hrb hgl (fun i hi => (J.own.lt i hi).1)
    have r6 := r5.trans h6
    exact ((r6.row (grown_cell _ _ _ _) hrb hgl (fun i hi => by simp at hi; omega)).row (grown_cell _ _ _ _) hrb hgl (fun i hi => by simp at hi; omega)).row (grown_cell _ _ _ _) hrb hgl (fun i hi => by simp at hi; omega)
  · have := J.few
    simp only [List.length_append, List.length_cons, List.length_nil, List.length_tail]; omega
  · rw [J.all]
    congr 1
    subst hnm hy
    rw [show Ru.ptsW e x left acc = Ru.pts e left acc from if_pos hc, Ru.pts_eq J.short.1, if_neg (by rw [hn]; simp)]
theorem PInv.fault31 (J : PInv w wr rb g width l e wb v left acc x) (hc : x.1 = [44]) (hn : Wo.nameB (Ru.nx e left).1 = false) : Ru.prt e l = .error (Ru.ft (Ru.nx e left) 31) := by
  rw [J.all, show Ru.ptsW e x left acc = Ru.pts e left acc from if_pos hc, Ru.pts_eq J.short.1, if_pos hn]
  rfl
theorem PInv.fault51 (J : PInv w wr rb g width l e wb v left acc x) (hc : x.1 ≠ [44]) (hn : (x.1 == [41]) = false) : Ru.prt e l = .error (Ru.ft x 51) := by
  have h41 : x.1 ≠ [41] := by simpa using hn
  rw [J.all, show Ru.ptsW e x left acc = .error (Ru.ft x 51) by unfold Ru.ptsW; rw [if_neg hc, if_neg h41]]
  rfl
theorem PInv.fin (J : PInv w wr rb g width l e wb v left acc x) (hc : x.1 ≠ [44]) (hn : (x.1 == [41]) = true) : Ru.prt e l = if 64 < (Ru.nrm acc).length then .error (Ru.ft x 3) else .ok (Ru.nrm acc, left) := by
  have h41 : x.1 = [41] := by simpa using hn
  rw [J.all, show Ru.ptsW e x left acc = .ok (x, acc, left) by unfold Ru.ptsW; rw [if_neg hc, if_pos h41]]
  rfl
theorem PInv.texts (J : PInv w wr rb g width l e wb v left acc x) : ∃ b cap, v = .slice (some ⟨b, 0, none⟩) acc.length cap ∧ w.heap.size ≤ b ∧ acc.length ≤ cap ∧ TxtAt wr b acc := by
  rcases J.own.2 with ⟨_, h0⟩ | ⟨b, cap, cur, rfl, hb, hh, hn, _, _, ht⟩
  · have := J.pos; omega
  · refine ⟨b, cap, rfl, hb, hn, cur, hh, fun i z hz => ?_⟩
    have hi : i < acc.length := (List.getElem?_eq_some_iff.1 hz).1
    have : (cur.toList.take (acc.length * 1))[i]? = some (.string (tx z)) := by rw [ht]; simp [svs, hz]
    rw [List.getElem?_take, if_pos (by omega)] at this
    simpa using this
theorem TxtAt.kept {w w' : World} {b : Nat} {zs : List (List UInt8)} (h : TxtAt w b zs) (he : w'.heap[b]? = w.heap[b]?) : TxtAt w' b zs := by
  obtain ⟨cs, h1, h2⟩ := h
  exact ⟨cs, he.trans h1, h2⟩
end

set_option maxRecDepth 4000 in
set_option maxHeartbeats 2000000 in
theorem uports {w : World} {rb g width : Nat} {l : List Wd} {e : Wd} (hR : RdAt w rb g width l e) (hs : Short e l) (hg : g < w.heap.size) (hl : l.length ≤ 1048576) :
    Calls Tryz.prog 145 #[.pointer (some ⟨rb, 0, none⟩), .int .i64 64] w fun en w' => PortsPost w rb g width l e en w' := by
  obtain ⟨i0, hi, hz0, hz1, hz2⟩ := info_parts Tryz.infoStr
  have HI := hid hi
  have HZ0 := hid hz0
  have HZ1 := hid hz1
  have HZ2 := hid hz2
  clear hi hz0 hz1 hz2
  have hrb := hR.lt
  have H0 := hid (RdOn.start hR)
  have HS := hid hs
  clear hR hs
  go_enter Tryz.func145, Tryz.ntmps145
  go_wp2_with fail
  refine (utext_on (H0.out) [40] 51).mono ?_
  rintro en w1 (⟨HB, rfl, H1⟩ | ⟨HB, q, rfl, hf, hgr⟩)
  rotate_left
  · exact ⟨rfl, Or.inr ⟨Ru.ft (Ru.nx e l) 51, if_pos HB.out, q, rfl, hf, hgr⟩⟩
  go_wp2_with fail
  refine (uport_on H1.out HS.out.tail.nx).mono ?_
  rintro en w2 (⟨HB2, rfl, H2⟩ | ⟨HB2, q, rfl, hf, hgr⟩)
  rotate_left
  · exact ⟨rfl, Or.inr ⟨Ru.ft (Ru.nx e l.tail) 31, prt_31 HB.out HS.out.1 HB2.out, q, rfl, hf, hgr⟩⟩
  have HP := hid (prt_on HB.out HS.out.1 HB2.out)
  go_wp2_with fail
  refine (unext_on (RdOn.start (H2.out.alloc _).rd)).mono ?_
  rintro en w3 ⟨rfl, H3b⟩
  have H3 := hid ((H2.out.alloc _).trans H3b.out)
  go_wp2_with fail
  have hwb : w.heap.size ≤ w3.heap.size := H3.out.on.size
  go_loopw [5] (fun u wr => ∃ v left acc x, u = v ∧ Hid (PInv w wr rb g width l e w3.heap.size v left acc x)) (fun _ wr => leftN wr rb)
  case atStart => exact ⟨_, _, _, _, rfl, PInv.start H2.out H3b.out HS.out hl hrb HP.out⟩
  case round =>
    obtain ⟨v, left, acc, x, rfl, J⟩ := hrel
    have cw0 := J.out.w0
    have cw1 := J.out.w1
    have cw2 := J.out.w2
    have hfew := J.out.few
    by_cases hc : x.1 = [44]
    · have hb : (x.1 == [44]) = true := by simpa using hc
      have HC := hid hc
      clear hc
      have HNX := hid J.out.short.nx
      obtain ⟨nm, hnm⟩ : ∃ nm, nm = (Ru.nx e left).1 := ⟨_, rfl⟩
      have HU := hid (uport J.out.rd.rd J.out.short.nx)
      rw [← hnm] at HU
      have HNM := hid hnm
      clear hnm
      obtain ⟨ao, cap, rfl⟩ := own_form J.out.own
      go_wp2_with fail
      refine HU.out.mono ?_
      rintro en w4 (⟨hb4, rfl, h4⟩ | ⟨hb4, q, rfl, hf, hgr⟩)
      rotate_left
      · refine ⟨rfl, Or.inr ⟨Ru.ft (Ru.nx e left) 31, J.out.fault31 HC.out (by rw [← HNM.out]; exact hb4), q, rfl, hf, grown_two J.out.rd.on hgr⟩⟩
      have HB4 := hid hb4
      have H4 := hid h4
      clear hb4 h4
      have own4 := hid (J.out.own.kept H4.out.on (by rcases hv : (Value.slice ao acc.length cap).ownBlock with _ | k; exact Or.inl rfl; exact Or.inr (fun q => by have := (J.out.own.lt k hv).1; simp at q; omega)))
      have hsz4 : w.heap.size ≤ w4.heap.size := Nat.le_trans J.out.rd.on.size H4.out.on.size
      go_wp2_with (first | (at_builtin; refine wpList_append_own_at _ rfl _ _ 47 rfl w.heap.size 9 i0 (.string ByteArray.empty) 1 16 Tryz.underlying47 HI.out HZ0.out HZ1.out HZ2.out rfl (by decide) (.slice ao acc.length cap) acc.length (svs acc) rfl (own4.out.alloc _) ⟨w4.heap.size, 0, none⟩ 1 1 [.string (tx nm)] rfl rfl (new_cells _ #[.string (tx nm)] _ _ rfl) ?c2 ?c3 ?c4 ?c5 ?_))
      case c2 => simp [Value.oneCell']
      case c3 => unfold maxLen; omega
      case c4 => omega
      case c5 => simp; omega
      intro v' w5 hown5 hgrow5 _ _
      obtain ⟨a5, cap5, rfl⟩ := own_form hown5
      have HO5 := hid hown5
      have HG5 := hid hgrow5
      clear hown5 hgrow5
      have r5 := hid (((J.out.rd.trans H4.out).alloc (.cells #[.string (tx nm)] 9)).row HG5.out hrb hg (fun i hi => (J.out.own.lt i hi).1))
      go_wp2_with fail
      refine (unext_on (RdOn.start r5.out.rd)).mono ?_
      rintro en w6 ⟨rfl, H6⟩
      have bw := J.out.word hrb hwb H4.out HG5.out H6.out.on
      have k0 := cell_at (o := 0) bw
      have k1 := cell_at (o := 1) bw
      have k2 := cell_at (o := 2) bw
      simp only [List.getElem?_toArray, List.getElem?_cons_succ, List.getElem?_cons_zero] at k0 k1 k2
      have f0 : w6.frozen? ⟨w3.heap.size, 0, none⟩ = false := free_of bw
      have f1 : w6.frozen? ⟨w3.heap.size, 1, none⟩ = false := free_of bw
      have f2 : w6.frozen? ⟨w3.heap.size, 2, none⟩ = false := free_of bw
      have HJ := hid (J.out.next (nm := nm) hrb hg hwb HC.out (by rw [← HNM.out]; exact HB4.out) HNM.out rfl H4.out HO5.out HG5.out H6.out)
      clear bw
      go_wp2_with fail
      go_roundw
      case rel => exact ⟨_, _, _, _, rfl, HJ.out.1⟩
      case measure =>
        rw [HJ.out.1.rd.rd.leftN, J.out.rd.rd.leftN]; exact HJ.out.2
    · have hb : (x.1 == [44]) = false := by simpa using hc
      have HC := hid hc
      clear hc
      obtain ⟨b, cap, rfl, hbb, hcap, hT⟩ := J.out.texts
      have HT := hid hT
      clear hT
      go_wp2_with fail
      refine (umust_on J.out.rd _ x 51).mono ?_
      rintro en w4 (⟨HB4, rfl, rfl⟩ | ⟨HB4, q, rfl, hf, hgr⟩)
      rotate_left
      · exact ⟨rfl, Or.inr ⟨Ru.ft x 51, J.out.fault51 HC.out HB4.out, q, rfl, hf, hgr⟩⟩
      have HF := hid (J.out.fin HC.out HB4.out)
      have R4 := hid (J.out.rd.alloc (wob x))
      have T4 := hid (HT.out.kept (w' := wr.alloc (wob x)) (heap_old _ _ HT.out.lt))
      go_wp2_with fail
      refine (sort_texts T4.out cap (by omega)).mono ?_
      rintro en w5 ⟨rfl, T5, g5⟩
      have R5 := hid (R4.out.row g5 hrb hg (fun i hi => by simp at hi; omega))
      have hne5 : w3.heap.size ≠ b := by
        obtain ⟨cs, hcs, _⟩ := HT.out
        intro q
        have := J.out.blk
        rw [q, hcs] at this
        exact absurd this (by simp)
      have B5 := hid (block_grow (new_old _ (wob x) J.out.blk) g5 hne5)
      have T5 := hid T5
      have hz5 : (acc.mergeSort fun x y => decide (x ≤ y)).length = acc.length := by simp
      have HCO := hid (compact_texts T5.out cap (by rw [hz5]; omega) (by rw [hz5]; omega))
      rw [hz5, Ru.compact_sort] at HCO
      clear g5 hz5
      go_wp2_with fail
      refine HCO.out.mono ?_
      rintro en w6 ⟨rfl, T6, g6⟩
      have R6 := hid (R5.out.row g6 hrb hg (fun i hi => by simp at hi; omega))
      have b6 := block_grow B5.out g6 hne5
      have T6 := hid T6
      have k0 := cell_at (o := 0) b6
      have k1 := cell_at (o := 1) b6
      have k2 := cell_at (o := 2) b6
      simp only [List.getElem?_toArray, List.getElem?_cons_succ, List.getElem?_cons_zero] at k0 k1 k2
      clear g6 b6 hne5
      go_wp2_with fail
      refine (umust_on R6.out _ x 3).mono ?_
      rintro en w7 (⟨HB7, rfl, rfl⟩ | ⟨HB7, q, rfl, hf, hgr⟩)
      rotate_left
      · refine ⟨rfl, Or.inr ⟨Ru.ft x 3, ?_, q, rfl, hf, hgr⟩⟩
        rw [HF.out, if_pos (by have := HB7.out; simp at this; omega)]
      go_wp2
      go_ret
      refine Or.inl ⟨Ru.nrm acc, left, b, cap, ?_, rfl, hbb, T6.out.kept (heap_old _ _ T6.out.lt), R6.out.alloc _⟩
      rw [HF.out, if_neg (by have := HB7.out; simp at this; omega)]
end Go.Proofs.YtemmhingmeinjaaGreatDoor
namespace Go.Proofs.YtemmhingmeinjaaGreatDoor
open Go.RowKit
open Wo (Wd)

set_option maxHeartbeats 400000 in
theorem kindWord_1 (w : World) : Calls Tryz.prog 133 #[.int .i64 1] w fun e w' => e = .returned (.string (tx [100, 114, 111, 112])) ∧ w' = w := by
  go_enter Tryz.func133, Tryz.ntmps133
  go_wp2
  go_ret
  exact ⟨rfl, rfl⟩
set_option maxHeartbeats 400000 in
theorem kindWord_2 (w : World) : Calls Tryz.prog 133 #[.int .i64 2] w fun e w' => e = .returned (.string (tx [100, 101, 108, 105, 118, 101, 114])) ∧ w' = w := by
  go_enter Tryz.func133, Tryz.ntmps133
  go_wp2
  go_ret
  exact ⟨rfl, rfl⟩
set_option maxHeartbeats 400000 in
theorem kindWord_3 (w : World) : Calls Tryz.prog 133 #[.int .i64 3] w fun e w' => e = .returned (.string (tx [97, 108, 108])) ∧ w' = w := by
  go_enter Tryz.func133, Tryz.ntmps133
  go_wp2
  go_ret
  exact ⟨rfl, rfl⟩
set_option maxHeartbeats 400000 in
theorem kindWord_4 (w : World) : Calls Tryz.prog 133 #[.int .i64 4] w fun e w' => e = .returned (.string (tx [97, 110, 121])) ∧ w' = w := by
  go_enter Tryz.func133, Tryz.ntmps133
  go_wp2
  go_ret
  exact ⟨rfl, rfl⟩

set_option maxHeartbeats 2000000 in
theorem kindOf_any (s : List UInt8) (w : World) : Calls Tryz.prog 144 #[.string (tx s)] w fun e w' => e = .returned (.int .i64 (Ru.kindN s)) ∧ w' = w := by
  by_cases h1 : s = [100, 114, 111, 112]
  · have HN := hid (show Ru.kindN s = 1 by unfold Ru.kindN; rw [if_pos h1])
    have b1 : ([100, 114, 111, 112] == s) = true := by rw [h1]; rfl
    rw [HN.out]
    clear h1 HN
    go_enter Tryz.func144, Tryz.ntmps144
    go_wp2_with fail
    refine wp_loop_rounds 5 ?_
    rw [rounds_succ]
    go_wp2_with fail
    refine (kindWord_1 _).mono ?_
    rintro e w1 ⟨rfl, rfl⟩
    go_wp2_with fail
    go_ret
    exact ⟨rfl, rfl⟩
  · by_cases h2 : s = [100, 101, 108, 105, 118, 101, 114]
    · have HN := hid (show Ru.kindN s = 2 by unfold Ru.kindN; rw [if_neg h1]; rw [if_pos h2])
      have b1 : ([100, 114, 111, 112] == s) = false := by rw [beq_eq_false_iff_ne]; exact fun q => h1 q.symm
      have b2 : ([100, 101, 108, 105, 118, 101, 114] == s) = true := by rw [h2]; rfl
      rw [HN.out]
      clear h1 h2 HN
      go_enter Tryz.func144, Tryz.ntmps144
      go_wp2_with fail
      refine wp_loop_rounds 5 ?_
      rw [rounds_succ]
      go_wp2_with fail
      refine (kindWord_1 _).mono ?_
      rintro e w1 ⟨rfl, rfl⟩
      go_wp2_with fail
      rw [rounds_succ]
      go_wp2_with fail
      refine (kindWord_2 _).mono ?_
      rintro e w2 ⟨rfl, rfl⟩
      go_wp2_with fail
      go_ret
      exact ⟨rfl, rfl⟩
    · by_cases h3 : s = [97, 108, 108]
      · have HN := hid (show Ru.kindN s = 3 by unfold Ru.kindN; rw [if_neg h1]; rw [if_neg h2]; rw [if_pos h3])
        have b1 : ([100, 114, 111, 112] == s) = false := by rw [beq_eq_false_iff_ne]; exact fun q => h1 q.symm
        have b2 : ([100, 101, 108, 105, 118, 101, 114] == s) = false := by rw [beq_eq_false_iff_ne]; exact fun q => h2 q.symm
        have b3 : ([97, 108, 108] == s) = true := by rw [h3]; rfl
        rw [HN.out]
        clear h1 h2 h3 HN
        go_enter Tryz.func144, Tryz.ntmps144
        go_wp2_with fail
        refine wp_loop_rounds 5 ?_
        rw [rounds_succ]
        go_wp2_with fail
        refine (kindWord_1 _).mono ?_
        rintro e w1 ⟨rfl, rfl⟩
        go_wp2_with fail
        rw [rounds_succ]
        go_wp2_with fail
        refine (kindWord_2 _).mono ?_
        rintro e w2 ⟨rfl, rfl⟩
        go_wp2_with fail
        rw [rounds_succ]
        go_wp2_with fail
        refine (kindWord_3 _).mono ?_
        rintro e w3 ⟨rfl, rfl⟩
        go_wp2_with fail
        go_ret
        exact ⟨rfl, rfl⟩
      · by_cases h4 : s = [97, 110, 121]
        · have HN := hid (show Ru.kindN s = 4 by unfold Ru.kindN; rw [if_neg h1]; rw [if_neg h2]; rw [if_neg h3]; rw [if_pos h4])
          have b1 : ([100, 114, 111, 112] == s) = false := by rw [beq_eq_false_iff_ne]; exact fun q => h1 q.symm
          have b2 : ([100, 101, 108, 105, 118, 101, 114] == s) = false := by rw [beq_eq_false_iff_ne]; exact fun q => h2 q.symm
          have b3 : ([97, 108, 108] == s) = false := by rw [beq_eq_false_iff_ne]; exact fun q => h3 q.symm
          have b4 : ([97, 110, 121] == s) = true := by rw [h4]; rfl
          rw [HN.out]
          clear h1 h2 h3 h4 HN
          go_enter Tryz.func144, Tryz.ntmps144
          go_wp2_with fail
          refine wp_loop_rounds 5 ?_
          rw [rounds_succ]
          go_wp2_with fail
          refine (kindWord_1 _).mono ?_
          rintro e w1 ⟨rfl, rfl⟩
          go_wp2_with fail
          rw [rounds_succ]
          go_wp2_with fail
          refine (kindWord_2 _).mono ?_
          rintro e w2 ⟨rfl, rfl⟩
          go_wp2_with fail
          rw [rounds_succ]
          go_wp2_with fail
          refine (kindWord_3 _).mono ?_
          rintro e w3 ⟨rfl, rfl⟩
          go_wp2_with fail
          rw [rounds_succ]
          go_wp2_with fail
          refine (kindWord_4 _).mono ?_
          rintro e w4 ⟨rfl, rfl⟩
          go_wp2_with fail
          go_ret
          exact ⟨rfl, rfl⟩
        · have HN := hid (show Ru.kindN s = 0 by unfold Ru.kindN; rw [if_neg h1, if_neg h2, if_neg h3, if_neg h4])
          have b1 : ([100, 114, 111, 112] == s) = false := by rw [beq_eq_false_iff_ne]; exact fun q => h1 q.symm
          have b2 : ([100, 101, 108, 105, 118, 101, 114] == s) = false := by rw [beq_eq_false_iff_ne]; exact fun q => h2 q.symm
          have b3 : ([97, 108, 108] == s) = false := by rw [beq_eq_false_iff_ne]; exact fun q => h3 q.symm
          have b4 : ([97, 110, 121] == s) = false := by rw [beq_eq_false_iff_ne]; exact fun q => h4 q.symm
          rw [HN.out]
          clear h1 h2 h3 h4 HN
          go_enter Tryz.func144, Tryz.ntmps144
          go_wp2_with fail
          refine wp_loop_rounds 5 ?_
          rw [rounds_succ]
          go_wp2_with fail
          refine (kindWord_1 _).mono ?_
          rintro e w1 ⟨rfl, rfl⟩
          go_wp2_with fail
          rw [rounds_succ]
          go_wp2_with fail
          refine (kindWord_2 _).mono ?_
          rintro e w2 ⟨rfl, rfl⟩
          go_wp2_with fail
          rw [rounds_succ]
          go_wp2_with fail
          refine (kindWord_3 _).mono ?_
          rintro e w3 ⟨rfl, rfl⟩
          go_wp2_with fail
          rw [rounds_succ]
          go_wp2_with fail
          refine (kindWord_4 _).mono ?_
          rintro e w4 ⟨rfl, rfl⟩
          go_wp2_with fail
          rw [rounds_succ]
          go_wp2_with fail
          go_ret
          exact ⟨rfl, rfl⟩

set_option maxHeartbeats 400000 in
theorem portsOf_low (k : Nat) (h : k = 1 ∨ k = 2) (w : World) : Calls Tryz.prog 93 #[.int .i64 k] w fun e w' => e = .returned (.tuple #[.int .i64 0, .int .i64 0]) ∧ w' = w := by
  rcases h with rfl | rfl
  · go_enter Tryz.func93, Tryz.ntmps93
    go_wp2
    refine bodyPost_ret (v := .tuple #[.int .i64 0, .int .i64 0]) (by simp [results, Tryz.results93, go_sem]) rfl ⟨rfl, rfl⟩
  · go_enter Tryz.func93, Tryz.ntmps93
    go_wp2
    refine bodyPost_ret (v := .tuple #[.int .i64 0, .int .i64 0]) (by simp [results, Tryz.results93, go_sem]) rfl ⟨rfl, rfl⟩
set_option maxHeartbeats 400000 in
theorem portsOf_high (k : Nat) (h : k = 3 ∨ k = 4) (w : World) : Calls Tryz.prog 93 #[.int .i64 k] w fun e w' => e = .returned (.tuple #[.int .i64 1, .int .i64 64]) ∧ w' = w := by
  rcases h with rfl | rfl
  · go_enter Tryz.func93, Tryz.ntmps93
    go_wp2
    refine bodyPost_ret (v := .tuple #[.int .i64 1, .int .i64 64]) (by simp [results, Tryz.results93, go_sem]) rfl ⟨rfl, rfl⟩
  · go_enter Tryz.func93, Tryz.ntmps93
    go_wp2
    refine bodyPost_ret (v := .tuple #[.int .i64 1, .int .i64 64]) (by simp [results, Tryz.results93, go_sem]) rfl ⟨rfl, rfl⟩

def PortsV (w : World) (B : Nat) (v : Value) (ps : List (List UInt8)) : Prop := (ps = [] ∧ v = .slice none 0 0) ∨ ∃ b cap, v = .slice (some ⟨b, 0, none⟩) ps.length cap ∧ B ≤ b ∧ TxtAt w b ps
theorem PortsV.kept {w w' : World} {B : Nat} {v : Value} {ps : List (List UInt8)} (h : PortsV w B v ps) (hk : ∀ b cs, w.heap[b]? = some (.cells cs 9 (0, 0)) → B ≤ b → w'.heap[b]? = w.heap[b]?) : PortsV w' B v ps := by
  rcases h with h | ⟨b, cap, rfl, hb, cs, h1, h2⟩
  · exact Or.inl h
  · exact Or.inr ⟨b, cap, rfl, hb, cs, (hk b cs h1 hb).trans h1, h2⟩
theorem PortsV.form {w : World} {B : Nat} {v : Value} {ps : List (List UInt8)} (h : PortsV w B v ps) : ∃ ao n cap, v = .slice ao n cap := by
  rcases h with ⟨_, rfl⟩ | ⟨b, cap, rfl, _⟩
  · exact ⟨_, _, _, rfl⟩
  · exact ⟨_, _, _, rfl⟩
def ActPost (w : World) (rb g width : Nat) (l : List Wd) (e : Wd) (en : Ending) (w' : World) : Prop :=
  (∃ k ps t v, Ru.act e l = .ok (k, ps, t) ∧ en = .returned (.agg #[.int .i64 (k : Nat), v]) ∧ PortsV w' w.heap.size v ps ∧ RdOn w w' rb g width t e) ∨ (∃ f, Ru.act e l = .error f ∧ Gave w rb f en w')
theorem act_51 {e : Wd} {l : List Wd} (h : Ru.kindN (Ru.nx e l).1 = 0) : Ru.act e l = .error (Ru.ft (Ru.nx e l) 51) := if_pos h
theorem act_low {e : Wd} {l : List Wd} {k : Nat} (hk : Ru.kindN (Ru.nx e l).1 = k) (h : k = 1 ∨ k = 2) : Ru.act e l = .ok (k, [], l.tail) := by
  unfold Ru.act
  rw [hk, if_neg (by omega), if_pos (by omega)]
theorem act_high {e : Wd} {l : List Wd} {k : Nat} (hk : Ru.kindN (Ru.nx e l).1 = k) (h : k = 3 ∨ k = 4) : Ru.act e l = match Ru.prt e l.tail with
    | .error f => .error f
    | .ok (ps, t) => .ok (k, ps, t) := by
  unfold Ru.act
  rw [hk, if_neg (by omega), if_neg (by omega)]
  cases Ru.prt e l.tail <;> rfl

theorem RdOn.pre {w w' : World} {o : Obj} {rb g width : Nat} {l : List Wd} {e : Wd} (h : RdOn (w.alloc o) w' rb g width l e) : RdOn w w' rb g width l e := ⟨h.rd, grown_two (grown_alloc _ _ _) h.on⟩
abbrev aob (k : Int) (v : Value) : Obj := .cells #[.int .i64 k, v] 49
theorem act_store {w' : World} {B : Nat} {k : Int} {v : Value} (h : w'.heap[B]? = some (aob 0 (.slice none 0 0))) : ((w'.setCell ⟨B, 0, none⟩ (.int .i64 k)).setCell ⟨B, 1, none⟩ v).heap[B]? = some (aob k v) := by
  rw [block_set (o := 1) _ (block_set (o := 0) _ h)]; rfl

set_option maxHeartbeats 2000000 in
theorem uaction {w : World} {rb g width : Nat} {l : List Wd} {e : Wd} (hR : RdAt w rb g width l e) (hs : Short e l) (hg : g < w.heap.size) (hl : l.length ≤ 1048576) :
    Calls Tryz.prog 110 #[.pointer (some ⟨rb, 0, none⟩)] w fun en w' => ActPost w rb g width l e en w' := by
  have hrb := hR.lt
  have HN := hid (unext_on (RdOn.start (hR.alloc (aob 0 (.slice none 0 0)))))
  obtain ⟨k, hk⟩ : ∃ k, Ru.kindN (Ru.nx e l).1 = k := ⟨_, rfl⟩
  have hk4 : k ≤ 4 := by rw [← hk]; exact Ru.kindN_le _
  have HU := hid (fun w => kindOf_any (Ru.nx e l).1 w)
  rw [hk] at HU
  have HK := hid hk
  have HS := hid hs
  obtain ⟨x, hx0⟩ : ∃ x, x = Ru.nx e l := ⟨_, rfl⟩
  rw [← hx0] at HN HU
  have HX := hid hx0
  clear hx0 hR hk hs
  have hkI : (0 : Int) ≤ (k : Int) := by omega
  go_enter Tryz.func110, Tryz.ntmps110
  go_wp2_with fail
  refine HN.out.mono ?_
  rintro en w1 ⟨rfl, H⟩
  go_wp2_with fail
  refine (HU.out _).mono ?_
  rintro en w2 ⟨rfl, rfl⟩
  go_wp2_with fail
  refine (umust_on (H.out.alloc _) _ x 51).mono ?_
  rintro en w3 (⟨HB, rfl, rfl⟩ | ⟨HB, q, rfl, hf, hgr⟩)
  rotate_left
  · refine ⟨rfl, Or.inr ⟨Ru.ft x 51, ?_, q, rfl, hf, grown_two (grown_alloc _ _ _) hgr⟩⟩
    rw [HX.out]
    exact act_51 (by rw [HK.out]; have := HB.out; simp at this; omega)
  have hk0 : k ≠ 0 := by have := HB.out; simp at this; omega
  have R := hid ((H.out.alloc (wob x)).alloc (wob x))
  have BR := hid (new_old _ (wob x) (new_old _ (wob x) (block_grow (new_0 w (aob 0 (.slice none 0 0))) H.out.on (by omega))))
  rcases (by omega : (k = 1 ∨ k = 2) ∨ (k = 3 ∨ k = 4)) with hk2 | hk2
  · have HK2 := hid hk2
    clear hk2
    have k0 := cell_at (o := 0) BR.out
    have k1 := cell_at (o := 1) BR.out
    simp only [List.getElem?_toArray, List.getElem?_cons_succ, List.getElem?_cons_zero] at k0 k1
    have f0 := free_of (o := 0) BR.out
    have f1 := free_of (o := 1) BR.out
    have B2 := act_store (k := k) (v := .slice none 0 0) BR.out
    have m0 := cell_at (o := 0) B2
    have m1 := cell_at (o := 1) B2
    simp only [List.getElem?_toArray, List.getElem?_cons_succ, List.getElem?_cons_zero] at m0 m1
    clear B2
    go_wp2_with fail
    refine (portsOf_low k HK2.out _).mono ?_
    rintro en w4 ⟨rfl, rfl⟩
    go_wp2
    refine bodyPost_ret (v := .agg #[.int .i64 k, .slice none 0 0]) (by simp [results, Tryz.results110, go_sem, m0, m1]) rfl ?_
    refine Or.inl ⟨k, [], l.tail, .slice none 0 0, act_low HK.out HK2.out, rfl, Or.inl ⟨rfl, rfl⟩, ?_⟩
    exact (R.out.pre.row (grown_cell _ _ _ _) hrb hg (fun i hi => by simp at hi; omega)).row (grown_cell _ _ _ _) hrb hg (fun i hi => by simp at hi; omega)
  · have HK2 := hid hk2
    clear hk2
    have HA := hid (act_high HK.out HK2.out)
    go_wp2_with fail
    refine (portsOf_high k HK2.out _).mono ?_
    rintro en w4 ⟨rfl, rfl⟩
    go_wp2_with fail
    refine (uports R.out.rd HS.out.tail (Nat.lt_of_lt_of_le (Nat.lt_succ_of_lt hg) (by have := R.out.on.size; simp at this ⊢; omega)) (by simp only [List.length_tail]; omega)).mono ?_
    rintro en w5 (⟨ps, t, b, cap, hp, rfl, hb, hT, hR5⟩ | ⟨f, hp, q, rfl, hf, hgr⟩)
    rotate_left
    · refine ⟨rfl, Or.inr ⟨f, ?_, q, rfl, hf, grown_two R.out.pre.on hgr⟩⟩
      rw [HA.out, hp]
    rw [hp] at HA
    have HT := hid hT
    have HR5 := hid hR5
    clear hp hT hR5
    have b5 := block_grow BR.out HR5.out.on (by omega)
    have k0 := cell_at (o := 0) b5
    have k1 := cell_at (o := 1) b5
    simp only [List.getElem?_toArray, List.getElem?_cons_succ, List.getElem?_cons_zero] at k0 k1
    have f0 := free_of (o := 0) b5
    have f1 := free_of (o := 1) b5
    have B2 := act_store (k := k) (v := .slice (some ⟨b, 0, none⟩) ps.length cap) b5
    have m0 := cell_at (o := 0) B2
    have m1 := cell_at (o := 1) B2
    simp only [List.getElem?_toArray, List.getElem?_cons_succ, List.getElem?_cons_zero] at m0 m1
    have hbw : w.heap.size + 1 ≤ b := by have := R.out.on.size; simp at this hb; omega
    clear B2 b5 hb
    go_wp2
    refine bodyPost_ret (v := .agg #[.int .i64 k, .slice (some ⟨b, 0, none⟩) ps.length cap]) (by simp [results, Tryz.results110, go_sem, m0, m1]) rfl ?_
    refine Or.inl ⟨k, ps, t, _, HA.out, rfl, Or.inr ⟨b, cap, rfl, by omega, HT.out.kept ?_⟩, ?_⟩
    · have hne : b ≠ w.heap.size := by omega
      rw [Below.heap_setCell _ _ _ _ hne, Below.heap_setCell _ _ _ _ hne]
    · exact ((R.out.trans HR5.out).pre.row (grown_cell _ _ _ _) hrb hg (fun i hi => by simp at hi; omega)).row (grown_cell _ _ _ _) hrb hg (fun i hi => by simp at hi; omega)
end Go.Proofs.YtemmhingmeinjaaGreatDoor
namespace Go.Proofs.YtemmhingmeinjaaGreatDoor
open Go.RowKit
open Wo (Wd)

def RdB (w : World) (rb width : Nat) : Prop := ∃ c1 c2 c3 c4 c5 c6 c7, w.heap[rb]? = some (.cells #[.int .i64 width, c1, c2, c3, c4, c5, c6, c7] 145 (0, 0))
def LineAt (w : World) (g : Nat) (l : List Wd) : Prop := g < w.heap.size ∧ ∀ (i : Nat) (x : Wd), l[i]? = some x → w.cell? ⟨g, i * 3, none⟩ = some (.string (tx x.1)) ∧ w.cell? ⟨g, i * 3 + 1, none⟩ = some (.int .i64 x.2.1) ∧ w.cell? ⟨g, i * 3 + 2, none⟩ = some (.int .i64 x.2.2)
theorem RdAt.b {w : World} {rb g width : Nat} {l : List Wd} {e : Wd} (h : RdAt w rb g width l e) : RdB w rb width := by
  obtain ⟨o, cap, f0, f1, f2, hc, _⟩ := h.ex
  exact ⟨_, _, _, _, _, _, _, hc⟩
theorem LineAt.kept {w w' : World} {g : Nat} {l : List Wd} (h : LineAt w g l) (he : w'.heap[g]? = w.heap[g]?) (hs : w.heap.size ≤ w'.heap.size) : LineAt w' g l := by
  refine ⟨Nat.lt_of_lt_of_le h.1 hs, fun i x hx => ?_⟩
  obtain ⟨q1, q2, q3⟩ := h.2 i x hx
  exact ⟨by rw [World.cell?_of_block he]; exact q1, by rw [World.cell?_of_block he]; exact q2, by rw [World.cell?_of_block he]; exact q3⟩
theorem endW_last {l : List Wd} {x : Wd} (h : l[l.length - 1]? = some x) : Ru.endW l = ([], x.2.1, x.2.2 + x.1.length) := by
  unfold Ru.endW
  rw [List.getLast?_eq_getElem?, h]

set_option maxHeartbeats 1000000 in
theorem ubegin {w : World} {rb width g : Nat} {l : List Wd} {cap : Nat} (hB : RdB w rb width) (hL : LineAt w g l) (hgr : g ≠ rb) (h0 : 0 < l.length) (hcap : l.length ≤ cap) (hcm : cap ≤ 9223372036854775807) (hsm : ∀ x ∈ l, x.1.length ≤ 1048576 ∧ x.2.2 ≤ 1048577) :
    Calls Tryz.prog 106 #[.pointer (some ⟨rb, 0, none⟩), .slice (some ⟨g, 0, none⟩) l.length cap] w fun en w' => en = .returned (.tuple #[]) ∧ RdOn w w' rb g width l (Ru.endW l) := by
  obtain ⟨c1, c2, c3, c4, c5, c6, c7, hc⟩ := hB
  obtain ⟨x, hx⟩ : ∃ x, l[l.length - 1]? = some x := ⟨l[l.length - 1]'(by omega), List.getElem?_eq_getElem (by omega)⟩
  have he := endW_last hx
  rw [he]
  have hlt := lt_of_block hc
  obtain ⟨q1, q2, q3⟩ := hL.2 _ x hx
  have hxm := hsm x (List.mem_of_getElem? hx)
  obtain ⟨n, hn⟩ : ∃ n, l.length = n + 1 := ⟨l.length - 1, by omega⟩
  have en : l.length - 1 = n := by omega
  rw [en] at q1 q2 q3
  have a1 := alloc_cell q1 hL.1
  have a2 := alloc_cell q2 hL.1
  have a3 := alloc_cell q3 hL.1
  have k : ∀ (ob : Obj) (o : Nat) (v : Value), (#[.int .i64 width, c1, c2, c3, c4, c5, c6, c7] : Array Value)[o]? = some v → (w.alloc ob).cell? ⟨rb, o, none⟩ = some v := fun ob o v h => by rw [cell_at (new_old w ob hc)]; exact h
  have k1 := fun ob => k ob 1 c1 rfl
  have k2 := fun ob => k ob 2 c2 rfl
  have k3 := fun ob => k ob 3 c3 rfl
  have k4 := fun ob => k ob 4 c4 rfl
  have f1 : ∀ ob, (w.alloc ob).frozen? ⟨rb, 1, none⟩ = false := alloc_free hc
  have f2 : ∀ ob, (w.alloc ob).frozen? ⟨rb, 2, none⟩ = false := alloc_free hc
  have f3 : ∀ ob, (w.alloc ob).frozen? ⟨rb, 3, none⟩ = false := alloc_free hc
  have f4 : ∀ ob, (w.alloc ob).frozen? ⟨rb, 4, none⟩ = false := alloc_free hc
  have j1 := cell_at (o := 1) hc
  have j2 := cell_at (o := 2) hc
  have j3 := cell_at (o := 3) hc
  have j4 := cell_at (o := 4) hc
  simp only [List.getElem?_toArray, List.getElem?_cons_succ, List.getElem?_cons_zero] at j1 j2 j3 j4
  have g1 := free_of (o := 1) hc
  have g2 := free_of (o := 2) hc
  have g3 := free_of (o := 3) hc
  have g4 := free_of (o := 4) hc
  have hxI : (x.2.2 : Int) + (x.1.length : Int) ≤ 2097153 := by omega
  have hx0 : (0 : Int) ≤ (x.2.2 : Int) + (x.1.length : Int) := by omega
  have HR : Hid (RdOn w ((((w.setCell ⟨rb, 1, none⟩ (.slice (some ⟨g, 0, none⟩) (n + 1) cap)).setCell ⟨rb, 2, none⟩ (.string (tx []))).setCell ⟨rb, 3, none⟩ (.int .i64 x.2.1)).setCell ⟨rb, 4, none⟩ (.int .i64 ((x.2.2 : Int) + (x.1.length : Int)))) rb g width l ([], x.2.1, x.2.2 + x.1.length)) := by
    refine ⟨⟨0, cap, c5, c6, c7, ?_, hcap, hcm, hgr, by simpa using hL.1, fun i y hy => ?_⟩, grown_two (grown_two (grown_two (grown_set _ _ _ _) (grown_set _ _ _ _)) (grown_set _ _ _ _)) (grown_set _ _ _ _)⟩
    · rw [block_set (o := 4) _ (block_set (o := 3) _ (block_set (o := 2) _ (block_set (o := 1) _ hc))), hn]
      simp
    · obtain ⟨p1, p2, p3⟩ := hL.2 i y hy
      have eb : ((((w.setCell ⟨rb, 1, none⟩ (.slice (some ⟨g, 0, none⟩) (n + 1) cap)).setCell ⟨rb, 2, none⟩ (.string (tx []))).setCell ⟨rb, 3, none⟩ (.int .i64 x.2.1)).setCell ⟨rb, 4, none⟩ (.int .i64 ((x.2.2 : Int) + (x.1.length : Int)))).heap[g]? = w.heap[g]? := by
        rw [Below.heap_setCell _ _ _ _ hgr, Below.heap_setCell _ _ _ _ hgr, Below.heap_setCell _ _ _ _ hgr, Below.heap_setCell _ _ _ _ hgr]
      obtain ⟨W, hW⟩ : ∃ W, W = ((((w.setCell ⟨rb, 1, none⟩ (.slice (some ⟨g, 0, none⟩) (n + 1) cap)).setCell ⟨rb, 2, none⟩ (.string (tx []))).setCell ⟨rb, 3, none⟩ (.int .i64 x.2.1)).setCell ⟨rb, 4, none⟩ (.int .i64 ((x.2.2 : Int) + (x.1.length : Int)))) := ⟨_, rfl⟩
      rw [← hW] at eb ⊢
      have ce : ∀ o, W.cell? ⟨g, o, none⟩ = w.cell? ⟨g, o, none⟩ := fun o => World.cell?_of_block eb
      rw [ce, ce, ce, Nat.zero_add]
      exact ⟨p1, p2, p3⟩
  rw [hn]
  have hnI : (n : Int) ≤ 9223372036854775806 := by omega
  have hn0 : (0 : Int) ≤ (n : Int) := by omega
  clear hc hL hx he hxm hn en k hsm
  go_enter Tryz.func106, Tryz.ntmps106
  go_wp2
  go_end0
  exact ⟨rfl, HR.out.alloc _⟩
end Go.Proofs.YtemmhingmeinjaaGreatDoor
namespace Go.Proofs.YtemmhingmeinjaaGreatDoor
open Go.RowKit
open Wo (Wd)

abbrev rob (p : Int) (m : ByteArray) (k : Int) (v : Value) : Obj := .cells #[.int .i64 p, .string m, .int .i64 k, v] 51
abbrev rv (x : Ru.Rl) (v : Value) : Value := .agg #[.int .i64 x.prio, .string (tx x.mat), .int .i64 x.kind, v]
def RulePost (w : World) (rb _g width : Nat) (l : List Wd) (en : Ending) (w' : World) : Prop :=
  (∃ x v, Ru.rul width l = .ok x ∧ en = .returned (rv x v) ∧ PortsV w' w.heap.size v x.ports ∧ RdB w' rb width ∧ w.grownBy w' (some rb)) ∨ (∃ f, Ru.rul width l = .error f ∧ Gave w rb f en w')

theorem PortsV.mono {w : World} {B B' : Nat} {v : Value} {ps : List (List UInt8)} (h : PortsV w B v ps) (hB : B' ≤ B) : PortsV w B' v ps := by
  rcases h with h | ⟨b, cap, rfl, hb, h⟩
  · exact Or.inl h
  · exact Or.inr ⟨b, cap, rfl, Nat.le_trans hB hb, h⟩
section
variable {width : Nat} {l : List Wd}
theorem rul_32 (h1 : (Ru.nx (Ru.endW l) l).1 = Ru.ruleT) (h2 : Wo.numB (Ru.nx (Ru.endW l) l.tail).1 = false) : Ru.rul width l = .error (Ru.ft (Ru.nx (Ru.endW l) l.tail) 32) := by
  unfold Ru.rul; rw [if_neg (fun q => q h1), if_pos h2]
theorem rul_10 (h1 : (Ru.nx (Ru.endW l) l).1 = Ru.ruleT) (h2 : Wo.numB (Ru.nx (Ru.endW l) l.tail).1 = true) (h3 : Cub.Cu.right (Ru.nx (Ru.endW l) l.tail.tail).1 = false) : Ru.rul width l = .error (Ru.ft (Ru.nx (Ru.endW l) l.tail.tail) 10) := by
  unfold Ru.rul; rw [if_neg (fun q => q h1), if_neg (by rw [h2]; simp), if_pos h3]
theorem rul_11 (h1 : (Ru.nx (Ru.endW l) l).1 = Ru.ruleT) (h2 : Wo.numB (Ru.nx (Ru.endW l) l.tail).1 = true) (h3 : Cub.Cu.right (Ru.nx (Ru.endW l) l.tail.tail).1 = true) (h4 : (Ru.nx (Ru.endW l) l.tail.tail).1.length ≠ width) : Ru.rul width l = .error (Ru.ft (Ru.nx (Ru.endW l) l.tail.tail) 11) := by
  unfold Ru.rul; rw [if_neg (fun q => q h1), if_neg (by rw [h2]; simp), if_neg (by rw [h3]; simp), if_pos h4]
theorem rul_act (h1 : (Ru.nx (Ru.endW l) l).1 = Ru.ruleT) (h2 : Wo.numB (Ru.nx (Ru.endW l) l.tail).1 = true) (h3 : Cub.Cu.right (Ru.nx (Ru.endW l) l.tail.tail).1 = true) (h4 : (Ru.nx (Ru.endW l) l.tail.tail).1.length = width) : Ru.rul width l = match Ru.act (Ru.endW l) l.tail.tail.tail with
    | .error f => .error f
    | .ok (k, ps, t) => if (Ru.nx (Ru.endW l) t).1 ≠ [] then .error (Ru.ft (Ru.nx (Ru.endW l) t) 50) else .ok ⟨Wo.numV (Ru.nx (Ru.endW l) l.tail).1, (Ru.nx (Ru.endW l) l.tail.tail).1, k, ps⟩ := by
  unfold Ru.rul; rw [if_neg (fun q => q h1), if_neg (by rw [h2]; simp), if_neg (by rw [h3]; simp), if_neg (fun q => q h4)]
  cases Ru.act (Ru.endW l) l.tail.tail.tail <;> rfl
end
theorem rob_1 {w : World} {b : Nat} {p k : Int} {m : ByteArray} {v : Value} (h : w.heap[b]? = some (rob p m k v)) (p' : Int) : (w.setCell ⟨b, 0, none⟩ (.int .i64 p')).heap[b]? = some (rob p' m k v) := by rw [block_set (o := 0) _ h]; rfl
theorem rob_2 {w : World} {b : Nat} {p k : Int} {m : ByteArray} {v : Value} (h : w.heap[b]? = some (rob p m k v)) (m' : ByteArray) : (w.setCell ⟨b, 1, none⟩ (.string m')).heap[b]? = some (rob p m' k v) := by rw [block_set (o := 1) _ h]; rfl
theorem rob_3 {w : World} {b : Nat} {p k : Int} {m : ByteArray} {v : Value} (h : w.heap[b]? = some (rob p m k v)) (k' : Int) : (w.setCell ⟨b, 2, none⟩ (.int .i64 k')).heap[b]? = some (rob p m k' v) := by rw [block_set (o := 2) _ h]; rfl
theorem rob_4 {w : World} {b : Nat} {p k : Int} {m : ByteArray} {v : Value} (h : w.heap[b]? = some (rob p m k v)) (v' : Value) : (w.setCell ⟨b, 3, none⟩ v').heap[b]? = some (rob p m k v') := by rw [block_set (o := 3) _ h]; rfl
theorem rob_cells {w : World} {b : Nat} {p k : Int} {m : ByteArray} {v : Value} (h : w.heap[b]? = some (rob p m k v)) : w.cell? ⟨b, 0, none⟩ = some (.int .i64 p) ∧ w.cell? ⟨b, 1, none⟩ = some (.string m) ∧ w.cell? ⟨b, 2, none⟩ = some (.int .i64 k) ∧ w.cell? ⟨b, 3, none⟩ = some v ∧ w.frozen? ⟨b, 0, none⟩ = false ∧ w.frozen? ⟨b, 1, none⟩ = false ∧ w.frozen? ⟨b, 2, none⟩ = false ∧ w.frozen? ⟨b, 3, none⟩ = false :=
  ⟨by rw [cell_at h]; rfl, by rw [cell_at h]; rfl, by rw [cell_at h]; rfl, by rw [cell_at h]; rfl, free_of h, free_of h, free_of h, free_of h⟩
theorem RdOn.set {w0 w : World} {rb g width : Nat} {l : List Wd} {e : Wd} (h : RdOn w0 w rb g width l e) {b o : Nat} (v : Value) (hr : rb < w0.heap.size) (hg : g < w0.heap.size) (hb : w0.heap.size ≤ b) : RdOn w0 (w.setCell ⟨b, o, none⟩ v) rb g width l e :=
  h.row (grown_cell _ _ _ _) hr hg (fun i hi => by simp at hi; omega)

set_option maxRecDepth 4000 in
set_option maxHeartbeats 2000000 in
theorem urule {w : World} {rb width g : Nat} {l : List Wd} {cap : Nat} (hB : RdB w rb width) (hL : LineAt w g l) (hgr : g ≠ rb) (h0 : 0 < l.length) (hcap : l.length ≤ cap) (hcm : cap ≤ 9223372036854775807) (hsm : ∀ x ∈ l, x.1.length ≤ 1048576 ∧ x.2.2 ≤ 1048577) (hl : l.length ≤ 1048576) :
    Calls Tryz.prog 71 #[.pointer (some ⟨rb, 0, none⟩), .slice (some ⟨g, 0, none⟩) l.length cap] w fun en w' => RulePost w rb g width l en w' := by
  obtain ⟨c1, c2, c3, c4, c5, c6, c7, hc⟩ := hB
  have hrb := lt_of_block hc
  have hgl := hL.1
  have HS : Hid (Short (Ru.endW l) l) := ⟨Ru.endW_text l, fun x hx => (hsm x hx).1⟩
  have HBG := hid (ubegin (w := w.alloc (rob 0 ⟨#[]⟩ 0 (.slice none 0 0))) ⟨c1, c2, c3, c4, c5, c6, c7, new_old _ _ hc⟩ (hL.kept (heap_old _ _ hL.1) (by simp)) hgr h0 hcap hcm hsm)
  obtain ⟨n, hn⟩ : ∃ n, n = l.length := ⟨_, rfl⟩
  rw [← hn] at HBG ⊢
  clear hn hsm hc hL
  go_enter Tryz.func71, Tryz.ntmps71
  go_wp2_with fail
  refine HBG.out.mono ?_
  rintro en w1 ⟨rfl, H1⟩
  have H1 := hid H1
  go_wp2_with fail
  refine (utext_on H1.out Ru.ruleT 50).mono ?_
  rintro en w2 (⟨HB, rfl, H2⟩ | ⟨HB, q, rfl, hf, hgr⟩)
  rotate_left
  · exact ⟨rfl, Or.inr ⟨_, if_pos HB.out, q, rfl, hf, grown_two (grown_alloc _ _ _) hgr⟩⟩
  have H2w := hid H2.out.pre
  have B2 := hid (And.intro (new_old _ (rob 0 ⟨#[]⟩ 0 (.slice none 0 0)) (block_grow (new_0 w (rob 0 ⟨#[]⟩ 0 (.slice none 0 0))) H2.out.on (by omega))) (new_0 w2 (rob 0 ⟨#[]⟩ 0 (.slice none 0 0))))
  have R2 := hid (H2w.out.alloc (rob 0 ⟨#[]⟩ 0 (.slice none 0 0)))
  have hA : w.heap.size < w2.heap.size := by have := H2.out.on.size; simp at this; omega
  clear H1 HBG
  go_wp2_with fail
  refine (upriority R2.out.rd HS.out.tail.nx).mono ?_
  rintro en w3 (⟨hb3, rfl, h3⟩ | ⟨hb3, q, rfl, hf, hgr⟩)
  rotate_left
  · exact ⟨rfl, Or.inr ⟨_, rul_32 HB.out hb3, q, rfl, hf, grown_two R2.out.on hgr⟩⟩
  obtain ⟨np, hnp⟩ : ∃ np, np = Wo.numV (Ru.nx (Ru.endW l) l.tail).1 := ⟨_, rfl⟩
  rw [← hnp]
  have HNP := hid hnp
  have HB3 := hid hb3
  have B3 := hid (And.intro (block_grow B2.out.1 h3.on (by omega)) (block_grow B2.out.2 h3.on (by omega)))
  have R3 := hid ((R2.out.trans h3).set (b := w2.heap.size) (o := 0) (.int .i64 np) hrb hgl (by omega))
  obtain ⟨k0, k1, k2, k3, f0, f1, f2, f3⟩ := rob_cells B3.out.2
  have B4 := hid (And.intro (block_other (o := 0) (.int .i64 np) B3.out.1 (g := w2.heap.size) (by omega)) (rob_1 B3.out.2 np))
  clear hnp hb3 h3
  go_wp2_with fail
  refine (umatch R3.out.rd).mono ?_
  rintro en w4 (⟨hb4, hl4, rfl, h4⟩ | ⟨hb4, q, rfl, hf, hgr⟩ | ⟨hb4, hl4, q, rfl, hf, hgr⟩)
  rotate_left
  · exact ⟨rfl, Or.inr ⟨_, rul_10 HB.out HB3.out hb4, q, rfl, hf, grown_two R3.out.on hgr⟩⟩
  · exact ⟨rfl, Or.inr ⟨_, rul_11 HB.out HB3.out hb4 hl4, q, rfl, hf, grown_two R3.out.on hgr⟩⟩
  have HA := hid (rul_act HB.out HB3.out hb4 hl4)
  rw [← HNP.out] at HA
  obtain ⟨mt, hmt⟩ : ∃ mt, mt = (Ru.nx (Ru.endW l) l.tail.tail).1 := ⟨_, rfl⟩
  rw [← hmt] at HA
  rw [← hmt]
  have B5 := hid (And.intro (block_grow B4.out.1 h4.on (by omega)) (block_grow B4.out.2 h4.on (by omega)))
  have R4 := hid ((R3.out.trans h4).set (b := w2.heap.size) (o := 1) (.string (tx mt)) hrb hgl (by omega))
  clear k0 k1 k2 k3 f0 f1 f2 f3
  obtain ⟨k0, k1, k2, k3, f0, f1, f2, f3⟩ := rob_cells B5.out.2
  have B6 := hid (And.intro (block_other (o := 1) (.string (tx mt)) B5.out.1 (g := w2.heap.size) (by omega)) (rob_2 B5.out.2 (tx mt)))
  clear hmt hb4 hl4 h4
  go_wp2_with fail
  refine (uaction R4.out.rd HS.out.tail.tail.tail (by have := R4.out.on.size; omega) (by simp only [List.length_tail]; omega)).mono ?_
  rintro en w5 (⟨k, ps, t, v, ha, rfl, hP, h5⟩ | ⟨f, ha, q, rfl, hf, hgr⟩)
  rotate_left
  · refine ⟨rfl, Or.inr ⟨f, ?_, q, rfl, hf, grown_two R4.out.on hgr⟩⟩
    rw [HA.out, ha]
  rw [ha] at HA
  obtain ⟨ao, vn, vc, rfl⟩ := hP.form
  have HP := hid hP
  have B7 := hid (And.intro (block_grow B6.out.1 h5.on (by omega)) (block_grow B6.out.2 h5.on (by omega)))
  have R5 := hid (((R4.out.trans h5).set (b := w2.heap.size) (o := 2) (.int .i64 k) hrb hgl (by omega)).set (b := w2.heap.size) (o := 3) (.slice ao vn vc) hrb hgl (by omega))
  clear k0 k1 k2 k3 f0 f1 f2 f3
  obtain ⟨k0, k1, k2, k3, f0, f1, f2, f3⟩ := rob_cells B7.out.2
  have B8 := hid (And.intro (block_other (o := 3) (.slice ao vn vc) (block_other (o := 2) (.int .i64 k) B7.out.1 (g := w2.heap.size) (by omega)) (g := w2.heap.size) (by omega)) (rob_4 (rob_3 B7.out.2 k) (.slice ao vn vc)))
  clear ha hP h5
  have hsz5 : w2.heap.size < (w4.setCell ⟨w2.heap.size, 1, none⟩ (.string (tx mt))).heap.size := by have := lt_of_block B6.out.2; exact this
  go_wp2_with fail
  refine (utext_on (RdOn.start R5.out.rd) [] 50).mono ?_
  rintro en w6 (⟨HB6, rfl, H6⟩ | ⟨HB6, q, rfl, hf, hgr⟩)
  rotate_left
  · refine ⟨rfl, Or.inr ⟨Ru.ft (Ru.nx (Ru.endW l) t) 50, ?_, q, rfl, hf, grown_two R5.out.on hgr⟩⟩
    rw [HA.out]
    exact if_pos HB6.out
  have B9 := hid (And.intro (block_grow B8.out.1 H6.out.on (by omega)) (block_grow B8.out.2 H6.out.on (by omega)))
  clear k0 k1 k2 k3 f0 f1 f2 f3
  obtain ⟨k0, k1, k2, k3, f0, f1, f2, f3⟩ := rob_cells B9.out.2
  obtain ⟨m0, m1, m2, m3, g0, g1, g2, g3⟩ := rob_cells B9.out.1
  have B10 := rob_4 (rob_3 (rob_2 (rob_1 B9.out.1 np) (tx mt)) k) (.slice ao vn vc)
  obtain ⟨n0, n1, n2, n3, _, _, _, _⟩ := rob_cells B10
  have RB := hid ((R5.out.trans H6.out).set (b := w.heap.size) (o := 0) (.int .i64 np) hrb hgl (by omega))
  have RC := hid (((RB.out.set (b := w.heap.size) (o := 1) (.string (tx mt)) hrb hgl (by omega)).set (b := w.heap.size) (o := 2) (.int .i64 k) hrb hgl (by omega)).set (b := w.heap.size) (o := 3) (.slice ao vn vc) hrb hgl (by omega))
  clear B10 RB
  go_wp2
  refine bodyPost_ret (v := .agg #[.int .i64 np, .string (tx mt), .int .i64 k, .slice ao vn vc]) (by simp [results, Tryz.results71, go_sem, n0, n1, n2, n3]) rfl ?_
  refine Or.inl ⟨⟨np, mt, k, ps⟩, .slice ao vn vc, ?_, rfl, ?_, RC.out.rd.b, RC.out.on⟩
  · rw [HA.out]
    exact if_neg (fun q => q HB6.out)
  · refine (HP.out.kept ?_).mono (by omega)
    intro b cs hb hbB
    have e1 : b ≠ w.heap.size := by omega
    have e2 : b ≠ w2.heap.size := by omega
    have e3 : b ≠ rb := by omega
    rw [Below.heap_setCell _ _ _ _ e1, Below.heap_setCell _ _ _ _ e1, Below.heap_setCell _ _ _ _ e1, Below.heap_setCell _ _ _ _ e1]
    have e4 : ((w5.setCell ⟨w2.heap.size, 2, none⟩ (.int .i64 k)).setCell ⟨w2.heap.size, 3, none⟩ (.slice ao vn vc)).heap[b]? = w5.heap[b]? := by rw [Below.heap_setCell _ _ _ _ e2, Below.heap_setCell _ _ _ _ e2]
    rw [← e4]
    exact H6.out.on.block b (by rw [← e4] at hb; exact lt_of_block hb) (fun q => e3 (by simpa using q))
end Go.Proofs.YtemmhingmeinjaaGreatDoor
