/-
  The document's end of a link.
  The document's taken: has a link that port already?
  The document's name, known, taken: what a parser of topologies has already.
  The document's list of names.
  The document's reader of a line: Word, Fail, Must (as in UDocB, for seats without package rules).
-/
import Derived.Test.YtkepgjijidebhaaGreatDoorJDocPAnd
import Derived.Test.YtkepgjijidebhaaGreatDoorJRdIAnd
import Derived.Deep.LoopGhost
namespace Go.Proofs.YtkepgjijidebhaaGreatDoor
open Go.RowKit
open Wo (Wd)
namespace Dt

/-- A line of words in a block. -/
def LineAt (w : World) (g : Nat) (l : List Wd) : Prop := g < w.heap.size ∧ ∀ (i : Nat) (x : Wd), l[i]? = some x → w.cell? ⟨g, i * 3, none⟩ = some (.string (tx x.1)) ∧ w.cell? ⟨g, i * 3 + 1, none⟩ = some (.int .i64 x.2.1) ∧ w.cell? ⟨g, i * 3 + 2, none⟩ = some (.int .i64 x.2.2)
def Short (e : Wd) (l : List Wd) : Prop := e.1 = [] ∧ ∀ x ∈ l, x.1.length ≤ 1048576
theorem LineAt.kept {w w' : World} {g : Nat} {l : List Wd} (h : LineAt w g l) (he : w'.heap[g]? = w.heap[g]?) (hs : w.heap.size ≤ w'.heap.size) : LineAt w' g l := by
  refine ⟨Nat.lt_of_lt_of_le h.1 hs, fun i x hx => ?_⟩
  obtain ⟨q1, q2, q3⟩ := h.2 i x hx
  exact ⟨by rw [World.cell?_of_block he]; exact q1, by rw [World.cell?_of_block he]; exact q2, by rw [World.cell?_of_block he]; exact q3⟩
theorem Short.nx {e : Wd} {l : List Wd} (h : Short e l) : (Ru.nx e l).1.length ≤ 1048576 := by
  cases l with
  | nil => show e.1.length ≤ _; rw [h.1]; simp
  | cons x t => exact h.2 x List.mem_cons_self
theorem Short.tail {e : Wd} {l : List Wd} (h : Short e l) : Short e l.tail := ⟨h.1, fun x hx => h.2 x (List.mem_of_mem_tail hx)⟩
theorem endW_last {l : List Wd} {x : Wd} (h : l[l.length - 1]? = some x) : Ru.endW l = ([], x.2.1, x.2.2 + x.1.length) := by
  unfold Ru.endW
  rw [List.getLast?_eq_getElem?, h]
/-- A line in memory, with its bounds. -/
structure LineOk (w : World) (g : Nat) (l : List Wd) : Prop where
  at_ : LineAt w g l
  pos : 0 < l.length
  small : ∀ x ∈ l, x.1.length ≤ 1048576 ∧ x.2.2 ≤ 1048577
  len : l.length ≤ 1048576
/-- The document's reader in memory: its line in block g, the word at which it stands; a fault's line, column, number. -/
structure RfAt (w : World) (rb g : Nat) (l : List Wd) (i a b c : Nat) : Prop where
  blk : ∃ cap, w.heap[rb]? = some (.cells #[.slice (some ⟨g, 0, none⟩) l.length cap, .int .i64 i, .int .i64 a, .int .i64 b, .int .i64 c] 72 (0, 0))
  ok : LineOk w g l
  ne : g ≠ rb
  le : i ≤ l.length
/-- The word at which it stands. -/
abbrev atW (l : List Wd) (i : Nat) : Wd := Ru.nx (Ru.endW l) (l.drop i)
theorem atW_short {w : World} {g : Nat} {l : List Wd} (h : LineOk w g l) (i : Nat) : (atW l i).1.length ≤ 1048576 :=
  Short.nx ⟨Ru.endW_text l, fun x hx => (h.small x (List.mem_of_mem_drop hx)).1⟩
theorem RfAt.lt {w : World} {rb g : Nat} {l : List Wd} {i a b c : Nat} (h : RfAt w rb g l i a b c) : rb < w.heap.size := by
  obtain ⟨cap, hc⟩ := h.blk
  exact lt_of_block hc
theorem LineOk.kept {w w' : World} {g : Nat} {l : List Wd} (h : LineOk w g l) (he : w'.heap[g]? = w.heap[g]?) (hs : w.heap.size ≤ w'.heap.size) : LineOk w' g l := ⟨h.at_.kept he hs, h.pos, h.small, h.len⟩
theorem RfAt.on {w w' : World} {rb g : Nat} {l : List Wd} {i a b c : Nat} (h : RfAt w rb g l i a b c) (hb : Below w.heap.size w w') : RfAt w' rb g l i a b c := by
  obtain ⟨cap, hc⟩ := h.blk
  exact ⟨⟨cap, below_block hb hc (lt_of_block hc)⟩, h.ok.kept (hb.block _ h.ok.at_.1) hb.size, h.ne, h.le⟩
theorem RfAt.alloc {w : World} {rb g : Nat} {l : List Wd} {i a b c : Nat} (h : RfAt w rb g l i a b c) (o : Obj) : RfAt (w.alloc o) rb g l i a b c := h.on ((Below.refl _ _).alloc (Nat.le_refl _) _)
/-- A row turns that is not the reader's own. -/
theorem RfAt.row {w w' : World} {rb g : Nat} {l : List Wd} {i a b c : Nat} {row : Option Nat} (h : RfAt w rb g l i a b c) (hg : w.grownBy w' row) (h1 : row ≠ some rb) (h2 : row ≠ some g) : RfAt w' rb g l i a b c := by
  obtain ⟨cap, hc⟩ := h.blk
  exact ⟨⟨cap, (hg.block _ (lt_of_block hc) (fun e => h1 e.symm)).trans hc⟩, h.ok.kept (hg.block _ h.ok.at_.1 (fun e => h2 e.symm)) hg.size, h.ne, h.le⟩
theorem wdrop_at {l : List Wd} {i : Nat} (h : i < l.length) : l.drop i = l[i] :: l.drop (i + 1) := List.drop_eq_getElem_cons h
theorem atW_in {l : List Wd} {i : Nat} (h : i < l.length) : atW l i = l[i] := by unfold atW; rw [wdrop_at h]; rfl
theorem atW_out {l : List Wd} : atW l l.length = Ru.endW l := by unfold atW; simp

set_option maxHeartbeats 1000000 in
theorem Word_any {w : World} {rb g : Nat} {l : List Wd} {i a b c : Nat} (h : RfAt w rb g l i a b c) :
    Calls Tryz.prog 30 #[.pointer (some ⟨rb, 0, none⟩)] w fun en w' => en = .returned (wv (atW l i)) ∧ Below w.heap.size w w' := by
  obtain ⟨cap, hc⟩ := h.blk
  have hlt := lt_of_block hc
  have c0 := cell_at (o := 0) hc
  have c1 := cell_at (o := 1) hc
  simp only [List.getElem?_toArray, List.getElem?_cons_succ, List.getElem?_cons_zero] at c0 c1
  have a0 := alloc_cell c0 hlt
  have a1 := alloc_cell c1 hlt
  have hgl := h.ok.at_.1
  have hle := h.le
  have hlen := h.ok.len
  by_cases hi : i < l.length
  · rw [atW_in hi]
    obtain ⟨q1, q2, q3⟩ := h.ok.at_.2 i l[i] (List.getElem?_eq_getElem hi)
    obtain ⟨x, hx⟩ : ∃ x, x = l[i] := ⟨_, rfl⟩
    rw [← hx] at q1 q2 q3 ⊢
    have b1 := alloc_cell q1 hgl
    have b2 := alloc_cell q2 hgl
    have b3 := alloc_cell q3 hgl
    have hiI : (i : Int) < (l.length : Int) := by omega
    have hi0 : (0 : Int) ≤ (i : Int) := by omega
    clear h hc hx
    go_enter Tryz.func30, Tryz.ntmps30
    go_wp2
    go_quiet (fail)
    go_wp2_with fail
    go_region
    go_wp2
    refine bodyPost_ret (v := wv x) (by simp [results, Tryz.results30, go_sem]) rfl ?_
    exact ⟨rfl, (((below_drewN ((Below.refl _ _).alloc (Nat.le_refl _) _)).setCell (by simp) _).setCell (by simp) _).setCell (by simp) _⟩
  · have hin : i = l.length := by omega
    subst hin
    rw [atW_out]
    have hpos := h.ok.pos
    obtain ⟨x, hx⟩ : ∃ x, l[l.length - 1]? = some x := ⟨l[l.length - 1]'(by omega), List.getElem?_eq_getElem (by omega)⟩
    rw [endW_last hx]
    obtain ⟨q1, q2, q3⟩ := h.ok.at_.2 _ x hx
    have hxm := h.ok.small x (List.mem_of_getElem? hx)
    obtain ⟨n, hn⟩ : ∃ n, l.length = n + 1 := ⟨l.length - 1, by omega⟩
    have en : l.length - 1 = n := by omega
    rw [en] at q1 q2 q3
    rw [hn] at a0 a1 c0 c1
    have b1 := alloc_cell q1 hgl
    have b2 := alloc_cell q2 hgl
    have b3 := alloc_cell q3 hgl
    have hnI : (n : Int) ≤ 1048575 := by omega
    have hn0 : (0 : Int) ≤ (n : Int) := by omega
    have hxI : (x.2.2 : Int) + (x.1.length : Int) ≤ 2097153 := by omega
    have hx0 : (0 : Int) ≤ (x.2.2 : Int) + (x.1.length : Int) := by omega
    clear h hc hx hi hle hn en hlen hpos hxm q1 q2 q3
    go_enter Tryz.func30, Tryz.ntmps30
    go_wp2
    go_quiet (fail)
    go_wp2_with fail
    go_region
    go_wp2
    refine bodyPost_ret (v := wv ([], x.2.1, x.2.2 + x.1.length)) (by simp [results, Tryz.results30, go_sem]) rfl ?_
    have hb := (((below_drewN (n := nq + 1) ((Below.refl w.heap.size w).alloc (Nat.le_refl _) (.cells #[.string ⟨#[]⟩, .int .i64 0, .int .i64 0] 74))).setCell (p := ⟨w.heap.size, 0, none⟩) (by simp) (.string ⟨#[]⟩)).setCell (p := ⟨w.heap.size, 1, none⟩) (by simp) (.int .i64 x.2.1)).setCell (p := ⟨w.heap.size, 2, none⟩) (by simp) (.int .i64 ((x.2.2 : Int) + (x.1.length : Int)))
    exact ⟨by simp, hb.alloc hb.size _⟩

theorem RfAt.cells {w : World} {rb g : Nat} {l : List Wd} {i a b c : Nat} (h : RfAt w rb g l i a b c) : w.cell? ⟨rb, 1, none⟩ = some (.int .i64 i) ∧ w.cell? ⟨rb, 2, none⟩ = some (.int .i64 a) ∧ w.cell? ⟨rb, 3, none⟩ = some (.int .i64 b) ∧ w.cell? ⟨rb, 4, none⟩ = some (.int .i64 c) ∧ w.frozen? ⟨rb, 1, none⟩ = false ∧ w.frozen? ⟨rb, 2, none⟩ = false ∧ w.frozen? ⟨rb, 3, none⟩ = false ∧ w.frozen? ⟨rb, 4, none⟩ = false := by
  obtain ⟨cap, hc⟩ := h.blk
  exact ⟨by rw [cell_at hc]; rfl, by rw [cell_at hc]; rfl, by rw [cell_at hc]; rfl, by rw [cell_at hc]; rfl, free_of hc, free_of hc, free_of hc, free_of hc⟩
/-- The reader with its fault taken down. -/
theorem RfAt.fault {w : World} {rb g : Nat} {l : List Wd} {i a b c : Nat} (h : RfAt w rb g l i a b c) (a' b' c' : Nat) : RfAt (((w.setCell ⟨rb, 4, none⟩ (.int .i64 c')).setCell ⟨rb, 2, none⟩ (.int .i64 a')).setCell ⟨rb, 3, none⟩ (.int .i64 b')) rb g l i a' b' c' := by
  obtain ⟨cap, hc⟩ := h.blk
  refine ⟨⟨cap, ?_⟩, h.ok.kept ?_ (by simp), h.ne, h.le⟩
  · rw [block_set (o := 3) _ (block_set (o := 2) _ (block_set (o := 4) _ hc))]; rfl
  · rw [Below.heap_setCell _ _ _ _ h.ne, Below.heap_setCell _ _ _ _ h.ne, Below.heap_setCell _ _ _ _ h.ne]
theorem RfAt.step {w : World} {rb g : Nat} {l : List Wd} {i a b c : Nat} (h : RfAt w rb g l i a b c) (i' : Nat) (hi : i' ≤ l.length) : RfAt (w.setCell ⟨rb, 1, none⟩ (.int .i64 i')) rb g l i' a b c := by
  obtain ⟨cap, hc⟩ := h.blk
  refine ⟨⟨cap, ?_⟩, h.ok.kept ?_ (by simp), h.ne, hi⟩
  · rw [block_set (o := 1) _ hc]; rfl
  · rw [Below.heap_setCell _ _ _ _ h.ne]

set_option maxHeartbeats 1000000 in
theorem Fail_any {w : World} {rb g : Nat} {l : List Wd} {i a b : Nat} (h : RfAt w rb g l i a b 0) (e : Nat) :
    Calls Tryz.prog 34 #[.pointer (some ⟨rb, 0, none⟩), .int .i64 e] w fun en w' => en = .returned (.tuple #[]) ∧ RfAt w' rb g l i (atW l i).2.1 (atW l i).2.2 e ∧ w.grownBy w' (some rb) := by
  have HW := hid (Word_any h)
  have HR := hid h
  obtain ⟨_, _, _, c4, _⟩ := h.cells
  obtain ⟨x, hx⟩ : ∃ x, x = atW l i := ⟨_, rfl⟩
  rw [← hx] at HW ⊢
  clear hx h
  go_enter Tryz.func34, Tryz.ntmps34
  go_wp2_with fail
  refine HW.out.mono ?_
  rintro en w1 ⟨rfl, hb1⟩
  have R1 := hid ((HR.out.on hb1).alloc (wob x))
  obtain ⟨k1, k2, k3, k4, f1, f2, f3, f4⟩ := R1.out.cells
  have HB := hid hb1
  clear hb1
  have hne : rb ≠ w1.heap.size := by have := HR.out.lt; have := HB.out.size; omega
  have hne' : w1.heap.size ≠ rb := fun q => hne q.symm
  go_wp2_with fail
  go_region_held2 (fun w' => w'.cell? ⟨w1.heap.size, 1, none⟩ = some (.int .i64 x.2.1) ∧ w'.cell? ⟨w1.heap.size, 2, none⟩ = some (.int .i64 x.2.2)) (go_keep) (fail)
  go_wp2
  go_end0
  exact ⟨rfl, (R1.out.fault _ _ _).on (Below.refl _ _).drew, grown_two (grown_two (grown_two (grown_two (grown_two (grown_of_below _ HB.out) (grown_alloc _ _ _)) (grown_set _ _ _ _)) (grown_set _ _ _ _)) (grown_set _ _ _ _)) (grown_of_below _ (Below.refl _ _).drew)⟩

theorem atW_lt {l : List Wd} {i : Nat} (hi : i ≤ l.length) (h : (atW l i).1 ≠ []) : i < l.length := by
  rcases Nat.lt_or_ge i l.length with h1 | h1
  · exact h1
  · have : i = l.length := by omega
    subst this
    rw [atW_out, Ru.endW_text] at h
    exact absurd rfl h

theorem wv_text (x : Wd) (w : World) : (Instr.field 74 (wv x) 0).run Tryz.prog w = .ok (.string (tx x.1)) w := by kernel_rfl
set_option maxHeartbeats 1000000 in
theorem Must_any {w : World} {rb g : Nat} {l : List Wd} {i a b : Nat} (h : RfAt w rb g l i a b 0) (s : List UInt8) (hs : s ≠ []) (e : Nat) :
    Calls Tryz.prog 61 #[.pointer (some ⟨rb, 0, none⟩), .string (tx s), .int .i64 e] w fun en w' => en = .returned (.tuple #[]) ∧
      (((atW l i).1 = s ∧ RfAt w' rb g l (i + 1) a b 0) ∨ ((atW l i).1 ≠ s ∧ RfAt w' rb g l i (atW l i).2.1 (atW l i).2.2 e)) ∧ w.grownBy w' (some rb) := by
  have HW := hid (Word_any h)
  have HR := hid h
  obtain ⟨_, _, _, c4, _⟩ := h.cells
  have HI := hid (fun q : (atW l i).1 = s => atW_lt h.le (by rw [q]; exact hs))
  have hlen := h.ok.len
  have hle := h.le
  obtain ⟨x, hx⟩ : ∃ x, x = atW l i := ⟨_, rfl⟩
  have HF := hid (fun w' (h' : RfAt w' rb g l i a b 0) => Fail_any h' e)
  rw [← hx] at HW HI HF ⊢
  clear hx h
  have hfl := wv_text x
  by_cases hq : x.1 = s
  · have hb : (x.1 == s) = true := by simpa using hq
    have HQ := hid hq
    have hlt := HI.out hq
    have hiI : (i : Int) ≤ 1048576 := by omega
    have hi0 : (0 : Int) ≤ (i : Int) := by omega
    clear hq
    go_enter Tryz.func61, Tryz.ntmps61
    go_wp2_with fail
    refine HW.out.mono ?_
    rintro en w1 ⟨rfl, hb1⟩
    have R1 := hid (HR.out.on hb1)
    obtain ⟨k1, k2, k3, k4, f1, f2, f3, f4⟩ := R1.out.cells
    have HB := hid hb1
    clear hb1
    go_wp2
    go_end0
    exact ⟨rfl, Or.inl ⟨HQ.out, (R1.out.step (i + 1) hlt)⟩, grown_two (grown_of_below _ HB.out) (grown_set _ _ _ _)⟩
  · have hb : (x.1 == s) = false := by simpa using hq
    have HQ := hid hq
    clear hq
    go_enter Tryz.func61, Tryz.ntmps61
    go_wp2_with fail
    refine HW.out.mono ?_
    rintro en w1 ⟨rfl, hb1⟩
    have R1 := hid (HR.out.on hb1)
    have HB := hid hb1
    clear hb1
    go_wp2_with fail
    refine (HF.out _ R1.out).mono ?_
    rintro en w2 ⟨rfl, r2, g2⟩
    have H2 := hid (And.intro r2 g2)
    clear r2 g2
    go_wp2
    refine bodyPost_ret (v := .tuple #[]) (by simp [results, Tryz.results61, go_sem]) rfl ?_
    exact ⟨rfl, Or.inr ⟨HQ.out, H2.out.1⟩, grown_two (grown_of_below _ HB.out) H2.out.2⟩
set_option maxHeartbeats 1000000 in
theorem Must_bad {w : World} {rb g : Nat} {l : List Wd} {i a b c : Nat} (h : RfAt w rb g l i a b c) (hc : c ≠ 0) (s : Value) (e : Nat) :
    Calls Tryz.prog 61 #[.pointer (some ⟨rb, 0, none⟩), s, .int .i64 e] w fun en w' => en = .returned (.tuple #[]) ∧ w' = w := by
  obtain ⟨_, _, _, c4, _⟩ := h.cells
  have hcI : ¬ ((c : Int) = 0) := by omega
  have hcN : ¬ (c = 0) := hc
  clear h hc
  go_enter Tryz.func61, Tryz.ntmps61
  go_wp2
  refine bodyPost_ret (v := .tuple #[]) (by simp [results, Tryz.results61, go_sem]) rfl ?_
  exact ⟨rfl, rfl⟩
end Dt
end Go.Proofs.YtkepgjijidebhaaGreatDoor
namespace Go.Proofs.YtkepgjijidebhaaGreatDoor
open Go.RowKit
open Wo (Wd)
namespace Dt

/-- What list leaves. -/
def ListD (w : World) (rb g : Nat) (l : List Wd) (a b : Nat) (r : Except Ru.Ft (List (List UInt8) × List Wd)) (en : Ending) (w' : World) : Prop :=
  ∃ ao n c, en = .returned (.slice ao n c) ∧ w.grownBy w' (some rb) ∧ ((∃ ns j, r = .ok (ns, l.drop j) ∧ n = ns.length ∧ w'.ownsRow w.heap.size 9 1 (.slice ao n c) n (svs ns) ∧ RfAt w' rb g l j a b 0) ∨ (∃ f j, r = .error f ∧ f.2.2 ≠ 0 ∧ RfAt w' rb g l j f.1 f.2.1 f.2.2))
/-- What is known ahead of each round. -/
structure ListS (w : World) (rb g : Nat) (l : List Wd) (a b i most : Nat) (j : Nat) (v : Value) (m : Nat) (acc : List (List UInt8)) (wr : World) : Prop where
  rd : RfAt wr rb g l j a b 0
  own : wr.ownsRow w.heap.size 9 1 v m (svs acc)
  len : m = acc.length
  on : w.grownBy wr (some rb)
  goes : To.lst (Ru.endW l) most (l.drop i) [] = To.lst (Ru.endW l) most (l.drop j) acc
  few : acc.length ≤ most
theorem grownTwo {w a b : World} {rb : Nat} (h : w.grownBy a (some rb)) (k : a.grownBy b (some rb)) : w.grownBy b (some rb) :=
  ⟨k.os.trans h.os, k.tape.trans h.tape, k.output.trans h.output, Nat.le_trans h.size k.size, fun i hi hn => (k.block i (Nat.lt_of_lt_of_le hi h.size) hn).trans (h.block i hi hn)⟩
theorem grownBelow {w a b : World} {rb : Nat} (h : w.grownBy a (some rb)) (k : Below a.heap.size a b) : w.grownBy b (some rb) :=
  grownTwo h ⟨k.os, k.tape, k.output, k.size, fun i hi _ => k.block i hi⟩
theorem grownSet {w : World} {rb o : Nat} (v : Value) : w.grownBy (w.setCell ⟨rb, o, none⟩ v) (some rb) :=
  ⟨rfl, rfl, rfl, by simp, fun i _ hn => Below.heap_setCell _ _ _ _ (fun e => hn (by rw [e]))⟩

set_option maxRecDepth 20000 in
set_option maxHeartbeats 1000000 in
theorem Rlist_any {w : World} {rb g : Nat} {l : List Wd} {i a b most : Nat} (h : RfAt w rb g l i a b 0) (hm : most ≤ 900) :
    Calls Tryz.prog 65 #[.pointer (some ⟨rb, 0, none⟩), .int .i64 most] w fun en w' => ListD w rb g l a b (To.lst (Ru.endW l) most (l.drop i) []) en w' := by
  have HST := hid (show ListS w rb g l a b i most i (.slice none 0 0) 0 [] w from ⟨h, World.ownsRow_nil _ _ _ _, rfl, growRefl _ _, rfl, Nat.zero_le _⟩)
  have hrl := h.lt
  have hll := h.ok.len
  clear h
  go_enter Tryz.func65, Tryz.ntmps65
  go_wp2_with fail
  go_loopg [5, 6] (l.length + 1 - i) (fun k v s wr => ∃ (j m : Nat) (ao : Option Addr) (c : Nat) (acc : List (List UInt8)), v = .slice ao m c ∧ k = l.length + 1 - j ∧ Hid (ListS w rb g l a b i most j (.slice ao m c) m acc wr))
  case atStart => exact ⟨i, 0, none, 0, [], rfl, rfl, HST⟩
  case round =>
    obtain ⟨j, m, ao, c, acc, rfl, rfl, HI⟩ := hrel
    obtain ⟨c1, c2, c3, c4, f1, f2, f3, f4⟩ := HI.out.rd.cells
    have HW := hid (Word_any HI.out.rd)
    obtain ⟨y, hy⟩ : ∃ y, y = atW l j := ⟨_, rfl⟩
    have HY := hid hy
    rw [← hy] at HW
    have HG := hid (HI.out.goes.trans (To.lst_eq (Ru.endW_text l) most (l.drop j) acc))
    have hys := atW_short HI.out.rd.ok j
    rw [← hy] at hys
    have HNM := hid (fun W => RName_any (tx y.1) W (by rw [tx_size]; unfold maxLen; omega))
    rw [show (tx y.1).data.toList = y.1 from by simp] at HNM
    have hfew := HI.out.few
    clear hy
    go_wp2_with fail
    refine HW.out.mono ?_
    rintro en w1 ⟨rfl, hb1⟩
    have HG1 := hid (grownBelow HI.out.on hb1)
    have HR1 := hid (HI.out.rd.on hb1)
    have HO1 := hid (show w1.ownsRow w.heap.size 9 1 (.slice ao m c) m (svs acc) from own_sameJ HI.out.own fun k hk => hb1.block k (HI.out.own.lt k hk).2)
    have hwt : ∀ w : World, (Instr.field 74 (wv y) 0).run Tryz.prog w = .ok (.string (tx y.1)) w := fun w => wv_text y w
    clear hb1 HW c1 c2 c3 c4 f1 f2 f3 f4
    cases hn : Wo.nameB y.1 with
    | false =>
      have HE := hid (show To.lst (Ru.endW l) most (l.drop i) [] = .error (Ru.ft y 31) from by
        have := HG.out
        rw [show Ru.nx (Ru.endW l) (l.drop j) = y from HY.out.symm, if_pos hn] at this
        exact this)
      rw [hn] at HNM
      have HFL := hid (Fail_any HR1.out 31)
      rw [← HY.out] at HFL
      clear hn
      go_wp2_with fail
      refine (HNM.out _).mono ?_
      rintro en w2 ⟨rfl, hw2⟩
      obtain rfl : w1 = w2 := hw2.symm
      go_wp2_with fail
      refine HFL.out.mono ?_
      rintro en w3 ⟨rfl, hr3, hg3⟩
      have HF := hid (show ListD w rb g l a b (To.lst (Ru.endW l) most (l.drop i) []) (.returned (.slice ao m c)) w3 from ⟨ao, m, c, rfl, grownTwo HG1.out hg3, .inr ⟨_, j, HE.out, by show (31 : Nat) ≠ 0; decide, hr3⟩⟩)
      clear hr3 hg3
      go_wp2
      go_ret
      exact HF.out
    | true =>
      have hjl : j < l.length := atW_lt HR1.out.le (by
        rw [← HY.out]; intro q; rw [q] at hn; exact absurd hn (by decide))
      have HG2 := hid (show To.lst (Ru.endW l) most (l.drop i) [] = if y.1 ∉ acc ∧ most ≤ acc.length then .error (Ru.ft y 3) else if (atW l (j + 1)).1 = To.comma then To.lst (Ru.endW l) most (l.drop (j + 1 + 1)) (Ru.put acc y.1) else .ok (Ru.put acc y.1, l.drop (j + 1)) from by
        have := HG.out
        rw [show Ru.nx (Ru.endW l) (l.drop j) = y from HY.out.symm, if_neg (by rw [hn]; simp), List.tail_drop, List.tail_drop] at this
        exact this)
      rw [hn] at HNM
      have HPU := hid (fun (W : World) (ho : W.ownsRow w.heap.size 9 1 (.slice ao m c) m (svs acc)) (hs : w.heap.size ≤ W.heap.size) => Rput_any (B := w.heap.size) (s := y.1) (by rw [← HI.out.len]; exact ho) hs (by have := HI.out.few; omega))
      have HP1 := hid (HPU.out w1 HO1.out HG1.out.size)
      clear hn HPU HG
      have hjI : (j : Int) ≤ 1048575 := by omega
      go_wp2_with fail
      refine (HNM.out _).mono ?_
      rintro en w2 ⟨rfl, hw2⟩
      obtain rfl : w1 = w2 := hw2.symm
      go_wp2_with fail
      refine HP1.out.mono ?_
      rintro en w2 ⟨v', rfl, ho2, hb2⟩
      obtain ⟨ao', c', rfl⟩ := own_formJ ho2
      obtain ⟨p, hp⟩ : ∃ p, p = (Ru.put acc y.1).length := ⟨_, rfl⟩
      have HPP := hid hp
      rw [← hp] at ho2 ⊢
      have HO2 := hid ho2
      have HR2 := hid (HR1.out.on hb2)
      have HGB2 := hid (grownBelow HG1.out hb2)
      have hpl : p ≤ most + 1 := by
        rw [hp, To.put_len]
        have := HI.out.few
        split <;> omega
      have HQ := hid (show most < p ↔ (y.1 ∉ acc ∧ most ≤ acc.length) from by
        rw [hp, To.put_len]
        have := HI.out.few
        split
        · rename_i hq
          exact ⟨fun h => by omega, fun h => absurd hq h.1⟩
        · rename_i hq
          exact ⟨fun h => ⟨hq, by omega⟩, fun h => by omega⟩)
      obtain ⟨d1, d2, d3, d4, f1, f2, f3, f4⟩ := HR2.out.cells
      clear hp ho2 hb2
      by_cases hq : most < p
      · have hqI : (most : Int) < (p : Int) := by omega
        have HE := hid (show To.lst (Ru.endW l) most (l.drop i) [] = .error (Ru.ft y 3) from by
          rw [HG2.out, if_pos (HQ.out.1 hq)])
        have HFL := hid (Fail_any HR2.out 3)
        rw [← HY.out] at HFL
        clear d1 d2 d3 d4 f1 f2 f3 f4
        go_wp2_with fail
        refine HFL.out.mono ?_
        rintro en w3 ⟨rfl, hr3, hg3⟩
        have HF := hid (show ListD w rb g l a b (To.lst (Ru.endW l) most (l.drop i) []) (.returned (.slice ao' p c')) w3 from ⟨ao', p, c', rfl, grownTwo HGB2.out hg3, .inr ⟨_, j, HE.out, by show (3 : Nat) ≠ 0; decide, hr3⟩⟩)
        clear hr3 hg3
        go_wp2
        go_ret
        exact HF.out
      · have hqI : ¬ (most : Int) < (p : Int) := by omega
        have HG3 := hid (show To.lst (Ru.endW l) most (l.drop i) [] = if (atW l (j + 1)).1 = To.comma then To.lst (Ru.endW l) most (l.drop (j + 1 + 1)) (Ru.put acc y.1) else .ok (Ru.put acc y.1, l.drop (j + 1)) from by
          rw [HG2.out, if_neg (fun h => hq (HQ.out.2 h))])
        obtain ⟨V, hV⟩ : ∃ V, V = w2.setCell ⟨rb, 1, none⟩ (.int .i64 ((j : Int) + 1)) := ⟨_, rfl⟩
        have HRV := hid (show RfAt V rb g l (j + 1) a b 0 from by
          rw [hV]
          have := HR2.out.step (j + 1) (by omega)
          rwa [show ((j + 1 : Nat) : Int) = (j : Int) + 1 by omega] at this)
        have HGV := hid (show w.grownBy V (some rb) from by rw [hV]; exact grownTwo HGB2.out (grownSet _))
        have HOV := hid (show V.ownsRow w.heap.size 9 1 (.slice ao' p c') p (svs (Ru.put acc y.1)) from by
          rw [hV]; exact own_sameJ HO2.out fun k hk => Below.heap_setCell _ _ _ _ (fun e => by have e9 : k = rb := e; have := (HO2.out.lt k hk).1; omega))
        have HWV := hid (Word_any HRV.out)
        obtain ⟨z, hz⟩ : ∃ z, z = atW l (j + 1) := ⟨_, rfl⟩
        have HZ := hid hz
        rw [← hz] at HWV HG3
        have hzt : ∀ w : World, (Instr.field 74 (wv z) 0).run Tryz.prog w = .ok (.string (tx z.1)) w := fun w => wv_text z w
        clear hz hq
        go_upto_region 10 with fail
        rw [← hV]
        clear hV d1 d2 d3 d4 f1 f2 f3 f4
        go_wp2_with fail
        refine HWV.out.mono ?_
        rintro en w3 ⟨rfl, hb3⟩
        have HR3 := hid (HRV.out.on hb3)
        have HG4 := hid (grownBelow HGV.out hb3)
        have HO3 := hid (show w3.ownsRow w.heap.size 9 1 (.slice ao' p c') p (svs (Ru.put acc y.1)) from own_sameJ HOV.out fun k hk => hb3.block k (HOV.out.lt k hk).2)
        clear hb3
        by_cases hc : z.1 = To.comma
        · have e1 : (z.1 != [44]) = false := by rw [hc]; rfl
          have e2 : (z.1 == [44]) = true := by rw [hc]; rfl
          have hjl2 : j + 1 < l.length := atW_lt HR3.out.le (by rw [← HZ.out, hc]; decide)
          obtain ⟨d1, d2, d3, d4, f1, f2, f3, f4⟩ := HR3.out.cells
          have HNX := hid (show ListS w rb g l a b i most (j + 1 + 1) (.slice ao' p c') p (Ru.put acc y.1) (w3.setCell ⟨rb, 1, none⟩ (.int .i64 ((j : Int) + 1 + 1))) from by
            refine ⟨?_, own_sameJ HO3.out fun k hk => Below.heap_setCell _ _ _ _ (fun e => by have e9 : k = rb := e; have := (HO3.out.lt k hk).1; omega), HPP.out, grownTwo HG4.out (grownSet _), by rw [HG3.out, if_pos hc], by rw [← HPP.out]; omega⟩
            have := HR3.out.step (j + 1 + 1) (by omega)
            rwa [show ((j + 1 + 1 : Nat) : Int) = (j : Int) + 1 + 1 by omega] at this)
          clear hc
          go_wp2
          go_roundg (l.length + 1 - (j + 1 + 1))
          case measure => omega
          case rel => exact ⟨j + 1 + 1, p, ao', c', _, rfl, rfl, HNX⟩
        · have e1 : (z.1 != [44]) = true := by rw [bne_iff_ne]; exact hc
          have e2 : (z.1 == [44]) = false := by rw [beq_eq_false_iff_ne]; exact hc
          have HF := hid (show ListD w rb g l a b (To.lst (Ru.endW l) most (l.drop i) []) (.returned (.slice ao' p c')) w3 from ⟨ao', p, c', rfl, HG4.out, .inl ⟨_, j + 1, by rw [HG3.out, if_neg hc], HPP.out, HO3.out, HR3.out⟩⟩)
          clear hc
          go_wp2
          go_ret
          exact HF.out
end Dt
end Go.Proofs.YtkepgjijidebhaaGreatDoor
namespace Go.Proofs.YtkepgjijidebhaaGreatDoor
open Go.RowKit
open Wo (Wd)
namespace Dt

/-- What name leaves. -/
def NameD (w : World) (rb g : Nat) (l : List Wd) (i a b : Nat) (en : Ending) (w' : World) : Prop :=
  en = .returned (.string (tx (atW l i).1)) ∧ w.grownBy w' (some rb) ∧ ((Wo.nameB (atW l i).1 = true ∧ RfAt w' rb g l i a b 0) ∨ (Wo.nameB (atW l i).1 = false ∧ RfAt w' rb g l i (atW l i).2.1 (atW l i).2.2 31))
set_option maxRecDepth 20000 in
set_option maxHeartbeats 1000000 in
theorem Rname_any {w : World} {rb g : Nat} {l : List Wd} {i a b : Nat} (h : RfAt w rb g l i a b 0) :
    Calls Tryz.prog 63 #[.pointer (some ⟨rb, 0, none⟩)] w fun en w' => NameD w rb g l i a b en w' := by
  have HW := hid (Word_any h)
  have HR := hid h
  have hys := atW_short h.ok i
  obtain ⟨y, hy⟩ : ∃ y, y = atW l i := ⟨_, rfl⟩
  have HY := hid hy
  rw [← hy] at HW hys
  have HNM := hid (fun W => RName_any (tx y.1) W (by rw [tx_size]; unfold maxLen; omega))
  rw [show (tx y.1).data.toList = y.1 from by simp] at HNM
  have hwt : ∀ w : World, (Instr.field 74 (wv y) 0).run Tryz.prog w = .ok (.string (tx y.1)) w := fun w => wv_text y w
  clear h hy
  go_enter Tryz.func63, Tryz.ntmps63
  go_wp2_with fail
  refine HW.out.mono ?_
  rintro en w1 ⟨rfl, hb1⟩
  have HR1 := hid (HR.out.on hb1)
  have HG1 := hid (grownBelow (growRefl w (some rb)) hb1)
  obtain ⟨c1, c2, c3, c4, f1, f2, f3, f4⟩ := HR1.out.cells
  clear hb1
  cases hn : Wo.nameB y.1 with
  | true =>
    have HF := hid (show NameD w rb g l i a b (.returned (.string (tx y.1))) w1 from ⟨by rw [← HY.out], HG1.out, .inl ⟨by rw [← HY.out]; exact hn, HR1.out⟩⟩)
    rw [hn] at HNM
    clear hn
    go_wp2_with fail
    refine (HNM.out _).mono ?_
    rintro en w2 ⟨rfl, hw2⟩
    obtain rfl : w1 = w2 := hw2.symm
    go_wp2
    go_ret
    exact HF.out
  | false =>
    have HFL := hid (Fail_any HR1.out 31)
    have HF := hid (fun (w3 : World) (hr : RfAt w3 rb g l i (atW l i).2.1 (atW l i).2.2 31) (hg : w1.grownBy w3 (some rb)) => (show NameD w rb g l i a b (.returned (.string (tx y.1))) w3 from ⟨by rw [← HY.out], grownTwo HG1.out hg, .inr ⟨by rw [← HY.out]; exact hn, hr⟩⟩))
    rw [hn] at HNM
    clear hn
    go_wp2_with fail
    refine (HNM.out _).mono ?_
    rintro en w2 ⟨rfl, hw2⟩
    obtain rfl : w1 = w2 := hw2.symm
    go_wp2_with fail
    refine HFL.out.mono ?_
    rintro en w3 ⟨rfl, hr3, hg3⟩
    have HF3 := hid (HF.out w3 hr3 hg3)
    clear hr3 hg3
    go_wp2
    go_ret
    exact HF3.out

set_option maxRecDepth 20000 in
set_option maxHeartbeats 1000000 in
theorem Rknown_any {w : World} {pb : Nat} {x0 vl vn : Value} {dv : Option Addr} {N dc : Nat} {ds : List (To.Dv × Value × Value)} {s : List UInt8} (hp : w.heap[pb]? = some (.cells #[x0, .slice dv N dc, vl, vn] 68 (0, 0))) (hD : DvL w (.slice dv N dc) ds) (hn : ds.length ≤ 100000) :
    Calls Tryz.prog 64 #[.pointer (some ⟨pb, 0, none⟩), .string (tx s)] w fun en w' => en = .returned (.int .i64 (plZ s (ds.map (·.1.name)))) ∧ w' = w := by
  obtain ⟨av, cap, e, hr⟩ := hD.form
  injection e with e1 e2 e3
  subst e1; subst e2; subst e3
  obtain ⟨n, hnn⟩ : ∃ n, n = ds.length := ⟨_, rfl⟩
  have HN := hid hnn
  rw [← hnn] at hn hp
  have HR := hid hr
  have p1 : w.cell? ⟨pb, 1, none⟩ = some (.slice dv n dc) := by rw [cell_at hp]; rfl
  obtain ⟨zs, hzs⟩ : ∃ zs, zs = ds.map (·.1.name) := ⟨_, rfl⟩
  have HZ := hid (show ∀ (i : Nat) (q : To.Dv × Value × Value), ds[i]? = some q → zs[i]? = some q.1.name from fun i q hq => by rw [hzs, List.getElem?_map, hq]; rfl)
  have HZL := hid (show zs.length = n by rw [hzs, List.length_map, hnn])
  rw [← hzs]
  clear hr hnn hzs hD hp
  go_enter Tryz.func64, Tryz.ntmps64
  go_wp2_with fail
  go_loopw [5] (fun i wr => ∃ j : Nat, j ≤ n ∧ i = .int .i64 j ∧ Hid (∀ (i : Nat) (x : List UInt8), i < j → zs[i]? = some x → ¬ s = x) ∧ Hid (wr = w)) (fun i _ => n - (intOf i).toNat)
  case atStart => exact ⟨0, Nat.zero_le _, rfl, hid fun i x hi => absurd hi (Nat.not_lt_zero i), hid rfl⟩
  case round =>
    obtain ⟨j, hj, rfl, HJ1, hW⟩ := hrel
    obtain rfl := hW.out
    by_cases hlt : j < n
    · obtain ⟨q, hq⟩ : ∃ q, ds[j]? = some q := ⟨_, List.getElem?_eq_getElem (by have := HN.out; omega)⟩
      obtain ⟨g, o, rfl, hg, hcell⟩ := HR.out.resolve_left (fun e => by rw [e] at hq; simp at hq)
      have k0 := (hcell j q hq).1
      have hx := HZ.out j q hq
      obtain ⟨x, hxx⟩ : ∃ x, x = q.1.name := ⟨_, rfl⟩
      rw [← hxx] at k0 hx
      have HX := hid hx
      have hkI : (j : Int) < (n : Int) := by omega
      have hk0 : (0 : Int) ≤ (j : Int) := by omega
      clear hx hcell hq hxx
      by_cases e : s = x
      · subst e
        have HE := hid (show plZ s zs = (j : Int) by unfold plZ; rw [plJ_at HX.out HJ1.out])
        have e3 : (s == s) = true := by simp
        go_wp2
        go_ret
        exact ⟨by rw [HE.out]; rfl, rfl⟩
      · have e1 : (s == x) = false := by rw [beq_eq_false_iff_ne]; exact e
        have e2 : (x == s) = false := by rw [beq_eq_false_iff_ne]; exact fun h => e h.symm
        have HJ2 := hid (show ∀ (i : Nat) (y : List UInt8), i < j + 1 → zs[i]? = some y → ¬ s = y from fun i y hi hy => by
          by_cases ej : i = j
          · subst ej
            rw [HX.out] at hy
            cases hy
            exact e
          · exact HJ1.out i y (by omega) hy)
        clear e
        go_wp2
        go_roundw
        case rel => exact ⟨j + 1, by omega, by go_num, HJ2, hid trivial⟩
        case measure => simp [intOf]; omega
    · have hkI : ¬ ((j : Int) < (n : Int)) := by omega
      have HE := hid (show plZ s zs = -1 by
        unfold plZ
        rw [plJ_none fun i x hx => HJ1.out i x (by have := (List.getElem?_eq_some_iff.1 hx).1; have := HZL.out; omega) hx])
      clear hlt HJ1
      go_wp2
      go_ret
      exact ⟨by rw [HE.out]; rfl, rfl⟩
end Dt
end Go.Proofs.YtkepgjijidebhaaGreatDoor
namespace Go.Proofs.YtkepgjijidebhaaGreatDoor
open Go.RowKit
open Wo (Wd)
namespace Dt

/-- A link as a text has it. -/
abbrev NmZ := (List UInt8 × List UInt8) × (List UInt8 × List UInt8)
def nmC (q : NmZ) : List Value := [.string (tx q.1.1), .string (tx q.1.2), .string (tx q.2.1), .string (tx q.2.2)]
abbrev nmO (q : NmZ) : Obj := .cells #[.string (tx q.1.1), .string (tx q.1.2), .string (tx q.2.1), .string (tx q.2.2)] 127
def flatN (ns : List NmZ) : List Value := ns.flatMap nmC
/-- Links that lie somewhere. -/
structure NmV (w : World) (v : Value) (ns : List NmZ) : Prop where
  form : ∃ av cap, v = .slice av ns.length cap ∧ (ns = [] ∨ ∃ G o, av = some ⟨G, o, none⟩ ∧ G < w.heap.size ∧ ∀ (i : Nat) (q : NmZ), ns[i]? = some q → w.cell? ⟨G, o + i * 4, none⟩ = some (.string (tx q.1.1)) ∧ w.cell? ⟨G, o + i * 4 + 1, none⟩ = some (.string (tx q.1.2)) ∧ w.cell? ⟨G, o + i * 4 + 2, none⟩ = some (.string (tx q.2.1)) ∧ w.cell? ⟨G, o + i * 4 + 3, none⟩ = some (.string (tx q.2.2)))
/-- Has it that port? -/
def atN (q : NmZ) (d p : List UInt8) : Bool := ((q.1.1 == d) && (q.1.2 == p)) || ((q.2.1 == d) && (q.2.2 == p))
def takN (ns : List NmZ) (d p : List UInt8) : Bool := ns.any fun q => atN q d p
theorem takN_false {ns : List NmZ} {d p : List UInt8} (h : ∀ (i : Nat) (q : NmZ), ns[i]? = some q → atN q d p = false) : takN ns d p = false := by
  unfold takN
  rw [List.any_eq_false]
  intro q hq
  obtain ⟨i, hi⟩ := List.getElem?_of_mem hq
  rw [h i q hi]; simp
theorem takN_true {ns : List NmZ} {d p : List UInt8} {i : Nat} {q : NmZ} (hi : ns[i]? = some q) (h : atN q d p = true) : takN ns d p = true := by
  unfold takN
  rw [List.any_eq_true]
  exact ⟨q, List.mem_of_getElem? hi, h⟩

set_option maxRecDepth 20000 in
set_option maxHeartbeats 1000000 in
theorem Rtaken_any {w : World} {pb : Nat} {x0 x1 x2 : Value} {nv : Option Addr} {M nc : Nat} {ns : List NmZ} {d m : List UInt8} (hp : w.heap[pb]? = some (.cells #[x0, x1, x2, .slice nv M nc] 68 (0, 0))) (hV : NmV w (.slice nv M nc) ns) (hn : ns.length ≤ 100000) :
    Calls Tryz.prog 102 #[.pointer (some ⟨pb, 0, none⟩), .string (tx d), .string (tx m)] w fun en w' => en = .returned (.bool (takN ns d m)) ∧ Below w.heap.size w w' := by
  obtain ⟨av, cap, e, hr⟩ := hV.form
  injection e with e1 e2 e3
  subst e1; subst e2; subst e3
  obtain ⟨n, hnn⟩ : ∃ n, n = ns.length := ⟨_, rfl⟩
  have HN := hid hnn
  rw [← hnn] at hn hp
  have HR := hid hr
  have HP := hid hp
  have hpl := lt_of_block hp
  clear hr hnn hV hp
  go_enter Tryz.func102, Tryz.ntmps102
  go_wp2_with fail
  go_loopw [7] (fun i wr => ∃ j : Nat, j ≤ n ∧ i = .int .i64 j ∧ Hid (∀ (i : Nat) (q : NmZ), i < j → ns[i]? = some q → atN q d m = false) ∧ Hid (Below w.heap.size w wr)) (fun i _ => n - (intOf i).toNat)
  case atStart => exact ⟨0, Nat.zero_le _, rfl, hid fun i x hi => absurd hi (Nat.not_lt_zero i), Below.refl _ _⟩
  case round =>
    obtain ⟨j, hj, rfl, HJ1, HB⟩ := hrel
    have p1 : wr.cell? ⟨pb, 3, none⟩ = some (.slice nv n nc) := by rw [cell_at ((HB.out.block _ hpl).trans HP.out)]; rfl
    by_cases hlt : j < n
    · obtain ⟨⟨⟨a, p⟩, b, q⟩, hq⟩ : ∃ q, ns[j]? = some q := ⟨_, List.getElem?_eq_getElem (by have := HN.out; omega)⟩
      obtain ⟨G, o, rfl, hG, hcell⟩ := HR.out.resolve_left (fun e => by rw [e] at hq; simp at hq)
      have hwG : wr.heap[G]? = w.heap[G]? := HB.out.block G hG
      obtain ⟨z0, z1, z2, z3⟩ := hcell j _ hq
      have y0 := (World.cell?_of_block (a := ⟨G, o + j * 4, none⟩) hwG).trans z0
      have y1 := (World.cell?_of_block (a := ⟨G, o + j * 4 + 1, none⟩) hwG).trans z1
      have y2 := (World.cell?_of_block (a := ⟨G, o + j * 4 + 2, none⟩) hwG).trans z2
      have y3 := (World.cell?_of_block (a := ⟨G, o + j * 4 + 3, none⟩) hwG).trans z3
      simp only at y0 y1 y2 y3
      have HX := hid hq
      have hkI : (j : Int) < (n : Int) := by omega
      have hk0 : (0 : Int) ≤ (j : Int) := by omega
      obtain ⟨W5, hW5⟩ : ∃ W5, W5 = wr.alloc (nmO ((a, p), b, q)) := ⟨_, rfl⟩
      obtain ⟨kb, hkb⟩ : ∃ kb, kb = wr.heap.size := ⟨_, rfl⟩
      have h5 : W5.heap[kb]? = some (nmO ((a, p), b, q)) := by rw [hW5, hkb]; exact new_0 _ _
      have HB5 := hid (show Below w.heap.size w W5 from by rw [hW5]; exact HB.out.alloc HB.out.size _)
      have r0 : W5.cell? ⟨kb, 0, none⟩ = some (.string (tx a)) := by rw [cell_at h5]; rfl
      have r1 : W5.cell? ⟨kb, 1, none⟩ = some (.string (tx p)) := by rw [cell_at h5]; rfl
      have r2 : W5.cell? ⟨kb, 2, none⟩ = some (.string (tx b)) := by rw [cell_at h5]; rfl
      have r3 : W5.cell? ⟨kb, 3, none⟩ = some (.string (tx q)) := by rw [cell_at h5]; rfl
      obtain ⟨ba, hba⟩ : ∃ x, (a == d) = x := ⟨_, rfl⟩
      obtain ⟨bp, hbp⟩ : ∃ x, (p == m) = x := ⟨_, rfl⟩
      obtain ⟨bb, hbb⟩ : ∃ x, (b == d) = x := ⟨_, rfl⟩
      obtain ⟨bq, hbq⟩ : ∃ x, (q == m) = x := ⟨_, rfl⟩
      have HAT := hid (show atN ((a, p), b, q) d m = ((ba && bp) || (bb && bq)) by rw [← hba, ← hbp, ← hbb, ← hbq]; rfl)
      have HT := hid (fun (h : ((ba && bp) || (bb && bq)) = true) => (takN_true HX.out (HAT.out.trans h) : takN ns d m = true))
      have HF := hid (fun (h : ((ba && bp) || (bb && bq)) = false) => (show ∀ (i : Nat) (q : NmZ), i < j + 1 → ns[i]? = some q → atN q d m = false from fun i y hi hy => by
        by_cases ej : i = j
        · rw [ej, HX.out] at hy
          injection hy with hy
          rw [← hy]; exact HAT.out.trans h
        · exact HJ1.out i y (by omega) hy))
      clear z0 z1 z2 z3 hwG hcell hq h5
      go_upto_region 5 with fail
      rw [← hW5, ← hkb]
      clear hW5 hkb y0 y1 y2 y3 p1
      cases ba <;> cases bp <;> cases bb <;> cases bq
      all_goals (
        first
          | (have HE := hid (HT.out rfl)
             go_wp2
             go_ret
             exact ⟨by rw [HE.out]; rfl, HB5.out⟩)
          | (have HE := hid (HF.out rfl)
             go_wp2
             go_roundw
             case rel => exact ⟨j + 1, by omega, by go_num, HE, HB5⟩
             case measure => simp [intOf]; omega))
    · have hkI : ¬ ((j : Int) < (n : Int)) := by omega
      have HE := hid (show takN ns d m = false from takN_false fun i q hq => HJ1.out i q (by have := (List.getElem?_eq_some_iff.1 hq).1; have := HN.out; omega) hq)
      clear hlt HJ1
      go_wp2
      go_ret
      exact ⟨by rw [HE.out]; rfl, HB.out⟩
end Dt
end Go.Proofs.YtkepgjijidebhaaGreatDoor
namespace Go.Proofs.YtkepgjijidebhaaGreatDoor
open Go.RowKit
open Wo (Wd)

theorem plJ_some {t : List UInt8} : ∀ {l : List (List UInt8)} {k : Nat}, plJ t l = some k → l[k]? = some t
  | [], k, h => by cases h
  | a :: r, k, h => by
    unfold plJ at h
    split at h
    · rename_i e
      injection h with h
      subst h
      rw [e]; rfl
    · cases hp : plJ t r with
      | none => rw [hp] at h; cases h
      | some i =>
        rw [hp] at h
        injection h with h
        subst h
        rw [List.getElem?_cons_succ]
        exact plJ_some hp
namespace Dt

/-- An end as the document reads it. -/
def endD (ds : List To.Dv) (ns : List NmZ) (d0 p0 : List UInt8) (l : List Wd) (i : Nat) : Except Ru.Ft (List UInt8 × List UInt8) :=
  if Wo.nameB (atW l i).1 = false then .error (Ru.ft (atW l i) 31) else
  match plJ (atW l i).1 (ds.map (·.name)) with
  | none => .error (Ru.ft (atW l i) 112)
  | some k =>
    if Wo.nameB (atW l (i + 1)).1 = false then .error (Ru.ft (atW l (i + 1)) 31) else
    if (ds.getD k dv0).prt.contains (atW l (i + 1)).1 = false then .error (Ru.ft (atW l (i + 1)) 112) else
    if (takN ns (atW l i).1 (atW l (i + 1)).1 || (((atW l i).1 == d0) && ((atW l (i + 1)).1 == p0))) = true then .error (Ru.ft (atW l (i + 1)) 111) else
    .ok ((atW l i).1, (atW l (i + 1)).1)
/-- What end leaves. -/
def EndD (w : World) (rb g : Nat) (l : List Wd) (i a b : Nat) (r : Except Ru.Ft (List UInt8 × List UInt8)) (en : Ending) (w' : World) : Prop :=
  w.grownBy w' (some rb) ∧ ((∃ d p, r = .ok (d, p) ∧ en = .returned (.tuple #[.string (tx d), .string (tx p)]) ∧ RfAt w' rb g l (i + 1 + 1) a b 0) ∨ (∃ f j, r = .error f ∧ f.2.2 ≠ 0 ∧ en = .returned (.tuple #[.string (tx []), .string (tx [])]) ∧ RfAt w' rb g l j f.1 f.2.1 f.2.2))

set_option maxRecDepth 20000 in
set_option maxHeartbeats 1000000 in
theorem Rend_any {w : World} {pb rb g : Nat} {l : List Wd} {i a b : Nat} {x0 x2 : Value} {dv nv : Option Addr} {N dc M nc : Nat} {ds : List (To.Dv × Value × Value)} {ns : List NmZ} {d0 p0 : List UInt8} (h : RfAt w rb g l i a b 0) (hp : w.heap[pb]? = some (.cells #[x0, .slice dv N dc, x2, .slice nv M nc] 68 (0, 0))) (hpr : pb ≠ rb)
    (hD : ∀ W, w.grownBy W (some rb) → DvL W (.slice dv N dc) ds) (hV : ∀ W, w.grownBy W (some rb) → NmV W (.slice nv M nc) ns) (hdn : ds.length ≤ 100000) (hnn : ns.length ≤ 100000) :
    Calls Tryz.prog 66 #[.pointer (some ⟨pb, 0, none⟩), .pointer (some ⟨rb, 0, none⟩), .string (tx d0), .string (tx p0)] w fun en w' => EndD w rb g l i a b (endD (ds.map (·.1)) ns d0 p0 l i) en w' := by
  have HN := hid (Rname_any h)
  have HD := hid hD
  have HV := hid hV
  have HPB := hid (fun (W : World) (hg : w.grownBy W (some rb)) => (hg.block pb (lt_of_block hp) (fun e => hpr (by injection e))).trans hp)
  have hys := atW_short h.ok i
  have hzs := atW_short h.ok (i + 1)
  have hll := h.ok.len
  obtain ⟨y, hy⟩ : ∃ y, y = atW l i := ⟨_, rfl⟩
  obtain ⟨z, hz⟩ : ∃ z, z = atW l (i + 1) := ⟨_, rfl⟩
  have HY := hid hy
  have HZ := hid hz
  have HE := hid (show endD (ds.map (·.1)) ns d0 p0 l i = if Wo.nameB y.1 = false then .error (Ru.ft y 31) else match plJ y.1 (ds.map (·.1.name)) with | none => .error (Ru.ft y 112) | some k => if Wo.nameB z.1 = false then .error (Ru.ft z 31) else if ((ds.map (·.1)).getD k dv0).prt.contains z.1 = false then .error (Ru.ft z 112) else if (takN ns y.1 z.1 || ((y.1 == d0) && (z.1 == p0))) = true then .error (Ru.ft z 111) else .ok (y.1, z.1) from by
    unfold endD; rw [← hy, ← hz, List.map_map]; rfl)
  rw [← hy] at hys
  rw [← hz] at hzs
  unfold NameD at HN
  rw [← hy] at HN
  clear h hD hV hp hy hz
  go_enter Tryz.func66, Tryz.ntmps66
  go_wp2_with fail
  refine HN.out.mono ?_
  rintro en w1 ⟨rfl, hg1, ⟨hnb, hr1⟩ | ⟨hnb, hr1⟩⟩
  · have HR1 := hid hr1
    have HG1 := hid hg1
    obtain ⟨c1, c2, c3, c4, f1, f2, f3, f4⟩ := hr1.cells
    have HKN := hid (Rknown_any (s := y.1) (HPB.out w1 hg1) (HD.out w1 hg1) hdn)
    have HNB := hid hnb
    clear hg1 hr1 hnb
    cases hk : plJ y.1 (ds.map (·.1.name)) with
    | none =>
      have HE1 := hid (show endD (ds.map (·.1)) ns d0 p0 l i = .error (Ru.ft y 112) from by
        rw [HE.out, if_neg (by rw [HNB.out]; simp), hk])
      rw [show plZ y.1 (ds.map (·.1.name)) = -1 by unfold plZ; rw [hk]] at HKN
      have HFL := hid (Fail_any HR1.out 112)
      rw [← HY.out] at HFL
      clear hk
      go_wp2_with fail
      refine HKN.out.mono ?_
      rintro en w2 ⟨rfl, hw2⟩
      obtain rfl : w1 = w2 := hw2.symm
      clear c1 c2 c3 c4 f1 f2 f3 f4
      go_wp2_with fail
      refine HFL.out.mono ?_
      rintro en w3 ⟨rfl, hr3, hg3⟩
      have HF := hid (show EndD w rb g l i a b (endD (ds.map (·.1)) ns d0 p0 l i) (.returned (.tuple #[.string (tx []), .string (tx [])])) w3 from ⟨grownTwo HG1.out hg3, .inr ⟨_, i, HE1.out, by show (112 : Nat) ≠ 0; decide, rfl, hr3⟩⟩)
      clear hr3 hg3
      go_wp2
      go_ret2
      exact HF.out
    | some k =>
      have hkl := plJ_some hk
      have HE1 := hid (show endD (ds.map (·.1)) ns d0 p0 l i = if Wo.nameB z.1 = false then .error (Ru.ft z 31) else if ((ds.map (·.1)).getD k dv0).prt.contains z.1 = false then .error (Ru.ft z 112) else if (takN ns y.1 z.1 || ((y.1 == d0) && (z.1 == p0))) = true then .error (Ru.ft z 111) else .ok (y.1, z.1) from by
        rw [HE.out, if_neg (by rw [HNB.out]; simp), hk])
      rw [show plZ y.1 (ds.map (·.1.name)) = (k : Int) by unfold plZ; rw [hk]] at HKN
      have hil : i < l.length := atW_lt HR1.out.le (by rw [← HY.out]; intro q; have := HNB.out; rw [q] at this; exact absurd this (by decide))
      obtain ⟨q, hq⟩ : ∃ q, ds[k]? = some q := by
        rw [List.getElem?_map, Option.map_eq_some_iff] at hkl
        obtain ⟨q, hq, -⟩ := hkl
        exact ⟨q, hq⟩
      have HQ := hid hq
      have hkn : k < ds.length := (List.getElem?_eq_some_iff.1 hq).1
      have hk100 : (k : Int) ≤ 100000 := by omega
      have hk0 : (0 : Int) ≤ (k : Int) := by omega
      have hkneg : ¬ (k : Int) < 0 := by omega
      have hiI : (i : Int) ≤ 1048575 := by omega
      obtain ⟨V, hVV⟩ : ∃ V, V = w1.setCell ⟨rb, 1, none⟩ (.int .i64 ((i : Int) + 1)) := ⟨_, rfl⟩
      have HRV := hid (show RfAt V rb g l (i + 1) a b 0 from by
        rw [hVV]
        have := HR1.out.step (i + 1) (by omega)
        rwa [show ((i + 1 : Nat) : Int) = (i : Int) + 1 by omega] at this)
      have HGV := hid (show w.grownBy V (some rb) from by rw [hVV]; exact grownTwo HG1.out (grownSet _))
      have HN2 := hid (Rname_any HRV.out)
      unfold NameD at HN2
      rw [← HZ.out] at HN2
      clear hk hkl hq
      go_wp2_with fail
      refine HKN.out.mono ?_
      rintro en w2 ⟨rfl, hw2⟩
      obtain rfl : w1 = w2 := hw2.symm
      go_upto_region 9 with fail
      rw [← hVV]
      clear hVV c1 c2 c3 c4 f1 f2 f3 f4
      go_wp2_with fail
      refine HN2.out.mono ?_
      rintro en w3 ⟨rfl, hg3, ⟨hnz, hr3⟩ | ⟨hnz, hr3⟩⟩
      · have HR3 := hid hr3
        have HG3 := hid (grownTwo HGV.out hg3)
        have HNZ := hid hnz
        obtain ⟨c1, c2, c3, c4, f1, f2, f3, f4⟩ := hr3.cells
        have hpb3 := HPB.out w3 HG3.out
        have p1 : w3.cell? ⟨pb, 1, none⟩ = some (.slice dv N dc) := by rw [cell_at hpb3]; rfl
        have hDL := HD.out w3 HG3.out
        obtain ⟨av, cap, eD, hDf⟩ := hDL.form
        injection eD with eD1 eD2 eD3
        subst eD1; subst eD2; subst eD3
        obtain ⟨D, od, rfl, hDl, hdc⟩ := hDf.resolve_left (fun e => by rw [e] at hkn; exact absurd hkn (Nat.not_lt_zero _))
        have y2 := (hdc k q HQ.out).2.2
        obtain ⟨htp, hlp⟩ := hDL.prt q (List.mem_of_getElem? HQ.out)
        have HPL := hid (Rplace_any (t := z.1) htp hlp)
        obtain ⟨ap, cp, hvp, -⟩ := id htp
        rw [hvp] at HPL y2
        obtain ⟨Lp, hLp⟩ : ∃ L, L = q.1.prt.length := ⟨_, rfl⟩
        rw [← hLp] at HPL y2
        have hzc := plZ_neg z.1 q.1.prt
        obtain ⟨zp, hzp⟩ : ∃ x, x = plZ z.1 q.1.prt := ⟨_, rfl⟩
        rw [← hzp] at HPL hzc
        obtain ⟨nD, hnD⟩ : ∃ n, n = ds.length := ⟨_, rfl⟩
        rw [← hnD] at p1 hkn
        have hknI : (k : Int) < (nD : Int) := by omega
        have HE2 := hid (show endD (ds.map (·.1)) ns d0 p0 l i = if q.1.prt.contains z.1 = false then .error (Ru.ft z 112) else if (takN ns y.1 z.1 || ((y.1 == d0) && (z.1 == p0))) = true then .error (Ru.ft z 111) else .ok (y.1, z.1) from by
          rw [HE1.out, if_neg (by rw [hnz]; simp), getD_at (show (ds.map (·.1))[k]? = some q.1 by rw [List.getElem?_map, HQ.out]; rfl)])
        have HTK := hid (Rtaken_any (d := y.1) (m := z.1) hpb3 (HV.out w3 HG3.out) hnn)
        clear hr3 hg3 hnz hpb3 hDL hDf hdc htp hlp hvp hLp hzp hnD
        cases hct : q.1.prt.contains z.1 with
        | false =>
          have hz1 : decide (zp < 0) = true := by rw [hzc, hct]; rfl
          have hz2 : zp < 0 := of_decide_eq_true hz1
          have HE3 := hid (show endD (ds.map (·.1)) ns d0 p0 l i = .error (Ru.ft z 112) from by rw [HE2.out, if_pos hct])
          have HFL := hid (Fail_any HR3.out 112)
          rw [← HZ.out] at HFL
          clear hct hzc hz1
          go_wp2_with fail
          refine HPL.out.mono ?_
          rintro en w4 ⟨rfl, hw4⟩
          obtain rfl : w3 = w4 := hw4.symm
          clear c1 c2 c3 c4 f1 f2 f3 f4
          go_wp2_with fail
          refine HFL.out.mono ?_
          rintro en w5 ⟨rfl, hr5, hg5⟩
          have HF := hid (show EndD w rb g l i a b (endD (ds.map (·.1)) ns d0 p0 l i) (.returned (.tuple #[.string (tx []), .string (tx [])])) w5 from ⟨grownTwo HG3.out hg5, .inr ⟨_, i + 1, HE3.out, by show (112 : Nat) ≠ 0; decide, rfl, hr5⟩⟩)
          clear hr5 hg5
          go_wp2
          go_ret2
          exact HF.out
        | true =>
          have hz1 : decide (zp < 0) = false := by rw [hzc, hct]; rfl
          have hz2 : ¬ zp < 0 := of_decide_eq_false hz1
          have HE3 := hid (show endD (ds.map (·.1)) ns d0 p0 l i = if (takN ns y.1 z.1 || ((y.1 == d0) && (z.1 == p0))) = true then .error (Ru.ft z 111) else .ok (y.1, z.1) from by
            rw [HE2.out, if_neg (by rw [hct]; simp)])
          have hzl : i + 1 < l.length := atW_lt HR3.out.le (by rw [← HZ.out]; intro q; have := HNZ.out; rw [q] at this; exact absurd this (by decide))
          clear hct hzc hz1
          go_wp2_with fail
          refine HPL.out.mono ?_
          rintro en w4 ⟨rfl, hw4⟩
          obtain rfl : w3 = w4 := hw4.symm
          clear c1 c2 c3 c4 f1 f2 f3 f4
          go_wp2_with fail
          refine HTK.out.mono ?_
          rintro en w5 ⟨rfl, hb5⟩
          have HR5 := hid (HR3.out.on hb5)
          have HG5 := hid (grownBelow HG3.out hb5)
          obtain ⟨c1, c2, c3, c4, f1, f2, f3, f4⟩ := HR5.out.cells
          obtain ⟨bt, hbt⟩ : ∃ x, takN ns y.1 z.1 = x := ⟨_, rfl⟩
          obtain ⟨bd, hbd⟩ : ∃ x, (y.1 == d0) = x := ⟨_, rfl⟩
          obtain ⟨bp, hbp⟩ : ∃ x, (z.1 == p0) = x := ⟨_, rfl⟩
          rw [hbt, hbd, hbp] at HE3
          rw [hbt]
          have HFL := hid (Fail_any HR5.out 111)
          rw [← HZ.out] at HFL
          have HFE := hid (fun (h : (bt || (bd && bp)) = true) (w6 : World) (hr : RfAt w6 rb g l (i + 1) z.2.1 z.2.2 111) (hg : w5.grownBy w6 (some rb)) => (show EndD w rb g l i a b (endD (ds.map (·.1)) ns d0 p0 l i) (.returned (.tuple #[.string (tx []), .string (tx [])])) w6 from ⟨grownTwo HG5.out hg, .inr ⟨_, i + 1, by rw [HE3.out, if_pos h], by show (111 : Nat) ≠ 0; decide, rfl, hr⟩⟩))
          have HFO := hid (fun (h : (bt || (bd && bp)) = false) => (show EndD w rb g l i a b (endD (ds.map (·.1)) ns d0 p0 l i) (.returned (.tuple #[.string (tx y.1), .string (tx z.1)])) (w5.setCell ⟨rb, 1, none⟩ (.int .i64 ((i : Int) + 1 + 1))) from ⟨grownTwo HG5.out (grownSet _), .inl ⟨y.1, z.1, by rw [HE3.out, if_neg (by rw [h]; simp)], rfl, by
            have := HR5.out.step (i + 1 + 1) (by omega)
            rwa [show ((i + 1 + 1 : Nat) : Int) = (i : Int) + 1 + 1 by omega] at this⟩⟩))
          clear hb5 hbt
          cases bt <;> cases bd <;> cases bp
          all_goals (
            first
              | (have HFF := hid (HFE.out rfl)
                 clear c1 c2 c3 c4 f1 f2 f3 f4
                 go_wp2_with fail
                 refine HFL.out.mono ?_
                 rintro en w6 ⟨rfl, hr6, hg6⟩
                 have HF6 := hid (HFF.out w6 hr6 hg6)
                 clear hr6 hg6
                 go_wp2
                 go_ret2
                 exact HF6.out)
              | (have HFF := hid (HFO.out rfl)
                 go_wp2
                 go_ret2
                 exact HFF.out))
      · have HE2 := hid (show endD (ds.map (·.1)) ns d0 p0 l i = .error (Ru.ft z 31) from by rw [HE1.out, if_pos hnz])
        have HF := hid (show EndD w rb g l i a b (endD (ds.map (·.1)) ns d0 p0 l i) (.returned (.tuple #[.string (tx []), .string (tx [])])) w3 from ⟨grownTwo HGV.out hg3, .inr ⟨_, i + 1, HE2.out, by show (31 : Nat) ≠ 0; decide, rfl, hr3⟩⟩)
        obtain ⟨c1, c2, c3, c4, f1, f2, f3, f4⟩ := hr3.cells
        clear hr3 hg3 hnz
        go_wp2
        go_ret2
        exact HF.out
  · have HE1 := hid (show endD (ds.map (·.1)) ns d0 p0 l i = .error (Ru.ft y 31) from by rw [HE.out, if_pos hnb])
    have HF := hid (show EndD w rb g l i a b (endD (ds.map (·.1)) ns d0 p0 l i) (.returned (.tuple #[.string (tx []), .string (tx [])])) w1 from ⟨hg1, .inr ⟨_, i, HE1.out, by show (31 : Nat) ≠ 0; decide, rfl, hr1⟩⟩)
    obtain ⟨c1, c2, c3, c4, f1, f2, f3, f4⟩ := hr1.cells
    clear hr1 hg1 hnb
    go_wp2
    go_ret2
    exact HF.out
end Dt
end Go.Proofs.YtkepgjijidebhaaGreatDoor
