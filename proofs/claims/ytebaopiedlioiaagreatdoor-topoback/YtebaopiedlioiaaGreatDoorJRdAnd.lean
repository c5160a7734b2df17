/-
  Topologies as texts: the words of a line read as a width, a device or a link. Plain mathematics: no program is named here.
  A text put into a row of one's own: what becomes of its block.
  The reader of topologies: passed, name, finish.
  The reader of topologies in memory: a line's words that are left, what stands behind them; peek, next, passed, finish, must, begin.
-/
import Derived.Test.YtebaopiedlioiaaGreatDoorWRefSAnd
import Derived.Test.YtebaopiedlioiaaGreatDoorWBuildAnd
import Derived.Test.YtebaopiedlioiaaGreatDoorWRefLAnd
import Derived.Shelf.Spec.SlicesInsert
import Derived.Shelf.Spec.SlicesInsertGrow
import Derived.Shelf.Spec.SearchS
import Derived.Test.YtebaopiedlioiaaGreatDoorUMathAnd
namespace Go.Proofs.YtebaopiedlioiaaGreatDoor
open Go.RowKit
open Wo (Wd)

/-- A reader in memory: five cells of its own (the topology, two maps), the line's first word, what is left of the line in block g, what stands behind it. -/
structure JRd (w : World) (rb g : Nat) (c0 c1 c2 c3 c4 : Value) (x : Wd) (l : List Wd) (e : Wd) : Prop where
  ex : ∃ (o cap : Nat) (f0 f1 f2 : Value), w.heap[rb]? = some (.cells #[c0, c1, c2, c3, c4, .string (tx x.1), .int .i64 x.2.1, .int .i64 x.2.2, .slice (some ⟨g, o, none⟩) l.length cap, .string (tx e.1), .int .i64 e.2.1, .int .i64 e.2.2, f0, f1, f2] 111 (0, 0)) ∧ l.length ≤ cap ∧ cap ≤ 9223372036854775807 ∧ g ≠ rb ∧ g < w.heap.size ∧
    ∀ (i : Nat) (y : Wd), l[i]? = some y → w.cell? ⟨g, o + i * 3, none⟩ = some (.string (tx y.1)) ∧ w.cell? ⟨g, o + i * 3 + 1, none⟩ = some (.int .i64 y.2.1) ∧ w.cell? ⟨g, o + i * 3 + 2, none⟩ = some (.int .i64 y.2.2)
/-- A reader with its fault. -/
structure JFt (w : World) (rb : Nat) (f : Ru.Ft) : Prop where
  ex : ∃ (c0 c1 c2 c3 c4 c5 c6 c7 c8 c9 c10 c11 : Value), w.heap[rb]? = some (.cells #[c0, c1, c2, c3, c4, c5, c6, c7, c8, c9, c10, c11, .int .i64 f.1, .int .i64 f.2.1, .int .i64 f.2.2] 111 (0, 0))
/-- What a reader's call leaves where it gives up. -/
def JGave (w : World) (rb : Nat) (f : Ru.Ft) (en : Ending) (w' : World) : Prop := ∃ e : Int, en = .panicked (pan e) ∧ JFt w' rb f ∧ w.grownBy w' (some rb)
theorem JRd.lt {w : World} {rb g : Nat} {c0 c1 c2 c3 c4 : Value} {x : Wd} {l : List Wd} {e : Wd} (h : JRd w rb g c0 c1 c2 c3 c4 x l e) : rb < w.heap.size := by
  obtain ⟨o, cap, f0, f1, f2, hc, _⟩ := h.ex
  exact lt_of_block hc
theorem JRd.grown {w w' : World} {rb g : Nat} {c0 c1 c2 c3 c4 : Value} {x : Wd} {l : List Wd} {e : Wd} (h : JRd w rb g c0 c1 c2 c3 c4 x l e) (hb : ∀ k, k = rb ∨ k = g → w'.heap[k]? = w.heap[k]?) (hs : w.heap.size ≤ w'.heap.size) : JRd w' rb g c0 c1 c2 c3 c4 x l e := by
  obtain ⟨o, cap, f0, f1, f2, hc, h1, h2, h3, h4, h5⟩ := h.ex
  refine ⟨o, cap, f0, f1, f2, (hb rb (Or.inl rfl)).trans hc, h1, h2, h3, by omega, fun i y hy => ?_⟩
  obtain ⟨q1, q2, q3⟩ := h5 i y hy
  have eg := hb g (Or.inr rfl)
  exact ⟨by rw [World.cell?_of_block eg]; exact q1, by rw [World.cell?_of_block eg]; exact q2, by rw [World.cell?_of_block eg]; exact q3⟩
theorem JRd.gl {w : World} {rb g : Nat} {c0 c1 c2 c3 c4 : Value} {x : Wd} {l : List Wd} {e : Wd} (h : JRd w rb g c0 c1 c2 c3 c4 x l e) : g < w.heap.size ∧ g ≠ rb := by
  obtain ⟨o, cap, f0, f1, f2, hc, h1, h2, h3, h4, h5⟩ := h.ex
  exact ⟨h4, h3⟩
theorem JRd.below {w w' : World} {rb g : Nat} {c0 c1 c2 c3 c4 : Value} {x : Wd} {l : List Wd} {e : Wd} (h : JRd w rb g c0 c1 c2 c3 c4 x l e) (hb : Below w.heap.size w w') : JRd w' rb g c0 c1 c2 c3 c4 x l e :=
  h.grown (fun k hk => hb.block k (by rcases hk with rfl | rfl; exact h.lt; exact h.gl.1)) hb.size
theorem JRd.alloc {w : World} {rb g : Nat} {c0 c1 c2 c3 c4 : Value} {x : Wd} {l : List Wd} {e : Wd} (h : JRd w rb g c0 c1 c2 c3 c4 x l e) (o : Obj) : JRd (w.alloc o) rb g c0 c1 c2 c3 c4 x l e := h.below ((Below.refl _ _).alloc (Nat.le_refl _) _)
theorem JGave.after {w w1 w2 : World} {rb : Nat} {f : Ru.Ft} {en : Ending} (h : JGave w1 rb f en w2) (h1 : w.grownBy w1 (some rb)) : JGave w rb f en w2 := by
  obtain ⟨e, rfl, hf, hg⟩ := h
  exact ⟨e, rfl, hf, grown_two h1 hg⟩
/-- The cells that a walk reads. -/
theorem JRd.cells {w : World} {rb g : Nat} {c0 c1 c2 c3 c4 : Value} {x : Wd} {l : List Wd} {e : Wd} (h : JRd w rb g c0 c1 c2 c3 c4 x l e) : ∃ (o cap : Nat), (w.cell? ⟨rb, 0, none⟩ = some c0 ∧ w.cell? ⟨rb, 1, none⟩ = some c1 ∧ w.cell? ⟨rb, 2, none⟩ = some c2 ∧ w.cell? ⟨rb, 3, none⟩ = some c3 ∧ w.cell? ⟨rb, 4, none⟩ = some c4) ∧ (w.cell? ⟨rb, 5, none⟩ = some (.string (tx x.1)) ∧ w.cell? ⟨rb, 6, none⟩ = some (.int .i64 x.2.1) ∧ w.cell? ⟨rb, 7, none⟩ = some (.int .i64 x.2.2)) ∧ w.cell? ⟨rb, 8, none⟩ = some (.slice (some ⟨g, o, none⟩) l.length cap) ∧ (w.cell? ⟨rb, 9, none⟩ = some (.string (tx e.1)) ∧ w.cell? ⟨rb, 10, none⟩ = some (.int .i64 e.2.1) ∧ w.cell? ⟨rb, 11, none⟩ = some (.int .i64 e.2.2)) ∧ (∀ k, w.frozen? ⟨rb, k, none⟩ = false) ∧ l.length ≤ cap ∧ cap ≤ 9223372036854775807 ∧
    ∀ (i : Nat) (y : Wd), l[i]? = some y → w.cell? ⟨g, o + i * 3, none⟩ = some (.string (tx y.1)) ∧ w.cell? ⟨g, o + i * 3 + 1, none⟩ = some (.int .i64 y.2.1) ∧ w.cell? ⟨g, o + i * 3 + 2, none⟩ = some (.int .i64 y.2.2) := by
  obtain ⟨o, cap, f0, f1, f2, hc, h1, h2, h3, h4, h5⟩ := h.ex
  refine ⟨o, cap, ⟨?_, ?_, ?_, ?_, ?_⟩, ⟨?_, ?_, ?_⟩, ?_, ⟨?_, ?_, ?_⟩, fun k => free_of hc, h1, h2, h5⟩
  all_goals (rw [cell_at hc]; rfl)
/-- What is left becomes a part of it. -/
theorem JRd.left {w : World} {rb g : Nat} {c0 c1 c2 c3 c4 : Value} {x : Wd} {l : List Wd} {e : Wd} {o cap : Nat} (h : JRd w rb g c0 c1 c2 c3 c4 x l e) (hc8 : w.cell? ⟨rb, 8, none⟩ = some (.slice (some ⟨g, o, none⟩) l.length cap)) {o' cap' : Nat} (ho : (l = [] ∧ cap' = cap) ∨ (1 < cap ∧ o' = o + 3 ∧ cap' = cap - 1) ∨ (l.length = 1 ∧ cap = 1 ∧ cap' = 0)) : JRd (w.setCell ⟨rb, 8, none⟩ (.slice (some ⟨g, o', none⟩) l.tail.length cap')) rb g c0 c1 c2 c3 c4 x l.tail e := by
  obtain ⟨o2, cap2, f0, f1, f2, hc, h1, h2, h3, h4, h5⟩ := h.ex
  have e8 : w.cell? ⟨rb, 8, none⟩ = some (.slice (some ⟨g, o2, none⟩) l.length cap2) := by rw [cell_at hc]; rfl
  rw [e8] at hc8
  simp only [Option.some.injEq, Value.slice.injEq, Addr.mk.injEq, true_and, and_true] at hc8
  obtain ⟨rfl, rfl⟩ := hc8
  have eb : (w.setCell ⟨rb, 8, none⟩ (.slice (some ⟨g, o', none⟩) l.tail.length cap')).heap[g]? = w.heap[g]? := Below.heap_setCell _ _ _ _ h3
  refine ⟨o', cap', f0, f1, f2, ?_, ?_, ?_, h3, by simpa using h4, fun i y hy => ?_⟩
  · rw [block_set (o := 8) _ hc]; rfl
  · rw [List.length_tail]; rcases ho with ⟨rfl, rfl⟩ | ⟨_, _, rfl⟩ | ⟨q, _, rfl⟩ <;> simp_all <;> omega
  · rcases ho with ⟨rfl, rfl⟩ | ⟨_, _, rfl⟩ | ⟨q, _, rfl⟩ <;> omega
  · have hlt := (List.getElem?_eq_some_iff.1 hy).1
    rw [List.length_tail] at hlt
    obtain ⟨q1, q2, q3⟩ := h5 (i + 1) y (by rw [List.getElem?_tail] at hy; exact hy)
    rcases ho with ⟨rfl, _⟩ | ⟨_, rfl, _⟩ | ⟨q, _, _⟩
    · simp at hlt
    · have e3 : o2 + 3 + i * 3 = o2 + (i + 1) * 3 := by omega
      rw [e3]
      exact ⟨by rw [World.cell?_of_block eb]; exact q1, by rw [World.cell?_of_block eb]; exact q2, by rw [World.cell?_of_block eb]; exact q3⟩
    · omega

set_option maxHeartbeats 1000000 in
theorem opeek_any {w : World} {rb g : Nat} {c0 c1 c2 c3 c4 : Value} {x : Wd} {l : List Wd} {e : Wd} (hR : JRd w rb g c0 c1 c2 c3 c4 x l e) :
    Calls Tryz.prog 136 #[.pointer (some ⟨rb, 0, none⟩)] w fun en w' => en = .returned (wv (Ru.nx e l)) ∧ Below w.heap.size w w' := by
  obtain ⟨o, cap, -, -, c8, ⟨c9, c10, c11⟩, -, h1, h2, h5⟩ := hR.cells
  have hlt := hR.lt
  have hgl := hR.gl.1
  cases l with
  | nil =>
    simp only [List.length_nil] at c8
    have a8 := alloc_cell c8 hlt
    have a9 := alloc_cell c9 hlt
    have a10 := alloc_cell c10 hlt
    have a11 := alloc_cell c11 hlt
    clear hR h5 c8 c9 c10 c11
    go_enter Tryz.func136, Tryz.ntmps136
    go_wp2
    refine bodyPost_ret (v := wv e) (by simp [results, Tryz.results136, go_sem]) rfl ?_
    exact ⟨rfl, (Below.refl _ _).alloc (Nat.le_refl _) _⟩
  | cons y t =>
    obtain ⟨q1, q2, q3⟩ := h5 0 y rfl
    simp only [Nat.zero_mul, Nat.add_zero] at q1 q2 q3
    simp only [List.length_cons] at c8 h1
    have a8 := alloc_cell c8 hlt
    have b1 := alloc_cell q1 hgl
    have b2 := alloc_cell q2 hgl
    have b3 := alloc_cell q3 hgl
    have hl0 : ¬ ((t.length : Int) + 1 = 0) := by omega
    have hl1 : (0 : Int) < (t.length : Int) + 1 := by omega
    clear hR h5 c8 c9 c10 c11 q1 q2 q3
    go_enter Tryz.func136, Tryz.ntmps136
    go_wp2
    refine bodyPost_ret (v := wv y) (by simp [results, Tryz.results136, go_sem]) rfl ?_
    exact ⟨rfl, (Below.refl _ _).alloc (Nat.le_refl _) _⟩

set_option maxHeartbeats 400000 in
theorem omust_yes (p : Value) (x : Wd) (e : Int) (w : World) : Calls Tryz.prog 56 #[p, .bool true, wv x, .int .i64 e] w fun en w' => en = .returned (.tuple #[]) ∧ w' = w.alloc (wob x) := by
  go_enter Tryz.func56, Tryz.ntmps56
  go_wp2
  go_end0
  exact ⟨rfl, rfl⟩

set_option maxHeartbeats 1000000 in
theorem omust_no {w : World} {rb g : Nat} {c0 c1 c2 c3 c4 : Value} {y : Wd} {l : List Wd} {e0 : Wd} (hR : JRd w rb g c0 c1 c2 c3 c4 y l e0) (x : Wd) (e : Nat) :
    Calls Tryz.prog 56 #[.pointer (some ⟨rb, 0, none⟩), .bool false, wv x, .int .i64 e] w fun en w' => JGave w rb (Ru.ft x e) en w' := by
  obtain ⟨o, cap, f0, f1, f2, hc0, -⟩ := hR.ex
  have hc := new_old w (wob x) hc0
  have k5 := cell_at (o := 12) hc
  have k6 := cell_at (o := 13) hc
  have k7 := cell_at (o := 14) hc
  simp only [List.getElem?_toArray, List.getElem?_cons_succ, List.getElem?_cons_zero] at k5 k6 k7
  have g5 : (w.alloc (wob x)).frozen? ⟨rb, 12, none⟩ = false := free_of hc
  have g6 : (w.alloc (wob x)).frozen? ⟨rb, 13, none⟩ = false := free_of hc
  have g7 : (w.alloc (wob x)).frozen? ⟨rb, 14, none⟩ = false := free_of hc
  have HF : Hid (JFt ((((w.alloc (wob x)).setCell ⟨rb, 12, none⟩ (.int .i64 x.2.1)).setCell ⟨rb, 13, none⟩ (.int .i64 x.2.2)).setCell ⟨rb, 14, none⟩ (.int .i64 e)) rb (Ru.ft x e) ∧ w.grownBy ((((w.alloc (wob x)).setCell ⟨rb, 12, none⟩ (.int .i64 x.2.1)).setCell ⟨rb, 13, none⟩ (.int .i64 x.2.2)).setCell ⟨rb, 14, none⟩ (.int .i64 e)) (some rb)) :=
    ⟨⟨_, _, _, _, _, _, _, _, _, _, _, _, by rw [block_set (o := 14) _ (block_set (o := 13) _ (block_set (o := 12) _ hc))]; rfl⟩, grown_two (grown_two (grown_two (grown_alloc _ _ _) (grown_set _ _ _ _)) (grown_set _ _ _ _)) (grown_set _ _ _ _)⟩
  clear hR hc hc0
  go_enter Tryz.func56, Tryz.ntmps56
  go_wp2
  exact ⟨rfl, e, rfl, HF.out⟩
theorem omust_two {w : World} {rb g : Nat} {c0 c1 c2 c3 c4 : Value} {y : Wd} {l : List Wd} {e0 : Wd} (hR : JRd w rb g c0 c1 c2 c3 c4 y l e0) (b : Bool) (x : Wd) (e : Nat) :
    Calls Tryz.prog 56 #[.pointer (some ⟨rb, 0, none⟩), .bool b, wv x, .int .i64 e] w fun en w' => (b = true ∧ en = .returned (.tuple #[]) ∧ w' = w.alloc (wob x)) ∨ (b = false ∧ JGave w rb (Ru.ft x e) en w') := by
  cases b with
  | true => exact (omust_yes _ x e w).mono fun en w' h => Or.inl ⟨rfl, h⟩
  | false => exact (omust_no hR x e).mono fun en w' h => Or.inr ⟨rfl, h⟩
theorem below_box {B : Nat} {a : World} {p q r : Addr} {u v z : Value} {o : Obj} (hp : B ≤ p.block) (hq : B ≤ q.block) (hr : B ≤ r.block) (hs : B ≤ a.heap.size) : Below B a (((((a.setCell p u).setCell q v).setCell r z).alloc o).drew) :=
  (((((Below.refl B a).setCell hp u).setCell hq v).setCell hr z).alloc (by simp only [World.size_setCell]; exact hs) o).drew

set_option maxHeartbeats 2000000 in
theorem onext_any {w : World} {rb g : Nat} {c0 c1 c2 c3 c4 : Value} {x : Wd} {l : List Wd} {e : Wd} (hR : JRd w rb g c0 c1 c2 c3 c4 x l e) :
    Calls Tryz.prog 129 #[.pointer (some ⟨rb, 0, none⟩)] w fun en w' => en = .returned (wv (Ru.nx e l)) ∧ JRd w' rb g c0 c1 c2 c3 c4 x l.tail e ∧ w.grownBy w' (some rb) := by
  have HP := hid (fun (W : World) (hb : Below w.heap.size w W) => opeek_any (hR.below hb))
  have HR := hid (fun (W : World) (hb : Below w.heap.size w W) => hR.below hb)
  have hlt := hR.lt
  obtain ⟨o, cap, -, -, c8, -, cf, h1, h2, -⟩ := hR.cells
  obtain ⟨y, hy⟩ : ∃ y, y = Ru.nx e l := ⟨_, rfl⟩
  rw [← hy] at HP ⊢
  have HB := hid (fun (o : Obj) => (show Below w.heap.size w (w.alloc o) from (Below.refl _ _).alloc (Nat.le_refl _) _))
  have hgl := hR.gl.1
  have HFIN := hid (fun (W : World) (hb : Below w.heap.size w W) (o' cap' : Nat) (ho : (l = [] ∧ cap' = cap) ∨ (1 < cap ∧ o' = o + 3 ∧ cap' = cap - 1) ∨ (l.length = 1 ∧ cap = 1 ∧ cap' = 0)) (V : World) (hV : Below w.heap.size (W.setCell ⟨rb, 8, none⟩ (.slice (some ⟨g, o', none⟩) l.tail.length cap')) V) => (by
    have h3 := (hR.below hb).left (o := o) (cap := cap) ((hb.cell (by exact hlt)).trans c8) (o' := o') (cap' := cap') ho
    have hs := hV.size
    refine ⟨h3.grown (fun k hk => hV.block k (by rcases hk with rfl | rfl; exact hlt; exact hgl)) hs, ?_⟩
    have hg := grown_two (grown_of_below (some rb) hb) (grown_set W rb 8 (.slice (some ⟨g, o', none⟩) l.tail.length cap'))
    refine ⟨hV.os.trans hg.os, hV.tape.trans hg.tape, hV.output.trans hg.output, Nat.le_trans hg.size hs, fun k hk hne => ?_⟩
    rw [hV.block k hk, hg.block k hk hne] : JRd V rb g c0 c1 c2 c3 c4 x l.tail e ∧ w.grownBy V (some rb)))
  have HC := hid (fun (W : World) (hb : Below w.heap.size w W) => (show W.cell? ⟨rb, 8, none⟩ = some (.slice (some ⟨g, o, none⟩) l.length cap) ∧ W.frozen? ⟨rb, 8, none⟩ = false from ⟨(hb.cell (by exact hlt)).trans c8, (hb.frozen (by exact hlt)).trans (cf 8)⟩))
  clear hR c8 cf hy
  go_enter Tryz.func129, Tryz.ntmps129
  go_wp2_with fail
  refine (HP.out _ (HB.out _)).mono ?_
  rintro en w1 ⟨rfl, hb1⟩
  have B1 := hid (below_two (HB.out _) hb1)
  obtain ⟨k8, kf⟩ := HC.out _ (below_two (HB.out _) hb1)
  have hs := hb1.size
  have hlw : rb < w1.heap.size := by simp only [World.size_alloc] at hs; omega
  have hlx : w.heap.size < w1.heap.size := by simp only [World.size_alloc] at hs; omega
  have hbx := below_block hb1 (new_0 w _) (by simp)
  have x0 := cell_at (o := 0) hbx
  have x1 := cell_at (o := 1) hbx
  have x2 := cell_at (o := 2) hbx
  have y0 : w1.frozen? ⟨w.heap.size, 0, none⟩ = false := free_of hbx
  have y1 : w1.frozen? ⟨w.heap.size, 1, none⟩ = false := free_of hbx
  have y2 : w1.frozen? ⟨w.heap.size, 2, none⟩ = false := free_of hbx
  simp only [List.getElem?_toArray, List.getElem?_cons_succ, List.getElem?_cons_zero] at x0 x1 x2
  have hne : ¬ rb = w.heap.size := by omega
  have hne2 : ¬ w.heap.size = rb := by omega
  clear hb1 hs hbx
  cases l with
  | nil =>
    simp only [List.length_nil] at k8
    have hm0 : min (1 : Int) 0 = 0 := by decide
    by_cases hc : cap = 0
    · subst hc
      go_wp2_with fail
      go_region
      all_goals (
        go_wp2
        refine bodyPost_ret (v := wv y) (by simp [results, Tryz.results129, go_sem, hlx, x0, x1, x2]) rfl ⟨rfl, ?_⟩
        refine HFIN.out w1 B1.out o 0 ?_ _ ?_
        · simp
        · exact below_box (Nat.le_refl _) (Nat.le_refl _) (Nat.le_refl _) (by rw [World.size_setCell]; exact Nat.le_of_lt hlx))
    · have hcI : (0 : Int) < (cap : Int) := by omega
      go_wp2_with fail
      go_region
      all_goals (
        go_wp2
        refine bodyPost_ret (v := wv y) (by simp [results, Tryz.results129, go_sem, hlx, x0, x1, x2]) rfl ⟨rfl, ?_⟩
        refine HFIN.out w1 B1.out o cap ?_ _ ?_
        · simp
        · exact below_box (Nat.le_refl _) (Nat.le_refl _) (Nat.le_refl _) (by rw [World.size_setCell]; exact Nat.le_of_lt hlx))
  | cons a t =>
    simp only [List.length_cons] at k8 h1
    have hm1 : min (1 : Int) ((t.length : Int) + 1) = 1 := by omega
    have hlI : (1 : Int) ≤ (cap : Int) := by omega
    have hlJ : (1 : Int) ≤ (t.length : Int) + 1 := by omega
    by_cases hc : cap = 1
    · subst hc
      obtain rfl : t = [] := List.eq_nil_of_length_eq_zero (by omega)
      simp only [List.length_nil] at k8
      go_wp2_with fail
      go_region
      all_goals (
        go_wp2
        refine bodyPost_ret (v := wv y) (by simp [results, Tryz.results129, go_sem, hlx, x0, x1, x2]) rfl ⟨rfl, ?_⟩
        refine HFIN.out w1 B1.out o 0 ?_ _ ?_
        · simp
        · exact below_box (Nat.le_refl _) (Nat.le_refl _) (Nat.le_refl _) (by rw [World.size_setCell]; exact Nat.le_of_lt hlx))
    · have hcI : (1 : Int) < (cap : Int) := by omega
      go_wp2_with fail
      go_region
      all_goals (
        go_wp2
        refine bodyPost_ret (v := wv y) (by simp [results, Tryz.results129, go_sem, hlx, x0, x1, x2]) rfl ⟨rfl, ?_⟩
        refine HFIN.out w1 B1.out (o + 3) (cap - 1) ?_ _ ?_
        · simp; omega
        · exact below_box (Nat.le_refl _) (Nat.le_refl _) (Nat.le_refl _) (by rw [World.size_setCell]; exact Nat.le_of_lt hlx))
end Go.Proofs.YtebaopiedlioiaaGreatDoor
namespace Go.Proofs.YtebaopiedlioiaaGreatDoor
open Go.RowKit
open Wo (Wd)

/-- A reader that has gone on since w0. -/
structure JOn (w0 w : World) (rb g : Nat) (c0 c1 c2 c3 c4 : Value) (x : Wd) (l : List Wd) (e : Wd) : Prop where
  rd : JRd w rb g c0 c1 c2 c3 c4 x l e
  on : w0.grownBy w (some rb)
theorem JOn.start {w : World} {rb g : Nat} {c0 c1 c2 c3 c4 : Value} {x : Wd} {l : List Wd} {e : Wd} (h : JRd w rb g c0 c1 c2 c3 c4 x l e) : JOn w w rb g c0 c1 c2 c3 c4 x l e := ⟨h, grown_refl _ _⟩
theorem JOn.alloc {w0 w : World} {rb g : Nat} {c0 c1 c2 c3 c4 : Value} {x : Wd} {l : List Wd} {e : Wd} (h : JOn w0 w rb g c0 c1 c2 c3 c4 x l e) (o : Obj) : JOn w0 (w.alloc o) rb g c0 c1 c2 c3 c4 x l e := ⟨h.rd.alloc o, grown_two h.on (grown_alloc _ _ _)⟩
theorem JOn.below {w0 w w' : World} {rb g : Nat} {c0 c1 c2 c3 c4 : Value} {x : Wd} {l : List Wd} {e : Wd} (h : JOn w0 w rb g c0 c1 c2 c3 c4 x l e) (hb : Below w.heap.size w w') : JOn w0 w' rb g c0 c1 c2 c3 c4 x l e := ⟨h.rd.below hb, grown_two h.on (grown_of_below _ hb)⟩
theorem JOn.drew {w0 w : World} {rb g : Nat} {c0 c1 c2 c3 c4 : Value} {x : Wd} {l : List Wd} {e : Wd} (h : JOn w0 w rb g c0 c1 c2 c3 c4 x l e) : JOn w0 w.drew rb g c0 c1 c2 c3 c4 x l e := h.below (Below.refl _ _).drew
theorem JOn.box {w0 w1 V : World} {B rb g : Nat} {c0 c1 c2 c3 c4 : Value} {x : Wd} {l : List Wd} {e : Wd} (h : JOn w0 w1 rb g c0 c1 c2 c3 c4 x l e) (hV : Below B w1 V) (hr : rb < B) (hg : g < B) (h0 : w0.heap.size ≤ B) : JOn w0 V rb g c0 c1 c2 c3 c4 x l e :=
  ⟨h.rd.grown (fun k hk => hV.block k (by rcases hk with rfl | rfl; exact hr; exact hg)) hV.size, hV.os.trans h.on.os, hV.tape.trans h.on.tape, hV.output.trans h.on.output, Nat.le_trans h.on.size hV.size, fun k hk hne => (hV.block k (Nat.lt_of_lt_of_le hk h0)).trans (h.on.block k hk hne)⟩
theorem below_box2 {B : Nat} {a : World} {p q r : Addr} {u v z : Value} {o o' : Obj} (hp : B ≤ p.block) (hq : B ≤ q.block) (hr : B ≤ r.block) (hs : B ≤ a.heap.size) : Below B a ((((((a.setCell p u).setCell q v).setCell r z).alloc o).alloc o').drew) :=
  ((((((Below.refl B a).setCell hp u).setCell hq v).setCell hr z).alloc (by simp only [World.size_setCell]; exact hs) o).alloc (by simp only [World.size_alloc, World.size_setCell]; omega) o').drew
theorem onext_on {w0 w : World} {rb g : Nat} {c0 c1 c2 c3 c4 : Value} {x : Wd} {l : List Wd} {e : Wd} (h : JOn w0 w rb g c0 c1 c2 c3 c4 x l e) :
    Calls Tryz.prog 129 #[.pointer (some ⟨rb, 0, none⟩)] w fun en w' => en = .returned (wv (Ru.nx e l)) ∧ Hid (JOn w0 w' rb g c0 c1 c2 c3 c4 x l.tail e) :=
  (onext_any h.rd).mono fun _ _ q => ⟨q.1, q.2.1, grown_two h.on q.2.2⟩
theorem omust_on {w0 w : World} {rb g : Nat} {c0 c1 c2 c3 c4 : Value} {y : Wd} {l : List Wd} {e0 : Wd} (hR : JOn w0 w rb g c0 c1 c2 c3 c4 y l e0) (b : Bool) (x : Wd) (e : Nat) :
    Calls Tryz.prog 56 #[.pointer (some ⟨rb, 0, none⟩), .bool b, wv x, .int .i64 e] w fun en w' => (Hid (b = true) ∧ en = .returned (.tuple #[]) ∧ w' = w.alloc (wob x)) ∨ (Hid (b = false) ∧ JGave w0 rb (Ru.ft x e) en w') :=
  (omust_two hR.rd b x e).mono fun _ _ h => h.elim (fun h => Or.inl ⟨h.1, h.2⟩) (fun h => Or.inr ⟨h.1, h.2.after hR.on⟩)
theorem oName (l : List UInt8) (w : World) (hl : l.length ≤ 1048576) : Calls Tryz.prog 109 #[.string (tx l)] w fun en w' => en = .returned (.bool (Wo.nameB l)) ∧ w' = w := by
  have := Name_any (tx l) w (by rw [tx_size]; unfold maxLen; omega)
  rw [show (tx l).data.toList = l from rfl] at this
  exact this

set_option maxRecDepth 20000 in
set_option maxHeartbeats 2000000 in
theorem opassed_on {w0 w : World} {rb g : Nat} {c0 c1 c2 c3 c4 : Value} {x : Wd} {l : List Wd} {e : Wd} (h : JOn w0 w rb g c0 c1 c2 c3 c4 x l e) (s : List UInt8) :
    Calls Tryz.prog 133 #[.pointer (some ⟨rb, 0, none⟩), .string (tx s)] w fun en w' => en = .returned (.bool (decide ((Ru.nx e l).1 = s))) ∧ Hid (JOn w0 w' rb g c0 c1 c2 c3 c4 x (if (Ru.nx e l).1 = s then l.tail else l) e) := by
  have HP := hid (opeek_any h.rd)
  have HN := hid (fun (W : World) (hb : Below w.heap.size w W) => onext_on (h.below hb))
  have HS := hid (fun (W : World) (hb : Below w.heap.size w W) => h.below hb)
  obtain ⟨y, hy⟩ : ∃ y, y = Ru.nx e l := ⟨_, rfl⟩
  rw [← hy] at HP HN ⊢
  have hfl : ∀ w : World, (Instr.field 74 (wv y) 0).run Tryz.prog w = .ok (.string (tx y.1)) w := fun _ => rfl
  clear h hy
  by_cases hs : y.1 = s
  · have hb : (y.1 == s) = true := by simpa using hs
    have hd : decide (y.1 = s) = true := decide_eq_true hs
    rw [hd, if_pos hs]
    clear hs hd
    go_enter Tryz.func133, Tryz.ntmps133
    go_wp2_with fail
    refine HP.out.mono ?_
    rintro en w1 ⟨rfl, hb1⟩
    have B1 := hid hb1
    clear hb1
    go_wp2_with fail
    refine (HN.out _ B1.out).mono ?_
    rintro en w2 ⟨rfl, H2⟩
    go_wp2
    go_ret
    exact ⟨rfl, H2⟩
  · have hb : (y.1 == s) = false := by simpa using hs
    have hd : decide (y.1 = s) = false := decide_eq_false hs
    rw [hd, if_neg hs]
    clear hs hd
    go_enter Tryz.func133, Tryz.ntmps133
    go_wp2_with fail
    refine HP.out.mono ?_
    rintro en w1 ⟨rfl, hb1⟩
    have B1 := hid hb1
    clear hb1
    go_wp2
    go_ret
    exact ⟨rfl, hid (HS.out _ B1.out)⟩

set_option maxHeartbeats 2000000 in
theorem oname_on {w0 w : World} {rb g : Nat} {c0 c1 c2 c3 c4 : Value} {x : Wd} {l : List Wd} {e : Wd} (h : JOn w0 w rb g c0 c1 c2 c3 c4 x l e) (hx : (Ru.nx e l).1.length ≤ 1048576) :
    Calls Tryz.prog 132 #[.pointer (some ⟨rb, 0, none⟩)] w fun en w' => (Hid (Wo.nameB (Ru.nx e l).1 = true) ∧ en = .returned (wv (Ru.nx e l)) ∧ Hid (JOn w0 w' rb g c0 c1 c2 c3 c4 x l.tail e)) ∨ (Hid (Wo.nameB (Ru.nx e l).1 = false) ∧ JGave w0 rb (Ru.ft (Ru.nx e l) 31) en w') := by
  have HN := hid (fun (o : Obj) => onext_any (h.alloc o).rd)
  have HO := hid (fun (o : Obj) => (h.alloc o).on)
  obtain ⟨y, hy⟩ : ∃ y, y = Ru.nx e l := ⟨_, rfl⟩
  rw [← hy] at HN hx ⊢
  have hrl := h.rd.lt
  have hgl := h.rd.gl.1
  have h0 := h.on.size
  have HU := hid (fun w => oName y.1 w hx)
  obtain ⟨b, hb⟩ : ∃ b, b = Wo.nameB y.1 := ⟨_, rfl⟩
  rw [← hb] at HU ⊢
  clear h hy hb hx
  go_enter Tryz.func132, Tryz.ntmps132
  go_wp2_with fail
  refine (HN.out _).mono ?_
  rintro en w1 ⟨rfl, h1, hg1⟩
  have H1 := hid (show JOn w0 w1 rb g c0 c1 c2 c3 c4 x l.tail e from ⟨h1, grown_two (HO.out _) hg1⟩)
  have hs := hg1.size
  have hlx : w.heap.size < w1.heap.size := by simp only [World.size_alloc] at hs; omega
  have hne : ¬ w.heap.size = rb := by omega
  have hbx := (hg1.block w.heap.size (by simp) (fun q => hne (by injection q))).trans (new_0 w _)
  have x0 := cell_at (o := 0) hbx
  have x1 := cell_at (o := 1) hbx
  have x2 := cell_at (o := 2) hbx
  have y0 : w1.frozen? ⟨w.heap.size, 0, none⟩ = false := free_of hbx
  have y1 : w1.frozen? ⟨w.heap.size, 1, none⟩ = false := free_of hbx
  have y2 : w1.frozen? ⟨w.heap.size, 2, none⟩ = false := free_of hbx
  simp only [List.getElem?_toArray, List.getElem?_cons_succ, List.getElem?_cons_zero] at x0 x1 x2
  clear h1 hg1 hs hbx
  go_wp2_with fail
  go_region_held2 (fun w' => w'.cell? ⟨w1.heap.size, 0, none⟩ = some (.string (tx y.1)) ∧ w'.cell? ⟨w1.heap.size, 1, none⟩ = some (.int .i64 y.2.1) ∧ w'.cell? ⟨w1.heap.size, 2, none⟩ = some (.int .i64 y.2.2)) (go_keep) (first | (go_at_call 56; refine (omust_on (H1.out.alloc _).drew b y 31).mono ?_; rintro en w2 (⟨HB, rfl, rfl⟩ | ⟨HB, q, rfl, hf, hg⟩); rotate_left; (exact ⟨rfl, Or.inr ⟨HB, q, rfl, hf, hg⟩⟩)) | (go_at_call 109; refine (HU.out _).mono ?_; rintro en w2 ⟨rfl, rfl⟩))
  go_wp2
  refine bodyPost_ret (v := wv y) (by simp [results, Tryz.results132, go_sem, hlx, x0, x1, x2]) rfl (Or.inl ⟨HB, rfl, ?_⟩)
  exact hid (H1.out.box (B := w.heap.size) (below_box2 (Nat.le_refl _) (Nat.le_refl _) (Nat.le_refl _) (Nat.le_of_lt hlx)) hrl hgl h0)

set_option maxRecDepth 20000 in
set_option maxHeartbeats 2000000 in
theorem ofinish_on {w0 w : World} {rb g : Nat} {c0 c1 c2 c3 c4 : Value} {x : Wd} {l : List Wd} {e : Wd} (h : JOn w0 w rb g c0 c1 c2 c3 c4 x l e) :
    Calls Tryz.prog 131 #[.pointer (some ⟨rb, 0, none⟩)] w fun en w' => (Hid (l = []) ∧ en = .returned (.tuple #[]) ∧ Hid (JOn w0 w' rb g c0 c1 c2 c3 c4 x l e)) ∨ (Hid (l ≠ []) ∧ JGave w0 rb (Ru.ft (Ru.nx e l) 110) en w') := by
  have HP := hid (fun (W : World) (hb : Below w.heap.size w W) => opeek_any (h.below hb).rd)
  have HS := hid (fun (W : World) (hb : Below w.heap.size w W) => h.below hb)
  obtain ⟨o, cap, -, -, c8, -, -, -, -, -⟩ := h.rd.cells
  have hrl := h.rd.lt
  obtain ⟨y, hy⟩ : ∃ y, y = Ru.nx e l := ⟨_, rfl⟩
  rw [← hy] at HP ⊢
  have HC := hid (fun (W : World) (hb : Below w.heap.size w W) => (hb.cell (p := ⟨rb, 8, none⟩) (by exact hrl)).trans c8)
  have HL := hid (show (((l.length : Int) == 0) = true ↔ l = []) ∧ (((l.length : Int) == 0) = false ↔ l ≠ []) by
    have h1 : ((l.length : Int) == 0) = true ↔ l = [] := by
      rw [beq_iff_eq]
      exact ⟨fun q => List.eq_nil_of_length_eq_zero (by omega), fun q => by rw [q]; rfl⟩
    refine ⟨h1, ?_⟩
    rw [Bool.eq_false_iff]
    exact not_congr h1)
  have BD := hid (show Below w.heap.size w w.drew from (Below.refl _ _).drew)
  obtain ⟨b, hb⟩ : ∃ b, b = ((l.length : Int) == 0) := ⟨_, rfl⟩
  rw [← hb] at HL
  have hbq := hb.symm
  clear h hy hb
  go_enter Tryz.func131, Tryz.ntmps131
  go_wp2_with fail
  go_region_held2 (fun w' => w'.cell? ⟨rb, 8, none⟩ = some (.slice (some ⟨g, o, none⟩) l.length cap)) (first | (go_keep; done) | exact S3) (first | (go_at_call 136; refine (HP.out _ BD.out).mono ?_; rintro en w1 ⟨rfl, hb1⟩; have B1 := hid (below_two BD.out hb1); have S3 := HC.out _ B1.out) | (go_at_call 56; refine (omust_on (HS.out _ B1.out) b y 110).mono ?_; rintro en w2 (⟨HB, rfl, rfl⟩ | ⟨HB, q, rfl, hf, hg⟩); rotate_left; (exact ⟨rfl, Or.inr ⟨hid (HL.out.2.1 HB.out), q, rfl, hf, hg⟩⟩)))
  go_wp2
  exact bodyPost_end (v := .tuple #[]) (by simp [results, Tryz.results131, go_sem]) rfl (Or.inl ⟨hid (HL.out.1.1 HB.out), rfl, hid ((HS.out _ B1.out).alloc _)⟩)
end Go.Proofs.YtebaopiedlioiaaGreatDoor
namespace Go.Proofs.YtebaopiedlioiaaGreatDoor
open Go.RowKit Go

theorem block_sets {b : Nat} {t : TypeId} {fz : Nat × Nat} : ∀ (vs : List Value) (o : Nat) (w : World) (cur : Array Value), w.heap[b]? = some (.cells cur t fz) → o + vs.length ≤ cur.size → ∃ cur', (w.setCells b o vs).heap[b]? = some (.cells cur' t fz) ∧ cur'.toList = cur.toList.take o ++ vs ++ cur.toList.drop (o + vs.length)
  | [], o, w, cur, h, _ => ⟨cur, h, by simp⟩
  | v :: r, o, w, cur, h, hl => by
    have h1 : (w.setCell ⟨b, o, none⟩ v).heap[b]? = some (.cells (cur.setIfInBounds o v) t fz) := by simp [World.setCell, Array.getElem?_modify, h]
    simp only [List.length_cons] at hl
    obtain ⟨cur', h2, h3⟩ := block_sets r (o + 1) _ _ h1 (by simp; omega)
    refine ⟨cur', h2, ?_⟩
    rw [h3, Array.toList_setIfInBounds]
    have hlt : o < cur.toList.length := by rw [Array.length_toList]; omega
    have e1 : (cur.toList.set o v).take (o + 1) = cur.toList.take o ++ [v] := by
      have hto : (cur.toList.take o).length = o := by rw [List.length_take]; omega
      rw [List.take_set, List.take_succ_eq_append_getElem hlt, List.set_append_right _ _ (by omega), hto, Nat.sub_self]
      rfl
    have e2 : (cur.toList.set o v).drop (o + 1 + r.length) = cur.toList.drop (o + (r.length + 1)) := by
      rw [List.drop_set_of_lt (by omega), show o + 1 + r.length = o + (r.length + 1) by omega]
    rw [e1, e2]
    simp
theorem sets_kept {b : Nat} (vs : List Value) (o : Nat) (w : World) : (w.setCells b o vs).os = w.os ∧ (w.setCells b o vs).tape = w.tape ∧ (w.setCells b o vs).output = w.output ∧ (w.setCells b o vs).heap.size = w.heap.size ∧ ∀ k, k ≠ b → (w.setCells b o vs).heap[k]? = w.heap[k]? := by
  induction vs generalizing o w with
  | nil => exact ⟨rfl, rfl, rfl, rfl, fun _ _ => rfl⟩
  | cons v r ih =>
    obtain ⟨h1, h2, h3, h4, h5⟩ := ih (o + 1) (w.setCell ⟨b, o, none⟩ v)
    exact ⟨h1, h2, h3, h4.trans (by simp), fun k hk => (h5 k hk).trans (Below.heap_setCell _ _ _ _ (by exact hk))⟩
/-- Cells were stored into a row's block: in place. -/
theorem own_sets {w : World} {B g n cap o : Nat} {t : TypeId} {cur : Array Value} {vs ys : List Value} (hB : B ≤ g) (hb : w.heap[g]? = some (.cells cur t (0, 0))) (hcap : cap ≤ maxLen) (hcur : cur.size = cap) (hn : n ≤ cap) (ho : o + vs.length ≤ cap) (hx : ∃ zs, (cur.toList.take o ++ vs ++ cur.toList.drop (o + vs.length)) = ys ++ zs) (hy : ys.length = n) : (w.setCells g o vs).ownsRow B t 1 (.slice (some ⟨g, 0, none⟩) n cap) n ys ∧ w.grownBy (w.setCells g o vs) (some g) := by
  obtain ⟨cur', h1, h2⟩ := block_sets vs o w cur hb (by omega)
  obtain ⟨k1, k2, k3, k4, k5⟩ := sets_kept (b := g) vs o w
  obtain ⟨zs, hz⟩ := hx
  refine ⟨⟨by omega, Or.inr ⟨g, cap, cur', rfl, hB, h1, hn, hcap, ?_, ?_⟩⟩, k1, k2, k3, by omega, fun k _ hk => k5 k (fun e => hk (by rw [e]))⟩
  · have h3 := congrArg List.length h2
    simp only [Array.length_toList, List.length_append, List.length_take, List.length_drop] at h3
    omega
  · rw [h2, hz, Nat.mul_one, ← hy, List.take_left]
end Go.Proofs.YtebaopiedlioiaaGreatDoor
namespace Go.Proofs.YtebaopiedlioiaaGreatDoor
namespace To
open Wo (Wd)
open Ru (Ft ft nx put ins)

/-- A device. -/
structure Dv where
  name : List UInt8
  cls : List (List UInt8)
  prt : List (List UInt8)
/-- A link of two devices, by their numbers. -/
structure Lk where
  a : Nat
  p : List UInt8
  b : Nat
  q : List UInt8
def comma : List UInt8 := [44]
def classT : List UInt8 := [99, 108, 97, 115, 115]
def portT : List UInt8 := [112, 111, 114, 116]
def arrowT : List UInt8 := [45, 62]
def widthT : List UInt8 := [119, 105, 100, 116, 104]
def deviceT : List UInt8 := [100, 101, 118, 105, 99, 101]
def linkT : List UInt8 := [108, 105, 110, 107]
/-- Names with commas between, in order, each once. -/
def lst (e : Wd) (most : Nat) : List Wd → List (List UInt8) → Except Ft (List (List UInt8) × List Wd)
  | [], _ => .error (ft e 31)
  | w :: r, acc =>
    if Wo.nameB w.1 = false then .error (ft w 31) else
    if w.1 ∉ acc ∧ most ≤ acc.length then .error (ft w 3) else
    match r with
    | [] => .ok (put acc w.1, [])
    | c :: r' => if c.1 = comma then lst e most r' (put acc w.1) else .ok (put acc w.1, c :: r')
theorem lst_eq {e : Wd} (he : e.1 = []) (most : Nat) (ls : List Wd) (acc : List (List UInt8)) : lst e most ls acc = if Wo.nameB (nx e ls).1 = false then .error (ft (nx e ls) 31) else if (nx e ls).1 ∉ acc ∧ most ≤ acc.length then .error (ft (nx e ls) 3) else if (nx e ls.tail).1 = comma then lst e most ls.tail.tail (put acc (nx e ls).1) else .ok (put acc (nx e ls).1, ls.tail) := by
  cases ls with
  | nil =>
    rw [lst]
    have h : Wo.nameB (nx e []).1 = false := by rw [Ru.nx_nil, he]; rfl
    rw [if_pos h]
    rfl
  | cons w r =>
    cases r with
    | nil =>
      rw [lst]
      have h : ¬ (nx e ([] : List Wd)).1 = comma := by rw [Ru.nx_nil, he]; decide
      show _ = (if Wo.nameB w.1 = false then .error (ft w 31) else if w.1 ∉ acc ∧ most ≤ acc.length then .error (ft w 3) else if (nx e ([] : List Wd)).1 = comma then lst e most [] (put acc w.1) else .ok (put acc w.1, []))
      rw [if_neg h]
    | cons c t =>
      rw [lst]
      rfl
/-- A width, and nothing behind it. -/
def wid (e : Wd) (l : List Wd) : Except Ft Nat :=
  if Wo.numE (nx e l).1 ≠ 0 then .error (ft (nx e l) (Wo.numE (nx e l).1)) else
  if ¬ (1 ≤ Wo.numV (nx e l).1 ∧ Wo.numV (nx e l).1 ≤ 128) then .error (ft (nx e l) 5) else
  if l.tail ≠ [] then .error (ft (nx e l.tail) 110) else .ok (Wo.numV (nx e l).1)
/-- Names behind a word, if it stands there. -/
def opt (e : Wd) (most : Nat) (kw : List UInt8) (l : List Wd) : Except Ft (List (List UInt8) × List Wd) := if (nx e l).1 = kw then lst e most l.tail [] else .ok ([], l)
/-- What stands behind both lists of a device. -/
def devB (x e : Wd) (n : Nat) (nm : List UInt8) (cs : List (List UInt8)) : Except Ft (List (List UInt8) × List Wd) → Except Ft Dv
  | .error f => .error f
  | .ok (ps, r) => if r ≠ [] then .error (ft (nx e r) 110) else if 256 ≤ n then .error (ft x 3) else .ok ⟨nm, cs, ps⟩
def devA (x e : Wd) (n : Nat) (nm : List UInt8) : Except Ft (List (List UInt8) × List Wd) → Except Ft Dv
  | .error f => .error f
  | .ok (cs, r) => devB x e n nm cs (opt e 64 portT r)
/-- A device that none ahead has the name of. -/
def dev (x e : Wd) (ns : List (List UInt8)) (l : List Wd) : Except Ft Dv :=
  if Wo.nameB (nx e l).1 = false then .error (ft (nx e l) 31) else
  if (nx e l).1 ∈ ns then .error (ft (nx e l) 111) else devA x e ns.length (nx e l).1 (opt e 16 classT l.tail)
/-- Where a text stands, or would stand, in a rising row. -/
def pos (x : List UInt8) : List (List UInt8) → Nat
  | [] => 0
  | a :: t => if a < x then pos x t + 1 else 0
theorem pos_le (x : List UInt8) (l : List (List UInt8)) : pos x l ≤ l.length := by
  induction l with
  | nil => simp [pos]
  | cons a t ih =>
    unfold pos
    split
    · simp only [List.length_cons]; omega
    · simp
theorem pos_lt {x : List UInt8} {l : List (List UInt8)} : ∀ {j : Nat} {a : List UInt8}, l[j]? = some a → j < pos x l → a < x := by
  induction l with
  | nil => intro j a h; simp at h
  | cons b t ih =>
    intro j a h hj
    unfold pos at hj
    split at hj
    · rename_i hb
      cases j with
      | zero => simp at h; rw [← h]; exact hb
      | succ j => exact ih (by simpa using h) (by omega)
    · omega
theorem pos_ge {x : List UInt8} {l : List (List UInt8)} (hr : Ru.Rise l) : ∀ {j : Nat} {a : List UInt8}, l[j]? = some a → pos x l ≤ j → ¬ a < x := by
  induction l with
  | nil => intro j a h; simp at h
  | cons b t ih =>
    intro j a h hj
    have hr1 := List.pairwise_cons.1 hr
    unfold pos at hj
    split at hj
    · cases j with
      | zero => omega
      | succ j => exact ih hr1.2 (by simpa using h) (by omega)
    · rename_i hb
      cases j with
      | zero => simp at h; rw [← h]; exact hb
      | succ j => exact fun hq => hb (List.lt_trans (hr1.1 a (List.mem_of_getElem? (by simpa using h))) hq)
theorem pos_mem {x : List UInt8} {l : List (List UInt8)} (hr : Ru.Rise l) : x ∈ l ↔ l[pos x l]? = some x := by
  constructor
  · intro h
    induction l with
    | nil => cases h
    | cons b t ih =>
      have hr1 := List.pairwise_cons.1 hr
      unfold pos
      split
      · rename_i hb
        rcases List.mem_cons.1 h with rfl | h
        · exact absurd hb (List.lt_irrefl _)
        · rw [List.getElem?_cons_succ]; exact ih hr1.2 h
      · rename_i hb
        rcases List.mem_cons.1 h with rfl | h
        · rfl
        · exact absurd (hr1.1 x h) hb
  · exact fun h => List.mem_of_getElem? h
theorem ins_pos {x : List UInt8} {l : List (List UInt8)} (hx : x ∉ l) : ins l x = l.take (pos x l) ++ x :: l.drop (pos x l) := by
  induction l with
  | nil => rfl
  | cons b t ih =>
    have hbx : x ≠ b := fun e => hx (by rw [e]; simp)
    unfold ins pos
    by_cases h1 : x < b
    · have h2 : ¬ b < x := fun h2 => List.lt_irrefl _ (List.lt_trans h1 h2)
      rw [if_pos h1, if_neg h2]
      rfl
    · have h2 : b < x := by
        rcases Ru.lt_or h1 with h | h
        · exact h
        · exact absurd h hbx
      rw [if_neg h1, if_pos h2, ih (fun h => hx (List.mem_cons_of_mem _ h))]
      rfl
theorem put_new {x : List UInt8} {l : List (List UInt8)} (hx : x ∉ l) : put l x = l.take (pos x l) ++ x :: l.drop (pos x l) := by
  unfold put
  rw [if_neg hx, ins_pos hx]
theorem put_old {x : List UInt8} {l : List (List UInt8)} (hx : x ∈ l) : put l x = l := if_pos hx
theorem put_len (x : List UInt8) (l : List (List UInt8)) : (put l x).length = if x ∈ l then l.length else l.length + 1 := by
  by_cases h : x ∈ l
  · rw [put_old h, if_pos h]
  · rw [put_new h, if_neg h]
    have := pos_le x l
    simp only [List.length_append, List.length_take, List.length_cons, List.length_drop]
    omega
end To
end Go.Proofs.YtebaopiedlioiaaGreatDoor
