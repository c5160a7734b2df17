/-
  The document's Check.
  Same: slices.Equal of stamps, and the document's.
  The document's find and put.
  slices.BinarySearchFunc of a vector, by devices.
  slices.Insert of a stamp without room; any way.
-/
import Derived.Test.YtibbbjikehkbmabDoorGTxtAnd
import Derived.Laws.NewBlocks
import Derived.Test.YtibbbjikehkbmabDoorGRangeAnd
import Derived.Test.YtibbbjikehkbmabDoorGStepAnd
import Derived.Test.YtibbbjikehkbmabDoorGMathAnd
import Derived.Deep.LoopGhost
import Derived.Deep.Draws
import Derived.Sort.Walk0
namespace Go.Proofs.YtibbbjikehkbmabDoor.Ve
open Go.RowKit

theorem grown_fresh {w : World} {N : Nat} (hN : w.heap.size ≤ N) {r : Option Nat} : ∀ (vs : List Value) (o : Nat) (W : World), w.grownBy W r → w.grownBy (W.setCells N o vs) r
  | [], _, _, h => h
  | v :: l, o, W, h => grown_fresh hN l (o + 1) _ ⟨h.os, h.tape, h.output, by rw [World.size_setCell]; exact h.size, fun i hi hne => (Below.heap_setCell _ _ _ _ (by show i ≠ N; omega)).trans (h.block i hi hne)⟩

set_option maxRecDepth 20000 in
set_option maxHeartbeats 4000000 in
theorem Insert_grow {w : World} {B g n c k vb : Nat} {ps : List St} {q : St} (hown : w.ownsRow B 33 2 (.slice (some ⟨g, 0, none⟩) n c) n (flatS ps)) (hl : ps.length = n) (hk : k < n) (hroom : c < n + 1) (h60 : n ≤ 4096) (hBw : B ≤ w.heap.size)
    (hv : w.heap[vb]? = some (.cells #[.int .i64 q.1, .int .u64 (q.2 : Int)] 33 (0, 0))) :
    Calls Tryd.prog 20 #[.slice (some ⟨g, 0, none⟩) n c, .int .i64 (k : Int), .slice (some ⟨vb, 0, none⟩) 1 1] w fun e w' => ∃ bo bc, e = .returned (.slice bo (n + 1) bc) ∧ Hid (w'.ownsRow B 33 2 (.slice bo (n + 1) bc) (n + 1) (flatS (ps.take k ++ q :: ps.drop k)) ∧ w.grownBy w' (some g)) := by
  have mixed := mixedV
  obtain ⟨cur, hB, hh, hnc, hm, hs, hcs, hsome⟩ := own_parts hown
  obtain ⟨i0, hi0, hz0, hzs, hzb⟩ := info_parts info_stamp
  have h1c : ∀ u ∈ flatS ps, u.oneCell' = true := flatS_one ps
  have h1v : ∀ u ∈ twoC q, u.oneCell' = true := flatS_one [q]
  have hfl := flatS_len ps
  have hvs : ∀ (j : Nat) (u : Value), (twoC q)[j]? = some u → w.cell? ⟨vb, j, none⟩ = some u := fun j u hj => by rw [cell_at hv]; simpa using hj
  have hgw : g < w.heap.size := lt_of_block hh
  have hvw : vb < w.heap.size := lt_of_block hv
  have hkk : (n : Int) + 1 - (k : Int) = ((n + 1 - k : Nat) : Int) := by omega
  have hik : k + (n + 1 - k) = n + 1 := by omega
  have hold : (Builtin.firstCells i0.size k (.slice (some ⟨g, 0, none⟩) k c)).run Tryd.prog w.drew = .ok ((flatS ps).take (k * 2)).toArray w.drew := by
    rw [hzs]
    exact run_firstCells_some w.drew 2 k ⟨g, 0, none⟩ k c _ (by rw [List.length_take, hfl, hl]; omega) (fun j u hj => by
      rw [addr_addS, Nat.zero_add]
      rw [List.getElem?_take] at hj
      split at hj
      · exact hcs j u hj
      · cases hj)
  have hrz : ∀ ty, (Builtin.append_ #[23, 3] ty #[.slice (some ⟨g, 0, none⟩) k c, .int .i64 ((n : Int) + 1 - (k : Int))]).run Tryd.prog w =
      .ok (.slice (some ⟨w.heap.size, 0, none⟩) (n + 1) (grownCap w (n + 1) c 33)) (w.drew.alloc (.cells (((flatS ps).take (k * 2)).toArray ++ Builtin.zeroCells (Value.agg #[.int .i64 0, .int .u64 0]).cells (n + 1 - k) ++ Builtin.zeroCells (Value.agg #[.int .i64 0, .int .u64 0]).cells (grownCap w (n + 1) c 33 - (n + 1))) 33)) := fun ty => by
    have h := Lib.run_append_grow_zeros w 23 3 ty 33 i0 _ .i64 .i64 Tryd.underlying23 Tryd.underlying3 hi0 hz0 (some ⟨g, 0, none⟩) k c _ hold (n + 1 - k) (by omega) (by omega) (by omega) (by omega) (by rw [hzb]; omega) (by rw [hzb, hik]; exact growslice_fits hroom (by omega))
    rw [hik] at h
    rw [hkk]
    exact h
  obtain ⟨G, hG⟩ : ∃ G, G = grownCap w (n + 1) c 33 := ⟨_, rfl⟩
  obtain ⟨ROW, hROW⟩ : ∃ ROW : Array Value, ROW = ((flatS ps).take (k * 2)).toArray ++ Builtin.zeroCells (Value.agg #[.int .i64 0, .int .u64 0]).cells (n + 1 - k) ++ Builtin.zeroCells (Value.agg #[.int .i64 0, .int .u64 0]).cells (G - (n + 1)) := ⟨_, rfl⟩
  rw [← hG] at hrz
  rw [← hROW] at hrz
  have hGn : n + 1 ≤ G := by rw [hG]; exact grownCap_ge w _ _ _
  have hGm : G ≤ maxLen := by rw [hG]; exact grownCap_le_maxLen w _ _ _ (by unfold maxLen; omega)
  have hzc : (Value.agg #[.int .i64 0, .int .u64 0]).cells.size = 2 := rfl
  have hRs : ROW.size = G * 2 := by
    rw [hROW]
    simp only [Array.size_append, List.size_toArray, List.length_take, hfl, hl, Builtin.zeroCells, Array.size_map, Array.size_range, hzc]
    omega
  obtain ⟨N, hN⟩ : ∃ N, N = w.heap.size := ⟨_, rfl⟩
  obtain ⟨W1, hW1⟩ : ∃ W1, W1 = w.drew.alloc (.cells ROW 33) := ⟨_, rfl⟩
  rw [← hW1] at hrz
  have hb1 : W1.heap[N]? = some (.cells ROW 33 (0, 0)) := by rw [hW1, hN]; exact new_0 w.drew _
  have hOld : ∀ (b : Nat) (x : Obj), w.heap[b]? = some x → W1.heap[b]? = some x := fun b x hx => by rw [hW1]; exact new_old w.drew _ hx
  have hcpA : ∀ (W : World), W.heap = W1.heap → ∀ ty dc, (Builtin.copy_ #[23, 22] ty #[.slice (some ⟨N, k * 2, none⟩) (n + 1 - k) dc, .slice (some ⟨vb, 0, none⟩) 1 1]).run Tryd.prog W = .ok (goInt (Nat.min 1 (n + 1 - k))) (W.setCells N (k * 2) (twoC q)) := fun W hW ty dc =>
    run_copy_wide W _ _ ty 33 2 N (k * 2) (n + 1 - k) dc ⟨vb, 0, none⟩ 1 1 (twoC q) Tryd.underlying23 sizeStampI (by rw [show Nat.min 1 (n + 1 - k) = 1 by simp only [Nat.min_def]; split <;> omega]; rfl)
      (fun j u hj => by
        rw [addr_addS, Nat.zero_add, World.cell?_of_block (w := W1) (by rw [hW]), cell_at (hOld _ _ hv), ← cell_at hv]
        exact hvs j u hj)
      (fun j hj => by
        have : j < 2 := hj
        rw [World.cell?_of_block (w := W1) (by rw [hW]), cell_at hb1, Array.getElem?_eq_getElem (by rw [hRs]; omega)]; rfl) (fun j hj => by rw [World.frozen?_of_block (w := W1) (by rw [hW])]; exact free_of hb1) h1v
  obtain ⟨W2, hW2⟩ : ∃ W2, W2 = W1.setCells N (k * 2) (twoC q) := ⟨_, rfl⟩
  have hb2 : W2.heap[N]? = some (.cells (setAll ROW (k * 2) (twoC q)) 33 (0, 0)) := by rw [hW2]; exact block_setCells _ _ _ _ hb1
  have hgN : g ≠ N := by omega
  have hOld2 : W2.heap[g]? = some (.cells cur 33 (0, 0)) := by
    have hg2 : w.grownBy W2 none := by rw [hW2]; exact grown_fresh (by omega) _ _ _ (by rw [hW1]; exact ⟨rfl, rfl, rfl, by simp, fun i hi _ => Below.heap_alloc w.drew _ _ hi⟩)
    rw [hg2.block g hgw (by simp)]; exact hh
  have hdl : ((flatS ps).drop (k * 2)).length = (n - k) * 2 := by rw [List.length_drop, hfl, hl]; omega
  have hcpB : ∀ (W : World), W.heap = W2.heap → ∀ ty dc sc, (Builtin.copy_ #[23, 23] ty #[.slice (some ⟨N, (k + 1) * 2, none⟩) (n - k) dc, .slice (some ⟨g, k * 2, none⟩) (n - k) sc]).run Tryd.prog W = .ok (goInt (Nat.min (n - k) (n - k))) (W.setCells N ((k + 1) * 2) ((flatS ps).drop (k * 2))) := fun W hW ty dc sc =>
    run_copy_wide W _ _ ty 33 2 N ((k + 1) * 2) (n - k) dc ⟨g, k * 2, none⟩ (n - k) sc _ Tryd.underlying23 sizeStampI (by rw [hdl]; congr 1; simp only [Nat.min_def]; split <;> omega)
      (fun j u hj => by
        rw [addr_addS, World.cell?_of_block (w := W2) (by rw [hW]), cell_at hOld2, ← cell_at hh]
        exact hcs (k * 2 + j) u (by rwa [List.getElem?_drop] at hj))
      (fun j hj => by
        rw [World.cell?_of_block (w := W2) (by rw [hW]), cell_at hb2, Array.getElem?_eq_getElem (by rw [setAll_size, hRs]; omega)]; rfl) (fun j hj => by rw [World.frozen?_of_block (w := W2) (by rw [hW])]; exact free_of hb2) (fun u hu => h1c u (List.mem_of_mem_drop hu))
  have HFIN := hid (show ∀ W : World, W.heap = W2.heap → (W.setCells N ((k + 1) * 2) ((flatS ps).drop (k * 2))).ownsRow B 33 2 (.slice (some ⟨N, 0, none⟩) (n + 1) G) (n + 1) (flatS (ps.take k ++ q :: ps.drop k)) from fun W hW => by
    have hbW : W.heap[N]? = some (.cells (setAll ROW (k * 2) (twoC q)) 33 (0, 0)) := by rw [hW]; exact hb2
    have hb3 := block_setCells ((flatS ps).drop (k * 2)) ((k + 1) * 2) W _ hbW
    refine own_of_cells hb3 (by omega) hGn hGm (by rw [setAll_size, setAll_size, hRs]) (by rw [flatS_len]; simp [hl]; omega) (fun j u hj => ?_)
    have e : flatS (ps.take k ++ q :: ps.drop k) = (flatS ps).take (k * 2) ++ twoC q ++ (flatS ps).drop (k * 2) := by
      rw [flatS_append, flatS_take, List.append_assoc]
      show _ ++ (twoC q ++ flatS (ps.drop k)) = _
      rw [flatS_drop]
    rw [e] at hj
    have htl : ((flatS ps).take (k * 2)).length = k * 2 := by rw [List.length_take, hfl, hl]; omega
    by_cases h1 : j < k * 2
    · rw [World.cell?_setCells_out N _ _ _ _ (fun _ _ => Or.inl (by show j < (k + 1) * 2; omega)), World.cell?_of_block (w := W2) (by rw [hW]), hW2, World.cell?_setCells_out N _ _ _ _ (fun _ _ => Or.inl h1), cell_at hb1, hROW]
      rw [List.append_assoc, List.getElem?_append_left (by omega)] at hj
      rw [Array.append_assoc, Array.getElem?_append_left (by simp [hfl, hl]; omega)]
      simpa using hj
    · by_cases h2 : j < k * 2 + 2
      · have hin := World.cell?_setCells_in N (twoC q) (k * 2) W1 (fun i hi => by
          have : i < 2 := hi
          rw [cell_at hb1, Array.getElem?_eq_getElem (by rw [hRs]; omega)]; rfl) (j - k * 2) (by show j - k * 2 < 2; omega)
        rw [show k * 2 + (j - k * 2) = j by omega] at hin
        rw [World.cell?_setCells_out N _ _ _ _ (fun _ _ => Or.inl (by show j < (k + 1) * 2; omega)), World.cell?_of_block (w := W2) (by rw [hW]), hW2, hin]
        rw [List.getElem?_append_left (by rw [List.length_append, htl]; show j < k * 2 + 2; omega), List.getElem?_append_right (by omega), htl] at hj
        rw [List.getElem?_eq_getElem (by show j - k * 2 < 2; omega)] at hj
        exact hj
      · have hin := World.cell?_setCells_in N ((flatS ps).drop (k * 2)) ((k + 1) * 2) W (fun i hi => by
          rw [cell_at hbW, Array.getElem?_eq_getElem (by rw [setAll_size, hRs]; omega)]; rfl) (j - (k + 1) * 2) (by
          have := (List.getElem?_eq_some_iff.1 hj).1
          simp only [List.length_append, htl, hdl] at this
          have e4 : (twoC q).length = 2 := rfl
          omega)
        rw [show (k + 1) * 2 + (j - (k + 1) * 2) = j by omega] at hin
        rw [hin]
        rw [List.getElem?_append_right (by rw [List.length_append, htl]; show k * 2 + 2 ≤ j; omega), List.length_append, htl, show k * 2 + (twoC q).length = (k + 1) * 2 by show k * 2 + 2 = _; omega] at hj
        rw [List.getElem?_eq_getElem (by rw [hdl]; have := (List.getElem?_eq_some_iff.1 hj).1; rw [hdl] at this; exact this)] at hj
        exact hj)
  have HGR := hid (show ∀ W : World, w.grownBy W (some g) → w.grownBy (W.setCells N ((k + 1) * 2) ((flatS ps).drop (k * 2))) (some g) from fun W hg => grown_fresh (by omega) _ _ _ hg)
  have HG2 := hid (show ∀ W : World, w.grownBy W (some g) → w.grownBy (W.setCells N (k * 2) (twoC q)) (some g) from fun W hg => grown_fresh (by omega) _ _ _ hg)
  have HG1 := hid (show w.grownBy W1 (some g) by rw [hW1]; exact ⟨rfl, rfl, rfl, by simp, fun i hi _ => Below.heap_alloc w.drew _ _ hi⟩)
  have hz2 : ¬ ((k : Int) = (n : Int)) := by omega
  have hz3 : (c : Int) < (n : Int) + 1 := by omega
  have hw1 : IntKind.i64.wrap ((k : Int) + 1) = (k : Int) + 1 := by rw [IntKind.wrap_i64]; omega
  have hb0 : (0 : Int) ≤ (k : Int) + 1 := by omega
  have hin : k ≤ n := by omega
  have htn : ((k : Int) + 1).toNat = k + 1 := by omega
  have hb3 : (k : Int) ≤ (n : Int) := by omega
  have hGi : ¬ (G = k) := by omega
  have hGim : ¬ (G = k + 1) := by omega
  have hci : ¬ (c = k) := by omega
  have hkc : k ≤ c := by omega
  have hcb : (c : Int) ≤ 9223372036854775807 := by unfold maxLen at hm; omega
  have hGb : (G : Int) ≤ 9223372036854775807 := by unfold maxLen at hGm; omega
  subst hN
  subst hW2
  subst hW1
  clear hown hv hh hcs hsome h1c h1v hvs hb1 hb2 hs  hold hROW hG hRs hkk hik hOld hOld2 hi0 hz0 hzs hzb hroom hnc hGn hm hGm hfl hdl hgw hvw hgN
  have hcpA' := hcpA (w.alloc (.cells ROW 33)).drew rfl
  have HCB := hid (show ∀ Wx : World, Wx = (w.alloc (.cells ROW 33)).drew.setCells w.heap.size (k * 2) (twoC q) → _ from fun Wx hx => And.intro (hcpB Wx.drew (by rw [hx]; rfl)) (And.intro (HFIN.out Wx.drew (by rw [hx]; rfl)) (HGR.out Wx.drew (by rw [hx]; have := HG2.out _ HG1.out; exact ⟨this.os, this.tape, this.output, this.size, this.block⟩))))
  clear hcpA hcpB
  go_enter Tryd.func20, Tryd.ntmps20
  go_wp2_with (at_builtin; refine Lib.wpList_append_run _ rfl _ _ _ _ rfl _ _ rfl rfl _ _ (hrz _) ?_)
  generalize hWx : (w.alloc (.cells ROW 33)).drew.setCells w.heap.size (k * 2) (twoC q) = Wx
  obtain ⟨hcpB', hf1, hf2⟩ := HCB.out Wx hWx.symm
  have HF1 := hid hf1
  have HF2 := hid hf2
  clear hWx HCB hf1 hf2 hcpA' hrz HGR HG2 HG1 HFIN
  generalize w.heap.size = N at hcpB' HF1 HF2 ⊢
  go_region_law (refine step_copy_runI rfl _ _ 23 23 rfl (.slice (some ⟨N, (k + 1) * 2, none⟩) (n - k) (G - (k + 1))) (.slice (some ⟨g, k * 2, none⟩) (n - k) (c - k)) (by simp [Act.eval, Act.put]) (by simp [Act.eval, Act.put]) (hcpB' 3 (G - (k + 1)) (c - k)) ?_)
  go_wp2
  go_ret
  exact ⟨_, _, rfl, HF1.out, HF2.out⟩
end Go.Proofs.YtibbbjikehkbmabDoor.Ve
namespace Go.Proofs.YtibbbjikehkbmabDoor.Ve
open Go.RowKit

/-- How many stamps stand ahead of a device. -/
def lowI (l : List St) (d : Int) : Nat := (l.filter fun t => decide (t.1 < d)).length
theorem lowI_eq {l : List St} {d : Int} {k : Nat} (hk : k ≤ l.length) (h1 : ∀ i s, l[i]? = some s → i < k → s.1 < d) (h2 : ∀ i s, l[i]? = some s → k ≤ i → ¬ s.1 < d) : lowI l d = k := by
  unfold lowI
  have e : l = l.take k ++ l.drop k := (List.take_append_drop k l).symm
  have f1 : (l.take k).filter (fun t => decide (t.1 < d)) = l.take k := by
    rw [List.filter_eq_self]
    intro t ht
    obtain ⟨i, hi⟩ := List.getElem?_of_mem ht
    rw [List.getElem?_take] at hi
    split at hi
    · rename_i hik
      simpa using h1 i t hi hik
    · cases hi
  have f2 : (l.drop k).filter (fun t => decide (t.1 < d)) = [] := by
    rw [List.filter_eq_nil_iff]
    intro t ht
    obtain ⟨i, hi⟩ := List.getElem?_of_mem ht
    rw [List.getElem?_drop] at hi
    simpa using h2 (k + i) t hi (by omega)
  rw [e, List.filter_append, f1, f2, List.append_nil, List.length_take]
  omega
theorem fnd_at {l : List St} (hr : Right l) {d : Int} {k : Nat} (h1 : ∀ i s, l[i]? = some s → i < k → s.1 < d) (h2 : ∀ i s, l[i]? = some s → k ≤ i → ¬ s.1 < d) : (fndP l d).2 = match l[k]? with | some s => decide (s.1 = d) | none => false := by
  cases hs : l[k]? with
  | none =>
    have : k ≥ l.length := by
      rcases Nat.lt_or_ge k l.length with q | q
      · rw [List.getElem?_eq_getElem q] at hs; cases hs
      · exact q
    rw [get_no (k := l.length) rfl (fun i hi t ht => by have := h1 i t ht (by omega); omega)]
  | some s =>
    by_cases e : s.1 = d
    · rw [get_at (fun i hi t ht => by have := h1 i t ht hi; omega) hs e]
      exact (decide_eq_true e).symm
    · have hno : ∀ i, i < l.length → ∀ t, l[i]? = some t → t.1 ≠ d := fun i _ t ht => by
        rcases Nat.lt_trichotomy i k with q | q | q
        · have := h1 i t ht q; omega
        · subst q; rw [hs] at ht; cases ht; exact e
        · have := right_lt hr hs ht q
          have := h2 k s hs (Nat.le_refl _)
          omega
      rw [get_no (k := l.length) rfl hno]
      exact (decide_eq_false e).symm
structure BinAt (w : World) (l : List St) (d u : Int) (B : Nat) (lo hi : Nat) (wr : World) : Prop where
  low : Below w.heap.size w wr
  bx : wr.cell? ⟨B, 0, none⟩ = some (.int .i64 d) ∧ wr.cell? ⟨B, 1, none⟩ = some (.int .u64 u)
  lt : B < wr.heap.size
  no : ∀ i s, l[i]? = some s → i < lo → s.1 < d
  yes : ∀ i s, l[i]? = some s → hi ≤ i → ¬ s.1 < d
set_option maxRecDepth 20000 in
set_option maxHeartbeats 4000000 in
theorem Bin_any {w : World} {v : Value} {l : List St} (h : VecV w v l) (hr : Right l) (d u : Int) :
    Calls Tryd.prog 32 #[v, .agg #[.int .i64 d, .int .u64 u], .func (.func 33) #[] #[]] w fun e w' => e = .returned (.tuple #[.int .i64 (lowI l d : Nat), .bool (fndP l d).2]) ∧ Below w.heap.size w w' := by
  obtain ⟨ao, c, rfl, -, -, hrow⟩ := h
  obtain ⟨n, hn⟩ : ∃ n, n = l.length := ⟨_, rfl⟩
  have HN := hid hn
  have HR := hid hr
  have HROW := hid hrow
  have h256 := right_len hr
  rw [← hn] at h256 ⊢
  have hent := Tryd.entBy
  have HBY := hid byDev_any
  have HI0 := hid (show BinAt w l d u w.heap.size 0 n (w.alloc (.cells #[.int .i64 d, .int .u64 u] 33)) from ⟨below_al _ _, ⟨cell_news 0, cell_news 1⟩, by simp, fun i s _ hi => by omega, fun i s hs hi => by
    have := (List.getElem?_eq_some_iff.1 hs).1
    omega⟩)
  clear hn hr hrow
  go_enter Tryd.func32, Tryd.ntmps32
  go_wp2_with fail
  go_loopw [9, 10, 11] (fun vi vj _ wr => ∃ lo hi : Nat, vi = .int .i64 lo ∧ vj = .int .i64 hi ∧ lo ≤ hi ∧ hi ≤ n ∧ Hid (BinAt w l d u w.heap.size lo hi wr)) (fun vi vj _ _ => (intOf vj).toNat - (intOf vi).toNat)
  case atStart => exact ⟨0, n, rfl, rfl, Nat.zero_le _, Nat.le_refl _, HI0.out⟩
  case round =>
    obtain ⟨lo, hi, rfl, rfl, hlh, hin, HI⟩ := hrel
    have b0 := HI.out.bx.1
    have b1 := HI.out.bx.2
    by_cases hlt : lo < hi
    · obtain ⟨h, hh⟩ : ∃ h, h = (lo + hi) / 2 := ⟨_, rfl⟩
      have hq : ((lo : Int) + (hi : Int)) / 2 = (h : Int) := by omega
      have h1 : lo ≤ h := by omega
      have h2 : h < hi := by omega
      clear hh
      obtain ⟨s, hs⟩ : ∃ s, l[h]? = some s := ⟨_, List.getElem?_eq_getElem (by have := HN.out; omega)⟩
      obtain ⟨g, o, rfl, hg, hc⟩ := (HROW.out.below HI.out.low).resolve_left (fun e => by rw [e] at hs; simp at hs)
      obtain ⟨c0, c1⟩ := hc h s hs
      have hI0 : (0 : Int) ≤ (h : Int) := by omega
      have hI1 : (h : Int) < (n : Int) := by omega
      have HC := hid (HBY.out s.1 d (s.2 : Int) u)
      have HS := hid hs
      obtain ⟨x, y⟩ := s
      simp only at c0 c1 HC
      obtain ⟨r, hr⟩ : ∃ r, r = cmpD x d := ⟨_, rfl⟩
      rw [← hr] at HC
      have HCD := hid hr
      clear hc hs hr
      go_wp2_with fail
      go_region_held2 (fun W => W.cell? ⟨g, o + h * 2, none⟩ = some (.int .i64 x) ∧ W.cell? ⟨g, o + h * 2 + 1, none⟩ = some (.int .u64 (y : Int)) ∧ W.cell? ⟨w.heap.size, 0, none⟩ = some (.int .i64 d) ∧ W.cell? ⟨w.heap.size, 1, none⟩ = some (.int .u64 u)) (first | exact ⟨c0, c1, b0, b1⟩ | exact hS2) (first | (go_at_call 33; refine (HC.out _).mono ?_; rintro en w2 ⟨rfl, hb2⟩; have B2 := hid hb2; have hS2 := And.intro ((hb2.cell (block_oldS c0)).trans c0) (And.intro ((hb2.cell (block_oldS c1)).trans c1) (And.intro ((hb2.cell (block_oldS b0)).trans b0) ((hb2.cell (block_oldS b1)).trans b1))); clear hb2))
      have hS2 := hS2
      have HB2 := hid (undrew B2.out)
      have HBX := hid hS2
      clear hS2
      rcases Int.lt_or_le x d with hx | hx
      · have hr : r = -1 := by rw [HCD.out]; unfold cmpD; rw [if_pos hx]
        subst hr
        have HN2 := hid (show BinAt w l d u w.heap.size (h + 1) hi w2 from ⟨HI.out.low.trans (HB2.out.mono HI.out.low.size), ⟨HBX.out.2.2.1, HBX.out.2.2.2⟩, Nat.lt_of_lt_of_le HI.out.lt HB2.out.size, fun i s hs hi => by
          by_cases q : i = h
          · subst q; rw [HS.out] at hs; cases hs; exact hx
          · have := right_lt HR.out hs HS.out (by omega); simp only at this; omega, HI.out.yes⟩)
        clear hx
        go_wp2
        go_roundw
        case rel => exact ⟨h + 1, hi, by go_num, rfl, by omega, by omega, HN2⟩
        case measure => simp [intOf]; omega
      · have hr : r = 0 ∨ r = 1 := by
          rw [HCD.out]; unfold cmpD
          rw [if_neg (by omega)]
          by_cases q : d < x
          · rw [if_pos q]; exact Or.inr rfl
          · rw [if_neg q]; exact Or.inl rfl
        have HN2 := hid (show BinAt w l d u w.heap.size lo h w2 from ⟨HI.out.low.trans (HB2.out.mono HI.out.low.size), ⟨HBX.out.2.2.1, HBX.out.2.2.2⟩, Nat.lt_of_lt_of_le HI.out.lt HB2.out.size, HI.out.no, fun i s hs hi => by
          by_cases q : i = h
          · subst q; rw [HS.out] at hs; cases hs; simp only; omega
          · have := right_lt HR.out HS.out hs (by omega); simp only at this; omega⟩)
        clear hx
        rcases hr with hr | hr
        all_goals
          subst hr
          go_wp2
          go_roundw
          case rel => exact ⟨lo, h, rfl, by go_num, by omega, by omega, HN2⟩
          case measure => simp [intOf]; omega
    · have he : hi = lo := by omega
      subst he
      have hI : ¬ ((hi : Int) < (hi : Int)) := by omega
      have HLO := hid (lowI_eq (by rw [← HN.out]; exact hin) HI.out.no HI.out.yes)
      have HFD := hid (fnd_at HR.out HI.out.no HI.out.yes)
      by_cases hn : hi < n
      · obtain ⟨s, hs⟩ : ∃ s, l[hi]? = some s := ⟨_, List.getElem?_eq_getElem (by have := HN.out; omega)⟩
        obtain ⟨g, o, rfl, hg, hc⟩ := (HROW.out.below HI.out.low).resolve_left (fun e => by rw [e] at hs; simp at hs)
        obtain ⟨c0, c1⟩ := hc hi s hs
        have hI0 : (0 : Int) ≤ (hi : Int) := by omega
        have hI1 : (hi : Int) < (n : Int) := by omega
        have HC := hid (HBY.out s.1 d (s.2 : Int) u)
        have hfd := HFD.out
        rw [hs] at hfd
        have HS := hid hs
        obtain ⟨x, y⟩ := s
        simp only at c0 c1 HC hfd
        have HFD := hid hfd
        have hxd : ¬ x < d := HI.out.yes hi _ HS.out (Nat.le_refl _)
        obtain ⟨r, hr⟩ : ∃ r, r = cmpD x d := ⟨_, rfl⟩
        rw [← hr] at HC
        have HCD := hid hr
        clear hc hs hr hfd
        go_wp2_with fail
        go_region_held2 (fun W => W.cell? ⟨g, o + hi * 2, none⟩ = some (.int .i64 x) ∧ W.cell? ⟨g, o + hi * 2 + 1, none⟩ = some (.int .u64 (y : Int)) ∧ W.cell? ⟨w.heap.size, 0, none⟩ = some (.int .i64 d) ∧ W.cell? ⟨w.heap.size, 1, none⟩ = some (.int .u64 u)) (first | exact ⟨c0, c1, b0, b1⟩ | exact hS2) (first | (go_at_call 33; refine (HC.out _).mono ?_; rintro en w2 ⟨rfl, hb2⟩; have B2 := hid hb2; have hS2 := And.intro ((hb2.cell (block_oldS c0)).trans c0) (And.intro ((hb2.cell (block_oldS c1)).trans c1) (And.intro ((hb2.cell (block_oldS b0)).trans b0) ((hb2.cell (block_oldS b1)).trans b1))); clear hb2))
        by_cases e : x = d
        · have hr : r = 0 := by rw [HCD.out]; unfold cmpD; rw [if_neg (by omega), if_neg (by omega)]
          subst hr
          have HE := hid (show (fndP l d).2 = true by rw [HFD.out]; exact decide_eq_true e)
          clear e hxd
          go_wp2
          go_ret2
          exact ⟨by rw [HE.out, HLO.out]; rfl, HI.out.low.trans ((undrew B2.out).mono HI.out.low.size)⟩
        · have hr : r = 1 := by rw [HCD.out]; unfold cmpD; rw [if_neg (by omega), if_pos (by omega)]
          subst hr
          have HE := hid (show (fndP l d).2 = false by rw [HFD.out]; exact decide_eq_false e)
          clear e hxd
          go_wp2
          go_ret2
          exact ⟨by rw [HE.out, HLO.out]; rfl, HI.out.low.trans ((undrew B2.out).mono HI.out.low.size)⟩
      · have hn0 : hi = n := by omega
        have hI1 : ¬ (hi : Int) < (n : Int) := by omega
        have hnone : l[hi]? = none := List.getElem?_eq_none (by have := HN.out; omega)
        have hfd := HFD.out
        rw [hnone] at hfd
        have HE := hid hfd
        clear hn0 hnone hfd
        go_wp2_with fail
        go_quiet (fail)
        go_wp2
        go_ret2
        exact ⟨by rw [HE.out, HLO.out]; rfl, below_drewN HI.out.low⟩
theorem find_any {w : World} {v : Value} {l : List St} (h : VecV w v l) (hr : Right l) (d : Int) :
    Calls Tryd.prog 19 #[v, .int .i64 d] w fun e w' => e = .returned (.tuple #[.int .i64 (lowI l d : Nat), .bool (fndP l d).2]) ∧ Below w.heap.size w w' := by
  have HB := hid (Bin_any h hr d 0)
  obtain ⟨ao, c, rfl, -⟩ := h
  obtain ⟨n, hn⟩ : ∃ n, n = l.length := ⟨_, rfl⟩
  rw [← hn] at HB ⊢
  clear hn hr
  go_enter Tryd.func19, Tryd.ntmps19
  go_wp2_with fail
  refine HB.out.mono ?_
  rintro e w1 ⟨rfl, hb⟩
  go_wp2
  go_ret2
  exact ⟨by rfl, hb⟩
end Go.Proofs.YtibbbjikehkbmabDoor.Ve
namespace Go.Proofs.YtibbbjikehkbmabDoor.Ve
open Go.RowKit

set_option maxRecDepth 20000 in
set_option maxHeartbeats 2000000 in
theorem RFind_any {w : World} {v : Value} {l : List St} (h : VecV w v l) (hn : l.length ≤ maxLen) (d : Int) :
    Calls Tryd.prog 25 #[v, .int .i64 d] w fun e w' => e = .returned (.tuple #[.int .u64 ((fndP l d).1 : Nat), .bool (fndP l d).2]) ∧ w' = w := by
  obtain ⟨ao, c, rfl, -, -, hr⟩ := h
  obtain ⟨n, hnn⟩ : ∃ n, n = l.length := ⟨_, rfl⟩
  have HN := hid hnn
  rw [← hnn] at hn ⊢
  have HR := hid hr
  unfold maxLen at hn
  clear hnn hr
  go_enter Tryd.func25, Tryd.ntmps25
  go_wp2_with fail
  go_loopw [6] (fun i wr => ∃ k : Nat, k ≤ n ∧ i = .int .i64 k ∧ wr = w ∧ Hid (∀ i, i < k → ∀ t, l[i]? = some t → t.1 ≠ d)) (fun i _ => n - (intOf i).toNat)
  case atStart => exact ⟨0, Nat.zero_le _, rfl, rfl, fun i hi => absurd hi (Nat.not_lt_zero _)⟩
  case round =>
    obtain ⟨k, hk, rfl, hwr, HA⟩ := hrel
    subst hwr
    by_cases hlt : k < n
    · obtain ⟨⟨x, u⟩, hx⟩ : ∃ x, l[k]? = some x := ⟨_, List.getElem?_eq_getElem (by have := HN.out; omega)⟩
      obtain ⟨g, o, rfl, hg, hc⟩ := HR.out.resolve_left (fun e => by rw [e] at hx; simp at hx)
      obtain ⟨c0, c1⟩ := hc k _ hx
      simp only at c0 c1
      have kI : (k : Int) < (n : Int) := by omega
      have k0 : (0 : Int) ≤ (k : Int) := by omega
      have HX := hid hx
      clear hx hc
      by_cases e : x = d
      · have HE := hid (get_at HA.out HX.out e)
        have eb : (x == d) = true := by rw [beq_iff_eq]; exact e
        clear e
        go_wp2
        go_ret2
        exact ⟨by rw [HE.out]; rfl, rfl⟩
      · have eb : (x == d) = false := by rw [beq_eq_false_iff_ne]; exact e
        have HA2 := hid (show ∀ i, i < k + 1 → ∀ t, l[i]? = some t → t.1 ≠ d from fun i hi t ht => by
          by_cases q : i = k
          · rw [q, HX.out] at ht
            cases ht
            exact e
          · exact HA.out i (by omega) t ht)
        clear e
        go_wp2
        go_roundw
        case rel => exact ⟨k + 1, by omega, by go_num, trivial, HA2⟩
        case measure => simp [intOf]; omega
    · have hkn : k = n := by omega
      have HE := hid (get_no (hkn.trans HN.out) HA.out)
      have kI : ¬ (k : Int) < (n : Int) := by omega
      clear hkn
      go_wp2
      go_ret2
      exact ⟨by rw [HE.out]; rfl, rfl⟩

set_option maxRecDepth 20000 in
set_option maxHeartbeats 4000000 in
theorem RPut_any {w : World} {v : Value} {l : List St} (h : VecV w v l) (hr : Right l) (s : St) :
    Calls Tryd.prog 24 #[v, .agg #[.int .i64 s.1, .int .u64 (s.2 : Int)]] w fun e w' => ∃ v', e = .returned v' ∧ VecV w' v' (putV l s) ∧ Below w.heap.size w w' := by
  obtain ⟨ao, c, rfl, -, -, hrow⟩ := h
  obtain ⟨n, hnn⟩ : ∃ n, n = l.length := ⟨_, rfl⟩
  have HN := hid hnn
  have hn := right_len hr
  rw [← hnn] at hn ⊢
  have HR := hid hr
  obtain ⟨sd, su⟩ := s
  obtain ⟨W0, hW0⟩ : ∃ W0, w.alloc (.cells #[.int .i64 sd, .int .u64 (su : Int)] 33) = W0 := ⟨_, rfl⟩
  have HB0 := hid (show Below w.heap.size w W0 by rw [← hW0]; exact below_al _ _)
  have HROW := hid (hrow.below HB0.out)
  have b0 : W0.cell? ⟨w.heap.size, 0, none⟩ = some (.int .i64 sd) := by rw [← hW0]; exact cell_news 0
  have b1 : W0.cell? ⟨w.heap.size, 1, none⟩ = some (.int .u64 (su : Int)) := by rw [← hW0]; exact cell_news 1
  have hz : w.heap.size < W0.heap.size := by rw [← hW0]; simp
  have HBX := hid (And.intro b0 b1)
  obtain ⟨i0, hi, hz0, hz1, hz2⟩ := info_parts info_stamp
  have HI := hid hi
  have HZ0 := hid hz0
  have HZ1 := hid hz1
  have HZ2 := hid hz2
  have HLEN := hid (fun k => pk_len (s := (sd, su)) (k := k) hr)
  clear hnn hrow b0 b1 hi hz0 hz1 hz2 hr
  go_enter Tryd.func24, Tryd.ntmps24
  go_wp2_with fail
  clear hW0
  go_loopw [5, 6, 7] (fun vo vd vi wr => ∃ (k m : Nat) (a : Option Addr) (c : Nat) (b : Bool), k ≤ n ∧ vi = .int .i64 k ∧ vd = .bool b ∧ vo = .slice a m c ∧ Hid (m = (pk l (sd, su) k).length ∧ b = dn l sd k) ∧ Hid (Below W0.heap.size W0 wr ∧ OwnS wr W0.heap.size (.slice a m c) (pk l (sd, su) k))) (fun _ _ vi _ => n - (intOf vi).toNat)
  case atStart => exact ⟨0, 0, none, 0, false, Nat.zero_le _, rfl, rfl, rfl, ⟨by rw [pk_zero]; rfl, (dn_zero _ _).symm⟩, Below.refl _ _, by rw [pk_zero]; exact World.ownsRow_nil _ _ _ _⟩
  case round =>
    obtain ⟨k, m, a, c1, b, hk, rfl, rfl, rfl, HMB, HIN⟩ := hrel
    by_cases hlt : k < n
    · obtain ⟨⟨x, u⟩, hx⟩ : ∃ x, l[k]? = some x := ⟨_, List.getElem?_eq_getElem (by have := HN.out; omega)⟩
      have HX := hid hx
      have HB := hid HIN.out.1
      obtain ⟨g, o, rfl, hg, hc⟩ := (HROW.out.below HB.out).resolve_left (fun e => by rw [e] at hx; simp at hx)
      obtain ⟨c0, c1'⟩ := hc k _ hx
      simp only at c0 c1'
      have hbx : w.heap.size < W0.heap.size := hz
      have d0 := (HB.out.cell (p := ⟨w.heap.size, 0, none⟩) hbx).trans HBX.out.1
      have d1 := (HB.out.cell (p := ⟨w.heap.size, 1, none⟩) hbx).trans HBX.out.2
      have kI : (k : Int) < (n : Int) := by omega
      have k0 : (0 : Int) ≤ (k : Int) := by omega
      have hm513 : m ≤ 513 := by have := HLEN.out k; have := HMB.out.1; omega
      have HD := hid (fun q => HIN.out.2.at_ HMB.out.1 q)
      have HG := hid hg
      clear hx hc
      rcases bool_two b with hb | hb
      · subst hb
        have hdn := HMB.out.2.symm
        rcases Int.lt_trichotomy x sd with hlx | hlx | hlx
        · have HP := hid (pk_a (s := (sd, su)) HX.out hdn hlx)
          have x1 : ¬ sd ≤ x := by omega
          have x2 : (x != sd) = true := by rw [bne_iff_ne]; omega
          clear hdn hlx
          go_wp2_with fail
          go_quiet (fail)
          go_wp2_with fail
          go_quiet (fail)
          go_wp2_with (first | (at_builtin; refine wpList_append_own_at _ rfl _ _ 23 rfl W0.heap.size 33 i0 (.agg #[.int .i64 0, .int .u64 0]) 2 16 Tryd.underlying23 HI.out HZ0.out HZ1.out HZ2.out rfl (by decide) (.slice a m c1) (m) (flatS (pk l (sd, su) k)) rfl ((HD.out _).alloc _) ⟨wr.heap.size, 0, none⟩ 1 1 [.int .i64 x, .int .u64 (u : Int)] rfl rfl (World.news_of_block (new_0 _ _)) ?c2 ?c3 ?c4 ?c5 ?_))
          case c2 => simp [Value.oneCell']
          case c3 => unfold maxLen; omega
          case c4 => omega
          case c5 => have := HB.out.size; (try have := HB6.out.size); simp; omega
          intro v6 w6 hown6 hgrow6 _ _
          have HNX := hid (HIN.out.2.next' (s := (x, u)) HIN.out.1 HMB.out.1 hown6 hgrow6)
          obtain ⟨a6, c6, rfl⟩ := HNX.out.2.2
          clear hown6 hgrow6
          go_wp2
          go_roundw
          case rel => exact ⟨k + 1, m + 1, a6, c6, false, by omega, by go_num, rfl, rfl, ⟨by rw [HP.out.1, List.length_append, ← HMB.out.1]; rfl, HP.out.2.symm⟩, HNX.out.2.1, by rw [HP.out.1]; exact HNX.out.1⟩
          case measure => simp [intOf]; omega
        · have HP := hid (pk_b (s := (sd, su)) HX.out hdn hlx)
          have x1 : sd ≤ x := by omega
          have x2 : (x != sd) = false := by rw [bne_eq_false_iff_eq]; exact hlx
          clear hdn hlx
          go_wp2_with fail
          go_quiet (fail)
          go_wp2_with (first | (at_builtin; refine wpList_append_own_at _ rfl _ _ 23 rfl W0.heap.size 33 i0 (.agg #[.int .i64 0, .int .u64 0]) 2 16 Tryd.underlying23 HI.out HZ0.out HZ1.out HZ2.out rfl (by decide) (.slice a m c1) (m) (flatS (pk l (sd, su) k)) rfl ((HD.out _).alloc _) ⟨wr.heap.size, 0, none⟩ 1 1 [.int .i64 sd, .int .u64 (su : Int)] rfl rfl (World.news_of_block (new_0 _ _)) ?c2 ?c3 ?c4 ?c5 ?_))
          case c2 => simp [Value.oneCell']
          case c3 => unfold maxLen; omega
          case c4 => omega
          case c5 => have := HB.out.size; (try have := HB6.out.size); simp; omega
          intro v6 w6 hown6 hgrow6 _ _
          have HNX := hid (HIN.out.2.next' (s := (sd, su)) HIN.out.1 HMB.out.1 hown6 hgrow6)
          obtain ⟨a6, c6, rfl⟩ := HNX.out.2.2
          clear hown6 hgrow6
          have d06 := (HNX.out.2.1.cell (p := ⟨w.heap.size, 0, none⟩) hbx).trans HBX.out.1
          have d16 := (HNX.out.2.1.cell (p := ⟨w.heap.size, 1, none⟩) hbx).trans HBX.out.2
          obtain ⟨c06, c16⟩ := (HROW.out.below HNX.out.2.1).at_ HX.out
          simp only at c06 c16
          go_wp2_with fail
          go_quiet (fail)
          go_wp2
          go_roundw
          case rel => exact ⟨k + 1, m + 1, a6, c6, true, by omega, by go_num, rfl, rfl, ⟨by rw [HP.out.1, List.length_append, ← HMB.out.1]; rfl, HP.out.2.symm⟩, below_drewN HNX.out.2.1, by rw [HP.out.1]; exact HNX.out.1.drewN _⟩
          case measure => simp [intOf]; omega
        · have HP := hid (pk_c (s := (sd, su)) HX.out hdn hlx)
          have x1 : sd ≤ x := by omega
          have x2 : (x != sd) = true := by rw [bne_iff_ne]; omega
          clear hdn hlx
          go_wp2_with fail
          go_quiet (fail)
          go_wp2_with (first | (at_builtin; refine wpList_append_own_at _ rfl _ _ 23 rfl W0.heap.size 33 i0 (.agg #[.int .i64 0, .int .u64 0]) 2 16 Tryd.underlying23 HI.out HZ0.out HZ1.out HZ2.out rfl (by decide) (.slice a m c1) (m) (flatS (pk l (sd, su) k)) rfl ((HD.out _).alloc _) ⟨wr.heap.size, 0, none⟩ 1 1 [.int .i64 sd, .int .u64 (su : Int)] rfl rfl (World.news_of_block (new_0 _ _)) ?c2 ?c3 ?c4 ?c5 ?_))
          case c2 => simp [Value.oneCell']
          case c3 => unfold maxLen; omega
          case c4 => omega
          case c5 => have := HB.out.size; (try have := HB6.out.size); simp; omega
          intro v6 w6 hown6 hgrow6 _ _
          have HNX := hid (HIN.out.2.next' (s := (sd, su)) HIN.out.1 HMB.out.1 hown6 hgrow6)
          obtain ⟨a6, c6, rfl⟩ := HNX.out.2.2
          clear hown6 hgrow6
          have d06 := (HNX.out.2.1.cell (p := ⟨w.heap.size, 0, none⟩) hbx).trans HBX.out.1
          have d16 := (HNX.out.2.1.cell (p := ⟨w.heap.size, 1, none⟩) hbx).trans HBX.out.2
          obtain ⟨c06, c16⟩ := (HROW.out.below HNX.out.2.1).at_ HX.out
          simp only at c06 c16
          have HM6 := hid (show m + 1 = (pk l (sd, su) k ++ [(sd, su)]).length by rw [List.length_append, ← HMB.out.1]; rfl)
          have HD6 := hid (fun q => HNX.out.1.at_ HM6.out q)
          have HB6 := hid HNX.out.2.1
          go_wp2_with fail
          go_quiet (fail)
          go_wp2_with (first | (at_builtin; refine wpList_append_own_at _ rfl _ _ 23 rfl W0.heap.size 33 i0 (.agg #[.int .i64 0, .int .u64 0]) 2 16 Tryd.underlying23 HI.out HZ0.out HZ1.out HZ2.out rfl (by decide) (.slice a6 (m + 1) c6) (m + 1) (flatS (pk l (sd, su) k ++ [(sd, su)])) rfl ((HD6.out _).alloc _) ⟨w6.heap.size, 0, none⟩ 1 1 [.int .i64 x, .int .u64 (u : Int)] rfl rfl (World.news_of_block (new_0 _ _)) ?c2 ?c3 ?c4 ?c5 ?_))
          case c2 => simp [Value.oneCell']
          case c3 => unfold maxLen; omega
          case c4 => omega
          case c5 => have := HB.out.size; (try have := HB6.out.size); simp; omega
          intro v7 w7 hown7 hgrow7 _ _
          have HNY := hid (HNX.out.1.next' (s := (x, u)) HNX.out.2.1 HM6.out hown7 hgrow7)
          obtain ⟨a7, c7, rfl⟩ := HNY.out.2.2
          clear hown7 hgrow7
          go_wp2
          go_roundw
          case rel => exact ⟨k + 1, m + 1 + 1, a7, c7, true, by omega, by go_num, rfl, rfl, ⟨by rw [HP.out.1, List.length_append, ← HM6.out]; rfl, HP.out.2.symm⟩, HNY.out.2.1, by rw [HP.out.1]; exact HNY.out.1⟩
          case measure => simp [intOf]; omega
      · subst hb
        have hdn := HMB.out.2.symm
        have hlx := dn_true HR.out HX.out hdn
        have HP := hid (pk_d (s := (sd, su)) HR.out HX.out hdn)
        simp only at hlx
        have x2 : (x != sd) = true := by rw [bne_iff_ne]; omega
        clear hdn hlx
        go_wp2_with fail
        go_quiet (fail)
        go_wp2_with fail
        go_quiet (fail)
        go_wp2_with (first | (at_builtin; refine wpList_append_own_at _ rfl _ _ 23 rfl W0.heap.size 33 i0 (.agg #[.int .i64 0, .int .u64 0]) 2 16 Tryd.underlying23 HI.out HZ0.out HZ1.out HZ2.out rfl (by decide) (.slice a m c1) (m) (flatS (pk l (sd, su) k)) rfl ((HD.out _).alloc _) ⟨wr.heap.size, 0, none⟩ 1 1 [.int .i64 x, .int .u64 (u : Int)] rfl rfl (World.news_of_block (new_0 _ _)) ?c2 ?c3 ?c4 ?c5 ?_))
        case c2 => simp [Value.oneCell']
        case c3 => unfold maxLen; omega
        case c4 => omega
        case c5 => have := HB.out.size; (try have := HB6.out.size); simp; omega
        intro v6 w6 hown6 hgrow6 _ _
        have HNX := hid (HIN.out.2.next' (s := (x, u)) HIN.out.1 HMB.out.1 hown6 hgrow6)
        obtain ⟨a6, c6, rfl⟩ := HNX.out.2.2
        clear hown6 hgrow6
        go_wp2
        go_roundw
        case rel => exact ⟨k + 1, m + 1, a6, c6, true, by omega, by go_num, rfl, rfl, ⟨by rw [HP.out.1, List.length_append, ← HMB.out.1]; rfl, HP.out.2.symm⟩, HNX.out.2.1, by rw [HP.out.1]; exact HNX.out.1⟩
        case measure => simp [intOf]; omega
    · have hkn : k = n := by omega
      have HKN := hid (hkn.trans HN.out)
      have kI : ¬ (k : Int) < (n : Int) := by omega
      have HB := hid HIN.out.1
      have hm513 : m ≤ 513 := by have := HLEN.out k; have := HMB.out.1; omega
      have HD := hid (fun q => HIN.out.2.at_ HMB.out.1 q)
      have hbx : w.heap.size < W0.heap.size := hz
      have d0 := (HB.out.cell (p := ⟨w.heap.size, 0, none⟩) hbx).trans HBX.out.1
      have d1 := (HB.out.cell (p := ⟨w.heap.size, 1, none⟩) hbx).trans HBX.out.2
      have HD0 := hid (HIN.out.2.row HMB.out.1)
      clear hkn
      rcases bool_two b with hb | hb
      · subst hb
        have HP := hid (pk_last HKN.out HMB.out.2.symm (s := (sd, su)))
        go_wp2_with (first | (at_builtin; refine wpList_append_own_at _ rfl _ _ 23 rfl W0.heap.size 33 i0 (.agg #[.int .i64 0, .int .u64 0]) 2 16 Tryd.underlying23 HI.out HZ0.out HZ1.out HZ2.out rfl (by decide) (.slice a m c1) m (flatS (pk l (sd, su) k)) rfl (HD0.out.alloc _) ⟨wr.heap.size, 0, none⟩ 1 1 [.int .i64 sd, .int .u64 (su : Int)] rfl rfl (World.news_of_block (new_0 _ _)) ?c2 ?c3 ?c4 ?c5 ?_))
        case c2 => simp [Value.oneCell']
        case c3 => unfold maxLen; omega
        case c4 => omega
        case c5 => have := HB.out.size; simp; omega
        intro v6 w6 hown6 hgrow6 _ _
        have HNX := hid (OwnS.next (s := (sd, su)) HIN.out.1 HIN.out.1.size HIN.out.2 (by rw [HMB.out.1]) hown6 hgrow6)
        obtain ⟨a6, c6, rfl⟩ := HNX.out.2.2
        clear hown6 hgrow6
        go_wp2
        go_ret
        exact ⟨_, rfl, by rw [← HP.out]; exact HNX.out.1.vec, below_tr HB0.out HNX.out.2.1⟩
      · subst hb
        have HP := hid (pk_end HKN.out HMB.out.2.symm (s := (sd, su)))
        go_wp2
        go_ret
        exact ⟨_, rfl, by rw [← HP.out]; exact HIN.out.2.vec, below_tr HB0.out HB.out⟩
end Go.Proofs.YtibbbjikehkbmabDoor.Ve
namespace Go.Proofs.YtibbbjikehkbmabDoor.Ve
open Go.RowKit

theorem stampNe (d d' u u' : Int) (w : World) : (binOp .neq 33 (.agg #[.int .i64 d, .int .u64 u]) (.agg #[.int .i64 d', .int .u64 u'])).run Tryd.prog w = .ok (.bool (!decide (d = d' ∧ u = u'))) w := by
  by_cases h1 : d = d' <;> by_cases h2 : u = u' <;> simp [go_sem, h1, h2]
theorem stampEq (d d' u u' : Int) (w : World) : (binOp .eql 33 (.agg #[.int .i64 d, .int .u64 u]) (.agg #[.int .i64 d', .int .u64 u'])).run Tryd.prog w = .ok (.bool (decide (d = d' ∧ u = u'))) w := by
  by_cases h1 : d = d' <;> by_cases h2 : u = u' <;> simp [go_sem, h1, h2]
theorem drew_more {w : World} {m : World} (h : ∃ n, m = w.drewN n) {k : Nat} : ∃ n, m.drewN k = w.drewN n := by
  obtain ⟨n, rfl⟩ := h
  exact ⟨_, World.drewN_drewN _ _ _⟩
theorem rows_eq {xs ys : List St} {n : Nat} (h1 : n = xs.length) (h2 : n = ys.length) (h : ∀ i, i < n → xs[i]? = ys[i]?) : xs = ys := by
  apply List.ext_getElem?
  intro i
  by_cases q : i < n
  · exact h i q
  · rw [List.getElem?_eq_none (by omega), List.getElem?_eq_none (by omega)]
theorem st_eq {x y : St} : ((x.1 = y.1 ∧ (x.2 : Int) = (y.2 : Int)) ↔ x = y) := by
  obtain ⟨a, b⟩ := x
  obtain ⟨c, d⟩ := y
  simp only [Prod.mk.injEq]
  omega

set_option maxRecDepth 20000 in
set_option maxHeartbeats 2000000 in
theorem RSame_any {w : World} {v1 v2 : Value} {xs ys : List St} (h1 : VecV w v1 xs) (h2 : VecV w v2 ys) (hn : xs.length ≤ maxLen) (hm : ys.length ≤ maxLen) :
    Calls Tryd.prog 8 #[v1, v2] w fun e w' => e = .returned (.bool (decide (xs = ys))) ∧ ∃ n, w' = w.drewN n := by
  obtain ⟨a1, c1, rfl, -, -, r1⟩ := h1
  obtain ⟨a2, c2, rfl, -, -, r2⟩ := h2
  have HR1 := hid r1
  have HR2 := hid r2
  obtain ⟨n, hnn⟩ : ∃ n, n = xs.length := ⟨_, rfl⟩
  obtain ⟨m, hmm⟩ : ∃ m, m = ys.length := ⟨_, rfl⟩
  have HN := hid hnn
  have HM := hid hmm
  rw [← hnn] at hn ⊢
  rw [← hmm] at hm ⊢
  unfold maxLen at hn hm
  clear r1 r2 hnn hmm
  by_cases hq : n = m
  · subst hq
    have hne : ((n : Int) != (n : Int)) = false := by simp
    go_enter Tryd.func8, Tryd.ntmps8
    go_wp2_with fail
    go_loopw [5] (fun i wr => ∃ k : Nat, k ≤ n ∧ i = .int .i64 k ∧ Hid (∀ i, i < k → xs[i]? = ys[i]?) ∧ Hid (∃ m, wr = w.drewN m)) (fun i _ => n - (intOf i).toNat)
    case atStart => exact ⟨0, Nat.zero_le _, rfl, hid fun i h => absurd h (Nat.not_lt_zero _), hid ⟨0, rfl⟩⟩
    case round =>
      obtain ⟨k, hk, rfl, hA, hB⟩ := hrel
      by_cases hlt : k < n
      · obtain ⟨x, hx⟩ : ∃ x, xs[k]? = some x := ⟨_, List.getElem?_eq_getElem (by have := HN.out; omega)⟩
        obtain ⟨y, hy⟩ : ∃ y, ys[k]? = some y := ⟨_, List.getElem?_eq_getElem (by have := HM.out; omega)⟩
        obtain ⟨g, o, rfl, hg, hc⟩ := HR1.out.resolve_left (fun e => by rw [e] at hx; simp at hx)
        obtain ⟨g', o', rfl, hg', hc'⟩ := HR2.out.resolve_left (fun e => by rw [e] at hy; simp at hy)
        have e0 : wr.heap = w.heap := by obtain ⟨m, hm⟩ := hB.out; rw [hm]; rfl
        obtain ⟨d0, d1⟩ := hc k _ hx
        obtain ⟨d2, d3⟩ := hc' k _ hy
        have y0 := (World.cell?_of_block (w' := wr) (a := ⟨g, o + k * 2, none⟩) (by rw [e0])).trans d0
        have y1 := (World.cell?_of_block (w' := wr) (a := ⟨g, o + k * 2 + 1, none⟩) (by rw [e0])).trans d1
        have y2 := (World.cell?_of_block (w' := wr) (a := ⟨g', o' + k * 2, none⟩) (by rw [e0])).trans d2
        have y3 := (World.cell?_of_block (w' := wr) (a := ⟨g', o' + k * 2 + 1, none⟩) (by rw [e0])).trans d3
        have kI : (k : Int) < (n : Int) := by omega
        have k0 : (0 : Int) ≤ (k : Int) := by omega
        have HX := hid hx
        have HY := hid hy
        have hNE := fun w : World => stampNe x.1 y.1 (x.2 : Int) (y.2 : Int) w
        obtain ⟨a, b⟩ := x
        obtain ⟨a', b'⟩ := y
        simp only at y0 y1 y2 y3 hNE
        clear hx hy hc hc' e0 d0 d1 d2 d3
        by_cases e : (a, b) = (a', b')
        · have HA2 := hid (show ∀ i, i < k + 1 → xs[i]? = ys[i]? from fun i hi => by
            by_cases q : i = k
            · rw [q, HX.out, HY.out, e]
            · exact hA.out i (by omega))
          have e1 : (!decide (a = a' ∧ (b : Int) = (b' : Int))) = false := by rw [decide_eq_true (st_eq.2 e)]; rfl
          simp only [e1] at hNE
          clear e e1
          go_wp2_with fail
          go_quiet (fail)
          go_wp2
          go_roundw
          case rel => exact ⟨k + 1, by omega, by go_num, HA2, hid (drew_more hB.out)⟩
          case measure => simp [intOf]; omega
        · have e1 : (!decide (a = a' ∧ (b : Int) = (b' : Int))) = true := by rw [decide_eq_false (fun q => e (st_eq (x := (a, b)) (y := (a', b')) |>.1 q))]; rfl
          have HE := hid (show decide (xs = ys) = false from decide_eq_false (fun q => e (by
            have h1 := HX.out
            rw [q, HY.out] at h1
            injection h1 with h1
            exact h1.symm)))
          simp only [e1] at hNE
          clear e e1
          go_wp2_with fail
          go_quiet (fail)
          go_wp2
          go_ret
          exact ⟨by rw [HE.out]; rfl, drew_more hB.out⟩
      · have hkn : k = n := by omega
        have HE := hid (show decide (xs = ys) = true from decide_eq_true (rows_eq HN.out HM.out (fun i hi => hA.out i (by omega))))
        go_wp2
        go_ret
        exact ⟨by rw [HE.out]; rfl, hB.out⟩
  · have HE := hid (show decide (xs = ys) = false from decide_eq_false (fun q => hq (by rw [HN.out, HM.out, q])))
    have hne : ((n : Int) != (m : Int)) = true := by rw [bne_iff_ne]; omega
    have hne2 : (n != m) = true := by rw [bne_iff_ne]; exact hq
    go_enter Tryd.func8, Tryd.ntmps8
    go_wp2
    go_ret
    exact ⟨by rw [HE.out]; rfl, 0, rfl⟩
end Go.Proofs.YtibbbjikehkbmabDoor.Ve
namespace Go.Proofs.YtibbbjikehkbmabDoor.Ve
open Go.RowKit

theorem VecV.drew {w w' : World} {v : Value} {l : List St} (h : VecV w v l) (hb : ∃ n, w' = w.drewN n) : VecV w' v l := by
  obtain ⟨n, rfl⟩ := hb
  exact h.below (below_drewN (Below.refl _ _))
theorem drew_below {w w' : World} (hb : ∃ n, w' = w.drewN n) : Below w.heap.size w w' := by
  obtain ⟨n, rfl⟩ := hb
  exact below_drewN (Below.refl _ _)

set_option maxRecDepth 20000 in
set_option maxHeartbeats 4000000 in
theorem RCheck_any {w : World} {v : Value} {ls : List (List St)} (h : VecsV w v ls) (hm : ls.length ≤ maxLen) (hml : ∀ l ∈ ls, l.length ≤ maxLen) :
    Calls Tryd.prog 22 #[v] w fun e w' => e = .returned (.int .i64 (chkN ls)) ∧ ∃ n, w' = w.drewN n := by
  obtain ⟨ao, c, rfl, -, -, hr⟩ := h
  obtain ⟨n, hn⟩ : ∃ n, n = ls.length := ⟨_, rfl⟩
  have HN := hid hn
  rw [← hn] at hm ⊢
  have HR := hid hr
  have HML := hid hml
  unfold maxLen at hm
  clear hn hr hml
  go_enter Tryd.func22, Tryd.ntmps22
  go_wp2_with fail
  go_loopw [3, 4] (fun i _ wr => ∃ k : Nat, k ≤ n ∧ i = .int .i64 k ∧ Hid (∃ m, wr = w.drewN m) ∧ Hid (∀ l ∈ ls.take k, Right l)) (fun i _ _ => n - (intOf i).toNat)
  case atStart => exact ⟨0, Nat.zero_le _, rfl, ⟨0, rfl⟩, fun l hl => by simp at hl⟩
  case round =>
    obtain ⟨k, hk, rfl, HB, HA⟩ := hrel
    by_cases hlt : k < n
    · obtain ⟨l, hl⟩ : ∃ l, ls[k]? = some l := ⟨_, List.getElem?_eq_getElem (by rw [← HN.out]; exact hlt)⟩
      obtain ⟨g, o, rfl, hg, hc⟩ := HR.out.resolve_left (fun e => by rw [e] at hl; simp at hl)
      obtain ⟨vl, hvl, ao, cl, rfl, -, -, hrow⟩ := hc k l hl
      have hll := HML.out l (List.mem_of_getElem? hl)
      obtain ⟨m, hmm⟩ : ∃ m, m = l.length := ⟨_, rfl⟩
      rw [← hmm] at hvl hll
      have HM := hid hmm
      have HL := hid hl
      have HROW := hid hrow
      have HG := hid hg
      have HVL := hid hvl
      have kI : (k : Int) < (n : Int) := by omega
      have k0 : (0 : Int) ≤ (k : Int) := by omega
      unfold maxLen at hll
      rename World => wo
      clear hl hrow hc hmm hg hvl
      go_wp2_with fail
      go_loopw [4] (fun i wr => ∃ j : Nat, j ≤ m ∧ i = .int .i64 j ∧ Hid (∃ m, wr = w.drewN m) ∧ Hid (Right (l.take j))) (fun i _ => m - (intOf i).toNat)
      case atStart => exact ⟨0, Nat.zero_le _, rfl, HB.out, by show Right _; simp; exact right_nil⟩
      case round =>
        obtain ⟨j, hj, rfl, HB2, HA2⟩ := hrel
        have hB2 := drew_below HB2.out
        have hg := HG.out
        have hvl := (hB2.cell (p := ⟨g, o + k, none⟩) HG.out).trans HVL.out
        by_cases hjm : j < m
        · obtain ⟨⟨d, u⟩, hs⟩ : ∃ s, l[j]? = some s := ⟨_, List.getElem?_eq_getElem (by rw [← HM.out]; exact hjm)⟩
          obtain ⟨g', o', rfl, hg', hc'⟩ := (HROW.out.below hB2).resolve_left (fun e => by rw [e] at hs; simp at hs)
          obtain ⟨c0, c1⟩ := hc' j _ hs
          have HTK := hid (right_take hs)
          have HMEM := hid (List.mem_of_getElem? HL.out)
          simp only at c0 c1
          have jI : (j : Int) < (m : Int) := by omega
          have j0 : (0 : Int) ≤ (j : Int) := by omega
          have HD := hid (RDevice_any d)
          clear hB2
          rcases bool_two (devB d) with hd | hd
          · rw [hd] at HD
            have HE := hid (chkN_bad HMEM.out (not_right_of_take (k := j + 1) (fun q => devB_not.1 hd (HTK.out.1 q).2.1)))
            clear hd hs hc'
            go_wp2_with fail
            go_quiet (((go_at_call 23; exact Calls.quiet_of_same (HD.out _))))
            go_wp2
            go_ret
            exact ⟨by rw [HE.out]; rfl, drew_more HB2.out⟩
          · rw [hd] at HD
            have hdv := devB_iff.1 hd
            by_cases hj0 : j = 0
            · have HR2 := hid (show Right (l.take (j + 1)) from HTK.out.2 ⟨HA2.out, hdv, fun p t h => by omega⟩)
              have hjz : decide (0 < j) = false := by rw [hj0]; rfl
              clear hd hs hc' hj0
              go_wp2_with fail
              go_quiet (((go_at_call 23; exact Calls.quiet_of_same (HD.out _))))
              go_wp2
              go_roundw
              case rel => exact ⟨j + 1, by omega, by go_num, drew_more HB2.out, HR2.out⟩
              case measure => simp [intOf]; omega
            · obtain ⟨t, rfl⟩ : ∃ t, j = t + 1 := ⟨j - 1, by omega⟩
              obtain ⟨⟨d', u'⟩, hs'⟩ : ∃ s, l[t]? = some s := ⟨_, List.getElem?_eq_getElem (by have := HM.out; omega)⟩
              obtain ⟨p0, p1⟩ := hc' t _ hs'
              simp only at p0 p1
              have hw1 : IntKind.i64.wrap (((t + 1 : Nat) : Int) - 1) = (t : Int) := by rw [IntKind.wrap_i64]; omega
              have t0 : (0 : Int) ≤ (t : Int) := by omega
              have t1 : (t : Int) < (m : Int) := by omega
              have jp : (0 : Int) < ((t + 1 : Nat) : Int) := by omega
              by_cases hle : d ≤ d'
              · have HE := hid (chkN_bad HMEM.out (not_right_of_take (k := t + 1 + 1) (fun q => by
                  have := (HTK.out.1 q).2.2 t _ rfl hs'
                  simp only at this
                  omega)))
                clear hd hs hc' hs'
                go_wp2_with fail
                go_quiet (((go_at_call 23; exact Calls.quiet_of_same (HD.out _))))
                go_wp2
                go_ret
                exact ⟨by rw [HE.out]; rfl, drew_more HB2.out⟩
              · have HR2 := hid (show Right (l.take (t + 1 + 1)) from HTK.out.2 ⟨HA2.out, hdv, fun p x hp hx => by
                  obtain rfl : t = p := by omega
                  rw [hs'] at hx
                  cases hx
                  show d' < d
                  omega⟩)
                clear hd hs hc' hs'
                go_wp2_with fail
                go_quiet (((go_at_call 23; exact Calls.quiet_of_same (HD.out _))))
                go_wp2
                go_roundw
                case rel => exact ⟨t + 1 + 1, by omega, by go_num, drew_more HB2.out, HR2.out⟩
                case measure => simp [intOf]; omega
        · have hjm' : j = m := by omega
          have HR2 := hid (show ∀ x ∈ ls.take (k + 1), Right x from fun x hx => by
            have e : ls.take (k + 1) = ls.take k ++ [l] := by rw [List.take_add_one, HL.out]; rfl
            rw [e] at hx
            rcases List.mem_append.1 hx with hx | hx
            · exact HA.out x hx
            · rw [List.mem_singleton.1 hx]
              have := HA2.out
              rw [hjm', HM.out, List.take_length] at this
              exact this)
          have jI : ¬ (j : Int) < (m : Int) := by omega
          clear hjm' hB2
          go_wp2
          go_roundw
          case rel => exact ⟨k + 1, by omega, by go_num, HB2.out, HR2.out⟩
          case measure => simp [intOf]; omega
    · have hkn : k = n := by omega
      have kI : ¬ (k : Int) < (n : Int) := by omega
      have HE := hid (chkN_ok (ls := ls) (fun l hl => HA.out l (by rw [hkn, HN.out, List.take_length]; exact hl)))
      clear hkn
      go_wp2
      go_ret
      exact ⟨by rw [HE.out]; rfl, HB.out⟩
end Go.Proofs.YtibbbjikehkbmabDoor.Ve
