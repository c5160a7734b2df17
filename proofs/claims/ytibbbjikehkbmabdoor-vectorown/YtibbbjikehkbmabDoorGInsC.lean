/-
  slices.Insert of a stamp without room; any way.
-/
import Derived.Test.YtibbbjikehkbmabDoorGInsB
import Derived.Laws.NewBlocks
namespace Go.Proofs.YtibbbjikehkbmabDoor.Ve
open Go.RowKit

theorem grown_fresh {w : World} {N : Nat} (hN : w.heap.size ≤ N) {r : Option Nat} : ∀ (vs : List Value) (o : Nat) (W : World), w.grownBy W r → w.grownBy (W.setCells N o vs) r
  | [], _, _, h => h
  | v :: l, o, W, h => grown_fresh hN l (o + 1) _ ⟨h.os, h.tape, h.output, by rw [World.size_setCell]; exact h.size, fun i hi hne => (Below.heap_setCell _ _ _ _ (by show i ≠ N; omega)).trans (h.block i hi hne)⟩

set_option maxRecDepth 20000 in
set_option maxHeartbeats 4000000 in
theorem Insert_grow {w : World} {B g n c k vb : Nat} {ps : List St} {q : St} (hown : w.ownsRow B 33 2 (.slice (some ⟨g, 0, none⟩) n c) n (flatS ps)) (hl : ps.length = n) (hk : k < n) (hroom : c < n + 1) (h60 : n ≤ 4096) (hBw : B ≤ w.heap.size)
    (hv : w.heap[vb]? = some (.cells #[.int .i64 q.1, .int .u64 (q.2 : Int)] 33 (0, 0))) :
    Calls Tryd.prog 20 #[.slice (some ⟨g, 0, none⟩) n c, .int .i64 (k : Int), .slice (some ⟨vb, 0, none⟩) 1 1] w fun e w' => ∃ bo bc, e = .returned (.slice bo (n + 1) bc) ∧ Hid (w'.ownsRow B 33 2 (.slice bo (n + 1) bc) (n + 1) (flatS (ps.take k ++ q :: ps.drop k)) ∧ w.grownBy w' (some g)) := by
  have mixed := mixedV
  obtain ⟨cur, hB, hh, hnc, hm, hs, hcs, hsome⟩ := own_parts hown
  obtain ⟨i0, hi0, hz0, hzs, hzb⟩ := info_parts info_stamp
  have h1c : ∀ u ∈ flatS ps, u.oneCell' = true := flatS_one ps
  have h1v : ∀ u ∈ twoC q, u.oneCell' = true := flatS_one [q]
  have hfl := flatS_len ps
  have hvs : ∀ (j : Nat) (u : Value), (twoC q)[j]? = some u → w.cell? ⟨vb, j, none⟩ = some u := fun j u hj => by rw [cell_at hv]; simpa using hj
  have hgw : g < w.heap.size := lt_of_block hh
  have hvw : vb < w.heap.size := lt_of_block hv
  have hkk : (n : Int) + 1 - (k : Int) = ((n + 1 - k : Nat) : Int) := by omega
  have hik : k + (n + 1 - k) = n + 1 := by omega
  have hold : (Builtin.firstCells i0.size k (.slice (some ⟨g, 0, none⟩) k c)).run Tryd.prog w.drew = .ok ((flatS ps).take (k * 2)).toArray w.drew := by
    rw [hzs]
    exact run_firstCells_some w.drew 2 k ⟨g, 0, none⟩ k c _ (by rw [List.length_take, hfl, hl]; omega) (fun j u hj => by
      rw [addr_addS, Nat.zero_add]
      rw [List.getElem?_take] at hj
      split at hj
      · exact hcs j u hj
      · cases hj)
  have hrz : ∀ ty, (Builtin.append_ #[23, 3] ty #[.slice (some ⟨g, 0, none⟩) k c, .int .i64 ((n : Int) + 1 - (k : Int))]).run Tryd.prog w =
      .ok (.slice (some ⟨w.heap.size, 0, none⟩) (n + 1) (grownCap w (n + 1) c 33)) (w.drew.alloc (.cells (((flatS ps).take (k * 2)).toArray ++ Builtin.zeroCells (Value.agg #[.int .i64 0, .int .u64 0]).cells (n + 1 - k) ++ Builtin.zeroCells (Value.agg #[.int .i64 0, .int .u64 0]).cells (grownCap w (n + 1) c 33 - (n + 1))) 33)) := fun ty => by
    have h := Lib.run_append_grow_zeros w 23 3 ty 33 i0 _ .i64 .i64 Tryd.underlying23 Tryd.underlying3 hi0 hz0 (some ⟨g, 0, none⟩) k c _ hold (n + 1 - k) (by omega) (by omega) (by omega) (by omega) (by rw [hzb]; omega) (by rw [hzb, hik]; exact growslice_fits hroom (by omega))
    rw [hik] at h
    rw [hkk]
    exact h
  obtain ⟨G, hG⟩ : ∃ G, G = grownCap w (n + 1) c 33 := ⟨_, rfl⟩
  obtain ⟨ROW, hROW⟩ : ∃ ROW : Array Value, ROW = ((flatS ps).take (k * 2)).toArray ++ Builtin.zeroCells (Value.agg #[.int .i64 0, .int .u64 0]).cells (n + 1 - k) ++ Builtin.zeroCells (Value.agg #[.int .i64 0, .int .u64 0]).cells (G - (n + 1)) := ⟨_, rfl⟩
  rw [← hG] at hrz
  rw [← hROW] at hrz
  have hGn : n + 1 ≤ G := by rw [hG]; exact grownCap_ge w _ _ _
  have hGm : G ≤ maxLen := by rw [hG]; exact grownCap_le_maxLen w _ _ _ (by unfold maxLen; omega)
  have hzc : (Value.agg #[.int .i64 0, .int .u64 0]).cells.size = 2 := rfl
  have hRs : ROW.size = G * 2 := by
    rw [hROW]
    simp only [Array.size_append, List.size_toArray, List.length_take, hfl, hl, Builtin.zeroCells, Array.size_map, Array.size_range, hzc]
    omega
  obtain ⟨N, hN⟩ : ∃ N, N = w.heap.size := ⟨_, rfl⟩
  obtain ⟨W1, hW1⟩ : ∃ W1, W1 = w.drew.alloc (.cells ROW 33) := ⟨_, rfl⟩
  rw [← hW1] at hrz
  have hb1 : W1.heap[N]? = some (.cells ROW 33 (0, 0)) := by rw [hW1, hN]; exact new_0 w.drew _
  have hOld : ∀ (b : Nat) (x : Obj), w.heap[b]? = some x → W1.heap[b]? = some x := fun b x hx => by rw [hW1]; exact new_old w.drew _ hx
  have hcpA : ∀ (W : World), W.heap = W1.heap → ∀ ty dc, (Builtin.copy_ #[23, 22] ty #[.slice (some ⟨N, k * 2, none⟩) (n + 1 - k) dc, .slice (some ⟨vb, 0, none⟩) 1 1]).run Tryd.prog W = .ok (goInt (Nat.min 1 (n + 1 - k))) (W.setCells N (k * 2) (twoC q)) := fun W hW ty dc =>
    run_copy_wide W _ _ ty 33 2 N (k * 2) (n + 1 - k) dc ⟨vb, 0, none⟩ 1 1 (twoC q) Tryd.underlying23 sizeStampI (by rw [show Nat.min 1 (n + 1 - k) = 1 by simp only [Nat.min_def]; split <;> omega]; rfl)
      (fun j u hj => by
        rw [addr_addS, Nat.zero_add, World.cell?_of_block (w := W1) (by rw [hW]), cell_at (hOld _ _ hv), ← cell_at hv]
        exact hvs j u hj)
      (fun j hj => by
        have : j < 2 := hj
        rw [World.cell?_of_block (w := W1) (by rw [hW]), cell_at hb1, Array.getElem?_eq_getElem (by rw [hRs]; omega)]; rfl) (fun j hj => by rw [World.frozen?_of_block (w := W1) (by rw [hW])]; exact free_of hb1) h1v
  obtain ⟨W2, hW2⟩ : ∃ W2, W2 = W1.setCells N (k * 2) (twoC q) := ⟨_, rfl⟩
  have hb2 : W2.heap[N]? = some (.cells (setAll ROW (k * 2) (twoC q)) 33 (0, 0)) := by rw [hW2]; exact block_setCells _ _ _ _ hb1
  have hgN : g ≠ N := by omega
  have hOld2 : W2.heap[g]? = some (.cells cur 33 (0, 0)) := by
    have hg2 : w.grownBy W2 none := by rw [hW2]; exact grown_fresh (by omega) _ _ _ (by rw [hW1]; exact ⟨rfl, rfl, rfl, by simp, fun i hi _ => Below.heap_alloc w.drew _ _ hi⟩)
    rw [hg2.block g hgw (by simp)]; exact hh
  have hdl : ((flatS ps).drop (k * 2)).length = (n - k) * 2 := by rw [List.length_drop, hfl, hl]; omega
  have hcpB : ∀ (W : World), W.heap = W2.heap → ∀ ty dc sc, (Builtin.copy_ #[23, 23] ty #[.slice (some ⟨N, (k + 1) * 2, none⟩) (n - k) dc, .slice (some ⟨g, k * 2, none⟩) (n - k) sc]).run Tryd.prog W = .ok (goInt (Nat.min (n - k) (n - k))) (W.setCells N ((k + 1) * 2) ((flatS ps).drop (k * 2))) := fun W hW ty dc sc =>
    run_copy_wide W _ _ ty 33 2 N ((k + 1) * 2) (n - k) dc ⟨g, k * 2, none⟩ (n - k) sc _ Tryd.underlying23 sizeStampI (by rw [hdl]; congr 1; simp only [Nat.min_def]; split <;> omega)
      (fun j u hj => by
        rw [addr_addS, World.cell?_of_block (w := W2) (by rw [hW]), cell_at hOld2, ← cell_at hh]
        exact hcs (k * 2 + j) u (by rwa [List.getElem?_drop] at hj))
      (fun j hj => by
        rw [World.cell?_of_block (w := W2) (by rw [hW]), cell_at hb2, Array.getElem?_eq_getElem (by rw [setAll_size, hRs]; omega)]; rfl) (fun j hj => by rw [World.frozen?_of_block (w := W2) (by rw [hW])]; exact free_of hb2) (fun u hu => h1c u (List.mem_of_mem_drop hu))
  have HFIN := hid (show ∀ W : World, W.heap = W2.heap → (W.setCells N ((k + 1) * 2) ((flatS ps).drop (k * 2))).ownsRow B 33 2 (.slice (some ⟨N, 0, none⟩) (n + 1) G) (n + 1) (flatS (ps.take k ++ q :: ps.drop k)) from fun W hW => by
    have hbW : W.heap[N]? = some (.cells (setAll ROW (k * 2) (twoC q)) 33 (0, 0)) := by rw [hW]; exact hb2
    have hb3 := block_setCells ((flatS ps).drop (k * 2)) ((k + 1) * 2) W _ hbW
    refine own_of_cells hb3 (by omega) hGn hGm (by rw [setAll_size, setAll_size, hRs]) (by rw [flatS_len]; simp [hl]; omega) (fun j u hj => ?_)
    have e : flatS (ps.take k ++ q :: ps.drop k) = (flatS ps).take (k * 2) ++ twoC q ++ (flatS ps).drop (k * 2) := by
      rw [flatS_append, flatS_take, List.append_assoc]
      show _ ++ (twoC q ++ flatS (ps.drop k)) = _
      rw [flatS_drop]
    rw [e] at hj
    have htl : ((flatS ps).take (k * 2)).length = k * 2 := by rw [List.length_take, hfl, hl]; omega
    by_cases h1 : j < k * 2
    · rw [World.cell?_setCells_out N _ _ _ _ (fun _ _ => Or.inl (by show j < (k + 1) * 2; omega)), World.cell?_of_block (w := W2) (by rw [hW]), hW2, World.cell?_setCells_out N _ _ _ _ (fun _ _ => Or.inl h1), cell_at hb1, hROW]
      rw [List.append_assoc, List.getElem?_append_left (by omega)] at hj
      rw [Array.append_assoc, Array.getElem?_append_left (by simp [hfl, hl]; omega)]
      simpa using hj
    · by_cases h2 : j < k * 2 + 2
      · have hin := World.cell?_setCells_in N (twoC q) (k * 2) W1 (fun i hi => by
          have : i < 2 := hi
          rw [cell_at hb1, Array.getElem?_eq_getElem (by rw [hRs]; omega)]; rfl) (j - k * 2) (by show j - k * 2 < 2; omega)
        rw [show k * 2 + (j - k * 2) = j by omega] at hin
        rw [World.cell?_setCells_out N _ _ _ _ (fun _ _ => Or.inl (by show j < (k + 1) * 2; omega)), World.cell?_of_block (w := W2) (by rw [hW]), hW2, hin]
        rw [List.getElem?_append_left (by rw [List.length_append, htl]; show j < k * 2 + 2; omega), List.getElem?_append_right (by omega), htl] at hj
        rw [List.getElem?_eq_getElem (by show j - k * 2 < 2; omega)] at hj
        exact hj
      · have hin := World.cell?_setCells_in N ((flatS ps).drop (k * 2)) ((k + 1) * 2) W (fun i hi => by
          rw [cell_at hbW, Array.getElem?_eq_getElem (by rw [setAll_size, hRs]; omega)]; rfl) (j - (k + 1) * 2) (by
          have := (List.getElem?_eq_some_iff.1 hj).1
          simp only [List.length_append, htl, hdl] at this
          have e4 : (twoC q).length = 2 := rfl
          omega)
        rw [show (k + 1) * 2 + (j - (k + 1) * 2) = j by omega] at hin
        rw [hin]
        rw [List.getElem?_append_right (by rw [List.length_append, htl]; show k * 2 + 2 ≤ j; omega), List.length_append, htl, show k * 2 + (twoC q).length = (k + 1) * 2 by show k * 2 + 2 = _; omega] at hj
        rw [List.getElem?_eq_getElem (by rw [hdl]; have := (List.getElem?_eq_some_iff.1 hj).1; rw [hdl] at this; exact this)] at hj
        exact hj)
  have HGR := hid (show ∀ W : World, w.grownBy W (some g) → w.grownBy (W.setCells N ((k + 1) * 2) ((flatS ps).drop (k * 2))) (some g) from fun W hg => grown_fresh (by omega) _ _ _ hg)
  have HG2 := hid (show ∀ W : World, w.grownBy W (some g) → w.grownBy (W.setCells N (k * 2) (twoC q)) (some g) from fun W hg => grown_fresh (by omega) _ _ _ hg)
  have HG1 := hid (show w.grownBy W1 (some g) by rw [hW1]; exact ⟨rfl, rfl, rfl, by simp, fun i hi _ => Below.heap_alloc w.drew _ _ hi⟩)
  have hz2 : ¬ ((k : Int) = (n : Int)) := by omega
  have hz3 : (c : Int) < (n : Int) + 1 := by omega
  have hw1 : IntKind.i64.wrap ((k : Int) + 1) = (k : Int) + 1 := by rw [IntKind.wrap_i64]; omega
  have hb0 : (0 : Int) ≤ (k : Int) + 1 := by omega
  have hin : k ≤ n := by omega
  have htn : ((k : Int) + 1).toNat = k + 1 := by omega
  have hb3 : (k : Int) ≤ (n : Int) := by omega
  have hGi : ¬ (G = k) := by omega
  have hGim : ¬ (G = k + 1) := by omega
  have hci : ¬ (c = k) := by omega
  have hkc : k ≤ c := by omega
  have hcb : (c : Int) ≤ 9223372036854775807 := by unfold maxLen at hm; omega
  have hGb : (G : Int) ≤ 9223372036854775807 := by unfold maxLen at hGm; omega
  subst hN
  subst hW2
  subst hW1
  clear hown hv hh hcs hsome h1c h1v hvs hb1 hb2 hs  hold hROW hG hRs hkk hik hOld hOld2 hi0 hz0 hzs hzb hroom hnc hGn hm hGm hfl hdl hgw hvw hgN
  have hcpA' := hcpA (w.alloc (.cells ROW 33)).drew rfl
  have HCB := hid (show ∀ Wx : World, Wx = (w.alloc (.cells ROW 33)).drew.setCells w.heap.size (k * 2) (twoC q) → _ from fun Wx hx => And.intro (hcpB Wx.drew (by rw [hx]; rfl)) (And.intro (HFIN.out Wx.drew (by rw [hx]; rfl)) (HGR.out Wx.drew (by rw [hx]; have := HG2.out _ HG1.out; exact ⟨this.os, this.tape, this.output, this.size, this.block⟩))))
  clear hcpA hcpB
  go_enter Tryd.func20, Tryd.ntmps20
  go_wp2_with (at_builtin; refine Lib.wpList_append_run _ rfl _ _ _ _ rfl _ _ rfl rfl _ _ (hrz _) ?_)
  generalize hWx : (w.alloc (.cells ROW 33)).drew.setCells w.heap.size (k * 2) (twoC q) = Wx
  obtain ⟨hcpB', hf1, hf2⟩ := HCB.out Wx hWx.symm
  have HF1 := hid hf1
  have HF2 := hid hf2
  clear hWx HCB hf1 hf2 hcpA' hrz HGR HG2 HG1 HFIN
  generalize w.heap.size = N at hcpB' HF1 HF2 ⊢
  go_region_law (refine step_copy_runI rfl _ _ 23 23 rfl (.slice (some ⟨N, (k + 1) * 2, none⟩) (n - k) (G - (k + 1))) (.slice (some ⟨g, k * 2, none⟩) (n - k) (c - k)) (by simp [Act.eval, Act.put]) (by simp [Act.eval, Act.put]) (hcpB' 3 (G - (k + 1)) (c - k)) ?_)
  go_wp2
  go_ret
  exact ⟨_, _, rfl, HF1.out, HF2.out⟩
end Go.Proofs.YtibbbjikehkbmabDoor.Ve
