/-
  place: the place of a rule that must be there.
-/
import Derived.Test.YtemmhingmeinjaaGreatDoorULOrdAnd
import Derived.Laws.NewBlocks
import Derived.Test.YtemmhingmeinjaaGreatDoorVMathAnd
import Derived.Test.YtemmhingmeinjaaGreatDoorVDocLAnd
import Derived.Deep.AppendLies
import Derived.Deep.RegionLaw
namespace Go.Proofs.YtemmhingmeinjaaGreatDoor
open Go.RowKit

theorem grown_fresh {w : World} {N : Nat} (hN : w.heap.size ≤ N) {r : Option Nat} : ∀ (vs : List Value) (o : Nat) (W : World), w.grownBy W r → w.grownBy (W.setCells N o vs) r
  | [], _, _, h => h
  | v :: l, o, W, h => grown_fresh hN l (o + 1) _ ⟨h.os, h.tape, h.output, by rw [World.size_setCell]; exact h.size, fun i hi hne => (Below.heap_setCell _ _ _ _ (by show i ≠ N; omega)).trans (h.block i hi hne)⟩

set_option maxRecDepth 20000 in
set_option maxHeartbeats 4000000 in
theorem Insert_grow {w : World} {B g n c k vb : Nat} {ps : List (Raw × Value)} {q : Raw × Value} (hown : w.ownsRow B 51 4 (.slice (some ⟨g, 0, none⟩) n c) n (flatV ps)) (hl : ps.length = n) (hk : k < n) (hroom : c < n + 1) (h60 : n ≤ 4096) (hBw : B ≤ w.heap.size)
    (hv : w.heap[vb]? = some (.cells #[.int .i64 q.1.prio, .string (tx q.1.mat), .int .i64 q.1.kind, q.2] 51 (0, 0))) (hq : ∃ ao n c, q.2 = .slice ao n c) (hp : ∀ q ∈ ps, ∃ ao n c, q.2 = .slice ao n c) :
    Calls Tryz.prog 121 #[.slice (some ⟨g, 0, none⟩) n c, .int .i64 (k : Int), .slice (some ⟨vb, 0, none⟩) 1 1] w fun e w' => ∃ bo bc, e = .returned (.slice bo (n + 1) bc) ∧ Hid (w'.ownsRow B 51 4 (.slice bo (n + 1) bc) (n + 1) (flatV (ps.take k ++ q :: ps.drop k)) ∧ w.grownBy w' (some g)) := by
  have mixed := Tryz.mixed
  obtain ⟨cur, hB, hh, hnc, hm, hs, hcs, hsome⟩ := own_parts hown
  obtain ⟨i0, hi0, hz0, hzs, hzb⟩ := info_parts Tryz.infoRule4
  have h1c : ∀ u ∈ flatV ps, u.oneCell' = true := flatV_one hp
  have h1v : ∀ u ∈ four q, u.oneCell' = true := flatV_one (rs := [q]) (fun x hx => by rw [List.mem_singleton.1 hx]; exact hq)
  have hfl := flatV_len ps
  have hvs : ∀ (j : Nat) (u : Value), (four q)[j]? = some u → w.cell? ⟨vb, j, none⟩ = some u := fun j u hj => by rw [cell_at hv]; simpa using hj
  have hgw : g < w.heap.size := lt_of_block hh
  have hvw : vb < w.heap.size := lt_of_block hv
  have hkk : (n : Int) + 1 - (k : Int) = ((n + 1 - k : Nat) : Int) := by omega
  have hik : k + (n + 1 - k) = n + 1 := by omega
  have hold : (Builtin.firstCells i0.size k (.slice (some ⟨g, 0, none⟩) k c)).run Tryz.prog w.drew = .ok ((flatV ps).take (k * 4)).toArray w.drew := by
    rw [hzs]
    exact run_firstCells_some w.drew 4 k ⟨g, 0, none⟩ k c _ (by rw [List.length_take, hfl, hl]; omega) (fun j u hj => by
      rw [addr_add5, Nat.zero_add]
      rw [List.getElem?_take] at hj
      split at hj
      · exact hcs j u hj
      · cases hj)
  have hrz : ∀ ty, (Builtin.append_ #[36, 3] ty #[.slice (some ⟨g, 0, none⟩) k c, .int .i64 ((n : Int) + 1 - (k : Int))]).run Tryz.prog w =
      .ok (.slice (some ⟨w.heap.size, 0, none⟩) (n + 1) (grownCap w (n + 1) c 51)) (w.drew.alloc (.cells (((flatV ps).take (k * 4)).toArray ++ Builtin.zeroCells (Value.agg #[.int .i64 0, .string (tx []), .int .i64 0, .slice none 0 0]).cells (n + 1 - k) ++ Builtin.zeroCells (Value.agg #[.int .i64 0, .string (tx []), .int .i64 0, .slice none 0 0]).cells (grownCap w (n + 1) c 51 - (n + 1))) 51)) := fun ty => by
    have h := Lib.run_append_grow_zeros w 36 3 ty 51 i0 _ .i64 .i64 Tryz.underlying36 Tryz.underlying3 hi0 hz0 (some ⟨g, 0, none⟩) k c _ hold (n + 1 - k) (by omega) (by omega) (by omega) (by omega) (by rw [hzb]; omega) (by rw [hzb, hik]; exact growslice_fits hroom (by omega))
    rw [hik] at h
    rw [hkk]
    exact h
  obtain ⟨G, hG⟩ : ∃ G, G = grownCap w (n + 1) c 51 := ⟨_, rfl⟩
  obtain ⟨ROW, hROW⟩ : ∃ ROW : Array Value, ROW = ((flatV ps).take (k * 4)).toArray ++ Builtin.zeroCells (Value.agg #[.int .i64 0, .string (tx []), .int .i64 0, .slice none 0 0]).cells (n + 1 - k) ++ Builtin.zeroCells (Value.agg #[.int .i64 0, .string (tx []), .int .i64 0, .slice none 0 0]).cells (G - (n + 1)) := ⟨_, rfl⟩
  rw [← hG] at hrz
  rw [← hROW] at hrz
  have hGn : n + 1 ≤ G := by rw [hG]; exact grownCap_ge w _ _ _
  have hGm : G ≤ maxLen := by rw [hG]; exact grownCap_le_maxLen w _ _ _ (by unfold maxLen; omega)
  have hzc : (Value.agg #[.int .i64 0, .string (tx []), .int .i64 0, .slice none 0 0]).cells.size = 4 := rfl
  have hRs : ROW.size = G * 4 := by
    rw [hROW]
    simp only [Array.size_append, List.size_toArray, List.length_take, hfl, hl, Builtin.zeroCells, Array.size_map, Array.size_range, hzc]
    omega
  obtain ⟨N, hN⟩ : ∃ N, N = w.heap.size := ⟨_, rfl⟩
  obtain ⟨W1, hW1⟩ : ∃ W1, W1 = w.drew.alloc (.cells ROW 51) := ⟨_, rfl⟩
  rw [← hW1] at hrz
  have hb1 : W1.heap[N]? = some (.cells ROW 51 (0, 0)) := by rw [hW1, hN]; exact new_0 w.drew _
  have hOld : ∀ (b : Nat) (x : Obj), w.heap[b]? = some x → W1.heap[b]? = some x := fun b x hx => by rw [hW1]; exact new_old w.drew _ hx
  have hcpA : ∀ (W : World), W.heap = W1.heap → ∀ ty dc, (Builtin.copy_ #[36, 36] ty #[.slice (some ⟨N, k * 4, none⟩) (n + 1 - k) dc, .slice (some ⟨vb, 0, none⟩) 1 1]).run Tryz.prog W = .ok (goInt (Nat.min 1 (n + 1 - k))) (W.setCells N (k * 4) (four q)) := fun W hW ty dc =>
    run_copy_wide W _ _ ty 51 4 N (k * 4) (n + 1 - k) dc ⟨vb, 0, none⟩ 1 1 (four q) Tryz.underlying36 Tryz.sizeRule (by rw [show Nat.min 1 (n + 1 - k) = 1 by simp only [Nat.min_def]; split <;> omega]; rfl)
      (fun j u hj => by
        rw [addr_add5, Nat.zero_add, World.cell?_of_block (w := W1) (by rw [hW]), cell_at (hOld _ _ hv), ← cell_at hv]
        exact hvs j u hj)
      (fun j hj => by
        have : j < 4 := hj
        rw [World.cell?_of_block (w := W1) (by rw [hW]), cell_at hb1, Array.getElem?_eq_getElem (by rw [hRs]; omega)]; rfl) (fun j hj => by rw [World.frozen?_of_block (w := W1) (by rw [hW])]; exact free_of hb1) h1v
  obtain ⟨W2, hW2⟩ : ∃ W2, W2 = W1.setCells N (k * 4) (four q) := ⟨_, rfl⟩
  have hb2 : W2.heap[N]? = some (.cells (setAll ROW (k * 4) (four q)) 51 (0, 0)) := by rw [hW2]; exact block_setCells _ _ _ _ hb1
  have hgN : g ≠ N := by omega
  have hOld2 : W2.heap[g]? = some (.cells cur 51 (0, 0)) := by
    have hg2 : w.grownBy W2 none := by rw [hW2]; exact grown_fresh (by omega) _ _ _ (by rw [hW1]; exact ⟨rfl, rfl, rfl, by simp, fun i hi _ => heap_old w.drew _ hi⟩)
    rw [hg2.block g hgw (by simp)]; exact hh
  have hdl : ((flatV ps).drop (k * 4)).length = (n - k) * 4 := by rw [List.length_drop, hfl, hl]; omega
  have hcpB : ∀ (W : World), W.heap = W2.heap → ∀ ty dc sc, (Builtin.copy_ #[36, 36] ty #[.slice (some ⟨N, (k + 1) * 4, none⟩) (n - k) dc, .slice (some ⟨g, k * 4, none⟩) (n - k) sc]).run Tryz.prog W = .ok (goInt (Nat.min (n - k) (n - k))) (W.setCells N ((k + 1) * 4) ((flatV ps).drop (k * 4))) := fun W hW ty dc sc =>
    run_copy_wide W _ _ ty 51 4 N ((k + 1) * 4) (n - k) dc ⟨g, k * 4, none⟩ (n - k) sc _ Tryz.underlying36 Tryz.sizeRule (by rw [hdl]; congr 1; simp only [Nat.min_def]; split <;> omega)
      (fun j u hj => by
        rw [addr_add5, World.cell?_of_block (w := W2) (by rw [hW]), cell_at hOld2, ← cell_at hh]
        exact hcs (k * 4 + j) u (by rwa [List.getElem?_drop] at hj))
      (fun j hj => by
        rw [World.cell?_of_block (w := W2) (by rw [hW]), cell_at hb2, Array.getElem?_eq_getElem (by rw [setAll_size, hRs]; omega)]; rfl) (fun j hj => by rw [World.frozen?_of_block (w := W2) (by rw [hW])]; exact free_of hb2) (fun u hu => h1c u (List.mem_of_mem_drop hu))
  have HFIN := hid (show ∀ W : World, W.heap = W2.heap → (W.setCells N ((k + 1) * 4) ((flatV ps).drop (k * 4))).ownsRow B 51 4 (.slice (some ⟨N, 0, none⟩) (n + 1) G) (n + 1) (flatV (ps.take k ++ q :: ps.drop k)) from fun W hW => by
    have hbW : W.heap[N]? = some (.cells (setAll ROW (k * 4) (four q)) 51 (0, 0)) := by rw [hW]; exact hb2
    have hb3 := block_setCells ((flatV ps).drop (k * 4)) ((k + 1) * 4) W _ hbW
    refine own_of_cells hb3 (by omega) hGn hGm (by rw [setAll_size, setAll_size, hRs]) (by rw [flatV_len]; simp [hl]; omega) (fun j u hj => ?_)
    have e : flatV (ps.take k ++ q :: ps.drop k) = (flatV ps).take (k * 4) ++ four q ++ (flatV ps).drop (k * 4) := by
      rw [flatV_append, flatV_take, List.append_assoc]
      show _ ++ (four q ++ flatV (ps.drop k)) = _
      rw [flatV_drop]
    rw [e] at hj
    have htl : ((flatV ps).take (k * 4)).length = k * 4 := by rw [List.length_take, hfl, hl]; omega
    by_cases h1 : j < k * 4
    · rw [World.cell?_setCells_out N _ _ _ _ (fun _ _ => Or.inl (by show j < (k + 1) * 4; omega)), World.cell?_of_block (w := W2) (by rw [hW]), hW2, World.cell?_setCells_out N _ _ _ _ (fun _ _ => Or.inl h1), cell_at hb1, hROW]
      rw [List.append_assoc, List.getElem?_append_left (by omega)] at hj
      rw [Array.append_assoc, Array.getElem?_append_left (by simp [hfl, hl]; omega)]
      simpa using hj
    · by_cases h2 : j < k * 4 + 4
      · have hin := World.cell?_setCells_in N (four q) (k * 4) W1 (fun i hi => by
          have : i < 4 := hi
          rw [cell_at hb1, Array.getElem?_eq_getElem (by rw [hRs]; omega)]; rfl) (j - k * 4) (by show j - k * 4 < 4; omega)
        rw [show k * 4 + (j - k * 4) = j by omega] at hin
        rw [World.cell?_setCells_out N _ _ _ _ (fun _ _ => Or.inl (by show j < (k + 1) * 4; omega)), World.cell?_of_block (w := W2) (by rw [hW]), hW2, hin]
        rw [List.getElem?_append_left (by rw [List.length_append, htl]; show j < k * 4 + 4; omega), List.getElem?_append_right (by omega), htl] at hj
        rw [List.getElem?_eq_getElem (by show j - k * 4 < 4; omega)] at hj
        exact hj
      · have hin := World.cell?_setCells_in N ((flatV ps).drop (k * 4)) ((k + 1) * 4) W (fun i hi => by
          rw [cell_at hbW, Array.getElem?_eq_getElem (by rw [setAll_size, hRs]; omega)]; rfl) (j - (k + 1) * 4) (by
          have := (List.getElem?_eq_some_iff.1 hj).1
          simp only [List.length_append, htl, hdl] at this
          have e4 : (four q).length = 4 := rfl
          omega)
        rw [show (k + 1) * 4 + (j - (k + 1) * 4) = j by omega] at hin
        rw [hin]
        rw [List.getElem?_append_right (by rw [List.length_append, htl]; show k * 4 + 4 ≤ j; omega), List.length_append, htl, show k * 4 + (four q).length = (k + 1) * 4 by show k * 4 + 4 = _; omega] at hj
        rw [List.getElem?_eq_getElem (by rw [hdl]; have := (List.getElem?_eq_some_iff.1 hj).1; rw [hdl] at this; exact this)] at hj
        exact hj)
  have HGR := hid (show ∀ W : World, w.grownBy W (some g) → w.grownBy (W.setCells N ((k + 1) * 4) ((flatV ps).drop (k * 4))) (some g) from fun W hg => grown_fresh (by omega) _ _ _ hg)
  have HG2 := hid (show ∀ W : World, w.grownBy W (some g) → w.grownBy (W.setCells N (k * 4) (four q)) (some g) from fun W hg => grown_fresh (by omega) _ _ _ hg)
  have HG1 := hid (show w.grownBy W1 (some g) by rw [hW1]; exact ⟨rfl, rfl, rfl, by simp, fun i hi _ => heap_old w.drew _ hi⟩)
  have hz2 : ¬ ((k : Int) = (n : Int)) := by omega
  have hz3 : (c : Int) < (n : Int) + 1 := by omega
  have hw1 : IntKind.i64.wrap ((k : Int) + 1) = (k : Int) + 1 := by rw [IntKind.wrap_i64]; omega
  have hb0 : (0 : Int) ≤ (k : Int) + 1 := by omega
  have hin : k ≤ n := by omega
  have htn : ((k : Int) + 1).toNat = k + 1 := by omega
  have hb3 : (k : Int) ≤ (n : Int) := by omega
  have hGi : ¬ (G = k) := by omega
  have hGim : ¬ (G = k + 1) := by omega
  have hci : ¬ (c = k) := by omega
  have hkc : k ≤ c := by omega
  have hcb : (c : Int) ≤ 9223372036854775807 := by unfold maxLen at hm; omega
  have hGb : (G : Int) ≤ 9223372036854775807 := by unfold maxLen at hGm; omega
  subst hN
  subst hW2
  subst hW1
  clear hown hv hh hcs hsome h1c h1v hvs hb1 hb2 hs hq hp hold hROW hG hRs hkk hik hOld hOld2 hi0 hz0 hzs hzb hroom hnc hGn hm hGm hfl hdl hgw hvw hgN
  have hcpA' := hcpA (w.alloc (.cells ROW 51)).drew rfl
  have HCB := hid (show ∀ Wx : World, Wx = (w.alloc (.cells ROW 51)).drew.setCells w.heap.size (k * 4) (four q) → _ from fun Wx hx => And.intro (hcpB Wx.drew (by rw [hx]; rfl)) (And.intro (HFIN.out Wx.drew (by rw [hx]; rfl)) (HGR.out Wx.drew (by rw [hx]; have := HG2.out _ HG1.out; exact ⟨this.os, this.tape, this.output, this.size, this.block⟩))))
  clear hcpA hcpB
  go_enter Tryz.func121, Tryz.ntmps121
  go_wp2_with (at_builtin; refine Lib.wpList_append_run _ rfl _ _ _ _ rfl _ _ rfl rfl _ _ (hrz _) ?_)
  generalize hWx : (w.alloc (.cells ROW 51)).drew.setCells w.heap.size (k * 4) (four q) = Wx
  obtain ⟨hcpB', hf1, hf2⟩ := HCB.out Wx hWx.symm
  have HF1 := hid hf1
  have HF2 := hid hf2
  clear hWx HCB hf1 hf2 hcpA' hrz HGR HG2 HG1 HFIN
  generalize w.heap.size = N at hcpB' HF1 HF2 ⊢
  go_region_law (refine step_copy_runI rfl _ _ 36 36 rfl (.slice (some ⟨N, (k + 1) * 4, none⟩) (n - k) (G - (k + 1))) (.slice (some ⟨g, k * 4, none⟩) (n - k) (c - k)) (by simp [Act.eval, Act.put]) (by simp [Act.eval, Act.put]) (hcpB' 3 (G - (k + 1)) (c - k)) ?_)
  go_wp2
  go_ret
  exact ⟨_, _, rfl, HF1.out, HF2.out⟩
end Go.Proofs.YtemmhingmeinjaaGreatDoor
namespace Go.Proofs.YtemmhingmeinjaaGreatDoor
open Go.RowKit

theorem Tryz.zeroRule : ∀ w, (zeroValue 51).run Tryz.prog w = .ok (.agg #[.int .i64 0, .string (tx []), .int .i64 0, .slice none 0 0]) w := Tryz.zeroValue51

set_option maxRecDepth 100000 in
set_option maxHeartbeats 4000000 in
theorem Delete_one {w : World} {B g n c k : Nat} {ps : List (Raw × Value)} (hown : w.ownsRow B 51 4 (.slice (some ⟨g, 0, none⟩) n c) n (flatV ps)) (hl : ps.length = n) (hk : k < n) (h60 : n ≤ 4096) (hp : ∀ q ∈ ps, ∃ ao n c, q.2 = .slice ao n c) :
    Calls Tryz.prog 124 #[.slice (some ⟨g, 0, none⟩) n c, .int .i64 (k : Int), .int .i64 ((k : Int) + 1)] w fun e w' => e = .returned (.slice (some ⟨g, 0, none⟩) (n - 1) c) ∧ Hid (w'.ownsRow B 51 4 (.slice (some ⟨g, 0, none⟩) (n - 1) c) (n - 1) (flatV (ps.take k ++ ps.drop (k + 1))) ∧ w.grownBy w' (some g)) := by
  have mixed := Tryz.mixed
  obtain ⟨t, ht⟩ : ∃ t, n = k + 1 + t := ⟨n - (k + 1), by omega⟩
  obtain ⟨cur, hB, hh, hnc, hm, hs, hcs, hsome⟩ := own_parts hown
  obtain ⟨i0, hi0, hz0, hzs, hzb⟩ := info_parts Tryz.infoRule4
  have h1c : ∀ u ∈ flatV ps, u.oneCell' = true := flatV_one hp
  have hfl := flatV_len ps
  obtain ⟨news, hnews⟩ : ∃ news, news = (flatV ps).drop ((k + 1) * 4) := ⟨_, rfl⟩
  have hnl : news.length = t * 4 := by rw [hnews, List.length_drop, hfl, hl]; omega
  obtain ⟨W1, hW1⟩ : ∃ W1, W1 = w.drew.setCells g (k * 4) news := ⟨_, rfl⟩
  have hb1 := block_setCells news (k * 4) w.drew cur hh
  rw [← hW1] at hb1
  have hsz1 : (setAll cur (k * 4) news).size = c * 4 := by rw [setAll_size, hs]
  obtain ⟨zc, hzc⟩ : ∃ zc : List Value, zc = [.int .i64 0, .string (tx []), .int .i64 0, .slice none 0 0] := ⟨_, rfl⟩
  have hcl : ∀ (W : World), W.heap = W1.heap → ∀ ty cc, (Builtin.clear_ #[36] ty #[.slice (some ⟨g, (k + t) * 4, none⟩) 1 cc]).run Tryz.prog W = .ok (.tuple #[]) (W.setCells g ((k + t) * 4) zc) := fun W hW ty cc => by
    have := run_clear_wide W 36 51 ty _ Tryz.underlying36 Tryz.zeroRule g ((k + t) * 4) cc (fun j hj => by
      have : j < 4 := hj
      rw [World.cell?_of_block (w := W1) (by rw [hW]), cell_at hb1, Array.getElem?_eq_getElem (by rw [hsz1]; omega)]; rfl) (fun j hj => by rw [World.frozen?_of_block (w := W1) (by rw [hW])]; exact free_of hb1) (by intro v hv; simp [Value.cells] at hv; rcases hv with rfl | rfl | rfl | rfl <;> rfl)
    rw [hzc]
    exact this
  have HFIN := hid (show ∀ W : World, W.heap = W1.heap → (W.setCells g ((k + t) * 4) zc).ownsRow B 51 4 (.slice (some ⟨g, 0, none⟩) (n - 1) c) (n - 1) (flatV (ps.take k ++ ps.drop (k + 1))) from fun W hW => by
    have hbW : W.heap[g]? = some (.cells (setAll cur (k * 4) news) 51 (0, 0)) := by rw [hW]; exact hb1
    have hb3 := block_setCells zc ((k + t) * 4) W _ hbW
    refine own_of_cells hb3 hB (by omega) hm (by rw [setAll_size, hsz1]) (by rw [flatV_len]; simp [hl]; omega) (fun j u hj => ?_)
    have e : flatV (ps.take k ++ ps.drop (k + 1)) = (flatV ps).take (k * 4) ++ news := by rw [flatV_append, flatV_take, flatV_drop, hnews]
    rw [e] at hj
    have htl : ((flatV ps).take (k * 4)).length = k * 4 := by rw [List.length_take, hfl, hl]; omega
    have hjl := (List.getElem?_eq_some_iff.1 hj).1
    rw [List.length_append, htl, hnl] at hjl
    rw [World.cell?_setCells_out g _ _ _ _ (fun _ _ => Or.inl (by show j < (k + t) * 4; omega)), World.cell?_of_block (w := W1) (by rw [hW]), hW1]
    by_cases h1 : j < k * 4
    · rw [World.cell?_setCells_out g _ _ _ _ (fun _ _ => Or.inl (by show j < k * 4; omega))]
      rw [List.getElem?_append_left (by omega), List.getElem?_take, if_pos h1] at hj
      exact hcs j u hj
    · have hin := World.cell?_setCells_in g news (k * 4) w.drew (fun i hi => hsome _ (by omega)) (j - k * 4) (by omega)
      rw [show k * 4 + (j - k * 4) = j by omega] at hin
      rw [hin]
      rw [List.getElem?_append_right (by omega), htl, List.getElem?_eq_getElem (by omega)] at hj
      exact hj)
  have HGR := hid (show ∀ W : World, w.grownBy W (some g) → w.grownBy (W.setCells g ((k + t) * 4) zc) (some g) from fun W hg => grown_two hg (grown_setCells g _ _ _))
  have HG1 := hid (show w.grownBy W1 (some g) by rw [hW1]; exact grown_two (grown_drw w _) (grown_setCells g _ _ _))
  have s1 := hid hnl
  have s2 := hid (show ∀ u ∈ news, u.oneCell' = true from fun u hu => h1c u (by rw [hnews] at hu; exact List.mem_of_mem_drop hu))
  have s3 := hid (show ∀ j, j < news.length → (w.drew.cell? ⟨g, 0 + k * 4 + j, none⟩).isSome = true ∧ w.drew.frozen? ⟨g, 0 + k * 4 + j, none⟩ = false from fun j hj => ⟨hsome _ (by omega), free_of hh⟩)
  have hsrc : ∀ (A : Addr), (t ≠ 0 → A = ⟨g, (k + 1) * 4, none⟩) → ∀ j u, news[j]? = some u → w.drew.cell? (A.add j) = some u := fun A hA j u hj => by
    have ht0 : t ≠ 0 := fun e => by
      have := (List.getElem?_eq_some_iff.1 hj).1
      omega
    rw [hA ht0, addr_add5]
    exact hcs _ u (by rw [hnews, List.getElem?_drop] at hj; exact hj)
  have HSRC := hid hsrc
  have HI0 := hid hi0
  have HZS := hid hzs
  have HC := hid hcl
  have hcb : (c : Int) ≤ 9223372036854775807 := by unfold maxLen at hm; omega
  subst ht
  rw [show k + 1 + t - 1 = k + t by omega] at HFIN ⊢
  clear hown hh hcs hsome h1c hb1 hsz1 hs hp hfl hl hnl hnews hsrc hi0 hz0 hzs hzb hcl hm
  have ha1 : (k : Int) + 1 ≤ (k : Int) + 1 + (t : Int) := by omega
  have ha2 : ¬ ((k : Int) = (k : Int) + 1) := by omega
  have ha3 : (0 : Int) ≤ (k : Int) + 1 := by omega
  have ha4 : ((k : Int) + 1).toNat = k + 1 := by omega
  have ha5 : k + 1 + t - (k + 1) = t := by omega
  have ha6 : k + 1 + t - (k + t) = 1 := by omega
  have ha7 : k ≤ c := by omega
  have ha8 : k + 1 ≤ c := by omega
  subst hW1
  subst hzc
  obtain ⟨A, hA, hAs⟩ : ∃ A : Addr, (if c = k + 1 then some (⟨g, 0, none⟩ : Addr) else some ⟨g, (k + 1) * 4, none⟩) = some A ∧ (t ≠ 0 → A = ⟨g, (k + 1) * 4, none⟩) := by
    by_cases h : c = k + 1
    · exact ⟨⟨g, 0, none⟩, by simp [h], fun h0 => by omega⟩
    · exact ⟨⟨g, (k + 1) * 4, none⟩, by simp [h], fun _ => rfl⟩
  have HAS := hid (HSRC.out A hAs)
  have hcl := HC.out _ rfl
  clear hAs
  go_enter Tryz.func124, Tryz.ntmps124
  go_wp2_with fail
  go_region_law_o (refine step_append_room rfl (.tmp 22) (.tmp 25) 36 rfl 51 i0 4 Tryz.underlying36 HI0.out HZS.out g 0 k c (by simp [Act.eval, Act.put]) A t (c - (k + 1)) news (by simp [Act.eval, Act.put]) s1.out HAS.out s2.out (by omega) s3.out ?_)
  go_wp2
  go_ret
  exact ⟨rfl, HFIN.out _ rfl, HGR.out _ HG1.out⟩
end Go.Proofs.YtemmhingmeinjaaGreatDoor
namespace Go.Proofs.YtemmhingmeinjaaGreatDoor
open Go.RowKit

set_option maxRecDepth 20000 in
set_option maxHeartbeats 2000000 in
theorem copies_some {w : World} {g o n cap : Nat} {ps : List (Raw × Value)} (h : RawView w g o ps) (hn : ps.length = n) (h60 : n ≤ 4096) (hs : ∀ q ∈ ps, Small q.1.mat q.1.ports) :
    Calls Tryz.prog 24 #[.slice (some ⟨g, o, none⟩) n cap] w fun e w' => ∃ ob qs L, Hid (OrdPost w n ps e w' ob qs L) := by
  have HO := hid (Order_some (cap := cap) h hn h60 hs)
  clear h hn hs
  go_enter Tryz.func24, Tryz.ntmps24
  go_wp2_with fail
  refine HO.out.mono ?_
  rintro en w2 ⟨ob, qs, L, hP⟩
  have HP := hid hP.out
  have he := hP.out.told
  subst he
  clear hP
  go_wp2
  go_ret
  exact ⟨ob, qs, L, HP⟩
theorem one_perm {ps : List (Raw × Value)} {q : Raw × Value} (_ : ps = [q]) {L : List Nat} (hL : Pc (cmpAt ps) 0 1 L) : L = [0] := by
  have := hL.perm
  simp at this
  exact this

set_option maxRecDepth 20000 in
set_option maxHeartbeats 2000000 in
theorem fcopyOf_any {w : World} {p k : Int} {m : List UInt8} {v : Value} {zs : List (List UInt8)} (ht : Txs w v zs) (hz : ∀ z ∈ zs, z.length ≤ maxLen) (hs : Small m zs) :
    Calls Tryz.prog 56 #[.agg #[.int .i64 p, .string (tx m), .int .i64 k, v]] w fun e w' => ∃ v', e = .returned (.agg #[.int .i64 p, .string (tx m), .int .i64 k, v']) ∧ Hid (Ported w' w.heap.size v' zs) ∧ Below w.heap.size w w' := by
  have HT := hid ht
  have HZ := hid hz
  have HS := hid hs
  obtain ⟨ao, cap, rfl, _⟩ := ht
  obtain ⟨n, hn⟩ : ∃ n, n = zs.length := ⟨_, rfl⟩
  have HN := hid hn
  rw [← hn] at HT ⊢
  clear hn hz hs
  obtain ⟨q, hq⟩ : ∃ q : Raw × Value, q = (⟨p, m, k, zs⟩, .slice ao n cap) := ⟨_, rfl⟩
  obtain ⟨W0, hW0⟩ : ∃ W0, W0 = ((w.alloc (rob p (tx m) k (.slice ao n cap))).alloc (rob 0 (tx []) 0 (.slice none 0 0))).alloc (rob p (tx m) k (.slice ao n cap)) := ⟨_, rfl⟩
  have HSZ := hid (show W0.heap.size = w.heap.size + 3 by rw [hW0]; simp)
  have HB0 := hid (show Below w.heap.size w W0 by rw [hW0]; exact (((Below.refl _ _).alloc (Nat.le_refl _) _).alloc (by simp) _).alloc (by simp; omega) _)
  have HR2 := hid (show W0.heap[w.heap.size + 1]? = some (rob 0 (tx []) 0 (.slice none 0 0)) by rw [hW0]; exact new_old _ _ (new_1 _ _ _))
  have HR3 := hid (show W0.heap[w.heap.size + 2]? = some (rob p (tx m) k (.slice ao n cap)) by rw [hW0]; have := new_0 ((w.alloc (rob p (tx m) k (.slice ao n cap))).alloc (rob 0 (tx []) 0 (.slice none 0 0))) (rob p (tx m) k (.slice ao n cap)); simpa using this)
  have HCP := hid (copies_some (w := W0) (g := w.heap.size + 2) (o := 0) (n := 1) (cap := 1) (ps := [q]) ⟨by rw [HSZ.out]; omega, fun i x hx => by
      have hi : i = 0 := by
        have := (List.getElem?_eq_some_iff.1 hx).1
        simp at this
        exact this
      subst hi
      have hx : q = x := by simpa using hx
      subst hx
      obtain ⟨b0, b1, b2, b3, _⟩ := rob_cells HR3.out
      rw [hq]
      exact ⟨by simpa using b0, by simpa using b1, by simpa using b2, by simpa using b3⟩, fun x hx => by
      rw [List.mem_singleton.1 hx, hq]
      exact ⟨HT.out.below HB0.out, HZ.out⟩⟩ rfl (by omega) (fun x hx => by rw [List.mem_singleton.1 hx, hq]; exact HS.out))
  go_enter Tryz.func56, Tryz.ntmps56
  go_wp2_with fail
  rw [← hW0]
  refine HCP.out.mono ?_
  rintro en w2 ⟨ob, qs, L, hP⟩
  have HP := hid hP.out
  have he := hP.out.told
  subst he
  have HL := hid (one_perm rfl hP.out.sorted)
  have hlen : qs.length = 1 := by
    have := congrArg List.length hP.out.same
    rw [HL.out] at this
    simpa using this
  obtain ⟨q2, hq2⟩ : ∃ q2, qs = [q2] := by
    match qs, hlen with
    | [q2], _ => exact ⟨q2, rfl⟩
  subst hq2
  have HE := hid (show q2.1 = ⟨p, m, k, zs⟩ by
    have := hP.out.same
    rw [HL.out] at this
    have : q2.1 = rawAt [q] 0 := by simpa using this
    rw [this, rawAt_some (q := q) rfl, hq])
  obtain ⟨c0, c1, c2, c3⟩ := hP.out.view.cell 0 q2 rfl
  rw [HE.out] at c0 c1 c2
  simp only [Nat.zero_mul, Nat.add_zero] at c0 c1 c2 c3
  have HPO := hid (hP.out.own q2 (List.mem_singleton.2 rfl))
  rw [HE.out] at HPO
  obtain ⟨ao2, cap2, hv2, _⟩ := HPO.out
  obtain ⟨q2r, q2v⟩ := q2
  simp only at hv2 c3 HPO HE
  subst hv2
  have HB2 := hid (HB0.out.trans (hP.out.low.mono HB0.out.size))
  have HR5 := hid (below_block hP.out.low HR2.out (by rw [HSZ.out]; omega))
  obtain ⟨d0, d1, d2, d3, f0, f1, f2, f3⟩ := rob_cells HR5.out
  rw [← HN.out] at c3
  clear hP hlen
  have B10 := rob_4 (rob_3 (rob_2 (rob_1 HR5.out p) (tx m)) k) (.slice ao2 n cap2)
  obtain ⟨n0, n1, n2, n3, _, _, _, _⟩ := rob_cells B10
  have HB10 := hid ((((HB2.out.setCell (p := ⟨w.heap.size + 1, 0, none⟩) (Nat.le_succ _) (.int .i64 p)).setCell (p := ⟨w.heap.size + 1, 1, none⟩) (Nat.le_succ _) (.string (tx m))).setCell (p := ⟨w.heap.size + 1, 2, none⟩) (Nat.le_succ _) (.int .i64 k)).setCell (p := ⟨w.heap.size + 1, 3, none⟩) (Nat.le_succ _) (.slice ao2 n cap2))
  have HPF := hid (show Ported ((((w2.setCell ⟨w.heap.size + 1, 0, none⟩ (.int .i64 p)).setCell ⟨w.heap.size + 1, 1, none⟩ (.string (tx m))).setCell ⟨w.heap.size + 1, 2, none⟩ (.int .i64 k)).setCell ⟨w.heap.size + 1, 3, none⟩ (.slice ao2 n cap2)) w.heap.size (.slice ao2 n cap2) zs from by
    have h5 := HR5.out
    have := ((((HPO.out.store (k := 0) (u := .int .i64 p) h5).store (k := 1) (u := .string (tx m)) (rob_1 h5 p)).store (k := 2) (u := .int .i64 k) (rob_2 (rob_1 h5 p) _)).store (k := 3) (u := .slice ao2 n cap2) (rob_3 (rob_2 (rob_1 h5 p) _) k))
    rw [← HN.out] at this
    exact this.mono (by rw [HSZ.out]; omega))
  clear B10
  go_wp2_with fail
  refine bodyPost_ret (v := .agg #[.int .i64 p, .string (tx m), .int .i64 k, .slice ao2 n cap2]) (by simp [results, Tryz.results56, go_sem, n0, n1, n2, n3]) rfl ⟨_, rfl, HPF.out, HB10.out⟩
end Go.Proofs.YtemmhingmeinjaaGreatDoor
namespace Go.Proofs.YtemmhingmeinjaaGreatDoor
open Go.RowKit

abbrev tob (W : Int) (v : Value) (num er : Int) (u : Value) : Obj := .cells #[.int .i64 W, v, .int .i64 num, .int .i64 er, u] 76
def flatC (us : List (Int × Raw × Value)) : List Value := us.flatMap fun u => [.int .i64 u.1, .int .i64 u.2.1.prio, .string (tx u.2.1.mat), .int .i64 u.2.1.kind, u.2.2]
structure TrAt (w : World) (B Bp D : Nat) (W num : Int) (v vu : Value) (ps : List (Raw × Value)) (us : List (Int × Raw × Value)) : Prop where
  blk : w.heap[D]? = some (tob W v num 0 vu)
  base : B ≤ D
  list : OwnR w B v ps
  ports : ∀ q ∈ ps, Ported w Bp q.2 q.1.ports
  und : w.ownsRow B 53 5 vu us.length (flatC us)
  uports : ∀ u ∈ us, Ported w Bp u.2.2 u.2.1.ports
def TrNo (w : World) (D : Nat) (num er : Int) : Prop := ∃ W v u, w.heap[D]? = some (tob W v num er u)
theorem ownC_kept {w w' : World} {B : Nat} {v : Value} {n : Nat} {xs : List Value} (h : w.ownsRow B 53 5 v n xs) (hb : Below w.heap.size w w') : w'.ownsRow B 53 5 v n xs := by
  obtain ⟨h1, h2⟩ := h
  refine ⟨h1, ?_⟩
  rcases h2 with h2 | ⟨g, cap, cur, e, hB, hh, r⟩
  · exact Or.inl h2
  · exact Or.inr ⟨g, cap, cur, e, hB, below_block hb hh (lt_of_block hh), r⟩
theorem TrAt.on {w w' : World} {B Bp D : Nat} {W num : Int} {v vu : Value} {ps : List (Raw × Value)} {us : List (Int × Raw × Value)} (h : TrAt w B Bp D W num v vu ps us) (hb : Below w.heap.size w w') : TrAt w' B Bp D W num v vu ps us :=
  ⟨below_block hb h.blk (lt_of_block h.blk), h.base, h.list.on hb, fun q hq => (h.ports q hq).on hb, ownC_kept h.und hb, fun u hu => (h.uports u hu).on hb⟩
theorem TrAt.lt {w : World} {B Bp D : Nat} {W num : Int} {v vu : Value} {ps : List (Raw × Value)} {us : List (Int × Raw × Value)} (h : TrAt w B Bp D W num v vu ps us) : D < w.heap.size := lt_of_block h.blk
theorem TrAt.cells {w : World} {B Bp D : Nat} {W num : Int} {v vu : Value} {ps : List (Raw × Value)} {us : List (Int × Raw × Value)} (h : TrAt w B Bp D W num v vu ps us) : w.cell? ⟨D, 0, none⟩ = some (.int .i64 W) ∧ w.cell? ⟨D, 1, none⟩ = some v ∧ w.cell? ⟨D, 2, none⟩ = some (.int .i64 num) ∧ w.cell? ⟨D, 3, none⟩ = some (.int .i64 0) ∧ w.cell? ⟨D, 4, none⟩ = some vu := by
  refine ⟨?_, ?_, ?_, ?_, ?_⟩ <;> · rw [cell_at h.blk]; rfl

set_option maxHeartbeats 1000000 in
theorem must_yes {w : World} {D : Nat} {er : Int} : Calls Tryz.prog 87 #[.pointer (some ⟨D, 0, none⟩), .bool true, .int .i64 er] w fun e w' => e = .returned (.tuple #[]) ∧ w' = w := by
  go_enter Tryz.func87, Tryz.ntmps87
  go_wp2
  exact bodyPost_end (v := .tuple #[]) (by simp [results, Tryz.results87, go_sem]) rfl ⟨rfl, rfl⟩
set_option maxHeartbeats 1000000 in
theorem must_no {w : World} {D : Nat} {W num e0 er : Int} {v u : Value} (h : w.heap[D]? = some (tob W v num e0 u)) : Calls Tryz.prog 87 #[.pointer (some ⟨D, 0, none⟩), .bool false, .int .i64 er] w fun e w' => e = .panicked (panE er) ∧ w' = w.setCell ⟨D, 3, none⟩ (.int .i64 er) := by
  have c3 : w.cell? ⟨D, 3, none⟩ = some (.int .i64 e0) := by rw [cell_at h]; rfl
  have f3 : w.frozen? ⟨D, 3, none⟩ = false := free_of h
  clear h
  go_enter Tryz.func87, Tryz.ntmps87
  go_wp2
  exact ⟨rfl, rfl, rfl⟩
def MustPost (w : World) (B D : Nat) (num : Int) (ok : Bool) (er : Int) (e : Ending) (w' : World) : Prop := (ok = true ∧ e = .returned (.tuple #[]) ∧ w' = w) ∨ (ok = false ∧ e = .panicked (panE er) ∧ TrNo w' D num er ∧ Below B w w')
theorem must_any {w : World} {B D : Nat} {W num e0 er : Int} {v u : Value} (ok : Bool) (h : w.heap[D]? = some (tob W v num e0 u)) (hB : B ≤ D) : Calls Tryz.prog 87 #[.pointer (some ⟨D, 0, none⟩), .bool ok, .int .i64 er] w fun e w' => MustPost w B D num ok er e w' := by
  cases ok with
  | true => exact must_yes.mono fun _ _ q => Or.inl ⟨rfl, q.1, q.2⟩
  | false => exact (must_no h).mono fun _ _ q => Or.inr ⟨rfl, q.1, ⟨W, v, u, by rw [q.2, block_set (o := 3) _ h]; rfl⟩, by rw [q.2]; exact (Below.refl _ _).setCell hB _⟩

set_option maxRecDepth 20000 in
set_option maxHeartbeats 2000000 in
theorem lcheck_any {w : World} {B Bp D : Nat} {W num p k : Int} {m : List UInt8} {v vu rv : Value} {zs : List (List UInt8)} {ps : List (Raw × Value)} {us : List (Int × Raw × Value)} (h : TrAt w B Bp D W num v vu ps us) (hB : B ≤ w.heap.size) (ht : Txs w rv zs) (hz : ∀ p ∈ zs, p.length ≤ maxLen) :
    Calls Tryz.prog 119 #[.pointer (some ⟨D, 0, none⟩), .agg #[.int .i64 p, .string (tx m), .int .i64 k, rv]] w fun e w' => (errR W ⟨p, m, k, zs⟩ = 0 ∧ e = .returned (.tuple #[]) ∧ Below w.heap.size w w') ∨ (errR W ⟨p, m, k, zs⟩ ≠ 0 ∧ e = .panicked (panE (errR W ⟨p, m, k, zs⟩)) ∧ TrNo w' D num (errR W ⟨p, m, k, zs⟩) ∧ Below B w w') := by
  have HT := hid ht
  have H := hid h
  obtain ⟨ao, cap, rfl, _⟩ := ht
  obtain ⟨n, hn⟩ : ∃ n, n = zs.length := ⟨_, rfl⟩
  have HN := hid hn
  have HC := hid (fun (W' : World) (hW : Below w.heap.size w W') => CheckN_any (W := W) (p := p) (k := k) (m := m) (HT.out.below hW) hz)
  obtain ⟨er, her⟩ : ∃ er, er = errR W ⟨p, m, k, zs⟩ := ⟨_, rfl⟩
  rw [← her] at HC ⊢
  rw [← hn] at HC ⊢
  have HER := hid her
  have HB := hid (show Below w.heap.size w (w.alloc (rob p (tx m) k (.slice ao n cap))) from (Below.refl _ _).alloc (Nat.le_refl _) _)
  have HTA := hid (h.on HB.out)
  have c0 : (w.alloc (rob p (tx m) k (.slice ao n cap))).cell? ⟨D, 0, none⟩ = some (.int .i64 W) := HTA.out.cells.1
  obtain ⟨b0, b1, b2, b3, _, _, _, _⟩ := rob_cells (new_0 w (rob p (tx m) k (.slice ao n cap)))
  have HO := hid (new_0 w (rob p (tx m) k (.slice ao n cap)))
  clear hn her hz h
  go_enter Tryz.func119, Tryz.ntmps119
  go_wp2_with fail
  go_region_held2 (fun W' => W'.cell? ⟨D, 0, none⟩ = some (.int .i64 W) ∧ W'.cell? ⟨w.heap.size, 0, none⟩ = some (.int .i64 p) ∧ W'.cell? ⟨w.heap.size, 1, none⟩ = some (.string (tx m)) ∧ W'.cell? ⟨w.heap.size, 2, none⟩ = some (.int .i64 k) ∧ W'.cell? ⟨w.heap.size, 3, none⟩ = some (.slice ao n cap)) (first | exact ⟨c0, b0, b1, b2, b3⟩ | exact hS2) (first | (go_at_call 32; refine (HC.out _ (by first | exact HB.out | exact HB.out.drew)).mono ?_; rintro en w2 ⟨rfl, hb2⟩; have B2 := hid (show Below (w.alloc (rob p (tx m) k (.slice ao n cap))).heap.size (w.alloc (rob p (tx m) k (.slice ao n cap))) w2 by (first | exact hb2 | exact undrew hb2)); have hS2 := And.intro ((B2.out.cell (block_old c0)).trans c0) (And.intro ((B2.out.cell (block_old b0)).trans b0) (And.intro ((B2.out.cell (block_old b1)).trans b1) (And.intro ((B2.out.cell (block_old b2)).trans b2) ((B2.out.cell (block_old b3)).trans b3)))); clear hb2))
  have HT2 := hid (HTA.out.on B2.out)
  have HB2 := hid (below_2 HB.out B2.out)
  have HMU := hid (must_any (B := B) (D := D) (num := num) (er := er) (er == 0) HT2.out.blk HT2.out.base)
  clear hS2 c0 b0 b1 b2 b3
  go_wp2_with fail
  refine HMU.out.mono ?_
  rintro en w3 (⟨h1, rfl, hw3⟩ | ⟨h1, rfl, h2, h3⟩)
  · have hw3' := hw3.symm
    clear hw3
    subst hw3'
    go_wp2
    refine bodyPost_end (v := .tuple #[]) (by simp [results, Tryz.results119, go_sem]) rfl (Or.inl ⟨by simpa using h1, rfl, HB2.out⟩)
  · exact ⟨rfl, Or.inr ⟨by simpa using h1, rfl, h2, (HB2.out.mono hB).trans h3⟩⟩
end Go.Proofs.YtemmhingmeinjaaGreatDoor
namespace Go.Proofs.YtemmhingmeinjaaGreatDoor
open Go.RowKit

structure KeepT (w w' : World) : Prop where
  size : w.heap.size ≤ w'.heap.size
  kept : ∀ (b : Nat) (cs : Array Value) (t : TypeId) (r : Nat × Nat), w.heap[b]? = some (.cells cs t r) → t ≠ 76 → t ≠ 53 → w'.heap[b]? = some (.cells cs t r)
theorem OwnR.keep {w w' : World} {B : Nat} {v : Value} {ps : List (Raw × Value)} (h : OwnR w B v ps) (hk : KeepT w w') : OwnR w' B v ps := by
  refine ⟨⟨h.own.1, ?_⟩, h.vals⟩
  rcases h.own.2 with q | ⟨g, cap, cur, e, hB, hh, r⟩
  · exact Or.inl q
  · exact Or.inr ⟨g, cap, cur, e, hB, hk.kept _ _ _ _ hh (by decide) (by decide), r⟩
theorem Ported.keep {w w' : World} {B : Nat} {v : Value} {zs : List (List UInt8)} (h : Ported w B v zs) (hk : KeepT w w') : Ported w' B v zs := by
  obtain ⟨ao, cap, e1, e2, q | ⟨b, e3, e4, cs, e5, e6⟩⟩ := h
  · exact ⟨ao, cap, e1, e2, Or.inl q⟩
  · exact ⟨ao, cap, e1, e2, Or.inr ⟨b, e3, e4, cs, hk.kept _ _ _ _ e5 (by decide) (by decide), e6⟩⟩
theorem undrewG {w w1 : World} {r : Option Nat} (h : w.drew.grownBy w1 r) : w.grownBy w1 r := ⟨h.os, h.tape, h.output, h.size, h.block⟩
theorem Tryz.infoChange : (Tryz.prog.info? 53).map (fun i => (i.zero, i.size, i.bytes)) = some (some (.agg #[.int .i64 0, .int .i64 0, .string (tx []), .int .i64 0, .slice none 0 0]), 5, 64) := by kernel_rfl
theorem ownC_form {w : World} {B : Nat} {v : Value} {n : Nat} {xs : List Value} (h : w.ownsRow B 53 5 v n xs) : ∃ ao c, v = .slice ao n c := by
  rcases h.2 with ⟨e, h0⟩ | ⟨g, cap, cur, e, _⟩
  · exact ⟨none, 0, by rw [e, h0]⟩
  · exact ⟨_, _, e⟩
theorem own_blockC {w : World} {B : Nat} {v : Value} {n : Nat} {xs : List Value} (h : w.ownsRow B 53 5 v n xs) : ∀ k, v.ownBlock = some k → B ≤ k ∧ ∃ cs, w.heap[k]? = some (.cells cs 53 (0, 0)) := by
  intro k hk
  rcases h.2 with ⟨e, h0⟩ | ⟨g, cap, cur, e, hB, hh, _⟩
  · rw [e] at hk; cases hk
  · rw [e] at hk
    have : g = k := by simpa [Value.ownBlock] using hk
    subst this
    exact ⟨hB, cur, hh⟩

set_option maxRecDepth 20000 in
set_option maxHeartbeats 4000000 in
theorem undoneBy_any {w : World} {B Bp D : Nat} {W num k : Int} {v vu rv : Value} {r : Raw} {ps : List (Raw × Value)} {us : List (Int × Raw × Value)} (h : TrAt w B Bp D W num v vu ps us) (hB : B ≤ w.heap.size) (hu : (us.length + 1) * 64 ≤ 140737488355328) (hp : Ported w Bp rv r.ports) :
    Calls Tryz.prog 122 #[.pointer (some ⟨D, 0, none⟩), .int .i64 k, .agg #[.int .i64 r.prio, .string (tx r.mat), .int .i64 r.kind, rv]] w fun e w' => e = .returned (.tuple #[]) ∧ ∃ vu', Hid (TrAt w' B Bp D W num v vu' ps (us ++ [(k, r, rv)]) ∧ KeepT w w' ∧ Below B w w') := by
  have mixed := Tryz.mixed
  have H := hid h
  have HP := hid hp
  obtain ⟨ao, c, hvu⟩ := ownC_form h.und
  obtain ⟨po, pc, hrv, _⟩ := hp
  obtain ⟨zn, hzn⟩ : ∃ zn, zn = r.ports.length := ⟨_, rfl⟩
  have HZN := hid hzn
  rw [← hzn] at hrv
  subst hvu hrv
  obtain ⟨un, hun⟩ : ∃ un, un = us.length := ⟨_, rfl⟩
  have HUN := hid hun
  rw [← hun] at hu H
  obtain ⟨p, m, kk, zs⟩ := r
  simp only at HP HZN ⊢
  obtain ⟨i0, hi, hz0, hz1, hz2⟩ := info_parts Tryz.infoChange
  have HI := hid hi
  have HZ0 := hid hz0
  have HZ1 := hid hz1
  have HZ2 := hid hz2
  have HDB := hid (new_old w (rob p (tx m) kk (.slice po zn pc)) H.out.blk)
  have hDs := lt_of_block H.out.blk
  obtain ⟨W1, hW1⟩ : ∃ W1, W1 = w.alloc (rob p (tx m) kk (.slice po zn pc)) := ⟨_, rfl⟩
  have HB1 := hid (show Below w.heap.size w W1 by rw [hW1]; exact (Below.refl _ _).alloc (Nat.le_refl _) _)
  have HH := hid (H.out.on HB1.out)
  have c4 : W1.cell? ⟨D, 4, none⟩ = some (.slice ao un c) := HH.out.cells.2.2.2.2
  have HRB := hid (show W1.heap[w.heap.size]? = some (rob p (tx m) kk (.slice po zn pc)) by rw [hW1]; exact new_0 _ _)
  obtain ⟨b0, b1, b2, b3, _, _, _, _⟩ := rob_cells HRB.out
  have HSZ1 := hid (show W1.heap.size = w.heap.size + 1 by rw [hW1]; simp)
  -- the block of the new change
  obtain ⟨nb, hnb⟩ : ∃ nb : Obj, nb = .cells #[.int .i64 k, .int .i64 p, .string (tx m), .int .i64 kk, .slice po zn pc] 53 := ⟨_, rfl⟩
  have HOWN := hid (show (W1.alloc nb).ownsRow B 53 5 (.slice ao un c) un (flatC us) from ownC_kept (HUN.out ▸ HH.out.und) ((Below.refl _ _).alloc (Nat.le_refl _) _))
  have HNEW := hid (show (W1.alloc nb).heap[w.heap.size + 1]? = some (.cells #[.int .i64 k, .int .i64 p, .string (tx m), .int .i64 kk, .slice po zn pc] 53 (0, 0)) by rw [hW1, ← hnb]; exact new_1 _ _ _)
  have KT := hid (show ∀ w4, (W1.alloc nb).grownBy w4 (Value.slice ao un c).ownBlock → w4.heap[D]? = some (tob W v num 0 (.slice ao un c)) ∧ KeepT w w4 ∧ Below B w w4 from fun w4 hg => by
    have hob := own_blockC HOWN.out
    have hne : some D ≠ (Value.slice ao un c).ownBlock := fun e => by
      obtain ⟨_, cs, hcs⟩ := hob D e.symm
      have h1 := new_old W1 nb HH.out.blk
      rw [h1] at hcs
      cases hcs
    have hs1 : w.heap.size ≤ (W1.alloc nb).heap.size := by simp [HSZ1.out]; omega
    refine ⟨?_, ⟨Nat.le_trans hs1 hg.size, fun b cs t r hb h1 h2 => ?_⟩, ?_⟩
    · rw [hg.block D (by have := lt_of_block H.out.blk; omega) hne]
      exact new_old W1 nb HH.out.blk
    · have hb1 := new_old W1 nb (below_block HB1.out hb (lt_of_block hb))
      rw [hg.block b (lt_of_block hb1) (fun e => by
        obtain ⟨_, cs', hcs⟩ := hob b e.symm
        rw [hb1] at hcs
        cases hcs
        exact h2 rfl)]
      exact hb1
    · exact ((HB1.out.mono hB).alloc (by rw [HSZ1.out]; omega) _).grown hg (by simp [HSZ1.out]; omega) (fun q hq => (hob q hq).1))
  have HFIN := hid (show ∀ (g cap : Nat) (w4 : World), w4.ownsRow B 53 5 (.slice (some ⟨g, 0, none⟩) (un + 1) cap) (un + 1) (flatC us ++ [.int .i64 k, .int .i64 p, .string (tx m), .int .i64 kk, .slice po zn pc]) → (W1.alloc nb).grownBy w4 (Value.slice ao un c).ownBlock → TrAt (w4.setCell ⟨D, 4, none⟩ (.slice (some ⟨g, 0, none⟩) (un + 1) cap)) B Bp D W num v (.slice (some ⟨g, 0, none⟩) (un + 1) cap) ps (us ++ [(k, ⟨p, m, kk, zs⟩, .slice po zn pc)]) ∧ KeepT w (w4.setCell ⟨D, 4, none⟩ (.slice (some ⟨g, 0, none⟩) (un + 1) cap)) ∧ Below B w (w4.setCell ⟨D, 4, none⟩ (.slice (some ⟨g, 0, none⟩) (un + 1) cap)) from fun g cap w4 ho hg => by
    obtain ⟨k1, k2, k3⟩ := KT.out w4 hg
    have hk : KeepT w (w4.setCell ⟨D, 4, none⟩ (.slice (some ⟨g, 0, none⟩) (un + 1) cap)) := ⟨by rw [World.size_setCell]; exact k2.size, fun b cs t r hb h1 h2 => block_other _ (k2.kept b cs t r hb h1 h2) (fun e => by
      rw [e, H.out.blk] at hb
      cases hb
      exact h1 rfl)⟩
    have hgD : g ≠ D := fun e => by
      rcases ho.2 with ⟨q, _⟩ | ⟨g', _, cur, q, _, hh, _⟩
      · cases q
      · injection q with q1 _ _
        injection q1 with q1
        injection q1 with q1 _ _
        rw [← q1, e, k1] at hh
        cases hh
    refine ⟨⟨by rw [block_set (o := 4) _ k1]; rfl, H.out.base, H.out.list.keep hk, fun q hq => (H.out.ports q hq).keep hk, ?_, fun u hu => ?_⟩, hk, k3.setCell (by exact H.out.base) _⟩
    · have e : flatC (us ++ [(k, (⟨p, m, kk, zs⟩ : Raw), Value.slice po zn pc)]) = flatC us ++ [.int .i64 k, .int .i64 p, .string (tx m), .int .i64 kk, .slice po zn pc] := by simp [flatC]
      rw [e, List.length_append, List.length_singleton, ← HUN.out]
      refine ⟨ho.1, ?_⟩
      rcases ho.2 with q | ⟨g', cap', cur, q, hB', hh, r⟩
      · exact Or.inl q
      · refine Or.inr ⟨g', cap', cur, q, hB', block_other _ hh ?_, r⟩
        injection q with q1 _ _
        injection q1 with q1
        injection q1 with q1 _ _
        rw [← q1]; exact hgD
    · rcases List.mem_append.1 hu with hu | hu
      · exact (H.out.uports u hu).keep hk
      · rw [List.mem_singleton.1 hu]
        exact HP.out.keep hk)
  clear h hi hz0 hz1 hz2 hun hzn
  go_enter Tryz.func122, Tryz.ntmps122
  go_wp2_with fail
  subst hW1
  subst hnb
  go_region_law (first | (refine step_append_lies _ rfl (.tmp 10) (.tmp 14) 22 rfl B 53 i0 _ 5 64 Tryz.underlying22 HI.out HZ0.out HZ1.out HZ2.out rfl (by decide) (.slice ao un c) un (flatC us) rfl (by exact HOWN.out) ⟨w.heap.size + 1, 0, none⟩ 1 1 [.int .i64 k, .int .i64 p, .string (tx m), .int .i64 kk, .slice po zn pc] rfl rfl (by exact World.news_of_block HNEW.out) (by simp [Value.oneCell']) (by decide) (by unfold maxLen; omega) (by omega) (by simp; omega) _ rfl ?_; intro g4 cap4 w4 hown4 hgrow0 hat4 hlt4; have hgrow4 := undrewG hgrow0; have HF4 := hid (HFIN.out g4 cap4 w4 hown4 hgrow4); have q4 : w4.cell? ⟨D, 4, none⟩ = some (.slice ao un c) := (by rw [cell_at (KT.out w4 hgrow4).1]; rfl); have f4 : w4.frozen? ⟨D, 4, none⟩ = false := free_of (KT.out w4 hgrow4).1; clear hown4 hgrow4 hgrow0 hat4 hlt4))
  all_goals go_wp2
  all_goals exact bodyPost_end (v := .tuple #[]) (by simp [results, Tryz.results122, go_sem]) rfl ⟨rfl, _, HF4⟩
end Go.Proofs.YtemmhingmeinjaaGreatDoor
namespace Go.Proofs.YtemmhingmeinjaaGreatDoor
open Go.RowKit

def placeE (W : Int) (L : List Raw) (r : Raw) : Int := if errR W r = 0 then (if L.any (fun a => keyB a r) = true then 0 else 60) else errR W r

set_option maxRecDepth 20000 in
set_option maxHeartbeats 4000000 in
theorem place_any {w : World} {B Bp D : Nat} {W num p k : Int} {m : List UInt8} {v vu rv : Value} {zs : List (List UInt8)} {ps : List (Raw × Value)} {us : List (Int × Raw × Value)} (h : TrAt w B Bp D W num v vu ps us) (hB : B ≤ w.heap.size) (hg : GoodT W (ps.map Prod.fst)) (ht : Txs w rv zs) (hz : ∀ p ∈ zs, p.length ≤ maxLen) :
    Calls Tryz.prog 123 #[.pointer (some ⟨D, 0, none⟩), .agg #[.int .i64 p, .string (tx m), .int .i64 k, rv]] w fun e w' => (placeE W (ps.map Prod.fst) ⟨p, m, k, zs⟩ = 0 ∧ ∃ j : Nat, e = .returned (.int .i64 (j : Int)) ∧ Hid (PlaceAt (ps.map Prod.fst) ⟨p, m, k, zs⟩ j ∧ Below w.heap.size w w')) ∨ (placeE W (ps.map Prod.fst) ⟨p, m, k, zs⟩ ≠ 0 ∧ e = .panicked (panE (placeE W (ps.map Prod.fst) ⟨p, m, k, zs⟩)) ∧ TrNo w' D num (placeE W (ps.map Prod.fst) ⟨p, m, k, zs⟩) ∧ Below B w w') := by
  have HT := hid ht
  have H := hid h
  have HG := hid hg
  have HZ := hid hz
  obtain ⟨ao, cap, rfl, _⟩ := ht
  obtain ⟨n, hn⟩ : ∃ n, n = zs.length := ⟨_, rfl⟩
  rw [← hn] at HT ⊢
  have HB := hid (show Below w.heap.size w (w.alloc (rob p (tx m) k (.slice ao n cap))) from (Below.refl _ _).alloc (Nat.le_refl _) _)
  have HTA := hid (h.on HB.out)
  have HO := hid (new_0 w (rob p (tx m) k (.slice ao n cap)))
  obtain ⟨b0, b1, b2, b3, _, _, _, _⟩ := rob_cells HO.out
  have HCK := hid (lcheck_any (p := p) (k := k) (m := m) HTA.out (Nat.le_trans hB HB.out.size) (HT.out.below HB.out) HZ.out)
  have HPE := hid (show ∀ b, ((ps.map Prod.fst).any fun a => keyB a ⟨p, m, k, zs⟩) = b → errR W ⟨p, m, k, zs⟩ = 0 → placeE W (ps.map Prod.fst) ⟨p, m, k, zs⟩ = if b = true then 0 else 60 from fun b hb he => by unfold placeE; rw [if_pos he, hb])
  have HPX := hid (show errR W ⟨p, m, k, zs⟩ ≠ 0 → placeE W (ps.map Prod.fst) ⟨p, m, k, zs⟩ = errR W ⟨p, m, k, zs⟩ from fun he => by unfold placeE; rw [if_neg he])
  clear hn h hz hg
  go_enter Tryz.func123, Tryz.ntmps123
  go_wp2_with fail
  refine HCK.out.mono ?_
  rintro en w2 (⟨he, rfl, hb2⟩ | ⟨he, rfl, h2, h3⟩)
  rotate_left
  · refine ⟨rfl, Or.inr ?_⟩
    rw [HPX.out he]
    exact ⟨he, rfl, h2, (HB.out.mono hB).trans h3⟩
  have B2 := hid hb2
  have HTB := hid (HTA.out.on hb2)
  have HO2 := hid (below_block hb2 HO.out (lt_of_block HO.out))
  have HBW := hid (below_2 HB.out hb2)
  obtain ⟨d0, d1, d2, d3, _, _, _, _⟩ := rob_cells HO2.out
  have HFI := hid (fun (W' : World) (hW : Below w2.heap.size w2 W') => find_any (p := p) (k := k) (m := m) (bo := ao) (lb := n) (cb := cap) (zs := zs) ((HTB.out.on hW).cells.2.1) ((HTB.out.on hW).list) HG.out.srt (by have := HG.out.few; simpa using this))
  obtain ⟨tb, htb⟩ : ∃ tb, ((ps.map Prod.fst).any fun a => keyB a ⟨p, m, k, zs⟩) = tb := ⟨_, rfl⟩
  have HTBB := hid htb
  rw [htb] at HFI
  have HP0 := hid (HPE.out tb htb he)
  clear hb2 b0 b1 b2 b3 htb he
  go_wp2_with fail
  go_region_held2 (fun W' => W'.cell? ⟨w.heap.size, 0, none⟩ = some (.int .i64 p) ∧ W'.cell? ⟨w.heap.size, 1, none⟩ = some (.string (tx m)) ∧ W'.cell? ⟨w.heap.size, 2, none⟩ = some (.int .i64 k) ∧ W'.cell? ⟨w.heap.size, 3, none⟩ = some (.slice ao n cap)) (first | exact ⟨d0, d1, d2, d3⟩ | exact hS2) (first | (go_at_call 120; refine (HFI.out _ (by first | exact Below.refl _ _ | exact (Below.refl _ _).drew)).mono ?_; rintro en w3 ⟨j, rfl, hj3⟩; have B3 := hid (show Below w2.heap.size w2 w3 by (first | exact hj3.out.2 | exact undrew hj3.out.2)); have HPL := hid hj3.out.1; have hS2 := And.intro ((B3.out.cell (block_old d0)).trans d0) (And.intro ((B3.out.cell (block_old d1)).trans d1) (And.intro ((B3.out.cell (block_old d2)).trans d2) ((B3.out.cell (block_old d3)).trans d3))); clear hj3))
  have HT3 := hid (HTB.out.on B3.out)
  have HB3 := hid (below_2 HBW.out B3.out)
  have HMU := hid (must_any (B := B) (D := D) (num := num) (er := 60) tb HT3.out.blk HT3.out.base)
  clear hS2 d0 d1 d2 d3
  go_wp2_with fail
  refine HMU.out.mono ?_
  rintro en w4 (⟨h1, rfl, hw4⟩ | ⟨h1, rfl, h2, h3⟩)
  · have hw4' := hw4.symm
    clear hw4
    subst hw4'
    have HPZ := hid (show placeE W (ps.map Prod.fst) ⟨p, m, k, zs⟩ = 0 by rw [HP0.out, h1]; rfl)
    clear h1
    go_wp2
    go_ret
    exact Or.inl ⟨HPZ.out, j, rfl, HPL.out, HB3.out⟩
  · have HPZ : placeE W (ps.map Prod.fst) ⟨p, m, k, zs⟩ = 60 := by rw [HP0.out, h1]; rfl
    refine ⟨rfl, Or.inr ?_⟩
    rw [HPZ]
    exact ⟨by decide, rfl, h2, (HB3.out.mono hB).trans h3⟩
end Go.Proofs.YtemmhingmeinjaaGreatDoor
