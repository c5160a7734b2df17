/-
  slices.Insert of a stamp, there is room and it does not stand last.
-/
import Derived.Test.YtibbbjikehkbmabDoorGInsA
namespace Go.Proofs.YtibbbjikehkbmabDoor.Ve
open Go.RowKit

theorem own_parts {w : World} {B g n c : Nat} {xs : List Value} (h : w.ownsRow B 33 2 (.slice (some ⟨g, 0, none⟩) n c) n xs) : ∃ cur, B ≤ g ∧ w.heap[g]? = some (.cells cur 33 (0, 0)) ∧ n ≤ c ∧ c ≤ maxLen ∧ cur.size = c * 2 ∧ (∀ (j : Nat) (u : Value), xs[j]? = some u → w.cell? ⟨g, j, none⟩ = some u) ∧ ∀ j, j < c * 2 → (w.cell? ⟨g, j, none⟩).isSome = true := by
  rcases h.2 with ⟨e, _⟩ | ⟨g', cap, cur, e, hB, hh, hn, hm, hs, ht⟩
  · cases e
  · injection e with e1 e2 e3
    injection e1 with e1
    injection e1 with e1 _ _
    subst e1 e3
    refine ⟨cur, hB, hh, hn, hm, hs, fun j u hj => ?_, fun j hj => ?_⟩
    · rw [cell_at hh, ← Array.getElem?_toList]
      rw [← ht, List.getElem?_take] at hj
      split at hj
      · exact hj
      · cases hj
    · rw [cell_at hh, Array.getElem?_eq_getElem (by omega)]; rfl

set_option maxRecDepth 20000 in
set_option maxHeartbeats 4000000 in
theorem Insert_shift {w : World} {B g n c k vb : Nat} {ps : List St} {q : St} (hown : w.ownsRow B 33 2 (.slice (some ⟨g, 0, none⟩) n c) n (flatS ps)) (hl : ps.length = n) (hk : k < n) (hroom : n + 1 ≤ c) (h60 : n ≤ 4096)
    (hv : w.heap[vb]? = some (.cells #[.int .i64 q.1, .int .u64 (q.2 : Int)] 33 (0, 0))) (hne : vb ≠ g) :
    Calls Tryd.prog 20 #[.slice (some ⟨g, 0, none⟩) n c, .int .i64 (k : Int), .slice (some ⟨vb, 0, none⟩) 1 1] w fun e w' => e = .returned (.slice (some ⟨g, 0, none⟩) (n + 1) c) ∧ Hid (w'.ownsRow B 33 2 (.slice (some ⟨g, 0, none⟩) (n + 1) c) (n + 1) (flatS (ps.take k ++ q :: ps.drop k)) ∧ w.grownBy w' (some g)) := by
  have mixed := mixedV
  obtain ⟨cur, hB, hh, hnc, hm, hs, hcs, hsome⟩ := own_parts hown
  have hfz : ∀ j, w.frozen? ⟨g, j, none⟩ = false := fun j => free_of hh
  have hvfz : ∀ j, w.frozen? ⟨vb, j, none⟩ = false := fun j => free_of hv
  have h1c : ∀ u ∈ flatS ps, u.oneCell' = true := flatS_one ps
  have h1v : ∀ u ∈ twoC q, u.oneCell' = true := flatS_one [q]
  have hfl := flatS_len ps
  have hvs : ∀ (j : Nat) (u : Value), (twoC q)[j]? = some u → w.cell? ⟨vb, j, none⟩ = some u := fun j u hj => by rw [cell_at hv]; simpa using hj
  have hov : ∀ lb cb, (callFunc 34 #[.slice (some ⟨vb, 0, none⟩) 1 1, .slice (some ⟨g, (k + 1) * 2, none⟩) lb cb]).run Tryd.prog w = .ok (.value (.bool false)) w := fun lb cb => by
    rw [run_callFunc_extern Tryd.func34 (by kernel_rfl) (by kernel_rfl) (by kernel_rfl) (e := Extern.SlicesOverlaps.overlaps #[22, 22] #[4]) (by kernel_rfl),
      Lib.run_overlaps_apart w 22 4 33 Tryd.underlying22 2 Tryd.sizeOf33 ⟨vb, 0, none⟩ ⟨g, (k + 1) * 2, none⟩ 1 1 lb cb hne 33 33 2 (c * 2) (by rw [shape_at hv]; rfl) (by rw [shape_at hh, hs]) (by omega) (hvfz _) (hvfz _)]
    rfl
  have hdl : ((flatS ps).drop (k * 2)).length = (n - k) * 2 := by rw [List.length_drop, hfl, hl]; omega
  have hcp1 : ∀ ty dc sc, (Builtin.copy_ #[23, 23] ty #[.slice (some ⟨g, (k + 1) * 2, none⟩) (n - k) dc, .slice (some ⟨g, k * 2, none⟩) (n + 1 - k) sc]).run Tryd.prog w.drew = .ok (goInt (Nat.min (n + 1 - k) (n - k))) (w.drew.setCells g ((k + 1) * 2) ((flatS ps).drop (k * 2))) := fun ty dc sc =>
    run_copy_wide w.drew _ _ ty 33 2 g ((k + 1) * 2) (n - k) dc ⟨g, k * 2, none⟩ (n + 1 - k) sc _ Tryd.underlying23 sizeStampI (by rw [hdl]; congr 1; simp only [Nat.min_def]; split <;> omega)
      (fun j u hj => by rw [addr_addS]; exact hcs (k * 2 + j) u (by rwa [List.getElem?_drop] at hj))
      (fun j hj => hsome _ (by omega)) (fun j hj => hfz _) (fun u hu => h1c u (List.mem_of_mem_drop hu))
  obtain ⟨W1, hW1⟩ : ∃ W1, W1 = w.drew.setCells g ((k + 1) * 2) ((flatS ps).drop (k * 2)) := ⟨_, rfl⟩
  have hb1 := block_setCells ((flatS ps).drop (k * 2)) ((k + 1) * 2) w.drew cur hh
  rw [← hW1] at hcp1 hb1
  have hsz1 : (setAll cur ((k + 1) * 2) ((flatS ps).drop (k * 2))).size = c * 2 := by rw [setAll_size, hs]
  have hcp2 : ∀ (W : World), (∀ x, W.cell? x = W1.cell? x) → (∀ x, W.frozen? x = W1.frozen? x) → ∀ ty dc, (Builtin.copy_ #[23, 22] ty #[.slice (some ⟨g, k * 2, none⟩) (n + 1 - k) dc, .slice (some ⟨vb, 0, none⟩) 1 1]).run Tryd.prog W = .ok (goInt (Nat.min 1 (n + 1 - k))) (W.setCells g (k * 2) (twoC q)) := fun W hWc hWf ty dc =>
    run_copy_wide W _ _ ty 33 2 g (k * 2) (n + 1 - k) dc ⟨vb, 0, none⟩ 1 1 (twoC q) Tryd.underlying23 sizeStampI (by rw [show Nat.min 1 (n + 1 - k) = 1 by simp only [Nat.min_def]; split <;> omega]; rfl)
      (fun j u hj => by
        rw [addr_addS, Nat.zero_add, hWc, hW1, World.cell?_setCells_out g _ _ _ _ (fun h _ => absurd h hne)]
        exact hvs j u hj)
      (fun j hj => by
        have : j < 2 := hj
        rw [hWc, cell_at hb1, Array.getElem?_eq_getElem (by rw [hsz1]; omega)]; rfl) (fun j hj => by rw [hWf]; exact free_of hb1) h1v
  have HFIN := hid (show ∀ W : World, (∀ x, W.cell? x = W1.cell? x) → W.heap[g]? = W1.heap[g]? → (W.setCells g (k * 2) (twoC q)).ownsRow B 33 2 (.slice (some ⟨g, 0, none⟩) (n + 1) c) (n + 1) (flatS (ps.take k ++ q :: ps.drop k)) from fun W hWc hWh => by
    have hb2 := block_setCells (twoC q) (k * 2) W _ (hWh.trans hb1)
    refine own_of_cells hb2 hB hroom hm (by rw [setAll_size, hsz1]) (by rw [flatS_len]; simp [hl]; omega) (fun j u hj => ?_)
    have e : flatS (ps.take k ++ q :: ps.drop k) = (flatS ps).take (k * 2) ++ twoC q ++ (flatS ps).drop (k * 2) := by
      rw [flatS_append, flatS_take, List.append_assoc]
      show _ ++ (twoC q ++ flatS (ps.drop k)) = _
      rw [flatS_drop]
    rw [e] at hj
    have hsome2 : ∀ i, i < c * 2 → (W.cell? ⟨g, i, none⟩).isSome = true := fun i hi => by rw [hWc, cell_at hb1, Array.getElem?_eq_getElem (by rw [hsz1]; omega)]; rfl
    have htl : ((flatS ps).take (k * 2)).length = k * 2 := by rw [List.length_take, hfl, hl]; omega
    by_cases h1 : j < k * 2
    · rw [World.cell?_setCells_out g _ _ _ _ (fun _ _ => Or.inl h1), hWc, hW1, World.cell?_setCells_out g _ _ _ _ (fun _ _ => Or.inl (by show j < (k + 1) * 2; omega))]
      rw [List.append_assoc, List.getElem?_append_left (by omega), List.getElem?_take, if_pos h1] at hj
      exact hcs j u hj
    · by_cases h2 : j < k * 2 + 2
      · have hin := World.cell?_setCells_in g (twoC q) (k * 2) W (fun i hi => hsome2 _ (by have : i < 2 := hi; omega)) (j - k * 2) (by show j - k * 2 < 2; omega)
        rw [show k * 2 + (j - k * 2) = j by omega] at hin
        rw [hin]
        rw [List.getElem?_append_left (by rw [List.length_append, htl]; show j < k * 2 + 2; omega), List.getElem?_append_right (by omega), htl] at hj
        rw [List.getElem?_eq_getElem (by show j - k * 2 < 2; omega)] at hj
        exact hj
      · have hin := World.cell?_setCells_in g ((flatS ps).drop (k * 2)) ((k + 1) * 2) w.drew (fun i hi => hsome _ (by omega)) (j - (k + 1) * 2) (by
          have := (List.getElem?_eq_some_iff.1 hj).1
          simp only [List.length_append, htl, hdl] at this
          have e4 : (twoC q).length = 2 := rfl
          omega)
        rw [show (k + 1) * 2 + (j - (k + 1) * 2) = j by omega] at hin
        rw [World.cell?_setCells_out g _ _ _ _ (fun _ _ => Or.inr (by show k * 2 + 2 ≤ j; omega)), hWc, hW1, hin]
        rw [List.getElem?_append_right (by rw [List.length_append, htl]; show k * 2 + 2 ≤ j; omega), List.length_append, htl, show k * 2 + (twoC q).length = (k + 1) * 2 by show k * 2 + 2 = _; omega] at hj
        rw [List.getElem?_eq_getElem (by rw [hdl]; have := (List.getElem?_eq_some_iff.1 hj).1; rw [hdl] at this; exact this)] at hj
        exact hj)
  have HGR := hid (show ∀ W : World, w.grownBy W (some g) → w.grownBy (W.setCells g (k * 2) (twoC q)) (some g) from fun W hg => grown_two hg (grown_setCells g _ _ _))
  have HG1 := hid (show w.grownBy W1 (some g) by rw [hW1]; exact grown_two (grown_drw w _) (grown_setCells g _ _ _))
  have hz2 : ¬ ((k : Int) = (n : Int)) := by omega
  have hw1 : IntKind.i64.wrap ((k : Int) + 1) = (k : Int) + 1 := by rw [IntKind.wrap_i64]; omega
  have hb0 : (0 : Int) ≤ (k : Int) + 1 := by omega
  have hin : k ≤ n := by omega
  have htn : ((k : Int) + 1).toNat = k + 1 := by omega
  have hb2 : ¬ (c = k + 1) := by omega
  have hb3 : (k : Int) ≤ (n : Int) + 1 := by omega
  have hb4 : ¬ (c = k) := by omega
  have hcb : (c : Int) ≤ 9223372036854775807 := by unfold maxLen at hm; omega
  clear hown hv hh hcs hsome hfz hvfz h1c h1v hvs hb1 hsz1 hs 
  go_enter Tryd.func20, Tryd.ntmps20
  go_wp2_with (simp only [hov])
  go_region_law_o (refine step_copy_runI rfl _ _ 23 23 rfl _ _ (by simp [Act.eval, Act.put]) (by simp [Act.eval, Act.put]) (hcp1 _ _ _) ?_)
  go_wp2_with (at_builtin; refine wpList_copy_runI _ rfl _ _ 23 22 rfl _ _ rfl rfl (hcp2 _ (fun _ => rfl) (fun _ => rfl) _ _) ?_)
  go_ret
  exact ⟨rfl, HFIN.out _ (fun _ => by rw [hW1]) (by rw [hW1]), HGR.out _ (hW1 ▸ HG1.out)⟩
end Go.Proofs.YtibbbjikehkbmabDoor.Ve
