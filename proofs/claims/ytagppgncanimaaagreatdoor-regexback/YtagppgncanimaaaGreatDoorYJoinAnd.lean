/-
  Spots: the nodes of an expression while a path is followed, and how they lie in memory.
  The parser in memory: its words, its place, its open groups.
  The program's whole.
  The program's join.
-/
import Derived.Test.YtagppgncanimaaaGreatDoorWFewAnd
import Derived.Deep.RegionHeld3
namespace Go.Proofs.YtagppgncanimaaaGreatDoor
open Go.RowKit

/-- The parts, those of a kind taken apart. -/
def flatK (op : Int) (ks : List Rx) : List Rx := ks.flatMap fun r => if r.op == op then r.kids else [r]
/-- Several as one. -/
def joinR (op : Int) (ks : List Rx) : Rx := if (flatK op ks).length = 1 then (flatK op ks).headD (.mk op [] []) else .mk op [] (flatK op ks)
theorem flatK_snoc (op : Int) (ks : List Rx) (k : Rx) : flatK op (ks ++ [k]) = flatK op ks ++ (if k.op == op then k.kids else [k]) := by simp [flatK]
theorem flatK_nodes (op : Int) (ks : List Rx) : nodesL (flatK op ks) ≤ nodesL ks := by
  induction ks with
  | nil => simp [flatK, nodesL]
  | cons k t ih =>
    have e : flatK op (k :: t) = (if k.op == op then k.kids else [k]) ++ flatK op t := rfl
    rw [e, nodesL_append, nodesL_cons]
    have : nodesL (if k.op == op then k.kids else [k]) ≤ k.nodes := by
      split
      · rw [k.nodes_kids]; omega
      · simp [nodesL]
    omega
theorem flatK_len (op : Int) (ks : List Rx) : (flatK op ks).length ≤ nodesL ks := Nat.le_trans (length_le _) (flatK_nodes op ks)
/-- What a call that tells an expression leaves: its lists lie in blocks of K, or in new ones. -/
def TellX (K : Nat → Prop) (w : World) (r : Rx) (e : Ending) (w' : World) : Prop := ∃ u n c K', e = .returned (.agg #[.int .i64 r.op, .string (tx r.name), .slice u n c]) ∧ Hid (RxK K' w' (.slice u n c) r.kids) ∧ Hid ((∀ g, K g → K' g) ∧ ∀ g, K' g → K g ∨ w.heap.size ≤ g ∧ ∃ cs, w'.heap[g]? = some (.cells cs 25 (0, 0)))

set_option maxRecDepth 20000 in
set_option maxHeartbeats 2000000 in
theorem join_any {K : Nat → Prop} {w : World} {v : Value} {ps : Prs} {op : Int} (hS : LieX K w v ps) (hn : nodesL (ps.map Prod.fst) ≤ 1000000) :
    Calls Tryz.prog 127 #[.int .i64 op, v] w fun e w' => TellX K w (joinR op (ps.map Prod.fst)) e w' ∧ Below w.heap.size w w' := by
  obtain ⟨i0, hi, hz0, hz1, hz2⟩ := info_parts Tryz.infoRegX
  have HI := hid hi
  have HZ0 := hid hz0
  have HZ1 := hid hz1
  have HZ2 := hid hz2
  clear hi hz0 hz1 hz2
  obtain ⟨ks, hks⟩ : ∃ ks, ks = ps.map Prod.fst := ⟨_, rfl⟩
  have HKS := hid hks
  have hlen : ps.length = ks.length := by rw [hks]; simp
  rw [← hks] at hn ⊢
  obtain ⟨ao, cap, rfl, hat⟩ := hS.form
  have HKI := hid hS.kids
  have HAT := hid hat
  have hlk := length_le ks
  obtain ⟨n, hnn⟩ : ∃ n, n = ps.length := ⟨_, rfl⟩
  have HN := hid hnn
  have hnb : n ≤ 1000000 := by omega
  have HNL := hid hn
  rw [← hnn]
  clear hS hat hks hlen hlk hnn hn
  go_enter Tryz.func127, Tryz.ntmps127
  go_wp2_with fail
  generalize hwA : w.alloc (Obj.cells #[.int .i64 0, .string ⟨#[]⟩, .slice none 0 0] 25) = wA
  have HWA := hid hwA
  have hsA : wA.heap.size = w.heap.size + 1 := by rw [← hwA]; simp
  have BA := hid (show Below w.heap.size w wA by rw [← hwA]; exact (Below.refl _ _).alloc (Nat.le_refl _) _)
  clear hwA
  go_loopw [5, 10] (fun u i wr => ∃ j : Nat, ∃ qs : Prs, j ≤ n ∧ i = .int .i64 j ∧ Hid (wr.ownsRow (w.heap.size + 1) 25 3 u qs.length (flatP qs)) ∧ Hid (qs.map Prod.fst = flatK op (ks.take j) ∧ ∀ q ∈ qs, RxK K w q.2 q.1.kids) ∧ Hid (Below (w.heap.size + 1) wA wr)) (fun _ i _ => n - (intOf i).toNat)
  case atStart => exact ⟨0, [], Nat.zero_le _, rfl, World.ownsRow_nil _ _ _ _, ⟨rfl, fun q hq => absurd hq (by simp)⟩, Below.refl _ _⟩
  case round =>
    obtain ⟨j, qs, hj, rfl, HO, HQ, HB⟩ := hrel
    have HBL := hid (show Below w.heap.size w wr from BA.out.trans (HB.out.mono (Nat.le_succ _)))
    have hszr : w.heap.size + 1 ≤ wr.heap.size := by have := HB.out.size; omega
    have hql : qs.length ≤ 1000000 := by
      have h1 := congrArg List.length HQ.out.1
      rw [List.length_map] at h1
      have h2 := flatK_len op (ks.take j)
      have h3 := nodesL_take (ks := ks) j
      have := HNL.out
      omega
    obtain ⟨m, hm⟩ : ∃ m, m = qs.length := ⟨_, rfl⟩
    have HM := hid hm
    rw [← hm] at hql
    have how := HO.out
    rw [← hm] at how
    have HOW := hid how
    obtain ⟨bo, vc, rfl⟩ := own_form how
    clear hm how
    by_cases hlt : j < n
    · obtain ⟨p, hp⟩ : ∃ p, ps[j]? = some p := ⟨ps[j]'(by rw [← HN.out]; exact hlt), List.getElem?_eq_getElem _⟩
      obtain ⟨g, o, rfl, hg, hcell⟩ : ∃ g o, ao = some ⟨g, o, none⟩ ∧ g < w.heap.size ∧ ∀ (i : Nat) (p : Rx × Value), ps[i]? = some p → w.cell? ⟨g, o + i * 3, none⟩ = some (.int .i64 p.1.op) ∧ w.cell? ⟨g, o + i * 3 + 1, none⟩ = some (.string (tx p.1.name)) ∧ w.cell? ⟨g, o + i * 3 + 2, none⟩ = some p.2 := by
        rcases HAT.out with e | h
        · rw [e] at hp; simp at hp
        · exact h
      obtain ⟨k, pv⟩ := p
      obtain ⟨a0, a1, a2⟩ := hcell j _ hp
      have k0 := (HBL.out.cell (p := ⟨g, o + j * 3, none⟩) (by exact hg)).trans a0
      have k1 := (HBL.out.cell (p := ⟨g, o + j * 3 + 1, none⟩) (by exact hg)).trans a1
      have k2 := (HBL.out.cell (p := ⟨g, o + j * 3 + 2, none⟩) (by exact hg)).trans a2
      have hkid := HKI.out _ (List.mem_of_getElem? hp)
      obtain ⟨bu, bc, hpv⟩ := hkid.form
      dsimp only at hpv
      subst hpv
      dsimp only at k0 k1 k2 hkid
      have hkj : ks[j]? = some k := by rw [HKS.out, List.getElem?_map, hp]; rfl
      have HTK := hid (show flatK op (ks.take (j + 1)) = flatK op (ks.take j) ++ (if k.op == op then k.kids else [k]) by rw [take_snocR hkj, flatK_snoc])
      have hkI : (j : Int) < (n : Int) := by omega
      have hk0 : (0 : Int) ≤ (j : Int) := by omega
      have hkn : k.nodes ≤ 1000000 := by
        have := nodesL_mem (List.mem_of_getElem? hkj)
        have := HNL.out
        omega
      have hkk := k.nodes_kids
      have hkl := length_le k.kids
      have HKID := hid hkid
      clear hp a0 a1 a2 hcell hkj hkid
      by_cases ho : k.op = op
      · subst ho
        obtain ⟨ts, hts, hlie⟩ := HKID.out.lie
        have htl : ts.length = k.kids.length := by rw [← hts]; simp
        have HSRC := hid (fun (o1 : Obj) => (hlie.on (HBL.out.alloc (by omega) o1)).src)
        have HONE := hid hlie.one
        have HTS := hid hts
        have HLIE := hid hlie
        rw [htl] at HSRC
        obtain ⟨mk, hmk⟩ : ∃ mk, mk = k.kids.length := ⟨_, rfl⟩
        have HMK := hid hmk
        rw [← hmk] at HSRC k2 hkl
        clear hlie hts htl hmk
        go_wp2_with (first | (at_builtin; refine wpList_append_srcX _ rfl _ _ 23 rfl (w.heap.size + 1) 25 i0 (.agg #[.int .i64 0, .string (tx []), .slice none 0 0]) 3 48 Tryz.underlying23 HI.out HZ0.out HZ1.out HZ2.out rfl (by decide) (.slice bo m vc) m (flatP qs) rfl (HOW.out.alloc _) (.slice bu mk bc) mk (flatP ts) rfl (HSRC.out _) HONE.out ?c3 ?c4 ?c5 ?_))
        case c3 => unfold maxLen; omega
        case c4 => omega
        case c5 => simp only [World.size_alloc]; omega
        intro v3 w3 hown3 hgrow3 _
        obtain ⟨a3, c3, rfl⟩ := own_form hown3
        have B3 := hid (show Below (w.heap.size + 1) wA w3 from (HB.out.alloc hszr _).grown hgrow3 (by simp only [World.size_alloc]; omega) (fun q hq => (HOW.out.lt q hq).1))
        have B3L := hid (show Below w.heap.size w w3 from BA.out.trans (B3.out.mono (Nat.le_succ _)))
        have O3 := hid (show w3.ownsRow (w.heap.size + 1) 25 3 (.slice a3 (m + mk) c3) (qs ++ ts).length (flatP (qs ++ ts)) from by
          rw [flatP_app, List.length_append, ← HM.out, show ts.length = mk by rw [HMK.out, ← HTS.out]; simp]
          exact hown3)
        have Q3 := hid (show (qs ++ ts).map Prod.fst = flatK k.op (ks.take (j + 1)) ∧ ∀ q ∈ qs ++ ts, RxK K w q.2 q.1.kids from ⟨by rw [HTK.out, List.map_append, HQ.out.1, HTS.out]; simp, fun q hq => (List.mem_append.1 hq).elim (HQ.out.2 q) (HLIE.out.kids q)⟩)
        clear hown3 hgrow3
        go_wp2
        go_roundw
        case rel => exact ⟨j + 1, qs ++ ts, by omega, by go_num, O3, Q3, B3⟩
        case measure => simp [intOf]; omega
      · have hoI : (k.op == op) = false := by simpa using ho
        have HKW := hid (show RxK K w (.slice bu k.kids.length bc) k.kids from HKID.out)
        obtain ⟨mk, hmk⟩ : ∃ mk, mk = k.kids.length := ⟨_, rfl⟩
        have HMK := hid hmk
        rw [← hmk] at HKW k2 hkl
        clear ho hmk
        go_wp2_with (first | (at_builtin; refine wpList_append_srcX _ rfl _ _ 23 rfl (w.heap.size + 1) 25 i0 (.agg #[.int .i64 0, .string (tx []), .slice none 0 0]) 3 48 Tryz.underlying23 HI.out HZ0.out HZ1.out HZ2.out rfl (by decide) (.slice bo m vc) m (flatP qs) rfl ((HOW.out.alloc _).alloc _) (.slice (some ⟨wr.heap.size + 1, 0, none⟩) 1 1) 1 (flatP [(k, .slice bu mk bc)]) rfl (Or.inr ⟨_, _, rfl, rfl, new_cells _ #[.int .i64 k.op, .string (tx k.name), .slice bu mk bc] _ _ (by simp)⟩) ?c2 ?c3 ?c4 ?c5 ?_))
        case c2 => exact flatP_one fun p hp => by rw [List.mem_singleton.1 hp]; rfl
        case c3 => unfold maxLen; omega
        case c4 => omega
        case c5 => simp only [World.size_alloc]; omega
        intro v3 w3 hown3 hgrow3 _
        obtain ⟨a3, c3, rfl⟩ := own_form hown3
        have B3 := hid (show Below (w.heap.size + 1) wA w3 from ((HB.out.alloc hszr _).alloc (by simp only [World.size_alloc]; omega) _).grown hgrow3 (by simp only [World.size_alloc]; omega) (fun q hq => (HOW.out.lt q hq).1))
        have O3 := hid (show w3.ownsRow (w.heap.size + 1) 25 3 (.slice a3 (m + 1) c3) (qs ++ [(k, Value.slice bu mk bc)]).length (flatP (qs ++ [(k, Value.slice bu mk bc)])) from by
          rw [flatP_app, List.length_append, ← HM.out]
          exact hown3)
        have Q3 := hid (show (qs ++ [(k, Value.slice bu mk bc)]).map Prod.fst = flatK op (ks.take (j + 1)) ∧ ∀ q ∈ qs ++ [(k, Value.slice bu mk bc)], RxK K w q.2 q.1.kids from ⟨by rw [HTK.out, List.map_append, HQ.out.1, if_neg (by simp [hoI])]; rfl, fun q hq => (List.mem_append.1 hq).elim (HQ.out.2 q) (fun h => by rw [List.mem_singleton.1 h]; exact HKW.out)⟩)
        clear hown3 hgrow3
        go_wp2
        go_roundw
        case rel => exact ⟨j + 1, qs ++ [(k, .slice bu mk bc)], by omega, by go_num, O3, Q3, B3⟩
        case measure => simp [intOf]; omega
    · have hkI : ¬ ((j : Int) < (n : Int)) := by omega
      have HTK := hid (show qs.map Prod.fst = flatK op ks by rw [HQ.out.1, List.take_of_length_le (by have := HN.out; have h2 := congrArg List.length HKS.out; rw [List.length_map] at h2; omega)])
      have hfl : (flatK op ks).length = m := by rw [← HTK.out, HM.out]; simp
      have HFL := hid hfl
      clear hfl
      by_cases h1 : m = 1
      · subst h1
        obtain ⟨⟨k, pv⟩, hq⟩ : ∃ q, qs = [q] := List.length_eq_one_iff.1 HM.out.symm
        have HE := hid (show joinR op ks = k by unfold joinR; rw [if_pos HFL.out, ← HTK.out, hq]; rfl)
        have hkid := HQ.out.2 (k, pv) (by rw [hq]; simp)
        obtain ⟨bu, bc, hpv⟩ := hkid.form
        dsimp only at hpv hkid
        subst hpv
        have HKID := hid hkid
        obtain ⟨g, cap1, e1, hg, hgl, hc⟩ := ownX_form HOW.out (by omega)
        injection e1 with e1 _ e2
        subst e1 e2
        have z0 := hc 0 _ (by rw [hq]; rfl)
        have z1 := hc 1 _ (by rw [hq]; rfl)
        have z2 := hc 2 _ (by rw [hq]; rfl)
        clear hc hq hkid
        obtain ⟨mk, hmk⟩ : ∃ mk, mk = k.kids.length := ⟨_, rfl⟩
        rw [← hmk] at HKID z2
        clear hmk
        have hbx : wr.heap[w.heap.size]? = some (.cells #[.int .i64 0, .string ⟨#[]⟩, .slice none 0 0] 25 (0, 0)) := by
          rw [HB.out.block _ (by omega), ← HWA.out]; exact new_0 _ _
        have x0 : wr.cell? ⟨w.heap.size, 0, none⟩ = some (.int .i64 0) := by rw [cell_at hbx]; rfl
        have x1 : wr.cell? ⟨w.heap.size, 1, none⟩ = some (.string ⟨#[]⟩) := by rw [cell_at hbx]; rfl
        have x2 : wr.cell? ⟨w.heap.size, 2, none⟩ = some (.slice none 0 0) := by rw [cell_at hbx]; rfl
        have y0 := frozen_of_row wr w.heap.size 0 _ _ hbx
        have y1 := frozen_of_row wr w.heap.size 1 _ _ hbx
        have y2 := frozen_of_row wr w.heap.size 2 _ _ hbx
        clear hbx
        go_wp2
        refine bodyPost_ret (v := .agg #[.int .i64 k.op, .string (tx k.name), .slice bu mk bc]) (by simp [results, Tryz.results127, go_sem, x0, x1, x2]) rfl ?_
        have hB : Below w.heap.size w (((wr.setCell ⟨w.heap.size, 0, none⟩ (.int .i64 k.op)).setCell ⟨w.heap.size, 1, none⟩ (.string (tx k.name))).setCell ⟨w.heap.size, 2, none⟩ (.slice bu mk bc)) := ((HBL.out.setCell (Nat.le_refl _) _).setCell (Nat.le_refl _) _).setCell (Nat.le_refl _) _
        exact ⟨⟨bu, mk, bc, K, by rw [HE.out], by rw [HE.out]; exact HKID.out.on (.below hB), fun g hg => hg, fun g hg => Or.inl hg⟩, hB⟩
      · have hmI : ((m : Int) == 1) = false := by rw [beq_eq_false_iff_ne]; omega
        have HE := hid (show joinR op ks = .mk op [] (flatK op ks) by unfold joinR; rw [if_neg (by rw [HFL.out]; exact h1)])
        have hbx : wr.heap[w.heap.size]? = some (.cells #[.int .i64 0, .string ⟨#[]⟩, .slice none 0 0] 25 (0, 0)) := by
          rw [HB.out.block _ (by omega), ← HWA.out]; exact new_0 _ _
        have x0 : wr.cell? ⟨w.heap.size, 0, none⟩ = some (.int .i64 0) := by rw [cell_at hbx]; rfl
        have x1 : wr.cell? ⟨w.heap.size, 1, none⟩ = some (.string ⟨#[]⟩) := by rw [cell_at hbx]; rfl
        have x2 : wr.cell? ⟨w.heap.size, 2, none⟩ = some (.slice none 0 0) := by rw [cell_at hbx]; rfl
        have y0 := frozen_of_row wr w.heap.size 0 _ _ hbx
        have y1 := frozen_of_row wr w.heap.size 1 _ _ hbx
        have y2 := frozen_of_row wr w.heap.size 2 _ _ hbx
        clear hbx
        go_wp2
        refine bodyPost_ret (v := .agg #[.int .i64 op, .string (tx []), .slice bo m vc]) (by simp [results, Tryz.results127, go_sem, x0, x1, x2]) rfl ?_
        have hB : Below w.heap.size w (((wr.setCell ⟨w.heap.size, 0, none⟩ (.int .i64 op)).setCell ⟨w.heap.size, 1, none⟩ (.string ⟨#[]⟩)).setCell ⟨w.heap.size, 2, none⟩ (.slice bo m vc)) := ((HBL.out.setCell (Nat.le_refl _) _).setCell (Nat.le_refl _) _).setCell (Nat.le_refl _) _
        have hblk : ∀ g, (Value.slice bo m vc).ownBlock = some g → w.heap.size + 1 ≤ g ∧ (((wr.setCell ⟨w.heap.size, 0, none⟩ (.int .i64 op)).setCell ⟨w.heap.size, 1, none⟩ (.string ⟨#[]⟩)).setCell ⟨w.heap.size, 2, none⟩ (.slice bo m vc)).heap[g]? = wr.heap[g]? := fun g hg => by
          have h := (HOW.out.lt g hg).1
          refine ⟨h, ?_⟩
          rw [Below.heap_setCell _ _ _ _ (by show g ≠ w.heap.size; omega), Below.heap_setCell _ _ _ _ (by show g ≠ w.heap.size; omega), Below.heap_setCell _ _ _ _ (by show g ≠ w.heap.size; omega)]
        have hown : World.ownsRow (((wr.setCell ⟨w.heap.size, 0, none⟩ (.int .i64 op)).setCell ⟨w.heap.size, 1, none⟩ (.string ⟨#[]⟩)).setCell ⟨w.heap.size, 2, none⟩ (.slice bo m vc)) (w.heap.size + 1) 25 3 (.slice bo m vc) qs.length (flatP qs) := by
          rw [← HM.out]
          refine ⟨HOW.out.1, ?_⟩
          rcases HOW.out.2 with hn | ⟨g, cap, cur, e, hB, hg, rest⟩
          · exact .inl hn
          · exact .inr ⟨g, cap, cur, e, hB, (hblk g (by rw [e]; rfl)).2.trans hg, rest⟩
        have hrow : RowX K _ (w.heap.size + 1) (.slice bo m vc) qs := ⟨hown, fun q hq => (HQ.out.2 q hq).on (.below hB)⟩
        refine ⟨⟨bo, m, vc, fun g => K g ∨ (Value.slice bo m vc).ownBlock = some g, by rw [HE.out]; rfl, ?_, fun g hg => Or.inl hg, fun g hg => ?_⟩, hB⟩
        · rw [HE.out]
          show RxK _ _ _ (flatK op ks)
          rw [← HTK.out]
          exact hrow.rxk (fun g hg => Or.inl hg) (fun g hg => Or.inr hg)
        · rcases hg with hg | hg
          · exact Or.inl hg
          · refine Or.inr ⟨by have := (hblk g hg).1; omega, ?_⟩
            rcases hown.2 with ⟨e, _⟩ | ⟨g', cap, cur, e, _, hh, _⟩
            · rw [e] at hg; cases hg
            · rw [e] at hg
              simp [Value.ownBlock] at hg
              subst hg
              exact ⟨cur, hh⟩
end Go.Proofs.YtagppgncanimaaaGreatDoor
namespace Go.Proofs.YtagppgncanimaaaGreatDoor
open Go.RowKit

/-- The expression of a group. -/
def wholeR (qs ps : List Rx) : Rx := joinR 5 (qs ++ [joinR 4 ps])
theorem joinR_nodes (op : Int) (ks : List Rx) : (joinR op ks).nodes ≤ 1 + nodesL ks := by
  have h := flatK_nodes op ks
  unfold joinR
  split
  · rename_i h1
    obtain ⟨k, hk⟩ := List.length_eq_one_iff.1 h1
    rw [hk] at h ⊢
    rw [nodesL_cons] at h
    show k.nodes ≤ _
    omega
  · rw [Rx.nodes_kids]
    show 1 + nodesL (flatK op ks) ≤ _
    omega
theorem TellX.trans {K K1 : Nat → Prop} {w w1 w' : World} {r : Rx} {e : Ending} (hK : (∀ g, K g → K1 g) ∧ ∀ g, K1 g → K g ∨ w.heap.size ≤ g ∧ ∃ cs, w1.heap[g]? = some (.cells cs 25 (0, 0))) (hk : ∀ g, w.heap.size ≤ g → g < w1.heap.size → w'.heap[g]? = w1.heap[g]?) (hs : w.heap.size ≤ w1.heap.size) (h : TellX K1 w1 r e w') : TellX K w r e w' := by
  obtain ⟨u, n, c, K2, he, h1, h2, h3⟩ := h
  refine ⟨u, n, c, K2, he, h1, fun g hg => h2 g (hK.1 g hg), fun g hg => ?_⟩
  rcases h3 g hg with hg | ⟨hg, hc⟩
  · rcases hK.2 g hg with hg | ⟨hg, cs, hc⟩
    · exact Or.inl hg
    · exact Or.inr ⟨hg, cs, (hk g hg (Array.getElem?_eq_some_iff.1 hc).1).trans hc⟩
  · exact Or.inr ⟨Nat.le_trans hs hg, hc⟩

theorem ne_typeX {w : World} {g1 g2 : Nat} {c1 c2 : Array Value} {t1 t2 : TypeId} {r1 r2 : Nat × Nat} (h1 : w.heap[g1]? = some (.cells c1 t1 r1)) (h2 : w.heap[g2]? = some (.cells c2 t2 r2)) (ht : t1 ≠ t2) : g1 ≠ g2 := by
  rintro rfl
  rw [h1] at h2
  simp at h2
  exact ht h2.2.1
theorem RowX.block {K : Nat → Prop} {w : World} {B : Nat} {v : Value} {ps : Prs} (h : RowX K w B v ps) {g : Nat} (hg : v.ownBlock = some g) : ∃ cs, w.heap[g]? = some (.cells cs 25 (0, 0)) := by
  rcases h.own.2 with ⟨e, _⟩ | ⟨g', cap, cur, e, _, hh, _⟩
  · rw [e] at hg; cases hg
  · rw [e] at hg
    simp [Value.ownBlock] at hg
    subst hg
    exact ⟨cur, hh⟩

theorem set3_heap {w : World} {b g : Nat} {x y z : Value} (h : g ≠ b) : (((w.setCell ⟨b, 0, none⟩ x).setCell ⟨b, 1, none⟩ y).setCell ⟨b, 2, none⟩ z).heap[g]? = w.heap[g]? := by
  rw [Below.heap_setCell _ _ _ _ (by exact h), Below.heap_setCell _ _ _ _ (by exact h), Below.heap_setCell _ _ _ _ (by exact h)]
theorem set3_far {w : World} {b g o : Nat} {x y z : Value} (h : g ≠ b) : (((w.setCell ⟨b, 0, none⟩ x).setCell ⟨b, 1, none⟩ y).setCell ⟨b, 2, none⟩ z).cell? ⟨g, o, none⟩ = w.cell? ⟨g, o, none⟩ :=
  World.cell?_of_block (by exact set3_heap h)
theorem set3_grown {w : World} {b : Nat} {x y z : Value} : w.grownBy (((w.setCell ⟨b, 0, none⟩ x).setCell ⟨b, 1, none⟩ y).setCell ⟨b, 2, none⟩ z) (some b) :=
  ⟨rfl, rfl, rfl, by simp, fun k _ hk => set3_heap (fun e => hk (by rw [e]))⟩

set_option maxRecDepth 20000 in
set_option maxHeartbeats 2000000 in
theorem whole_any {K : Nat → Prop} {w : World} {B gb o : Nat} {cs : Array Value} {va vp : Value} {qs ps : Prs} (hgb : w.heap[gb]? = some (.cells cs 147 (0, 0))) (ha0 : w.cell? ⟨gb, o, none⟩ = some va) (hp0 : w.cell? ⟨gb, o + 1, none⟩ = some vp)
    (hA : RowX K w B va qs) (hP : LieX K w vp ps) (hK : ∀ g, K g → g < w.heap.size) (hf : ∀ g, va.ownBlock = some g → ¬ K g) (hB : B ≤ w.heap.size) (hn : nodesL (qs.map Prod.fst) + nodesL (ps.map Prod.fst) ≤ 900000) :
    Calls Tryz.prog 95 #[.pointer (some ⟨gb, o, none⟩)] w fun e w' => TellX K w (wholeR (qs.map Prod.fst) (ps.map Prod.fst)) e w' ∧ w.grownBy w' va.ownBlock := by
  obtain ⟨i0, hi, hz0, hz1, hz2⟩ := info_parts Tryz.infoRegX
  have HI := hid hi
  have HZ0 := hid hz0
  have HZ1 := hid hz1
  have HZ2 := hid hz2
  clear hi hz0 hz1 hz2
  have hgl : gb < w.heap.size := (Array.getElem?_eq_some_iff.1 hgb).1
  have hvl := hA.own.lt
  have hvg : ∀ g, va.ownBlock = some g → gb ≠ g := fun g hg => by
    obtain ⟨cs', h'⟩ := hA.block hg
    exact ne_typeX hgb h' (by decide)
  obtain ⟨r1, hr1⟩ : ∃ r1, r1 = joinR 4 (ps.map Prod.fst) := ⟨_, rfl⟩
  have hn1 : r1.nodes ≤ 1 + nodesL (ps.map Prod.fst) := by rw [hr1]; exact joinR_nodes _ _
  obtain ⟨r2, hr2⟩ : ∃ r2, r2 = joinR 5 (qs.map Prod.fst ++ [r1]) := ⟨_, rfl⟩
  have HR2 := hid (show wholeR (qs.map Prod.fst) (ps.map Prod.fst) = r2 by unfold wholeR; rw [hr2, hr1])
  obtain ⟨ap, pc, rfl, _⟩ := hP.form
  obtain ⟨aa, ac, rfl⟩ := own_form hA.own
  have hql := length_le (qs.map Prod.fst)
  rw [List.length_map] at hql
  have hn2 : nodesL (qs.map Prod.fst ++ [r1]) ≤ 1000000 := by rw [nodesL_append, nodesL_cons]; simp [nodesL]; simp [nodesL] at hn hn1; omega
  have HA := hid hA
  have HP := hid hP
  obtain ⟨n, hnn⟩ : ∃ n, n = qs.length := ⟨_, rfl⟩
  have HN := hid hnn
  have hnb : n ≤ 900000 := by omega
  obtain ⟨m, hmm⟩ : ∃ m, m = ps.length := ⟨_, rfl⟩
  have HM := hid hmm
  rw [← hnn] at ha0 HA hf hvl hvg ⊢
  rw [← hmm] at hp0 HP
  have hpl : nodesL (ps.map Prod.fst) ≤ 1000000 := by omega
  rw [HR2.out]
  have HF := hid hf
  have HKL := hid hK
  have HVL := hid hvl
  have HVG := hid hvg
  have HGB := hid hgb
  have HN2 := hid hn2
  have HR1 := hid hr1
  have HRR := hid hr2
  clear hgb hA hP hf hn hnn hmm hn1 hn2 hr1 hr2 hK hvl hvg hql HR2
  go_enter Tryz.func95, Tryz.ntmps95
  go_wp2_with fail
  generalize hwA : w.alloc (Obj.cells #[.int .i64 0, .string ⟨#[]⟩, .slice none 0 0] 25) = wA
  have HWA := hid hwA
  have hsA : wA.heap.size = w.heap.size + 1 := by rw [← hwA]; simp
  have BA := hid (show Below w.heap.size w wA by rw [← hwA]; exact (Below.refl _ _).alloc (Nat.le_refl _) _)
  have hbxA : wA.heap[w.heap.size]? = some (.cells #[.int .i64 0, .string ⟨#[]⟩, .slice none 0 0] 25 (0, 0)) := by rw [← hwA]; exact new_0 _ _
  clear hwA
  have HBX := hid hbxA
  have kA0 := (BA.out.cell (p := ⟨gb, o, none⟩) (by exact hgl)).trans ha0
  have kA1 := (BA.out.cell (p := ⟨gb, o + 1, none⟩) (by exact hgl)).trans hp0
  have HJ1 := hid (show Calls Tryz.prog 127 #[.int .i64 4, .slice ap m pc] wA.drew fun e w1 => ∃ u1 n1 c1, ∃ K1 : Nat → Prop, e = .returned (.agg #[.int .i64 r1.op, .string (tx r1.name), .slice u1 n1 c1]) ∧ (w1.cell? ⟨gb, o, none⟩ = some (.slice aa n ac) ∧ w1.cell? ⟨gb, o + 1, none⟩ = some (.slice ap m pc)) ∧ Hid (RxK K1 w1 (.slice u1 n1 c1) r1.kids) ∧ Hid ((∀ g, K g → K1 g) ∧ ∀ g, K1 g → K g ∨ w.heap.size + 1 ≤ g ∧ ∃ cs, w1.heap[g]? = some (.cells cs 25 (0, 0))) ∧ Hid (Below (w.heap.size + 1) wA w1) from by
    have hlie : LieX K wA.drew (.slice ap m pc) ps := HP.out.on BA.out.drew
    refine (join_any hlie hpl).mono ?_
    rintro e w1 ⟨⟨u1, n1, c1, K1, rfl, h1, h2, h3⟩, hb⟩
    rw [show wA.drew.heap.size = w.heap.size + 1 from hsA] at h3 hb
    rw [← HR1.out] at h1 ⊢
    have hb' : Below (w.heap.size + 1) wA w1 := (Below.refl (w.heap.size + 1) wA).drew.trans hb
    refine ⟨u1, n1, c1, K1, rfl, ⟨?_, ?_⟩, h1, ⟨h2, h3⟩, hb'⟩
    · rw [hb'.cell (p := ⟨gb, o, none⟩) (by show gb < _; omega)]; exact kA0
    · rw [hb'.cell (p := ⟨gb, o + 1, none⟩) (by show gb < _; omega)]; exact kA1)
  have BX := hid (fun (w1 : World) (hb : Below (w.heap.size + 1) wA w1) => (by
    have hbx : w1.heap[w.heap.size]? = some (.cells #[.int .i64 0, .string ⟨#[]⟩, .slice none 0 0] 25 (0, 0)) := (hb.block _ (by omega)).trans HBX.out
    exact ⟨⟨by rw [cell_at hbx]; rfl, by rw [cell_at hbx]; rfl, by rw [cell_at hbx]; rfl⟩, free_of hbx, free_of hbx, free_of hbx⟩ : (w1.cell? ⟨w.heap.size, 0, none⟩ = some (.int .i64 0) ∧ w1.cell? ⟨w.heap.size, 1, none⟩ = some (.string ⟨#[]⟩) ∧ w1.cell? ⟨w.heap.size, 2, none⟩ = some (.slice none 0 0)) ∧ w1.frozen? ⟨w.heap.size, 0, none⟩ = false ∧ w1.frozen? ⟨w.heap.size, 1, none⟩ = false ∧ w1.frozen? ⟨w.heap.size, 2, none⟩ = false))
  have HGW := hid (fun (w1 : World) (hb : Below (w.heap.size + 1) wA w1) => (by
    exact HA.out.below (BA.out.trans (hb.mono (Nat.le_succ _))) : RowX K w1 B (.slice aa n ac) qs))
  have HGO := hid (fun (w1 : World) (ob : Obj) (hb : Below (w.heap.size + 1) wA w1) => (by
    have h := (HGW.out w1 hb).own.alloc ob
    rw [← HN.out] at h; exact h : (w1.alloc ob).ownsRow B 25 3 (.slice aa n ac) n (flatP qs)))
  have HJ2 := hid (fun (w1 w3 : World) (u1 : Option Addr) (n1 c1 g3 cap3 : Nat) (K1 : Nat → Prop) (ob : Obj) (hb : Below (w.heap.size + 1) wA w1) (h1 : RxK K1 w1 (.slice u1 n1 c1) r1.kids) (h2 : (∀ g, K g → K1 g) ∧ ∀ g, K1 g → K g ∨ w.heap.size + 1 ≤ g ∧ ∃ cs, w1.heap[g]? = some (.cells cs 25 (0, 0))) (hown : w3.ownsRow B 25 3 (.slice (some ⟨g3, 0, none⟩) (n + 1) cap3) (n + 1) (flatP qs ++ flatP [(r1, .slice u1 n1 c1)])) (hg : (w1.alloc ob).grownBy w3 (Value.slice aa n ac).ownBlock) => (by
    have hs1 : w.heap.size + 1 ≤ w1.heap.size := by have := hb.size; omega
    have hk1 : KeepK K1 w1 w3 := (KeepK.below ((Below.refl _ _).alloc (Nat.le_refl _) ob)).trans (.grown hg fun g hg hK1 => by
      rcases h2.2 g hK1 with h | h
      · exact HF.out g hg h
      · have := (HVL.out g hg).2; omega)
    have hlie : LieX K1 w3 (.slice (some ⟨g3, 0, none⟩) (n + 1) cap3) (qs ++ [(r1, .slice u1 n1 c1)]) := by
      refine RowX.lie (B := B) ⟨?_, fun p hp => ?_⟩
      · rw [flatP_app, List.length_append, ← HN.out]; exact hown
      · rcases List.mem_append.1 hp with hp | hp
        · exact (((HGW.out w1 hb).kids p hp).mono h2.1).on hk1
        · rw [List.mem_singleton.1 hp]; exact h1.on hk1
    have hb1 : Below (w.heap.size + 1) wA (w1.alloc ob) := hb.alloc hs1 ob
    have hold : ∀ k, k < w.heap.size + 1 → some k ≠ (Value.slice aa n ac).ownBlock → w3.heap[k]? = wA.heap[k]? := fun k hk hne => (hg.block k (by simp only [World.size_alloc]; omega) hne).trans (hb1.block k hk)
    have hg3 : ∀ k, k < w1.heap.size → w.heap.size + 1 ≤ k → w3.heap[k]? = w1.heap[k]? := fun k hk hl => by
      rw [hg.block k (by simp only [World.size_alloc]; omega) (fun e => by have := (HVL.out k e.symm).2; omega)]
      exact Below.heap_alloc _ _ _ hk
    have hs3 : w1.heap.size + 1 ≤ w3.heap.size := by have := hg.size; simp only [World.size_alloc] at this; omega
    have hnn2 : nodesL ((qs ++ [(r1, Value.slice u1 n1 c1)]).map Prod.fst) ≤ 1000000 := by rw [List.map_append]; exact HN2.out
    refine (join_any (op := 5) hlie hnn2).mono ?_
    rintro e w4 ⟨⟨u2, n2, c2, K2, rfl, h3, h4, h5⟩, hb4⟩
    rw [show (qs ++ [(r1, Value.slice u1 n1 c1)]).map Prod.fst = qs.map Prod.fst ++ [r1] by simp, ← HRR.out] at h3 ⊢
    have hne1 : some gb ≠ (Value.slice aa n ac).ownBlock := fun e => HVG.out gb e.symm rfl
    have hne2 : some w.heap.size ≠ (Value.slice aa n ac).ownBlock := fun e => by have := (HVL.out _ e.symm).2; omega
    have hold4 : ∀ k, k < w.heap.size + 1 → some k ≠ (Value.slice aa n ac).ownBlock → w4.heap[k]? = wA.heap[k]? := fun k hk hne => (hb4.block k (by omega)).trans (hold k hk hne)
    have hbx := (hold4 w.heap.size (by omega) hne2).trans HBX.out
    have hgbx : w4.heap[gb]? = wA.heap[gb]? := hold4 gb (by omega) hne1
    have e1 : w4.cell? ⟨gb, o, none⟩ = wA.cell? ⟨gb, o, none⟩ := World.cell?_of_block (by exact hgbx)
    have e2 : w4.cell? ⟨gb, o + 1, none⟩ = wA.cell? ⟨gb, o + 1, none⟩ := World.cell?_of_block (by exact hgbx)
    refine ⟨u2, n2, c2, rfl, ⟨e1.trans kA0, e2.trans kA1⟩, ⟨⟨by rw [cell_at hbx]; rfl, by rw [cell_at hbx]; rfl, by rw [cell_at hbx]; rfl⟩, free_of hbx, free_of hbx, free_of hbx⟩, fun w' hw' => ⟨⟨u2, n2, c2, K2, rfl, h3.on (.grown hw' fun g hg hK2 => ?_), fun g hg => h4 g (h2.1 g hg), fun g hg => ?_⟩, ?_⟩⟩
    · injection hg with hg
      subst hg
      rcases h5 _ hK2 with h | h
      · rcases h2.2 _ h with h | h
        · have := HKL.out _ h; omega
        · omega
      · omega
    · rcases h5 g hg with h | ⟨h, hc⟩
      · rcases h2.2 g h with h | ⟨h, cs, hc⟩
        · exact Or.inl h
        · refine Or.inr ⟨by omega, cs, ?_⟩
          have hl := (Array.getElem?_eq_some_iff.1 hc).1
          have hs4 := hb4.size
          rw [hw'.block g (by omega) (by simp; omega), hb4.block g (by omega), hg3 g hl (by omega)]
          exact hc
      · obtain ⟨cs, hc⟩ := hc
        refine Or.inr ⟨by omega, cs, ?_⟩
        rw [hw'.block g (Array.getElem?_eq_some_iff.1 hc).1 (by simp; omega)]
        exact hc
    · refine ⟨hw'.os.trans (hb4.os.trans (hg.os.trans (hb.os.trans BA.out.os))), hw'.tape.trans (hb4.tape.trans (hg.tape.trans (hb.tape.trans BA.out.tape))), hw'.output.trans (hb4.output.trans (hg.output.trans (hb.output.trans BA.out.output))), by have := hw'.size; have := hb4.size; omega, fun k hk hne => ?_⟩
      rw [hw'.block k (by have := hb4.size; omega) (by simp; omega), hold4 k (by omega) hne, BA.out.block k hk] : Calls Tryz.prog 127 #[.int .i64 5, .slice (some ⟨g3, 0, none⟩) (n + 1) cap3] w3 fun e w4 => ∃ u2 n2 c2, e = .returned (.agg #[.int .i64 r2.op, .string (tx r2.name), .slice u2 n2 c2]) ∧ (w4.cell? ⟨gb, o, none⟩ = some (.slice aa n ac) ∧ w4.cell? ⟨gb, o + 1, none⟩ = some (.slice ap m pc)) ∧ ((w4.cell? ⟨w.heap.size, 0, none⟩ = some (.int .i64 0) ∧ w4.cell? ⟨w.heap.size, 1, none⟩ = some (.string ⟨#[]⟩) ∧ w4.cell? ⟨w.heap.size, 2, none⟩ = some (.slice none 0 0)) ∧ w4.frozen? ⟨w.heap.size, 0, none⟩ = false ∧ w4.frozen? ⟨w.heap.size, 1, none⟩ = false ∧ w4.frozen? ⟨w.heap.size, 2, none⟩ = false) ∧ Hid (∀ w', w4.grownBy w' (some w.heap.size) → TellX K w r2 (.returned (.agg #[.int .i64 r2.op, .string (tx r2.name), .slice u2 n2 c2])) w' ∧ w.grownBy w' (Value.slice aa n ac).ownBlock)))
  have HS3 := hid (fun (w1 w3 : World) (ob : Obj) (hS : w1.cell? ⟨gb, o, none⟩ = some (.slice aa n ac) ∧ w1.cell? ⟨gb, o + 1, none⟩ = some (.slice ap m pc)) (hs : w.heap.size ≤ w1.heap.size) (hg : (w1.alloc ob).grownBy w3 (Value.slice aa n ac).ownBlock) => (by
    have hh : w3.heap[gb]? = w1.heap[gb]? := (hg.block gb (by simp only [World.size_alloc]; omega) (fun e => HVG.out gb e.symm rfl)).trans (Below.heap_alloc _ _ _ (by omega))
    exact ⟨(World.cell?_of_block (by exact hh)).trans hS.1, (World.cell?_of_block (by exact hh)).trans hS.2⟩ : w3.cell? ⟨gb, o, none⟩ = some (.slice aa n ac) ∧ w3.cell? ⟨gb, o + 1, none⟩ = some (.slice ap m pc)))
  have HNE := hid (show gb ≠ w.heap.size by omega)
  have hnb2 : n + 1 ≤ 1000000 := by omega
  clear ha0 hp0
  go_region_held3 (fun w' => w'.cell? ⟨gb, o, none⟩ = some (.slice aa n ac) ∧ w'.cell? ⟨gb, o + 1, none⟩ = some (.slice ap m pc)) (first | (go_keep; done) | exact S3 | exact S1 | exact S4 | exact ⟨(set3_far HNE.out).trans S4.1, (set3_far HNE.out).trans S4.2⟩) (first | (refine step_append_lies _ (by rfl) (.tmp 6) (.tmp 12) 23 (by rfl) B 25 i0 (.agg #[.int .i64 0, .string (tx []), .slice none 0 0]) 3 48 Tryz.underlying23 HI.out HZ0.out HZ1.out HZ2.out rfl (by decide) (.slice aa n ac) n (flatP qs) (by rfl) (by exact HGO.out w1 _ B1.out) ⟨w1.heap.size, 0, none⟩ 1 1 (flatP [(r1, .slice u1 n1 c1)]) (by rfl) (by rfl) (by exact new_cells w1 #[.int .i64 r1.op, .string (tx r1.name), .slice u1 n1 c1] _ _ rfl) (by exact flatP_one fun p hp => by rw [List.mem_singleton.1 hp]; rfl) (by omega) (by unfold maxLen; omega) (by omega) (by have := B1.out.size; simp only [World.size_alloc] at this ⊢; omega) _ (by rfl) ?_; intro g3 cap3 w3 hown3 hgrow3 hat3 hlt3; have HJ3 := hid (HJ2.out w1 w3 u1 n1 c1 g3 cap3 K1 _ B1.out X1.out Y1.out hown3 hgrow3); have S3 : w3.cell? ⟨gb, o, none⟩ = some (.slice aa n ac) ∧ w3.cell? ⟨gb, o + 1, none⟩ = some (.slice ap m pc) := HS3.out w1 w3 _ S1 (by have := B1.out.size; omega) hgrow3) | (go_at_call 127; refine HJ3.out.mono ?_; rintro en w4 ⟨u2, n2, c2, rfl, S4, ⟨⟨x0, x1, x2⟩, y0, y1, y2⟩, T4⟩) | (go_at_call 127; refine HJ1.out.mono ?_; rintro en w1 ⟨u1, n1, c1, K1, rfl, S1, X1, Y1, B1⟩))
  go_wp2
  refine bodyPost_ret (v := .agg #[.int .i64 r2.op, .string (tx r2.name), .slice u2 n2 c2]) (by simp [results, Tryz.results95, go_sem, x0, x1, x2]) rfl ?_
  exact T4.out _ set3_grown
end Go.Proofs.YtagppgncanimaaaGreatDoor
namespace Go.Proofs.YtagppgncanimaaaGreatDoor
open Go.RowKit

/-- A group: its alternatives and its parts, and the values of both rows. -/
structure Grp where
  ahead : Prs
  parts : Prs
  va : Value
  vp : Value
def Grp.blocks (g : Grp) : List Nat := g.va.ownBlock.toList ++ g.vp.ownBlock.toList
def flatG (gs : List Grp) : List Value := gs.flatMap fun g => [g.va, g.vp]
theorem flatG_app (a b : List Grp) : flatG (a ++ b) = flatG a ++ flatG b := by simp [flatG]
theorem flatG_len (gs : List Grp) : (flatG gs).length = gs.length * 2 := by
  induction gs with
  | nil => rfl
  | cons p t ih => show (flatG t).length + 1 + 1 = _; simp [ih]; omega
theorem flatG_last (gi : List Grp) (g : Grp) : (flatG (gi ++ [g]))[gi.length * 2]? = some g.va ∧ (flatG (gi ++ [g]))[gi.length * 2 + 1]? = some g.vp := by
  rw [flatG_app, List.getElem?_append_right (by rw [flatG_len]; omega), List.getElem?_append_right (by rw [flatG_len]; omega), flatG_len]
  simp [flatG]
theorem flatG_setP (gi : List Grp) (g : Grp) (v : Value) (A P : Prs) : (flatG (gi ++ [g])).set (gi.length * 2 + 1) v = flatG (gi ++ [⟨A, P, g.va, v⟩]) := by
  rw [flatG_app, flatG_app, List.set_append_right _ _ (by rw [flatG_len]; omega), flatG_len]
  simp [flatG]
theorem flatG_setA (gi : List Grp) (g : Grp) (v : Value) (A P : Prs) : (flatG (gi ++ [g])).set (gi.length * 2) v = flatG (gi ++ [⟨A, P, v, g.vp⟩]) := by
  rw [flatG_app, flatG_app, List.set_append_right _ _ (by rw [flatG_len]; omega), flatG_len]
  simp [flatG]
/-- The parser. -/
structure PsAt (B : Nat) (w : World) (pb : Nat) (K : Nat → Prop) (vw : Value) (at_ by_ : Nat) (vg : Value) (gs : List Grp) : Prop where
  hB : B ≤ pb
  blk : w.heap[pb]? = some (.cells #[vw, .int .i64 at_, vg, .int .i64 by_] 143 (0, 0))
  own : w.ownsRow B 147 2 vg gs.length (flatG gs)
  kt : ∀ g, K g → ∃ cs, w.heap[g]? = some (.cells cs 25 (0, 0))
  rowA : ∀ g ∈ gs, RowX K w B g.va g.ahead
  rowP : ∀ g ∈ gs, RowX K w B g.vp g.parts
  nd : (gs.flatMap Grp.blocks).Nodup
  free : ∀ g ∈ gs, ∀ b ∈ g.blocks, ¬ K b
  kB : ∀ g, K g → B ≤ g
theorem own_block {w : World} {B : Nat} {e : TypeId} {size : Nat} {v : Value} {n : Nat} {xs : List Value} (h : w.ownsRow B e size v n xs) {g : Nat} (hg : v.ownBlock = some g) : ∃ cs, w.heap[g]? = some (.cells cs e (0, 0)) := by
  rcases h.2 with ⟨e, _⟩ | ⟨g', cap, cur, e, _, hh, _⟩
  · rw [e] at hg; cases hg
  · rw [e] at hg
    simp [Value.ownBlock] at hg
    subst hg
    exact ⟨cur, hh⟩
theorem own_same {w w' : World} {B : Nat} {e : TypeId} {size : Nat} {v : Value} {n : Nat} {xs : List Value} (h : w.ownsRow B e size v n xs) (hv : ∀ g, v.ownBlock = some g → w'.heap[g]? = w.heap[g]?) : w'.ownsRow B e size v n xs := by
  refine ⟨h.1, ?_⟩
  rcases h.2 with hn | ⟨g, cap, cur, rfl, hB, hg, rest⟩
  · exact .inl hn
  · exact .inr ⟨g, cap, cur, rfl, hB, (hv g rfl).trans hg, rest⟩
theorem PsAt.lt {B : Nat} {w : World} {pb : Nat} {K : Nat → Prop} {vw : Value} {a b : Nat} {vg : Value} {gs : List Grp} (h : PsAt B w pb K vw a b vg gs) : ∀ g, K g → g < w.heap.size := fun g hg => by
  obtain ⟨cs, hc⟩ := h.kt g hg
  exact (Array.getElem?_eq_some_iff.1 hc).1
theorem PsAt.pbl {B : Nat} {w : World} {pb : Nat} {K : Nat → Prop} {vw : Value} {a b : Nat} {vg : Value} {gs : List Grp} (h : PsAt B w pb K vw a b vg gs) : pb < w.heap.size := (Array.getElem?_eq_some_iff.1 h.blk).1
/-- All else stays. -/
theorem PsAt.below {B : Nat} {w w' : World} {pb : Nat} {K : Nat → Prop} {vw : Value} {a b : Nat} {vg : Value} {gs : List Grp} (h : PsAt B w pb K vw a b vg gs) (hb : Below w.heap.size w w') : PsAt B w' pb K vw a b vg gs :=
  ⟨h.hB, (hb.block _ h.pbl).trans h.blk, own_same h.own fun g hg => hb.block g (h.own.lt g hg).2, fun g hg => by
    obtain ⟨cs, hc⟩ := h.kt g hg
    exact ⟨cs, (hb.block g (h.lt g hg)).trans hc⟩, fun g hg => (h.rowA g hg).below hb, fun g hg => (h.rowP g hg).below hb, h.nd, h.free, h.kB⟩
/-- The cells that a walk reads. -/
theorem PsAt.cells {B : Nat} {w : World} {pb : Nat} {K : Nat → Prop} {vw : Value} {a b : Nat} {vg : Value} {gs : List Grp} (h : PsAt B w pb K vw a b vg gs) : (w.cell? ⟨pb, 0, none⟩ = some vw ∧ w.cell? ⟨pb, 1, none⟩ = some (.int .i64 a) ∧ w.cell? ⟨pb, 2, none⟩ = some vg ∧ w.cell? ⟨pb, 3, none⟩ = some (.int .i64 b)) ∧ (w.frozen? ⟨pb, 1, none⟩ = false ∧ w.frozen? ⟨pb, 2, none⟩ = false ∧ w.frozen? ⟨pb, 3, none⟩ = false) :=
  ⟨⟨by rw [cell_at h.blk]; rfl, by rw [cell_at h.blk]; rfl, by rw [cell_at h.blk]; rfl, by rw [cell_at h.blk]; rfl⟩, free_of h.blk, free_of h.blk, free_of h.blk⟩
theorem PsAt.last {B : Nat} {w : World} {pb : Nat} {K : Nat → Prop} {vw : Value} {a b : Nat} {vg : Value} {gi : List Grp} {g : Grp} (h : PsAt B w pb K vw a b vg (gi ++ [g])) : ∃ gb cap, vg = .slice (some ⟨gb, 0, none⟩) (gi.length + 1) cap ∧ B ≤ gb ∧ gb < w.heap.size ∧ gb ≠ pb ∧ (∃ cs, w.heap[gb]? = some (.cells cs 147 (0, 0))) ∧ w.cell? ⟨gb, gi.length * 2, none⟩ = some g.va ∧ w.cell? ⟨gb, gi.length * 2 + 1, none⟩ = some g.vp ∧ w.frozen? ⟨gb, gi.length * 2, none⟩ = false ∧ w.frozen? ⟨gb, gi.length * 2 + 1, none⟩ = false ∧ gi.length + 1 ≤ cap := by
  obtain ⟨gb, cap, e, hg, hl, hc⟩ := ownX_form h.own (by simp)
  obtain ⟨cs, hcs⟩ := own_block h.own (g := gb) (by rw [e]; rfl)
  have hcap : gi.length + 1 ≤ cap := by
    rcases h.own.2 with ⟨_, e0⟩ | ⟨g', cap', cur, e', _, _, hnc, _⟩
    · simp at e0
    · rw [e] at e'; cases e'; simpa using hnc
  obtain ⟨f0, f1⟩ := flatG_last gi g
  exact ⟨gb, cap, by rw [e]; simp, hg, hl, ne_typeX hcs h.blk (by decide), ⟨cs, hcs⟩, hc _ _ f0, hc _ _ f1, free_of hcs, free_of hcs, hcap⟩
theorem ownBlock_mem {v : Value} {b : Nat} : b ∈ v.ownBlock.toList ↔ v.ownBlock = some b := by simp
theorem blocks_mem {g : Grp} {b : Nat} : b ∈ g.blocks ↔ g.va.ownBlock = some b ∨ g.vp.ownBlock = some b := by simp [Grp.blocks]
theorem PsAt.type {B : Nat} {w : World} {pb : Nat} {K : Nat → Prop} {vw : Value} {a b : Nat} {vg : Value} {gs : List Grp} (h : PsAt B w pb K vw a b vg gs) {g : Grp} (hg : g ∈ gs) {k : Nat} (hk : k ∈ g.blocks) : ∃ cs, w.heap[k]? = some (.cells cs 25 (0, 0)) := by
  rcases blocks_mem.1 hk with hk | hk
  · exact (h.rowA g hg).block hk
  · exact (h.rowP g hg).block hk
/-- The last group was changed. -/
theorem PsAt.upd {B : Nat} {w w' : World} {pb : Nat} {K K' : Nat → Prop} {vw : Value} {a b : Nat} {vg : Value} {gi : List Grp} {g g' : Grp} (h : PsAt B w pb K vw a b vg (gi ++ [g]))
    (hb : ∀ k, k < w.heap.size → k ∉ g.blocks → vg.ownBlock ≠ some k → w'.heap[k]? = w.heap[k]?) (hs : w.heap.size ≤ w'.heap.size)
    (hown : w'.ownsRow B 147 2 vg (gi.length + 1) (flatG (gi ++ [g']))) (hK : ∀ k, K k → K' k) (hK' : ∀ k, K' k → K k ∨ w.heap.size ≤ k ∧ ∃ cs, w'.heap[k]? = some (.cells cs 25 (0, 0)))
    (hA : RowX K' w' B g'.va g'.ahead) (hP : RowX K' w' B g'.vp g'.parts) (hnd : g'.blocks.Nodup) (hbl : ∀ k ∈ g'.blocks, k ∈ g.blocks ∨ w.heap.size ≤ k) (hfr : ∀ k ∈ g'.blocks, ¬ K' k) : PsAt B w' pb K' vw a b vg (gi ++ [g']) := by
  have hgm : g ∈ gi ++ [g] := by simp
  have hnd0 := h.nd
  rw [List.flatMap_append, List.nodup_append] at hnd0
  obtain ⟨hn1, hn2, hn3⟩ := hnd0
  have hge : List.flatMap Grp.blocks [g] = g.blocks := by simp
  rw [hge] at hn2 hn3
  have hvt : ∀ k, vg.ownBlock = some k → ∃ cs, w.heap[k]? = some (.cells cs 147 (0, 0)) := fun k hk => own_block h.own hk
  have keepR : ∀ k, k < w.heap.size → (∃ cs, w.heap[k]? = some (.cells cs 25 (0, 0))) → k ∉ g.blocks → w'.heap[k]? = w.heap[k]? := fun k hk ⟨cs, hc⟩ hn => hb k hk hn fun e => by
    obtain ⟨cs', hc'⟩ := hvt k e
    exact ne_typeX hc hc' (by decide) rfl
  have keepK : KeepK K w w' := ⟨hs, fun k hk hl => keepR k hl (h.kt k hk) (fun hm => h.free g hgm k hm hk)⟩
  have rest : ∀ x ∈ gi, ∀ k ∈ x.blocks, w'.heap[k]? = w.heap[k]? := fun x hx k hk => by
    have hxm : x ∈ gi ++ [g] := by simp [hx]
    have ht := h.type hxm hk
    obtain ⟨cs, hc⟩ := ht
    exact keepR k (Array.getElem?_eq_some_iff.1 hc).1 ⟨cs, hc⟩ fun hm => hn3 k (List.mem_flatMap.2 ⟨x, hx, hk⟩) k hm rfl
  refine ⟨h.hB, ?_, by simpa using hown, fun k hk => ?_, fun x hx => ?_, fun x hx => ?_, ?_, fun x hx k hk => ?_, fun k hk => (hK' k hk).elim (h.kB k) fun h2 => by have := h.pbl; have := h.hB; omega⟩
  · rw [hb pb h.pbl (fun hm => ?_) (fun e => ?_)]
    · exact h.blk
    · obtain ⟨cs, hc⟩ := h.type hgm hm
      exact ne_typeX h.blk hc (by decide) rfl
    · obtain ⟨cs, hc⟩ := hvt pb e
      exact ne_typeX h.blk hc (by decide) rfl
  · rcases hK' k hk with hk | ⟨_, hc⟩
    · obtain ⟨cs, hc⟩ := h.kt k hk
      exact ⟨cs, (keepK.2 k hk (h.lt k hk)).trans hc⟩
    · exact hc
  · rcases List.mem_append.1 hx with hx | hx
    · exact ((h.rowA x (by simp [hx])).on keepK fun k hk => rest x hx k (blocks_mem.2 (Or.inl hk))).mono hK (Nat.le_refl _)
    · rw [List.mem_singleton.1 hx]; exact hA
  · rcases List.mem_append.1 hx with hx | hx
    · exact ((h.rowP x (by simp [hx])).on keepK fun k hk => rest x hx k (blocks_mem.2 (Or.inr hk))).mono hK (Nat.le_refl _)
    · rw [List.mem_singleton.1 hx]; exact hP
  · rw [List.flatMap_append, List.nodup_append]
    refine ⟨hn1, by simpa using hnd, fun k hk k' hk' => ?_⟩
    rintro rfl
    simp only [List.flatMap_cons, List.flatMap_nil, List.append_nil] at hk'
    obtain ⟨x, hx, hkx⟩ := List.mem_flatMap.1 hk
    rcases hbl k hk' with hm | hm
    · exact hn3 k hk k hm rfl
    · obtain ⟨cs, hc⟩ := h.type (g := x) (by simp [hx]) hkx
      have := (Array.getElem?_eq_some_iff.1 hc).1
      omega
  · rcases List.mem_append.1 hx with hx | hx
    · intro hkk
      rcases hK' k hkk with hkk | ⟨hkk, _⟩
      · exact h.free x (by simp [hx]) k hk hkk
      · obtain ⟨cs, hc⟩ := h.type (g := x) (by simp [hx]) hk
        have := (Array.getElem?_eq_some_iff.1 hc).1
        omega
    · rw [List.mem_singleton.1 hx] at hk; exact hfr k hk
/-- Words that lie somewhere: their texts. -/
def WdAt (w : World) (v : Value) (ts : List (List UInt8)) : Prop := ∃ ao cap, v = .slice ao ts.length cap ∧ (ts = [] ∨ ∃ g o, ao = some ⟨g, o, none⟩ ∧ g < w.heap.size ∧ ∀ (i : Nat) (t : List UInt8), ts[i]? = some t → w.cell? ⟨g, o + i * 3, none⟩ = some (.string (tx t)))
theorem WdAt.on {w w' : World} {v : Value} {ts : List (List UInt8)} (h : WdAt w v ts) (hb : Below w.heap.size w w') : WdAt w' v ts := by
  obtain ⟨ao, cap, e, q⟩ := h
  refine ⟨ao, cap, e, ?_⟩
  rcases q with q | ⟨g, o, e2, hg, hc⟩
  · exact Or.inl q
  · exact Or.inr ⟨g, o, e2, Nat.lt_of_lt_of_le hg hb.size, fun i t ht => (hb.cell (by exact hg)).trans (hc i t ht)⟩
end Go.Proofs.YtagppgncanimaaaGreatDoor
namespace Go.Proofs.YtagppgncanimaaaGreatDoor
open Go.RowKit

/-- A spot. -/
inductive Sp where
  | mk (op : Int) (name : List UInt8) (kids : List Sp) (em en : Bool)
def Sp.op : Sp → Int
  | .mk o _ _ _ _ => o
def Sp.name : Sp → List UInt8
  | .mk _ n _ _ _ => n
def Sp.kids : Sp → List Sp
  | .mk _ _ k _ _ => k
def Sp.em : Sp → Bool
  | .mk _ _ _ e _ => e
def Sp.en : Sp → Bool
  | .mk _ _ _ _ e => e
theorem Sp.ind {P : Sp → Prop} (h : ∀ s, (∀ k ∈ s.kids, P k) → P s) (s : Sp) : P s :=
  Sp.rec (motive_1 := P) (motive_2 := fun l => ∀ k ∈ l, P k) (fun o n ks e f ih => h (.mk o n ks e f) ih) (fun k hk => absurd hk (by simp)) (fun a l ha hl k hk => by
    rcases List.mem_cons.1 hk with rfl | hk
    · exact ha
    · exact hl k hk) s
/-- Is the empty path one of a node with these kids? -/
def noneS (op : Int) (ks : List Sp) : Bool := if op = 6 ∨ op = 8 then true else if op = 4 then ks.all Sp.em else ks.any Sp.em
/-- The spot of an expression. -/
def Sp.of : Rx → Sp
  | .mk o n ks => .mk o n (ks.map Sp.of) (noneS o (ks.map Sp.of)) false
theorem Sp.of_eq (r : Rx) : Sp.of r = .mk r.op r.name (r.kids.map Sp.of) (noneS r.op (r.kids.map Sp.of)) false := by
  cases r
  rw [Sp.of]; rfl
/-- With which of them a path may begin, one behind the other. -/
def firsts : Bool → List Sp → List Bool
  | _, [] => []
  | f, k :: ks => f :: firsts (k.en || f && k.em) ks
/-- Does a path end behind these, one behind the other? -/
def endsR (ks : List Sp) : Bool := ks.foldl (fun e k => k.en || e && k.em) false
/-- A device is taken. -/
def Sp.take (fit : Int → List UInt8 → Bool) : Sp → Bool → Sp
  | .mk o n ks em en, f =>
    let ts := ks.map (Sp.take fit)
    if o = 4 then .mk o n (List.zipWith (fun t b => t b) ts (firsts f ks)) em (endsR (List.zipWith (fun t b => t b) ts (firsts f ks)))
    else if o = 5 ∨ o = 6 ∨ o = 7 ∨ o = 8 then .mk o n (ts.map fun t => t (if o = 6 ∨ o = 7 then f || en else f)) em ((ts.map fun t => t (if o = 6 ∨ o = 7 then f || en else f)).any Sp.en)
    else .mk o n ks em (f && fit o n)
theorem Sp.take_eq (fit : Int → List UInt8 → Bool) (s : Sp) (f : Bool) : s.take fit f =
    if s.op = 4 then .mk s.op s.name (List.zipWith (fun t b => t b) (s.kids.map (Sp.take fit)) (firsts f s.kids)) s.em (endsR (List.zipWith (fun t b => t b) (s.kids.map (Sp.take fit)) (firsts f s.kids)))
    else if s.op = 5 ∨ s.op = 6 ∨ s.op = 7 ∨ s.op = 8 then .mk s.op s.name ((s.kids.map (Sp.take fit)).map fun t => t (if s.op = 6 ∨ s.op = 7 then f || s.en else f)) s.em (((s.kids.map (Sp.take fit)).map fun t => t (if s.op = 6 ∨ s.op = 7 then f || s.en else f)).any Sp.en)
    else .mk s.op s.name s.kids s.em (f && fit s.op s.name) := by
  cases s
  rw [Sp.take]; rfl
theorem Sp.take_op (fit : Int → List UInt8 → Bool) (s : Sp) (f : Bool) : (s.take fit f).op = s.op ∧ (s.take fit f).name = s.name ∧ (s.take fit f).em = s.em := by
  rw [s.take_eq]
  split
  · exact ⟨rfl, rfl, rfl⟩
  · split <;> exact ⟨rfl, rfl, rfl⟩

/-- The cells of a spot, in a block's cells. -/
def SpC (cs : Array Value) (o : Nat) (k : Sp) (v : Value) : Prop := cs[o]? = some (.int .i64 k.op) ∧ cs[o + 1]? = some (.string (tx k.name)) ∧ cs[o + 2]? = some v ∧ cs[o + 3]? = some (.bool k.em) ∧ cs[o + 4]? = some (.bool k.en)
/-- A list of spots in memory; the blocks in which they and theirs lie. -/
inductive SpS (w : World) : Value → List Sp → List Nat → Prop where
  | nil (ao : Option Addr) (cap : Nat) : SpS w (.slice ao 0 cap) [] []
  | some (g cap : Nat) (ks : List Sp) (vs : List Value) (bss : List (List Nat)) (cs : Array Value) (hg : w.heap[g]? = .some (.cells cs 76 (0, 0))) (hl : vs.length = ks.length) (hb : bss.length = ks.length)
      (hc : ∀ (i : Nat) (k : Sp) (v : Value), ks[i]? = .some k → vs[i]? = .some v → SpC cs (i * 5) k v)
      (hk : ∀ (i : Nat) (k : Sp) (v : Value) (b : List Nat), ks[i]? = .some k → vs[i]? = .some v → bss[i]? = .some b → SpS w v k.kids b) (nd : (g :: bss.flatten).Nodup) : SpS w (.slice (.some ⟨g, 0, none⟩) ks.length cap) ks (g :: bss.flatten)
theorem SpS.on {w w' : World} {v : Value} {ks : List Sp} {bs : List Nat} (h : SpS w v ks bs) : (∀ k ∈ bs, w'.heap[k]? = w.heap[k]?) → SpS w' v ks bs := by
  induction h with
  | nil ao cap => exact fun _ => .nil ao cap
  | some g cap ks vs bss cs hg hl hb hc _ nd ih =>
    intro hw
    refine .some g cap ks vs bss cs ((hw g (by simp)).trans hg) hl hb hc (fun i k v b h1 h2 h3 => ih i k v b h1 h2 h3 fun x hx => hw x ?_) nd
    exact List.mem_cons_of_mem _ (List.mem_flatten.2 ⟨b, List.mem_of_getElem? h3, hx⟩)
theorem SpS.lt {w : World} {v : Value} {ks : List Sp} {bs : List Nat} (h : SpS w v ks bs) : ∀ k ∈ bs, k < w.heap.size := by
  induction h with
  | nil ao cap => exact fun k hk => absurd hk (by simp)
  | some g cap ks vs bss cs hg hl hb hc _ nd ih =>
    intro k hk
    rcases List.mem_cons.1 hk with rfl | hk
    · exact (Array.getElem?_eq_some_iff.1 hg).1
    · obtain ⟨b, hb1, hb2⟩ := List.mem_flatten.1 hk
      obtain ⟨i, hi⟩ := List.getElem?_of_mem hb1
      have hi1 := (List.getElem?_eq_some_iff.1 hi).1
      exact ih i (ks[i]'(by omega)) (vs[i]'(by omega)) b (List.getElem?_eq_getElem _) (List.getElem?_eq_getElem _) hi k hb2
/-- A list of spots that is not empty. -/
theorem SpS.at {w : World} {v : Value} {ks : List Sp} {bs : List Nat} (h : SpS w v ks bs) : (ks = [] ∧ bs = [] ∧ ∃ ao cap, v = .slice ao 0 cap) ∨ ∃ (g cap : Nat) (vs : List Value) (bss : List (List Nat)) (cs : Array Value), v = .slice (Option.some ⟨g, 0, none⟩) ks.length cap ∧ bs = g :: bss.flatten ∧ w.heap[g]? = Option.some (.cells cs 76 (0, 0)) ∧ vs.length = ks.length ∧ bss.length = ks.length ∧ (∀ (i : Nat) (k : Sp) (v : Value), ks[i]? = Option.some k → vs[i]? = Option.some v → SpC cs (i * 5) k v) ∧ (∀ (i : Nat) (k : Sp) (v : Value) (b : List Nat), ks[i]? = Option.some k → vs[i]? = Option.some v → bss[i]? = Option.some b → SpS w v k.kids b) ∧ bs.Nodup := by
  cases h with
  | nil ao cap => exact Or.inl ⟨rfl, rfl, ao, cap, rfl⟩
  | some g cap ks vs bss cs hg hl hb hc hk nd => exact Or.inr ⟨g, cap, vs, bss, cs, rfl, rfl, hg, hl, hb, hc, hk, nd⟩
theorem SpS.form {w : World} {v : Value} {ks : List Sp} {bs : List Nat} (h : SpS w v ks bs) : ∃ ao cap, v = .slice ao ks.length cap := by
  cases h with
  | nil ao cap => exact ⟨ao, cap, rfl⟩
  | some g cap ks vs bss cs hg hl hb hc hk nd => exact ⟨_, cap, rfl⟩
theorem SpC.set {cs : Array Value} {o : Nat} {k k' : Sp} {v : Value} (h : SpC cs o k v) (h1 : k'.op = k.op) (h2 : k'.name = k.name) (h3 : k'.em = k.em) : SpC (cs.setIfInBounds (o + 4) (.bool k'.en)) o k' v := by
  obtain ⟨a, b, c, d, e⟩ := h
  have hl := (Array.getElem?_eq_some_iff.1 e).1
  refine ⟨?_, ?_, ?_, ?_, ?_⟩
  · rw [Array.getElem?_setIfInBounds_ne (by omega), h1]; exact a
  · rw [Array.getElem?_setIfInBounds_ne (by omega), h2]; exact b
  · rw [Array.getElem?_setIfInBounds_ne (by omega)]; exact c
  · rw [Array.getElem?_setIfInBounds_ne (by omega), h3]; exact d
  · rw [Array.getElem?_setIfInBounds_self_of_lt hl]
theorem SpC.far {cs : Array Value} {o p : Nat} {k : Sp} {v x : Value} (h : SpC cs o k v) (hp : p < o ∨ o + 4 < p) : SpC (cs.setIfInBounds p x) o k v := by
  obtain ⟨a, b, c, d, e⟩ := h
  exact ⟨by rw [Array.getElem?_setIfInBounds_ne (by omega)]; exact a, by rw [Array.getElem?_setIfInBounds_ne (by omega)]; exact b, by rw [Array.getElem?_setIfInBounds_ne (by omega)]; exact c, by rw [Array.getElem?_setIfInBounds_ne (by omega)]; exact d, by rw [Array.getElem?_setIfInBounds_ne (by omega)]; exact e⟩
theorem flatten_apart {bss : List (List Nat)} (h : bss.flatten.Nodup) : ∀ {i j : Nat} {a b : List Nat}, i ≠ j → bss[i]? = some a → bss[j]? = some b → ∀ x ∈ a, x ∉ b := by
  induction bss with
  | nil => intro i j a b _ h1; simp at h1
  | cons c t ih =>
    rw [List.flatten_cons, List.nodup_append] at h
    obtain ⟨_, h2, h3⟩ := h
    intro i j a b hij ha hb x hx hxb
    cases i with
    | zero =>
      cases j with
      | zero => exact hij rfl
      | succ j =>
        simp at ha
        subst ha
        exact h3 x hx x (List.mem_flatten.2 ⟨b, List.mem_of_getElem? (by simpa using hb), hxb⟩) rfl
    | succ i =>
      cases j with
      | zero =>
        simp at hb
        subst hb
        exact h3 x hxb x (List.mem_flatten.2 ⟨a, List.mem_of_getElem? (by simpa using ha), hx⟩) rfl
      | succ j => exact ih h2 (i := i) (j := j) (fun e => hij (by omega)) (by simpa using ha) (by simpa using hb) x hx hxb
/-- One of a list was changed. -/
theorem spS_upd {w w' : World} {g cap : Nat} {ks : List Sp} {vs : List Value} {bss : List (List Nat)} {cs : Array Value} {i : Nat} {k k' : Sp} {v : Value} {b : List Nat} (_hg : w.heap[g]? = some (.cells cs 76 (0, 0))) (hl : vs.length = ks.length) (hb : bss.length = ks.length)
    (hc : ∀ (i : Nat) (k : Sp) (v : Value), ks[i]? = some k → vs[i]? = some v → SpC cs (i * 5) k v) (hk : ∀ (i : Nat) (k : Sp) (v : Value) (b : List Nat), ks[i]? = some k → vs[i]? = some v → bss[i]? = some b → SpS w v k.kids b) (nd : (g :: bss.flatten).Nodup)
    (hi : ks[i]? = some k) (hv : vs[i]? = some v) (hbi : bss[i]? = some b) (h1 : k'.op = k.op) (h2 : k'.name = k.name) (h3 : k'.em = k.em)
    (hg' : w'.heap[g]? = some (.cells (cs.setIfInBounds (i * 5 + 4) (.bool k'.en)) 76 (0, 0))) (hs : SpS w' v k'.kids b) (hr : ∀ x ∈ bss.flatten, x ∉ b → w'.heap[x]? = w.heap[x]?) : SpS w' (.slice (some ⟨g, 0, none⟩) (ks.set i k').length cap) (ks.set i k') (g :: bss.flatten) := by
  have hil := (List.getElem?_eq_some_iff.1 hi).1
  refine SpS.some g cap (ks.set i k') vs bss _ hg' (by simpa using hl) (by simpa using hb) (fun j kj vj hj hvj => ?_) (fun j kj vj bj hj hvj hbj => ?_) nd
  · by_cases e : i = j
    · subst e
      rw [List.getElem?_set_self hil] at hj
      cases hj
      rw [hv] at hvj
      cases hvj
      exact (hc i k v hi hv).set h1 h2 h3
    · rw [List.getElem?_set_ne e] at hj
      exact (hc j kj vj hj hvj).far (by omega)
  · by_cases e : i = j
    · subst e
      rw [List.getElem?_set_self hil] at hj
      cases hj
      rw [hv] at hvj
      cases hvj
      rw [hbi] at hbj
      cases hbj
      exact hs
    · rw [List.getElem?_set_ne e] at hj
      refine (hk j kj vj bj hj hvj hbj).on fun x hx => hr x (List.mem_flatten.2 ⟨bj, List.mem_of_getElem? hbj, hx⟩) fun hxb => ?_
      exact flatten_apart (List.nodup_cons.1 nd).2 e hbi hbj x hxb hx
end Go.Proofs.YtagppgncanimaaaGreatDoor
