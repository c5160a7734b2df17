/-
  The program's spotOf.
  The parser's divide.
  The parser's end.
-/
import Derived.Test.YtagppgncanimaaaGreatDoorZNoneAnd
import Derived.Deep.DeepCutAuto
namespace Go.Proofs.YtagppgncanimaaaGreatDoor
open Go.RowKit

/-- The last group is gone; new lists may have come. -/
theorem PsAt.popped {B : Nat} {w w' : World} {pb : Nat} {K K' : Nat → Prop} {vw : Value} {a b gb cap : Nat} {gi : List Grp} {g : Grp} (h : PsAt B w pb K vw a b (.slice (some ⟨gb, 0, none⟩) (gi.length + 1) cap) (gi ++ [g]))
    (hb : ∀ k, k < w.heap.size → k ≠ pb → g.va.ownBlock ≠ some k → w'.heap[k]? = w.heap[k]?) (hs : w.heap.size ≤ w'.heap.size) (blk : w'.heap[pb]? = some (.cells #[vw, .int .i64 a, .slice (some ⟨gb, 0, none⟩) gi.length cap, .int .i64 b] 143 (0, 0)))
    (hK : ∀ k, K k → K' k) (hK' : ∀ k, K' k → K k ∨ w.heap.size ≤ k ∧ ∃ cs, w'.heap[k]? = some (.cells cs 25 (0, 0))) : PsAt B w' pb K' vw a b (.slice (some ⟨gb, 0, none⟩) gi.length cap) gi := by
  have hgm : g ∈ gi ++ [g] := by simp
  have hnd0 := h.nd
  rw [List.flatMap_append, List.nodup_append] at hnd0
  obtain ⟨hn1, hn2, hn3⟩ := hnd0
  have hge : List.flatMap Grp.blocks [g] = g.blocks := by simp
  rw [hge] at hn2 hn3
  have keepR : ∀ k : Nat, (∃ cs, w.heap[k]? = some (.cells cs 25 (0, 0))) → g.va.ownBlock ≠ some k → w'.heap[k]? = w.heap[k]? := fun k ⟨cs, hc⟩ hv => hb k (Array.getElem?_eq_some_iff.1 hc).1 (ne_typeX hc h.blk (by decide)) hv
  have keepK : KeepK K w w' := ⟨hs, fun k hk _ => keepR k (h.kt k hk) fun e => h.free g hgm k (blocks_mem.2 (Or.inl e)) hk⟩
  have rest : ∀ x ∈ gi, ∀ k ∈ x.blocks, w'.heap[k]? = w.heap[k]? := fun x hx k hk => keepR k (h.type (g := x) (by simp [hx]) hk) fun e => hn3 k (List.mem_flatMap.2 ⟨x, hx, hk⟩) k (blocks_mem.2 (Or.inl e)) rfl
  refine ⟨h.hB, blk, ?_, fun k hk => ?_, fun x hx => ?_, fun x hx => ?_, hn1, fun x hx k hk => ?_, fun k hk => (hK' k hk).elim (h.kB k) fun h2 => by have := h.pbl; have := h.hB; omega⟩
  · have h1 := h.own
    refine ⟨flatG_len gi, Or.inr ?_⟩
    rcases h1.2 with ⟨e, _⟩ | ⟨g', c', cur, e, hB, hg, hnc, hcm, hcs, ht⟩
    · cases e
    · rw [List.length_append] at e hnc ht
      simp only [List.length_cons, List.length_nil, Nat.zero_add] at e
      cases e
      refine ⟨gb, cap, cur, rfl, hB, ?_, by simp at hnc; omega, hcm, hcs, ?_⟩
      · rw [hb gb (Array.getElem?_eq_some_iff.1 hg).1 (ne_typeX hg h.blk (by decide)) (fun e => by
          obtain ⟨cs, hc⟩ := (h.rowA g hgm).block e
          exact ne_typeX hg hc (by decide) rfl)]
        exact hg
      · have := congrArg (List.take (gi.length * 2)) ht
        rw [List.take_take, Nat.min_eq_left (by simp; omega)] at this
        rw [this, flatG_app, List.take_append_of_le_length (by rw [flatG_len]; exact Nat.le_refl _), List.take_of_length_le (by rw [flatG_len]; exact Nat.le_refl _)]
  · rcases hK' k hk with hk | ⟨_, hc⟩
    · obtain ⟨cs, hc⟩ := h.kt k hk
      exact ⟨cs, (keepK.2 k hk (h.lt k hk)).trans hc⟩
    · exact hc
  · exact ((h.rowA x (by simp [hx])).on keepK fun k hk => rest x hx k (blocks_mem.2 (Or.inl hk))).mono hK (Nat.le_refl _)
  · exact ((h.rowP x (by simp [hx])).on keepK fun k hk => rest x hx k (blocks_mem.2 (Or.inr hk))).mono hK (Nat.le_refl _)
  · intro hkk
    rcases hK' k hkk with hkk | ⟨hkk, _⟩
    · exact h.free x (by simp [hx]) k hk hkk
    · obtain ⟨cs, hc⟩ := h.type (g := x) (by simp [hx]) hk
      have := (Array.getElem?_eq_some_iff.1 hc).1
      omega

set_option maxRecDepth 20000 in
set_option maxHeartbeats 2000000 in
theorem end_any {B : Nat} {w : World} {pb : Nat} {vw : Value} {a b : Nat} {Gi : List (List Rx × List Rx)} {A0 P0 A P : List Rx} (h : PS B w pb vw a b (Gi ++ [(A0, P0)] ++ [(A, P)])) (hn : Gi.length ≤ 49) (hp0 : P0.length ≤ 1000000) (hP : P ≠ [] ∨ A = [] ∧ P = []) (hnn : nodesL A + nodesL P ≤ 900000) :
    Calls Tryz.prog 120 #[.pointer (some ⟨pb, 0, none⟩)] w fun en w' => StPost B w pb vw a b (Gi ++ [(A0, P0 ++ [wholeR A P])]) en w' := by
  obtain ⟨K, vg, gs, h, habs⟩ := h
  obtain ⟨gs1, g, rfl, hgs1, hga, hgp⟩ := abs_last habs
  obtain ⟨gi, g0, rfl, hgi, hga0, hgp0⟩ := abs_last hgs1
  obtain ⟨gb, cap, rfl, hgB, hgl, hgpb, ⟨csg, hgb⟩, k0, k1, -, -, hcap⟩ := h.last
  have hgm : g ∈ gi ++ [g0] ++ [g] := by simp
  have hrA := h.rowA g hgm
  have hrP := h.rowP g hgm
  obtain ⟨aa, ac, hva⟩ := own_form hrA.own
  obtain ⟨pa, pc, hvp⟩ := own_form hrP.own
  obtain ⟨na, hna⟩ : ∃ na, na = g.ahead.length := ⟨_, rfl⟩
  obtain ⟨np, hnp⟩ : ∃ np, np = g.parts.length := ⟨_, rfl⟩
  rw [← hna] at hva
  rw [← hnp] at hvp
  obtain ⟨N, hN⟩ : ∃ N, N = (gi ++ [g0]).length := ⟨_, rfl⟩
  have hNl : N = Gi.length + 1 := by rw [hN, ← hgi]; simp
  rw [hva, ← hN] at k0
  rw [hvp, ← hN] at k1
  have hnA : na = A.length := by rw [hna, ← hga]; simp
  have hnP : np = P.length := by rw [hnp, ← hgp]; simp
  have HL := hid (last_any (n := N) (N := (gi ++ [g0]).length + 1) h.cells.1.2.2.1 (by omega) (by omega))
  have H := hid h
  have HC := hid (fun (W : World) (hb : Below w.heap.size w W) => (by
    obtain ⟨⟨p0, p1, p2, p3⟩, q1, q2, q3⟩ := (h.below hb).cells
    rw [← hN] at p2
    exact ⟨⟨(hb.cell (by exact hgl)).trans k0, (hb.cell (by exact hgl)).trans k1⟩, p2, q2⟩ : (W.cell? ⟨gb, N * 2, none⟩ = some (.slice aa na ac) ∧ W.cell? ⟨gb, N * 2 + 1, none⟩ = some (.slice pa np pc)) ∧ W.cell? ⟨pb, 2, none⟩ = some (.slice (some ⟨gb, 0, none⟩) (N + 1) cap) ∧ W.frozen? ⟨pb, 2, none⟩ = false))
  have HW := hid (fun (W : World) (hb : Below w.heap.size w W) => (by
    have h1 := h.below hb
    have hx := whole_any (K := K) (w := W) (B := B) (gb := gb) (o := N * 2) (va := g.va) (vp := g.vp) (qs := g.ahead) (ps := g.parts) ((hb.block gb hgl).trans hgb) (by rw [hva]; exact (hb.cell (by exact hgl)).trans k0) (by rw [hvp]; exact (hb.cell (by exact hgl)).trans k1) (h1.rowA g hgm) (h1.rowP g hgm).lie h1.lt (fun k hk => h1.free g hgm k (blocks_mem.2 (Or.inl hk))) (by have := h1.pbl; have := h1.hB; omega) (by rw [hga, hgp]; exact hnn)
    rw [hga, hgp] at hx
    exact hx : Calls Tryz.prog 95 #[.pointer (some ⟨gb, N * 2, none⟩)] W fun e w' => TellX K W (wholeR A P) e w' ∧ W.grownBy w' g.va.ownBlock))
  have HO := hid (fun (W : World) (h2 : W.cell? ⟨pb, 2, none⟩ = some (.slice (some ⟨gb, 0, none⟩) (N + 1) cap)) => (by
    have := open_any h2 (by omega)
    rw [show (((N + 1 : Nat) : Int) - 1) = (N : Int) by omega] at this
    exact this : Calls Tryz.prog 93 #[.pointer (some ⟨pb, 0, none⟩)] W fun e w' => e = .returned (.int .i64 N) ∧ W = w'))
  have hN0 : (0 : Int) < (N : Int) := by omega
  have hN50 : ¬ (50 : Int) < (N : Int) := by omega
  have hNc : (N : Int) ≤ (cap : Int) := by omega
  have hNz : (0 : Int) ≤ (N : Int) := by omega
  obtain ⟨r, hr⟩ : ∃ r, r = wholeR A P := ⟨_, rfl⟩
  have HRR := hid hr
  rw [← hr] at HW
  have HX := hid (show (0 < np) ∨ (na = 0 ∧ np = 0) by
    rcases hP with h | ⟨h1, h2⟩
    · exact Or.inl (by rw [hnP]; exact List.length_pos_iff.2 h)
    · exact Or.inr (by rw [hnA, hnP, h1, h2]; exact ⟨rfl, rfl⟩))
  have HFIN := hid (fun (w1 w4 : World) (u : Option Addr) (n c : Nat) (K' : Nat → Prop) (hb1 : Below w.heap.size w w1) (hg : w1.grownBy w4 g.va.ownBlock) (hX : RxK K' w4 (.slice u n c) r.kids) (hY : (∀ g, K g → K' g) ∧ ∀ g, K' g → K g ∨ w1.heap.size ≤ g ∧ ∃ cs, w4.heap[g]? = some (.cells cs 25 (0, 0))) => (by
    have h1 := h.below hb1
    have hpbne : g.va.ownBlock ≠ some pb := fun e => by
      obtain ⟨cs, hc⟩ := (h1.rowA g hgm).block e
      exact ne_typeX hc h1.blk (by decide) rfl
    have hpb4 : w4.heap[pb]? = some (.cells #[vw, .int .i64 a, .slice (some ⟨gb, 0, none⟩) (N + 1) cap, .int .i64 b] 143 (0, 0)) := by
      rw [hg.block pb h1.pbl (fun e => hpbne e.symm), h1.blk, hN]
    refine ⟨hpb4, fun ob W hW blk => ?_⟩
    have hs4 := hg.size
    have hWs : w4.heap.size + 1 ≤ W.heap.size := by have := hW.size; simpa using this
    have hW4 : ∀ k, k < w4.heap.size → k ≠ pb → W.heap[k]? = w4.heap[k]? := fun k hk hne => (hW.block k (by simp only [World.size_alloc]; omega) (by simpa using hne)).trans (Below.heap_alloc _ _ _ hk)
    have hne4 : ∀ k, K' k → k ≠ pb := fun k hk => by
      rcases hY.2 k hk with hk | ⟨hk, _⟩
      · obtain ⟨cs, hc⟩ := h1.kt k hk
        exact ne_typeX hc h1.blk (by decide)
      · have := h1.pbl; omega
    have hpop : PsAt B W pb K' vw a b (.slice (some ⟨gb, 0, none⟩) (gi ++ [g0]).length cap) (gi ++ [g0]) := by
      refine h1.popped (fun k hl hk hv => ?_) (by omega) (by rw [← hN]; exact blk) hY.1 (fun k hk => ?_)
      · rw [hW4 k (by omega) hk, hg.block k hl (fun e => hv e.symm)]
      · rcases hY.2 k hk with hk1 | ⟨hk1, cs, hc⟩
        · exact Or.inl hk1
        · exact Or.inr ⟨hk1, cs, (hW4 k (Array.getElem?_eq_some_iff.1 hc).1 (hne4 k hk)).trans hc⟩
    have hXW : RxK K' W (.slice u n c) r.kids := hX.on ⟨by omega, fun k hk hl => hW4 k hl (hne4 k hk)⟩
    refine (put_any hpop hXW (by have : gi.length = Gi.length := by rw [← hgi]; simp
                                 omega) (by rw [← List.length_map (f := Prod.fst), hgp0]; exact hp0)).mono ?_
    rintro en w' ⟨rfl, v', hps, hbl⟩
    refine ⟨rfl, ⟨_, _, _, hps, ?_⟩, ?_⟩
    · simp [Grp.abs, hgi, hga0, hgp0, hr]
    · have hBw : B ≤ w.heap.size := by have := h.pbl; have := h.hB; omega
      have b1 : Below B w w1 := hb1.mono hBw
      have b4 : Below B w w4 := b1.grown hg (by have := hb1.size; omega) fun k hk => ((h1.rowA g hgm).own.lt k hk).1
      have b5 : Below B w (w4.alloc ob) := b4.alloc (by have := hb1.size; omega) ob
      have b6 : Below B w W := b5.grown hW (by have := hb1.size; simp only [World.size_alloc]; omega) fun k hk => by
        injection hk with hk
        rw [← hk]; exact h.hB
      exact b6.trans hbl : w4.heap[pb]? = some (.cells #[vw, .int .i64 a, .slice (some ⟨gb, 0, none⟩) (N + 1) cap, .int .i64 b] 143 (0, 0)) ∧ Hid (∀ (ob : Obj) (W : World), (w4.alloc ob).grownBy W (some pb) → W.heap[pb]? = some (.cells #[vw, .int .i64 a, .slice (some ⟨gb, 0, none⟩) N cap, .int .i64 b] 143 (0, 0)) → Calls Tryz.prog 124 #[.pointer (some ⟨pb, 0, none⟩), .agg #[.int .i64 r.op, .string (tx r.name), .slice u n c]] W fun en w' => StPost B w pb vw a b (Gi ++ [(A0, P0 ++ [r])]) en w')))
  have HSET := hid (fun (w4 : World) (ob : Obj) (h4 : w4.heap[pb]? = some (.cells #[vw, .int .i64 a, .slice (some ⟨gb, 0, none⟩) (N + 1) cap, .int .i64 b] 143 (0, 0))) => (by
    have hl := (Array.getElem?_eq_some_iff.1 h4).1
    refine ⟨⟨rfl, rfl, rfl, by simp [World.drew], fun k hk hne => ?_⟩, ?_⟩
    · show ((w4.setCell ⟨pb, 2, none⟩ (.slice (some ⟨gb, 0, none⟩) N cap)).alloc ob).heap[k]? = _
      by_cases hk4 : k < w4.heap.size
      · rw [Below.heap_alloc _ _ _ (by simpa using hk4), Below.heap_alloc _ _ _ hk4, Below.heap_setCell _ _ _ _ (fun e => hne (by rw [e]))]
      · have hk5 : k = w4.heap.size := by simp only [World.size_alloc] at hk; omega
        have e1 := new_0 w4 ob
        have e2 := new_0 (w4.setCell ⟨pb, 2, none⟩ (.slice (some ⟨gb, 0, none⟩) N cap)) ob
        rw [show (w4.setCell ⟨pb, 2, none⟩ (.slice (some ⟨gb, 0, none⟩) N cap)).heap.size = w4.heap.size by simp] at e2
        rw [hk5, e1, e2]
    · show ((w4.setCell ⟨pb, 2, none⟩ (.slice (some ⟨gb, 0, none⟩) N cap)).alloc ob).heap[pb]? = _
      rw [Below.heap_alloc _ _ _ (by simpa using hl), heap_setCell_same w4 pb 2 _ _ (.slice (some ⟨gb, 0, none⟩) N cap) h4]; rfl : (w4.alloc ob).grownBy ((w4.setCell ⟨pb, 2, none⟩ (.slice (some ⟨gb, 0, none⟩) N cap)).alloc ob).drew (some pb) ∧ ((w4.setCell ⟨pb, 2, none⟩ (.slice (some ⟨gb, 0, none⟩) N cap)).alloc ob).drew.heap[pb]? = some (.cells #[vw, .int .i64 a, .slice (some ⟨gb, 0, none⟩) N cap, .int .i64 b] 143 (0, 0))))
  rw [← hr]
  have HNN := hid hN
  have HGI := hid hgi
  have HGA := hid hga0
  have HGP := hid hgp0
  clear h habs hgs1 hga hgp hrA hrP hna hnp hnA hnP hN hgi hga0 hgp0 hva hvp k0 k1 hr hP hgb hnn hNl
  have hcs : (na = 0 ∧ np = 0) ∨ (na = 0 ∧ 0 < np) ∨ (0 < na ∧ 0 < np) := by have := HX.out; omega
  have hb3 : ∃ x y z : Bool, ((na : Int) == 0) = x ∧ ((np : Int) == 0) = y ∧ decide (0 < np) = z ∧ ((x = true ∧ y = true ∧ z = false) ∨ (x = true ∧ y = false ∧ z = true) ∨ (x = false ∧ y = false ∧ z = true)) := by
    refine ⟨_, _, _, rfl, rfl, rfl, ?_⟩
    rcases hcs with ⟨h1, h2⟩ | ⟨h1, h2⟩ | ⟨h1, h2⟩
    · left; simp [h1, h2]
    · right; left; simp [h1]; omega
    · right; right; simp; omega
  obtain ⟨x, y, z, b1, b2, b3, hxyz⟩ := hb3
  clear hcs HX
  rcases hxyz with ⟨rfl, rfl, rfl⟩ | ⟨rfl, rfl, rfl⟩ | ⟨rfl, rfl, rfl⟩
  all_goals (
    go_enter Tryz.func120, Tryz.ntmps120
    go_wp2_with fail
    refine HL.out.mono ?_
    rintro en w1 ⟨rfl, hb1⟩
    obtain ⟨⟨z0, z1⟩, z2, f2⟩ := HC.out _ hb1
    have B1 := hid hb1
    clear hb1 HL
    go_wp2_with fail
    refine (HO.out _ z2).mono ?_
    rintro en w2 ⟨rfl, rfl⟩
    go_wp2_with fail
    try rw [b3]
    refine must_true.mono ?_
    rintro en w2 ⟨rfl, rfl⟩
    go_wp2_with fail
    refine (HW.out _ B1.out).mono ?_
    rintro en w4 ⟨ht, hg⟩
    obtain ⟨u, n, c, K', rfl, X4, Y4⟩ := ht
    obtain ⟨K4, hX4, hY4⟩ : ∃ K4, RxK K4 w4 (.slice u n c) r.kids ∧ ((∀ g, K g → K4 g) ∧ ∀ g, K4 g → K g ∨ w1.heap.size ≤ g ∧ ∃ cs, w4.heap[g]? = some (.cells cs 25 (0, 0))) := ⟨K', X4.out, Y4.out⟩
    clear X4 Y4
    obtain ⟨hpb4, HPUT⟩ := HFIN.out w1 w4 u n c K4 B1.out hg hX4 hY4
    clear hg hX4 hY4 z0 z1 z2 f2
    have t2 : ∀ o, (w4.alloc o).cell? ⟨pb, 2, none⟩ = some (.slice (some ⟨gb, 0, none⟩) (N + 1) cap) := fun o => by rw [cell_at (new_old _ o hpb4)]; rfl
    have t2' : ∀ o, (w4.alloc o).drew.cell? ⟨pb, 2, none⟩ = some (.slice (some ⟨gb, 0, none⟩) (N + 1) cap) := t2
    have s2 : ∀ o, (w4.alloc o).frozen? ⟨pb, 2, none⟩ = false := fun o => free_of (new_old _ o hpb4)
    have hpl4 : pb < w4.heap.size := (Array.getElem?_eq_some_iff.1 hpb4).1
    have hpb4' := hid hpb4
    clear hpb4
    go_wp2_with fail
    refine (HO.out _ (t2 _)).mono ?_
    rintro en w5 ⟨rfl, rfl⟩
    go_wp2_with fail
    go_region_with (go_at_call 93; refine (HO.out _ (t2' _)).mono ?_; rintro en w6 ⟨rfl, rfl⟩)
    all_goals (
      go_wp2_with fail
      refine (HPUT.out _ _ (HSET.out _ _ hpb4'.out).1 (HSET.out _ _ hpb4'.out).2).mono ?_
      rintro en w7 hst
      obtain rfl : en = .returned (.tuple #[]) := hst.1
      have HST := hid hst
      clear hst
      go_wp2
      exact bodyPost_end (v := .tuple #[]) (by simp [results, Tryz.results120, go_sem]) rfl HST.out))
end Go.Proofs.YtagppgncanimaaaGreatDoor
namespace Go.Proofs.YtagppgncanimaaaGreatDoor
open Go.RowKit

/-- What is known behind the append: all but the alternatives' row is as it was; a new expression lies there. -/
structure Div3 (B : Nat) (w w3 : World) (K K2 : Nat → Prop) (va : Value) (r : Rx) (vr : Value) (xs : List Value) (na g3 cap3 : Nat) : Prop where
  size : w.heap.size ≤ w3.heap.size
  os : w3.os = w.os
  tape : w3.tape = w.tape
  output : w3.output = w.output
  rest : ∀ k, k < w.heap.size → va.ownBlock ≠ some k → w3.heap[k]? = w.heap[k]?
  up : ∀ k, K k → K2 k
  down : ∀ k, K2 k → K k ∨ w.heap.size ≤ k ∧ ∃ cs, w3.heap[k]? = some (.cells cs 25 (0, 0))
  kids : RxK K2 w3 vr r.kids
  row : w3.ownsRow B 25 3 (.slice (some ⟨g3, 0, none⟩) (na + 1) cap3) (na + 1) (xs ++ [.int .i64 0, .string (tx []), .slice none 0 0])
  at_ : va.ownBlock = some g3 ∨ w.heap.size ≤ g3 ∧ ¬ K2 g3

set_option maxRecDepth 20000 in
set_option maxHeartbeats 10000000 in
theorem divide_any {B : Nat} {w : World} {pb : Nat} {vw : Value} {a b : Nat} {Gi : List (List Rx × List Rx)} {A P : List Rx} (h : PS B w pb vw a b (Gi ++ [(A, P)])) (hn : Gi.length ≤ 100000) (hP : P ≠ []) (hnn : nodesL A + nodesL P ≤ 900000) :
    Calls Tryz.prog 121 #[.pointer (some ⟨pb, 0, none⟩)] w fun en w' => StPost B w pb vw a b (Gi ++ [(A ++ [joinR 4 P], [])]) en w' := by
  obtain ⟨i0, hi, hz0, hz1, hz2⟩ := info_parts Tryz.infoRegX
  have HI := hid hi
  have HZ0 := hid hz0
  have HZ1 := hid hz1
  have HZ2 := hid hz2
  clear hi hz0 hz1 hz2
  obtain ⟨K, vg, gs, h, habs⟩ := h
  obtain ⟨gi, g, rfl, hgi, hga, hgp⟩ := abs_last habs
  obtain ⟨gb, cap, rfl, hgB, hgl, hgpb, ⟨csg, hgb⟩, k0, k1, f0, f1, hcap⟩ := h.last
  have hgm : g ∈ gi ++ [g] := by simp
  have hrA := h.rowA g hgm
  have hrP := h.rowP g hgm
  obtain ⟨aa, ac, hva⟩ := own_form hrA.own
  obtain ⟨pa, pc, hvp⟩ := own_form hrP.own
  obtain ⟨na, hna⟩ : ∃ na, na = g.ahead.length := ⟨_, rfl⟩
  obtain ⟨np, hnp⟩ : ∃ np, np = g.parts.length := ⟨_, rfl⟩
  rw [← hna] at hva
  rw [← hnp] at hvp
  obtain ⟨N, hN⟩ : ∃ N, N = gi.length := ⟨_, rfl⟩
  have hNl : N = Gi.length := by rw [hN, ← hgi]; simp
  rw [hva, ← hN] at k0
  rw [hvp, ← hN] at k1
  rw [← hN] at f0 f1
  have hnP : np = P.length := by rw [hnp, ← hgp]; simp
  have hnA : na = A.length := by rw [hna, ← hga]; simp
  have hnA' := length_le A
  have hnb : na ≤ 900000 := by omega
  have hP0 : 0 < np := by rw [hnP]; exact List.length_pos_iff.2 hP
  have HL := hid (last_any (n := N) (N := gi.length + 1) h.cells.1.2.2.1 (by omega) (by omega))
  obtain ⟨r, hr⟩ : ∃ r, r = joinR 4 P := ⟨_, rfl⟩
  have hHC : ∀ (W : World) (hb : Below w.heap.size w W), (W.cell? ⟨gb, N * 2, none⟩ = some (.slice aa na ac) ∧ W.cell? ⟨gb, N * 2 + 1, none⟩ = some (.slice pa np pc)) ∧ W.frozen? ⟨gb, N * 2, none⟩ = false ∧ W.frozen? ⟨gb, N * 2 + 1, none⟩ = false := fun W hb => ⟨⟨(hb.cell (by exact hgl)).trans k0, (hb.cell (by exact hgl)).trans k1⟩, (hb.frozen (by exact hgl)).trans f0, (hb.frozen (by exact hgl)).trans f1⟩
  have HC := hid hHC
  have HJ := hid (fun (W : World) (hb : Below w.heap.size w W) => (by
    have h1 := h.below hb
    have hx := join_any (op := 4) (h1.rowP g hgm).lie (by rw [hgp]; omega)
    rw [hgp, hvp, ← hr] at hx
    exact hx : Calls Tryz.prog 127 #[.int .i64 4, .slice pa np pc] W fun e w' => TellX K W r e w' ∧ Below W.heap.size W w'))
  have H := hid h
  rw [← hr]
  have HVA := hid hva
  have HVP := hid hvp
  have HNA := hid hna
  have HNN := hid hN
  have HGI := hid hgi
  have HGA := hid hga
  have HGP := hid hgp
  clear h habs hrA hrP hva hvp hna hnp hN hgi hga hgp k0 k1 f0 f1 hr hP hnP hnA hnA' hnn hgb hHC hNl hn
  go_enter Tryz.func121, Tryz.ntmps121
  go_wp2_with fail
  refine HL.out.mono ?_
  rintro en w1 ⟨rfl, hb1⟩
  obtain ⟨⟨z0, z1⟩, y0, y1⟩ := HC.out _ hb1
  have B1 := hid hb1
  clear hb1 HL
  go_wp2_with fail
  try rw [show decide (0 < np) = true from decide_eq_true hP0]
  refine must_true.mono ?_
  rintro en w2 ⟨rfl, rfl⟩
  have hw1 := B1.out.size
  have hgl1 : gb < w1.heap.size := by omega
  have z0' : ∀ o, (w1.alloc o).cell? ⟨gb, N * 2, none⟩ = some (.slice aa na ac) := fun o => (HC.out _ (B1.out.alloc hw1 o)).1.1
  have z1' : ∀ o, (w1.alloc o).cell? ⟨gb, N * 2 + 1, none⟩ = some (.slice pa np pc) := fun o => (HC.out _ (B1.out.alloc hw1 o)).1.2
  have hBw : B ≤ w.heap.size := by have := H.out.pbl; have := H.out.hB; omega
  have HJX := hid (fun (W : World) (hb : Below w.heap.size w W) => (by
    refine (HJ.out W hb).mono ?_
    rintro e w2 ⟨⟨u, n, c, K2, rfl, h1, h2⟩, hb2⟩
    have hbw := below_2x hb hb2
    exact ⟨u, n, c, K2, rfl, (HC.out _ hbw).1, fun o => (HC.out _ (hbw.alloc hbw.size o)).1, h1, h2, hb2⟩ : Calls Tryz.prog 127 #[.int .i64 4, .slice pa np pc] W fun e w2 => ∃ u n c K2, e = .returned (.agg #[.int .i64 r.op, .string (tx r.name), .slice u n c]) ∧ (w2.cell? ⟨gb, N * 2, none⟩ = some (.slice aa na ac) ∧ w2.cell? ⟨gb, N * 2 + 1, none⟩ = some (.slice pa np pc)) ∧ (∀ o, (w2.alloc o).cell? ⟨gb, N * 2, none⟩ = some (.slice aa na ac) ∧ (w2.alloc o).cell? ⟨gb, N * 2 + 1, none⟩ = some (.slice pa np pc)) ∧ Hid (RxK K2 w2 (.slice u n c) r.kids) ∧ Hid ((∀ g, K g → K2 g) ∧ ∀ g, K2 g → K g ∨ W.heap.size ≤ g ∧ ∃ cs, w2.heap[g]? = some (.cells cs 25 (0, 0))) ∧ Hid (Below W.heap.size W w2)))
  have HRO := hid (fun (W : World) (hb : Below w.heap.size w W) => (by
    have h2 := ((H.out.rowA g hgm).below hb).own
    rw [HVA.out, ← HNA.out] at h2
    exact h2 : W.ownsRow B 25 3 (.slice aa na ac) na (flatP g.ahead)))
  have HD3 := hid (fun (W w2 X w3 : World) (u : Option Addr) (n c g3 cap3 : Nat) (K2 : Nat → Prop) (hb : Below w.heap.size w W) (hX : RxK K2 w2 (.slice u n c) r.kids) (hY : (∀ g, K g → K2 g) ∧ ∀ g, K2 g → K g ∨ W.heap.size ≤ g ∧ ∃ cs, w2.heap[g]? = some (.cells cs 25 (0, 0))) (hb2 : Below W.heap.size W w2) (hb3 : Below w2.heap.size w2 X) (hown : w3.ownsRow B 25 3 (.slice (some ⟨g3, 0, none⟩) (na + 1) cap3) (na + 1) (flatP g.ahead ++ [.int .i64 0, .string (tx []), .slice none 0 0])) (hg : X.grownBy w3 (Value.slice aa na ac).ownBlock) (hat : (Value.slice aa na ac).ownBlock = some g3 ∨ g3 = X.heap.size) => (by
    have hbX := below_2x (below_2x hb hb2) hb3
    have hs1 := hb.size
    have hs2 := hb2.size
    have hs3 := hb3.size
    have hs4 := hg.size
    have hvl : ∀ k, (Value.slice aa na ac).ownBlock = some k → k < w.heap.size ∧ ¬ K k := fun k hk => by
      rw [← HVA.out] at hk
      exact ⟨((H.out.rowA g hgm).own.lt k hk).2, H.out.free g hgm k (blocks_mem.2 (Or.inl hk))⟩
    have hnew : ∀ k, w.heap.size ≤ k → k < w2.heap.size → w3.heap[k]? = w2.heap[k]? := fun k h1 h2 => by
      rw [hg.block k (by omega) (fun e => by have := (hvl k e.symm).1; omega), hb3.block k h2]
    refine ⟨by omega, hg.os.trans hbX.os, hg.tape.trans hbX.tape, hg.output.trans hbX.output, fun k hk hv => ?_, hY.1, fun k hk => ?_, ?_, hown, ?_⟩
    · rw [HVA.out] at hv
      rw [hg.block k (by omega) (fun e => hv e.symm), hbX.block k hk]
    · rcases hY.2 k hk with h1 | ⟨h1, cs, hc⟩
      · exact Or.inl h1
      · exact Or.inr ⟨by omega, cs, (hnew k (by omega) (Array.getElem?_eq_some_iff.1 hc).1).trans hc⟩
    · refine hX.on ⟨by omega, fun k hk hl => ?_⟩
      rw [hg.block k (by omega) (fun e => by
        have := hvl k e.symm
        rcases hY.2 k hk with h1 | ⟨h1, _⟩
        · exact this.2 h1
        · omega), hb3.block k hl]
    · rcases hat with e | e
      · exact Or.inl (by rw [HVA.out]; exact e)
      · refine Or.inr ⟨by omega, fun hk => ?_⟩
        rcases hY.2 g3 hk with h1 | ⟨h1, cs, hc⟩
        · have := H.out.lt g3 h1; omega
        · have := (Array.getElem?_eq_some_iff.1 hc).1; omega : Div3 B w w3 K K2 g.va r (.slice u n c) (flatP g.ahead) na g3 cap3))
  have HQ := hid (fun (w3 : World) (u : Option Addr) (n c g3 cap3 : Nat) (K2 : Nat → Prop) (hd : Div3 B w w3 K K2 g.va r (.slice u n c) (flatP g.ahead) na g3 cap3) => (by
    obtain ⟨csg, hgb⟩ := own_block H.out.own (g := gb) rfl
    have hne : g.va.ownBlock ≠ some gb := fun e => by
      obtain ⟨cs, hc⟩ := (H.out.rowA g hgm).block e
      exact ne_typeX hc hgb (by decide) rfl
    have hh : w3.heap[gb]? = w.heap[gb]? := hd.rest gb hgl hne
    obtain ⟨⟨x0, x1⟩, x2, x3⟩ := HC.out w (Below.refl _ _)
    have hl : (flatP g.ahead).length = na * 3 := by rw [flatP_len, HNA.out]
    obtain ⟨g', c', e, _, _, hc⟩ := ownX_form hd.row (by omega)
    cases e
    have hg3 : ¬ g3 = gb := by
      rcases hd.at_ with e | e
      · intro e2; rw [e2] at e; exact hne e
      · omega
    refine ⟨⟨(World.cell?_of_block (by exact hh)).trans x0, (World.cell?_of_block (by exact hh)).trans x1⟩, ⟨(World.frozen?_of_block (by exact hh)).trans x2, (World.frozen?_of_block (by exact hh)).trans x3⟩, ⟨hc _ _ ?_, hc _ _ ?_, hc _ _ ?_⟩, ⟨hd.row.frozenAt _, hd.row.frozenAt _, hd.row.frozenAt _⟩, hg3, fun e => hg3 e.symm⟩
    · rw [List.getElem?_append_right (by omega), hl]; simp
    · rw [List.getElem?_append_right (by omega), hl]; simp
    · rw [List.getElem?_append_right (by omega), hl]; simp : (w3.cell? ⟨gb, N * 2, none⟩ = some (.slice aa na ac) ∧ w3.cell? ⟨gb, N * 2 + 1, none⟩ = some (.slice pa np pc)) ∧ (w3.frozen? ⟨gb, N * 2, none⟩ = false ∧ w3.frozen? ⟨gb, N * 2 + 1, none⟩ = false) ∧ (w3.cell? ⟨g3, na * 3, none⟩ = some (.int .i64 0) ∧ w3.cell? ⟨g3, na * 3 + 1, none⟩ = some (.string (tx [])) ∧ w3.cell? ⟨g3, na * 3 + 2, none⟩ = some (.slice none 0 0)) ∧ (w3.frozen? ⟨g3, na * 3, none⟩ = false ∧ w3.frozen? ⟨g3, na * 3 + 1, none⟩ = false ∧ w3.frozen? ⟨g3, na * 3 + 2, none⟩ = false) ∧ ¬ g3 = gb ∧ ¬ gb = g3))
  have hnI : (na : Int) < (na : Int) + 1 := by omega
  have hnI0 : (0 : Int) ≤ (na : Int) := by omega
  have HBX := hid (fun (W : World) (o : Obj) (hb : Below w.heap.size w W) => (by have := hb.size; simp only [World.size_alloc]; omega : B ≤ (W.alloc o).heap.size))
  have HBY := hid (fun (W : World) (hb : Below w.heap.size w W) => (by have := hb.size; omega : B ≤ W.heap.size))
  have HZB := hid (fun (w2 : World) (hb : Below (w1.alloc (.cells #[.int .i64 0, .string (tx []), .slice none 0 0] 25)).drew.heap.size (w1.alloc (.cells #[.int .i64 0, .string (tx []), .slice none 0 0] 25)).drew w2) => (by
    intro j u hj
    have h0 := new_cells w1 #[.int .i64 0, .string (tx []), .slice none 0 0] 25 _ rfl j u hj
    have e : (⟨w1.heap.size, 0, none⟩ : Addr).add j = ⟨w1.heap.size, j, none⟩ := by unfold Addr.add; split <;> simp_all
    rw [e] at h0 ⊢
    rw [hb.cell (by show w1.heap.size < (w1.alloc _).heap.size; simp)]
    exact h0 : ∀ j u, ([.int .i64 0, .string (tx []), .slice none 0 0] : List Value)[j]? = some u → w2.cell? ((⟨w1.heap.size, 0, none⟩ : Addr).add j) = some u))
  have BD := hid (show Below w.heap.size w w1.drew from B1.out.drew)
  have BE := hid (fun (o : Obj) => (show Below w.heap.size w (w1.alloc o).drew from (B1.out.alloc hw1 o).drew))
  have HPL := hid (show (flatP g.ahead).length = na * 3 by rw [flatP_len, HNA.out])
  have HGW := hid (fun (w3 : World) (u : Option Addr) (n c g3 cap3 : Nat) (K2 : Nat → Prop) (hd : Div3 B w w3 K K2 g.va r (.slice u n c) (flatP g.ahead) na g3 cap3) => (by
    have h3 : w.ownsRow B 147 2 (.slice (some ⟨gb, 0, none⟩) (gi.length + 1) cap) (gi.length + 1) (flatG (gi ++ [g])) := by have := H.out.own; simpa using this
    obtain ⟨csg, hgb⟩ := own_block H.out.own (g := gb) rfl
    refine own_same h3 fun k hk => ?_
    have hk' : gb = k := by simpa [Value.ownBlock] using hk
    subst hk'
    refine hd.rest gb hgl fun e => ?_
    obtain ⟨cs, hc⟩ := (H.out.rowA g hgm).block e
    exact ne_typeX hc hgb (by decide) rfl : w3.ownsRow B 147 2 (.slice (some ⟨gb, 0, none⟩) (gi.length + 1) cap) (gi.length + 1) (flatG (gi ++ [g]))))
  have HFIN := hid (fun (w3 : World) (u : Option Addr) (n c g3 cap3 : Nat) (K2 : Nat → Prop) (hd : Div3 B w w3 K K2 g.va r (.slice u n c) (flatP g.ahead) na g3 cap3) (W : World) (hW : Stored B w3 W gb g3 na cap3 (gi.length + 1) cap (N * 2) (flatP g.ahead) (flatG (gi ++ [g])) (.slice (some ⟨g3, 0, none⟩) (na + 1) cap3) (.int .i64 r.op) (.string (tx r.name)) (.slice u n c)) => (by
    have hne : g.va.ownBlock ≠ some gb := fun e => by
      obtain ⟨csg, hgb⟩ := own_block H.out.own (g := gb) rfl
      obtain ⟨cs, hc⟩ := (H.out.rowA g hgm).block e
      exact ne_typeX hc hgb (by decide) rfl
    have hg3 : g3 ≠ gb := by
      rcases hd.at_ with e | e
      · intro e2; rw [e2] at e; exact hne e
      · omega
    obtain ⟨V, hV⟩ : ∃ V, V = W.setCell ⟨gb, N * 2 + 1, none⟩ (.slice none 0 0) := ⟨_, rfl⟩
    rw [← hV]
    have hVs : V.heap.size = w3.heap.size := by rw [hV]; simp [hW.size]
    have hVr : ∀ k, k ≠ gb → k ≠ g3 → V.heap[k]? = w3.heap[k]? := fun k h1 h2 => by
      rw [hV, Below.heap_setCell _ _ _ _ (by exact h1), hW.rest k h1 h2]
    have hrest : ∀ k, k < w.heap.size → k ≠ gb → g.va.ownBlock ≠ some k → V.heap[k]? = w.heap[k]? := fun k hk h1 h2 => by
      rw [hVr k h1 (by
        rcases hd.at_ with e | e
        · intro e2; rw [← e2] at e; exact h2 e
        · omega), hd.rest k hk h2]
    have hG2 : V.ownsRow B 147 2 (.slice (some ⟨gb, 0, none⟩) (gi.length + 1) cap) (gi.length + 1) (flatG (gi ++ [⟨g.ahead ++ [(r, Value.slice u n c)], [], .slice (some ⟨g3, 0, none⟩) (na + 1) cap3, .slice none 0 0⟩])) := by
      have h1 := hW.field
      rw [HNN.out, flatG_setA gi g (.slice (some ⟨g3, 0, none⟩) (na + 1) cap3) (g.ahead ++ [(r, Value.slice u n c)]) []] at h1
      have h2 := (h1.stored (gi.length * 2 + 1) (.slice none 0 0)).1
      rw [flatG_setP gi _ (.slice none 0 0) (g.ahead ++ [(r, Value.slice u n c)]) []] at h2
      rw [hV, HNN.out]
      exact h2
    have hrow : V.ownsRow B 25 3 (.slice (some ⟨g3, 0, none⟩) (na + 1) cap3) (na + 1) (flatP g.ahead ++ [.int .i64 r.op, .string (tx r.name), .slice u n c]) := by
      rw [hV]
      exact own_farX hW.row (by simp [Value.ownBlock]; exact hg3)
    have hK3 : ∀ k, K2 k → k < w3.heap.size → V.heap[k]? = w3.heap[k]? := fun k hk hl => by
      refine hVr k (fun e => ?_) (fun e => ?_)
      · rcases hd.down k hk with h1 | h1
        · obtain ⟨csg, hgb⟩ := own_block H.out.own (g := gb) rfl
          obtain ⟨cs, hc⟩ := H.out.kt k h1
          exact ne_typeX hc hgb (by decide) e
        · omega
      · rcases hd.at_ with e2 | e2
        · rcases hd.down k hk with h1 | h1
          · exact H.out.free g hgm k (blocks_mem.2 (Or.inl (by rw [e]; exact e2))) h1
          · have := ((H.out.rowA g hgm).own.lt g3 e2).2; omega
        · exact e2.2 (by rw [← e]; exact hk)
    have hkeep : KeepK K w V := ⟨by rw [hVs]; exact hd.size, fun k hk hl => hrest k hl (by
      obtain ⟨csg, hgb⟩ := own_block H.out.own (g := gb) rfl
      obtain ⟨cs, hc⟩ := H.out.kt k hk
      exact ne_typeX hc hgb (by decide)) (fun e => H.out.free g hgm k (blocks_mem.2 (Or.inl e)) hk)⟩
    have hps : PsAt B V pb K2 vw a b (.slice (some ⟨gb, 0, none⟩) (gi.length + 1) cap) (gi ++ [⟨g.ahead ++ [(r, Value.slice u n c)], [], .slice (some ⟨g3, 0, none⟩) (na + 1) cap3, .slice none 0 0⟩]) := by
      refine H.out.upd (fun k hl hn hv => hrest k hl (fun e => hv (by rw [e]; rfl)) (fun e => hn (blocks_mem.2 (Or.inl e)))) (by rw [hVs]; exact hd.size) hG2 hd.up (fun k hk => ?_) ⟨?_, fun p hp => ?_⟩ (RowX.nil _ _ _) (by simp [Grp.blocks, Value.ownBlock]) (fun k hk => ?_) (fun k hk => ?_)
      · rcases hd.down k hk with h1 | ⟨h1, cs, hc⟩
        · exact Or.inl h1
        · exact Or.inr ⟨h1, cs, (hK3 k hk (Array.getElem?_eq_some_iff.1 hc).1).trans hc⟩
      · show V.ownsRow B 25 3 (.slice (some ⟨g3, 0, none⟩) (na + 1) cap3) (g.ahead ++ [(r, Value.slice u n c)]).length (flatP (g.ahead ++ [(r, Value.slice u n c)]))
        rw [flatP_app, List.length_append, ← HNA.out]
        exact hrow
      · rcases List.mem_append.1 hp with hp | hp
        · exact (((H.out.rowA g hgm).kids p hp).on hkeep).mono hd.up
        · rw [List.mem_singleton.1 hp]
          exact hd.kids.on ⟨by rw [hVs]; exact Nat.le_refl _, hK3⟩
      · rcases blocks_mem.1 hk with hk | hk
        · have hk' : g3 = k := by simpa [Value.ownBlock] using hk
          subst hk'
          rcases hd.at_ with e | e
          · exact Or.inl (blocks_mem.2 (Or.inl e))
          · exact Or.inr e.1
        · simp [Value.ownBlock] at hk
      · rcases blocks_mem.1 hk with hk | hk
        · have hk' : g3 = k := by simpa [Value.ownBlock] using hk
          subst hk'
          rcases hd.at_ with e | e
          · intro h2
            rcases hd.down g3 h2 with h1 | h1
            · exact H.out.free g hgm g3 (blocks_mem.2 (Or.inl e)) h1
            · have := ((H.out.rowA g hgm).own.lt g3 e).2; omega
          · exact e.2
        · simp [Value.ownBlock] at hk
    refine ⟨rfl, ⟨_, _, _, hps, ?_⟩, ?_⟩
    · simp [Grp.abs, HGI.out, HGA.out]
    · have hvB : ∀ k, g.va.ownBlock = some k → B ≤ k := fun k hk => ((H.out.rowA g hgm).own.lt k hk).1
      have hos : V.os = W.os := by rw [hV]; rfl
      have htp : V.tape = W.tape := by rw [hV]; rfl
      have hou : V.output = W.output := by rw [hV]; rfl
      exact ⟨hos.trans (hW.os.trans hd.os), htp.trans (hW.tape.trans hd.tape), hou.trans (hW.output.trans hd.output), by rw [hVs]; exact hd.size, fun k hk => hrest k (by omega) (by omega) (fun e => by have := hvB k e; omega)⟩ : StPost B w pb vw a b (Gi ++ [(A ++ [r], [])]) (.returned (.tuple #[])) (W.setCell ⟨gb, N * 2 + 1, none⟩ (.slice none 0 0))))
  have HQR := hid (fun (w3 : World) {u : Option Addr} {n c g3 cap3 : Nat} (W : World) (hW : Stored B w3 W gb g3 na cap3 (gi.length + 1) cap (N * 2) (flatP g.ahead) (flatG (gi ++ [g])) (.slice (some ⟨g3, 0, none⟩) (na + 1) cap3) (.int .i64 r.op) (.string (tx r.name)) (.slice u n c)) => (by
    obtain ⟨g', c', e, _, _, hc⟩ := ownX_form hW.field (by omega)
    cases e
    refine ⟨hc _ _ ?_, hW.field.frozenAt _⟩
    rw [HNN.out, List.getElem?_set_ne (by omega), (flatG_last gi g).2, HVP.out] : W.cell? ⟨gb, N * 2 + 1, none⟩ = some (.slice pa np pc) ∧ W.frozen? ⟨gb, N * 2 + 1, none⟩ = false))
  go_upto_region 2 with fail
  go_cut [] (fun wx => Hid (∃ w3 u n c g3 cap3 K2, Div3 B w w3 K K2 g.va r (.slice u n c) (flatP g.ahead) na g3 cap3 ∧ Stored B w3 wx gb g3 na cap3 (gi.length + 1) cap (N * 2) (flatP g.ahead) (flatG (gi ++ [g])) (.slice (some ⟨g3, 0, none⟩) (na + 1) cap3) (.int .i64 r.op) (.string (tx r.name)) (.slice u n c)))
  case first =>
    go_region_law (first
    | (refine step_append_lies _ (by rfl) (.tmp 16) (.tmp 23) 23 (by rfl) B 25 i0 (.agg #[.int .i64 0, .string (tx []), .slice none 0 0]) 3 48 Tryz.underlying23 HI.out HZ0.out HZ1.out HZ2.out rfl (by decide) (.slice aa na ac) na (flatP g.ahead) (by rfl) (by exact HRO.out _ ((below_2x BD.out BJ.out).alloc (below_2x BD.out BJ.out).size _)) ⟨w2.heap.size, 0, none⟩ 1 1 [.int .i64 0, .string (tx []), .slice none 0 0] (by rfl) (by rfl) (by exact new_cells w2 #[.int .i64 0, .string (tx []), .slice none 0 0] _ _ rfl) (by simp [Value.oneCell']) (by omega) (by unfold maxLen; omega) (by omega) (by exact HBX.out _ _ (below_2x BD.out BJ.out)) _ (by rfl) ?_; intro g3 cap3 w3 hown3 hgrow3 hat3 hlt3; have D3 := hid (HD3.out _ _ _ _ _ _ _ _ _ _ BD.out X2.out Y2.out BJ.out ((Below.refl _ _).alloc (Nat.le_refl _) _) hown3 hgrow3 hat3); clear hown3 hgrow3 hat3; obtain ⟨⟨q0, q1⟩, ⟨q2, q3⟩, ⟨q4, q5, q6⟩, ⟨q7, q8, q9⟩, q10, q11⟩ := HQ.out _ _ _ _ _ _ _ D3.out)
    | (refine step_append_lies _ (by rfl) (.tmp 16) (.tmp 23) 23 (by rfl) B 25 i0 (.agg #[.int .i64 0, .string (tx []), .slice none 0 0]) 3 48 Tryz.underlying23 HI.out HZ0.out HZ1.out HZ2.out rfl (by decide) (.slice aa na ac) na (flatP g.ahead) (by rfl) (by exact HRO.out _ (below_2x (BE.out _) BJ.out)) ⟨w1.heap.size, 0, none⟩ 1 1 [.int .i64 0, .string (tx []), .slice none 0 0] (by rfl) (by rfl) (by exact HZB.out _ BJ.out) (by simp [Value.oneCell']) (by omega) (by unfold maxLen; omega) (by omega) (by exact HBY.out _ (below_2x (BE.out _) BJ.out)) _ (by rfl) ?_; intro g3 cap3 w3 hown3 hgrow3 hat3 hlt3; have D3 := hid (HD3.out _ _ _ _ _ _ _ _ _ _ (BE.out _) X2.out Y2.out BJ.out (Below.refl _ _) hown3 hgrow3 hat3); clear hown3 hgrow3 hat3; obtain ⟨⟨q0, q1⟩, ⟨q2, q3⟩, ⟨q4, q5, q6⟩, ⟨q7, q8, q9⟩, q10, q11⟩ := HQ.out _ _ _ _ _ _ _ D3.out)
    | (go_simp; go_wp2_with (first | (go_at_call 127; refine (HJX.out _ BD.out).mono ?_; rintro en w2 ⟨u2, n2, c2, K2, rfl, ⟨m0, m1⟩, m2, X2, Y2, BJ⟩; have m3 := fun o => (m2 o).1; have m4 := fun o => (m2 o).2; clear m2) | (go_at_call 127; refine (HJX.out _ (BE.out _)).mono ?_; rintro en w2 ⟨u2, n2, c2, K2, rfl, ⟨m0, m1⟩, m2, X2, Y2, BJ⟩; have m3 := fun o => (m2 o).1; have m4 := fun o => (m2 o).2; clear m2))))
    all_goals (
      go_wp2_with fail
      go_meet
      refine hid ⟨_, _, _, _, _, _, _, D3.out, ?_⟩
      have hst1 := stored_a (j := N * 2) (v' := .slice (some ⟨g3, 0, none⟩) (na + 1) cap3) (x := .int .i64 r.op) (y := .string (tx r.name)) (z := .slice u2 n2 c2) D3.out.row HPL.out (HGW.out _ _ _ _ _ _ _ D3.out) q10
      have hst2 := stored_b (j := N * 2) (v' := .slice (some ⟨g3, 0, none⟩) (na + 1) cap3) (x := .int .i64 r.op) (y := .string (tx r.name)) (z := .slice u2 n2 c2) D3.out.row HPL.out (HGW.out _ _ _ _ _ _ _ D3.out) q10
      first
        | with_reducible exact hst1
        | with_reducible exact hst2)
  case rest =>
    obtain ⟨w3, u, n, c, g3, cap3, K2, hd, hst⟩ := hcut.out
    obtain ⟨k1, f1⟩ := HQR.out _ _ hst
    have F1 := hid (HFIN.out _ _ _ _ _ _ _ hd _ hst)
    clear hd hst hcut
    go_wp2
    exact bodyPost_end (v := .tuple #[]) (by simp [results, Tryz.results121, go_sem]) rfl F1.out
end Go.Proofs.YtagppgncanimaaaGreatDoor
namespace Go.Proofs.YtagppgncanimaaaGreatDoor
open Go.RowKit

/-- Spots, each with the value of its list and the blocks of that. -/
abbrev Sps := List (Sp × Value × List Nat)
def flatS (ps : Sps) : List Value := ps.flatMap fun p => [.int .i64 p.1.op, .string (tx p.1.name), p.2.1, .bool p.1.em, .bool p.1.en]
theorem flatS_app (a b : Sps) : flatS (a ++ b) = flatS a ++ flatS b := by simp [flatS]
theorem flatS_len (ps : Sps) : (flatS ps).length = ps.length * 5 := by
  induction ps with
  | nil => rfl
  | cons p t ih => show (flatS t).length + 1 + 1 + 1 + 1 + 1 = _; simp [ih]; omega
theorem flatS_at (ps : Sps) : ∀ {i : Nat} {p : Sp × Value × List Nat}, ps[i]? = some p → (flatS ps)[i * 5]? = some (.int .i64 p.1.op) ∧ (flatS ps)[i * 5 + 1]? = some (.string (tx p.1.name)) ∧ (flatS ps)[i * 5 + 2]? = some p.2.1 ∧ (flatS ps)[i * 5 + 3]? = some (.bool p.1.em) ∧ (flatS ps)[i * 5 + 4]? = some (.bool p.1.en) := by
  induction ps with
  | nil => intro i p h; simp at h
  | cons q t ih =>
    intro i p h
    cases i with
    | zero => simp at h; subst h; exact ⟨rfl, rfl, rfl, rfl, rfl⟩
    | succ i =>
      have := ih (i := i) (p := p) (by simpa using h)
      have e : flatS (q :: t) = .int .i64 q.1.op :: .string (tx q.1.name) :: q.2.1 :: .bool q.1.em :: .bool q.1.en :: flatS t := rfl
      rw [e, show (i + 1) * 5 = i * 5 + 1 + 1 + 1 + 1 + 1 by omega, show (i * 5 + 1 + 1 + 1 + 1 + 1) + 1 = (i * 5 + 1) + 1 + 1 + 1 + 1 + 1 by omega, show (i * 5 + 1 + 1 + 1 + 1 + 1) + 2 = (i * 5 + 2) + 1 + 1 + 1 + 1 + 1 by omega, show (i * 5 + 1 + 1 + 1 + 1 + 1) + 3 = (i * 5 + 3) + 1 + 1 + 1 + 1 + 1 by omega, show (i * 5 + 1 + 1 + 1 + 1 + 1) + 4 = (i * 5 + 4) + 1 + 1 + 1 + 1 + 1 by omega]
      simpa only [List.getElem?_cons_succ] using this
/-- The blocks of the lists. -/
def blks (ps : Sps) : List Nat := (ps.map fun p => p.2.2).flatten
/-- A row of spots of one's own. -/
structure RowS (w : World) (B : Nat) (v : Value) (ps : Sps) : Prop where
  own : w.ownsRow B 76 5 v ps.length (flatS ps)
  kids : ∀ p ∈ ps, SpS w p.2.1 p.1.kids p.2.2
  nd : (blks ps).Nodup
  free : ∀ g, v.ownBlock = some g → g ∉ blks ps
  low : ∀ x ∈ blks ps, B ≤ x
theorem RowS.nil (w : World) (B : Nat) : RowS w B (.slice none 0 0) [] := ⟨World.ownsRow_nil _ _ _ _, fun p hp => absurd hp (by simp), by simp [blks], fun g hg => by simp [Value.ownBlock] at hg, fun x hx => by simp [blks] at hx⟩
/-- A row, as a list of spots. -/
theorem RowS.sps {w : World} {B : Nat} {v : Value} {ps : Sps} (h : RowS w B v ps) : ∃ bs, SpS w v (ps.map Prod.fst) bs ∧ ∀ x ∈ bs, B ≤ x := by
  by_cases h0 : ps = []
  · subst h0
    obtain ⟨ao, cap, e⟩ := own_form h.own
    rw [e]; exact ⟨[], .nil ao cap, fun x hx => absurd hx (by simp)⟩
  · rcases h.own.2 with ⟨_, e0⟩ | ⟨g, cap, cur, e, hB, hg, hnc, hcm, hcs, ht⟩
    · exact absurd (List.length_eq_zero_iff.1 e0) h0
    refine ⟨g :: blks ps, ?_, fun x hx => ?_⟩
    · rw [e, show ps.length = (ps.map Prod.fst).length by simp]
      show SpS w _ _ (g :: (ps.map fun p => p.2.2).flatten)
      have hnd : (g :: (List.map (fun p : Sp × Value × List Nat => p.2.2) ps).flatten).Nodup := List.nodup_cons.2 ⟨h.free g (by rw [e]; rfl), h.nd⟩
      refine SpS.some g cap (ps.map Prod.fst) (List.map (fun p : Sp × Value × List Nat => p.2.1) ps) (List.map (fun p : Sp × Value × List Nat => p.2.2) ps) cur hg (by simp) (by simp) (fun i k v hk hv => ?_) (fun i k v b hk hv hb => ?_) hnd
      · rw [List.getElem?_map, Option.map_eq_some_iff] at hk hv
        obtain ⟨p, hp, rfl⟩ := hk
        obtain ⟨q, hq, rfl⟩ := hv
        rw [hp] at hq
        cases hq
        have hi := (List.getElem?_eq_some_iff.1 hp).1
        have conv : ∀ (j : Nat) (u : Value), (flatS ps)[j]? = some u → cur[j]? = some u := fun j u hu => by
          rw [← ht, List.getElem?_take] at hu
          split at hu
          · simpa using hu
          · cases hu
        obtain ⟨a0, a1, a2, a3, a4⟩ := flatS_at ps hp
        exact ⟨conv _ _ a0, conv _ _ a1, conv _ _ a2, conv _ _ a3, conv _ _ a4⟩
      · rw [List.getElem?_map, Option.map_eq_some_iff] at hk hv hb
        obtain ⟨p, hp, rfl⟩ := hk
        obtain ⟨q, hq, rfl⟩ := hv
        obtain ⟨r, hr, rfl⟩ := hb
        rw [hp] at hq hr
        cases hq
        cases hr
        exact h.kids p (List.mem_of_getElem? hp)
    · rcases List.mem_cons.1 hx with rfl | hx
      · exact hB
      · exact h.low x hx
theorem Tryz.infoSpot : (Tryz.prog.info? 76).map (fun i => (i.zero, i.size, i.bytes)) = some (some (.agg #[.int .i64 0, .string (tx []), .slice none 0 0, .bool false, .bool false]), 5, 56) := by kernel_rfl
/-- spotOf, at an expression that lies in w. -/
def OfC (w : World) (k : Rx) (v : Value) : Prop := ∀ W, Below w.heap.size w W → Calls Tryz.prog 40 #[.agg #[.int .i64 k.op, .string (tx k.name), v]] W fun e W' => ∃ u n c bs, e = .returned (.agg #[.int .i64 k.op, .string (tx k.name), .slice u n c, .bool (Sp.of k).em, .bool false]) ∧ Hid (SpS W' (.slice u n c) (Sp.of k).kids bs) ∧ Hid (∀ x ∈ bs, W.heap.size ≤ x) ∧ Hid (Below W.heap.size W W')

/-- What is known behind the append. -/
structure Of3 (B : Nat) (w w3 : World) (vk : Value) (k : Sp) (vu : Value) (bs : List Nat) (xs : List Value) (m g3 cap3 : Nat) : Prop where
  size : w.heap.size ≤ w3.heap.size
  os : w3.os = w.os
  tape : w3.tape = w.tape
  output : w3.output = w.output
  rest : ∀ x, x < w.heap.size → vk.ownBlock ≠ some x → w3.heap[x]? = w.heap[x]?
  kids : SpS w3 vu k.kids bs
  low : ∀ x ∈ bs, w.heap.size ≤ x
  row : w3.ownsRow B 76 5 (.slice (some ⟨g3, 0, none⟩) (m + 1) cap3) (m + 1) (xs ++ [.int .i64 0, .string (tx []), .slice none 0 0, .bool false, .bool false])
  at_ : vk.ownBlock = some g3 ∨ w.heap.size ≤ g3 ∧ g3 ∉ bs
/-- A row's last spot and a field of a spot were stored. -/
structure Sto5 (B : Nat) (w3 W : World) (sb g3 m cap3 : Nat) (bc : Array Value) (xs : List Value) (v' x0 x1 x2 x3 x4 : Value) : Prop where
  size : W.heap.size = w3.heap.size
  os : W.os = w3.os
  tape : W.tape = w3.tape
  output : W.output = w3.output
  rest : ∀ k, k ≠ sb → k ≠ g3 → W.heap[k]? = w3.heap[k]?
  row : W.ownsRow B 76 5 (.slice (some ⟨g3, 0, none⟩) (m + 1) cap3) (m + 1) (xs ++ [x0, x1, x2, x3, x4])
  box : W.heap[sb]? = some (.cells (bc.setIfInBounds 2 v') 76 (0, 0))
theorem set_five {xs : List Value} {m : Nat} (hl : xs.length = m * 5) (a b c d e x0 x1 x2 x3 x4 : Value) : (((((xs ++ [a, b, c, d, e]).set (m * 5) x0).set (m * 5 + 1) x1).set (m * 5 + 2) x2).set (m * 5 + 3) x3).set (m * 5 + 4) x4 = xs ++ [x0, x1, x2, x3, x4] := by
  rw [List.set_append_right _ _ (by omega), List.set_append_right _ _ (by omega), List.set_append_right _ _ (by omega), List.set_append_right _ _ (by omega), List.set_append_right _ _ (by omega), hl]
  simp
theorem sto5_a {B : Nat} {w3 : World} {sb g3 m cap3 : Nat} {bc : Array Value} {xs : List Value} {v' x0 x1 x2 x3 x4 a b c d e : Value} (hP : w3.ownsRow B 76 5 (.slice (some ⟨g3, 0, none⟩) (m + 1) cap3) (m + 1) (xs ++ [a, b, c, d, e])) (hl : xs.length = m * 5) (hb : w3.heap[sb]? = some (.cells bc 76 (0, 0))) (hne : ¬ g3 = sb) :
    Sto5 B w3 ((((((w3.setCell ⟨sb, 2, none⟩ v').setCell ⟨g3, m * 5, none⟩ x0).setCell ⟨g3, m * 5 + 1, none⟩ x1).setCell ⟨g3, m * 5 + 2, none⟩ x2).setCell ⟨g3, m * 5 + 3, none⟩ x3).setCell ⟨g3, m * 5 + 4, none⟩ x4) sb g3 m cap3 bc xs v' x0 x1 x2 x3 x4 := by
  have hbel := (((((((Below.refl 0 w3).setCell (p := ⟨sb, 2, none⟩) (Nat.zero_le _) v').setCell (p := ⟨g3, m * 5, none⟩) (Nat.zero_le _) x0).setCell (p := ⟨g3, m * 5 + 1, none⟩) (Nat.zero_le _) x1).setCell (p := ⟨g3, m * 5 + 2, none⟩) (Nat.zero_le _) x2).setCell (p := ⟨g3, m * 5 + 3, none⟩) (Nat.zero_le _) x3).setCell (p := ⟨g3, m * 5 + 4, none⟩) (Nat.zero_le _) x4)
  refine ⟨by simp, hbel.os, hbel.tape, hbel.output, fun k h1 h2 => ?_, ?_, ?_⟩
  · rw [Below.heap_setCell _ _ _ _ (by exact h2), Below.heap_setCell _ _ _ _ (by exact h2), Below.heap_setCell _ _ _ _ (by exact h2), Below.heap_setCell _ _ _ _ (by exact h2), Below.heap_setCell _ _ _ _ (by exact h2), Below.heap_setCell _ _ _ _ (by exact h1)]
  · have h0 := own_farX (a := ⟨sb, 2, none⟩) (u := v') hP (by simp [Value.ownBlock]; exact hne)
    have h1 := (h0.stored (m * 5) x0).1
    have h2 := (h1.stored (m * 5 + 1) x1).1
    have h3 := (h2.stored (m * 5 + 2) x2).1
    have h4 := (h3.stored (m * 5 + 3) x3).1
    have h5 := (h4.stored (m * 5 + 4) x4).1
    rw [set_five hl a b c d e x0 x1 x2 x3 x4] at h5
    exact h5
  · have hne' : sb ≠ g3 := fun e => hne e.symm
    rw [Below.heap_setCell _ _ _ _ (by exact hne'), Below.heap_setCell _ _ _ _ (by exact hne'), Below.heap_setCell _ _ _ _ (by exact hne'), Below.heap_setCell _ _ _ _ (by exact hne'), Below.heap_setCell _ _ _ _ (by exact hne')]
    exact heap_setCell_same w3 sb 2 _ _ v' hb
theorem sto5_b {B : Nat} {w3 : World} {sb g3 m cap3 : Nat} {bc : Array Value} {xs : List Value} {v' x0 x1 x2 x3 x4 a b c d e : Value} (hP : w3.ownsRow B 76 5 (.slice (some ⟨g3, 0, none⟩) (m + 1) cap3) (m + 1) (xs ++ [a, b, c, d, e])) (hl : xs.length = m * 5) (hb : w3.heap[sb]? = some (.cells bc 76 (0, 0))) (hne : ¬ g3 = sb) :
    Sto5 B w3 ((((((w3.setCell ⟨g3, m * 5, none⟩ x0).setCell ⟨g3, m * 5 + 1, none⟩ x1).setCell ⟨g3, m * 5 + 2, none⟩ x2).setCell ⟨g3, m * 5 + 3, none⟩ x3).setCell ⟨g3, m * 5 + 4, none⟩ x4).setCell ⟨sb, 2, none⟩ v') sb g3 m cap3 bc xs v' x0 x1 x2 x3 x4 := by
  have hne' : sb ≠ g3 := fun e => hne e.symm
  have hbel := (((((((Below.refl 0 w3).setCell (p := ⟨g3, m * 5, none⟩) (Nat.zero_le _) x0).setCell (p := ⟨g3, m * 5 + 1, none⟩) (Nat.zero_le _) x1).setCell (p := ⟨g3, m * 5 + 2, none⟩) (Nat.zero_le _) x2).setCell (p := ⟨g3, m * 5 + 3, none⟩) (Nat.zero_le _) x3).setCell (p := ⟨g3, m * 5 + 4, none⟩) (Nat.zero_le _) x4).setCell (p := ⟨sb, 2, none⟩) (Nat.zero_le _) v')
  refine ⟨by simp, hbel.os, hbel.tape, hbel.output, fun k h1 h2 => ?_, ?_, ?_⟩
  · rw [Below.heap_setCell _ _ _ _ (by exact h1), Below.heap_setCell _ _ _ _ (by exact h2), Below.heap_setCell _ _ _ _ (by exact h2), Below.heap_setCell _ _ _ _ (by exact h2), Below.heap_setCell _ _ _ _ (by exact h2), Below.heap_setCell _ _ _ _ (by exact h2)]
  · have h1 := (hP.stored (m * 5) x0).1
    have h2 := (h1.stored (m * 5 + 1) x1).1
    have h3 := (h2.stored (m * 5 + 2) x2).1
    have h4 := (h3.stored (m * 5 + 3) x3).1
    have h5 := (h4.stored (m * 5 + 4) x4).1
    rw [set_five hl a b c d e x0 x1 x2 x3 x4] at h5
    exact own_farX h5 (by simp [Value.ownBlock]; exact hne)
  · exact heap_setCell_same _ sb 2 _ _ v' (by
      rw [Below.heap_setCell _ _ _ _ (by exact hne'), Below.heap_setCell _ _ _ _ (by exact hne'), Below.heap_setCell _ _ _ _ (by exact hne'), Below.heap_setCell _ _ _ _ (by exact hne'), Below.heap_setCell _ _ _ _ (by exact hne')]
      exact hb)
/-- A spot more in the row. -/
theorem RowS.more {B : Nat} {w w3 W : World} {sb : Nat} {vk vu : Value} {ps : Sps} {k : Sp} {bs : List Nat} {bc : Array Value} {m g3 cap3 : Nat} {v' x0 x1 x2 x3 x4 : Value} (h : RowS w B vk ps) (hm : m = ps.length) (hsb : sb < B) (hBw : B ≤ w.heap.size) (hd : Of3 B w w3 vk k vu bs (flatS ps) m g3 cap3) (hW : Sto5 B w3 W sb g3 m cap3 bc (flatS ps) v' x0 x1 x2 x3 x4)
    (hx : flatS [(k, vu, bs)] = [x0, x1, x2, x3, x4]) : RowS W B (.slice (some ⟨g3, 0, none⟩) (m + 1) cap3) (ps ++ [(k, vu, bs)]) := by
  have hvl : ∀ x, vk.ownBlock = some x → B ≤ x ∧ x < w.heap.size := fun x hx => h.own.lt x hx
  have hpl : ∀ p ∈ ps, ∀ x ∈ p.2.2, x < w.heap.size ∧ B ≤ x ∧ x ∈ blks ps := fun p hp x hx => by
    have hm : x ∈ blks ps := List.mem_flatten.2 ⟨p.2.2, List.mem_map.2 ⟨p, hp, rfl⟩, hx⟩
    exact ⟨(h.kids p hp).lt x hx, h.low x hm, hm⟩
  have hbk : blks (ps ++ [(k, vu, bs)]) = blks ps ++ bs := by simp [blks]
  have hg3 : g3 ∉ blks ps ∧ g3 ∉ bs ∧ B ≤ g3 := by
    rcases hd.at_ with e | ⟨e, e2⟩
    · refine ⟨h.free g3 e, fun hm => ?_, (hvl g3 e).1⟩
      have := hd.low g3 hm
      have := (hvl g3 e).2
      omega
    · refine ⟨fun hm => ?_, e2, by omega⟩
      obtain ⟨l, hl1, hl2⟩ := List.mem_flatten.1 hm
      obtain ⟨p, hp, rfl⟩ := List.mem_map.1 hl1
      have := (hpl p hp g3 hl2).1
      omega
  have old : ∀ x, x < w.heap.size → B ≤ x → x ∈ blks ps → W.heap[x]? = w.heap[x]? := fun x h1 h2 h3 => by
    rw [hW.rest x (by omega) (fun e => hg3.1 (by rw [← e]; exact h3)), hd.rest x h1 (fun e => h.free x e h3)]
  refine ⟨?_, fun p hp => ?_, ?_, fun x hx => ?_, fun x hx => ?_⟩
  · rw [flatS_app, List.length_append, ← hm, hx]
    exact hW.row
  · rcases List.mem_append.1 hp with hp | hp
    · exact (h.kids p hp).on fun x hx => old x (hpl p hp x hx).1 (hpl p hp x hx).2.1 (hpl p hp x hx).2.2
    · rw [List.mem_singleton.1 hp]
      exact hd.kids.on fun x hx => hW.rest x (by have := hd.low x hx; omega) (fun e => hg3.2.1 (by rw [← e]; exact hx))
  · rw [hbk, List.nodup_append]
    refine ⟨h.nd, ?_, fun x hx y hy e => ?_⟩
    · rcases hd.kids.at with ⟨_, e, _⟩ | ⟨_, _, _, _, _, _, _, _, _, _, _, _, nd⟩
      · rw [e]; exact List.nodup_nil
      · exact nd
    · obtain ⟨l, hl1, hl2⟩ := List.mem_flatten.1 hx
      obtain ⟨p, hp, rfl⟩ := List.mem_map.1 hl1
      have h1 := (hpl p hp x hl2).1
      have h2 := hd.low y hy
      omega
  · have hx' : g3 = x := by simpa [Value.ownBlock] using hx
    subst hx'
    rw [hbk, List.mem_append]
    rintro (h1 | h1)
    · exact hg3.1 h1
    · exact hg3.2.1 h1
  · rw [hbk] at hx
    rcases List.mem_append.1 hx with hx | hx
    · exact h.low x hx
    · have := hd.low x hx; omega

theorem RowS.below {w w' : World} {B : Nat} {v : Value} {ps : Sps} (h : RowS w B v ps) (hb : Below w.heap.size w w') : RowS w' B v ps :=
  ⟨own_same h.own fun g hg => hb.block g (h.own.lt g hg).2, fun p hp => (h.kids p hp).on fun x hx => hb.block x ((h.kids p hp).lt x hx), h.nd, h.free, h.low⟩
/-- While the kids are gone through. -/
structure OfI (W w0 wr : World) (r : Rx) (j : Nat) (ps : Sps) (vk : Value) : Prop where
  box : wr.heap[W.heap.size + 1 + 1]? = some (.cells #[.int .i64 r.op, .string (tx r.name), vk, .bool false, .bool false] 76 (0, 0))
  row : RowS wr (W.heap.size + 1 + 1 + 1) vk ps
  eq : ps.map Prod.fst = (r.kids.take j).map Sp.of
  low : Below (W.heap.size + 1 + 1) w0 wr
theorem OfI.below {W w0 wr w' : World} {r : Rx} {j : Nat} {ps : Sps} {vk : Value} (h : OfI W w0 wr r j ps vk) (hb : Below wr.heap.size wr w') : OfI W w0 w' r j ps vk := by
  have hl := (Array.getElem?_eq_some_iff.1 h.box).1
  exact ⟨(hb.block _ hl).trans h.box, h.row.below hb, h.eq, h.low.trans (hb.mono (by omega))⟩
end Go.Proofs.YtagppgncanimaaaGreatDoor
