/-
  The insertion sort of a piece of a row.
  A row of numbers in memory, and what a stable sort does with it: swaps of two that stand side by side, insertion.
  The mathematics of a stable sort: a comparing, the order that it and the places make, and rows that rise by it.
  Rules that came in, and how long their parts may be.
  A copy of a rule that shares no memory with it.
-/
import Derived.Test.YtbfiggghpflioaaGreatDoorCLay
import Derived.Test.YtbfiggghpflioaaGreatDoorUPrintAnd
import Derived.SizedLaws
import Derived.Test.YtbfiggghpflioaaGreatDoorUMathAnd
import Derived.Shelf.RegionOpenPlain
namespace Go.Proofs.YtbfiggghpflioaaGreatDoor
open Go.RowKit Go.Shelf

set_option maxHeartbeats 1000000 in
theorem clone_wide (s : ByteArray) (w : World) (h0 : 0 < s.size) (hs : s.size ≤ 140737488355328) :
    Calls Tryz.prog 86 #[.string s] w fun e w' => e = .returned (.string s) ∧ Below w.heap.size w w' := by
  have hmk := run_make_row' (P := Tryz.prog) 143 5 (.int .u8 0) 1 Tryz.underlying143 Tryz.infoU8 rfl .i64 .i64 s.size (by omega) (by omega)
  have hblk : (w.alloc (.cells (madeCells #[.int .u8 0] s.size) 5)).heap[w.heap.size]? = some (.cells (madeCells #[.int .u8 0] s.size) 5 (0, 0)) := new_0 _ _
  have hsome : ∀ j, j < s.size → ((w.alloc (.cells (madeCells #[.int .u8 0] s.size) 5)).cell? ⟨w.heap.size, 0 + j, none⟩).isSome = true := fun j hj => by
      obtain ⟨v, hv⟩ := cells_some hblk (x := 0 + j) (by rw [size_madeCells]; omega)
      rw [hv]; rfl
  have hcp : ∀ ty, _ := fun ty => run_copy_string (P := Tryz.prog) (w.alloc (.cells (madeCells #[.int .u8 0] s.size) 5)) 143 9 ty 5 w.heap.size 0 s.size s.size s Tryz.underlying143 Tryz.sizeU8 (Nat.le_refl _) hsome (fun j _ => free_of hblk)
  have hb2 := block_setCells (cellsOf s) 0 _ _ hblk
  have hus : ∀ ty, _ := fun ty => Lib.run_unsafeString_row (P := Tryz.prog) ((w.alloc (.cells (madeCells #[.int .u8 0] s.size) 5)).setCells w.heap.size 0 (cellsOf s)) 199 3 ty 5 Tryz.underlying199 Tryz.cellsU8 w.heap.size s.size
    (by rw [shape_at hb2, setAll_size, size_madeCells]) s.data.toList (fun e => by rw [Lib.size_eq, e] at h0; exact absurd h0 (by simp)) (by rw [list_size]; exact Nat.le_refl _) (by rw [list_size]; omega) (fun j x hx => by
      have hj : j < s.data.toList.length := (List.getElem?_eq_some_iff.1 hx).1
      have := World.cell?_setCells_in w.heap.size (cellsOf s) 0 (w.alloc (.cells (madeCells #[.int .u8 0] s.size) 5)) (fun i hi => hsome i (by simpa [list_size] using hi)) j (by simpa using hj)
      have ea : (⟨w.heap.size, 0, none⟩ : Addr).add j = ⟨w.heap.size, 0 + j, none⟩ := by simp [Addr.add]; intro h; exact h.symm
      rw [ea, this]
      congr 1
      have e : s.data.toList[j] = x := (List.getElem?_eq_some_iff.1 hx).2
      simp only [List.getElem_map, e])
  rw [list_size] at hus
  have hnz : ((s.size : Int) == 0) = false := by rw [beq_eq_false_iff_ne]; omega
  have hI : (0 : Int) < (s.size : Int) := by omega
  clear hsome hblk
  go_enter Tryz.func86, Tryz.ntmps86
  go_wp2
  go_ret
  exact ⟨rfl, Lib.below_freeze (below_setCells (Nat.le_refl _) _ _ _ ((Below.refl _ _).alloc (Nat.le_refl _) _)) (p := ⟨w.heap.size, 0, none⟩) (Nat.le_refl _) _⟩
set_option maxHeartbeats 400000 in
theorem clone_empty (w : World) : Calls Tryz.prog 86 #[.string (tx [])] w fun e w' => e = .returned (.string (tx [])) ∧ Below w.heap.size w w' := by
  go_enter Tryz.func86, Tryz.ntmps86
  go_wp2
  go_ret
  exact ⟨rfl, Below.refl _ _⟩
set_option maxHeartbeats 400000 in
/-- strings.Clone, of any text. -/
theorem Clone_tx (l : List UInt8) (w : World) (hs : l.length ≤ 140737488355328) : Calls Tryz.prog 51 #[.string (tx l)] w fun e w' => e = .returned (.string (tx l)) ∧ Below w.heap.size w w' := by
  have HC := hid (show ∀ w', Calls Tryz.prog 86 #[.string (tx l)] w' fun e w'' => e = .returned (.string (tx l)) ∧ Below w'.heap.size w' w'' from fun w' => by
    cases l with
    | nil => exact clone_empty w'
    | cons a r => exact clone_wide _ w' (by rw [tx_size]; simp) (by rw [tx_size]; exact hs))
  go_enter Tryz.func51, Tryz.ntmps51
  go_wp2_with (go_at_call 86; refine (HC.out _).mono ?_; rintro e w' ⟨rfl, hb⟩)
  go_ret
  exact ⟨rfl, hb⟩
theorem Tryz.fClone : Tryz.laysClone_ren.f 16 = 52 := by kernel_rfl
theorem Tryz.tClone : Tryz.laysClone_ren.t 9 = 9 := by kernel_rfl

/-- Texts, alone in a block. -/
def Tbl (w : World) (g : Nat) (zs : List (List UInt8)) : Prop := ∃ cs, w.heap[g]? = some (.cells cs 9 (0, 0)) ∧ ∀ (i : Nat) (z : List UInt8), zs[i]? = some z → cs[i]? = some (.string (tx z))
theorem Tbl.cell {w : World} {g : Nat} {zs : List (List UInt8)} (h : Tbl w g zs) {i : Nat} {z : List UInt8} (hz : zs[i]? = some z) : w.cell? ⟨g, i, none⟩ = some (.string (tx z)) := by
  obtain ⟨cs, h1, h2⟩ := h
  rw [cell_at h1]
  exact h2 i z hz
theorem Tbl.lt {w : World} {g : Nat} {zs : List (List UInt8)} (h : Tbl w g zs) : g < w.heap.size := by
  obtain ⟨cs, h1, _⟩ := h
  rw [Array.getElem?_eq_some_iff] at h1
  exact h1.1
theorem Tbl.free {w : World} {g : Nat} {zs : List (List UInt8)} (h : Tbl w g zs) (k : Nat) : w.frozen? ⟨g, k, none⟩ = false := by
  obtain ⟨cs, h1, _⟩ := h
  exact free_of h1
theorem Tbl.below {w w' : World} {g B : Nat} {zs : List (List UInt8)} (h : Tbl w g zs) (hb : Below B w w') (hB : g < B) : Tbl w' g zs := by
  obtain ⟨cs, h1, h2⟩ := h
  exact ⟨cs, below_block hb h1 hB, h2⟩
/-- One of them, written again. -/
theorem Tbl.again {w : World} {g : Nat} {zs : List (List UInt8)} (h : Tbl w g zs) {i : Nat} {z : List UInt8} (hz : zs[i]? = some z) : Tbl (w.setCell ⟨g, i, none⟩ (.string (tx z))) g zs := by
  obtain ⟨cs, h1, h2⟩ := h
  refine ⟨_, block_set _ h1, fun j y hy => ?_⟩
  rw [Array.getElem?_setIfInBounds]
  split
  · rename_i e
    subst e
    have : y = z := Option.some.inj (hy.symm.trans hz)
    subst this
    have := h2 i y hy
    rw [if_pos (Array.getElem?_eq_some_iff.1 this).1]
  · exact h2 j y hy

/-- A slice of texts in a block of its own. -/
def Ported (w : World) (B : Nat) (v : Value) (zs : List (List UInt8)) : Prop := ∃ ao cap, v = .slice ao zs.length cap ∧ zs.length ≤ cap ∧ (zs = [] ∨ ∃ b, ao = some ⟨b, 0, none⟩ ∧ B ≤ b ∧ Tbl w b zs)
theorem Ported.txs {w : World} {B : Nat} {v : Value} {zs : List (List UInt8)} (h : Ported w B v zs) : Txs w v zs := by
  obtain ⟨ao, cap, e, _, q | ⟨b, ea, _, ht⟩⟩ := h
  · exact ⟨ao, cap, e, Or.inl q⟩
  · refine ⟨ao, cap, e, Or.inr ⟨b, 0, ea, ht.lt, fun i hi => ?_⟩⟩
    rw [Nat.zero_add]
    exact ht.cell (by rw [List.getD_eq_getElem?_getD, List.getElem?_eq_getElem hi]; rfl)

theorem Clone_texts {w : World} {v : Value} {zs : List (List UInt8)} (ht : Txs w v zs) (hn : zs.length * 16 ≤ 140737488355328) :
    Calls Tryz.prog 52 #[v] w fun e w' => ∃ v', e = .returned v' ∧ Ported w' w.heap.size v' zs ∧ Below w.heap.size w w' := by
  obtain ⟨ao, cap, rfl, hr⟩ := ht
  rw [← Tryz.fClone]
  cases ao with
  | none =>
    have h0 : zs = [] := by rcases hr with q | ⟨g, o, q, _⟩; exact q; cases q
    subst h0
    refine (Any.slices_Clone_string_nil Tryz.laysClone _ _ w).mono ?_
    rintro e w' ⟨rfl, rfl⟩
    exact ⟨_, rfl, ⟨none, 0, rfl, Nat.le_refl _, Or.inl rfl⟩, Below.refl _ _⟩
  | some ad =>
    by_cases h0 : zs = []
    · subst h0
      refine (Any.slices_Clone_string_zero Tryz.laysClone ad cap w).mono ?_
      rintro e w' ⟨v', rfl, ho, _, hb⟩
      refine ⟨v', rfl, ?_, hb⟩
      rcases ho.2 with ⟨h1, _⟩ | ⟨b, cp, cur, h1, _, _, hn, _, _, _⟩
      · exact ⟨_, _, h1, Nat.zero_le _, Or.inl rfl⟩
      · exact ⟨_, _, h1, Nat.zero_le _, Or.inl rfl⟩
    · obtain ⟨g, o, rfl, hg, hc⟩ : ∃ g o, ad = ⟨g, o, none⟩ ∧ g < w.heap.size ∧ ∀ i, i < zs.length → w.cell? ⟨g, o + i, none⟩ = some (.string (tx (zs.getD i []))) := by
        rcases hr with q | ⟨g, o, q, h1, h2⟩
        · exact absurd q h0
        · exact ⟨g, o, Option.some.inj q, h1, h2⟩
      have hk := Any.slices_Clone_string Tryz.laysClone g o zs.length cap (zs.map tx) w (by simp) hn (fun j hj => by
        rw [List.length_map] at hj
        rw [hc j hj]
        simp [List.getD_eq_getElem?_getD, List.getElem?_eq_getElem hj])
      refine hk.mono ?_
      rintro e w' ⟨v', rfl, ho, _, hb⟩
      refine ⟨v', rfl, ?_, hb⟩
      rw [Tryz.tClone] at ho
      rcases ho.2 with ⟨_, h1⟩ | ⟨b, cp, cur, rfl, hB, hh, hn2, _, _, htk⟩
      · have := List.length_pos_iff.2 h0; omega
      · refine ⟨_, _, rfl, hn2, Or.inr ⟨b, rfl, hB, cur, hh, fun i z hz => ?_⟩⟩
        have hi : i < zs.length := (List.getElem?_eq_some_iff.1 hz).1
        have : (cur.toList.take (zs.length * 1))[i]? = some (.string (tx z)) := by rw [htk]; simp [hi]; exact (List.getElem?_eq_some_iff.1 hz).2
        rw [List.getElem?_take, if_pos (by omega)] at this
        simpa using this

/-- A rule's parts are not too long for a copy. -/
def Small (m : List UInt8) (zs : List (List UInt8)) : Prop := m.length ≤ 140737488355328 ∧ zs.length * 16 ≤ 140737488355328 ∧ ∀ z ∈ zs, z.length ≤ 140737488355328

set_option maxRecDepth 20000 in
set_option maxHeartbeats 2000000 in
theorem copyOf_any {w : World} {p k : Int} {m : List UInt8} {v : Value} {zs : List (List UInt8)} (ht : Txs w v zs) (hs : Small m zs) :
    Calls Tryz.prog 29 #[.agg #[.int .i64 p, .string (tx m), .int .i64 k, v]] w fun e w' => ∃ v', e = .returned (.agg #[.int .i64 p, .string (tx m), .int .i64 k, v']) ∧ Hid (Ported w' w.heap.size v' zs) ∧ Below w.heap.size w w' := by
  have HT := hid ht
  have HS := hid hs
  obtain ⟨ao, cap, rfl, _⟩ := ht
  obtain ⟨n, hn⟩ : ∃ n, n = zs.length := ⟨_, rfl⟩
  have HN := hid hn
  rw [← hn] at HT ⊢
  have hnb : n ≤ 140737488355328 := by have := hs.2.1; omega
  clear hn hs
  go_enter Tryz.func29, Tryz.ntmps29
  go_wp2_with fail
  refine (Clone_tx m _ HS.out.1).mono ?_
  rintro e w1 ⟨rfl, hb1⟩
  obtain ⟨rb, hrb⟩ : ∃ rb, rb = w.heap.size := ⟨_, rfl⟩
  have O1 : w1.heap[w.heap.size]? = some (rob p (tx m) k (.slice ao n cap)) := below_block hb1 (new_old _ _ (new_0 _ _)) (by simp only [World.alloc, Array.size_push]; omega)
  have O2 : w1.heap[w.heap.size + 1]? = some (rob 0 (tx []) 0 (.slice none 0 0)) := below_block hb1 (new_1 _ _ _) (by simp only [World.alloc, Array.size_push]; omega)
  have B1 := hid (show Below w.heap.size w w1 from (((Below.refl _ _).alloc (Nat.le_refl _) _).alloc (by simp) _).trans (hb1.mono (by simp only [World.alloc, Array.size_push]; omega)))
  clear hb1
  have HRB := hid hrb
  rw [← hrb] at O1 O2 B1 ⊢
  clear hrb
  have H1 := hid (And.intro O1 O2)
  obtain ⟨a0, a1, a2, a3, f0, f1, f2, f3⟩ := rob_cells O1
  clear O1 O2
  have HS1 := hid (show Txs (w1.setCell ⟨rb, 1, none⟩ (.string (tx m))) (.slice ao n cap) zs from HT.out.below (by rw [← HRB.out]; exact B1.out.setCell (Nat.le_refl _) _))
  go_wp2_with fail
  refine (Clone_texts HS1.out HS.out.2.1).mono ?_
  rintro e w2 ⟨v', rfl, hp, hb2⟩
  have P2 : w2.heap[rb]? = some (rob p (tx m) k (.slice ao n cap)) := below_block hb2 (rob_2 H1.out.1 _) (by rw [World.size_setCell]; exact lt_of_block H1.out.1)
  have P3 : w2.heap[rb + 1]? = some (rob 0 (tx []) 0 (.slice none 0 0)) := below_block hb2 (block_other _ H1.out.2 (by omega)) (by rw [World.size_setCell]; exact lt_of_block H1.out.2)
  have B2 := hid (show Below rb w w2 from (B1.out.setCell (Nat.le_refl _) _).trans (hb2.mono (by rw [World.size_setCell]; exact Nat.le_of_lt (lt_of_block H1.out.1))))
  have HP := hid (show Ported w2 (rb + 2) v' zs by
    obtain ⟨ao', cap', e1, e2, q | ⟨b, e3, e4, e5⟩⟩ := hp
    · exact ⟨ao', cap', e1, e2, Or.inl q⟩
    · refine ⟨ao', cap', e1, e2, Or.inr ⟨b, e3, ?_, e5⟩⟩
      have := lt_of_block H1.out.2
      rw [World.size_setCell] at e4
      omega)
  obtain ⟨ao', cap', rfl, hcap, hq⟩ := HP.out
  have H2 := hid (And.intro P2 P3)
  obtain ⟨c0, c1, c2, c3, g0, g1, g2, g3⟩ := rob_cells P2
  clear hp hb2 P2 P3 a0 a1 a2 a3 f0 f1 f2 f3 hq
  have HB3 := hid (show Below rb w (w2.setCell ⟨rb, 3, none⟩ (.slice ao' zs.length cap')) from B2.out.setCell (Nat.le_refl _) _)
  have H3 := hid (show (w2.setCell ⟨rb, 3, none⟩ (.slice ao' zs.length cap')).heap[rb]? = some (rob p (tx m) k (.slice ao' zs.length cap')) from rob_4 H2.out.1 _)
  have HP3 := hid (show Ported (w2.setCell ⟨rb, 3, none⟩ (.slice ao' zs.length cap')) (rb + 2) (.slice ao' zs.length cap') zs by
    obtain ⟨ao2, cap2, e1, e2, q | ⟨b, e3, e4, e5⟩⟩ := HP.out
    · exact ⟨ao2, cap2, e1, e2, Or.inl q⟩
    · refine ⟨ao2, cap2, e1, e2, Or.inr ⟨b, e3, e4, ?_⟩⟩
      obtain ⟨cs, q1, q2⟩ := e5
      exact ⟨cs, block_other _ q1 (by omega), q2⟩)
  rw [← HN.out] at HP3 H3 HB3 ⊢
  go_wp2_with fail
  go_loopw [19, 3, 4] (fun vi _ _ wr => ∃ j : Nat, j ≤ n ∧ vi = .int .i64 j ∧ Hid (Below rb w wr ∧ wr.heap[rb]? = some (rob p (tx m) k (.slice ao' n cap')) ∧ wr.heap[rb + 1]? = some (rob 0 (tx []) 0 (.slice none 0 0)) ∧ Ported wr (rb + 2) (.slice ao' n cap') zs)) (fun vi _ _ _ => n - (intOf vi).toNat)
  case atStart => exact ⟨0, Nat.zero_le _, rfl, HB3.out, H3.out, block_other _ H2.out.2 (by omega), HP3.out⟩
  case round =>
    obtain ⟨j, hj, rfl, HR⟩ := hrel
    by_cases hlt : j < n
    · obtain ⟨b, hb0, hb1, hb2⟩ : ∃ b, ao' = some ⟨b, 0, none⟩ ∧ rb + 2 ≤ b ∧ Tbl wr b zs := by
        obtain ⟨ao2, cap2, e1, e2, q | ⟨b, e3, e4, e5⟩⟩ := HR.out.2.2.2
        · exfalso; have := HN.out; rw [q] at this; simp at this; omega
        · exact ⟨b, by cases e1; exact e3, e4, e5⟩
      obtain ⟨z, hz⟩ : ∃ z, zs[j]? = some z := ⟨zs[j]'(by rw [← HN.out]; exact hlt), List.getElem?_eq_getElem _⟩
      have HZ := hid hz
      have HTB := hid hb2
      have hbb := hid hb1
      have d0 := hb2.cell hz
      have d1 := hb2.free j
      obtain ⟨c0, c1, c2, c3, _, _, _, _⟩ := rob_cells HR.out.2.1
      have HCL := hid (fun W => Clone_tx z W (HS.out.2.2 z (List.mem_of_getElem? hz)))
      have i0 : (0 : Int) ≤ (j : Int) := by omega
      have i1 : (j : Int) < (n : Int) := by omega
      rw [hb0]
      rw [hb0] at c3
      have HAO := hid hb0
      clear hz hb2 hb1 hb0
      go_wp2_with fail
      go_region_held2 (fun W => W.cell? ⟨rb, 3, none⟩ = some (.slice (some ⟨b, 0, none⟩) n cap') ∧ W.cell? ⟨b, j, none⟩ = some (.string (tx z)) ∧ W.frozen? ⟨b, j, none⟩ = false) (first | exact ⟨c3, d0, d1⟩ | exact hS5 | exact hS6) (first | (go_at_call 51; refine (HCL.out _).mono ?_; rintro e w5 ⟨rfl, hb5⟩; have B5 := hid (show Below wr.heap.size wr w5 by (first | exact hb5 | exact undrew hb5)); have HT5 := hid (HTB.out.below B5.out HTB.out.lt); have HO5 := hid (below_block B5.out HR.out.2.1 (lt_of_block HR.out.2.1)); have hS5 := And.intro ((B5.out.cell (by exact lt_of_block HR.out.2.1)).trans c3) (And.intro (HT5.out.cell HZ.out) (HT5.out.free j)); have hS6 := And.intro (show (w5.setCell ⟨b, j, none⟩ (.string (tx z))).cell? ⟨rb, 3, none⟩ = some (.slice (some ⟨b, 0, none⟩) n cap') by (rw [← HAO.out]; exact (rob_cells (block_other _ HO5.out (by have := hbb.out; omega))).2.2.2.1)) (And.intro ((HT5.out.again HZ.out).cell HZ.out) ((HT5.out.again HZ.out).free j)); clear hb5))
      have HN5 := hid (show Below rb w (w5.setCell ⟨b, j, none⟩ (.string (tx z))) ∧ (w5.setCell ⟨b, j, none⟩ (.string (tx z))).heap[rb]? = some (rob p (tx m) k (.slice ao' n cap')) ∧ (w5.setCell ⟨b, j, none⟩ (.string (tx z))).heap[rb + 1]? = some (rob 0 (tx []) 0 (.slice none 0 0)) ∧ Ported (w5.setCell ⟨b, j, none⟩ (.string (tx z))) (rb + 2) (.slice ao' n cap') zs from by
        have hbb' := hbb.out
        refine ⟨(HR.out.1.trans (B5.out.mono (Nat.le_of_lt (lt_of_block HR.out.2.1)))).setCell (by show rb ≤ b; omega) _, block_other _ HO5.out (by omega), block_other _ (below_block B5.out HR.out.2.2.1 (lt_of_block HR.out.2.2.1)) (by omega), ?_⟩
        obtain ⟨ao2, cap2, q1, q2, _⟩ := HR.out.2.2.2
        refine ⟨ao2, cap2, q1, q2, Or.inr ⟨b, ?_, hbb', HT5.out.again HZ.out⟩⟩
        cases q1
        exact HAO.out)
      rw [HAO.out] at HN5
      go_wp2
      go_roundw
      case rel => exact ⟨j + 1, by omega, by go_num, HN5⟩
      case measure => simp [intOf]; omega
    · have hI : ¬ ((j : Int) < (n : Int)) := by omega
      obtain ⟨c0, c1, c2, c3, _, _, _, _⟩ := rob_cells HR.out.2.1
      obtain ⟨e0, e1, e2, e3, f0, f1, f2, f3⟩ := rob_cells HR.out.2.2.1
      have B10 := rob_4 (rob_3 (rob_2 (rob_1 HR.out.2.2.1 p) (tx m)) k) (.slice ao' n cap')
      obtain ⟨n0, n1, n2, n3, _, _, _, _⟩ := rob_cells B10
      have HB10 := hid ((((HR.out.1.setCell (p := ⟨rb + 1, 0, none⟩) (by show rb ≤ rb + 1; omega) (.int .i64 p)).setCell (p := ⟨rb + 1, 1, none⟩) (by show rb ≤ rb + 1; omega) (.string (tx m))).setCell (p := ⟨rb + 1, 2, none⟩) (by show rb ≤ rb + 1; omega) (.int .i64 k)).setCell (p := ⟨rb + 1, 3, none⟩) (by show rb ≤ rb + 1; omega) (.slice ao' n cap'))
      clear B10
      go_wp2_with fail
      refine bodyPost_ret (v := .agg #[.int .i64 p, .string (tx m), .int .i64 k, .slice ao' n cap']) (by simp [results, Tryz.results29, go_sem, n0, n1, n2, n3]) rfl ⟨_, rfl, ?_, ?_⟩
      · obtain ⟨ao2, cap2, q1, q2, q | ⟨b, q3, q4, cs, q5, q6⟩⟩ := HR.out.2.2.2
        · exact ⟨ao2, cap2, q1, q2, Or.inl q⟩
        · refine ⟨ao2, cap2, q1, q2, Or.inr ⟨b, q3, by rw [← HRB.out]; omega, cs, ?_, q6⟩⟩
          have e1 : b ≠ rb + 1 := by omega
          rw [Below.heap_setCell _ _ _ _ e1, Below.heap_setCell _ _ _ _ e1, Below.heap_setCell _ _ _ _ e1, Below.heap_setCell _ _ _ _ e1]
          exact q5
      · rw [← HRB.out]
        exact HB10.out
end Go.Proofs.YtbfiggghpflioaaGreatDoor
namespace Go.Proofs.YtbfiggghpflioaaGreatDoor
open Go.ChangeShapes Go.WideShapes Go.ChangeAt Go.RowKit
open Go.ChangeMaps (open_string shut_string)

theorem each_bound {H : Type} {P : Program} {t : TypeId} {fs : Array Field} {l : List (TypeId × Nat)} {ds : List (DataW H)} (ht : P.underlying t = some (.struct fs)) (hl : fs.toList.map (fun f => (f.type, f.offset)) = l) (hw : ∀ k ∈ (DataW.agg ds : DataW H).weights P t, k ≤ reachBytes) :
    ∀ (i : Nat) (ty : TypeId) (off : Nat) (d : DataW H), l[i]? = some (ty, off) → ds[i]? = some d → ∀ k ∈ d.weights P ty, k ≤ reachBytes := by
  intro i ty off d hi hd k hk
  apply hw
  simp only [DataW.weights, ht]
  refine DataW.weights_mem_each (j := i) (t := ty) ?_ hd k hk
  rw [← hl, List.getElem?_map, Option.map_eq_some_iff] at hi
  obtain ⟨f, hf, e⟩ := hi
  rw [List.getElem?_map, hf]
  simp only [Prod.mk.injEq] at e
  simp [e.1]
theorem weights_all {H : Type} {P : Program} {e : TypeId} : ∀ {ds : List (DataW H)} {d : DataW H}, d ∈ ds → ∀ k ∈ d.weights P e, k ∈ DataW.weightsAll P e ds
  | d0 :: ds, d, hd, k, hk => by
    simp only [DataW.weightsAll, List.mem_append]
    rcases List.mem_cons.1 hd with rfl | hd
    · exact Or.inl hk
    · exact Or.inr (weights_all hd k hk)
theorem slice_bound {H : Type} {P : Program} {t e : TypeId} {a b : List (DataW H)} (ht : P.underlying t = some (.slice e)) (hw : ∀ k ∈ (DataW.slice a b : DataW H).weights P t, k ≤ reachBytes) : (a.length + b.length) * P.bytesOf e ≤ reachBytes ∧ ∀ d ∈ a, ∀ k ∈ d.weights P e, k ≤ reachBytes := by
  refine ⟨hw _ (by simp [DataW.weights, ht]), fun d hd k hk => hw k ?_⟩
  simp only [DataW.weights, ht, List.mem_cons, List.mem_append]
  exact Or.inr (Or.inl (weights_all hd k hk))

section
variable {H : Type} {enc : TypeId × Value → H} {w : World} {base : Nat} {spare : Nat → Bool} {held : Bool}

set_option maxRecDepth 100000 in
theorem open_rule_s {fuel : Nat} {cs : List Value} {x : DataW H × List MemPlace} (h : DataW.trod enc Tryz.prog w base spare held fuel 28 cs = some x) (hw : ∀ k ∈ x.1.weights Tryz.prog 28, k ≤ reachBytes) :
    ∃ (p : Int) (m : ByteArray) (k : Int) (v : Value) (n : Nat) (y : DataW H × List MemPlace), cs = [.int .i64 p, .string m, .int .i64 k, v] ∧ m.size ≤ maxLen ∧ DataW.trod enc Tryz.prog w base spare held n 24 [v] = some y ∧ m.size ≤ reachBytes ∧ ∀ k ∈ y.1.weights Tryz.prog 24, k ≤ reachBytes := by
  obtain ⟨fs, hfs, hl⟩ := struct_of (P := Tryz.prog) (t := 28) (l := [(3, 0), (9, 1), (26, 2)]) (by kernel_rfl)
  obtain ⟨gs, hgs, hm⟩ := struct_of (P := Tryz.prog) (t := 26) (l := [(23, 0), (24, 1)]) (by kernel_rfl)
  obtain ⟨xs, n, _, hxe, hlen, hxl, hf⟩ := DataW.trod_struct hfs h
  have W1 := each_bound hfs hl (by rw [hxe] at hw; exact hw)
  have hc : Tryz.prog.cellsOf 28 = 4 := by kernel_rfl
  rw [hc] at hlen
  have hsz : fs.size = 3 := by have := congrArg List.length hl; simpa using this
  match cs, hlen with
  | [c0, c1, c2, c3], _ =>
    obtain ⟨f0, e0, t0, o0⟩ := field_of hl (i := 0) rfl
    obtain ⟨f1, e1, t1, o1⟩ := field_of hl (i := 1) rfl
    obtain ⟨f2, e2, t2, o2⟩ := field_of hl (i := 2) rfl
    have g0 := hf 0 f0 e0
    have g1 := hf 1 f1 e1
    have g2 := hf 2 f2 e2
    rw [t0, o0, show Tryz.prog.cellsOf 3 = 1 by kernel_rfl, List.getElem?_eq_getElem (show 0 < xs.length by omega)] at g0
    rw [t1, o1, show Tryz.prog.cellsOf 9 = 1 by kernel_rfl, List.getElem?_eq_getElem (show 1 < xs.length by omega)] at g1
    rw [t2, o2, show Tryz.prog.cellsOf 26 = 2 by kernel_rfl, List.getElem?_eq_getElem (show 2 < xs.length by omega)] at g2
    obtain ⟨p, hp, _, _⟩ := DataW.trod_int Tryz.underlying3 g0
    obtain ⟨m, hm1, hx1, hms⟩ := DataW.trod_string Tryz.underlying9 g1
    obtain ⟨ys, n2, _, hye, _, hyl, hg⟩ := DataW.trod_struct hgs g2
    have W2 := each_bound hgs hm (by have := W1 2 26 2 xs[2].1 rfl (by rw [List.getElem?_map, List.getElem?_eq_getElem (show 2 < xs.length by omega)]; rfl); rw [hye] at this; exact this)
    have hsz2 : gs.size = 2 := by have := congrArg List.length hm; simpa using this
    obtain ⟨k0, d0, u0, q0⟩ := field_of hm (i := 0) rfl
    obtain ⟨k1, d1, u1, q1⟩ := field_of hm (i := 1) rfl
    have r0 := hg 0 k0 d0
    have r1 := hg 1 k1 d1
    rw [u0, q0, show Tryz.prog.cellsOf 23 = 1 by kernel_rfl, List.getElem?_eq_getElem (show 0 < ys.length by omega)] at r0
    rw [u1, q1, show Tryz.prog.cellsOf 24 = 1 by kernel_rfl, List.getElem?_eq_getElem (show 1 < ys.length by omega)] at r1
    obtain ⟨k, hk, _, _⟩ := DataW.trod_int (k := .i64) (by kernel_rfl) r0
    simp at hp hm1 hk
    subst hp hm1 hk
    refine ⟨p, m, k, c3, n2, _, rfl, hms, by simpa using r1, ?_, ?_⟩
    · have := W1 1 9 1 xs[1].1 rfl (by rw [List.getElem?_map, List.getElem?_eq_getElem (show 1 < xs.length by omega)]; rfl)
      rw [hx1] at this
      have q := this m.data.toList.length (by simp [DataW.weights])
      rw [list_size] at q; exact q
    · exact W2 1 24 1 ys[1].1 rfl (by rw [List.getElem?_map, List.getElem?_eq_getElem (show 1 < ys.length by omega)]; rfl)

/-- Texts that came in. -/
theorem open_texts_s {fuel : Nat} {v : Value} {x : DataW H × List MemPlace} (h : DataW.trod enc Tryz.prog w base (fun _ => true) held fuel 24 [v] = some x) (hw : ∀ k ∈ x.1.weights Tryz.prog 24, k ≤ reachBytes) : ∃ ps : List (List UInt8), Txs w v ps ∧ (∀ p ∈ ps, p.length ≤ maxLen) ∧ ps.length * 16 ≤ reachBytes ∧ ∀ p ∈ ps, p.length ≤ reachBytes := by
  rcases open_strings Tryz.underlying24 Tryz.underlying9 (by kernel_rfl) h with ⟨hcs, _⟩ | ⟨a, len, cap, ss, hcs, _, hl, hm, hz, hxe, hcell, hws⟩
  · simp only [List.cons.injEq, and_true] at hcs
    exact ⟨[], by rw [hcs]; exact Txs.nil _ _ _, fun p hp => absurd hp (by simp), by simp, fun p hp => absurd hp (by simp)⟩
  · simp only [List.cons.injEq, and_true] at hcs
    simp only [if_true] at hz
    rw [hxe] at hw
    obtain ⟨w1, w2⟩ := slice_bound Tryz.underlying24 hw
    rw [show Tryz.prog.bytesOf 9 = 16 by kernel_rfl] at w1
    refine ⟨(ss.take len).map (fun s => s.data.toList), ?_, fun p hp => ?_, ?_, fun p hp => ?_⟩
    · have hlen : ((ss.take len).map (fun s => s.data.toList)).length = len := by rw [List.length_map, List.length_take]; omega
      refine ⟨some a, cap, by rw [hlen, hcs], ?_⟩
      by_cases h0 : len = 0
      · exact Or.inl (by rw [h0]; simp)
      · obtain ⟨⟨g, o, rfl⟩, hb⟩ := addr_of5 (hcell 0 (by omega))
        refine Or.inr ⟨g, o, rfl, hb, fun i hi => ?_⟩
        rw [hlen] at hi
        have := hcell i (by omega)
        rw [addr_add5] at this
        rw [this]
        have hi2 : i < ss.length := by omega
        simp [List.getD_eq_getElem?_getD, List.getElem?_map, hi, List.getElem?_eq_getElem hi2]
    · obtain ⟨s, hs, rfl⟩ := List.mem_map.1 hp
      have := hws s (List.mem_of_mem_take hs)
      rw [list_size]; exact this
    · refine Nat.le_trans (Nat.mul_le_mul_right 16 ?_) w1
      simp [strs]
    · obtain ⟨s, hs, rfl⟩ := List.mem_map.1 hp
      exact w2 (.lit (.string s.data.toList)) (List.mem_map.2 ⟨s, hs, rfl⟩) _ (by simp [DataW.weights])

/-- Rules that came in. -/
theorem open_rules_s {fuel : Nat} {ao : Option Addr} {len cap : Nat} {x : DataW H × List MemPlace} (h : DataW.trod enc Tryz.prog w base (fun _ => true) held fuel 22 [.slice ao len cap] = some x) (hw : ∀ k ∈ x.1.weights Tryz.prog 22, k ≤ reachBytes) : ∃ ps : List (Raw × Value), RawIn w ao ps ∧ ps.length = len ∧ len ≤ cap ∧ ∀ q ∈ ps, Small q.1.mat q.1.ports := by
  rcases Go.Deep.open_slice (e := 28) Tryz.underlying22 h with ⟨hcs, _⟩ | ⟨a, len', cap', m, n, D, Pl, hcs, _, hl, hm, hmm, hxe, hx⟩
  · simp at hcs
    exact ⟨[], ⟨Or.inl rfl⟩, by rw [hcs.2.1]; rfl, by omega, fun q hq => absurd hq (by simp)⟩
  · simp at hcs
    obtain ⟨rfl, rfl, rfl⟩ := hcs
    simp only [if_true] at hmm
    have hc : Tryz.prog.cellsOf 28 = 4 := by kernel_rfl
    by_cases h0 : len = 0
    · exact ⟨[], ⟨Or.inl rfl⟩, by rw [h0]; rfl, hl, fun q hq => absurd hq (by simp)⟩
    rw [hxe] at hw
    obtain ⟨_, w2⟩ := slice_bound Tryz.underlying22 hw
    have each : ∀ i, i < len → ∃ q : Raw × Value, w.cell? (a.add (i * 4)) = some (.int .i64 q.1.prio) ∧ w.cell? ((a.add (i * 4)).add 1) = some (.string (tx q.1.mat)) ∧ w.cell? ((a.add (i * 4)).add 2) = some (.int .i64 q.1.kind) ∧ w.cell? ((a.add (i * 4)).add 3) = some q.2 ∧ Txs w q.2 q.1.ports ∧ (∀ p ∈ q.1.ports, p.length ≤ maxLen) ∧ Small q.1.mat q.1.ports := by
      intro i hi
      obtain ⟨cs', h1, h2⟩ := hx i (by omega)
      rw [hc] at h1
      obtain ⟨_, _, hcell⟩ := World.cells?_some h1
      obtain ⟨p, m', k, v, n', y, rfl, hms, hv, hb1, hb2⟩ := open_rule_s h2 (w2 (D i) (List.mem_map.2 ⟨i, List.mem_range.2 hi, rfl⟩))
      obtain ⟨zs, hz1, hz2, hz3, hz4⟩ := open_texts_s hv hb2
      have c0 := hcell 0 (by omega)
      have c1 := hcell 1 (by omega)
      have c2 := hcell 2 (by omega)
      have c3 := hcell 3 (by omega)
      have e0 : (a.add (i * 4)).add 0 = a.add (i * 4) := by unfold Addr.add; simp
      rw [e0] at c0
      exact ⟨(⟨p, m'.data.toList, k, zs⟩, v), c0, c1, c2, c3, hz1, hz2, by rw [list_size]; exact Nat.le_trans hb1 (by decide), Nat.le_trans hz3 (by decide), fun z hz => Nat.le_trans (hz4 z hz) (by decide)⟩
    have : Inhabited (Raw × Value) := ⟨(⟨0, [], 0, []⟩, .bool false)⟩
    obtain ⟨q, hq⟩ := Go.Deep.choose_lt each
    obtain ⟨⟨g, o, rfl⟩, hb⟩ := addr_of5 (v := .int .i64 (q 0).1.prio) (by have := (hq 0 (by omega)).1; rw [Nat.zero_mul] at this; exact this)
    refine ⟨(List.range len).map q, ⟨Or.inr ⟨g, o, rfl, hb, fun i r hr => ?_, fun r hr => ?_⟩⟩, by simp, hl, fun r hr => ?_⟩
    · rw [List.getElem?_map, Option.map_eq_some_iff] at hr
      obtain ⟨i', hi', rfl⟩ := hr
      obtain ⟨hi, rfl⟩ := List.getElem?_eq_some_iff.1 hi'
      simp only [List.length_range] at hi
      simp only [List.getElem_range]
      obtain ⟨c0, c1, c2, c3, _, _⟩ := hq i hi
      rw [addr_add5] at c0 c1 c2 c3
      rw [addr_add5] at c1 c2 c3
      exact ⟨c0, c1, c2, c3⟩
    · obtain ⟨i, hi, rfl⟩ := List.mem_map.1 hr
      have := hq i (List.mem_range.1 hi)
      exact ⟨this.2.2.2.2.1, this.2.2.2.2.2.1⟩
    · obtain ⟨i, hi, rfl⟩ := List.mem_map.1 hr
      exact (hq i (List.mem_range.1 hi)).2.2.2.2.2.2
end
end Go.Proofs.YtbfiggghpflioaaGreatDoor
namespace Go.Proofs.YtbfiggghpflioaaGreatDoor
namespace St

/-- A comparing of numbers below n that is an order, where unlike ones may be alike. -/
structure Ord (c : Nat → Nat → Int) (n : Nat) : Prop where
  anti : ∀ x y, x < n → y < n → (c x y < 0 ↔ 0 < c y x)
  trans : ∀ x y z, x < n → y < n → z < n → c x y ≤ 0 → c y z ≤ 0 → c x z ≤ 0

/-- Ahead, by the comparing, then by the number. -/
def lt (c : Nat → Nat → Int) (x y : Nat) : Prop := c x y < 0 ∨ (c x y = 0 ∧ x < y)

variable {c : Nat → Nat → Int} {n : Nat}

theorem Ord.irr (h : Ord c n) {x : Nat} (hx : x < n) : ¬ lt c x x := by
  rintro (q | ⟨_, q⟩)
  · have := (h.anti x x hx hx).1 q; omega
  · omega
theorem Ord.tra (h : Ord c n) {x y z : Nat} (hx : x < n) (hy : y < n) (hz : z < n) (p : lt c x y) (q : lt c y z) : lt c x z := by
  have p0 : c x y ≤ 0 := by rcases p with p | ⟨p, _⟩ <;> omega
  have q0 : c y z ≤ 0 := by rcases q with q | ⟨q, _⟩ <;> omega
  have r0 := h.trans x y z hx hy hz p0 q0
  by_cases r : c x z < 0
  · exact Or.inl r
  have rz : c x z = 0 := by omega
  have zx : c z x ≤ 0 := by
    by_cases k : 0 < c z x
    · have := (h.anti x z hx hz).2 k; omega
    · omega
  refine Or.inr ⟨rz, ?_⟩
  rcases p with p | ⟨_, p⟩
  · have := h.trans y z x hy hz hx q0 zx
    have := (h.anti x y hx hy).1 p
    omega
  rcases q with q | ⟨_, q⟩
  · have := h.trans z x y hz hx hy zx p0
    have := (h.anti y z hy hz).1 q
    omega
  omega
theorem Ord.asy (h : Ord c n) {x y : Nat} (hx : x < n) (hy : y < n) (p : lt c x y) (q : lt c y x) : False := h.irr hx (h.tra hx hy hx p q)
theorem Ord.near (h : Ord c n) {x y : Nat} (hx : x < n) (hy : y < n) (hxy : x < y) (k : ¬ c y x < 0) : lt c x y := by
  by_cases q : c x y < 0
  · exact Or.inl q
  · refine Or.inr ⟨?_, hxy⟩
    by_cases r : 0 < c x y
    · exact absurd ((h.anti y x hy hx).2 r) k
    · omega
theorem far {x y : Nat} (k : c y x < 0) : lt c y x := Or.inl k

/-- A row that rises. -/
def Up (c : Nat → Nat → Int) (l : List Nat) : Prop := l.Pairwise (lt c)

/-- One that is put behind all that it does not stand ahead of. -/
theorem Ord.put (h : Ord c n) {A B : List Nat} {y : Nat} (hy : y < n) (hn : ∀ x ∈ A ++ B, x < n) (hs : Up c (A ++ B)) (hl : ∀ x ∈ A ++ B, x < y) (hb : ∀ b ∈ B, c y b < 0) (ha : ∀ a, A.getLast? = some a → ¬ c y a < 0) : Up c (A ++ y :: B) := by
  unfold Up at hs ⊢
  rw [List.pairwise_append] at hs ⊢
  obtain ⟨s1, s2, s3⟩ := hs
  have key : ∀ a ∈ A, lt c a y := by
    intro a hA
    rcases List.eq_nil_or_concat A with e | ⟨A', z, e⟩
    · rw [e] at hA; cases hA
    · have hz : lt c z y := h.near (hn z (by rw [e]; simp)) hy (hl z (by rw [e]; simp)) (ha z (by rw [e]; simp))
      rw [e, List.concat_eq_append] at hA s1
      rcases List.mem_append.1 hA with q | q
      · exact h.tra (hn a (by rw [e]; simp [q])) (hn z (by rw [e]; simp)) hy ((List.pairwise_append.1 s1).2.2 a q z (by simp)) hz
      · rw [List.mem_singleton.1 q]; exact hz
  refine ⟨s1, List.pairwise_cons.2 ⟨fun b hB => far (hb b hB), s2⟩, fun a hA b hB => ?_⟩
  rcases List.mem_cons.1 hB with rfl | hB
  · exact key a hA
  · exact s3 a hA b hB

/-- What rises stands but one way. -/
theorem Ord.one (h : Ord c n) : ∀ {l m : List Nat}, (∀ x ∈ l, x < n) → Up c l → Up c m → l.Perm m → l = m := by
  intro l
  induction l with
  | nil => intro m _ _ _ p; exact (List.Perm.nil_eq p)
  | cons a l ih =>
    intro m hn hl hm p
    cases m with
    | nil => exact absurd p.length_eq (by simp)
    | cons b m =>
      have hab : a = b := by
        by_cases e : a = b
        · exact e
        exfalso
        have ha : a ∈ m := by
          have := p.mem_iff.1 (List.mem_cons_self (a := a) (l := l))
          rcases List.mem_cons.1 this with q | q
          · exact absurd q e
          · exact q
        have hb : b ∈ l := by
          have := p.mem_iff.2 (List.mem_cons_self (a := b) (l := m))
          rcases List.mem_cons.1 this with q | q
          · exact absurd q.symm e
          · exact q
        exact h.asy (hn a (by simp)) (hn b (by simp [hb])) ((List.pairwise_cons.1 hl).1 b hb) ((List.pairwise_cons.1 hm).1 a ha)
      subst hab
      rw [ih (fun x hx => hn x (by simp [hx])) (List.pairwise_cons.1 hl).2 (List.pairwise_cons.1 hm).2 (List.perm_cons a |>.1 p)]

/-- Both halves of two rows: what is below the cut stands ahead of what is above. -/
theorem Ord.halves (h : Ord c n) {X1 X2 Y1 Y2 : List Nat} (hn : ∀ x ∈ (X1 ++ X2) ++ (Y1 ++ Y2), x < n) (hX : Up c (X1 ++ X2)) (hY : Up c (Y1 ++ Y2)) (hl : ∀ x ∈ X1 ++ X2, ∀ y ∈ Y1 ++ Y2, x < y)
    (h1 : ∀ x, X1.getLast? = some x → ∀ y, Y2.head? = some y → ¬ c y x < 0) (h2 : ∀ y, Y1.getLast? = some y → ∀ x, X2.head? = some x → c y x < 0) :
    ∀ u ∈ X1 ++ Y1, ∀ v ∈ X2 ++ Y2, lt c u v := by
  unfold Up at hX hY
  obtain ⟨sx1, sx2, sx⟩ := List.pairwise_append.1 hX
  obtain ⟨sy1, sy2, sy⟩ := List.pairwise_append.1 hY
  have B : ∀ x, x ∈ X1 ∨ x ∈ X2 ∨ x ∈ Y1 ∨ x ∈ Y2 → x < n := fun x q => hn x (by rcases q with q | q | q | q <;> simp [q])
  intro u hu v hv
  rcases List.mem_append.1 hu with hu | hu <;> rcases List.mem_append.1 hv with hv | hv
  · exact sx u hu v hv
  · -- x of the first, y of the last
    rcases List.eq_nil_or_concat X1 with e | ⟨A, x, e⟩
    · rw [e] at hu; cases hu
    cases hY2 : Y2 with
    | nil => rw [hY2] at hv; cases hv
    | cons y Y =>
      have hx1 : x ∈ X1 := by rw [e]; simp
      have hy2 : y ∈ Y2 := by rw [hY2]; simp
      have hxy : lt c x y := h.near (B x (by simp [hx1])) (B y (by simp [hy2])) (hl x (by simp [hx1]) y (by simp [hy2])) (h1 x (by rw [e]; simp) y (by rw [hY2]; rfl))
      have a1 : u = x ∨ lt c u x := by
        rw [e, List.concat_eq_append] at hu sx1
        rcases List.mem_append.1 hu with q | q
        · exact Or.inr ((List.pairwise_append.1 sx1).2.2 u q x (by simp))
        · exact Or.inl (List.mem_singleton.1 q)
      have a2 : v = y ∨ lt c y v := by
        rw [hY2] at hv sy2
        rcases List.mem_cons.1 hv with q | q
        · exact Or.inl q
        · exact Or.inr ((List.pairwise_cons.1 sy2).1 v q)
      have hvn := B v (by simp [hv])
      have hun := B u (by simp [hu])
      have a3 : lt c u y := by
        rcases a1 with rfl | q
        · exact hxy
        · exact h.tra hun (B x (by simp [hx1])) (B y (by simp [hy2])) q hxy
      rcases a2 with rfl | q
      · exact a3
      · exact h.tra hun (B y (by simp [hy2])) hvn a3 q
  · rcases List.eq_nil_or_concat Y1 with e | ⟨A, y, e⟩
    · rw [e] at hu; cases hu
    cases hX2 : X2 with
    | nil => rw [hX2] at hv; cases hv
    | cons x X =>
      have hy1 : y ∈ Y1 := by rw [e]; simp
      have hx2 : x ∈ X2 := by rw [hX2]; simp
      have hxy : lt c y x := far (h2 y (by rw [e]; simp) x (by rw [hX2]; rfl))
      have a1 : u = y ∨ lt c u y := by
        rw [e, List.concat_eq_append] at hu sy1
        rcases List.mem_append.1 hu with q | q
        · exact Or.inr ((List.pairwise_append.1 sy1).2.2 u q y (by simp))
        · exact Or.inl (List.mem_singleton.1 q)
      have a2 : v = x ∨ lt c x v := by
        rw [hX2] at hv sx2
        rcases List.mem_cons.1 hv with q | q
        · exact Or.inl q
        · exact Or.inr ((List.pairwise_cons.1 sx2).1 v q)
      have hvn := B v (by simp [hv])
      have hun := B u (by simp [hu])
      have a3 : lt c u x := by
        rcases a1 with rfl | q
        · exact hxy
        · exact h.tra hun (B y (by simp [hy1])) (B x (by simp [hx2])) q hxy
      rcases a2 with rfl | q
      · exact a3
      · exact h.tra hun (B x (by simp [hx2])) hvn a3 q
  · exact sy u hu v hv

/-- Two sorted halves, the one ahead of the other. -/
theorem up_two {L H : List Nat} (h1 : Up c L) (h2 : Up c H) (h : ∀ u ∈ L, ∀ v ∈ H, lt c u v) : Up c (L ++ H) := List.pairwise_append.2 ⟨h1, h2, h⟩

/-- Places of a row. -/
def at_ (xs : List Nat) (k : Nat) : Nat := xs.getD k 0
theorem at_mid {P Q : List Nat} {x : Nat} {k : Nat} (hk : P.length = k) : at_ (P ++ x :: Q) k = x := by
  unfold at_; subst hk; simp [List.getD]
theorem swap_two {P Q : List Nat} {x y : Nat} {k : Nat} (hk : P.length = k) : ((P ++ x :: y :: Q).set k y).set (k + 1) x = P ++ y :: x :: Q := by
  subst hk
  simp
theorem swap_two' {P Q : List Nat} {x y : Nat} {k : Nat} (hk : P.length = k) : ((P ++ x :: y :: Q).set (k + 1) x).set k y = P ++ y :: x :: Q := by
  subst hk
  simp
theorem set_mid {P Q : List Nat} {x y : Nat} {k : Nat} (hk : P.length = k) : (P ++ x :: Q).set k y = P ++ y :: Q := by
  subst hk
  simp
end St
end Go.Proofs.YtbfiggghpflioaaGreatDoor
namespace Go.Proofs.YtbfiggghpflioaaGreatDoor
open Go.RowKit

/-- The cells of a row of numbers. -/
def nvs (xs : List Nat) : Array Value := (xs.map fun x : Nat => Value.int .i64 (x : Int)).toArray
/-- A row of numbers, alone in its block. -/
def Nums (w : World) (b : Nat) (xs : List Nat) : Prop := w.heap[b]? = some (.cells (nvs xs) 3 (0, 0))
theorem Nums.cell {w : World} {b : Nat} {xs : List Nat} (h : Nums w b xs) {k : Nat} (hk : k < xs.length) : w.cell? ⟨b, k, none⟩ = some (.int .i64 ((St.at_ xs k : Nat) : Int)) := by
  rw [cell_at h]
  unfold nvs St.at_
  simp [List.getD, List.getElem?_eq_getElem hk]
theorem Nums.free {w : World} {b : Nat} {xs : List Nat} (h : Nums w b xs) (k : Nat) : w.frozen? ⟨b, k, none⟩ = false := free_of h
theorem Nums.lt {w : World} {b : Nat} {xs : List Nat} (h : Nums w b xs) : b < w.heap.size := by
  unfold Nums at h
  rw [Array.getElem?_eq_some_iff] at h
  exact h.1
theorem Nums.set {w : World} {b : Nat} {xs : List Nat} (h : Nums w b xs) (k x : Nat) : Nums (w.setCell ⟨b, k, none⟩ (.int .i64 (x : Int))) b (xs.set k x) := by
  unfold Nums
  rw [block_set _ h]
  unfold nvs
  congr 2
  apply Array.ext'
  simp [List.map_set]
theorem Nums.below {w w' : World} {b B : Nat} {xs : List Nat} (h : Nums w b xs) (hb : Below B w w') (hB : b < B) : Nums w' b xs := below_block hb h hB
theorem Nums.on {w w' : World} {b : Nat} {xs : List Nat} (h : Nums w b xs) (hb : Below w.heap.size w w') : Nums w' b xs := h.below hb h.lt
theorem Nums.drew {w : World} {b : Nat} {xs : List Nat} (h : Nums w b xs) : Nums w.drew b xs := h

/-- A closure that compares numbers below n, in each world that has what lies below b. -/
def Cmps (w : World) (b n : Nat) (c : Nat → Nat → Int) (cb : Nat) : Prop := ∀ (W : World), Below b w W → ∀ x y, x < n → y < n → Calls Tryz.prog 27 #[.int .i64 (x : Int), .int .i64 (y : Int), .pointer (some ⟨cb, 0, none⟩)] W fun e W' => e = .returned (.int .i64 (c x y)) ∧ Below W.heap.size W W'
theorem Cmps.on {w w' : World} {b n cb : Nat} {c : Nat → Nat → Int} (h : Cmps w b n c cb) (hb : Below b w w') : Cmps w' b n c cb := fun W hW => h W (hb.trans hW)
end Go.Proofs.YtbfiggghpflioaaGreatDoor
namespace Go.Proofs.YtbfiggghpflioaaGreatDoor
open Go.RowKit

/-- A closure over one pointer. -/
abbrev clo (cb : Nat) : Value := .func (.func 27) #[] #[.pointer (some ⟨cb, 0, none⟩)]
theorem Tryz.entOrd : ∀ args w, (callFunc 27 args).run Tryz.prog w = .ok (.enter 27 args) w := fun _ _ => by kernel_rfl

theorem Tryz.mixed : Tryz.prog.follows Departure.mixedOrders = true := by kernel_rfl

/-- What a sort of the piece X of a row leaves. -/
def Sorts (c : Nat → Nat → Int) (w : World) (b : Nat) (P X S : List Nat) (w' : World) : Prop := Below b w w' ∧ ∃ Z, St.Up c Z ∧ Z.Perm X ∧ Nums w' b (P ++ Z ++ S)

/-- Where the insertion of y stands: A ahead of it, B behind it. -/
structure InsAt (c : Nat → Nat → Int) (w : World) (b : Nat) (P Z S : List Nat) (y : Nat) (j : Nat) (w' : World) : Prop where
  parts : ∃ A B, Z = A ++ B ∧ j = P.length + A.length ∧ (∀ x ∈ B, c y x < 0) ∧ Nums w' b ((P ++ A) ++ y :: (B ++ S))
  low : Below b w w'
/-- Where the outer loop stands: Z is sorted, R is left. -/
structure InsOut (c : Nat → Nat → Int) (w : World) (b : Nat) (P X S : List Nat) (k : Nat) (w' : World) (Z R : List Nat) : Prop where
  len : k = P.length + Z.length
  up : St.Up c Z
  parts : ∃ A, X = A ++ R ∧ Z.Perm A
  nums : Nums w' b (P ++ Z ++ (R ++ S))
  low : Below b w w'

theorem InsOut.step {c : Nat → Nat → Int} {N : Nat} {w w' : World} {b k : Nat} {P X S Z R : List Nat} {y : Nat} {A B : List Nat} {wr : World} (h : InsOut c w b P X S k wr Z (y :: R)) (hO : St.Ord c N) (hx : ∀ x ∈ X, x < N) (hX : X.Pairwise (· < ·)) (hAB : Z = A ++ B) (hB : ∀ x ∈ B, c y x < 0) (hA : ∀ x, A.getLast? = some x → ¬ c y x < 0) (hN : Nums w' b ((P ++ A) ++ y :: (B ++ (R ++ S)))) (hb : Below b w w') :
    InsOut c w b P X S (k + 1) w' (A ++ y :: B) R := by
  obtain ⟨A0, e0, p0⟩ := h.parts
  have hmem : ∀ x ∈ Z, x ∈ X := fun x q => by rw [e0]; exact List.mem_append_left _ (p0.mem_iff.1 q)
  have hy : y ∈ X := by rw [e0]; simp
  have hlt : ∀ x ∈ Z, x < y := fun x q => by
    rw [e0] at hX
    exact (List.pairwise_append.1 hX).2.2 x (p0.mem_iff.1 q) y (by simp)
  have up := h.up
  rw [hAB] at up hlt hmem
  refine ⟨?_, hO.put (hx y hy) (fun x q => hx x (hmem x q)) up hlt hB hA, ⟨A0 ++ [y], by rw [e0]; simp, ?_⟩, ?_, hb⟩
  · rw [h.len, hAB]; simp only [List.length_append, List.length_cons]; omega
  · refine List.Perm.trans List.perm_middle ?_
    rw [hAB] at p0
    exact (List.Perm.cons y p0).trans (List.perm_append_singleton y A0).symm
  · have e : P ++ (A ++ y :: B) ++ (R ++ S) = (P ++ A) ++ y :: (B ++ (R ++ S)) := by simp
    rw [e]; exact hN

set_option maxRecDepth 20000 in
set_option maxHeartbeats 2000000 in
theorem ins_any {w : World} {b n N cap cb a e : Nat} {c : Nat → Nat → Int} {P X S : List Nat} (hO : St.Ord c N) (hC : Cmps w b N c cb) (hN : Nums w b (P ++ X ++ S)) (hn : (P ++ X ++ S).length = n) (h62 : n < 4611686018427387904) (hx : ∀ x ∈ X, x < N) (hX : X.Pairwise (· < ·)) (ha : P.length = a) (he : a + X.length = e) :
    Calls Tryz.prog 82 #[.slice (some ⟨b, 0, none⟩) n cap, .int .i64 a, .int .i64 e, clo cb] w fun en w' => en = .returned (.tuple #[]) ∧ Sorts c w b P X S w' := by
  have HO := hid hO
  have HC := hid hC
  have HN := hid hN
  have HL := hid hn
  have HX := hid hx
  have HU := hid hX
  have HA := hid ha
  have HE := hid he
  have hent := Tryz.entOrd
  have mixed := Tryz.mixed
  have hen : e ≤ n := by rw [← hn]; simp only [List.length_append]; omega
  have ha62 : a < 4611686018427387904 := by omega
  cases hX0 : X with
  | nil =>
    have hae : ¬ ((a : Int) + 1 < (e : Int)) := by rw [hX0] at he; simp at he; omega
    clear hO hC hN hn hx hX ha he
    go_enter Tryz.func82, Tryz.ntmps82
    go_wp2_with fail
    refine wp_loop_rounds 1 ?_
    rw [rounds_succ]
    go_wp2
    exact bodyPost_end (v := .tuple #[]) (by simp [results, Tryz.results82, go_sem]) rfl ⟨rfl, Below.refl _ _, [], List.Pairwise.nil, List.Perm.nil, by have := HN.out; rw [hX0] at this; exact this⟩
  | cons x0 X1 =>
    have HI := hid (show InsOut c w b P X S (a + 1) w [x0] X1 from ⟨by rw [← ha]; rfl, List.pairwise_singleton _ _, ⟨[x0], by rw [hX0]; rfl, List.Perm.refl _⟩, by rw [hX0] at hN; simpa using hN, Below.refl _ _⟩)
    have hae : a + 1 ≤ e := by rw [hX0] at he; simp only [List.length_cons] at he; omega
    rw [← hX0]
    clear hO hC hN hn hx hX ha he hX0
    go_enter Tryz.func82, Tryz.ntmps82
    go_wp2_with fail
    go_loopw [8, 9] (fun i _ wr => ∃ (k : Nat) (Z R : List Nat), k ≤ e ∧ i = .int .i64 k ∧ Hid (InsOut c w b P X S k wr Z R)) (fun i _ _ => e - (intOf i).toNat)
    case atStart => exact ⟨a + 1, [x0], X1, hae, by go_num, HI⟩
    case round =>
      obtain ⟨k, Z, R, hke, rfl, HR⟩ := hrel
      rename World => wo
      have HKL := hid (show k + R.length = e by
        obtain ⟨A0, e0, p0⟩ := HR.out.parts
        have := HR.out.len
        have h1 := HE.out
        have h2 := HA.out
        have h3 := p0.length_eq
        rw [e0, List.length_append] at h1
        omega)
      by_cases hlt : k < e
      · cases hR : R with
        | nil => exfalso; have := HKL.out; rw [hR] at this; simp at this; omega
        | cons y R1 =>
          have hkI : (k : Int) < (e : Int) := by omega
          have HR1 := hid (show InsOut c w b P X S k wo Z (y :: R1) from hR ▸ HR.out)
          have HYN := hid (show y < N from HX.out y (by obtain ⟨A0, e0, _⟩ := HR1.out.parts; rw [e0]; simp))
          have HZN := hid (show ∀ x ∈ Z, x < N from fun x q => HX.out x (by obtain ⟨A0, e0, p0⟩ := HR1.out.parts; rw [e0]; exact List.mem_append_left _ (p0.mem_iff.1 q)))
          have HS0 := hid (show InsAt c w b P Z (R1 ++ S) y k wo from ⟨⟨Z, [], by simp, HR1.out.len, fun x q => by (cases q), by simpa using HR1.out.nums⟩, HR1.out.low⟩)
          have hak : a ≤ k := by have := HR1.out.len; have := HA.out; omega
          clear hR
          go_wp2_with fail
          go_loopw [9] (fun j wq => ∃ jj : Nat, a ≤ jj ∧ jj ≤ k ∧ j = .int .i64 jj ∧ Hid (InsAt c w b P Z (R1 ++ S) y jj wq)) (fun j _ => (intOf j).toNat)
          case atStart => exact ⟨k, hak, Nat.le_refl _, rfl, HS0⟩
          case round =>
            obtain ⟨jj, haj, hjk, rfl, HJ⟩ := hrel
            rename World => wr
            by_cases hja : a < jj
            · obtain ⟨t, htj⟩ : ∃ t, jj = t + 1 := ⟨jj - 1, by omega⟩
              have HTJ := hid htj
              obtain ⟨A, B, x, HP⟩ : ∃ (A B : List Nat) (x : Nat), Hid (Z = (A ++ [x]) ++ B ∧ t = (P ++ A).length ∧ (∀ z ∈ B, c y z < 0) ∧ Nums wr b ((P ++ A) ++ x :: y :: (B ++ (R1 ++ S)))) := by
                obtain ⟨A, B, h1, h2, h3, h4⟩ := HJ.out.parts
                rcases List.eq_nil_or_concat A with q | ⟨A', x, q⟩
                · exfalso; rw [q] at h2; have := HA.out; simp at h2; omega
                · rw [List.concat_eq_append] at q
                  exact ⟨A', B, x, by rw [← q]; exact h1, by rw [q] at h2; simp only [List.length_append, List.length_cons, List.length_nil] at h2 ⊢; omega, h3, by rw [q] at h4; simpa using h4⟩
              have hxN := hid (HZN.out x (by rw [HP.out.1]; simp))
              have c0 : wr.cell? ⟨b, t, none⟩ = some (.int .i64 (x : Int)) := by
                have := HP.out.2.2.2.cell (k := t) (by rw [HP.out.2.1]; simp)
                rw [St.at_mid HP.out.2.1.symm] at this
                exact this
              have c1 : wr.cell? ⟨b, jj, none⟩ = some (.int .i64 (y : Int)) := by
                have := HP.out.2.2.2.cell (k := t + 1) (by rw [HP.out.2.1]; simp; omega)
                rw [show (P ++ A) ++ x :: y :: (B ++ (R1 ++ S)) = ((P ++ A) ++ [x]) ++ y :: (B ++ (R1 ++ S)) by simp, St.at_mid (by rw [HP.out.2.1]; simp; omega)] at this
                rw [htj]; exact this
              have hjI : (a : Int) < (jj : Int) := by omega
              have hw1 : IntKind.i64.wrap ((jj : Int) - 1) = (t : Int) := by rw [IntKind.wrap_i64]; omega
              have ht0 : (0 : Int) ≤ (t : Int) := by omega
              have ht1 : (t : Int) < (n : Int) := by omega
              have hj0 : (0 : Int) ≤ (jj : Int) := by omega
              have hj1 : (jj : Int) < (n : Int) := by omega
              clear htj
              have HCC := hid (fun (W : World) (h : Below wr.heap.size wr W) => HC.out W (HJ.out.low.trans (h.mono (Nat.le_of_lt HP.out.2.2.2.lt))) y x HYN.out hxN.out)
              go_wp2_with fail
              go_region_held2 (fun W => W.cell? ⟨b, t, none⟩ = some (.int .i64 (x : Int)) ∧ W.cell? ⟨b, jj, none⟩ = some (.int .i64 (y : Int))) (first | exact ⟨c0, c1⟩ | exact hS2) (first | (go_at_call 27; refine (HCC.out _ (by first | exact Below.refl _ _ | exact (Below.refl _ _).drew)).mono ?_; rintro en w2 ⟨rfl, hb2⟩; have B2 := hid (show Below wr.heap.size wr w2 by (first | exact hb2 | exact undrew hb2)); have hS2 := And.intro ((B2.out.cell (by exact HP.out.2.2.2.lt)).trans c0) ((B2.out.cell (by exact HP.out.2.2.2.lt)).trans c1)))
              have N2 := hid (HP.out.2.2.2.on B2.out)
              have L2 := hid (HJ.out.low.trans (B2.out.mono (Nat.le_of_lt HP.out.2.2.2.lt)))
              have e0 : w2.cell? ⟨b, t, none⟩ = some (.int .i64 (x : Int)) := (B2.out.cell (by exact HP.out.2.2.2.lt)).trans c0
              have e1 : w2.cell? ⟨b, jj, none⟩ = some (.int .i64 (y : Int)) := (B2.out.cell (by exact HP.out.2.2.2.lt)).trans c1
              have g0 := N2.out.free t
              have g1 := N2.out.free jj
              clear hb2 c0 c1
              by_cases hc : c y x < 0
              · have HD := hid hc
                have e2 : (w2.setCell ⟨b, jj, none⟩ (.int .i64 (x : Int))).cell? ⟨b, t, none⟩ = some (.int .i64 (x : Int)) := by
                  rw [N2.out.set jj x |>.cell (k := t) (by rw [List.length_set, HP.out.2.1]; simp)]
                  congr 2
                  unfold St.at_
                  rw [List.getD_eq_getElem?_getD, List.getElem?_set_ne (by rw [HTJ.out]; omega), HP.out.2.1]
                  simp
                go_wp2_with fail
                go_big_region_o
                have HJ3 := hid (show InsAt c w b P Z (R1 ++ S) y t ((w2.setCell ⟨b, jj, none⟩ (.int .i64 (x : Int))).setCell ⟨b, t, none⟩ (.int .i64 (y : Int))).drew by
                  refine ⟨⟨A, x :: B, ?_, ?_, ?_, ?_⟩, ?_⟩
                  · rw [HP.out.1]; simp
                  · rw [HP.out.2.1]; simp
                  · intro z hz
                    rcases List.mem_cons.1 hz with rfl | hz
                    · exact HD.out
                    · exact HP.out.2.2.1 z hz
                  · have := ((N2.out.set jj x).set t y).drew
                    rw [HTJ.out, St.swap_two' HP.out.2.1.symm] at this
                    rw [HTJ.out]
                    exact this
                  · exact ((L2.out.setCell (Nat.le_refl _) _).setCell (Nat.le_refl _) _).drew)
                clear e0 e1 e2 g0 g1
                generalize ((w2.setCell ⟨b, jj, none⟩ (.int .i64 (x : Int))).setCell ⟨b, t, none⟩ (.int .i64 (y : Int))).drew = w3 at HJ3 ⊢
                go_wp2
                go_roundw
                case rel => exact ⟨t, by have := HTJ.out; omega, by have := HTJ.out; omega, by first | rfl | go_num, HJ3⟩
                case measure => have := HTJ.out; simp [intOf]; omega
              · have HN3 := hid (show InsOut c w b P X S (k + 1) w2 ((A ++ [x]) ++ y :: B) R1 from
                  HR1.out.step HO.out HX.out HU.out HP.out.1 HP.out.2.2.1 (fun z hz => by rw [List.getLast?_concat] at hz; cases hz; exact hc) (by have := N2.out; simpa using this) L2.out)
                go_wp2
                go_roundw
                case rel => exact ⟨k + 1, _, R1, by omega, by go_num, HN3⟩
                case measure => simp [intOf]; omega
            · have hjI : ¬ ((a : Int) < (jj : Int)) := by omega
              have HN3 := hid (show InsOut c w b P X S (k + 1) wr.drew ([] ++ y :: Z) R1 by
                obtain ⟨A, B, h1, h2, h3, h4⟩ := HJ.out.parts
                have hA0 : A = [] := List.length_eq_zero_iff.1 (by have := HA.out; omega)
                subst hA0
                rw [List.nil_append] at h1
                subst h1
                exact HR1.out.step HO.out HX.out HU.out rfl h3 (fun z hz => by cases hz) h4.drew HJ.out.low.drew)
              have hjaz : decide ((jj : Int) > (a : Int)) = false := decide_eq_false (by omega)
              go_wp2_with fail
              go_big_region_o
              generalize wr.drew = w3 at HN3 ⊢
              go_wp2
              go_roundw
              case rel => exact ⟨k + 1, _, R1, by omega, by go_num, HN3⟩
              case measure => simp [intOf]; omega
      · have hkI : ¬ ((k : Int) < (e : Int)) := by omega
        have HFIN := hid (show Sorts c w b P X S wo by
          have hR0 : R = [] := by have := HKL.out; exact List.length_eq_zero_iff.1 (by omega)
          refine ⟨HR.out.low, Z, HR.out.up, ?_, ?_⟩
          · obtain ⟨A0, e0, p0⟩ := HR.out.parts
            rw [hR0, List.append_nil] at e0
            rw [e0]; exact p0
          · have := HR.out.nums
            rw [hR0, List.nil_append] at this
            exact this)
        go_wp2
        exact bodyPost_end (v := .tuple #[]) (by simp [results, Tryz.results82, go_sem]) rfl ⟨rfl, HFIN.out⟩
end Go.Proofs.YtbfiggghpflioaaGreatDoor
