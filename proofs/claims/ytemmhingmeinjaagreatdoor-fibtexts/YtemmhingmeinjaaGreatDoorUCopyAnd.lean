/-
  Rules of unlike keys stand one way, in whatever order they came.
-/
import Derived.Test.YtemmhingmeinjaaGreatDoorCLay
import Derived.Test.YtemmhingmeinjaaGreatDoorUOrdAAnd
import Derived.Test.YtemmhingmeinjaaGreatDoorUStVAnd
import Derived.Test.YtemmhingmeinjaaGreatDoorVDocWAnd
namespace Go.Proofs.YtemmhingmeinjaaGreatDoor
open Go.RowKit Go.Shelf

set_option maxHeartbeats 1000000 in
theorem clone_wide (s : ByteArray) (w : World) (h0 : 0 < s.size) (hs : s.size ≤ 140737488355328) :
    Calls Tryz.prog 115 #[.string s] w fun e w' => e = .returned (.string s) ∧ Below w.heap.size w w' := by
  have hmk := run_make_row' (P := Tryz.prog) 88 5 (.int .u8 0) 1 Tryz.underlying88 Tryz.infoU8 rfl .i64 .i64 s.size (by omega) (by omega)
  have hblk : (w.alloc (.cells (madeCells #[.int .u8 0] s.size) 5)).heap[w.heap.size]? = some (.cells (madeCells #[.int .u8 0] s.size) 5 (0, 0)) := new_0 _ _
  have hsome : ∀ j, j < s.size → ((w.alloc (.cells (madeCells #[.int .u8 0] s.size) 5)).cell? ⟨w.heap.size, 0 + j, none⟩).isSome = true := fun j hj => by
      obtain ⟨v, hv⟩ := cells_some hblk (x := 0 + j) (by rw [size_madeCells]; omega)
      rw [hv]; rfl
  have hcp : ∀ ty, _ := fun ty => run_copy_string (P := Tryz.prog) (w.alloc (.cells (madeCells #[.int .u8 0] s.size) 5)) 88 9 ty 5 w.heap.size 0 s.size s.size s Tryz.underlying88 Tryz.sizeU8 (Nat.le_refl _) hsome (fun j _ => free_of hblk)
  have hb2 := block_setCells (cellsOf s) 0 _ _ hblk
  have hus : ∀ ty, _ := fun ty => Lib.run_unsafeString_row (P := Tryz.prog) ((w.alloc (.cells (madeCells #[.int .u8 0] s.size) 5)).setCells w.heap.size 0 (cellsOf s)) 172 3 ty 5 Tryz.underlying172 Tryz.cellsU8 w.heap.size s.size
    (by rw [shape_at hb2, setAll_size, size_madeCells]) s.data.toList (fun e => by rw [Lib.size_eq, e] at h0; exact absurd h0 (by simp)) (by rw [list_size]; exact Nat.le_refl _) (by rw [list_size]; omega) (fun j x hx => by
      have hj : j < s.data.toList.length := (List.getElem?_eq_some_iff.1 hx).1
      have := World.cell?_setCells_in w.heap.size (cellsOf s) 0 (w.alloc (.cells (madeCells #[.int .u8 0] s.size) 5)) (fun i hi => hsome i (by simpa [list_size] using hi)) j (by simpa using hj)
      have ea : (⟨w.heap.size, 0, none⟩ : Addr).add j = ⟨w.heap.size, 0 + j, none⟩ := by simp [Addr.add]; intro h; exact h.symm
      rw [ea, this]
      congr 1
      have e : s.data.toList[j] = x := (List.getElem?_eq_some_iff.1 hx).2
      simp only [List.getElem_map, e])
  rw [list_size] at hus
  have hnz : ((s.size : Int) == 0) = false := by rw [beq_eq_false_iff_ne]; omega
  have hI : (0 : Int) < (s.size : Int) := by omega
  clear hsome hblk
  go_enter Tryz.func115, Tryz.ntmps115
  go_wp2
  go_ret
  exact ⟨rfl, Lib.below_freeze (below_setCells (Nat.le_refl _) _ _ _ ((Below.refl _ _).alloc (Nat.le_refl _) _)) (p := ⟨w.heap.size, 0, none⟩) (Nat.le_refl _) _⟩
set_option maxHeartbeats 400000 in
theorem clone_empty (w : World) : Calls Tryz.prog 115 #[.string (tx [])] w fun e w' => e = .returned (.string (tx [])) ∧ Below w.heap.size w w' := by
  go_enter Tryz.func115, Tryz.ntmps115
  go_wp2
  go_ret
  exact ⟨rfl, Below.refl _ _⟩
set_option maxHeartbeats 400000 in
theorem Clone_tx (l : List UInt8) (w : World) (hs : l.length ≤ 140737488355328) : Calls Tryz.prog 77 #[.string (tx l)] w fun e w' => e = .returned (.string (tx l)) ∧ Below w.heap.size w w' := by
  have HC := hid (show ∀ w', Calls Tryz.prog 115 #[.string (tx l)] w' fun e w'' => e = .returned (.string (tx l)) ∧ Below w'.heap.size w' w'' from fun w' => by
    cases l with
    | nil => exact clone_empty w'
    | cons a r => exact clone_wide _ w' (by rw [tx_size]; simp) (by rw [tx_size]; exact hs))
  go_enter Tryz.func77, Tryz.ntmps77
  go_wp2_with (go_at_call 115; refine (HC.out _).mono ?_; rintro e w' ⟨rfl, hb⟩)
  go_ret
  exact ⟨rfl, hb⟩
theorem Tryz.fClone : Tryz.laysClone_ren.f 16 = 78 := by kernel_rfl
theorem Tryz.tClone : Tryz.laysClone_ren.t 9 = 9 := by kernel_rfl

def Tbl (w : World) (g : Nat) (zs : List (List UInt8)) : Prop := ∃ cs, w.heap[g]? = some (.cells cs 9 (0, 0)) ∧ ∀ (i : Nat) (z : List UInt8), zs[i]? = some z → cs[i]? = some (.string (tx z))
theorem Tbl.cell {w : World} {g : Nat} {zs : List (List UInt8)} (h : Tbl w g zs) {i : Nat} {z : List UInt8} (hz : zs[i]? = some z) : w.cell? ⟨g, i, none⟩ = some (.string (tx z)) := by
  obtain ⟨cs, h1, h2⟩ := h
  rw [cell_at h1]
  exact h2 i z hz
theorem Tbl.lt {w : World} {g : Nat} {zs : List (List UInt8)} (h : Tbl w g zs) : g < w.heap.size := by
  obtain ⟨cs, h1, _⟩ := h
  rw [Array.getElem?_eq_some_iff] at h1
  exact h1.1
theorem Tbl.free {w : World} {g : Nat} {zs : List (List UInt8)} (h : Tbl w g zs) (k : Nat) : w.frozen? ⟨g, k, none⟩ = false := by
  obtain ⟨cs, h1, _⟩ := h
  exact free_of h1
theorem Tbl.below {w w' : World} {g B : Nat} {zs : List (List UInt8)} (h : Tbl w g zs) (hb : Below B w w') (hB : g < B) : Tbl w' g zs := by
  obtain ⟨cs, h1, h2⟩ := h
  exact ⟨cs, below_block hb h1 hB, h2⟩
theorem Tbl.again {w : World} {g : Nat} {zs : List (List UInt8)} (h : Tbl w g zs) {i : Nat} {z : List UInt8} (hz : zs[i]? = some z) : Tbl (w.setCell ⟨g, i, none⟩ (.string (tx z))) g zs := by
  obtain ⟨cs, h1, h2⟩ := h
  refine ⟨_, block_set _ h1, fun j y hy => ?_⟩
  rw [Array.getElem?_setIfInBounds]
  split
  · rename_i e
    subst e
    have : y = z := Option.some.inj (hy.symm.trans hz)
    subst this
    have := h2 i y hy
    rw [if_pos (Array.getElem?_eq_some_iff.1 this).1]
  · exact h2 j y hy

def Ported (w : World) (B : Nat) (v : Value) (zs : List (List UInt8)) : Prop := ∃ ao cap, v = .slice ao zs.length cap ∧ zs.length ≤ cap ∧ (zs = [] ∨ ∃ b, ao = some ⟨b, 0, none⟩ ∧ B ≤ b ∧ Tbl w b zs)
theorem Ported.txs {w : World} {B : Nat} {v : Value} {zs : List (List UInt8)} (h : Ported w B v zs) : Txs w v zs := by
  obtain ⟨ao, cap, e, _, q | ⟨b, ea, _, ht⟩⟩ := h
  · exact ⟨ao, cap, e, Or.inl q⟩
  · refine ⟨ao, cap, e, Or.inr ⟨b, 0, ea, ht.lt, fun i hi => ?_⟩⟩
    rw [Nat.zero_add]
    exact ht.cell (by rw [List.getD_eq_getElem?_getD, List.getElem?_eq_getElem hi]; rfl)

theorem Clone_texts {w : World} {v : Value} {zs : List (List UInt8)} (ht : Txs w v zs) (hn : zs.length * 16 ≤ 140737488355328) :
    Calls Tryz.prog 78 #[v] w fun e w' => ∃ v', e = .returned v' ∧ Ported w' w.heap.size v' zs ∧ Below w.heap.size w w' := by
  obtain ⟨ao, cap, rfl, hr⟩ := ht
  rw [← Tryz.fClone]
  cases ao with
  | none =>
    have h0 : zs = [] := by rcases hr with q | ⟨g, o, q, _⟩; exact q; cases q
    subst h0
    refine (Any.slices_Clone_string_nil Tryz.laysClone _ _ w).mono ?_
    rintro e w' ⟨rfl, rfl⟩
    exact ⟨_, rfl, ⟨none, 0, rfl, Nat.le_refl _, Or.inl rfl⟩, Below.refl _ _⟩
  | some ad =>
    by_cases h0 : zs = []
    · subst h0
      refine (Any.slices_Clone_string_zero Tryz.laysClone ad cap w).mono ?_
      rintro e w' ⟨v', rfl, ho, _, hb⟩
      refine ⟨v', rfl, ?_, hb⟩
      rcases ho.2 with ⟨h1, _⟩ | ⟨b, cp, cur, h1, _, _, hn, _, _, _⟩
      · exact ⟨_, _, h1, Nat.zero_le _, Or.inl rfl⟩
      · exact ⟨_, _, h1, Nat.zero_le _, Or.inl rfl⟩
    · obtain ⟨g, o, rfl, hg, hc⟩ : ∃ g o, ad = ⟨g, o, none⟩ ∧ g < w.heap.size ∧ ∀ i, i < zs.length → w.cell? ⟨g, o + i, none⟩ = some (.string (tx (zs.getD i []))) := by
        rcases hr with q | ⟨g, o, q, h1, h2⟩
        · exact absurd q h0
        · exact ⟨g, o, Option.some.inj q, h1, h2⟩
      have hk := Any.slices_Clone_string Tryz.laysClone g o zs.length cap (zs.map tx) w (by simp) hn (fun j hj => by
        rw [List.length_map] at hj
        rw [hc j hj]
        simp [List.getD_eq_getElem?_getD, List.getElem?_eq_getElem hj])
      refine hk.mono ?_
      rintro e w' ⟨v', rfl, ho, _, hb⟩
      refine ⟨v', rfl, ?_, hb⟩
      rw [Tryz.tClone] at ho
      rcases ho.2 with ⟨_, h1⟩ | ⟨b, cp, cur, rfl, hB, hh, hn2, _, _, htk⟩
      · have := List.length_pos_iff.2 h0; omega
      · refine ⟨_, _, rfl, hn2, Or.inr ⟨b, rfl, hB, cur, hh, fun i z hz => ?_⟩⟩
        have hi : i < zs.length := (List.getElem?_eq_some_iff.1 hz).1
        have : (cur.toList.take (zs.length * 1))[i]? = some (.string (tx z)) := by rw [htk]; simp [hi]; exact (List.getElem?_eq_some_iff.1 hz).2
        rw [List.getElem?_take, if_pos (by omega)] at this
        simpa using this

def Small (m : List UInt8) (zs : List (List UInt8)) : Prop := m.length ≤ 140737488355328 ∧ zs.length * 16 ≤ 140737488355328 ∧ ∀ z ∈ zs, z.length ≤ 140737488355328

set_option maxRecDepth 20000 in
set_option maxHeartbeats 2000000 in
theorem copyOf_any {w : World} {p k : Int} {m : List UInt8} {v : Value} {zs : List (List UInt8)} (ht : Txs w v zs) (hs : Small m zs) :
    Calls Tryz.prog 43 #[.agg #[.int .i64 p, .string (tx m), .int .i64 k, v]] w fun e w' => ∃ v', e = .returned (.agg #[.int .i64 p, .string (tx m), .int .i64 k, v']) ∧ Hid (Ported w' w.heap.size v' zs) ∧ Below w.heap.size w w' := by
  have HT := hid ht
  have HS := hid hs
  obtain ⟨ao, cap, rfl, _⟩ := ht
  obtain ⟨n, hn⟩ : ∃ n, n = zs.length := ⟨_, rfl⟩
  have HN := hid hn
  rw [← hn] at HT ⊢
  have hnb : n ≤ 140737488355328 := by have := hs.2.1; omega
  clear hn hs
  go_enter Tryz.func43, Tryz.ntmps43
  go_wp2_with fail
  refine (Clone_tx m _ HS.out.1).mono ?_
  rintro e w1 ⟨rfl, hb1⟩
  obtain ⟨rb, hrb⟩ : ∃ rb, rb = w.heap.size := ⟨_, rfl⟩
  have O1 : w1.heap[w.heap.size]? = some (rob p (tx m) k (.slice ao n cap)) := below_block hb1 (new_old _ _ (new_0 _ _)) (by simp only [World.alloc, Array.size_push]; omega)
  have O2 : w1.heap[w.heap.size + 1]? = some (rob 0 (tx []) 0 (.slice none 0 0)) := below_block hb1 (new_1 _ _ _) (by simp only [World.alloc, Array.size_push]; omega)
  have B1 := hid (show Below w.heap.size w w1 from (((Below.refl _ _).alloc (Nat.le_refl _) _).alloc (by simp) _).trans (hb1.mono (by simp only [World.alloc, Array.size_push]; omega)))
  clear hb1
  have HRB := hid hrb
  rw [← hrb] at O1 O2 B1 ⊢
  clear hrb
  have H1 := hid (And.intro O1 O2)
  obtain ⟨a0, a1, a2, a3, f0, f1, f2, f3⟩ := rob_cells O1
  clear O1 O2
  have HS1 := hid (show Txs (w1.setCell ⟨rb, 1, none⟩ (.string (tx m))) (.slice ao n cap) zs from HT.out.below (by rw [← HRB.out]; exact B1.out.setCell (Nat.le_refl _) _))
  go_wp2_with fail
  refine (Clone_texts HS1.out HS.out.2.1).mono ?_
  rintro e w2 ⟨v', rfl, hp, hb2⟩
  have P2 : w2.heap[rb]? = some (rob p (tx m) k (.slice ao n cap)) := below_block hb2 (rob_2 H1.out.1 _) (by rw [World.size_setCell]; exact lt_of_block H1.out.1)
  have P3 : w2.heap[rb + 1]? = some (rob 0 (tx []) 0 (.slice none 0 0)) := below_block hb2 (block_other _ H1.out.2 (by omega)) (by rw [World.size_setCell]; exact lt_of_block H1.out.2)
  have B2 := hid (show Below rb w w2 from (B1.out.setCell (Nat.le_refl _) _).trans (hb2.mono (by rw [World.size_setCell]; exact Nat.le_of_lt (lt_of_block H1.out.1))))
  have HP := hid (show Ported w2 (rb + 2) v' zs by
    obtain ⟨ao', cap', e1, e2, q | ⟨b, e3, e4, e5⟩⟩ := hp
    · exact ⟨ao', cap', e1, e2, Or.inl q⟩
    · refine ⟨ao', cap', e1, e2, Or.inr ⟨b, e3, ?_, e5⟩⟩
      have := lt_of_block H1.out.2
      rw [World.size_setCell] at e4
      omega)
  obtain ⟨ao', cap', rfl, hcap, hq⟩ := HP.out
  have H2 := hid (And.intro P2 P3)
  obtain ⟨c0, c1, c2, c3, g0, g1, g2, g3⟩ := rob_cells P2
  clear hp hb2 P2 P3 a0 a1 a2 a3 f0 f1 f2 f3 hq
  have HB3 := hid (show Below rb w (w2.setCell ⟨rb, 3, none⟩ (.slice ao' zs.length cap')) from B2.out.setCell (Nat.le_refl _) _)
  have H3 := hid (show (w2.setCell ⟨rb, 3, none⟩ (.slice ao' zs.length cap')).heap[rb]? = some (rob p (tx m) k (.slice ao' zs.length cap')) from rob_4 H2.out.1 _)
  have HP3 := hid (show Ported (w2.setCell ⟨rb, 3, none⟩ (.slice ao' zs.length cap')) (rb + 2) (.slice ao' zs.length cap') zs by
    obtain ⟨ao2, cap2, e1, e2, q | ⟨b, e3, e4, e5⟩⟩ := HP.out
    · exact ⟨ao2, cap2, e1, e2, Or.inl q⟩
    · refine ⟨ao2, cap2, e1, e2, Or.inr ⟨b, e3, e4, ?_⟩⟩
      obtain ⟨cs, q1, q2⟩ := e5
      exact ⟨cs, block_other _ q1 (by omega), q2⟩)
  rw [← HN.out] at HP3 H3 HB3 ⊢
  go_wp2_with fail
  go_loopw [19, 3, 4] (fun vi _ _ wr => ∃ j : Nat, j ≤ n ∧ vi = .int .i64 j ∧ Hid (Below rb w wr ∧ wr.heap[rb]? = some (rob p (tx m) k (.slice ao' n cap')) ∧ wr.heap[rb + 1]? = some (rob 0 (tx []) 0 (.slice none 0 0)) ∧ Ported wr (rb + 2) (.slice ao' n cap') zs)) (fun vi _ _ _ => n - (intOf vi).toNat)
  case atStart => exact ⟨0, Nat.zero_le _, rfl, HB3.out, H3.out, block_other _ H2.out.2 (by omega), HP3.out⟩
  case round =>
    obtain ⟨j, hj, rfl, HR⟩ := hrel
    by_cases hlt : j < n
    · obtain ⟨b, hb0, hb1, hb2⟩ : ∃ b, ao' = some ⟨b, 0, none⟩ ∧ rb + 2 ≤ b ∧ Tbl wr b zs := by
        obtain ⟨ao2, cap2, e1, e2, q | ⟨b, e3, e4, e5⟩⟩ := HR.out.2.2.2
        · exfalso; have := HN.out; rw [q] at this; simp at this; omega
        · exact ⟨b, by cases e1; exact e3, e4, e5⟩
      obtain ⟨z, hz⟩ : ∃ z, zs[j]? = some z := ⟨zs[j]'(by rw [← HN.out]; exact hlt), List.getElem?_eq_getElem _⟩
      have HZ := hid hz
      have HTB := hid hb2
      have hbb := hid hb1
      have d0 := hb2.cell hz
      have d1 := hb2.free j
      obtain ⟨c0, c1, c2, c3, _, _, _, _⟩ := rob_cells HR.out.2.1
      have HCL := hid (fun W => Clone_tx z W (HS.out.2.2 z (List.mem_of_getElem? hz)))
      have i0 : (0 : Int) ≤ (j : Int) := by omega
      have i1 : (j : Int) < (n : Int) := by omega
      rw [hb0]
      rw [hb0] at c3
      have HAO := hid hb0
      clear hz hb2 hb1 hb0
      go_wp2_with fail
      go_region_held2 (fun W => W.cell? ⟨rb, 3, none⟩ = some (.slice (some ⟨b, 0, none⟩) n cap') ∧ W.cell? ⟨b, j, none⟩ = some (.string (tx z)) ∧ W.frozen? ⟨b, j, none⟩ = false) (first | exact ⟨c3, d0, d1⟩ | exact hS5 | exact hS6) (first | (go_at_call 77; refine (HCL.out _).mono ?_; rintro e w5 ⟨rfl, hb5⟩; have B5 := hid (show Below wr.heap.size wr w5 by (first | exact hb5 | exact undrew hb5)); have HT5 := hid (HTB.out.below B5.out HTB.out.lt); have HO5 := hid (below_block B5.out HR.out.2.1 (lt_of_block HR.out.2.1)); have hS5 := And.intro ((B5.out.cell (by exact lt_of_block HR.out.2.1)).trans c3) (And.intro (HT5.out.cell HZ.out) (HT5.out.free j)); have hS6 := And.intro (show (w5.setCell ⟨b, j, none⟩ (.string (tx z))).cell? ⟨rb, 3, none⟩ = some (.slice (some ⟨b, 0, none⟩) n cap') by (rw [← HAO.out]; exact (rob_cells (block_other _ HO5.out (by have := hbb.out; omega))).2.2.2.1)) (And.intro ((HT5.out.again HZ.out).cell HZ.out) ((HT5.out.again HZ.out).free j)); clear hb5))
      have HN5 := hid (show Below rb w (w5.setCell ⟨b, j, none⟩ (.string (tx z))) ∧ (w5.setCell ⟨b, j, none⟩ (.string (tx z))).heap[rb]? = some (rob p (tx m) k (.slice ao' n cap')) ∧ (w5.setCell ⟨b, j, none⟩ (.string (tx z))).heap[rb + 1]? = some (rob 0 (tx []) 0 (.slice none 0 0)) ∧ Ported (w5.setCell ⟨b, j, none⟩ (.string (tx z))) (rb + 2) (.slice ao' n cap') zs from by
        have hbb' := hbb.out
        refine ⟨(HR.out.1.trans (B5.out.mono (Nat.le_of_lt (lt_of_block HR.out.2.1)))).setCell (by show rb ≤ b; omega) _, block_other _ HO5.out (by omega), block_other _ (below_block B5.out HR.out.2.2.1 (lt_of_block HR.out.2.2.1)) (by omega), ?_⟩
        obtain ⟨ao2, cap2, q1, q2, _⟩ := HR.out.2.2.2
        refine ⟨ao2, cap2, q1, q2, Or.inr ⟨b, ?_, hbb', HT5.out.again HZ.out⟩⟩
        cases q1
        exact HAO.out)
      rw [HAO.out] at HN5
      go_wp2
      go_roundw
      case rel => exact ⟨j + 1, by omega, by go_num, HN5⟩
      case measure => simp [intOf]; omega
    · have hI : ¬ ((j : Int) < (n : Int)) := by omega
      obtain ⟨c0, c1, c2, c3, _, _, _, _⟩ := rob_cells HR.out.2.1
      obtain ⟨e0, e1, e2, e3, f0, f1, f2, f3⟩ := rob_cells HR.out.2.2.1
      have B10 := rob_4 (rob_3 (rob_2 (rob_1 HR.out.2.2.1 p) (tx m)) k) (.slice ao' n cap')
      obtain ⟨n0, n1, n2, n3, _, _, _, _⟩ := rob_cells B10
      have HB10 := hid ((((HR.out.1.setCell (p := ⟨rb + 1, 0, none⟩) (by show rb ≤ rb + 1; omega) (.int .i64 p)).setCell (p := ⟨rb + 1, 1, none⟩) (by show rb ≤ rb + 1; omega) (.string (tx m))).setCell (p := ⟨rb + 1, 2, none⟩) (by show rb ≤ rb + 1; omega) (.int .i64 k)).setCell (p := ⟨rb + 1, 3, none⟩) (by show rb ≤ rb + 1; omega) (.slice ao' n cap'))
      clear B10
      go_wp2_with fail
      refine bodyPost_ret (v := .agg #[.int .i64 p, .string (tx m), .int .i64 k, .slice ao' n cap']) (by simp [results, Tryz.results43, go_sem, n0, n1, n2, n3]) rfl ⟨_, rfl, ?_, ?_⟩
      · obtain ⟨ao2, cap2, q1, q2, q | ⟨b, q3, q4, cs, q5, q6⟩⟩ := HR.out.2.2.2
        · exact ⟨ao2, cap2, q1, q2, Or.inl q⟩
        · refine ⟨ao2, cap2, q1, q2, Or.inr ⟨b, q3, by rw [← HRB.out]; omega, cs, ?_, q6⟩⟩
          have e1 : b ≠ rb + 1 := by omega
          rw [Below.heap_setCell _ _ _ _ e1, Below.heap_setCell _ _ _ _ e1, Below.heap_setCell _ _ _ _ e1, Below.heap_setCell _ _ _ _ e1]
          exact q5
      · rw [← HRB.out]
        exact HB10.out
end Go.Proofs.YtemmhingmeinjaaGreatDoor
namespace Go.Proofs.YtemmhingmeinjaaGreatDoor
open Go.RowKit

set_option maxHeartbeats 400000 in
theorem SortStable_any {c : Nat → Nat → Int} {w : World} {b n cap cb : Nat} (hO : St.Ord c n) (hC : Cmps w b n c cb) (hN : Nums w b (List.range' 0 n)) (h60 : n < 1152921504606846976) :
    Calls Tryz.prog 40 #[.slice (some ⟨b, 0, none⟩) n cap, clo cb] w fun en w' => en = .returned (.tuple #[]) ∧ ∃ L, Hid (Pc c 0 n L ∧ Below b w w' ∧ Nums w' b L) := by
  have HS := hid (stable_any (cap := cap) hO hC hN h60)
  clear hO hC hN
  go_enter Tryz.func40, Tryz.ntmps40
  go_wp2_with fail
  refine HS.out.mono ?_
  rintro en w2 ⟨rfl, L, hL⟩
  have HL := hid hL
  clear hL
  go_wp2
  exact bodyPost_end (v := .tuple #[]) (by simp [results, Tryz.results40, go_sem]) rfl ⟨rfl, L, HL.out⟩

def cmpAt (ps : List (Raw × Value)) (i j : Nat) : Int := match ps[i]?, ps[j]? with
  | some a, some b => cmpR a.1 b.1
  | _, _ => 0
theorem lt_tri (a b : List UInt8) : a < b ∨ a = b ∨ b < a := by
  by_cases h : a < b
  · exact Or.inl h
  · rcases Ru.lt_or h with q | q
    · exact Or.inr (Or.inr q)
    · exact Or.inr (Or.inl q)
theorem cmpL_neg {a b : List UInt8} : cmpL a b < 0 ↔ a < b := by
  unfold cmpL
  by_cases h : a < b
  · simp [h]
  · by_cases k : b < a <;> simp [h, k]
theorem cmpL_pos {a b : List UInt8} : 0 < cmpL a b ↔ b < a := by
  unfold cmpL
  by_cases h : a < b
  · have := List.lt_asymm h
    simp [h, this]
  · by_cases k : b < a <;> simp [h, k]
theorem cmpI_neg {a b : Int} : cmpI a b < 0 ↔ a < b := by
  unfold cmpI
  by_cases h : a < b
  · simp [h]
  · by_cases k : b < a <;> simp [h, k]
theorem cmpI_pos {a b : Int} : 0 < cmpI a b ↔ b < a := by
  unfold cmpI
  by_cases h : a < b
  · have : ¬ b < a := by omega
    simp [h, this]
  · by_cases k : b < a <;> simp [h, k]
theorem cmpR_neg {a b : Raw} : cmpR a b < 0 ↔ b.prio < a.prio ∨ (a.prio = b.prio ∧ a.mat < b.mat) := by
  unfold cmpR
  by_cases h : cmpI b.prio a.prio = 0
  · have h1 : ¬ b.prio < a.prio := fun q => by have := cmpI_neg.2 q; omega
    have h2 : ¬ a.prio < b.prio := fun q => by have := cmpI_pos.2 q; omega
    rw [if_pos h, cmpL_neg]
    constructor
    · exact fun q => Or.inr ⟨by omega, q⟩
    · rintro (q | q)
      · omega
      · exact q.2
  · rw [if_neg h, cmpI_neg]
    constructor
    · exact Or.inl
    · rintro (q | q)
      · exact q
      · exfalso
        apply h
        unfold cmpI
        rw [if_neg (by omega), if_neg (by omega)]
theorem cmpR_pos {a b : Raw} : 0 < cmpR a b ↔ cmpR b a < 0 := by
  rw [cmpR_neg]
  unfold cmpR
  by_cases h : cmpI b.prio a.prio = 0
  · have h1 : ¬ b.prio < a.prio := fun q => by have := cmpI_neg.2 q; omega
    have h2 : ¬ a.prio < b.prio := fun q => by have := cmpI_pos.2 q; omega
    rw [if_pos h, cmpL_pos]
    constructor
    · exact fun q => Or.inr ⟨by omega, q⟩
    · rintro (q | q)
      · omega
      · exact q.2
  · rw [if_neg h, cmpI_pos]
    constructor
    · exact Or.inl
    · rintro (q | q)
      · exact q
      · exfalso
        apply h
        unfold cmpI
        rw [if_neg (by omega), if_neg (by omega)]
theorem cmpR_le {a b : Raw} : cmpR a b ≤ 0 ↔ b.prio < a.prio ∨ (a.prio = b.prio ∧ (a.mat < b.mat ∨ a.mat = b.mat)) := by
  constructor
  · intro h
    have : ¬ 0 < cmpR a b := by omega
    rw [cmpR_pos, cmpR_neg] at this
    by_cases h1 : b.prio < a.prio
    · exact Or.inl h1
    · have h2 : a.prio = b.prio := by
        by_cases q : a.prio < b.prio
        · exact absurd (Or.inl q) this
        · omega
      refine Or.inr ⟨h2, ?_⟩
      rcases lt_tri a.mat b.mat with q | q | q
      · exact Or.inl q
      · exact Or.inr q
      · exact absurd (Or.inr ⟨h2.symm, q⟩) this
  · intro h
    have : ¬ 0 < cmpR a b := by
      rw [cmpR_pos, cmpR_neg]
      rintro (q | ⟨q1, q2⟩)
      · rcases h with h | h <;> omega
      · rcases h with h | ⟨_, h | h⟩
        · omega
        · exact List.lt_asymm h q2
        · rw [h] at q2; exact List.lt_irrefl _ q2
    omega
theorem ord_rules (ps : List (Raw × Value)) : St.Ord (cmpAt ps) ps.length := by
  constructor
  · intro x y hx hy
    unfold cmpAt
    rw [List.getElem?_eq_getElem hx, List.getElem?_eq_getElem hy]
    exact cmpR_pos.symm
  · intro x y z hx hy hz
    unfold cmpAt
    rw [List.getElem?_eq_getElem hx, List.getElem?_eq_getElem hy, List.getElem?_eq_getElem hz]
    simp only
    rw [cmpR_le, cmpR_le, cmpR_le]
    rintro (p | ⟨p1, p2⟩) (q | ⟨q1, q2⟩)
    · left; omega
    · left; omega
    · left; omega
    · refine Or.inr ⟨by omega, ?_⟩
      rcases p2 with p2 | p2 <;> rcases q2 with q2 | q2
      · exact Or.inl (List.lt_trans p2 q2)
      · rw [← q2]; exact Or.inl p2
      · rw [p2]; exact Or.inl q2
      · exact Or.inr (p2.trans q2)
theorem cmps_rules {w : World} {g o n cap cb b : Nat} {ps : List (Raw × Value)} (hv : w.cell? ⟨cb, 0, none⟩ = some (.slice (some ⟨g, o, none⟩) n cap)) (h : RawView w g o ps) (hn : ps.length = n) (hcb : cb < b) (hg : g < b) (hp : ∀ q ∈ ps, ∀ (W : World), Below b w W → Txs W q.2 q.1.ports) : Cmps w b n (cmpAt ps) cb := by
  intro W hW x y hx hy
  have hx' : x < ps.length := by omega
  have hy' : y < ps.length := by omega
  have e : cmpAt ps x y = cmpR ps[x].1 ps[y].1 := by unfold cmpAt; rw [List.getElem?_eq_getElem hx', List.getElem?_eq_getElem hy']
  rw [e]
  exact order_cmp (n := n) (cap := cap) (ps := ps) (by rw [hW.cell (by exact hcb)]; exact hv) ⟨Nat.lt_of_lt_of_le h.old hW.size, fun i q hq => by
    obtain ⟨c0, c1, c2, c3⟩ := h.cell i q hq
    exact ⟨(hW.cell (by exact hg)).trans c0, (hW.cell (by exact hg)).trans c1, (hW.cell (by exact hg)).trans c2, (hW.cell (by exact hg)).trans c3⟩, fun q hq => ⟨hp q hq W hW, (h.ports q hq).2⟩⟩ hn (List.getElem?_eq_getElem hx') (List.getElem?_eq_getElem hy')
end Go.Proofs.YtemmhingmeinjaaGreatDoor
namespace Go.Proofs.YtemmhingmeinjaaGreatDoor
open Go.RowKit

theorem Tryz.infoInt : (Tryz.prog.info? 3).map (fun i => (i.zero, i.size, i.bytes)) = some (some (.int .i64 0), 1, 8) := by kernel_rfl

theorem nvs_made (n : Nat) : madeCells #[.int .i64 0] n = nvs (List.replicate n 0) := by
  apply Array.ext'
  rw [toList_madeCells_one]
  simp [nvs]
theorem Tryz.infoRule4 : (Tryz.prog.info? 51).map (fun i => (i.zero, i.size, i.bytes)) = some (some (.agg #[.int .i64 0, .string (tx []), .int .i64 0, .slice none 0 0]), 4, 56) := by kernel_rfl
def madeR (n : Nat) : Array Value := madeCells #[.int .i64 0, .string (tx []), .int .i64 0, .slice none 0 0] (n * 4)
theorem madeR_size (n : Nat) : (madeR n).size = n * 4 := size_madeCells _ _
theorem run_madeR (n : Nat) (hn : n ≤ 1000000) (w : World) :
    (Instr.makeSlice 36 (.int .i64 (n : Int)) (.int .i64 (n : Int))).run Tryz.prog w = .ok (.slice (some ⟨w.heap.size, 0, none⟩) n n) (w.alloc (.cells (madeR n) 51)) := by
  obtain ⟨i, hi, hz0, hz1, hz2⟩ := info_parts Tryz.infoRule4
  have := run_make (P := Tryz.prog) w 36 51 i (.agg #[.int .i64 0, .string (tx []), .int .i64 0, .slice none 0 0]) Tryz.underlying36 hi hz0 .i64 .i64 n n (by omega) (by omega) (by rw [hz2]; omega) (by omega)
  rw [this, hz1]
  rfl
def rawAt (ps : List (Raw × Value)) (i : Nat) : Raw := match ps[i]? with
  | some q => q.1
  | none => ⟨0, [], 0, []⟩

theorem ne_type {w : World} {g1 g2 : Nat} {c1 c2 : Array Value} {t1 t2 : TypeId} {r1 r2 : Nat × Nat} (h1 : w.heap[g1]? = some (.cells c1 t1 r1)) (h2 : w.heap[g2]? = some (.cells c2 t2 r2)) (ht : t1 ≠ t2) : g1 ≠ g2 := by
  intro e
  rw [e, h2] at h1
  injection h1 with h1
  injection h1 with _ h1 _
  exact ht h1.symm
structure OrdAt (w : World) (b ob g o cap n : Nat) (ps : List (Raw × Value)) (L : List Nat) (j : Nat) (wr : World) (qs : List (Raw × Value)) : Prop where
  low : Below w.heap.size w wr
  box : wr.heap[w.heap.size]? = some (.cells #[.slice (some ⟨g, o, none⟩) n cap] 36)
  nums : Nums wr b L
  row : ∃ cs, wr.heap[ob]? = some (.cells cs 51 (0, 0)) ∧ cs.size = n * 4 ∧ ∀ (i : Nat) (q : Raw × Value), qs[i]? = some q → cs[i * 4]? = some (.int .i64 q.1.prio) ∧ cs[i * 4 + 1]? = some (.string (tx q.1.mat)) ∧ cs[i * 4 + 2]? = some (.int .i64 q.1.kind) ∧ cs[i * 4 + 3]? = some q.2
  len : qs.length = j
  same : qs.map Prod.fst = (L.take j).map (rawAt ps)
  own : ∀ q ∈ qs, Ported wr w.heap.size q.2 q.1.ports
theorem Ported.mono {w : World} {B B' : Nat} {v : Value} {zs : List (List UInt8)} (h : Ported w B v zs) (hB : B' ≤ B) : Ported w B' v zs := by
  obtain ⟨ao, cap, e1, e2, q | ⟨b, e3, e4, e5⟩⟩ := h
  · exact ⟨ao, cap, e1, e2, Or.inl q⟩
  · exact ⟨ao, cap, e1, e2, Or.inr ⟨b, e3, Nat.le_trans hB e4, e5⟩⟩
theorem Ported.on {w w' : World} {B : Nat} {v : Value} {zs : List (List UInt8)} (h : Ported w B v zs) (hb : Below w.heap.size w w') : Ported w' B v zs := by
  obtain ⟨ao, cap, e1, e2, q | ⟨b, e3, e4, e5⟩⟩ := h
  · exact ⟨ao, cap, e1, e2, Or.inl q⟩
  · exact ⟨ao, cap, e1, e2, Or.inr ⟨b, e3, e4, e5.below hb e5.lt⟩⟩
theorem Ported.store {w : World} {B ob k : Nat} {v u : Value} {zs : List (List UInt8)} {cs : Array Value} (h : Ported w B v zs) (ho : w.heap[ob]? = some (.cells cs 51 (0, 0))) : Ported (w.setCell ⟨ob, k, none⟩ u) B v zs := by
  obtain ⟨ao, cap, e1, e2, q | ⟨b, e3, e4, cs', e5, e6⟩⟩ := h
  · exact ⟨ao, cap, e1, e2, Or.inl q⟩
  · exact ⟨ao, cap, e1, e2, Or.inr ⟨b, e3, e4, cs', block_other _ e5 (ne_type e5 ho (by decide)), e6⟩⟩
abbrev put4 (w : World) (ob x : Nat) (a b c d : Value) : World := (((w.setCell ⟨ob, x, none⟩ a).setCell ⟨ob, x + 1, none⟩ b).setCell ⟨ob, x + 2, none⟩ c).setCell ⟨ob, x + 3, none⟩ d
theorem put4_get {cs : Array Value} {x : Nat} {a b c d : Value} (hx : x + 3 < cs.size) (z : Nat) : ((((cs.setIfInBounds x a).setIfInBounds (x + 1) b).setIfInBounds (x + 2) c).setIfInBounds (x + 3) d)[z]? = if z = x then some a else if z = x + 1 then some b else if z = x + 2 then some c else if z = x + 3 then some d else cs[z]? := by
  simp only [Array.getElem?_setIfInBounds, Array.size_setIfInBounds]
  by_cases h0 : z = x
  · subst h0; simp; omega
  by_cases h1 : z = x + 1
  · subst h1; simp; omega
  by_cases h2 : z = x + 2
  · subst h2; simp; omega
  by_cases h3 : z = x + 3
  · subst h3; simp; omega
  rw [if_neg (by omega), if_neg (by omega), if_neg (by omega), if_neg (by omega), if_neg h0, if_neg h1, if_neg h2, if_neg h3]
theorem put4_block {w : World} {ob x : Nat} {cs : Array Value} {t : TypeId} {a b c d : Value} (h : w.heap[ob]? = some (.cells cs t (0, 0))) : (put4 w ob x a b c d).heap[ob]? = some (.cells ((((cs.setIfInBounds x a).setIfInBounds (x + 1) b).setIfInBounds (x + 2) c).setIfInBounds (x + 3) d) t (0, 0)) :=
  block_set _ (block_set _ (block_set _ (block_set _ h)))
theorem put4_other {w : World} {ob x g : Nat} {ob' : Obj} {a b c d : Value} (h : w.heap[g]? = some ob') (hne : g ≠ ob) : (put4 w ob x a b c d).heap[g]? = some ob' := block_other _ (block_other _ (block_other _ (block_other _ h hne) hne) hne) hne
theorem OrdAt.step {w wr w5 : World} {b ob g o cap n k : Nat} {ps : List (Raw × Value)} {L : List Nat} {j : Nat} {qs : List (Raw × Value)} {x : Raw} {v : Value} (h : OrdAt w b ob g o cap n ps L j wr qs) (hob : w.heap.size ≤ ob) (hj : j < n) (hl : L[j]? = some k) (hx : x = rawAt ps k) (h5 : Below wr.heap.size wr w5) (hp : Ported w5 wr.heap.size v x.ports) :
    OrdAt w b ob g o cap n ps L (j + 1) (put4 w5 ob (j * 4) (.int .i64 x.prio) (.string (tx x.mat)) (.int .i64 x.kind) v) (qs ++ [(x, v)]) := by
  obtain ⟨cs, hc, hsz, hcell⟩ := h.row
  have hc5 : w5.heap[ob]? = some (.cells cs 51 (0, 0)) := below_block h5 hc (lt_of_block hc)
  have hjl : j < L.length := (List.getElem?_eq_some_iff.1 hl).1
  refine ⟨?_, put4_other (below_block h5 h.box (lt_of_block h.box)) (ne_type h.box hc (by decide)), put4_other (h.nums.on h5) (ne_type h.nums hc (by decide)), ⟨_, put4_block hc5, by simp [hsz], ?_⟩, by simp [h.len], ?_, ?_⟩
  · exact ((((h.low.trans (h5.mono h.low.size)).setCell (p := ⟨ob, _, none⟩) hob _).setCell (p := ⟨ob, _, none⟩) hob _).setCell (p := ⟨ob, _, none⟩) hob _).setCell (p := ⟨ob, _, none⟩) hob _
  · intro i q hq
    by_cases hi : i < j
    · rw [List.getElem?_append_left (by rw [h.len]; exact hi)] at hq
      obtain ⟨c0, c1, c2, c3⟩ := hcell i q hq
      have hx3 : j * 4 + 3 < cs.size := by omega
      rw [put4_get hx3, put4_get hx3, put4_get hx3, put4_get hx3]
      rw [if_neg (by omega), if_neg (by omega), if_neg (by omega), if_neg (by omega), if_neg (by omega), if_neg (by omega), if_neg (by omega), if_neg (by omega), if_neg (by omega), if_neg (by omega), if_neg (by omega), if_neg (by omega), if_neg (by omega), if_neg (by omega), if_neg (by omega), if_neg (by omega)]
      exact ⟨c0, c1, c2, c3⟩
    · have hij : i = j := by
        have := (List.getElem?_eq_some_iff.1 hq).1
        rw [List.length_append, h.len] at this
        simp at this
        omega
      subst hij
      rw [List.getElem?_append_right (by rw [h.len]; exact Nat.le_refl _), h.len, Nat.sub_self] at hq
      have hq' : q = (x, v) := by simpa using hq.symm
      subst hq'
      have hx3 : i * 4 + 3 < cs.size := by omega
      rw [put4_get hx3, put4_get hx3, put4_get hx3, put4_get hx3]
      refine ⟨by rw [if_pos rfl], by rw [if_neg (by omega), if_pos rfl], by rw [if_neg (by omega), if_neg (by omega), if_pos rfl], by rw [if_neg (by omega), if_neg (by omega), if_neg (by omega), if_pos rfl]⟩
  · rw [List.map_append, h.same, List.take_add_one, hl, List.map_append]
    simp [hx]
  · intro q hq
    have key : ∀ u zs, Ported w5 w.heap.size u zs → Ported (put4 w5 ob (j * 4) (.int .i64 x.prio) (.string (tx x.mat)) (.int .i64 x.kind) v) w.heap.size u zs := fun u zs q0 =>
      (((q0.store hc5).store (block_set _ hc5)).store (block_set _ (block_set _ hc5))).store (block_set _ (block_set _ (block_set _ hc5)))
    rcases List.mem_append.1 hq with hq | hq
    · exact key _ _ ((h.own q hq).on h5)
    · rw [List.mem_singleton.1 hq]
      exact key _ _ (hp.mono h.low.size)
structure OrdPost (w : World) (n : Nat) (ps : List (Raw × Value)) (en : Ending) (w' : World) (ob : Nat) (qs : List (Raw × Value)) (L : List Nat) : Prop where
  told : en = .returned (.slice (some ⟨ob, 0, none⟩) n n)
  sorted : Pc (cmpAt ps) 0 n L
  same : qs.map Prod.fst = L.map (rawAt ps)
  view : RawView w' ob 0 qs
  own : ∀ q ∈ qs, Ported w' w.heap.size q.2 q.1.ports
  new : w.heap.size ≤ ob
  low : Below w.heap.size w w'
  row : ∃ cs, w'.heap[ob]? = some (.cells cs 51 (0, 0)) ∧ cs.size = n * 4

set_option maxRecDepth 20000 in
set_option maxHeartbeats 4000000 in
theorem Order_some {w : World} {g o n cap : Nat} {ps : List (Raw × Value)} (h : RawView w g o ps) (hn : ps.length = n) (h60 : n ≤ 4096) (hs : ∀ q ∈ ps, Small q.1.mat q.1.ports) :
    Calls Tryz.prog 22 #[.slice (some ⟨g, o, none⟩) n cap] w fun e w' => ∃ ob qs L, Hid (OrdPost w n ps e w' ob qs L) := by
  have H := hid h
  have HN := hid hn
  have HS := hid hs
  have hg := h.old
  have hmk := run_make_row' (P := Tryz.prog) 100 3 (.int .i64 0) 8 Tryz.underlying100 Tryz.infoInt rfl .i64 .i64 n (by omega) (by omega)
  have hmr := run_madeR n (by omega)
  have HN0 := hid (show Nums ((w.alloc (.cells #[.slice (some ⟨g, o, none⟩) n cap] 36)).alloc (.cells (madeCells #[.int .i64 0] n) 3)) (w.heap.size + 1) (List.range' 0 0 ++ List.replicate (n - 0) 0) by
    rw [nvs_made]
    exact new_1 _ _ _)
  have HB0 := hid (show Below (w.heap.size + 1) (w.alloc (.cells #[.slice (some ⟨g, o, none⟩) n cap] 36)) ((w.alloc (.cells #[.slice (some ⟨g, o, none⟩) n cap] 36)).alloc (.cells (madeCells #[.int .i64 0] n) 3)) from (Below.refl _ _).alloc (by simp) _)
  clear h hn hs
  go_enter Tryz.func22, Tryz.ntmps22
  go_wp2_with fail
  obtain ⟨wA, hwA⟩ : ∃ wA, wA = w.alloc (.cells #[.slice (some ⟨g, o, none⟩) n cap] 36) := ⟨_, rfl⟩
  rw [← hwA] at HN0 HB0 ⊢
  have HWA := hid hwA
  obtain ⟨wB, hwB⟩ : ∃ wB, wB = wA.alloc (.cells (madeCells #[.int .i64 0] n) 3) := ⟨_, rfl⟩
  rw [← hwB] at HN0 HB0 ⊢
  clear hwA hwB
  obtain ⟨b, hb⟩ : ∃ b, b = w.heap.size + 1 := ⟨_, rfl⟩
  have HBb := hid hb
  rw [← hb] at HN0 HB0 ⊢
  clear hb
  go_loopw [13, 4] (fun vi _ wr => ∃ j : Nat, j ≤ n ∧ vi = .int .i64 j ∧ Hid (Below b wA wr ∧ Nums wr b (List.range' 0 j ++ List.replicate (n - j) 0))) (fun vi _ _ => n - (intOf vi).toNat)
  case atStart => exact ⟨0, Nat.zero_le _, rfl, HB0.out, HN0.out⟩
  case round =>
    obtain ⟨j, hj, rfl, HR⟩ := hrel
    by_cases hlt : j < n
    · have hI : (j : Int) < (n : Int) := by omega
      have i0 : (0 : Int) ≤ (j : Int) := by omega
      have c0 := HR.out.2.cell (k := j) (by simp; omega)
      have f0 := HR.out.2.free j
      have HN1 := hid (show Below b wA (wr.setCell ⟨b, j, none⟩ (.int .i64 (j : Int))) ∧ Nums (wr.setCell ⟨b, j, none⟩ (.int .i64 (j : Int))) b (List.range' 0 (j + 1) ++ List.replicate (n - (j + 1)) 0) from by
        refine ⟨HR.out.1.setCell (Nat.le_refl _) _, ?_⟩
        have := HR.out.2.set j j
        obtain ⟨k, hk⟩ : ∃ k, n - j = k + 1 := ⟨n - j - 1, by omega⟩
        rw [hk, List.replicate_succ, St.set_mid (by simp)] at this
        rw [show n - (j + 1) = k by omega, List.range'_1_concat]
        simpa using this)
      go_wp2
      go_roundw
      case rel => exact ⟨j + 1, by omega, by go_num, HN1⟩
      case measure => simp [intOf]; omega
    · have hI : ¬ ((j : Int) < (n : Int)) := by omega
      have hjn : j = n := by omega
      subst hjn
      have HN2 := hid (show Nums wr b (List.range' 0 j) by have := HR.out.2; simpa using this)
      have HLOW := hid (show Below w.heap.size w wr from ((Below.refl _ _).alloc (Nat.le_refl _) _).trans ((HWA.out ▸ HR.out.1).mono (by rw [HBb.out]; omega)))
      have HBOX := hid (show wr.heap[w.heap.size]? = some (.cells #[.slice (some ⟨g, o, none⟩) j cap] 36) from below_block HR.out.1 (by rw [HWA.out]; exact new_0 _ _) (by rw [HBb.out]; omega))
      have HV := hid (show ∀ W, Below w.heap.size w W → RawView W g o ps from fun W hW => ⟨Nat.lt_of_lt_of_le hg hW.size, fun i q hq => by
        obtain ⟨c0, c1, c2, c3⟩ := H.out.cell i q hq
        exact ⟨(hW.cell (by exact hg)).trans c0, (hW.cell (by exact hg)).trans c1, (hW.cell (by exact hg)).trans c2, (hW.cell (by exact hg)).trans c3⟩, fun q hq => ⟨(H.out.ports q hq).1.below hW, (H.out.ports q hq).2⟩⟩)
      have HSO := hid (SortStable_any (c := cmpAt ps) (w := wr) (b := b) (n := j) (cap := j) (cb := w.heap.size) (HN.out ▸ ord_rules ps) (cmps_rules (cap := cap) (by rw [cell_at HBOX.out]; rfl) (HV.out _ HLOW.out) HN.out (by rw [HBb.out]; omega) (by rw [HBb.out]; omega) (fun q hq W hW => ((H.out.ports q hq).1.below (HLOW.out.trans (hW.mono (by rw [HBb.out]; omega)))))) HN2.out (by omega))
      go_wp2_with fail
      refine HSO.out.mono ?_
      rintro en w2 ⟨rfl, L, hL⟩
      have HL := hid hL
      have HLOW2 := hid (show Below w.heap.size w w2 from HLOW.out.trans (hL.2.1.mono (by rw [HBb.out]; omega)))
      have HBOX2 := hid (below_block hL.2.1 HBOX.out (by rw [HBb.out]; omega))
      have q0 : w2.cell? ⟨w.heap.size, 0, none⟩ = some (.slice (some ⟨g, o, none⟩) j cap) := by rw [cell_at HBOX2.out]; rfl
      have HB2 := hid (show b < w2.heap.size from hL.2.2.lt)
      obtain ⟨ob, hob⟩ : ∃ ob, ob = w2.heap.size := ⟨_, rfl⟩
      have HOB := hid (show w.heap.size ≤ ob by rw [hob]; exact HLOW2.out.size)
      have HLB := hid (show ∀ k, k < j → ∃ y q, L[k]? = some y ∧ ps[y]? = some q ∧ y < j from fun k hk => by
        have hlen := hL.1.len
        have hk' : k < L.length := by omega
        have hy := hL.1.mem (List.getElem_mem hk')
        have hy' : L[k] < ps.length := by rw [HN.out]; omega
        exact ⟨L[k], ps[L[k]], List.getElem?_eq_getElem hk', List.getElem?_eq_getElem hy', by omega⟩)
      have HI0 := hid (show OrdAt w b ob g o cap j ps L 0 (w2.alloc (.cells (madeR j) 51)) [] from ⟨HLOW2.out.alloc HLOW2.out.size _, new_old _ _ HBOX2.out, new_old _ _ hL.2.2, ⟨madeR j, by rw [hob]; exact new_0 _ _, madeR_size j, fun i q hq => by simp at hq⟩, rfl, rfl, fun q hq => by simp at hq⟩)
      clear hL
      go_wp2_with fail
      rw [← hob]
      clear hob
      go_loopw [29, 6, 7] (fun vi _ _ wr => ∃ (k : Nat) (qs : List (Raw × Value)), k ≤ j ∧ vi = .int .i64 k ∧ Hid (OrdAt w b ob g o cap j ps L k wr qs)) (fun vi _ _ _ => j - (intOf vi).toNat)
      case atStart => exact ⟨0, [], Nat.zero_le _, rfl, HI0⟩
      case round =>
        obtain ⟨k, qs, hk, rfl, HA⟩ := hrel
        rename World => wx
        by_cases hlt2 : k < j
        · obtain ⟨y, q, hy, hq, hyj⟩ := HLB.out k hlt2
          have HY := hid (And.intro hy hq)
          have hI2 : (k : Int) < (j : Int) := by omega
          have k0 : (0 : Int) ≤ (k : Int) := by omega
          have y0 : (0 : Int) ≤ (y : Int) := by omega
          have y1 : (y : Int) < (j : Int) := by omega
          have hkl : k < L.length := (List.getElem?_eq_some_iff.1 hy).1
          have d0 : wx.cell? ⟨b, k, none⟩ = some (.int .i64 (y : Int)) := by
            have := HA.out.nums.cell hkl
            unfold St.at_ at this
            rw [List.getD_eq_getElem?_getD, hy] at this
            exact this
          have d1 : wx.cell? ⟨w.heap.size, 0, none⟩ = some (.slice (some ⟨g, o, none⟩) j cap) := by rw [cell_at HA.out.box]; rfl
          obtain ⟨e0, e1, e2, e3⟩ := (HV.out _ HA.out.low).cell y q hq
          have hpt := ((HV.out _ HA.out.low).ports q (List.mem_of_getElem? hq)).1
          have HSM := hid (HS.out q (List.mem_of_getElem? hq))
          have HPT := hid hpt
          have HXR := hid (show q.1 = rawAt ps y by unfold rawAt; rw [hq])
          obtain ⟨x, uv⟩ := q
          simp only at e0 e1 e2 e3 hpt HSM HPT HXR
          obtain ⟨ao, cq, rfl, _⟩ := hpt
          have HCO := hid (copyOf_any (p := x.prio) (k := x.kind) HPT.out HSM.out)
          obtain ⟨pp, mm, kk, zz, hxe⟩ : ∃ pp mm kk zz, x = ⟨pp, mm, kk, zz⟩ := ⟨_, _, _, _, rfl⟩
          subst hxe
          simp only at e0 e1 e2 e3 HCO
          obtain ⟨cs, hcs, hcz, _⟩ := HA.out.row
          clear hy hq hkl
          go_wp2_with fail
          refine HCO.out.mono ?_
          rintro e w5 ⟨v', rfl, hp5, hb5⟩
          have hc5 := below_block hb5 hcs (lt_of_block hcs)
          obtain ⟨⟨z0, f0⟩, ⟨z1, f1⟩, ⟨z2, f2⟩, ⟨z3, f3⟩, f4, f5, f6, f7⟩ := Cub.four_at hc5 (x := k * 4) (by omega)
          have HST := hid (HA.out.step (x := ⟨pp, mm, kk, zz⟩) HOB.out hlt2 HY.out.1 HXR.out hb5 hp5)
          obtain ⟨ao5, cap5, hv5, _⟩ := hp5
          subst hv5
          clear hc5 hcs hcz d0 d1 e0 e1 e2 e3 hb5
          go_wp2
          go_roundw
          case rel => exact ⟨k + 1, _, by omega, by go_num, HST⟩
          case measure => simp [intOf]; omega
        · have hI2 : ¬ ((k : Int) < (j : Int)) := by omega
          have hkj : k = j := by omega
          have HF := hid (show OrdPost w j ps (.returned (.slice (some ⟨ob, 0, none⟩) j j)) wx ob qs L from by
            have h := HA.out
            obtain ⟨cs, hcs, hcz, hce⟩ := h.row
            refine ⟨rfl, HL.out.1, ?_, ⟨lt_of_block hcs, fun i q hq => ?_, fun q hq => ⟨(h.own q hq).txs, ?_⟩⟩, h.own, HOB.out, h.low, ⟨cs, hcs, hcz⟩⟩
            · have hlen := HL.out.1.len
              rw [h.same, List.take_of_length_le (by omega)]
            · obtain ⟨c0, c1, c2, c3⟩ := hce i q hq
              rw [Nat.zero_add]
              exact ⟨(cell_at hcs).trans c0, (cell_at hcs).trans c1, (cell_at hcs).trans c2, (cell_at hcs).trans c3⟩
            · have hm : q.1 ∈ qs.map Prod.fst := List.mem_map_of_mem hq
              rw [h.same] at hm
              obtain ⟨y, _, hy⟩ := List.mem_map.1 hm
              intro p hp
              rw [← hy] at hp
              unfold rawAt at hp
              cases hpy : ps[y]? with
              | none => rw [hpy] at hp; cases hp
              | some q0 => rw [hpy] at hp; exact (H.out.ports q0 (List.mem_of_getElem? hpy)).2 p hp)
          go_wp2
          go_ret
          exact ⟨ob, qs, L, HF.out⟩
end Go.Proofs.YtemmhingmeinjaaGreatDoor
namespace Go.Proofs.YtemmhingmeinjaaGreatDoor
open Go.RowKit

set_option maxRecDepth 20000 in
set_option maxHeartbeats 1000000 in
theorem Same_actsI {w : World} {k : Int} {v1 v2 : Value} {zs : List (List UInt8)} (h1 : Txs w v1 zs) (h2 : Txs w v2 zs) (hn : zs.length ≤ maxLen) :
    Calls Tryz.prog 23 #[.agg #[.int .i64 k, v1], .agg #[.int .i64 k, v2]] w fun e w' => e = .returned (.bool true) ∧ Below w.heap.size w w' := by
  have H1 := hid h1
  have H2 := hid h2
  obtain ⟨a1, c1, rfl, _⟩ := h1
  obtain ⟨a2, c2, rfl, _⟩ := h2
  have HT := hid (fun (w' : World) (hb : Below w.heap.size w w') => UTexts_same (H1.out.below hb) (H2.out.below hb) hn)
  clear hn
  have hkk : (k == k) = true := by simp
  have BA := hid (show Below w.heap.size w ((w.alloc (aob k (.slice a1 zs.length c1))).alloc (aob k (.slice a2 zs.length c2))) from ((Below.refl _ _).alloc (Nat.le_refl _) _).alloc (by simp) _)
  go_enter Tryz.func23, Tryz.ntmps23
  go_wp2_with fail
  refine (HT.out _ BA.out).mono ?_
  rintro en w1 ⟨rfl, hb1⟩
  have B1 := hid (show Below w.heap.size w w1 from BA.out.trans (hb1.mono BA.out.size))
  clear hb1
  go_wp2
  go_ret
  exact ⟨rfl, B1.out⟩

set_option maxRecDepth 20000 in
set_option maxHeartbeats 2000000 in
theorem SameRules_rr {w : World} {g1 o g2 u : Nat} {ps1 ps2 : List (Raw × Value)} (c1 c2 n : Nat) (h1 : RawView w g1 o ps1) (h64 : ∀ q ∈ ps1, q.1.ports.length ≤ maxLen) (h2 : RawView w g2 u ps2) (hl1 : ps1.length = n) (hl2 : ps2.length = n) (he : ps1.map Prod.fst = ps2.map Prod.fst) (hn : n ≤ 1048576) :
    Calls Tryz.prog 10 #[.slice (some ⟨g1, o, none⟩) n c1, .slice (some ⟨g2, u, none⟩) n c2] w fun e w' => e = .returned (.bool true) ∧ Below w.heap.size w w' := by
  have H1 := hid h1
  have H2 := hid h2
  have H64 := hid h64
  have HL1 := hid hl1
  have HL2 := hid hl2
  have HE := hid he
  have ho1 := h1.old
  have ho2 := h2.old
  clear h1 h2 hl1 hl2 he h64
  have hne : ((n : Int) != (n : Int)) = false := by simp
  go_enter Tryz.func10, Tryz.ntmps10
  go_wp2_with fail
  go_loopw [5] (fun i wr => ∃ j : Nat, j ≤ n ∧ i = .int .i64 j ∧ Hid (Below w.heap.size w wr)) (fun i _ => n - (intOf i).toNat)
  case atStart => exact ⟨0, Nat.zero_le _, rfl, Below.refl _ _⟩
  case round =>
    obtain ⟨j, hj, rfl, HB⟩ := hrel
    by_cases hlt : j < n
    · obtain ⟨q1, hq1⟩ : ∃ q, ps1[j]? = some q := ⟨ps1[j]'(by rw [HL1.out]; exact hlt), List.getElem?_eq_getElem _⟩
      obtain ⟨q2, hq2⟩ : ∃ q, ps2[j]? = some q := ⟨ps2[j]'(by rw [HL2.out]; exact hlt), List.getElem?_eq_getElem _⟩
      have hq : q1.1 = q2.1 := by
        have := congrArg (fun l => l[j]?) HE.out
        simp only [List.getElem?_map, hq1, hq2, Option.map_some, Option.some.injEq] at this
        exact this
      obtain ⟨a0, a1, a2, a3⟩ := H1.out.cell j q1 hq1
      obtain ⟨b0, b1, b2, b3⟩ := H2.out.cell j q2 hq2
      have hp1 := And.intro (H1.out.ports q1 (List.mem_of_getElem? hq1)).1 (H64.out q1 (List.mem_of_getElem? hq1))
      have hp2 := H2.out.ports q2 (List.mem_of_getElem? hq2)
      rw [← hq] at b0 b1 b2 hp2
      obtain ⟨x, u1⟩ := q1
      obtain ⟨y, u2⟩ := q2
      simp only at a0 a1 a2 a3 b0 b1 b2 b3 hp1 hp2 hq
      have k0 := (HB.out.cell (p := ⟨g1, o + j * 4, none⟩) (by exact ho1)).trans a0
      have k1 := (HB.out.cell (p := ⟨g1, o + j * 4 + 1, none⟩) (by exact ho1)).trans a1
      have k2 := (HB.out.cell (p := ⟨g1, o + j * 4 + 2, none⟩) (by exact ho1)).trans a2
      have k3 := (HB.out.cell (p := ⟨g1, o + j * 4 + 3, none⟩) (by exact ho1)).trans a3
      have m0 := (HB.out.cell (p := ⟨g2, u + j * 4, none⟩) (by exact ho2)).trans b0
      have m1 := (HB.out.cell (p := ⟨g2, u + j * 4 + 1, none⟩) (by exact ho2)).trans b1
      have m2 := (HB.out.cell (p := ⟨g2, u + j * 4 + 2, none⟩) (by exact ho2)).trans b2
      have m3 := (HB.out.cell (p := ⟨g2, u + j * 4 + 3, none⟩) (by exact ho2)).trans b3
      have HS := hid (fun (w' : World) (hb : Below w.heap.size w w') => Same_actsI (k := x.kind) (hp1.1.below hb) (hp2.1.below hb) hp1.2)
      obtain ⟨o1, s1, rfl, _⟩ := hp1.1
      obtain ⟨o2, s2, rfl, _⟩ := hp2.1
      have HSS : Hid (∀ W : World, Below w.heap.size w W → W.cell? ⟨g1, o + j * 4, none⟩ = some (.int .i64 x.prio) ∧ W.cell? ⟨g1, o + j * 4 + 1, none⟩ = some (.string (tx x.mat)) ∧ W.cell? ⟨g1, o + j * 4 + 2, none⟩ = some (.int .i64 x.kind) ∧ W.cell? ⟨g1, o + j * 4 + 3, none⟩ = some (.slice o1 x.ports.length s1) ∧ W.cell? ⟨g2, u + j * 4, none⟩ = some (.int .i64 x.prio) ∧ W.cell? ⟨g2, u + j * 4 + 1, none⟩ = some (.string (tx x.mat)) ∧ W.cell? ⟨g2, u + j * 4 + 2, none⟩ = some (.int .i64 x.kind) ∧ W.cell? ⟨g2, u + j * 4 + 3, none⟩ = some (.slice o2 x.ports.length s2)) := by
        intro W hW
        exact ⟨(hW.cell (p := ⟨g1, o + j * 4, none⟩) (by exact ho1)).trans a0, (hW.cell (p := ⟨g1, o + j * 4 + 1, none⟩) (by exact ho1)).trans a1, (hW.cell (p := ⟨g1, o + j * 4 + 2, none⟩) (by exact ho1)).trans a2, (hW.cell (p := ⟨g1, o + j * 4 + 3, none⟩) (by exact ho1)).trans a3,
          (hW.cell (p := ⟨g2, u + j * 4, none⟩) (by exact ho2)).trans b0, (hW.cell (p := ⟨g2, u + j * 4 + 1, none⟩) (by exact ho2)).trans b1, (hW.cell (p := ⟨g2, u + j * 4 + 2, none⟩) (by exact ho2)).trans b2, (hW.cell (p := ⟨g2, u + j * 4 + 3, none⟩) (by exact ho2)).trans b3⟩
      have hkI : (j : Int) < (n : Int) := by omega
      have hk0 : (0 : Int) ≤ (j : Int) := by omega
      have e1 : ((x.prio : Int) == (x.prio : Int)) = true := by simp
      have e2 : (x.mat == x.mat) = true := by simp
      clear hq1 hq2 hq a0 a1 a2 a3 b0 b1 b2 b3 hp1 hp2 k0 k1 k2 k3 m0 m1 m2 m3
      go_wp2_with fail
      go_region_held2 (fun W => W.cell? ⟨g1, o + j * 4, none⟩ = some (.int .i64 x.prio) ∧ W.cell? ⟨g1, o + j * 4 + 1, none⟩ = some (.string (tx x.mat)) ∧ W.cell? ⟨g1, o + j * 4 + 2, none⟩ = some (.int .i64 x.kind) ∧ W.cell? ⟨g1, o + j * 4 + 3, none⟩ = some (.slice o1 x.ports.length s1) ∧ W.cell? ⟨g2, u + j * 4, none⟩ = some (.int .i64 x.prio) ∧ W.cell? ⟨g2, u + j * 4 + 1, none⟩ = some (.string (tx x.mat)) ∧ W.cell? ⟨g2, u + j * 4 + 2, none⟩ = some (.int .i64 x.kind) ∧ W.cell? ⟨g2, u + j * 4 + 3, none⟩ = some (.slice o2 x.ports.length s2)) (first | exact hS2 | exact HSS.out _ HB.out.drew | exact HSS.out _ HB.out) (first | (go_at_call 23; refine (HS.out _ ?_).mono ?_; exact HB.out.drew; rintro en w2 ⟨rfl, hb2⟩; have B2 := hid (HB.out.drew.trans (hb2.mono HB.out.drew.size)); have hS2 := HSS.out w2 B2.out))
      go_wp2
      go_roundw
      case rel => exact ⟨j + 1, by omega, by go_num, B2⟩
      case measure => simp [intOf]; omega
    · have hkI : ¬ ((j : Int) < (n : Int)) := by omega
      go_wp2
      go_ret
      exact ⟨rfl, HB.out⟩

end Go.Proofs.YtemmhingmeinjaaGreatDoor
namespace Go.Proofs.YtemmhingmeinjaaGreatDoor
open Go.RowKit

set_option maxRecDepth 20000 in
set_option maxHeartbeats 2000000 in
theorem Order_noneB {w : World} {ao : Option Addr} {cap : Nat} :
    Calls Tryz.prog 22 #[.slice ao 0 cap] w fun e w' => ∃ ob, e = .returned (.slice (some ⟨ob, 0, none⟩) 0 0) ∧ Below w.heap.size w w' ∧ Hid (w'.heap[ob]? = some (.cells (madeR 0) 51) ∧ w.heap.size ≤ ob) := by
  have hmk := run_make_row' (P := Tryz.prog) 100 3 (.int .i64 0) 8 Tryz.underlying100 Tryz.infoInt rfl .i64 .i64 0 (by omega) (by omega)
  have hmr := run_madeR 0 (by omega)
  have hmk' : ∀ W : World, (Instr.makeSlice 100 (.int .i64 0) (.int .i64 0)).run Tryz.prog W = _ := hmk
  have hmr' : ∀ W : World, (Instr.makeSlice 36 (.int .i64 0) (.int .i64 0)).run Tryz.prog W = _ := hmr
  have HSO := hid (SortStable_any (c := fun _ _ => 0) (w := (w.alloc (.cells #[.slice ao 0 cap] 36)).alloc (.cells (madeCells #[.int .i64 0] 0) 3)) (b := w.heap.size + 1) (n := 0) (cap := 0) (cb := w.heap.size) ⟨fun _ _ h => by omega, fun _ _ _ h => by omega⟩ (fun W _ x y hx => by omega) (by unfold Nums; rw [nvs_made]; exact new_1 _ _ _) (by omega))
  have HB0 := hid (show Below w.heap.size w ((w.alloc (.cells #[.slice ao 0 cap] 36)).alloc (.cells (madeCells #[.int .i64 0] 0) 3)) from ((Below.refl _ _).alloc (Nat.le_refl _) _).alloc (by simp) _)
  clear hmk hmr
  go_enter Tryz.func22, Tryz.ntmps22
  go_wp2_with fail
  refine wp_loop_rounds 1 ?_
  rw [rounds_succ]
  go_wp2_with fail
  refine HSO.out.mono ?_
  rintro en w2 ⟨rfl, L, hL⟩
  have B2 := hid (HB0.out.trans (hL.2.1.mono (by omega)))
  have q0 : w2.cell? ⟨w.heap.size, 0, none⟩ = some (.slice ao 0 cap) := by
    have := below_block hL.2.1 (new_old _ (.cells (madeCells #[.int .i64 0] 0) 3) (new_0 w (.cells #[.slice ao 0 cap] 36))) (by omega)
    rw [cell_at this]; rfl
  clear hL
  go_wp2_with fail
  refine wp_loop_rounds 1 ?_
  rw [rounds_succ]
  go_wp2
  go_ret
  exact ⟨_, rfl, B2.out.alloc B2.out.size _, new_0 _ _, B2.out.size⟩
theorem Order_none {w : World} {ao : Option Addr} {cap : Nat} :
    Calls Tryz.prog 22 #[.slice ao 0 cap] w fun e w' => ∃ ob, e = .returned (.slice (some ⟨ob, 0, none⟩) 0 0) ∧ Below w.heap.size w w' :=
  Order_noneB.mono fun _ _ ⟨ob, h1, h2, _⟩ => ⟨ob, h1, h2⟩
end Go.Proofs.YtemmhingmeinjaaGreatDoor
namespace Go.Proofs.YtemmhingmeinjaaGreatDoor
open Go.RowKit

def sameKey (a b : Raw) : Prop := a.prio = b.prio ∧ a.mat = b.mat
def Apart_ (ps : List (Raw × Value)) (k : Nat) : Prop := ∀ i j, i < j → j < k → ¬ sameKey (rawAt ps j) (rawAt ps i)
theorem rawAt_some {ps : List (Raw × Value)} {i : Nat} {q : Raw × Value} (h : ps[i]? = some q) : rawAt ps i = q.1 := by unfold rawAt; rw [h]

theorem one_way {α : Type} {R : α → α → Prop} (hR : ∀ a b, R a b → R b a → False) : ∀ {l m : List α}, l.Pairwise R → m.Pairwise R → l.Perm m → l = m := by
  intro l
  induction l with
  | nil => intro m _ _ p; exact List.Perm.nil_eq p
  | cons a l ih =>
    intro m hl hm p
    cases m with
    | nil => exact absurd p.length_eq (by simp)
    | cons b m =>
      by_cases hab : a = b
      · subst hab
        rw [ih (List.pairwise_cons.1 hl).2 (List.pairwise_cons.1 hm).2 (List.perm_cons a |>.1 p)]
      · exfalso
        have ha : a ∈ m := by
          rcases List.mem_cons.1 (p.mem_iff.1 (List.mem_cons_self (a := a) (l := l))) with q | q
          · exact absurd q hab
          · exact q
        have hb : b ∈ l := by
          rcases List.mem_cons.1 (p.mem_iff.2 (List.mem_cons_self (a := b) (l := m))) with q | q
          · exact absurd q.symm hab
          · exact q
        exact hR a b ((List.pairwise_cons.1 hl).1 b hb) ((List.pairwise_cons.1 hm).1 a ha)
theorem range_raw (ps : List (Raw × Value)) : (List.range' 0 ps.length).map (rawAt ps) = ps.map Prod.fst := by
  apply List.ext_getElem
  · simp
  · intro i h1 h2
    simp only [List.getElem_map, List.getElem_range']
    rw [List.length_map] at h2
    rw [rawAt_some (q := ps[i]) (by rw [Nat.zero_add, Nat.one_mul]; exact List.getElem?_eq_getElem h2)]
theorem raw_perm {ps : List (Raw × Value)} {L : List Nat} {c : Nat → Nat → Int} (h : Pc c 0 ps.length L) : (L.map (rawAt ps)).Perm (ps.map Prod.fst) := by
  rw [← range_raw]
  exact h.perm.map _
theorem cmpR_zero {a b : Raw} (h : cmpR a b = 0) : sameKey a b := by
  have h1 : cmpR a b ≤ 0 := by omega
  have h2 : ¬ cmpR a b < 0 := by omega
  rw [cmpR_le] at h1
  rw [cmpR_neg] at h2
  rcases h1 with q | ⟨q1, q2 | q2⟩
  · exact absurd (Or.inl q) h2
  · exact absurd (Or.inr ⟨q1, q2⟩) h2
  · exact ⟨q1, q2⟩
theorem cmpAt_raw {ps : List (Raw × Value)} {x y : Nat} (hx : x < ps.length) (hy : y < ps.length) : cmpAt ps x y = cmpR (rawAt ps x) (rawAt ps y) := by
  unfold cmpAt
  rw [List.getElem?_eq_getElem hx, List.getElem?_eq_getElem hy, rawAt_some (List.getElem?_eq_getElem hx), rawAt_some (List.getElem?_eq_getElem hy)]
theorem raw_rise {ps : List (Raw × Value)} {L : List Nat} (h : Pc (cmpAt ps) 0 ps.length L) (ha : Apart_ ps ps.length) : (L.map (rawAt ps)).Pairwise (fun a b => cmpR a b < 0) := by
  rw [List.pairwise_map]
  refine h.up.imp_of_mem ?_
  intro x y hx hy hxy
  have h1 := h.mem hx
  have h2 := h.mem hy
  rcases hxy with q | ⟨q, r⟩
  · rw [cmpAt_raw (by omega) (by omega)] at q; exact q
  · rw [cmpAt_raw (by omega) (by omega)] at q
    have := cmpR_zero q
    exact absurd ⟨this.1.symm, this.2.symm⟩ (ha x y r (by omega))
end Go.Proofs.YtemmhingmeinjaaGreatDoor
