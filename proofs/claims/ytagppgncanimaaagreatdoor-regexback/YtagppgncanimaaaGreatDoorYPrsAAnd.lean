/-
  A path that Match finds is one of the expression's, and every one is found.
  Which paths are of an expression, and that the spots tell them.
  What is parsed has names that fit.
  The program's Parse of any text.
-/
import Derived.Test.YtagppgncanimaaaGreatDoorYParsAAnd
import Derived.Test.YtagppgncanimaaaGreatDoorZTakeAnd
namespace Go.Proofs.YtagppgncanimaaaGreatDoor
open Go.RowKit

set_option maxRecDepth 20000 in
set_option maxHeartbeats 2000000 in
theorem prs_lines {w : World} {s : List UInt8} (hs : s.length ≤ 1048576) (he : Wo.err s ≠ 0) :
    Calls Tryz.prog 15 #[.string (tx s)] w fun e w' => ∃ x y : Int, e = .returned (.tuple #[.agg #[.int .i64 0, .string (tx []), .slice none 0 0], .int .i64 x, .int .i64 y, .int .i64 (Wo.err s : Nat)]) ∧ Below w.heap.size w w' := by
  have HLI := hid (fun (W : World) => Lines_any s W hs)
  obtain ⟨fl, hfl⟩ : ∃ fl, fl = Wo.faultL s := ⟨_, rfl⟩
  obtain ⟨fc, hfc⟩ : ∃ fc, fc = Wo.faultC s := ⟨_, rfl⟩
  obtain ⟨c, hcc⟩ : ∃ c, c = Wo.err s := ⟨_, rfl⟩
  rw [← hcc] at he
  rw [← hfl, ← hfc, ← hcc] at HLI
  rw [← hcc]
  have hcI : ((c : Int) == 0) = false := by rw [beq_eq_false_iff_ne]; omega
  clear hs hfl hfc hcc
  go_enter Tryz.func15, Tryz.ntmps15
  go_wp2_with fail
  refine (HLI.out _).mono ?_
  rintro en w1 ⟨v, rfl, HLA, hb1⟩
  obtain ⟨ao, cap, rfl⟩ := HLA.out.form
  obtain ⟨m, hm⟩ : ∃ m, m = (Wo.read s).length := ⟨_, rfl⟩
  rw [← hm] at HLA ⊢
  have hs1 : w.heap.size + 1 ≤ w1.heap.size := by have := hb1.size; simpa using this
  have hbx : w1.heap[w.heap.size]? = some (.cells #[.int .i64 0, .string ⟨#[]⟩, .slice none 0 0] 25 (0, 0)) := (hb1.block w.heap.size (by simp)).trans (new_0 _ _)
  have B1 := hid (show Below w.heap.size w w1 from ((Below.refl _ _).alloc (Nat.le_refl _) _).trans (hb1.mono (by simp)))
  have x0 : w1.cell? ⟨w.heap.size, 0, none⟩ = some (.int .i64 0) := by rw [cell_at hbx]; rfl
  have x1 : w1.cell? ⟨w.heap.size, 1, none⟩ = some (.string ⟨#[]⟩) := by rw [cell_at hbx]; rfl
  have x2 : w1.cell? ⟨w.heap.size, 2, none⟩ = some (.slice none 0 0) := by rw [cell_at hbx]; rfl
  have y0 : w1.frozen? ⟨w.heap.size, 0, none⟩ = false := free_of hbx
  have y1 : w1.frozen? ⟨w.heap.size, 1, none⟩ = false := free_of hbx
  have y2 : w1.frozen? ⟨w.heap.size, 2, none⟩ = false := free_of hbx
  clear hb1 hbx hm
  go_wp2
  try (go_quiet (fail); go_wp2)
  refine bodyPost_ret (v := .tuple #[.agg #[.int .i64 0, .string (tx []), .slice none 0 0], .int .i64 fl, .int .i64 fc, .int .i64 c]) (by simp [results, Tryz.results15, go_sem, x0, x1, x2]) rfl ⟨_, _, rfl, ?_⟩
  exact ((B1.out.setCell (Nat.le_refl _) _).setCell (Nat.le_refl _) _).setCell (Nat.le_refl _) _

set_option maxRecDepth 20000 in
set_option maxHeartbeats 2000000 in
theorem prs_good {w : World} {s : List UInt8} {ls : List (List Wo.Wd)} {R : Rx} (hs : s.length ≤ 1048576) (hr : Wo.read s = ls) (he : Wo.err s = 0) (hl : ls.flatten.length ≤ 1000000) (hll : ls.length ≤ 1000000) (HQQ : ∀ (W : World) (v : Value), WdAt W v (ls.flatten.map (·.1)) → Calls Tryz.prog 37 #[v] W fun e w' => ∃ u n c, e = .returned (.tuple #[.agg #[.int .i64 R.op, .string (tx R.name), .slice u n c], .int .i64 0, .int .i64 0]) ∧ Hid (RxO w' W.heap.size (.slice u n c) R.kids) ∧ Below W.heap.size W w') :
    Calls Tryz.prog 15 #[.string (tx s)] w fun e w' => ∃ u n c, e = .returned (.tuple #[.agg #[.int .i64 R.op, .string (tx R.name), .slice u n c], .int .i64 0, .int .i64 0, .int .i64 0]) ∧ Hid (RxO w' w.heap.size (.slice u n c) R.kids) ∧ Below w.heap.size w w' := by
  obtain ⟨i0, hi, hz0, hz1, hz2⟩ := info_parts Tryz.infoWordX
  have HI := hid hi
  have HZ0 := hid hz0
  have HZ1 := hid hz1
  have HZ2 := hid hz2
  clear hi hz0 hz1 hz2
  have HLI := hid (fun (W : World) => (by
    have := Lines_any s W hs
    rw [hr, he] at this
    exact this : Calls Tryz.prog 36 #[.string (tx s)] W fun e w' => ∃ v, e = .returned (.tuple #[v, .int .i64 (Wo.faultL s), .int .i64 (Wo.faultC s), .int .i64 ((0 : Nat) : Int)]) ∧ Hid (LinesAt w' W.heap.size v ls) ∧ Below W.heap.size W w'))
  have HRD := hid HQQ
  obtain ⟨fl, hfl⟩ : ∃ fl, fl = Wo.faultL s := ⟨_, rfl⟩
  obtain ⟨fc, hfc⟩ : ∃ fc, fc = Wo.faultC s := ⟨_, rfl⟩
  rw [← hfl, ← hfc] at HLI
  have HL := hid hl
  clear hs hr he HQQ hfl hfc hl
  go_enter Tryz.func15, Tryz.ntmps15
  go_wp2_with fail
  refine (HLI.out _).mono ?_
  rintro en w1 ⟨v, rfl, HLA, hb1⟩
  obtain ⟨ao, cap, rfl⟩ := HLA.out.form
  obtain ⟨m, hm⟩ : ∃ m, m = ls.length := ⟨_, rfl⟩
  have HM := hid hm
  rw [← hm] at HLA hll ⊢
  clear hm
  have hs1 : w.heap.size + 1 ≤ w1.heap.size := by have := hb1.size; simpa using this
  have hbx1 : w1.heap[w.heap.size]? = some (.cells #[.int .i64 0, .string ⟨#[]⟩, .slice none 0 0] 25 (0, 0)) := (hb1.block w.heap.size (by simp)).trans (new_0 _ _)
  have HBX := hid hbx1
  have B1 := hid (show Below w.heap.size w w1 from ((Below.refl _ _).alloc (Nat.le_refl _) _).trans (hb1.mono (by simp)))
  clear hb1 hbx1
  go_wp2_with fail
  go_loopw [10, 30] (fun u i wr => ∃ j : Nat, j ≤ m ∧ i = .int .i64 j ∧ Hid (wr.ownsRow w1.heap.size 109 3 u (ls.take j).flatten.length (flatW (ls.take j).flatten)) ∧ Hid (Below w1.heap.size w1 wr)) (fun _ i _ => m - (intOf i).toNat)
  case atStart => exact ⟨0, Nat.zero_le _, rfl, World.ownsRow_nil _ _ _ _, Below.refl _ _⟩
  case round =>
    obtain ⟨j, hj, rfl, HO, HB⟩ := hrel
    have hql : (ls.take j).flatten.length ≤ 1000000 := by
      have h1 := HL.out
      have h2 : ls.flatten.length = (ls.take j).flatten.length + (ls.drop j).flatten.length := by
        rw [← List.length_append, ← List.flatten_append, List.take_append_drop]
      omega
    obtain ⟨q, hq⟩ : ∃ q, q = (ls.take j).flatten := ⟨_, rfl⟩
    have HQ := hid hq
    rw [← hq] at HO hql
    obtain ⟨k, hk⟩ : ∃ k, k = q.length := ⟨_, rfl⟩
    have HK := hid hk
    rw [← hk] at HO hql
    obtain ⟨bo, vc, rfl⟩ := own_form HO.out
    clear hq hk
    by_cases hlt : j < m
    · obtain ⟨x, hx⟩ : ∃ x, ls[j]? = some x := ⟨ls[j]'(by rw [← HM.out]; exact hlt), List.getElem?_eq_getElem _⟩
      obtain ⟨vs, ho, hvl, hvi⟩ := HLA.out
      obtain ⟨v, hv, hown⟩ := hvi j x hx
      obtain ⟨g, cp, e, _, hg, hcell⟩ := ownX_form ho (by rw [← HM.out]; omega)
      injection e with e e1 e2
      subst e e2
      clear e1
      have k0 := (HB.out.cell (p := ⟨g, j, none⟩) (by exact hg)).trans (hcell j v hv)
      have hownr := own_keepW hown HB.out
      have HSRC := hid (own_srcW hownr)
      have hxl : x.length ≤ 1000000 := by
        have h1 := HL.out
        have h2 := flatten_memX (List.mem_of_getElem? hx)
        omega
      have HTK := hid (show (ls.take (j + 1)).flatten = q ++ x by rw [List.take_add_one, hx, List.flatten_append, HQ.out]; simp)
      obtain ⟨vo, vcc, rfl⟩ := own_form hown
      obtain ⟨xn, hxn⟩ : ∃ xn, xn = x.length := ⟨_, rfl⟩
      have HXN := hid hxn
      rw [← hxn] at k0 HSRC hxl
      have HONE := hid (flatW_oneX x)
      have hkI : (j : Int) < (m : Int) := by omega
      have hk0 : (0 : Int) ≤ (j : Int) := by omega
      have hszr := HB.out.size
      clear hx ho hvl hvi hv hown hcell hownr hxn
      go_wp2_with (first | (at_builtin; refine wpList_append_srcX _ rfl _ _ 70 rfl w1.heap.size 109 i0 (.agg #[.string (tx []), .int .i64 0, .int .i64 0]) 3 32 Tryz.underlying70 HI.out HZ0.out HZ1.out HZ2.out rfl (by decide) (.slice bo k vc) k (flatW q) rfl HO.out (.slice vo xn vcc) xn (flatW x) rfl HSRC.out HONE.out ?c3 ?c4 ?c5 ?_))
      case c3 => unfold maxLen; omega
      case c4 => omega
      case c5 => exact hszr
      intro v3 w3 hown3 hgrow3 _
      obtain ⟨a3, c3, rfl⟩ := own_form hown3
      have B3 := hid (show Below w1.heap.size w1 w3 from HB.out.grown hgrow3 hszr (fun q hq => (HO.out.lt q hq).1))
      have O3 := hid (show w3.ownsRow w1.heap.size 109 3 (.slice a3 (k + xn) c3) (ls.take (j + 1)).flatten.length (flatW (ls.take (j + 1)).flatten) from by
        rw [HTK.out, flatW_app, List.length_append, ← HK.out, ← HXN.out]
        exact hown3)
      clear hown3 hgrow3
      go_wp2
      go_roundw
      case rel => exact ⟨j + 1, by omega, by go_num, O3, B3⟩
      case measure => simp [intOf]; omega
    · have hkI : ¬ ((j : Int) < (m : Int)) := by omega
      have HE := hid (show q = ls.flatten by rw [HQ.out, List.take_of_length_le (by have := HM.out; omega)])
      have HWD := hid (show WdAt wr (.slice bo k vc) (ls.flatten.map (·.1)) from by
        rw [← HE.out]
        exact own_wdat (by rw [← HK.out]; exact HO.out))
      have HR1 := hid (HRD.out _ _ HWD.out)
      have hszr := HB.out.size
      have hbxr : wr.heap[w.heap.size]? = some (.cells #[.int .i64 0, .string ⟨#[]⟩, .slice none 0 0] 25 (0, 0)) := (HB.out.block _ (by omega)).trans HBX.out
      have HBR := hid hbxr
      clear hbxr hlt
      go_wp2_with fail
      refine HR1.out.mono ?_
      rintro en w4 ⟨u, n, c, rfl, X4, hb4⟩
      have hs4 := hb4.size
      have B4 := hid (show Below w.heap.size w w4 from below_2x (below_2x B1.out HB.out) hb4)
      have hbx : w4.heap[w.heap.size]? = some (.cells #[.int .i64 0, .string ⟨#[]⟩, .slice none 0 0] 25 (0, 0)) := (hb4.block _ (by omega)).trans HBR.out
      have HBX4 := hid hbx
      have x0 : ∀ o, (w4.alloc o).cell? ⟨w.heap.size, 0, none⟩ = some (.int .i64 0) := fun o => by rw [cell_at (new_old _ o hbx)]; rfl
      have x1 : ∀ o, (w4.alloc o).cell? ⟨w.heap.size, 1, none⟩ = some (.string ⟨#[]⟩) := fun o => by rw [cell_at (new_old _ o hbx)]; rfl
      have x2 : ∀ o, (w4.alloc o).cell? ⟨w.heap.size, 2, none⟩ = some (.slice none 0 0) := fun o => by rw [cell_at (new_old _ o hbx)]; rfl
      have y0 : ∀ o, (w4.alloc o).frozen? ⟨w.heap.size, 0, none⟩ = false := fun o => free_of (new_old _ o hbx)
      have y1 : ∀ o, (w4.alloc o).frozen? ⟨w.heap.size, 1, none⟩ = false := fun o => free_of (new_old _ o hbx)
      have y2 : ∀ o, (w4.alloc o).frozen? ⟨w.heap.size, 2, none⟩ = false := fun o => free_of (new_old _ o hbx)
      clear hb4 hbx
      go_wp2
      refine bodyPost_ret (v := .tuple #[.agg #[.int .i64 R.op, .string (tx R.name), .slice u n c], .int .i64 0, .int .i64 0, .int .i64 0]) (by simp [results, Tryz.results15, go_sem, x0, x1, x2]) rfl ⟨u, n, c, rfl, ?_, ?_⟩
      · refine hid (((X4.out.mono (show w.heap.size + 1 ≤ wr.heap.size by omega)).on (by simp) fun k hk hl => ?_).mono (by omega))
        rw [set3_heap (by omega)]
        exact Below.heap_alloc _ _ _ hl
      · exact (((B4.out.alloc (by omega) _).setCell (Nat.le_refl _) _).setCell (Nat.le_refl _) _).setCell (Nat.le_refl _) _

set_option maxRecDepth 20000 in
set_option maxHeartbeats 2000000 in
theorem prs_err {w : World} {s : List UInt8} {ls : List (List Wo.Wd)} {f c : Nat} (hs : s.length ≤ 1048576) (hr : Wo.read s = ls) (he : Wo.err s = 0) (hl : ls.flatten.length ≤ 1000000) (hll : ls.length ≤ 1000000) (hc : c ≠ 0) (HQQ : ∀ (W : World) (v : Value), WdAt W v (ls.flatten.map (·.1)) → Calls Tryz.prog 37 #[v] W fun e w' => e = .returned (.tuple #[.agg #[.int .i64 0, .string (tx []), .slice none 0 0], .int .i64 f, .int .i64 c]) ∧ Below W.heap.size W w') :
    Calls Tryz.prog 15 #[.string (tx s)] w fun e w' => ∃ x y : Int, e = .returned (.tuple #[.agg #[.int .i64 0, .string (tx []), .slice none 0 0], .int .i64 x, .int .i64 y, .int .i64 c]) ∧ Below w.heap.size w w' := by
  obtain ⟨i0, hi, hz0, hz1, hz2⟩ := info_parts Tryz.infoWordX
  have HI := hid hi
  have HZ0 := hid hz0
  have HZ1 := hid hz1
  have HZ2 := hid hz2
  clear hi hz0 hz1 hz2
  have HLI := hid (fun (W : World) => (by
    have := Lines_any s W hs
    rw [hr, he] at this
    exact this : Calls Tryz.prog 36 #[.string (tx s)] W fun e w' => ∃ v, e = .returned (.tuple #[v, .int .i64 (Wo.faultL s), .int .i64 (Wo.faultC s), .int .i64 ((0 : Nat) : Int)]) ∧ Hid (LinesAt w' W.heap.size v ls) ∧ Below W.heap.size W w'))
  have HRD := hid HQQ
  obtain ⟨fl, hfl⟩ : ∃ fl, fl = Wo.faultL s := ⟨_, rfl⟩
  obtain ⟨fc, hfc⟩ : ∃ fc, fc = Wo.faultC s := ⟨_, rfl⟩
  rw [← hfl, ← hfc] at HLI
  have HL := hid hl
  clear hs hr he HQQ hfl hfc hl
  go_enter Tryz.func15, Tryz.ntmps15
  go_wp2_with fail
  refine (HLI.out _).mono ?_
  rintro en w1 ⟨v, rfl, HLA, hb1⟩
  obtain ⟨ao, cap, rfl⟩ := HLA.out.form
  obtain ⟨m, hm⟩ : ∃ m, m = ls.length := ⟨_, rfl⟩
  have HM := hid hm
  rw [← hm] at HLA hll ⊢
  clear hm
  have hs1 : w.heap.size + 1 ≤ w1.heap.size := by have := hb1.size; simpa using this
  have hbx1 : w1.heap[w.heap.size]? = some (.cells #[.int .i64 0, .string ⟨#[]⟩, .slice none 0 0] 25 (0, 0)) := (hb1.block w.heap.size (by simp)).trans (new_0 _ _)
  have HBX := hid hbx1
  have B1 := hid (show Below w.heap.size w w1 from ((Below.refl _ _).alloc (Nat.le_refl _) _).trans (hb1.mono (by simp)))
  clear hb1 hbx1
  go_wp2_with fail
  go_loopw [10, 30] (fun u i wr => ∃ j : Nat, j ≤ m ∧ i = .int .i64 j ∧ Hid (wr.ownsRow w1.heap.size 109 3 u (ls.take j).flatten.length (flatW (ls.take j).flatten)) ∧ Hid (Below w1.heap.size w1 wr)) (fun _ i _ => m - (intOf i).toNat)
  case atStart => exact ⟨0, Nat.zero_le _, rfl, World.ownsRow_nil _ _ _ _, Below.refl _ _⟩
  case round =>
    obtain ⟨j, hj, rfl, HO, HB⟩ := hrel
    have hql : (ls.take j).flatten.length ≤ 1000000 := by
      have h1 := HL.out
      have h2 : ls.flatten.length = (ls.take j).flatten.length + (ls.drop j).flatten.length := by
        rw [← List.length_append, ← List.flatten_append, List.take_append_drop]
      omega
    obtain ⟨q, hq⟩ : ∃ q, q = (ls.take j).flatten := ⟨_, rfl⟩
    have HQ := hid hq
    rw [← hq] at HO hql
    obtain ⟨k, hk⟩ : ∃ k, k = q.length := ⟨_, rfl⟩
    have HK := hid hk
    rw [← hk] at HO hql
    obtain ⟨bo, vc, rfl⟩ := own_form HO.out
    clear hq hk
    by_cases hlt : j < m
    · obtain ⟨x, hx⟩ : ∃ x, ls[j]? = some x := ⟨ls[j]'(by rw [← HM.out]; exact hlt), List.getElem?_eq_getElem _⟩
      obtain ⟨vs, ho, hvl, hvi⟩ := HLA.out
      obtain ⟨v, hv, hown⟩ := hvi j x hx
      obtain ⟨g, cp, e, _, hg, hcell⟩ := ownX_form ho (by rw [← HM.out]; omega)
      injection e with e e1 e2
      subst e e2
      clear e1
      have k0 := (HB.out.cell (p := ⟨g, j, none⟩) (by exact hg)).trans (hcell j v hv)
      have hownr := own_keepW hown HB.out
      have HSRC := hid (own_srcW hownr)
      have hxl : x.length ≤ 1000000 := by
        have h1 := HL.out
        have h2 := flatten_memX (List.mem_of_getElem? hx)
        omega
      have HTK := hid (show (ls.take (j + 1)).flatten = q ++ x by rw [List.take_add_one, hx, List.flatten_append, HQ.out]; simp)
      obtain ⟨vo, vcc, rfl⟩ := own_form hown
      obtain ⟨xn, hxn⟩ : ∃ xn, xn = x.length := ⟨_, rfl⟩
      have HXN := hid hxn
      rw [← hxn] at k0 HSRC hxl
      have HONE := hid (flatW_oneX x)
      have hkI : (j : Int) < (m : Int) := by omega
      have hk0 : (0 : Int) ≤ (j : Int) := by omega
      have hszr := HB.out.size
      clear hx ho hvl hvi hv hown hcell hownr hxn
      go_wp2_with (first | (at_builtin; refine wpList_append_srcX _ rfl _ _ 70 rfl w1.heap.size 109 i0 (.agg #[.string (tx []), .int .i64 0, .int .i64 0]) 3 32 Tryz.underlying70 HI.out HZ0.out HZ1.out HZ2.out rfl (by decide) (.slice bo k vc) k (flatW q) rfl HO.out (.slice vo xn vcc) xn (flatW x) rfl HSRC.out HONE.out ?c3 ?c4 ?c5 ?_))
      case c3 => unfold maxLen; omega
      case c4 => omega
      case c5 => exact hszr
      intro v3 w3 hown3 hgrow3 _
      obtain ⟨a3, c3, rfl⟩ := own_form hown3
      have B3 := hid (show Below w1.heap.size w1 w3 from HB.out.grown hgrow3 hszr (fun q hq => (HO.out.lt q hq).1))
      have O3 := hid (show w3.ownsRow w1.heap.size 109 3 (.slice a3 (k + xn) c3) (ls.take (j + 1)).flatten.length (flatW (ls.take (j + 1)).flatten) from by
        rw [HTK.out, flatW_app, List.length_append, ← HK.out, ← HXN.out]
        exact hown3)
      clear hown3 hgrow3
      go_wp2
      go_roundw
      case rel => exact ⟨j + 1, by omega, by go_num, O3, B3⟩
      case measure => simp [intOf]; omega
    · have hkI : ¬ ((j : Int) < (m : Int)) := by omega
      have HE := hid (show q = ls.flatten by rw [HQ.out, List.take_of_length_le (by have := HM.out; omega)])
      have HWD := hid (show WdAt wr (.slice bo k vc) (ls.flatten.map (·.1)) from by
        rw [← HE.out]
        exact own_wdat (by rw [← HK.out]; exact HO.out))
      have HR1 := hid (HRD.out _ _ HWD.out)
      have hszr := HB.out.size
      have hbxr : wr.heap[w.heap.size]? = some (.cells #[.int .i64 0, .string ⟨#[]⟩, .slice none 0 0] 25 (0, 0)) := (HB.out.block _ (by omega)).trans HBX.out
      have HBR := hid hbxr
      clear hbxr hlt
      go_wp2_with fail
      refine HR1.out.mono ?_
      rintro en w4 ⟨rfl, hb4⟩
      have hs4 := hb4.size
      have B4 := hid (show Below w.heap.size w w4 from below_2x (below_2x B1.out HB.out) hb4)
      have hbx : w4.heap[w.heap.size]? = some (.cells #[.int .i64 0, .string ⟨#[]⟩, .slice none 0 0] 25 (0, 0)) := (hb4.block _ (by omega)).trans HBR.out
      have HPL := hid (fun (o : Obj) => placeOf_any (f := f) (B := w1.heap.size) (ws := q) (v := .slice bo k vc) (w := w4.alloc o) (by rw [← HK.out]; exact (own_keepW HO.out hb4).alloc o) (by rw [← HK.out]; omega))
      have HBX4 := hid hbx
      have x0 : ∀ o, (w4.alloc o).cell? ⟨w.heap.size, 0, none⟩ = some (.int .i64 0) := fun o => by rw [cell_at (new_old _ o hbx)]; rfl
      have x1 : ∀ o, (w4.alloc o).cell? ⟨w.heap.size, 1, none⟩ = some (.string ⟨#[]⟩) := fun o => by rw [cell_at (new_old _ o hbx)]; rfl
      have x2 : ∀ o, (w4.alloc o).cell? ⟨w.heap.size, 2, none⟩ = some (.slice none 0 0) := fun o => by rw [cell_at (new_old _ o hbx)]; rfl
      have y0 : ∀ o, (w4.alloc o).frozen? ⟨w.heap.size, 0, none⟩ = false := fun o => free_of (new_old _ o hbx)
      have y1 : ∀ o, (w4.alloc o).frozen? ⟨w.heap.size, 1, none⟩ = false := fun o => free_of (new_old _ o hbx)
      have y2 : ∀ o, (w4.alloc o).frozen? ⟨w.heap.size, 2, none⟩ = false := fun o => free_of (new_old _ o hbx)
      clear hb4 hbx
      have hc0 : ((c : Int) == 0) = false := by rw [beq_eq_false_iff_ne]; omega
      have hfin : (c = 90) ∨ (c ≠ 90 ∧ f = 0) ∨ (c ≠ 90 ∧ f ≠ 0) := by omega
      rcases hfin with h90 | ⟨h90, rfl⟩ | ⟨h90, hf0⟩
      · have h9 : ((c : Int) == 90) = true := by rw [beq_iff_eq]; omega
        go_wp2_with fail
        refine (HPL.out _).mono ?_
        rintro en w5 ⟨x, y, rfl, hb5⟩
        have hbx5 : w5.heap[w.heap.size]? = some (.cells #[.int .i64 0, .string ⟨#[]⟩, .slice none 0 0] 25 (0, 0)) := (hb5.block _ (by simp only [World.size_alloc]; omega)).trans (new_old _ _ HBX4.out)
        have hrx5 : w5.heap[w4.heap.size]? = some (.cells #[.int .i64 0, .string (tx []), .slice none 0 0] 25 (0, 0)) := (hb5.block _ (by simp only [World.size_alloc]; omega)).trans (new_0 _ _)
        have B5 := hid (show Below w.heap.size w w5 from (B4.out.alloc (by omega) _).trans (hb5.mono (by simp only [World.size_alloc]; omega)))
        clear x0 x1 x2 y0 y1 y2 hb5 HPL
        have x0 : w5.cell? ⟨w.heap.size, 0, none⟩ = some (.int .i64 0) := by rw [cell_at hbx5]; rfl
        have x1 : w5.cell? ⟨w.heap.size, 1, none⟩ = some (.string ⟨#[]⟩) := by rw [cell_at hbx5]; rfl
        have x2 : w5.cell? ⟨w.heap.size, 2, none⟩ = some (.slice none 0 0) := by rw [cell_at hbx5]; rfl
        have y0 : w5.frozen? ⟨w.heap.size, 0, none⟩ = false := free_of hbx5
        have y1 : w5.frozen? ⟨w.heap.size, 1, none⟩ = false := free_of hbx5
        have y2 : w5.frozen? ⟨w.heap.size, 2, none⟩ = false := free_of hbx5
        have r0 : w5.cell? ⟨w4.heap.size, 0, none⟩ = some (.int .i64 0) := by rw [cell_at hrx5]; rfl
        have r1 : w5.cell? ⟨w4.heap.size, 1, none⟩ = some (.string (tx [])) := by rw [cell_at hrx5]; rfl
        have r2 : w5.cell? ⟨w4.heap.size, 2, none⟩ = some (.slice none 0 0) := by rw [cell_at hrx5]; rfl
        clear hbx5 hrx5
        go_wp2
        try (go_quiet (fail); go_wp2)
        refine bodyPost_ret (v := .tuple #[.agg #[.int .i64 0, .string (tx []), .slice none 0 0], .int .i64 x, .int .i64 y, .int .i64 c]) (by simp [results, Tryz.results15, go_sem, x0, x1, x2, (by omega : (90 : Int) = (c : Int))]) rfl ⟨x, y, rfl, ?_⟩
        exact ((B5.out.setCell (Nat.le_refl _) _).setCell (Nat.le_refl _) _).setCell (Nat.le_refl _) _
      · have h9 : ((c : Int) == 90) = false := by rw [beq_eq_false_iff_ne]; omega
        clear HPL
        go_wp2
        refine bodyPost_ret (v := .tuple #[.agg #[.int .i64 0, .string (tx []), .slice none 0 0], .int .i64 0, .int .i64 0, .int .i64 c]) (by simp [results, Tryz.results15, go_sem, x0, x1, x2]) rfl ⟨0, 0, rfl, ?_⟩
        exact (((B4.out.alloc (by omega) _).setCell (Nat.le_refl _) _).setCell (Nat.le_refl _) _).setCell (Nat.le_refl _) _
      · have h9 : ((c : Int) == 90) = false := by rw [beq_eq_false_iff_ne]; omega
        have hf1 : ((f : Int) == 0) = false := by rw [beq_eq_false_iff_ne]; omega
        go_wp2_with fail
        refine (HPL.out _).mono ?_
        rintro en w5 ⟨x, y, rfl, hb5⟩
        have hbx5 : w5.heap[w.heap.size]? = some (.cells #[.int .i64 0, .string ⟨#[]⟩, .slice none 0 0] 25 (0, 0)) := (hb5.block _ (by simp only [World.size_alloc]; omega)).trans (new_old _ _ HBX4.out)
        have hrx5 : w5.heap[w4.heap.size]? = some (.cells #[.int .i64 0, .string (tx []), .slice none 0 0] 25 (0, 0)) := (hb5.block _ (by simp only [World.size_alloc]; omega)).trans (new_0 _ _)
        have B5 := hid (show Below w.heap.size w w5 from (B4.out.alloc (by omega) _).trans (hb5.mono (by simp only [World.size_alloc]; omega)))
        clear x0 x1 x2 y0 y1 y2 hb5 HPL
        have x0 : w5.cell? ⟨w.heap.size, 0, none⟩ = some (.int .i64 0) := by rw [cell_at hbx5]; rfl
        have x1 : w5.cell? ⟨w.heap.size, 1, none⟩ = some (.string ⟨#[]⟩) := by rw [cell_at hbx5]; rfl
        have x2 : w5.cell? ⟨w.heap.size, 2, none⟩ = some (.slice none 0 0) := by rw [cell_at hbx5]; rfl
        have y0 : w5.frozen? ⟨w.heap.size, 0, none⟩ = false := free_of hbx5
        have y1 : w5.frozen? ⟨w.heap.size, 1, none⟩ = false := free_of hbx5
        have y2 : w5.frozen? ⟨w.heap.size, 2, none⟩ = false := free_of hbx5
        have r0 : w5.cell? ⟨w4.heap.size, 0, none⟩ = some (.int .i64 0) := by rw [cell_at hrx5]; rfl
        have r1 : w5.cell? ⟨w4.heap.size, 1, none⟩ = some (.string (tx [])) := by rw [cell_at hrx5]; rfl
        have r2 : w5.cell? ⟨w4.heap.size, 2, none⟩ = some (.slice none 0 0) := by rw [cell_at hrx5]; rfl
        clear hbx5 hrx5
        go_wp2
        try (go_quiet (fail); go_wp2)
        refine bodyPost_ret (v := .tuple #[.agg #[.int .i64 0, .string (tx []), .slice none 0 0], .int .i64 x, .int .i64 y, .int .i64 c]) (by simp [results, Tryz.results15, go_sem, x0, x1, x2]) rfl ⟨x, y, rfl, ?_⟩
        exact ((B5.out.setCell (Nat.le_refl _) _).setCell (Nat.le_refl _) _).setCell (Nat.le_refl _) _
/-- What Read of words comes to: an error's number, or an expression. -/
def outP : Out → Nat × Option Rx
  | .fault _ => (90, none)
  | .deep _ => (91, none)
  | .ok A P => if chkN (wholeR A P) = 0 then (0, some (wholeR A P)) else (chkN (wholeR A P), none)
/-- What Parse of a text comes to: an error's number, or an expression. -/
def prsO (s : List UInt8) : Nat × Option Rx :=
  if Wo.err s ≠ 0 then (Wo.err s, none) else
  outP (runM ((Wo.read s).flatten.map (·.1)) (((Wo.read s).flatten.map (·.1)).length + 1) 0 0 [([], [])])
/-- What the program's Parse tells. -/
def PaOut (w : World) (s : List UInt8) (e : Ending) (w' : World) : Prop :=
  (∃ r u n c, prsO s = (0, some r) ∧ chkN r = 0 ∧ r.Fit ∧ e = .returned (.tuple #[.agg #[.int .i64 r.op, .string (tx r.name), .slice u n c], .int .i64 0, .int .i64 0, .int .i64 0]) ∧ Hid (RxO w' w.heap.size (.slice u n c) r.kids)) ∨
  (∃ (c : Nat) (x y : Int), prsO s = (c, none) ∧ c ≠ 0 ∧ e = .returned (.tuple #[.agg #[.int .i64 0, .string (tx []), .slice none 0 0], .int .i64 x, .int .i64 y, .int .i64 c]))
theorem gParse_any {w : World} {s : List UInt8} (hs : s.length ≤ 1048576) (hl : (Wo.read s).flatten.length ≤ 99000) (hll : (Wo.read s).length ≤ 1000000) (htl : ∀ t ∈ (Wo.read s).flatten.map (·.1), t.length ≤ 1048576) (hF : ∀ A P, runM ((Wo.read s).flatten.map (·.1)) (((Wo.read s).flatten.map (·.1)).length + 1) 0 0 [([], [])] = .ok A P → (wholeR A P).Fit) :
    Calls Tryz.prog 15 #[.string (tx s)] w fun e w' => PaOut w s e w' ∧ Below w.heap.size w w' := by
  by_cases he : Wo.err s = 0
  · have HR : ∀ (W : World) (v : Value), WdAt W v ((Wo.read s).flatten.map (·.1)) → Calls Tryz.prog 37 #[v] W fun e w' => RdOut W (runM ((Wo.read s).flatten.map (·.1)) (((Wo.read s).flatten.map (·.1)).length + 1) 0 0 [([], [])]) e w' ∧ Below W.heap.size W w' := fun W v hW => gRead_any hW (by rw [List.length_map]; exact hl) htl hF
    obtain ⟨O, hO⟩ : ∃ O, O = runM ((Wo.read s).flatten.map (·.1)) (((Wo.read s).flatten.map (·.1)).length + 1) 0 0 [([], [])] := ⟨_, rfl⟩
    have hp : prsO s = outP O := by unfold prsO; rw [if_neg (fun h => h he), hO]
    rw [← hO] at HR hF
    cases O with
    | fault f =>
      refine (prs_err hs rfl he (by omega) hll (f := f) (c := 90) (by decide) HR).mono ?_
      rintro e w' ⟨x, y, h1, h2⟩
      exact ⟨Or.inr ⟨90, x, y, hp, by decide, h1⟩, h2⟩
    | deep b =>
      refine (prs_err hs rfl he (by omega) hll (f := b) (c := 91) (by decide) HR).mono ?_
      rintro e w' ⟨x, y, h1, h2⟩
      exact ⟨Or.inr ⟨91, x, y, hp, by decide, h1⟩, h2⟩
    | ok A P =>
      have hp : prsO s = if chkN (wholeR A P) = 0 then (0, some (wholeR A P)) else (chkN (wholeR A P), none) := hp
      by_cases hc : chkN (wholeR A P) = 0
      · rw [if_pos hc] at hp
        refine (prs_good hs rfl he (by omega) hll (R := wholeR A P) fun W v hW => (HR W v hW).mono ?_).mono ?_
        · rintro e w' ⟨h1 | h1, h2⟩
          · obtain ⟨_, u, n, c, h3, h4⟩ := h1
            exact ⟨u, n, c, h3, h4, h2⟩
          · exact absurd hc h1.1
        · rintro e w' ⟨u, n, c, h1, h2, h3⟩
          exact ⟨Or.inl ⟨wholeR A P, u, n, c, hp, hc, hF A P rfl, h1, h2⟩, h3⟩
      · rw [if_neg hc] at hp
        refine (prs_err hs rfl he (by omega) hll (f := 0) (c := chkN (wholeR A P)) hc fun W v hW => (HR W v hW).mono ?_).mono ?_
        · rintro e w' ⟨h1 | h1, h2⟩
          · exact absurd h1.1 hc
          · exact ⟨h1.2, h2⟩
        · rintro e w' ⟨x, y, h1, h2⟩
          exact ⟨Or.inr ⟨_, x, y, hp, hc, h1⟩, h2⟩
  · refine (prs_lines hs he).mono ?_
    rintro e w' ⟨x, y, h1, h2⟩
    exact ⟨Or.inr ⟨Wo.err s, x, y, by unfold prsO; rw [if_pos he], he, h1⟩, h2⟩
end Go.Proofs.YtagppgncanimaaaGreatDoor
namespace Go.Proofs.YtagppgncanimaaaGreatDoor
open Go.RowKit

def FitL (l : List Rx) : Prop := ∀ r ∈ l, r.Fit
def FitG (G : GpX) : Prop := ∀ g ∈ G, FitL g.1 ∧ FitL g.2
theorem FitL.app {a b : List Rx} (h : FitL a) (k : FitL b) : FitL (a ++ b) := fun r hr => (List.mem_append.1 hr).elim (h r) (k r)
theorem FitL.one {r : Rx} (h : r.Fit) : FitL [r] := fun x hx => by rw [List.mem_singleton.1 hx]; exact h
theorem FitL.nil : FitL [] := fun _ h => by cases h
theorem fit_mk {op : Int} {nm : List UInt8} {ks : List Rx} (h : nm.length ≤ 64) (hk : FitL ks) : (Rx.mk op nm ks).Fit :=
  (Rx.all_iff _ _).2 ⟨decide_eq_true (by show nm.length ≤ maxLen; unfold maxLen; omega), hk⟩
theorem FitL.flat {op : Int} {ks : List Rx} (h : FitL ks) : FitL (flatK op ks) := by
  intro r hr
  obtain ⟨x, hx, hrx⟩ := List.mem_flatMap.1 hr
  split at hrx
  · exact (h x hx).kid hrx
  · rw [List.mem_singleton.1 hrx]; exact h x hx
theorem fit_join {op : Int} {ks : List Rx} (h : FitL ks) : (joinR op ks).Fit := by
  have hf := h.flat (op := op)
  unfold joinR
  split
  · rename_i h1
    obtain ⟨x, e⟩ := List.length_eq_one_iff.1 h1
    rw [e] at hf ⊢
    exact hf x (by simp)
  · exact fit_mk (by simp) hf
theorem fit_whole {A P : List Rx} (h : FitL A) (k : FitL P) : (wholeR A P).Fit := fit_join (h.app (FitL.one (fit_join k)))
theorem FitG.app {a b : GpX} (h : FitG a) (k : FitG b) : FitG (a ++ b) := fun g hg => (List.mem_append.1 hg).elim (h g) (k g)
theorem FitG.one {A P : List Rx} (h : FitL A) (k : FitL P) : FitG [(A, P)] := fun g hg => by rw [List.mem_singleton.1 hg]; exact ⟨h, k⟩
theorem nameB_len {t : List UInt8} (h : Wo.nameB t = true) : t.length ≤ 64 := (of_decide_eq_true h).2.1
theorem fit_rep {op : Int} {P : List Rx} (h : FitL P) : FitL (repM op P) := by
  by_cases hP : P = []
  · subst hP; exact FitL.nil
  · obtain ⟨Pi, r, rfl⟩ := snoc_of hP
    rw [repM_snoc]
    exact FitL.app (fun x hx => h x (by simp [hx])) (FitL.one (fit_mk (by simp) (FitL.one (h r (by simp)))))
theorem stepL_fit {ts : List (List UInt8)} {a b a' b' : Nat} {Gi G' : GpX} {A P : List Rx} (hG : FitG Gi) (hA : FitL A) (hP : FitL P) (h : stepL ts a b Gi A P = .go a' b' G') : FitG G' := by
  unfold stepL at h
  split at h
  · injection h with _ _ e; subst e
    exact (hG.app (FitG.one hA hP)).app (FitG.one FitL.nil FitL.nil)
  split at h
  · split at h
    · cases h
    · rename_i hc
      injection h with _ _ e; subst e
      have hne : Gi ≠ [] := fun e => hc (by rw [e]; rfl)
      obtain ⟨Gj, ⟨A0, P0⟩, rfl⟩ := snoc_of hne
      rw [popM_snoc]
      have h0 := hG (A0, P0) (by simp)
      refine FitG.app (fun g hg => hG g (by simp [hg])) (FitG.one h0.1 (h0.2.app (FitL.one ?_)))
      split
      · exact fit_mk (by simp) FitL.nil
      · exact fit_whole hA hP
  split at h
  · split at h
    · cases h
    · injection h with _ _ e; subst e
      exact hG.app (FitG.one (hA.app (FitL.one (fit_join hP))) FitL.nil)
  split at h
  · split at h
    · cases h
    · injection h with _ _ e; subst e
      exact hG.app (FitG.one hA (fit_rep hP))
  split at h
  · split at h
    · cases h
    · injection h with _ _ e; subst e
      exact hG.app (FitG.one hA (fit_rep hP))
  split at h
  · split at h
    · cases h
    · injection h with _ _ e; subst e
      exact hG.app (FitG.one hA (fit_rep hP))
  split at h
  · injection h with _ _ e; subst e
    exact hG.app (FitG.one hA (hP.app (FitL.one (fit_mk (by simp) FitL.nil))))
  split at h
  · split at h
    · rename_i hN
      injection h with _ _ e; subst e
      exact hG.app (FitG.one hA (hP.app (FitL.one (fit_mk (nameB_len hN) FitL.nil))))
    · cases h
  split at h
  · rename_i hN
    injection h with _ _ e; subst e
    exact hG.app (FitG.one hA (hP.app (FitL.one (fit_mk (nameB_len hN) FitL.nil))))
  · cases h
theorem runM_fit {ts : List (List UInt8)} (k : Nat) : ∀ {a b : Nat} {G : GpX} {A P : List Rx}, FitG G → runM ts k a b G = .ok A P → (wholeR A P).Fit := by
  induction k with
  | zero => intro a b G A P _ h; cases h
  | succ k ih =>
    intro a b G A P hG h
    rw [runM] at h
    split at h
    · by_cases hne : G = []
      · subst hne
        simp [stepM] at h
      · obtain ⟨Gi, ⟨A0, P0⟩, rfl⟩ := snoc_of hne
        rw [stepM_snoc] at h
        split at h
        · rename_i a' b' G' hs
          have h0 := hG (A0, P0) (by simp)
          exact ih (stepL_fit (fun g hg => hG g (by simp [hg])) h0.1 h0.2 hs) h
        · cases h
    · unfold endM at h
      split at h
      · split at h
        · cases h
        · split at h
          · injection h with e1 e2
            subst e1 e2
            have h0 := hG _ (List.mem_singleton.2 rfl)
            exact fit_whole h0.1 h0.2
          · cases h
      · cases h
theorem runM_fit0 {ts : List (List UInt8)} (k : Nat) {A P : List Rx} (h : runM ts k 0 0 [([], [])] = .ok A P) : (wholeR A P).Fit := runM_fit k (FitG.one FitL.nil FitL.nil) h
end Go.Proofs.YtagppgncanimaaaGreatDoor
namespace Go.Proofs.YtagppgncanimaaaGreatDoor
open Go.RowKit

/-- A device of a path. -/
abbrev Dv := List UInt8 × List (List UInt8)
abbrev Lng := Whos → Prop
def fitD (d : Dv) : Int → List UInt8 → Bool := fitB d.1 d.2
/-- One path behind another. -/
def concL (A B : Lng) : Lng := fun ps => ∃ u v, ps = u ++ v ∧ A u ∧ B v
def seqL : List Lng → Lng
  | [] => fun ps => ps = []
  | A :: t => concL A (seqL t)
/-- Once or more. -/
inductive PlusL (A : Lng) : Lng where
  | one (ps : Whos) (h : A ps) : PlusL A ps
  | more (u v : Whos) (h : PlusL A u) (h2 : A v) : PlusL A (u ++ v)
def altL (ts : List Lng) : Lng := fun ps => ∃ A ∈ ts, A ps
/-- The paths of an expression. -/
def Rx.L : Rx → Lng
  | .mk o n ks => if o = 4 then seqL (ks.map Rx.L) else if o = 5 then altL (ks.map Rx.L) else if o = 6 then (fun ps => ps = [] ∨ PlusL (altL (ks.map Rx.L)) ps) else if o = 7 then PlusL (altL (ks.map Rx.L)) else if o = 8 then (fun ps => ps = [] ∨ altL (ks.map Rx.L) ps) else fun ps => ∃ d : Dv, ps = [d] ∧ fitD d o n = true
theorem Rx.L_eq (r : Rx) : r.L = if r.op = 4 then seqL (r.kids.map Rx.L) else if r.op = 5 then altL (r.kids.map Rx.L) else if r.op = 6 then (fun ps => ps = [] ∨ PlusL (altL (r.kids.map Rx.L)) ps) else if r.op = 7 then PlusL (altL (r.kids.map Rx.L)) else if r.op = 8 then (fun ps => ps = [] ∨ altL (r.kids.map Rx.L) ps) else fun ps => ∃ d : Dv, ps = [d] ∧ fitD d r.op r.name = true := by
  cases r
  rw [Rx.L]; rfl

/-- Devices, each with whether a path may begin with it. -/
abbrev Fl := List (Dv × Bool)
def runF (s : Sp) (xs : Fl) : Sp := xs.foldl (fun s x => s.take (fitD x.1) x.2) s
theorem runF_nil (s : Sp) : runF s [] = s := rfl
theorem runF_cons (s : Sp) (x : Dv × Bool) (xs : Fl) : runF s (x :: xs) = runF (s.take (fitD x.1) x.2) xs := rfl
theorem runF_app (s : Sp) (xs ys : Fl) : runF s (xs ++ ys) = runF (runF s xs) ys := by simp [runF, List.foldl_append]
theorem runF_op (s : Sp) (xs : Fl) : (runF s xs).op = s.op ∧ (runF s xs).name = s.name ∧ (runF s xs).em = s.em := by
  induction xs generalizing s with
  | nil => exact ⟨rfl, rfl, rfl⟩
  | cons x xs ih =>
    rw [runF_cons]
    obtain ⟨a, b, c⟩ := ih (s.take (fitD x.1) x.2)
    obtain ⟨a', b', c'⟩ := s.take_op (fitD x.1) x.2
    exact ⟨a.trans a', b.trans b', c.trans c'⟩
/-- A path of A ends with the last device. -/
def Ends (A : Lng) (xs : Fl) : Prop := ∃ (ys : Fl) (z : Dv × Bool) (zs : Fl), xs = ys ++ z :: zs ∧ z.2 = true ∧ A (z.1 :: zs.map Prod.fst)
theorem Ends.not_nil {A : Lng} (h : Ends A []) : False := by
  obtain ⟨ys, z, zs, h, _⟩ := h
  simp at h
theorem Ends.pre {A : Lng} {xs : Fl} (ys : Fl) (h : Ends A xs) : Ends A (ys ++ xs) := by
  obtain ⟨a, z, zs, rfl, h1, h2⟩ := h
  exact ⟨ys ++ a, z, zs, by simp, h1, h2⟩

/-- Flags of a kid behind another one. -/
def hF : Sp → Fl → Fl
  | _, [] => []
  | k, x :: xs => (x.1, k.en || x.2 && k.em) :: hF (k.take (fitD x.1) x.2) xs
theorem hF_app (k : Sp) (xs ys : Fl) : hF k (xs ++ ys) = hF k xs ++ hF (runF k xs) ys := by
  induction xs generalizing k with
  | nil => rfl
  | cons x xs ih => show _ :: hF _ (xs ++ ys) = _; rw [ih]; rfl
theorem hF_fst (k : Sp) (xs : Fl) : (hF k xs).map Prod.fst = xs.map Prod.fst := by
  induction xs generalizing k with
  | nil => rfl
  | cons x xs ih => show x.1 :: (hF _ xs).map Prod.fst = _; rw [ih]; rfl
theorem hF_len (k : Sp) (xs : Fl) : (hF k xs).length = xs.length := by
  have := congrArg List.length (hF_fst k xs)
  simpa using this
/-- Flags of the kid of a node that begins anew. -/
def gF : Sp → Fl → Fl
  | _, [] => []
  | s, x :: xs => (x.1, x.2 || s.en) :: gF (s.take (fitD x.1) x.2) xs
theorem gF_app (k : Sp) (xs ys : Fl) : gF k (xs ++ ys) = gF k xs ++ gF (runF k xs) ys := by
  induction xs generalizing k with
  | nil => rfl
  | cons x xs ih => show _ :: gF _ (xs ++ ys) = _; rw [ih]; rfl
theorem gF_fst (k : Sp) (xs : Fl) : (gF k xs).map Prod.fst = xs.map Prod.fst := by
  induction xs generalizing k with
  | nil => rfl
  | cons x xs ih => show x.1 :: (gF _ xs).map Prod.fst = _; rw [ih]; rfl
theorem gF_len (k : Sp) (xs : Fl) : (gF k xs).length = xs.length := by
  have := congrArg List.length (gF_fst k xs)
  simpa using this
theorem splitFl {xs : Fl} {n : Nat} (h : n < xs.length) : ∃ ys z zs, xs = ys ++ z :: zs ∧ ys.length = n := by
  refine ⟨xs.take n, xs[n], xs.drop (n + 1), ?_, by simp; omega⟩
  rw [← List.drop_eq_getElem_cons h, List.take_append_drop]
theorem ends_h {A : Lng} (k : Sp) (xs : Fl) : Ends A (hF k xs) ↔ ∃ ys z zs, xs = ys ++ z :: zs ∧ ((runF k ys).en || z.2 && k.em) = true ∧ A (z.1 :: zs.map Prod.fst) := by
  constructor
  · rintro ⟨Y, Z, ZS, h, hz, hA⟩
    have hl := hF_len k xs
    rw [h] at hl
    obtain ⟨ys, z, zs, rfl, hy⟩ := splitFl (xs := xs) (n := Y.length) (by rw [← hl]; simp)
    rw [hF_app] at h
    obtain ⟨h1, h2⟩ := List.append_inj h (by rw [hF_len, hy])
    injection h2 with h3 h4
    subst h3
    refine ⟨ys, z, zs, rfl, ?_, ?_⟩
    · have := hz
      simp only [(runF_op k ys).2.2] at this
      exact this
    · rw [← h4, hF_fst] at hA; exact hA
  · rintro ⟨ys, z, zs, rfl, h1, h2⟩
    refine ⟨hF k ys, (z.1, (runF k ys).en || z.2 && (runF k ys).em), hF _ zs, by rw [hF_app]; rfl, by rw [(runF_op k ys).2.2]; exact h1, by rw [hF_fst]; exact h2⟩
theorem ends_g {A : Lng} (k : Sp) (xs : Fl) : Ends A (gF k xs) ↔ ∃ ys z zs, xs = ys ++ z :: zs ∧ (z.2 || (runF k ys).en) = true ∧ A (z.1 :: zs.map Prod.fst) := by
  constructor
  · rintro ⟨Y, Z, ZS, h, hz, hA⟩
    have hl := gF_len k xs
    rw [h] at hl
    obtain ⟨ys, z, zs, rfl, hy⟩ := splitFl (xs := xs) (n := Y.length) (by rw [← hl]; simp)
    rw [gF_app] at h
    obtain ⟨h1, h2⟩ := List.append_inj h (by rw [gF_len, hy])
    injection h2 with h3 h4
    subst h3
    exact ⟨ys, z, zs, rfl, hz, by rw [← h4, gF_fst] at hA; exact hA⟩
  · rintro ⟨ys, z, zs, rfl, h1, h2⟩
    exact ⟨gF k ys, (z.1, z.2 || (runF k ys).en), gF _ zs, by rw [gF_app]; rfl, h1, by rw [gF_fst]; exact h2⟩
/-- The kids of a sequence. -/
def rowK : List Sp → Fl → List Sp
  | [], _ => []
  | k :: ks, xs => runF k xs :: rowK ks (hF k xs)
theorem rowK_nil (ks : List Sp) : rowK ks [] = ks := by
  induction ks with
  | nil => rfl
  | cons k t ih => show runF k [] :: rowK t [] = _; rw [ih]; rfl
theorem rowK_done (d : Dv) (xs : Fl) (ks : List Sp) : ∀ f, rowK (doneS (Sp.take (fitD d)) f ks) xs = rowK ks ((d, f) :: xs) := by
  induction ks generalizing xs with
  | nil => intro f; rfl
  | cons k t ih =>
    intro f
    show runF (k.take (fitD d) f) xs :: rowK (doneS (Sp.take (fitD d)) (k.en || f && k.em) t) (hF (k.take (fitD d) f) xs) = _
    rw [ih]
    rfl
theorem runF_seq (s : Sp) (h : s.op = 4) (xs : Fl) : (runF s xs).kids = rowK s.kids xs := by
  induction xs generalizing s with
  | nil => rw [rowK_nil]; rfl
  | cons x xs ih =>
    rw [runF_cons, ih _ ((s.take_op _ _).1.trans h), s.take_eq, if_pos h]
    exact rowK_done x.1 xs s.kids x.2
theorem runF_alt (s : Sp) (h : s.op = 5 ∨ s.op = 8) (xs : Fl) : (runF s xs).kids = s.kids.map fun k => runF k xs := by
  induction xs generalizing s with
  | nil => simp [runF]
  | cons x xs ih =>
    rw [runF_cons, ih _ (by rw [(s.take_op _ _).1]; exact h), s.take_eq, if_neg (by omega), if_pos (by omega), if_neg (by omega)]
    simp [Sp.kids, runF_cons]
theorem runF_plus (s : Sp) (h : s.op = 6 ∨ s.op = 7) (xs : Fl) : (runF s xs).kids = s.kids.map fun k => runF k (gF s xs) := by
  induction xs generalizing s with
  | nil => simp [runF, gF]
  | cons x xs ih =>
    rw [runF_cons, ih _ (by rw [(s.take_op _ _).1]; exact h), gF]
    have e : (s.take (fitD x.1) x.2).kids = s.kids.map fun k => k.take (fitD x.1) (x.2 || s.en) := by
      rw [s.take_eq, if_neg (by omega), if_pos (by omega), if_pos h]
      simp [Sp.kids]
    rw [e]
    simp [runF_cons]
/-- What a node's ends hangs on. -/
def Inv (s : Sp) : Prop := (s.op = 4 → s.en = endsR s.kids) ∧ (s.op = 5 ∨ s.op = 6 ∨ s.op = 7 ∨ s.op = 8 → s.en = s.kids.any Sp.en)
theorem Inv.take (s : Sp) (fit : Int → List UInt8 → Bool) (f : Bool) : Inv (s.take fit f) := by
  have ho := (s.take_op fit f).1
  refine ⟨fun h => ?_, fun h => ?_⟩
  · rw [ho] at h
    rw [s.take_eq, if_pos h]; rfl
  · rw [ho] at h
    rw [s.take_eq, if_neg (by omega), if_pos h]; rfl
theorem Inv.run {s : Sp} (h : Inv s) (xs : Fl) : Inv (runF s xs) := by
  induction xs generalizing s with
  | nil => exact h
  | cons x xs ih => rw [runF_cons]; exact ih (Inv.take s _ _)
theorem of_en (r : Rx) : (Sp.of r).en = false := by rw [Sp.of_eq]; rfl
theorem endsR_none (ks : List Rx) : endsR (ks.map Sp.of) = false := by
  unfold endsR
  induction ks with
  | nil => rfl
  | cons k t ih => rw [List.map_cons, List.foldl_cons, of_en]; exact ih
theorem Inv.of (r : Rx) : Inv (Sp.of r) := by
  refine ⟨fun _ => ?_, fun _ => ?_⟩
  · rw [of_en, Sp.of_eq]; exact (endsR_none r.kids).symm
  · rw [of_en, Sp.of_eq]
    show false = (r.kids.map Sp.of).any Sp.en
    symm
    rw [List.any_eq_false]
    intro k hk
    obtain ⟨x, _, rfl⟩ := List.mem_map.1 hk
    rw [of_en]; decide
end Go.Proofs.YtagppgncanimaaaGreatDoor
namespace Go.Proofs.YtagppgncanimaaaGreatDoor
open Go.RowKit

theorem seqL_nil (As : List Lng) : seqL As [] ↔ ∀ A ∈ As, A [] := by
  induction As with
  | nil => simp [seqL]
  | cons A t ih =>
    constructor
    · rintro ⟨u, v, h, h1, h2⟩
      obtain ⟨rfl, rfl⟩ := List.append_eq_nil_iff.1 h.symm
      intro B hB
      rcases List.mem_cons.1 hB with rfl | hB
      · exact h1
      · exact ih.1 h2 B hB
    · intro h
      exact ⟨[], [], rfl, h A (by simp), ih.2 fun B hB => h B (by simp [hB])⟩
theorem plusL_nil (A : Lng) : PlusL A [] ↔ A [] := by
  constructor
  · intro h
    generalize e : ([] : Whos) = p at h
    cases h with
    | one _ h => exact h
    | more u v _ h2 =>
      obtain ⟨rfl, rfl⟩ := List.append_eq_nil_iff.1 e.symm
      exact h2
  · exact .one _
theorem leaf_kids {r : Rx} (h : nodeB r = true) (h4 : r.op ≠ 4) (h5 : ¬(r.op = 5 ∨ r.op = 6 ∨ r.op = 7 ∨ r.op = 8)) : r.kids = [] := by
  unfold nodeB at h
  split at h
  · simp at h; exact h.2
  · split at h
    · simp at h; exact h.2
    · simp [show r.op ≠ 5 by omega, show r.op ≠ 6 by omega, show r.op ≠ 7 by omega, show r.op ≠ 8 by omega] at h
theorem em_iff (r : Rx) : Rx.all nodeB r = true → ((Sp.of r).em = true ↔ r.L []) := by
  induction r using Rx.ind with
  | h r ih =>
    intro ha
    obtain ⟨h1, h2⟩ := (Rx.all_iff _ _).1 ha
    have hany : ((r.kids.map Sp.of).any Sp.em = true) ↔ altL (r.kids.map Rx.L) [] := by
      rw [List.any_eq_true]
      constructor
      · rintro ⟨s, hs, he⟩
        obtain ⟨k, hk, rfl⟩ := List.mem_map.1 hs
        exact ⟨_, List.mem_map_of_mem hk, (ih k hk (h2 k hk)).1 he⟩
      · rintro ⟨A, hA, he⟩
        obtain ⟨k, hk, rfl⟩ := List.mem_map.1 hA
        exact ⟨_, List.mem_map_of_mem hk, (ih k hk (h2 k hk)).2 he⟩
    rw [Sp.of_eq, Rx.L_eq]
    show noneS r.op (r.kids.map Sp.of) = true ↔ _
    unfold noneS
    by_cases h4 : r.op = 4
    · rw [if_neg (by omega), if_pos h4, if_pos h4, seqL_nil, List.all_eq_true]
      constructor
      · intro h A hA
        obtain ⟨k, hk, rfl⟩ := List.mem_map.1 hA
        exact (ih k hk (h2 k hk)).1 (h _ (List.mem_map_of_mem hk))
      · intro h s hs
        obtain ⟨k, hk, rfl⟩ := List.mem_map.1 hs
        exact (ih k hk (h2 k hk)).2 (h _ (List.mem_map_of_mem hk))
    · rw [if_neg h4, if_neg h4]
      by_cases h5 : r.op = 5
      · rw [if_neg (by omega), if_pos h5]; exact hany
      · rw [if_neg h5]
        by_cases h6 : r.op = 6
        · rw [if_pos (by omega), if_pos h6]; simp
        · rw [if_neg h6]
          by_cases h7 : r.op = 7
          · rw [if_neg (by omega), if_pos h7, plusL_nil]; exact hany
          · rw [if_neg h7]
            by_cases h8 : r.op = 8
            · rw [if_pos (by omega), if_pos h8]; simp
            · rw [if_neg (by omega), if_neg h8, leaf_kids h1 h4 (by omega)]
              simp
theorem Ends.congr {A B : Lng} (h : ∀ d ps, A (d :: ps) ↔ B (d :: ps)) (xs : Fl) : Ends A xs ↔ Ends B xs := by
  constructor
  · rintro ⟨ys, z, zs, e, h1, h2⟩
    exact ⟨ys, z, zs, e, h1, (h _ _).1 h2⟩
  · rintro ⟨ys, z, zs, e, h1, h2⟩
    exact ⟨ys, z, zs, e, h1, (h _ _).2 h2⟩
theorem ends_alt (As : List Lng) (xs : Fl) : Ends (altL As) xs ↔ ∃ A ∈ As, Ends A xs := by
  constructor
  · rintro ⟨ys, z, zs, e, h1, A, hA, h2⟩
    exact ⟨A, hA, ys, z, zs, e, h1, h2⟩
  · rintro ⟨A, hA, ys, z, zs, e, h1, h2⟩
    exact ⟨ys, z, zs, e, h1, A, hA, h2⟩
theorem ends_conc (A B : Lng) (xs : Fl) : Ends (concL A B) xs ↔ (Ends A xs ∧ B []) ∨ ∃ ys z zs, xs = ys ++ z :: zs ∧ (Ends A ys ∨ z.2 = true ∧ A []) ∧ B (z.1 :: zs.map Prod.fst) := by
  constructor
  · rintro ⟨ys, z, zs, rfl, hz, u, v, e, hA, hB⟩
    cases u with
    | nil =>
      refine .inr ⟨ys, z, zs, rfl, .inr ⟨hz, hA⟩, ?_⟩
      rw [e]; exact hB
    | cons d u =>
      rw [List.cons_append] at e
      injection e with e1 e2
      obtain ⟨z1, z2, rfl, rfl, rfl⟩ := List.map_eq_append_iff.1 e2
      subst e1
      cases z2 with
      | nil => exact .inl ⟨⟨ys, z, z1, by simp, hz, hA⟩, hB⟩
      | cons a z2 => exact .inr ⟨ys ++ z :: z1, a, z2, by simp, .inl ⟨ys, z, z1, rfl, hz, hA⟩, hB⟩
  · rintro (⟨⟨ys, z, zs, rfl, hz, hA⟩, hB⟩ | ⟨ys, z, zs, rfl, ⟨a, y, b, rfl, hy, hA⟩ | ⟨hz, hA⟩, hB⟩)
    · exact ⟨ys, z, zs, rfl, hz, _, [], by simp, hA, hB⟩
    · exact ⟨a, y, b ++ z :: zs, by simp, hy, _, _, by simp, hA, hB⟩
    · exact ⟨ys, z, zs, rfl, hz, [], _, rfl, hA, hB⟩
theorem ends_plus_of {A : Lng} {p : Whos} (h : PlusL A p) : ∀ (ys : Fl) (z : Dv × Bool) (zs : Fl), p = z.1 :: zs.map Prod.fst → z.2 = true → ∃ a b c, ys ++ z :: zs = a ++ b :: c ∧ (b.2 = true ∨ Ends (PlusL A) a) ∧ A (b.1 :: c.map Prod.fst) := by
  induction h with
  | one p h =>
    intro ys z zs e hz
    exact ⟨ys, z, zs, rfl, .inl hz, e ▸ h⟩
  | more u v hu hv ih =>
    intro ys z zs e hz
    cases u with
    | nil => exact ⟨ys, z, zs, rfl, .inl hz, e ▸ hv⟩
    | cons d u =>
      rw [List.cons_append] at e
      injection e with e1 e2
      obtain ⟨z1, z2, rfl, rfl, rfl⟩ := List.map_eq_append_iff.1 e2.symm
      subst e1
      cases z2 with
      | nil => rw [List.append_nil]; exact ih ys z z1 rfl hz
      | cons a z2 => exact ⟨ys ++ z :: z1, a, z2, by simp, .inr ⟨ys, z, z1, rfl, hz, hu⟩, hv⟩
theorem ends_plus (A : Lng) (xs : Fl) : Ends (PlusL A) xs ↔ ∃ ys z zs, xs = ys ++ z :: zs ∧ (z.2 = true ∨ Ends (PlusL A) ys) ∧ A (z.1 :: zs.map Prod.fst) := by
  constructor
  · rintro ⟨ys, z, zs, rfl, hz, h⟩
    exact ends_plus_of h ys z zs rfl hz
  · rintro ⟨ys, z, zs, rfl, hz | ⟨a, y, b, rfl, hy, hu⟩, h⟩
    · exact ⟨ys, z, zs, rfl, hz, .one _ h⟩
    · exact ⟨a, y, b ++ z :: zs, by simp, hy, by
        have := PlusL.more _ _ hu h
        simpa using this⟩
theorem ends_seq (rs : List Rx) (he : ∀ k ∈ rs, ((Sp.of k).em = true ↔ k.L []) ∧ ∀ xs, (runF (Sp.of k) xs).en = true ↔ Ends k.L xs) : ∀ (xs : Fl) (e : Bool), (rowK (rs.map Sp.of) xs).foldl (fun e k => k.en || e && k.em) e = true ↔ (e = true ∧ seqL (rs.map Rx.L) []) ∨ Ends (seqL (rs.map Rx.L)) xs := by
  induction rs with
  | nil =>
    intro xs e
    show e = true ↔ _
    constructor
    · exact fun h => .inl ⟨h, rfl⟩
    · rintro (h | ⟨ys, z, zs, _, _, h⟩)
      · exact h.1
      · cases h
  | cons k t ih =>
    intro xs e
    obtain ⟨k1, k2⟩ := he k (by simp)
    show (rowK (t.map Sp.of) (hF (Sp.of k) xs)).foldl (fun e k => k.en || e && k.em) ((runF (Sp.of k) xs).en || e && (runF (Sp.of k) xs).em) = true ↔ (e = true ∧ concL k.L (seqL (t.map Rx.L)) []) ∨ Ends (concL k.L (seqL (t.map Rx.L))) xs
    rw [ih (fun k hk => he k (by simp [hk])), ends_h, ends_conc, (runF_op (Sp.of k) xs).2.2]
    have hc : concL k.L (seqL (t.map Rx.L)) [] ↔ k.L [] ∧ seqL (t.map Rx.L) [] := by
      constructor
      · rintro ⟨u, v, h, h1, h2⟩
        obtain ⟨rfl, rfl⟩ := List.append_eq_nil_iff.1 h.symm
        exact ⟨h1, h2⟩
      · rintro ⟨h1, h2⟩
        exact ⟨[], [], rfl, h1, h2⟩
    rw [hc]
    simp only [Bool.or_eq_true, Bool.and_eq_true, k1, k2]
    constructor
    · rintro (⟨h1 | h1, h2⟩ | h)
      · exact .inr (.inl ⟨h1, h2⟩)
      · exact .inl ⟨h1.1, h1.2, h2⟩
      · exact .inr (.inr h)
    · rintro (⟨h1, h2, h3⟩ | ⟨h1, h2⟩ | h)
      · exact .inl ⟨.inr ⟨h1, h2⟩, h3⟩
      · exact .inl ⟨.inl h1, h2⟩
      · exact .inr h
theorem snoc_cases (xs : Fl) : xs = [] ∨ ∃ ys x, xs = ys ++ [x] := by
  rcases List.eq_nil_or_concat xs with h | ⟨ys, x, h⟩
  · exact .inl h
  · exact .inr ⟨ys, x, by simpa using h⟩
theorem en_iff (r : Rx) : Rx.all nodeB r = true → ∀ xs, (runF (Sp.of r) xs).en = true ↔ Ends r.L xs := by
  induction r using Rx.ind with
  | h r ih =>
    intro ha
    obtain ⟨h1, h2⟩ := (Rx.all_iff _ _).1 ha
    have ho : (Sp.of r).op = r.op := by rw [Sp.of_eq]; rfl
    have hn : (Sp.of r).name = r.name := by rw [Sp.of_eq]; rfl
    have hk : (Sp.of r).kids = r.kids.map Sp.of := by rw [Sp.of_eq]; rfl
    have hi := fun xs => (Inv.of r).run xs
    have hop := fun xs => (runF_op (Sp.of r) xs).1.trans ho
    have hany : ∀ xs, ((r.kids.map Sp.of).map fun k => runF k xs).any Sp.en = true ↔ Ends (altL (r.kids.map Rx.L)) xs := by
      intro xs
      rw [List.any_eq_true, ends_alt]
      constructor
      · rintro ⟨s, hs, he⟩
        obtain ⟨s', hs', rfl⟩ := List.mem_map.1 hs
        obtain ⟨k, hk, rfl⟩ := List.mem_map.1 hs'
        exact ⟨_, List.mem_map_of_mem hk, (ih k hk (h2 k hk) xs).1 he⟩
      · rintro ⟨A, hA, he⟩
        obtain ⟨k, hk, rfl⟩ := List.mem_map.1 hA
        exact ⟨_, List.mem_map_of_mem (List.mem_map_of_mem hk), (ih k hk (h2 k hk) xs).2 he⟩
    by_cases h4 : r.op = 4
    · intro xs
      rw [(hi xs).1 ((hop xs).trans h4), runF_seq _ (ho.trans h4), hk, Rx.L_eq, if_pos h4]
      unfold endsR
      rw [ends_seq r.kids (fun k hk => ⟨em_iff k (h2 k hk), ih k hk (h2 k hk)⟩)]
      simp
    by_cases h58 : r.op = 5 ∨ r.op = 8
    · intro xs
      rw [(hi xs).2 (by rw [hop xs]; omega), runF_alt _ (by rw [ho]; exact h58), hk, hany xs, Rx.L_eq, if_neg h4]
      rcases h58 with h5 | h8
      · rw [if_pos h5]
      · rw [if_neg (by omega), if_neg (by omega), if_neg (by omega), if_pos h8]
        exact Ends.congr (fun d ps => by simp) xs
    by_cases h67 : r.op = 6 ∨ r.op = 7
    · have main : ∀ n (xs : Fl), xs.length ≤ n → ((runF (Sp.of r) xs).en = true ↔ Ends (PlusL (altL (r.kids.map Rx.L))) xs) := by
        intro n
        induction n with
        | zero =>
          intro xs hx
          obtain rfl : xs = [] := List.length_eq_zero_iff.1 (by omega)
          rw [runF_nil, of_en]
          exact ⟨fun h => absurd h (by decide), fun h => (Ends.not_nil h).elim⟩
        | succ n IH =>
          intro xs hx
          rw [(hi xs).2 (by rw [hop xs]; omega), runF_plus _ (by rw [ho]; exact h67), hk, hany, ends_g, ends_plus]
          constructor
          · rintro ⟨ys, z, zs, rfl, h, h'⟩
            rw [Bool.or_eq_true, IH ys (by simp at hx; omega)] at h
            exact ⟨ys, z, zs, rfl, h, h'⟩
          · rintro ⟨ys, z, zs, rfl, h, h'⟩
            rw [← IH ys (by simp at hx; omega), ← Bool.or_eq_true] at h
            exact ⟨ys, z, zs, rfl, h, h'⟩
      intro xs
      rw [main xs.length xs (Nat.le_refl _), Rx.L_eq, if_neg h4, if_neg (by omega)]
      rcases h67 with h6 | h7
      · rw [if_pos h6]
        exact Ends.congr (fun d ps => by simp) xs
      · rw [if_neg (by omega), if_pos h7]
    · intro xs
      rw [Rx.L_eq, if_neg h4, if_neg (by omega), if_neg (by omega), if_neg (by omega), if_neg (by omega)]
      rcases snoc_cases xs with rfl | ⟨ys, x, rfl⟩
      · rw [runF_nil, of_en]
        exact ⟨fun h => absurd h (by decide), fun h => (Ends.not_nil h).elim⟩
      · rw [runF_app, runF_cons, runF_nil, Sp.take_eq, hop ys, if_neg h4, if_neg (by omega), (runF_op (Sp.of r) ys).2.1, hn]
        show (x.2 && fitD x.1 r.op r.name) = true ↔ _
        rw [Bool.and_eq_true]
        constructor
        · rintro ⟨a, b⟩
          exact ⟨ys, x, [], rfl, a, x.1, rfl, b⟩
        · rintro ⟨a, z, zs, e, hz, d, e2, hd⟩
          injection e2 with e3 e4
          obtain rfl : zs = [] := List.map_eq_nil_iff.1 e4
          obtain ⟨_, e5⟩ := List.append_inj' e rfl
          injection e5 with e6 _
          subst e6 e3
          exact ⟨hz, hd⟩
/-- What Match tells is what the expression means. -/
theorem matchB_iff {r : Rx} (h : Rx.all nodeB r = true) (ps : Whos) : matchB r ps = true ↔ r.L ps := by
  unfold matchB
  cases ps with
  | nil => rw [if_pos rfl]; exact em_iff r h
  | cons a t =>
    rw [if_neg (by simp)]
    have e : runS (Sp.of r) (a :: t) = runF (Sp.of r) ((a, true) :: t.map fun d => (d, false)) := by
      rw [runF_cons]
      show t.foldl _ _ = _
      unfold runF
      rw [List.foldl_map]
      rfl
    rw [e, en_iff r h]
    constructor
    · rintro ⟨ys, z, zs, e, hz, hL⟩
      cases ys with
      | nil =>
        injection e with e1 e2
        subst e1 e2
        simpa [Function.comp_def] using hL
      | cons y ys =>
        rw [List.cons_append] at e
        injection e with e1 e2
        have hm : z ∈ t.map fun d => (d, false) := by rw [e2]; simp
        obtain ⟨d, _, rfl⟩ := List.mem_map.1 hm
        cases hz
    · intro hL
      exact ⟨[], (a, true), _, rfl, rfl, by simpa [Function.comp_def] using hL⟩
end Go.Proofs.YtagppgncanimaaaGreatDoor
