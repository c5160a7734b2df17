/-
  A rule that may be: actionMayBe, Check.
-/
import Derived.Test.YtemmhingmeinjaaGreatDoorUDocE
import Derived.Test.YtemmhingmeinjaaGreatDoorWRefLAnd
namespace Go.Proofs.YtemmhingmeinjaaGreatDoor
open Go.RowKit
open Wo (Wd)

def DRulePost (w : World) (rb g width : Nat) (l : List Wd) (en : Ending) (w' : World) : Prop :=
  w.grownBy w' (some rb) ∧ ∃ (p : Nat) (m : List UInt8) (k : Nat) (v : Value), en = .returned (.agg #[.int .i64 p, .string (tx m), .int .i64 k, v]) ∧ (∃ ao n cap, v = .slice ao n cap) ∧
    ((∃ ps j, Ru.rul width l = .ok ⟨p, m, k, ps⟩ ∧ RfAt w' rb g l j 0 0 0 ∧ PortsV w' 0 v ps) ∨
     (∃ f j, Ru.rul width l = .error f ∧ f.2.2 ≠ 0 ∧ RfAt w' rb g l j f.1 f.2.1 f.2.2))
theorem atW_0 (l : List Wd) : Ru.nx (Ru.endW l) l = atW l 0 := by simp [atW]
theorem tail_1 (l : List Wd) : l.tail = l.drop 1 := by simp
theorem uRNumber (l : List UInt8) (w : World) : Calls Tryz.prog 81 #[.string (tx l)] w fun e w' => e = .returned (.tuple #[.int .i64 (Wo.numV l), .int .i64 (Wo.numE l)]) ∧ w' = w := by
  have := RNumber_any (tx l) w
  rw [tx_list] at this
  exact this
theorem drul_50 {l : List Wd} {width : Nat} (h : (atW l 0).1 ≠ Ru.ruleT) : Ru.rul width l = .error (Ru.ft (atW l 0) 50) := by
  rw [← atW_0] at h ⊢; exact if_pos h
theorem drul_32 {l : List Wd} {width : Nat} (h1 : (atW l 0).1 = Ru.ruleT) (h2 : Wo.numB (atW l 1).1 = false) : Ru.rul width l = .error (Ru.ft (atW l 1) 32) := by
  have := rul_32 (width := width) (l := l) (by rw [atW_0]; exact h1) (by rw [tail_1]; exact h2)
  rw [tail_1] at this; exact this
theorem tail_2 (l : List Wd) : l.tail.tail = l.drop 2 := by rw [tail_1 l, tail_drop]
theorem tail_3 (l : List Wd) : l.tail.tail.tail = l.drop 3 := by rw [tail_2 l, tail_drop]
theorem drul_10 {l : List Wd} {width : Nat} (h1 : (atW l 0).1 = Ru.ruleT) (h2 : Wo.numB (atW l 1).1 = true) (h3 : Cub.Cu.right (atW l 2).1 = false) : Ru.rul width l = .error (Ru.ft (atW l 2) 10) := by
  have := rul_10 (width := width) (l := l) (by rw [atW_0]; exact h1) (by rw [tail_1]; exact h2) (by rw [tail_2]; exact h3)
  rw [tail_2] at this; exact this
theorem drul_11 {l : List Wd} {width : Nat} (h1 : (atW l 0).1 = Ru.ruleT) (h2 : Wo.numB (atW l 1).1 = true) (h3 : Cub.Cu.right (atW l 2).1 = true) (h4 : (atW l 2).1.length ≠ width) : Ru.rul width l = .error (Ru.ft (atW l 2) 11) := by
  have := rul_11 (width := width) (l := l) (by rw [atW_0]; exact h1) (by rw [tail_1]; exact h2) (by rw [tail_2]; exact h3) (by rw [tail_2]; exact h4)
  rw [tail_2] at this; exact this
theorem drul_err {l : List Wd} {width : Nat} {f : Ru.Ft} (h1 : (atW l 0).1 = Ru.ruleT) (h2 : Wo.numB (atW l 1).1 = true) (h3 : Cub.Cu.right (atW l 2).1 = true) (h4 : (atW l 2).1.length = width) (ha : Ru.act (Ru.endW l) (l.drop 3) = .error f) : Ru.rul width l = .error f := by
  have := rul_act (width := width) (l := l) (by rw [atW_0]; exact h1) (by rw [tail_1]; exact h2) (by rw [tail_2]; exact h3) (by rw [tail_2]; exact h4)
  rw [tail_3, ha] at this; exact this
theorem drul_ok {l : List Wd} {width k j : Nat} {ps : List (List UInt8)} (h1 : (atW l 0).1 = Ru.ruleT) (h2 : Wo.numB (atW l 1).1 = true) (h3 : Cub.Cu.right (atW l 2).1 = true) (h4 : (atW l 2).1.length = width) (ha : Ru.act (Ru.endW l) (l.drop 3) = .ok (k, ps, l.drop j)) :
    Ru.rul width l = if (atW l j).1 ≠ [] then .error (Ru.ft (atW l j) 50) else .ok ⟨Wo.numV (atW l 1).1, (atW l 2).1, k, ps⟩ := by
  have := rul_act (width := width) (l := l) (by rw [atW_0]; exact h1) (by rw [tail_1]; exact h2) (by rw [tail_2]; exact h3) (by rw [tail_2]; exact h4)
  rw [tail_3, ha] at this
  rw [tail_2, tail_1] at this
  exact this
theorem atW_ne {l : List Wd} {j : Nat} (hj : j ≤ l.length) (hne : ∀ x ∈ l, x.1 ≠ []) : (atW l j).1 ≠ [] ↔ j < l.length := by
  constructor
  · exact atW_lt hj
  · intro h
    rw [atW_in h]
    exact hne _ (List.getElem_mem _)

set_option maxRecDepth 4000 in
set_option maxHeartbeats 4000000 in
theorem drule {w : World} {rb g : Nat} {l : List Wd} (width : Nat) (h : RfAt w rb g l 0 0 0 0) (hne : ∀ x ∈ l, x.1 ≠ []) (_hwd : width ≤ 128) :
    Calls Tryz.prog 46 #[.pointer (some ⟨rb, 0, none⟩), .int .i64 width] w fun en w' => DRulePost w rb g width l en w' := by
  have hrb := h.lt
  have hgl := h.ok.at_.1
  have hlen := h.ok.len
  have HNE := hid hne
  have HR := hid (show DOn w rb g l 0 0 0 0 (w.alloc (rob 0 ⟨#[]⟩ 0 (.slice none 0 0))) from ⟨h.alloc _, grown_alloc _ _ _⟩)
  have HM := hid (HR.out.must Ru.ruleT (by decide) 50)
  have RB0 := hid (new_0 w (rob 0 ⟨#[]⟩ 0 (.slice none 0 0)))
  have HSH := hid (fun j => atW_short h.ok j)
  have HLE := hid (fun j (hj : j ≤ l.length) (q : (atW l j).1 ≠ []) => atW_lt hj q)
  clear h hne
  go_enter Tryz.func46, Tryz.ntmps46
  go_wp2_with fail
  refine HM.out.mono ?_
  rintro en w1 ⟨rfl, HG1, ⟨HQ1, H1⟩ | ⟨HQ1, H1⟩⟩
  rotate_left
  · have HE := hid (drul_50 (width := width) HQ1.out)
    obtain ⟨_, _, _, k4, _⟩ := H1.out.rf.cells
    have RB1 := block_grow RB0.out HG1.out (by omega)
    obtain ⟨c0, c1, c2, c3, e0, e1, e2, e3⟩ := rob_cells RB1
    have RB4 := rob_4 (rob_3 (rob_2 (rob_1 RB1 0) ⟨#[]⟩) 0) (.slice none 0 0)
    obtain ⟨m0, m1, m2, m3, _, _, _, _⟩ := rob_cells RB4
    clear RB4
    go_wp2
    refine bodyPost_ret (v := .agg #[.int .i64 0, .string ⟨#[]⟩, .int .i64 0, .slice none 0 0]) (by simp [results, Tryz.results46, go_sem, m0, m1, m2, m3]) rfl ?_
    have R3 := (((H1.out.new (B := w.heap.size) (o := 0) (.int .i64 0) hrb hgl (Nat.le_refl _)).new (B := w.heap.size) (o := 1) (.string ⟨#[]⟩) hrb hgl (Nat.le_refl _)).new (B := w.heap.size) (o := 2) (.int .i64 0) hrb hgl (Nat.le_refl _)).new (B := w.heap.size) (o := 3) (.slice none 0 0) hrb hgl (Nat.le_refl _)
    exact ⟨R3.on, 0, [], 0, _, rfl, ⟨_, _, _, rfl⟩, Or.inr ⟨Ru.ft (atW l 0) 50, 0, HE.out, (by simp [Ru.ft]), R3.rf⟩⟩
  obtain ⟨k1, k2, k3, k4, f1, f2, f3, f4⟩ := H1.out.rf.cells
  have hsz1 : w.heap.size < w1.heap.size := by have := HG1.out.size; simp at this; omega
  have RB1 := hid (block_grow RB0.out HG1.out (by omega))
  have D2 := hid (H1.out.alloc (rob 0 ⟨#[]⟩ 0 (.slice none 0 0)))
  have RB2 := hid (new_old _ (rob 0 ⟨#[]⟩ 0 (.slice none 0 0)) RB1.out)
  have OB2 := hid (new_0 w1 (rob 0 ⟨#[]⟩ 0 (.slice none 0 0)))
  obtain ⟨x, hx⟩ : ∃ x, x = atW l 1 := ⟨_, rfl⟩
  have HW1 := hid (fun wr' (q : DOn w rb g l (0 + 1) 0 0 0 wr') => q.word)
  have HF1 := hid (fun wr' (q : DOn w rb g l (0 + 1) 0 0 0 wr') => q.fail 32)
  simp only [Nat.zero_add] at HW1 HF1
  rw [← hx] at HW1 HF1
  have HX := hid hx
  have hxl := wv_text x
  have HNU := hid (fun w' => uRNumber x.1 w')
  clear hx
  rcases numE_two x.1 with ⟨he, hb⟩ | ⟨he, hb⟩
  rotate_left
  · rw [he] at HNU
    have HE := hid (drul_32 (width := width) HQ1.out (by rw [← HX.out]; exact hb))
    rw [← HX.out] at HE
    obtain ⟨np, hnp⟩ : ∃ np, np = Wo.numV x.1 := ⟨_, rfl⟩
    rw [← hnp] at HNU
    clear he hb hnp
    go_wp2_with fail
    refine (HW1.out _ D2.out).mono ?_
    rintro en w3 ⟨rfl, HB3, H3⟩
    go_wp2_with fail
    refine (HNU.out _).mono ?_
    rintro en w4 ⟨rfl, rfl⟩
    go_wp2_with fail
    refine (HF1.out _ H3.out).mono ?_
    rintro en w5 ⟨rfl, HG5, H5⟩
    have RB5 := block_grow (below_block HB3.out RB2.out (lt_of_block RB2.out)) HG5.out (by omega)
    have OB5 := block_grow (below_block HB3.out OB2.out (lt_of_block OB2.out)) HG5.out (by omega)
    obtain ⟨c0, c1, c2, c3, e0, e1, e2, e3⟩ := rob_cells RB5
    obtain ⟨d0, d1, d2, d3, _, _, _, _⟩ := rob_cells OB5
    have RB4 := rob_4 (rob_3 (rob_2 (rob_1 RB5 0) ⟨#[]⟩) 0) (.slice none 0 0)
    obtain ⟨m0, m1, m2, m3, _, _, _, _⟩ := rob_cells RB4
    clear RB4
    go_wp2
    refine bodyPost_ret (v := .agg #[.int .i64 0, .string ⟨#[]⟩, .int .i64 0, .slice none 0 0]) (by simp [results, Tryz.results46, go_sem, m0, m1, m2, m3]) rfl ?_
    have R3 := (((H5.out.new (B := w.heap.size) (o := 0) (.int .i64 0) hrb hgl (Nat.le_refl _)).new (B := w.heap.size) (o := 1) (.string ⟨#[]⟩) hrb hgl (Nat.le_refl _)).new (B := w.heap.size) (o := 2) (.int .i64 0) hrb hgl (Nat.le_refl _)).new (B := w.heap.size) (o := 3) (.slice none 0 0) hrb hgl (Nat.le_refl _)
    exact ⟨R3.on, 0, [], 0, _, rfl, ⟨_, _, _, rfl⟩, Or.inr ⟨Ru.ft x 32, 1, HE.out, (by simp [Ru.ft]), R3.rf⟩⟩
  rw [he] at HNU
  have HB := hid hb
  have hlt1 : 1 < l.length := HLE.out 1 (by have := H1.out.rf.le; omega) (by rw [← HX.out]; intro q; rw [q] at hb; exact absurd hb (by decide))
  obtain ⟨np, hnp⟩ : ∃ np, np = Wo.numV x.1 := ⟨_, rfl⟩
  rw [← hnp] at HNU
  have HNP := hid hnp
  clear he hb hnp
  go_wp2_with fail
  refine (HW1.out _ D2.out).mono ?_
  rintro en w3 ⟨rfl, HB3, H3⟩
  go_wp2_with fail
  refine (HNU.out _).mono ?_
  rintro en w4 ⟨rfl, rfl⟩
  have RB4 := hid (below_block HB3.out RB2.out (lt_of_block RB2.out))
  have OB4 := hid (below_block HB3.out OB2.out (lt_of_block OB2.out))
  obtain ⟨o0, o1, o2, o3, u0, u1, u2, u3⟩ := rob_cells OB4.out
  have D4 := hid (H3.out.new (B := w1.heap.size) (o := 0) (.int .i64 np) hrb hgl (by omega))
  have RB4 := hid (block_other (o := 0) (.int .i64 np) RB4.out (g := w1.heap.size) (by omega))
  have OB4 := hid (rob_1 OB4.out np)
  obtain ⟨r1, r2, r3, r4, t1, t2, t3, t4⟩ := D4.out.rf.cells
  have D5 := hid (D4.out.step 2 hlt1)
  have RB5 := hid (block_other (o := 1) (.int .i64 2) RB4.out (g := rb) (by omega))
  have OB5 := hid (block_other (o := 1) (.int .i64 2) OB4.out (g := rb) (by omega))
  obtain ⟨z, hz⟩ : ∃ z, z = atW l 2 := ⟨_, rfl⟩
  have HW2 := hid (fun wr' (q : DOn w rb g l 2 0 0 0 wr') => q.word)
  have HF10 := hid (fun wr' (q : DOn w rb g l 2 0 0 0 wr') => q.fail 10)
  have HF11 := hid (fun wr' (q : DOn w rb g l 2 0 0 0 wr') => q.fail 11)
  rw [← hz] at HW2 HF10 HF11
  have HZ := hid hz
  have hzl := wv_text z
  have HRI := hid (fun w' => uRight z.1 w' (by rw [hz]; exact HSH.out 2))
  clear hz
  go_wp2_with fail
  refine (HW2.out _ D5.out).mono ?_
  rintro en w6 ⟨rfl, HB6, H6⟩
  have RB6 := hid (below_block HB6.out RB5.out (lt_of_block RB5.out))
  have OB6 := hid (below_block HB6.out OB5.out (lt_of_block OB5.out))
  clear o0 o1 o2 o3 u0 u1 u2 u3
  obtain ⟨o0, o1, o2, o3, u0, u1, u2, u3⟩ := rob_cells OB6.out
  have D7 := hid (H6.out.new (B := w1.heap.size) (o := 1) (.string (tx z.1)) hrb hgl (by omega))
  have RB7 := hid (block_other (o := 1) (.string (tx z.1)) RB6.out (g := w1.heap.size) (by omega))
  have OB7 := hid (rob_2 OB6.out (tx z.1))
  obtain ⟨v0, v1, v2, v3, _, _, _, _⟩ := rob_cells OB7.out
  rcases bool_two (Cub.Cu.right z.1) with hri | hri
  · rw [hri] at HRI
    have HE := hid (drul_10 (width := width) HQ1.out (by rw [← HX.out]; exact HB.out) (by rw [← HZ.out]; exact hri))
    rw [← HZ.out] at HE
    clear hri
    go_wp2_with fail
    refine (HRI.out _).mono ?_
    rintro en w8 ⟨rfl, rfl⟩
    go_wp2_with fail
    refine (HF10.out _ D7.out).mono ?_
    rintro en w9 ⟨rfl, HG9, H9⟩
    have RB9 := block_grow RB7.out HG9.out (by omega)
    have OB9 := block_grow OB7.out HG9.out (by omega)
    obtain ⟨c0, c1, c2, c3, e0, e1, e2, e3⟩ := rob_cells RB9
    obtain ⟨d0, d1, d2, d3, _, _, _, _⟩ := rob_cells OB9
    have RB4 := rob_4 (rob_3 (rob_2 (rob_1 RB9 np) (tx z.1)) 0) (.slice none 0 0)
    obtain ⟨m0, m1, m2, m3, _, _, _, _⟩ := rob_cells RB4
    clear RB4
    go_wp2
    refine bodyPost_ret (v := .agg #[.int .i64 np, .string (tx z.1), .int .i64 0, .slice none 0 0]) (by simp [results, Tryz.results46, go_sem, m0, m1, m2, m3]) rfl ?_
    have R3 := (((H9.out.new (B := w.heap.size) (o := 0) (.int .i64 np) hrb hgl (Nat.le_refl _)).new (B := w.heap.size) (o := 1) (.string (tx z.1)) hrb hgl (Nat.le_refl _)).new (B := w.heap.size) (o := 2) (.int .i64 0) hrb hgl (Nat.le_refl _)).new (B := w.heap.size) (o := 3) (.slice none 0 0) hrb hgl (Nat.le_refl _)
    exact ⟨R3.on, np, z.1, 0, _, rfl, ⟨_, _, _, rfl⟩, Or.inr ⟨Ru.ft z 10, 2, HE.out, (by simp [Ru.ft]), R3.rf⟩⟩
  rw [hri] at HRI
  have HRR := hid hri
  clear hri
  by_cases hlw : z.1.length = width
  rotate_left
  · have HE := hid (drul_11 (width := width) HQ1.out (by rw [← HX.out]; exact HB.out) (by rw [← HZ.out]; exact HRR.out) (by rw [← HZ.out]; exact hlw))
    rw [← HZ.out] at HE
    have hlI : ¬ ((z.1.length : Int) = (width : Int)) := by omega
    have hlN : ¬ (z.1.length = width) := hlw
    go_wp2_with fail
    refine (HRI.out _).mono ?_
    rintro en w8 ⟨rfl, rfl⟩
    go_wp2_with fail
    refine (HF11.out _ D7.out).mono ?_
    rintro en w9 ⟨rfl, HG9, H9⟩
    have RB9 := block_grow RB7.out HG9.out (by omega)
    have OB9 := block_grow OB7.out HG9.out (by omega)
    obtain ⟨c0, c1, c2, c3, e0, e1, e2, e3⟩ := rob_cells RB9
    obtain ⟨d0, d1, d2, d3, _, _, _, _⟩ := rob_cells OB9
    have RB4 := rob_4 (rob_3 (rob_2 (rob_1 RB9 np) (tx z.1)) 0) (.slice none 0 0)
    obtain ⟨m0, m1, m2, m3, _, _, _, _⟩ := rob_cells RB4
    clear RB4
    go_wp2
    refine bodyPost_ret (v := .agg #[.int .i64 np, .string (tx z.1), .int .i64 0, .slice none 0 0]) (by simp [results, Tryz.results46, go_sem, m0, m1, m2, m3]) rfl ?_
    have R3 := (((H9.out.new (B := w.heap.size) (o := 0) (.int .i64 np) hrb hgl (Nat.le_refl _)).new (B := w.heap.size) (o := 1) (.string (tx z.1)) hrb hgl (Nat.le_refl _)).new (B := w.heap.size) (o := 2) (.int .i64 0) hrb hgl (Nat.le_refl _)).new (B := w.heap.size) (o := 3) (.slice none 0 0) hrb hgl (Nat.le_refl _)
    exact ⟨R3.on, np, z.1, 0, _, rfl, ⟨_, _, _, rfl⟩, Or.inr ⟨Ru.ft z 11, 2, HE.out, (by simp [Ru.ft]), R3.rf⟩⟩
  have HLW := hid hlw
  have hlB : ((z.1.length : Int) == (width : Int)) = true := by rw [beq_iff_eq]; omega
  have hlt2 : 2 < l.length := HLE.out 2 (by omega) (by rw [← HZ.out]; intro q; have := HRR.out; rw [q] at this; exact absurd this (by decide))
  clear hlw
  obtain ⟨s1, s2, s3, s4, y1, y2, y3, y4⟩ := D7.out.rf.cells
  have D8 := hid (D7.out.step 3 hlt2)
  have RB8 := hid (block_other (o := 1) (.int .i64 3) RB7.out (g := rb) (by omega))
  have OB8 := hid (block_other (o := 1) (.int .i64 3) OB7.out (g := rb) (by omega))
  go_wp2_with fail
  refine (HRI.out _).mono ?_
  rintro en w8 ⟨rfl, e8⟩
  subst e8
  go_wp2_with fail
  refine (daction D8.out.rf).mono ?_
  rintro en w9 ⟨HG9, k, v, rfl, ⟨ao, vn, vc, rfl⟩, hor⟩
  have HG9 := hid HG9
  have RB9 := hid (block_grow RB8.out HG9.out (by omega))
  have OB9 := hid (block_grow OB8.out HG9.out (by omega))
  clear o0 o1 o2 o3 u0 u1 u2 u3
  obtain ⟨o0, o1, o2, o3, u0, u1, u2, u3⟩ := rob_cells OB9.out
  have RBA := hid (block_other (o := 3) (.slice ao vn vc) (block_other (o := 2) (.int .i64 k) RB9.out (g := w1.heap.size) (by omega)) (g := w1.heap.size) (by omega))
  have OBA := hid (rob_4 (rob_3 OB9.out k) (.slice ao vn vc))
  rcases hor with ⟨ps, j, ha, hrf, hP⟩ | ⟨f, j, ha, hf0, hrf⟩
  rotate_left
  · have HE := hid (drul_err (width := width) HQ1.out (by rw [← HX.out]; exact HB.out) (by rw [← HZ.out]; exact HRR.out) (by rw [← HZ.out]; exact HLW.out) ha)
    have D9 := hid (show DOn w rb g l j f.1 f.2.1 f.2.2 w9 from ⟨hrf, grown_two D8.out.on HG9.out⟩)
    have DA := hid ((D9.out.new (B := w1.heap.size) (o := 2) (.int .i64 k) hrb hgl (by omega)).new (B := w1.heap.size) (o := 3) (.slice ao vn vc) hrb hgl (by omega))
    obtain ⟨_, _, _, z4, _⟩ := DA.out.rf.cells
    have hfI : ¬ ((f.2.2 : Int) = 0) := by omega
    have HF0 := hid hf0
    have hfN : ¬ (f.2.2 = 0) := hf0
    clear ha hrf hf0 v0 v1 v2 v3
    go_wp2_with fail
    go_quiet (fail)
    have RBq : (((w9.setCell ⟨w1.heap.size, 2, none⟩ (.int .i64 k)).setCell ⟨w1.heap.size, 3, none⟩ (.slice ao vn vc)).drewN nq).heap[w.heap.size]? = some (rob 0 ⟨#[]⟩ 0 (.slice none 0 0)) := RBA.out
    have OBq : (((w9.setCell ⟨w1.heap.size, 2, none⟩ (.int .i64 k)).setCell ⟨w1.heap.size, 3, none⟩ (.slice ao vn vc)).drewN nq).heap[w1.heap.size]? = some (rob np (tx z.1) k (.slice ao vn vc)) := OBA.out
    have DQ := hid (DA.out.below (w1 := ((w9.setCell ⟨w1.heap.size, 2, none⟩ (.int .i64 k)).setCell ⟨w1.heap.size, 3, none⟩ (.slice ao vn vc)).drewN nq) (below_drewN (Below.refl _ _)))
    obtain ⟨c0, c1, c2, c3, e0, e1, e2, e3⟩ := rob_cells RBq
    obtain ⟨d0, d1, d2, d3, _, _, _, _⟩ := rob_cells OBq
    have RB4 := rob_4 (rob_3 (rob_2 (rob_1 RBq np) (tx z.1)) k) (.slice ao vn vc)
    obtain ⟨m0, m1, m2, m3, _, _, _, _⟩ := rob_cells RB4
    clear RB4
    go_wp2
    refine bodyPost_ret (v := .agg #[.int .i64 np, .string (tx z.1), .int .i64 k, .slice ao vn vc]) (by simp [results, Tryz.results46, go_sem, m0, m1, m2, m3]) rfl ?_
    have R3 := (((DQ.out.new (B := w.heap.size) (o := 0) (.int .i64 np) hrb hgl (Nat.le_refl _)).new (B := w.heap.size) (o := 1) (.string (tx z.1)) hrb hgl (Nat.le_refl _)).new (B := w.heap.size) (o := 2) (.int .i64 k) hrb hgl (Nat.le_refl _)).new (B := w.heap.size) (o := 3) (.slice ao vn vc) hrb hgl (Nat.le_refl _)
    exact ⟨R3.on, np, z.1, k, _, rfl, ⟨_, _, _, rfl⟩, Or.inr ⟨f, j, HE.out, HF0.out, R3.rf⟩⟩
  have HE := hid (drul_ok (width := width) HQ1.out (by rw [← HX.out]; exact HB.out) (by rw [← HZ.out]; exact HRR.out) (by rw [← HZ.out]; exact HLW.out) ha)
  rw [← HX.out, ← HZ.out, ← HNP.out] at HE
  have D9 := hid (show DOn w rb g l j 0 0 0 w9 from ⟨hrf, grown_two D8.out.on HG9.out⟩)
  have DA := hid ((D9.out.new (B := w1.heap.size) (o := 2) (.int .i64 k) hrb hgl (by omega)).new (B := w1.heap.size) (o := 3) (.slice ao vn vc) hrb hgl (by omega))
  obtain ⟨z1, z2, z3, z4, _⟩ := DA.out.rf.cells
  obtain ⟨zc, hzc⟩ := DA.out.rf.blk
  have z0 := cell_at (o := 0) hzc
  simp only [List.getElem?_toArray, List.getElem?_cons_zero] at z0
  have hjle := hrf.le
  have HP := hid hP
  have HNJ := hid (atW_ne hjle HNE.out)
  clear ha hrf hP hzc v0 v1 v2 v3
  by_cases hj : j < l.length
  · have hjI : (j : Int) < (l.length : Int) := by omega
    have HE2 := hid (HE.out.trans (if_pos (HNJ.out.2 hj)))
    have HF50 := hid (fun wr' (q : DOn w rb g l j 0 0 0 wr') => q.fail 50)
    clear hj
    go_wp2_with fail
    go_quiet (fail)
    have RBq : (((w9.setCell ⟨w1.heap.size, 2, none⟩ (.int .i64 k)).setCell ⟨w1.heap.size, 3, none⟩ (.slice ao vn vc)).drewN nq).heap[w.heap.size]? = some (rob 0 ⟨#[]⟩ 0 (.slice none 0 0)) := RBA.out
    have OBq : (((w9.setCell ⟨w1.heap.size, 2, none⟩ (.int .i64 k)).setCell ⟨w1.heap.size, 3, none⟩ (.slice ao vn vc)).drewN nq).heap[w1.heap.size]? = some (rob np (tx z.1) k (.slice ao vn vc)) := OBA.out
    have DQ := hid (DA.out.below (w1 := ((w9.setCell ⟨w1.heap.size, 2, none⟩ (.int .i64 k)).setCell ⟨w1.heap.size, 3, none⟩ (.slice ao vn vc)).drewN nq) (below_drewN (Below.refl _ _)))
    go_wp2_with fail
    refine (HF50.out _ DQ.out).mono ?_
    rintro en wa ⟨rfl, HGa, Ha⟩
    have RBz := block_grow RBq HGa.out (by omega)
    have OBz := block_grow OBq HGa.out (by omega)
    clear RBq OBq
    obtain ⟨c0, c1, c2, c3, e0, e1, e2, e3⟩ := rob_cells RBz
    obtain ⟨d0, d1, d2, d3, _, _, _, _⟩ := rob_cells OBz
    have RB4 := rob_4 (rob_3 (rob_2 (rob_1 RBz np) (tx z.1)) k) (.slice ao vn vc)
    obtain ⟨m0, m1, m2, m3, _, _, _, _⟩ := rob_cells RB4
    clear RB4
    go_wp2
    refine bodyPost_ret (v := .agg #[.int .i64 np, .string (tx z.1), .int .i64 k, .slice ao vn vc]) (by simp [results, Tryz.results46, go_sem, m0, m1, m2, m3]) rfl ?_
    have R3 := (((Ha.out.new (B := w.heap.size) (o := 0) (.int .i64 np) hrb hgl (Nat.le_refl _)).new (B := w.heap.size) (o := 1) (.string (tx z.1)) hrb hgl (Nat.le_refl _)).new (B := w.heap.size) (o := 2) (.int .i64 k) hrb hgl (Nat.le_refl _)).new (B := w.heap.size) (o := 3) (.slice ao vn vc) hrb hgl (Nat.le_refl _)
    exact ⟨R3.on, np, z.1, k, _, rfl, ⟨_, _, _, rfl⟩, Or.inr ⟨Ru.ft (atW l j) 50, j, HE2.out, (by simp [Ru.ft]), R3.rf⟩⟩
  · have hjI : ¬ ((j : Int) < (l.length : Int)) := by omega
    have HE2 := hid (HE.out.trans (if_neg (fun q => hj (HNJ.out.1 q))))
    have hjN : ¬ (j < l.length) := hj
    go_wp2_with fail
    go_quiet (fail)
    have RBq : (((w9.setCell ⟨w1.heap.size, 2, none⟩ (.int .i64 k)).setCell ⟨w1.heap.size, 3, none⟩ (.slice ao vn vc)).drewN nq).heap[w.heap.size]? = some (rob 0 ⟨#[]⟩ 0 (.slice none 0 0)) := RBA.out
    have OBq : (((w9.setCell ⟨w1.heap.size, 2, none⟩ (.int .i64 k)).setCell ⟨w1.heap.size, 3, none⟩ (.slice ao vn vc)).drewN nq).heap[w1.heap.size]? = some (rob np (tx z.1) k (.slice ao vn vc)) := OBA.out
    have DQ := hid (DA.out.below (w1 := ((w9.setCell ⟨w1.heap.size, 2, none⟩ (.int .i64 k)).setCell ⟨w1.heap.size, 3, none⟩ (.slice ao vn vc)).drewN nq) (below_drewN (Below.refl _ _)))
    obtain ⟨c0, c1, c2, c3, e0, e1, e2, e3⟩ := rob_cells RBq
    obtain ⟨d0, d1, d2, d3, _, _, _, _⟩ := rob_cells OBq
    have RB4 := rob_4 (rob_3 (rob_2 (rob_1 RBq np) (tx z.1)) k) (.slice ao vn vc)
    obtain ⟨m0, m1, m2, m3, _, _, _, _⟩ := rob_cells RB4
    clear RB4
    go_wp2
    refine bodyPost_ret (v := .agg #[.int .i64 np, .string (tx z.1), .int .i64 k, .slice ao vn vc]) (by simp [results, Tryz.results46, go_sem, m0, m1, m2, m3]) rfl ?_
    have R3 := (((DQ.out.new (B := w.heap.size) (o := 0) (.int .i64 np) hrb hgl (Nat.le_refl _)).new (B := w.heap.size) (o := 1) (.string (tx z.1)) hrb hgl (Nat.le_refl _)).new (B := w.heap.size) (o := 2) (.int .i64 k) hrb hgl (Nat.le_refl _)).new (B := w.heap.size) (o := 3) (.slice ao vn vc) hrb hgl (Nat.le_refl _)
    refine ⟨R3.on, np, z.1, k, _, rfl, ⟨_, _, _, rfl⟩, Or.inl ⟨ps, j, HE2.out, R3.rf, ?_⟩⟩
    refine HP.out.kept fun b cs q _ => ?_
    have hn1 : b ≠ w.heap.size := fun e => by
      rw [e, RB9.out] at q
      simp only [Option.some.injEq, Obj.cells.injEq] at q
      exact absurd q.2.1 (by decide)
    have hn2 : b ≠ w1.heap.size := fun e => by
      rw [e, OB9.out] at q
      simp only [Option.some.injEq, Obj.cells.injEq] at q
      exact absurd q.2.1 (by decide)
    rw [Below.heap_setCell _ _ _ _ hn1, Below.heap_setCell _ _ _ _ hn1, Below.heap_setCell _ _ _ _ hn1, Below.heap_setCell _ _ _ _ hn1]
    show ((w9.setCell _ _).setCell _ _).heap[b]? = _
    rw [Below.heap_setCell _ _ _ _ hn2, Below.heap_setCell _ _ _ _ hn2]
end Go.Proofs.YtemmhingmeinjaaGreatDoor
namespace Go.Proofs.YtemmhingmeinjaaGreatDoor
open Go.RowKit
open Wo (Wd)

theorem RsAt.some {w : World} {B : Nat} {v : Value} {ps : List (Ru.Rl × Value)} (h : RsAt w B v ps) (h0 : 0 < ps.length) : ∃ g cap, v = .slice (some ⟨g, 0, none⟩) ps.length cap ∧ g < w.heap.size ∧
    ∀ (i : Nat) (q : Ru.Rl × Value), ps[i]? = some q → w.cell? ⟨g, i * 4, none⟩ = some (.int .i64 q.1.prio) ∧ w.cell? ⟨g, i * 4 + 1, none⟩ = some (.string (tx q.1.mat)) ∧ w.cell? ⟨g, i * 4 + 2, none⟩ = some (.int .i64 q.1.kind) ∧ w.cell? ⟨g, i * 4 + 3, none⟩ = some q.2 := by
  obtain ⟨g, cap, rfl, hg, hc⟩ := own_some h.own h0
  refine ⟨g, cap, rfl, hg, fun i q hq => ?_⟩
  obtain ⟨f1, f2, f3, f4⟩ := flatR_at hq
  exact ⟨hc _ _ f1, hc _ _ f2, hc _ _ f3, hc _ _ f4⟩

set_option maxHeartbeats 1000000 in
theorem known_none (ao : Option Addr) (cap : Nat) (p : Nat) (m : List UInt8) (k : Nat) (u : Option Addr) (un uc : Nat) (w : World) :
    Calls Tryz.prog 36 #[.slice ao 0 cap, .agg #[.int .i64 p, .string (tx m), .int .i64 k, .slice u un uc]] w fun en w' => en = .returned (.bool false) ∧ Below w.heap.size w w' := by
  go_enter Tryz.func36, Tryz.ntmps36
  go_wp2_with fail
  refine wp_loop_rounds 1 ?_
  rw [rounds_succ]
  go_wp2
  go_ret
  exact ⟨rfl, (Below.refl _ _).alloc (Nat.le_refl _) _⟩

set_option maxRecDepth 4000 in
set_option maxHeartbeats 2000000 in
theorem known_some {w : World} {g : Nat} {ps : List (Ru.Rl × Value)} (cap : Nat) (hg : g < w.heap.size) (hc : ∀ (i : Nat) (q : Ru.Rl × Value), ps[i]? = some q → w.cell? ⟨g, i * 4, none⟩ = some (.int .i64 q.1.prio) ∧ w.cell? ⟨g, i * 4 + 1, none⟩ = some (.string (tx q.1.mat)))
    (hn : ps.length ≤ 1048576) (p : Nat) (m : List UInt8) (k : Nat) (u : Option Addr) (un uc : Nat) :
    Calls Tryz.prog 36 #[.slice (some ⟨g, 0, none⟩) ps.length cap, .agg #[.int .i64 p, .string (tx m), .int .i64 k, .slice u un uc]] w fun en w' => en = .returned (.bool (decide ((p, m) ∈ ps.map keyOfR))) ∧ Below w.heap.size w w' := by
  have HC := hid hc
  clear hc
  go_enter Tryz.func36, Tryz.ntmps36
  go_wp2_with fail
  go_loopw [5] (fun i wr => ∃ j : Nat, j ≤ ps.length ∧ i = .int .i64 j ∧ Hid ((p, m) ∉ (ps.take j).map keyOfR) ∧ (∀ a, wr.cell? a = (w.alloc (rob p (tx m) k (.slice u un uc))).cell? a) ∧ Below w.heap.size w wr) (fun i _ => ps.length - (intOf i).toNat)
  case atStart => exact ⟨0, Nat.zero_le _, rfl, (show (p, m) ∉ _ by simp), fun _ => rfl, (Below.refl _ _).alloc (Nat.le_refl _) _⟩
  case round =>
    obtain ⟨j, hj, rfl, hno, hcl, hbl⟩ := hrel
    by_cases hlt : j < ps.length
    · obtain ⟨q, hq⟩ : ∃ q, ps[j]? = some q := ⟨ps[j], List.getElem?_eq_getElem hlt⟩
      obtain ⟨q1, q2⟩ := HC.out j q hq
      have c1 := (hcl _).trans (alloc_cell q1 hg _)
      have c2 := (hcl _).trans (alloc_cell q2 hg _)
      have d0 := (hcl ⟨w.heap.size, 0, none⟩).trans (show _ = some (.int .i64 p) by rw [cell_at (new_0 w (rob p (tx m) k (.slice u un uc)))]; rfl)
      have d1 := (hcl ⟨w.heap.size, 1, none⟩).trans (show _ = some (.string (tx m)) by rw [cell_at (new_0 w (rob p (tx m) k (.slice u un uc)))]; rfl)
      have HCL := hid hcl
      have HTK := hid (show ps.take (j + 1) = ps.take j ++ [q] by rw [List.take_add_one, hq]; rfl)
      have HIN := hid (show (q.1.prio, q.1.mat) ∈ ps.map keyOfR from List.mem_map.2 ⟨q, List.mem_of_getElem? hq, rfl⟩)
      have hkI : (j : Int) < (ps.length : Int) := by omega
      have hk0 : (0 : Int) ≤ (j : Int) := by omega
      clear hcl hq q1 q2
      by_cases e1 : q.1.prio = p
      · have b1 : ((q.1.prio : Int) == (p : Int)) = true := by rw [beq_iff_eq]; omega
        by_cases e2 : q.1.mat = m
        · have b2 : (q.1.mat == m) = true := by simpa using e2
          have HR := hid (show decide ((p, m) ∈ ps.map keyOfR) = true by rw [decide_eq_true_eq, ← e1, ← e2]; exact HIN.out)
          clear e1 e2
          go_wp2
          go_quiet (fail)
          go_wp2
          go_ret
          exact ⟨by rw [HR.out]; rfl, below_drewN hbl⟩
        · have b2 : (q.1.mat == m) = false := by simpa using e2
          have HNN := hid (show (p, m) ∉ (ps.take (j + 1)).map keyOfR by
            rw [HTK.out, List.map_append]
            intro h
            rcases List.mem_append.1 h with h | h
            · exact hno.out h
            · simp only [List.map_cons, List.map_nil, List.mem_singleton, Prod.mk.injEq] at h; exact e2 h.2.symm)
          clear e1 e2
          go_wp2
          go_quiet (fail)
          go_wp2
          go_roundw
          case rel => exact ⟨j + 1, by omega, by go_num, HNN, HCL.out, below_drewN hbl⟩
          case measure => simp [intOf]; omega
      · have b1 : ((q.1.prio : Int) == (p : Int)) = false := by rw [beq_eq_false_iff_ne]; omega
        have HNN := hid (show (p, m) ∉ (ps.take (j + 1)).map keyOfR by
          rw [HTK.out, List.map_append]
          intro h
          rcases List.mem_append.1 h with h | h
          · exact hno.out h
          · simp only [List.map_cons, List.map_nil, List.mem_singleton, Prod.mk.injEq] at h; exact e1 h.1.symm)
        clear e1
        go_wp2
        go_quiet (fail)
        go_wp2
        go_roundw
        case rel => exact ⟨j + 1, by omega, by go_num, HNN, HCL.out, below_drewN hbl⟩
        case measure => simp [intOf]; omega
    · have hjn : j = ps.length := by omega
      subst hjn
      have HR := hid (show decide ((p, m) ∈ ps.map keyOfR) = false by
        have := hno.out
        rw [List.take_length] at this
        simpa using this)
      have hkI : ¬ ((ps.length : Int) < (ps.length : Int)) := by omega
      clear hcl hlt
      go_wp2
      go_ret
      exact ⟨by rw [HR.out]; rfl, hbl⟩
theorem known_any {w : World} {B : Nat} {v : Value} {ps : List (Ru.Rl × Value)} (h : RsAt w B v ps) (hn : ps.length ≤ 1048576) (p : Nat) (m : List UInt8) (k : Nat) (u : Option Addr) (un uc : Nat) :
    Calls Tryz.prog 36 #[v, .agg #[.int .i64 p, .string (tx m), .int .i64 k, .slice u un uc]] w fun en w' => en = .returned (.bool (decide ((p, m) ∈ ps.map keyOfR))) ∧ Below w.heap.size w w' := by
  by_cases h0 : 0 < ps.length
  · obtain ⟨g, cap, rfl, hg, hc⟩ := h.some h0
    exact known_some cap hg (fun i q hq => ⟨(hc i q hq).1, (hc i q hq).2.1⟩) hn p m k u un uc
  · obtain ⟨ao, cap, rfl⟩ := h.form
    have e0 : ps = [] := List.length_eq_zero_iff.1 (by omega)
    subst e0
    exact known_none ao cap p m k u un uc w
end Go.Proofs.YtemmhingmeinjaaGreatDoor
namespace Go.Proofs.YtemmhingmeinjaaGreatDoor
open Go.RowKit
open Wo (Wd)

structure RsD (w : World) (B : Nat) (v : Value) (ps : List (Ru.Rl × Value)) : Prop where
  own : w.ownsRow B 51 4 v ps.length (flatR ps)
  ports : ∀ q ∈ ps, PortsV w 0 q.2 q.1.ports
theorem RsAt.d {w : World} {B : Nat} {v : Value} {ps : List (Ru.Rl × Value)} (h : RsAt w B v ps) : RsD w B v ps := ⟨h.own, fun q hq => (h.ports q hq).mono (Nat.zero_le _)⟩
theorem RsD.at0 {w : World} {B : Nat} {v : Value} {ps : List (Ru.Rl × Value)} (h : RsD w B v ps) : RsAt w 0 v ps := ⟨h.own.mono (Nat.zero_le _), h.ports⟩
theorem RsD.kept {w w' : World} {B : Nat} {v : Value} {ps : List (Ru.Rl × Value)} (h : RsD w B v ps) {row : Option Nat} (hg : w.grownBy w' row) (hn : ∀ b, row = some b → ∀ cs T fr, w.heap[b]? = some (.cells cs T fr) → T ≠ 51 ∧ T ≠ 9) : RsD w' B v ps := by
  have hno : v.ownBlock = none ∨ v.ownBlock ≠ row := by
    rcases hv : v.ownBlock with _ | k
    · exact Or.inl rfl
    · refine Or.inr (fun q => ?_)
      rcases h.own.2 with ⟨rfl, _⟩ | ⟨b, cap, cur, rfl, _, hb, _⟩
      · cases hv
      · have e : b = k := by simpa [Value.ownBlock] using hv
        subst e
        exact (hn b q.symm _ _ _ hb).1 rfl
  exact ⟨h.own.kept hg hno, fun q hq => (h.ports q hq).kept fun b cs hb _ => hg.block b (lt_of_block hb) (fun e => (hn b e.symm _ _ _ hb).2 rfl)⟩
theorem RsD.below {w w' : World} {B : Nat} {v : Value} {ps : List (Ru.Rl × Value)} (h : RsD w B v ps) (hb : Below w.heap.size w w') : RsD w' B v ps := h.kept (grown_of_below none hb) (fun b e => by cases e)
theorem RsD.reader {w w' : World} {B rb g : Nat} {v : Value} {ps : List (Ru.Rl × Value)} {l : List Wd} {j a b c : Nat} (h : RsD w B v ps) (hr : RfAt w rb g l j a b c) (hg : w.grownBy w' (some rb)) : RsD w' B v ps := by
  obtain ⟨cap, hc⟩ := hr.blk
  refine h.kept hg (fun b' e cs T fr hb => ?_)
  simp only [Option.some.injEq] at e
  subst e
  rw [hc] at hb
  simp only [Option.some.injEq, Obj.cells.injEq] at hb
  rw [← hb.2.1]; exact ⟨by decide, by decide⟩
theorem RsD.snoc {w w' : World} {B : Nat} {v v' : Value} {ps : List (Ru.Rl × Value)} {q : Ru.Rl × Value} (h : RsD w B v ps) (hq : PortsV w 0 q.2 q.1.ports) (ho : w'.ownsRow B 51 4 v' (ps.length + 1) (flatR ps ++ [.int .i64 q.1.prio, .string (tx q.1.mat), .int .i64 q.1.kind, q.2])) (hg : w.grownBy w' v.ownBlock) : RsD w' B v' (ps ++ [q]) := by
  have hk : ∀ {u : Value} {zs}, PortsV w 0 u zs → PortsV w' 0 u zs := fun hp => hp.kept fun b cs hb _ => hg.block b (lt_of_block hb) (fun e => own_ne h.own hb (by decide) e.symm)
  refine ⟨by rw [flatR_snoc, List.length_append, List.length_singleton]; exact ho, fun p hp => ?_⟩
  rcases List.mem_append.1 hp with hp | hp
  · exact hk (h.ports p hp)
  · rw [List.mem_singleton.1 hp]; exact hk hq
theorem tk_ne (l : List UInt8) (c : Nat) : ∀ p ∈ (Wo.tk l c).1, p.1 ≠ [] := by
  generalize hn : l.length = n
  induction n using Nat.strongRecOn generalizing l c with
  | ind n ih =>
    intro p hp
    cases l with
    | nil => rw [Wo.tk_nil] at hp; exact absurd hp (by simp)
    | cons a t =>
      simp only [List.length_cons] at hn
      by_cases h35 : a.toNat = 35
      · rw [Wo.tk_hash _ _ _ h35] at hp; exact absurd hp (by simp)
      · cases hb : Wo.blk a.toNat with
        | true =>
          rw [Wo.tk_blank _ _ _ h35 hb] at hp
          exact ih t.length (by omega) t _ rfl p hp
        | false =>
          by_cases h0 : Wo.fst (a :: t) = 0
          · rw [Wo.tk_fault _ _ _ h35 hb h0] at hp; exact absurd hp (by simp)
          · rw [Wo.tk_word _ _ _ h35 hb h0] at hp
            have hle := Wo.fst_le (a :: t)
            simp only [List.length_cons] at hle
            rcases List.mem_cons.1 hp with rfl | hp
            · intro e
              have := congrArg List.length e
              simp only [List.length_take, List.length_cons, List.length_nil] at this
              omega
            · exact ih ((a :: t).drop (Wo.fst (a :: t))).length (by rw [List.length_drop, List.length_cons]; omega) _ _ rfl p hp
theorem rd_full (ls : List (List UInt8)) (n : Nat) : ∀ x ∈ (Wo.rd ls n).1, ∀ y ∈ x, y.1 ≠ [] := by
  induction ls generalizing n with
  | nil => intro x hx; exact absurd hx (by simp [Wo.rd])
  | cons l ls ih =>
    intro x hx
    cases e : (Wo.tk l 1).2 with
    | some c => rw [Wo.rd_fault e] at hx; exact absurd hx (by simp)
    | none =>
      by_cases hz : (Wo.tk l 1).1 = []
      · rw [Wo.rd_none e hz] at hx; exact ih _ x hx
      · rw [Wo.rd_some e hz] at hx
        rcases List.mem_cons.1 hx with rfl | hx
        · intro y hy
          simp only [Wo.wds, List.mem_map] at hy
          obtain ⟨p, hp, rfl⟩ := hy
          exact tk_ne l 1 p hp
        · exact ih _ x hx
theorem read_full (s : List UInt8) : ∀ x ∈ Wo.read s, ∀ y ∈ x, y.1 ≠ [] := by
  unfold Wo.read
  split
  · exact rd_full _ _
  · intro x hx; exact absurd hx (by simp)

structure DPInv (w : World) (width : Nat) (ls : List (List Wd)) (k : Nat) (v : Value) (ps : List (Ru.Rl × Value)) (wr : World) : Prop where
  rows : RsD wr w.heap.size v ps
  below : Below w.heap.size w wr
  len : ps.length = k
  few : k ≤ 4096
  le : k ≤ ls.length
  all : Ru.rds width ls [] = Ru.rds width (ls.drop k) (ps.map Prod.fst)
section
variable {w : World} {width : Nat} {ls : List (List Wd)} {k : Nat} {v : Value} {ps : List (Ru.Rl × Value)} {wr : World}
theorem DPInv.drop (_h : DPInv w width ls k v ps wr) {x : List Wd} (hx : ls[k]? = some x) : ls.drop k = x :: ls.drop (k + 1) := by
  have hlt := (List.getElem?_eq_some_iff.1 hx).1
  rw [List.drop_eq_getElem_cons hlt]
  rw [List.getElem?_eq_getElem hlt] at hx
  simp only [Option.some.injEq] at hx
  rw [hx]
theorem DPInv.faultR (h : DPInv w width ls k v ps wr) {x : List Wd} (hx : ls[k]? = some x) {f : Ru.Ft} (hf : Ru.rul width x = .error f) : Ru.rds width ls [] = .error f := by
  rw [h.all, h.drop hx, Ru.rds, hf]
theorem DPInv.faultS (h : DPInv w width ls k v ps wr) {x : List Wd} (hx : ls[k]? = some x) {y : Ru.Rl} (hy : Ru.rul width x = .ok y) (hin : decide ((y.prio, y.mat) ∈ ps.map keyOfR) = true) : Ru.rds width ls [] = .error (Ru.ft (atW x 0) 52) := by
  have : (ps.map Prod.fst).any (fun z => Ru.same z y) = true := by rw [any_key]; exact hin
  rw [h.all, h.drop hx, Ru.rds, hy, ← atW_0]
  simp only [this, if_true]
theorem DPInv.faultM (h : DPInv w width ls k v ps wr) {x : List Wd} (hx : ls[k]? = some x) {y : Ru.Rl} (hy : Ru.rul width x = .ok y) (hin : decide ((y.prio, y.mat) ∈ ps.map keyOfR) = false) (hk : 4096 ≤ k) : Ru.rds width ls [] = .error (Ru.ft (atW x 0) 3) := by
  have : (ps.map Prod.fst).any (fun z => Ru.same z y) = false := by rw [any_key]; exact hin
  rw [h.all, h.drop hx, Ru.rds, hy, ← atW_0]
  simp only [this, Bool.false_eq_true, if_false, List.length_map]
  rw [if_pos (by rw [h.len]; exact hk)]
theorem DPInv.onward (h : DPInv w width ls k v ps wr) {x : List Wd} (hx : ls[k]? = some x) {y : Ru.Rl} (hy : Ru.rul width x = .ok y) (hin : decide ((y.prio, y.mat) ∈ ps.map keyOfR) = false) (hk : k < 4096) (u : Value) : Ru.rds width ls [] = Ru.rds width (ls.drop (k + 1)) ((ps ++ [(y, u)]).map Prod.fst) := by
  have : (ps.map Prod.fst).any (fun z => Ru.same z y) = false := by rw [any_key]; exact hin
  rw [h.all, h.drop hx, Ru.rds, hy]
  simp only [this, Bool.false_eq_true, if_false, List.length_map]
  rw [if_neg (by rw [h.len]; omega)]
  simp
end
def DParsePost (w : World) (s : List UInt8) (width : Int) (en : Ending) (w' : World) : Prop :=
  Below w.heap.size w w' ∧ ((∃ f : Ru.Ft, Ru.prs s width = .error f ∧ en = .returned (.tuple #[.slice none 0 0, .int .i64 f.1, .int .i64 f.2.1, .int .i64 f.2.2])) ∨
    (∃ v ps, Ru.prs s width = .ok (ps.map Prod.fst) ∧ en = .returned (.tuple #[v, .int .i64 0, .int .i64 0, .int .i64 0]) ∧ RsD w' w.heap.size v ps))
end Go.Proofs.YtemmhingmeinjaaGreatDoor
namespace Go.Proofs.YtemmhingmeinjaaGreatDoor
open Go.RowKit
open Wo (Wd)

set_option maxRecDepth 20000 in
set_option maxHeartbeats 4000000 in
theorem DParse_any (s : List UInt8) (width : Int) (w : World) (hs : s.length ≤ 1048576) : Calls Tryz.prog 25 #[.string (tx s), .int .i64 width] w fun en w' => DParsePost w s width en w' := by
  obtain ⟨i0, hi, hz0, hz1, hz2⟩ := info_parts Tryz.infoRule
  have HI := hid hi
  have HZ0 := hid hz0
  have HZ1 := hid hz1
  have HZ2 := hid hz2
  clear hi hz0 hz1 hz2
  by_cases hw : 1 ≤ width ∧ width ≤ 128
  rotate_left
  · have HE := hid (show Ru.prs s width = .error (0, 0, 1) by unfold Ru.prs; rw [if_pos (by omega)])
    by_cases h1 : width < 1
    · go_enter Tryz.func25, Tryz.ntmps25
      go_wp2
      refine bodyPost_ret (v := .tuple #[.slice none 0 0, .int .i64 0, .int .i64 0, .int .i64 1]) (by simp [results, Tryz.results25, go_sem]) rfl ?_
      exact ⟨Below.refl _ _, Or.inl ⟨(0, 0, 1), HE.out, rfl⟩⟩
    · have h2 : (128 : Int) < width := by omega
      go_enter Tryz.func25, Tryz.ntmps25
      go_wp2
      refine bodyPost_ret (v := .tuple #[.slice none 0 0, .int .i64 0, .int .i64 0, .int .i64 1]) (by simp [results, Tryz.results25, go_sem]) rfl ?_
      exact ⟨Below.refl _ _, Or.inl ⟨(0, 0, 1), HE.out, rfl⟩⟩
  have hn1 : ¬ (width < 1 ∨ 128 < width) := by omega
  have HN := hid (RLines_any s w hs)
  have hwa : ¬ (width < 1) := by omega
  have hwb : ¬ ((128 : Int) < width) := by omega
  by_cases he : Wo.err s = 0
  rotate_left
  · obtain ⟨hne, herr⟩ : Wo.err s = 30 ∧ Ru.prs s width = .error (Wo.faultL s, Wo.faultC s, Wo.err s) := by
      refine ⟨?_, by unfold Ru.prs; rw [if_neg hn1, if_pos he]⟩
      unfold Wo.err at he ⊢
      split at he
      · exact absurd rfl he
      · rfl
    have HE := hid herr
    rw [hne] at HN HE
    obtain ⟨a, ha⟩ : ∃ a, a = Wo.faultL s := ⟨_, rfl⟩
    obtain ⟨b, hb⟩ : ∃ b, b = Wo.faultC s := ⟨_, rfl⟩
    rw [← ha, ← hb] at HN HE
    clear ha hb herr hne he hw hn1
    go_enter Tryz.func25, Tryz.ntmps25
    go_wp2_with fail
    refine HN.out.mono ?_
    rintro en w1 ⟨v, rfl, HL, hb1⟩
    obtain ⟨ao, cap, rfl⟩ := HL.out.form
    go_wp2
    refine bodyPost_ret (v := .tuple #[.slice none 0 0, .int .i64 a, .int .i64 b, .int .i64 30]) (by simp [results, Tryz.results25, go_sem]) rfl ?_
    exact ⟨hb1, Or.inl ⟨(a, b, 30), HE.out, rfl⟩⟩
  have hpr := hid (show Ru.prs s width = Ru.rds width.toNat (Wo.read s) [] by unfold Ru.prs; rw [if_neg hn1, if_neg (fun q => q he)])
  have hfz : Wo.faultL s = 0 ∧ Wo.faultC s = 0 := by
    unfold Wo.err at he
    unfold Wo.faultL Wo.faultC
    cases h : (Wo.rd (Wo.lns s) 1).2 with
    | none => exact ⟨rfl, rfl⟩
    | some p => rw [h] at he; cases he
  rw [hfz.1, hfz.2, he] at HN
  obtain ⟨n, hn⟩ : ∃ n : Nat, width = n := ⟨width.toNat, by omega⟩
  subst hn
  have hn128 : n ≤ 128 := by omega
  have HFULL := hid (read_full s)
  have HBND := hid (read_bounds s)
  obtain ⟨ls, hls⟩ : ∃ ls, ls = Wo.read s := ⟨_, rfl⟩
  have HLF := hid (fun (v : Value) (w1 : World) (q : LinesAt w1 w.heap.size v (Wo.read s)) (h0 : 0 < (Wo.read s).length) => lines_for q hs h0)
  rw [← hls] at HN hpr HFULL HBND HLF
  rw [show ((n : Int)).toNat = n from rfl] at hpr
  have hlsn := HBND.out.1
  clear hw hn1 he hfz hls
  go_enter Tryz.func25, Tryz.ntmps25
  go_wp2_with fail
  refine HN.out.mono ?_
  rintro en w1 ⟨v, rfl, HL, hb1⟩
  have HB1 := hid hb1
  have hsz1 : w.heap.size ≤ w1.heap.size := hb1.size
  clear hb1
  by_cases h0 : 0 < ls.length
  rotate_left
  · obtain ⟨ao, cap, rfl⟩ := HL.out.form
    have e0 : ls = [] := List.length_eq_zero_iff.1 (by omega)
    have HE := hid (hpr.out.trans (show Ru.rds n ls [] = .ok [] by rw [e0]; rfl))
    have hl0 : ls.length = 0 := by omega
    rw [hl0]
    clear e0 h0
    go_wp2_with fail
    refine wp_loop_rounds 1 ?_
    rw [rounds_succ]
    go_wp2
    refine bodyPost_ret (v := .tuple #[.slice none 0 0, .int .i64 0, .int .i64 0, .int .i64 0]) (by simp [results, Tryz.results25, go_sem]) rfl ?_
    exact ⟨HB1.out, Or.inr ⟨_, [], HE.out, rfl, World.ownsRow_nil _ _ _ _, fun q hq => absurd hq (by simp)⟩⟩
  obtain ⟨g, cap, G, C, rfl, hLs⟩ := HLF.out v w1 HL.out h0
  have HLS := hid hLs
  have hgl := hLs.old
  clear hLs h0
  go_wp2_with fail
  go_loopw [12, 13] (fun u i wr => ∃ (k : Nat) (v : Value) (ps : List (Ru.Rl × Value)), u = v ∧ i = .int .i64 k ∧ Hid (DPInv w1 n ls k v ps wr)) (fun _ i _ => ls.length - (intOf i).toNat)
  case atStart => exact ⟨0, _, [], rfl, rfl, ⟨⟨World.ownsRow_nil _ _ _ _, fun q hq => absurd hq (by simp)⟩, Below.refl _ _, rfl, by omega, Nat.zero_le _, by simp⟩⟩
  case round =>
    obtain ⟨k, v, ps, rfl, rfl, J⟩ := hrel
    obtain ⟨ao, vcap, rfl⟩ := own_form J.out.rows.own
    have hkle := J.out.le
    have hfew := J.out.few
    by_cases hlt : k < ls.length
    · obtain ⟨x, hx⟩ : ∃ x, ls[k]? = some x := ⟨ls[k], List.getElem?_eq_getElem hlt⟩
      have HX := hid hx
      have hLr := HLS.out.below J.out.below
      have hck := hLr.line k x hx
      have hsm := HLS.out.small x (List.mem_of_getElem? hx)
      have hkI : (k : Int) < (ls.length : Int) := by omega
      have hk0 : (0 : Int) ≤ (k : Int) := by omega
      have hgr := hLr.word k x hx
      have RF := hid (show RfAt (wr.alloc (.cells #[.slice (some ⟨G k, 0, none⟩) x.length (C k), .int .i64 0, .int .i64 0, .int .i64 0, .int .i64 0] 111)) wr.heap.size (G k) x 0 0 0 0 from
        ⟨⟨C k, new_0 _ _⟩, ⟨hgr.kept (heap_old _ _ hgr.1) (by simp), hsm.1, hsm.2.2, hsm.2.1⟩, by have := hgr.1; omega, Nat.zero_le _⟩)
      have HRU := hid (drule n RF.out (HFULL.out x (List.mem_of_getElem? hx)) hn128)
      have RS := hid (J.out.rows.below ((Below.refl _ _).alloc (Nat.le_refl _) (.cells #[.slice (some ⟨G k, 0, none⟩) x.length (C k), .int .i64 0, .int .i64 0, .int .i64 0, .int .i64 0] 111)))
      clear hx hLr hsm hgr
      go_wp2_with fail
      refine HRU.out.mono ?_
      rintro en w2 ⟨hg2, p, m, kk, u, rfl, ⟨uo, un, uc, rfl⟩, hor⟩
      have RS2 := hid (RS.out.reader RF.out hg2)
      have hsz2 : wr.heap.size < w2.heap.size := by have := hg2.size; simp at this; omega
      have BL2 := hid (show Below w1.heap.size w1 w2 from by
        have b0 := J.out.below.alloc J.out.below.size (.cells #[.slice (some ⟨G k, 0, none⟩) x.length (C k), .int .i64 0, .int .i64 0, .int .i64 0, .int .i64 0] 111)
        exact b0.grown hg2 b0.size (fun q hq => by simp only [Option.some.injEq] at hq; subst hq; exact J.out.below.size))
      clear hg2
      have BL3 := hid (BL2.out.alloc BL2.out.size (rob p (tx m) kk (.slice uo un uc)))
      have RS3 := hid (RS2.out.below ((Below.refl _ _).alloc (Nat.le_refl _) (rob p (tx m) kk (.slice uo un uc))))
      rcases hor with ⟨pp, j, hy, hrf, hP⟩ | ⟨f, j, hf, hf0, hrf⟩
      rotate_left
      · have HE := hid (hpr.out.trans (J.out.faultR HX.out hf))
        have RF3 := hid (hrf.alloc (rob p (tx m) kk (.slice uo un uc)))
        have hfI : ¬ ((f.2.2 : Int) = 0) := by omega
        have hfN : ¬ (f.2.2 = 0) := hf0
        clear hf hf0 hrf
        obtain ⟨_, z2, z3, z4, _⟩ := RF3.out.cells
        go_wp2_with fail
        go_quiet (fail)
        go_wp2
        refine bodyPost_ret (v := .tuple #[.slice none 0 0, .int .i64 f.1, .int .i64 f.2.1, .int .i64 f.2.2]) (by simp [results, Tryz.results25, go_sem]) rfl ?_
        exact ⟨below_drewN (HB1.out.trans (BL3.out.mono HB1.out.size)), Or.inl ⟨f, HE.out, rfl⟩⟩
      have HY := hid hy
      have HP := hid hP
      have RF3 := hid (hrf.alloc (rob p (tx m) kk (.slice uo un uc)))
      obtain ⟨z1, z2, z3, z4, y1, y2, y3, y4⟩ := RF3.out.cells
      have OB3 := hid (new_0 w2 (rob p (tx m) kk (.slice uo un uc)))
      have RF4 := hid ((hrf.step 0 (Nat.zero_le _)).alloc (rob p (tx m) kk (.slice uo un uc)))
      have RS4 := hid ((RS2.out.reader (w' := w2.setCell ⟨wr.heap.size, 1, none⟩ (.int .i64 ((0 : Nat) : Int))) hrf (grown_set _ _ _ _)).below ((Below.refl _ _).alloc (Nat.le_refl _) (rob p (tx m) kk (.slice uo un uc))))
      have OB4 := hid (show ((w2.setCell ⟨wr.heap.size, 1, none⟩ (.int .i64 ((0 : Nat) : Int))).alloc (rob p (tx m) kk (.slice uo un uc))).heap[w2.heap.size]? = some (rob p (tx m) kk (.slice uo un uc)) by
        have := new_0 (w2.setCell ⟨wr.heap.size, 1, none⟩ (.int .i64 ((0 : Nat) : Int))) (rob p (tx m) kk (.slice uo un uc))
        simpa using this)
      have BL4 := hid (show Below w1.heap.size w1 ((w2.setCell ⟨wr.heap.size, 1, none⟩ (.int .i64 ((0 : Nat) : Int))).alloc (rob p (tx m) kk (.slice uo un uc))) from by
        have b0 := BL2.out.setCell (p := ⟨wr.heap.size, 1, none⟩) J.out.below.size (.int .i64 ((0 : Nat) : Int))
        exact b0.alloc b0.size _)
      obtain ⟨o0, o1, o2, o3, _, _, _, _⟩ := rob_cells OB4.out
      have hpl : ps.length ≤ 4096 := by have := J.out.len; omega
      have HK := hid (known_any RS4.out.at0 (by omega) p m kk uo un uc)
      obtain ⟨kb, hkb⟩ : ∃ kb, kb = decide ((p, m) ∈ ps.map keyOfR) := ⟨_, rfl⟩
      rw [← hkb] at HK
      have HKB := hid hkb
      clear hkb hy hP hrf
      have HF52 := hid (fun w' (q : RfAt w' wr.heap.size (G k) x 0 0 0 0) => Fail_any q 52)
      have HF3 := hid (fun w' (q : RfAt w' wr.heap.size (G k) x 0 0 0 0) => Fail_any q 3)
      push_cast at RF4 RS4 OB4 BL4 o0 o1 o2 o3 HK
      cases kb with
      | true =>
        have HE := hid (hpr.out.trans (J.out.faultS HX.out HY.out HKB.out.symm))
        go_wp2_with fail
        refine HK.out.mono ?_
        rintro en w5 ⟨rfl, hb5⟩
        have HB5 := hid hb5
        clear hb5
        go_wp2_with fail
        refine (HF52.out _ (RF4.out.on HB5.out)).mono ?_
        rintro en w6 ⟨rfl, hrf6, hg6⟩
        have RF6 := hid hrf6
        have BL6 := hid (show Below w1.heap.size w1 w6 from (BL4.out.trans (HB5.out.mono BL4.out.size)).grown hg6 (Nat.le_trans BL4.out.size HB5.out.size) (fun q hq => by simp only [Option.some.injEq] at hq; subst hq; exact J.out.below.size))
        clear hrf6 hg6
        obtain ⟨_, z2, z3, z4, _⟩ := RF6.out.cells
        go_wp2_with fail
        go_quiet (fail)
        go_wp2
        refine bodyPost_ret (v := .tuple #[.slice none 0 0, .int .i64 (Ru.ft (atW x 0) 52).1, .int .i64 (Ru.ft (atW x 0) 52).2.1, .int .i64 (Ru.ft (atW x 0) 52).2.2]) (by simp [results, Tryz.results25, go_sem, Ru.ft]) rfl ?_
        exact ⟨below_drewN (HB1.out.trans (BL6.out.mono HB1.out.size)), Or.inl ⟨Ru.ft (atW x 0) 52, HE.out, rfl⟩⟩
      | false =>
        by_cases hk4 : 4096 ≤ k
        · have HE := hid (hpr.out.trans (J.out.faultM HX.out HY.out HKB.out.symm hk4))
          have hkI4 : (4096 : Int) ≤ (ps.length : Int) := by have := J.out.len; omega
          have hkN4 : 4096 ≤ ps.length := by have := J.out.len; omega
          go_wp2_with fail
          refine HK.out.mono ?_
          rintro en w5 ⟨rfl, hb5⟩
          have HB5 := hid hb5
          clear hb5
          go_wp2_with fail
          refine (HF3.out _ (RF4.out.on HB5.out)).mono ?_
          rintro en w6 ⟨rfl, hrf6, hg6⟩
          have RF6 := hid hrf6
          have BL6 := hid (show Below w1.heap.size w1 w6 from (BL4.out.trans (HB5.out.mono BL4.out.size)).grown hg6 (Nat.le_trans BL4.out.size HB5.out.size) (fun q hq => by simp only [Option.some.injEq] at hq; subst hq; exact J.out.below.size))
          clear hrf6 hg6
          obtain ⟨_, z2, z3, z4, _⟩ := RF6.out.cells
          go_wp2_with fail
          go_quiet (fail)
          go_wp2
          refine bodyPost_ret (v := .tuple #[.slice none 0 0, .int .i64 (Ru.ft (atW x 0) 3).1, .int .i64 (Ru.ft (atW x 0) 3).2.1, .int .i64 (Ru.ft (atW x 0) 3).2.2]) (by simp [results, Tryz.results25, go_sem, Ru.ft]) rfl ?_
          exact ⟨below_drewN (HB1.out.trans (BL6.out.mono HB1.out.size)), Or.inl ⟨Ru.ft (atW x 0) 3, HE.out, rfl⟩⟩
        · have hkI4 : ¬ ((4096 : Int) ≤ (ps.length : Int)) := by have := J.out.len; omega
          have hkN4 : ¬ (4096 ≤ ps.length) := by have := J.out.len; omega
          have HON := hid (J.out.onward HX.out HY.out HKB.out.symm (by omega) (.slice uo un uc))
          have P4 := hid (HP.out.kept (w' := (w2.setCell ⟨wr.heap.size, 1, none⟩ (.int .i64 0)).alloc (rob p (tx m) kk (.slice uo un uc))) (by
            intro b cs hb _
            have hbl := lt_of_block hb
            have hne : b ≠ wr.heap.size := fun e => by
              obtain ⟨c1, hc1⟩ := RF3.out.blk
              rw [heap_old _ _ (by omega), ← e, hb] at hc1
              simp only [Option.some.injEq, Obj.cells.injEq] at hc1
              exact absurd hc1.2.1 (by decide)
            rw [heap_old _ _ (by simpa using hbl), Below.heap_setCell _ _ _ _ hne]))
          go_wp2_with fail
          refine HK.out.mono ?_
          rintro en w5 ⟨rfl, hb5⟩
          have RF5 := hid (RF4.out.on hb5)
          obtain ⟨_, _, _, z54, _⟩ := RF5.out.cells
          have OB5 := hid (below_block hb5 OB4.out (lt_of_block OB4.out))
          obtain ⟨q0, q1, q2, q3, _, _, _, _⟩ := rob_cells OB5.out
          have RS5 := hid (RS4.out.below hb5)
          have P5 := hid (P4.out.kept (w' := w5) fun b cs hb _ => hb5.block b (lt_of_block hb))
          have BL5 := hid (BL4.out.trans (hb5.mono BL4.out.size))
          clear hb5
          have hsz5 : w1.heap.size ≤ w5.heap.size := BL5.out.size
          go_wp2_with (first | (at_builtin; refine wpList_append_own_at _ rfl _ _ 36 rfl w1.heap.size 51 i0 (.agg #[.int .i64 0, .string ByteArray.empty, .int .i64 0, .slice none 0 0]) 4 56 Tryz.underlying36 HI.out HZ0.out HZ1.out HZ2.out rfl (by decide) (.slice ao ps.length vcap) ps.length (flatR ps) rfl (RS5.out.own.alloc _) ⟨w5.heap.size, 0, none⟩ 1 1 [.int .i64 p, .string (tx m), .int .i64 kk, .slice uo un uc] rfl rfl (new_cells _ #[.int .i64 p, .string (tx m), .int .i64 kk, .slice uo un uc] _ _ rfl) ?c2 ?c3 ?c4 ?c5 ?_))
          case c2 => simp [Value.oneCell']
          case c3 => unfold maxLen; omega
          case c4 => omega
          case c5 => simp; omega
          intro v' w6 hown6 hgrow6 _ _
          obtain ⟨a6, c6, rfl⟩ := own_form hown6
          have J6 := hid (show DPInv w1 n ls (k + 1) (.slice a6 (ps.length + 1) c6) (ps ++ [(⟨p, m, kk, pp⟩, .slice uo un uc)]) w6 from by
            have r5 := RS5.out.below ((Below.refl _ _).alloc (Nat.le_refl _) (rob p (tx m) kk (.slice uo un uc)))
            refine ⟨r5.snoc (q := (⟨p, m, kk, pp⟩, .slice uo un uc)) (P5.out.kept fun b cs hb _ => heap_old _ _ (lt_of_block hb)) hown6 hgrow6, ?_, by simp [J.out.len], by omega, hlt, HON.out⟩
            have b5 := BL5.out.alloc BL5.out.size (rob p (tx m) kk (.slice uo un uc))
            exact b5.grown hgrow6 b5.size (fun q hq => (RS5.out.own.lt q hq).1))
          clear hown6 hgrow6
          go_wp2
          go_roundw
          case rel => exact ⟨k + 1, _, _, rfl, by go_num, J6.out⟩
          case measure => simp [intOf]; omega
    · have hkn : k = ls.length := by omega
      have HE := hid (hpr.out.trans (J.out.all.trans (by rw [hkn, List.drop_length, Ru.rds])))
      have hkI : ¬ ((k : Int) < (ls.length : Int)) := by omega
      clear hkn hlt
      go_wp2
      refine bodyPost_ret (v := .tuple #[.slice ao ps.length vcap, .int .i64 0, .int .i64 0, .int .i64 0]) (by simp [results, Tryz.results25, go_sem]) rfl ?_
      exact ⟨HB1.out.trans (J.out.below.mono HB1.out.size), Or.inr ⟨_, ps, HE.out, rfl, J.out.rows.own.mono hsz1, J.out.rows.ports⟩⟩
end Go.Proofs.YtemmhingmeinjaaGreatDoor
namespace Go.Proofs.YtemmhingmeinjaaGreatDoor
open Go.RowKit
open Wo (Wd)

def okPorts (ps : List (List UInt8)) : Prop := 1 ≤ ps.length ∧ ps.length ≤ 64 ∧ (∀ p ∈ ps, Wo.nameB p = true) ∧ Ru.Rise ps
theorem rise_at {ps : List (List UInt8)} (h : Ru.Rise ps) {i : Nat} (hi : i + 1 < ps.length) : ps[i] < ps[i + 1] := List.pairwise_iff_getElem.1 h i (i + 1) (by omega) hi (by omega)
theorem nameB_short {l : List UInt8} (h : Wo.nameB l = true) : l.length ≤ 64 := by
  unfold Wo.nameB at h
  simp only [decide_eq_true_eq] at h
  exact h.2.1

end Go.Proofs.YtemmhingmeinjaaGreatDoor
