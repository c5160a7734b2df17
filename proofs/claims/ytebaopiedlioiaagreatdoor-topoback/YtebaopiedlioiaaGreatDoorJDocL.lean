/-
  The document's link: may a link stand where it stands?
-/
import Derived.Test.YtebaopiedlioiaaGreatDoorJDocNAnd
import Derived.Test.YtebaopiedlioiaaGreatDoorWRefSAnd
import Derived.Test.YtebaopiedlioiaaGreatDoorJInsAnd
import Derived.Deep.DeepCutAuto
import Derived.BigQuiet
namespace Go.Proofs.YtebaopiedlioiaaGreatDoor
open Go.RowKit

/-- A topology in memory. -/
abbrev topJ (a b c : Value) : Obj := .cells #[a, b, c] 25
abbrev lkO (x : LkZ) : Obj := .cells #[.int .i64 x.1, .string (tx x.2.1), .int .i64 x.2.2.1, .string (tx x.2.2.2)] 83
theorem lkO_cells {w : World} {g : Nat} {a b : Int} {p q : List UInt8} (h : w.heap[g]? = some (lkO (a, p, b, q))) : w.cell? ⟨g, 0, none⟩ = some (.int .i64 a) ∧ w.cell? ⟨g, 1, none⟩ = some (.string (tx p)) ∧ w.cell? ⟨g, 2, none⟩ = some (.int .i64 b) ∧ w.cell? ⟨g, 3, none⟩ = some (.string (tx q)) := by
  refine ⟨?_, ?_, ?_, ?_⟩ <;> (rw [cell_at h]; rfl)
theorem topJ_cells {w : World} {g : Nat} {a b c : Value} (h : w.heap[g]? = some (topJ a b c)) : w.cell? ⟨g, 0, none⟩ = some a ∧ w.cell? ⟨g, 1, none⟩ = some b ∧ w.cell? ⟨g, 2, none⟩ = some c := by
  refine ⟨?_, ?_, ?_⟩ <;> (rw [cell_at h]; rfl)
/-- What stands still while links are looked at. -/
structure LnI (w : World) (dv lv : Option Addr) (N dc M lc : Nat) (wd : Value) (x : LkZ) (wr : World) : Prop where
  top : wr.heap[w.heap.size]? = some (topJ wd (.slice dv N dc) (.slice lv M lc))
  own : wr.heap[w.heap.size + 1]? = some (lkO x)
  below : Below w.heap.size w wr
theorem LnI.on {w : World} {dv lv : Option Addr} {N dc M lc : Nat} {wd : Value} {x : LkZ} {wr w' : World} (h : LnI w dv lv N dc M lc wd x wr) (hb : Below wr.heap.size wr w') : LnI w dv lv N dc M lc wd x w' :=
  ⟨(hb.block _ (lt_of_block h.top)).trans h.top, (hb.block _ (lt_of_block h.own)).trans h.own, ⟨hb.os.trans h.below.os, hb.tape.trans h.below.tape, hb.output.trans h.below.output, Nat.le_trans h.below.size hb.size, fun i hi => (hb.block i (Nat.lt_of_lt_of_le hi h.below.size)).trans (h.below.block i hi)⟩⟩
theorem LnI.drewN {w : World} {dv lv : Option Addr} {N dc M lc : Nat} {wd : Value} {x : LkZ} {wr : World} (h : LnI w dv lv N dc M lc wd x wr) (n : Nat) : LnI w dv lv N dc M lc wd x (wr.drewN n) := ⟨h.top, h.own, below_drewN h.below⟩
theorem LnI.drew {w : World} {dv lv : Option Addr} {N dc M lc : Nat} {wd : Value} {x : LkZ} {wr : World} (h : LnI w dv lv N dc M lc wd x wr) : LnI w dv lv N dc M lc wd x wr.drew := ⟨h.top, h.own, h.below.drew⟩
theorem LkV.at {w : World} {v : Value} {ls : List LkZ} (h : LkV w v ls) {k : Nat} (hk : k < ls.length) : ∃ G o cap, v = .slice (some ⟨G, o, none⟩) ls.length cap ∧ G < w.heap.size ∧ ∀ (i : Nat) (q : LkZ), ls[i]? = some q → w.cell? ⟨G, o + i * 4, none⟩ = some (.int .i64 q.1) ∧ w.cell? ⟨G, o + i * 4 + 1, none⟩ = some (.string (tx q.2.1)) ∧ w.cell? ⟨G, o + i * 4 + 2, none⟩ = some (.int .i64 q.2.2.1) ∧ w.cell? ⟨G, o + i * 4 + 3, none⟩ = some (.string (tx q.2.2.2)) := by
  obtain ⟨av, cap, e, h3⟩ := h.form
  rcases h3 with e3 | ⟨G, o, e2, h1, h2⟩
  · rw [e3] at hk; exact absurd hk (Nat.not_lt_zero _)
  · exact ⟨G, o, cap, by rw [e, e2], h1, h2⟩

set_option maxRecDepth 20000 in
set_option maxHeartbeats 2000000 in
theorem Rlink_any {w : World} {wd vd vl : Value} {ds : List (To.Dv × Value × Value)} {ls : List LkZ} (hD : DvL w vd ds) (hL : LkV w vl ls) {k : Nat} (hk : k < ls.length) (_hdl : ds.length ≤ 256) (hll : ls.length ≤ 4096) :
    Calls Tryz.prog 44 #[.agg #[wd, vd, vl], .int .i64 k] w fun e w' => e = .returned (.bool (lkB (ds.map (·.1)) ls k)) ∧ Below w.heap.size w w' := by
  obtain ⟨dv, dc, hvd, hdv⟩ := hD.form
  obtain ⟨G, o, lc, rfl, hG, hc⟩ := hL.at hk
  subst hvd
  obtain ⟨⟨a, p, b, q⟩, hx⟩ : ∃ x, ls[k]? = some x := ⟨_, List.getElem?_eq_getElem hk⟩
  obtain ⟨N, hN⟩ : ∃ N, N = ds.length := ⟨_, rfl⟩
  obtain ⟨M, hM⟩ : ∃ M, M = ls.length := ⟨_, rfl⟩
  have HD := hid hdv
  have HPR := hid hD.prt
  have HC := hid hc
  have HX := hid hx
  have HN := hid hN
  have HM := hid hM
  have HLB := hid (show lkB (ds.map (·.1)) ls k = (lkF N ls k (a, p, b, q) && ((hasP (ds.map (·.1)) a p && hasP (ds.map (·.1)) b q) && lkG ls k (a, p, b, q))) by
    unfold lkB; rw [getD_at hx, List.length_map, hN])
  rw [← hM] at hk hll ⊢
  rw [← hN]
  obtain ⟨W1, hW1⟩ : ∃ W1, W1 = w.alloc (topJ wd (.slice dv N dc) (.slice (some ⟨G, o, none⟩) M lc)) := ⟨_, rfl⟩
  have hb1 : Below w.heap.size w W1 := by rw [hW1]; exact (Below.refl _ _).alloc (Nat.le_refl _) _
  have ht1 : W1.heap[w.heap.size]? = some (topJ wd (.slice dv N dc) (.slice (some ⟨G, o, none⟩) M lc)) := by rw [hW1]; exact new_0 _ _
  obtain ⟨t0, t1, t2⟩ := topJ_cells ht1
  obtain ⟨y0, y1, y2, y3⟩ := hc k _ hx
  have x0 := (World.cell?_of_block (a := ⟨G, o + k * 4, none⟩) (hb1.block G hG)).trans y0
  have x1 := (World.cell?_of_block (a := ⟨G, o + k * 4 + 1, none⟩) (hb1.block G hG)).trans y1
  have x2 := (World.cell?_of_block (a := ⟨G, o + k * 4 + 2, none⟩) (hb1.block G hG)).trans y2
  have x3 := (World.cell?_of_block (a := ⟨G, o + k * 4 + 3, none⟩) (hb1.block G hG)).trans y3
  simp only at x0 x1 x2 x3
  have HB1 := hid hb1
  have HT1 := hid ht1
  have hs1 : W1.heap.size = w.heap.size + 1 := by rw [hW1]; simp
  have hkI : (k : Int) < (M : Int) := by omega
  have hk0 : (0 : Int) ≤ (k : Int) := by omega
  have I1 := hid (show LnI w dv (some ⟨G, o, none⟩) N dc M lc wd (a, p, b, q) (W1.alloc (lkO (a, p, b, q))).drew from by
    refine ⟨?_, ?_, ?_⟩
    · show (W1.alloc _).heap[_]? = _
      rw [Below.heap_alloc _ _ _ (by omega)]; exact ht1
    · rw [← hs1]; exact new_0 _ _
    · exact (hb1.alloc (by omega) _).drew)
  clear hc hx hN hM hdv hD hL y0 y1 y2 y3 hb1 ht1
  go_enter Tryz.func44, Tryz.ntmps44
  go_upto_region 1 with fail
  rw [← hW1]
  clear hW1
  go_cut [5, 6] (fun xp n wx => xp = .pointer (some ⟨w.heap.size + 1, 0, none⟩) ∧ n = .int .i64 N ∧ Hid (LnI w dv (some ⟨G, o, none⟩) N dc M lc wd (a, p, b, q) wx))
  case first =>
    go_region
    all_goals (go_wp2_with fail; go_meet; exact ⟨rfl, rfl, I1⟩)
  case rest =>
    obtain ⟨rfl, rfl, hI⟩ := hcut
    clear t0 t1 t2 x0 x1 x2 x3 I1 HB1 HT1
    obtain ⟨t0, t1, t2⟩ := topJ_cells hI.out.top
    obtain ⟨x0, x1, x2, x3⟩ := lkO_cells hI.out.own
    have HCW := hid (fun (W : World) (hb : Below wc.heap.size wc W) (i : Nat) (q : LkZ) (hq : ls[i]? = some q) => (by
      obtain ⟨y0, y1, y2, y3⟩ := HC.out i q hq
      have hb0 : W.heap[G]? = w.heap[G]? := (hb.block G (Nat.lt_of_lt_of_le hG hI.out.below.size)).trans (hI.out.below.block G hG)
      exact ⟨(World.cell?_of_block (a := ⟨G, o + i * 4, none⟩) hb0).trans y0, (World.cell?_of_block (a := ⟨G, o + i * 4 + 1, none⟩) hb0).trans y1, (World.cell?_of_block (a := ⟨G, o + i * 4 + 2, none⟩) hb0).trans y2, (World.cell?_of_block (a := ⟨G, o + i * 4 + 3, none⟩) hb0).trans y3⟩ : W.cell? ⟨G, o + i * 4, none⟩ = some (.int .i64 q.1) ∧ W.cell? ⟨G, o + i * 4 + 1, none⟩ = some (.string (tx q.2.1)) ∧ W.cell? ⟨G, o + i * 4 + 2, none⟩ = some (.int .i64 q.2.2.1) ∧ W.cell? ⟨G, o + i * 4 + 3, none⟩ = some (.string (tx q.2.2.2))))
    go_upto_region 2 with fail
    go_cut [61] (fun c wx => c = .bool (!lkF N ls k (a, p, b, q)) ∧ Hid (LnI w dv (some ⟨G, o, none⟩) N dc M lc wd (a, p, b, q) wx))
    case first =>
      by_cases q1 : a < 0
      · have HE := hid (show lkF N ls k (a, p, b, q) = false by unfold lkF; rw [decide_eq_false (by simpa using q1)]; rfl)
        go_quiet (fail)
        go_wp2
        go_meet
        exact ⟨by rw [HE.out]; rfl, hid (hI.out.drewN _)⟩
      have d1 : decide (a < 0) = false := decide_eq_false q1
      have E1 := hid (show decide (0 ≤ a) = true from decide_eq_true (by omega))
      by_cases q2 : (N : Int) ≤ b
      · have HE := hid (show lkF N ls k (a, p, b, q) = false by
          unfold lkF; rw [E1.out, decide_eq_false (show ¬ b < (N : Int) by omega)]; rfl)
        go_quiet (fail)
        go_wp2
        go_meet
        exact ⟨by rw [HE.out]; rfl, hid (hI.out.drewN _)⟩
      have d2 : decide ((N : Int) ≤ b) = false := decide_eq_false q2
      have E2 := hid (show decide (b < (N : Int)) = true from decide_eq_true (by omega))
      by_cases q3 : b < a
      · have HE := hid (show lkF N ls k (a, p, b, q) = false by
          unfold lkF; rw [E1.out, E2.out, decide_eq_false (show ¬ a ≤ b by omega)]; rfl)
        go_quiet (fail)
        go_wp2
        go_meet
        exact ⟨by rw [HE.out]; rfl, hid (hI.out.drewN _)⟩
      have d3 : decide (b < a) = false := decide_eq_false q3
      have E3 := hid (show decide (a ≤ b) = true from decide_eq_true (by omega))
      by_cases q4 : a = b
      · subst q4
        have C5 := hid (show decide (a = a) = true from decide_eq_true rfl)
        by_cases ql : p < q
        · have l4 : Op.bytesLess p q = true := by rw [bytesLess_eq]; exact decide_eq_true ql
          have E4 := hid (decide_eq_true ql)
          clear ql
          have HF := hid (show lkF N ls k (a, p, a, q) = (decide (k = 0) || befB (ls.getD (k - 1) lk0) (a, p, a, q)) by
            unfold lkF; rw [E1.out, E2.out, E3.out, E4.out]; simp)
          by_cases q5 : k = 0
          · have d5 : decide (0 < k) = false := decide_eq_false (by omega)
            have HE := hid (show lkF N ls k (a, p, a, q) = true by rw [HF.out, decide_eq_true q5]; rfl)
            clear q5
            go_quiet (fail)
            go_wp2
            go_meet
            exact ⟨by rw [HE.out]; rfl, hid (hI.out.drewN _)⟩
          · obtain ⟨t, ht⟩ : ∃ t, k = t + 1 := ⟨k - 1, by omega⟩
            have q6 : 0 < k := by omega
            have w1 : IntKind.i64.wrap ((k : Int) - 1) = (t : Int) := by rw [IntKind.wrap_i64]; omega
            obtain ⟨⟨a', p', b', q'⟩, hy⟩ : ∃ y, ls[t]? = some y := ⟨_, List.getElem?_eq_getElem (by have := HM.out; omega)⟩
            obtain ⟨y0, y1, y2, y3⟩ := HCW.out wc (Below.refl _ _) t _ hy
            simp only at y0 y1 y2 y3
            have HE := hid (show lkF N ls k (a, p, a, q) = befB (a', p', b', q') (a, p, a, q) by
              rw [HF.out, decide_eq_false q5, show k - 1 = t by omega, getD_at hy]; rfl)
            have HBE := hid (fun W => Rbefore_any (w := W) (x := (a', p', b', q')) (y := (a, p, a, q)))
            simp only at HBE
            obtain ⟨bb, hbb⟩ : ∃ bb, bb = befB (a', p', b', q') (a, p, a, q) := ⟨_, rfl⟩
            rw [← hbb] at HBE HE
            have tI : (t : Int) < (M : Int) := by omega
            have t0I : (0 : Int) ≤ (t : Int) := by omega
            have HS9 := hid (fun (w9 : World) (hb : Below wc.heap.size wc w9) => (by
              have hJ := hI.out.on hb
              obtain ⟨-, -, z2⟩ := topJ_cells hJ.top
              obtain ⟨z3, z4, z5, z6⟩ := lkO_cells hJ.own
              obtain ⟨z7, z8, z9, z10⟩ := HCW.out w9 hb t _ hy
              exact ⟨z3, z4, z5, z6, z2, z7, z8, z9, z10⟩ : w9.cell? ⟨w.heap.size + 1, 0, none⟩ = some (.int .i64 a) ∧ w9.cell? ⟨w.heap.size + 1, 1, none⟩ = some (.string (tx p)) ∧ w9.cell? ⟨w.heap.size + 1, 2, none⟩ = some (.int .i64 a) ∧ w9.cell? ⟨w.heap.size + 1, 3, none⟩ = some (.string (tx q)) ∧ w9.cell? ⟨w.heap.size, 2, none⟩ = some (.slice (some ⟨G, o, none⟩) M lc) ∧ w9.cell? ⟨G, o + t * 4, none⟩ = some (.int .i64 a') ∧ w9.cell? ⟨G, o + t * 4 + 1, none⟩ = some (.string (tx p')) ∧ w9.cell? ⟨G, o + t * 4 + 2, none⟩ = some (.int .i64 b') ∧ w9.cell? ⟨G, o + t * 4 + 3, none⟩ = some (.string (tx q'))))
            clear q5 ht hy hbb
            refine wp_region_held_drew (S := (fun W => W.cell? ⟨w.heap.size + 1, 0, none⟩ = some (.int .i64 a) ∧ W.cell? ⟨w.heap.size + 1, 1, none⟩ = some (.string (tx p)) ∧ W.cell? ⟨w.heap.size + 1, 2, none⟩ = some (.int .i64 a) ∧ W.cell? ⟨w.heap.size + 1, 3, none⟩ = some (.string (tx q)) ∧ W.cell? ⟨w.heap.size, 2, none⟩ = some (.slice (some ⟨G, o, none⟩) M lc) ∧ W.cell? ⟨G, o + t * 4, none⟩ = some (.int .i64 a') ∧ W.cell? ⟨G, o + t * 4 + 1, none⟩ = some (.string (tx p')) ∧ W.cell? ⟨G, o + t * 4 + 2, none⟩ = some (.int .i64 b') ∧ W.cell? ⟨G, o + t * 4 + 3, none⟩ = some (.string (tx q')))) (by kernel_rfl) ?hS0 (fun hHeld => ?_)
            case hS0 => go_keep
            refine tkH (i := 0) (v := ?v0) rfl (by kernel_rfl) (by kernel_rfl) (by kernel_rfl) (fun _ _ _ h => h) (by rfl) ?y0 (by assumption) ?r0
            case y0 => (intro w hSw; (try dsimp only at hSw); go_simp; (try with_reducible rfl))
            (try simp only [Act.put, List.setIfInBounds_toArray, List.set_cons_zero, List.set_cons_succ])
            refine tkH (i := 1) (v := ?v1) rfl (by kernel_rfl) (by kernel_rfl) (by kernel_rfl) (fun _ _ _ h => h) (by rfl) ?y1 (by assumption) ?r1
            case y1 => (intro w hSw; (try dsimp only at hSw); go_simp; (try with_reducible rfl))
            (try simp only [Act.put, List.setIfInBounds_toArray, List.set_cons_zero, List.set_cons_succ])
            refine tkH (i := 2) (v := ?v2) rfl (by kernel_rfl) (by kernel_rfl) (by kernel_rfl) (fun _ _ _ h => h) (by rfl) ?y2 (by assumption) ?r2
            case y2 => (intro w hSw; (try dsimp only at hSw); go_simp; (try with_reducible rfl))
            (try simp only [Act.put, List.setIfInBounds_toArray, List.set_cons_zero, List.set_cons_succ])
            refine tkH (i := 3) (v := ?v3) rfl (by kernel_rfl) (by kernel_rfl) (by kernel_rfl) (fun _ _ _ h => h) (by rfl) ?y3 (by assumption) ?r3
            case y3 => (intro w hSw; (try dsimp only at hSw); go_simp; (try with_reducible rfl))
            (try simp only [Act.put, List.setIfInBounds_toArray, List.set_cons_zero, List.set_cons_succ])
            refine tkH (i := 4) (v := ?v4) rfl (by kernel_rfl) (by kernel_rfl) (by kernel_rfl) (fun _ _ _ h => h) (by rfl) ?y4 (by assumption) ?r4
            case y4 => (intro w hSw; (try dsimp only at hSw); go_simp; (try with_reducible rfl))
            (try simp only [Act.put, List.setIfInBounds_toArray, List.set_cons_zero, List.set_cons_succ])
            refine tkH (i := 5) (v := ?v5) rfl (by kernel_rfl) (by kernel_rfl) (by kernel_rfl) (fun _ _ _ h => h) (by rfl) ?y5 (by assumption) ?r5
            case y5 => (intro w hSw; (try dsimp only at hSw); go_simp; (try with_reducible rfl))
            (try simp only [Act.put, List.setIfInBounds_toArray, List.set_cons_zero, List.set_cons_succ])
            refine tkH (i := 6) (v := ?v6) rfl (by kernel_rfl) (by kernel_rfl) (by kernel_rfl) (fun _ _ _ h => h) (by rfl) ?y6 (by assumption) ?r6
            case y6 => (intro w hSw; (try dsimp only at hSw); go_simp; (try with_reducible rfl))
            (try simp only [Act.put, List.setIfInBounds_toArray, List.set_cons_zero, List.set_cons_succ])
            refine tkH (i := 7) (v := ?v7) rfl (by kernel_rfl) (by kernel_rfl) (by kernel_rfl) (fun _ _ _ h => h) (by rfl) ?y7 (by assumption) ?r7
            case y7 => (intro w hSw; (try dsimp only at hSw); go_simp; (try with_reducible rfl))
            (try simp only [Act.put, List.setIfInBounds_toArray, List.set_cons_zero, List.set_cons_succ])
            refine tkH (i := 8) (v := ?v8) rfl (by kernel_rfl) (by kernel_rfl) (by kernel_rfl) (fun _ _ _ h => h) (by rfl) ?y8 (by assumption) ?r8
            case y8 => (intro w hSw; (try dsimp only at hSw); go_simp; (try with_reducible rfl))
            (try simp only [Act.put, List.setIfInBounds_toArray, List.set_cons_zero, List.set_cons_succ])
            refine tkH (i := 9) (v := ?v9) rfl (by kernel_rfl) (by kernel_rfl) (by kernel_rfl) (fun _ _ _ h => h) (by rfl) ?y9 (by assumption) ?r9
            case y9 => (intro w hSw; (try dsimp only at hSw); go_simp; (try with_reducible rfl))
            (try simp only [Act.put, List.setIfInBounds_toArray, List.set_cons_zero, List.set_cons_succ])
            refine tkH (i := 10) (v := ?v10) rfl (by kernel_rfl) (by kernel_rfl) (by kernel_rfl) (fun _ _ _ h => h) (by rfl) ?y10 (by assumption) ?r10
            case y10 => (intro w hSw; (try dsimp only at hSw); go_simp; (try with_reducible rfl))
            (try simp only [Act.put, List.setIfInBounds_toArray, List.set_cons_zero, List.set_cons_succ])
            refine tkH (i := 11) (v := ?v11) rfl (by kernel_rfl) (by kernel_rfl) (by kernel_rfl) (fun _ _ _ h => h) (by rfl) ?y11 (by assumption) ?r11
            case y11 => (intro w hSw; (try dsimp only at hSw); go_simp; (try with_reducible rfl))
            (try simp only [Act.put, List.setIfInBounds_toArray, List.set_cons_zero, List.set_cons_succ])
            refine tkH (i := 12) (v := ?v12) rfl (by kernel_rfl) (by kernel_rfl) (by kernel_rfl) (fun _ _ _ h => h) (by rfl) ?y12 (by assumption) ?r12
            case y12 => (intro w hSw; (try dsimp only at hSw); go_simp; (try with_reducible rfl))
            (try simp only [Act.put, List.setIfInBounds_toArray, List.set_cons_zero, List.set_cons_succ])
            refine tkH (i := 13) (v := ?v13) rfl (by kernel_rfl) (by kernel_rfl) (by kernel_rfl) (fun _ _ _ h => h) (by rfl) ?y13 (by assumption) ?r13
            case y13 => (intro w hSw; (try dsimp only at hSw); go_simp; (try with_reducible rfl))
            (try simp only [Act.put, List.setIfInBounds_toArray, List.set_cons_zero, List.set_cons_succ])
            refine tkH (i := 14) (v := ?v14) rfl (by kernel_rfl) (by kernel_rfl) (by kernel_rfl) (fun _ _ _ h => h) (by rfl) ?y14 (by assumption) ?r14
            case y14 => (intro w hSw; (try dsimp only at hSw); go_simp; (try with_reducible rfl))
            (try simp only [Act.put, List.setIfInBounds_toArray, List.set_cons_zero, List.set_cons_succ])
            refine tkH (i := 15) (v := ?v15) rfl (by kernel_rfl) (by kernel_rfl) (by kernel_rfl) (fun _ _ _ h => h) (by rfl) ?y15 (by assumption) ?r15
            case y15 => (intro w hSw; (try dsimp only at hSw); go_simp; (try with_reducible rfl))
            (try simp only [Act.put, List.setIfInBounds_toArray, List.set_cons_zero, List.set_cons_succ])
            refine tkH (i := 16) (v := ?v16) rfl (by kernel_rfl) (by kernel_rfl) (by kernel_rfl) (fun _ _ _ h => h) (by rfl) ?y16 (by assumption) ?r16
            case y16 => (intro w hSw; (try dsimp only at hSw); go_simp; (try with_reducible rfl))
            (try simp only [Act.put, List.setIfInBounds_toArray, List.set_cons_zero, List.set_cons_succ])
            refine tkH (i := 17) (v := ?v17) rfl (by kernel_rfl) (by kernel_rfl) (by kernel_rfl) (fun _ _ _ h => h) (by rfl) ?y17 (by assumption) ?r17
            case y17 => (intro w hSw; (try dsimp only at hSw); go_simp; (try with_reducible rfl))
            (try simp only [Act.put, List.setIfInBounds_toArray, List.set_cons_zero, List.set_cons_succ])
            refine tkH (i := 18) (v := ?v18) rfl (by kernel_rfl) (by kernel_rfl) (by kernel_rfl) (fun _ _ _ h => h) (by rfl) ?y18 (by assumption) ?r18
            case y18 => (intro w hSw; (try dsimp only at hSw); go_simp; (try with_reducible rfl))
            (try simp only [Act.put, List.setIfInBounds_toArray, List.set_cons_zero, List.set_cons_succ])
            refine tkH (i := 19) (v := ?v19) rfl (by kernel_rfl) (by kernel_rfl) (by kernel_rfl) (fun _ _ _ h => h) (by rfl) ?y19 (by assumption) ?r19
            case y19 => (intro w hSw; (try dsimp only at hSw); go_simp; (try with_reducible rfl))
            (try simp only [Act.put, List.setIfInBounds_toArray, List.set_cons_zero, List.set_cons_succ])
            refine tkH (i := 20) (v := ?v20) rfl (by kernel_rfl) (by kernel_rfl) (by kernel_rfl) (fun _ _ _ h => h) (by rfl) ?y20 (by assumption) ?r20
            case y20 => (intro w hSw; (try dsimp only at hSw); go_simp; (try with_reducible rfl))
            (try simp only [Act.put, List.setIfInBounds_toArray, List.set_cons_zero, List.set_cons_succ])
            refine tkH (i := 21) (v := ?v21) rfl (by kernel_rfl) (by kernel_rfl) (by kernel_rfl) (fun _ _ _ h => h) (by rfl) ?y21 (by assumption) ?r21
            case y21 => (intro w hSw; (try dsimp only at hSw); go_simp; (try with_reducible rfl))
            (try simp only [Act.put, List.setIfInBounds_toArray, List.set_cons_zero, List.set_cons_succ])
            refine tkH (i := 22) (v := ?v22) rfl (by kernel_rfl) (by kernel_rfl) (by kernel_rfl) (fun _ _ _ h => h) (by rfl) ?y22 (by assumption) ?r22
            case y22 => (intro w hSw; (try dsimp only at hSw); go_simp; (try with_reducible rfl))
            (try simp only [Act.put, List.setIfInBounds_toArray, List.set_cons_zero, List.set_cons_succ])
            refine tkH (i := 23) (v := ?v23) rfl (by kernel_rfl) (by kernel_rfl) (by kernel_rfl) (fun _ _ _ h => h) (by rfl) ?y23 (by assumption) ?r23
            case y23 => (intro w hSw; (try dsimp only at hSw); go_simp; (try with_reducible rfl))
            (try simp only [Act.put, List.setIfInBounds_toArray, List.set_cons_zero, List.set_cons_succ])
            refine tkH (i := 24) (v := ?v24) rfl (by kernel_rfl) (by kernel_rfl) (by kernel_rfl) (fun _ _ _ h => h) (by rfl) ?y24 (by assumption) ?r24
            case y24 => (intro w hSw; (try dsimp only at hSw); go_simp; (try with_reducible rfl))
            (try simp only [Act.put, List.setIfInBounds_toArray, List.set_cons_zero, List.set_cons_succ])
            refine tkH (i := 25) (v := ?v25) rfl (by kernel_rfl) (by kernel_rfl) (by kernel_rfl) (fun _ _ _ h => h) (by rfl) ?y25 (by assumption) ?r25
            case y25 => (intro w hSw; (try dsimp only at hSw); go_simp; (try with_reducible rfl))
            (try simp only [Act.put, List.setIfInBounds_toArray, List.set_cons_zero, List.set_cons_succ])
            refine tkH (i := 26) (v := ?v26) rfl (by kernel_rfl) (by kernel_rfl) (by kernel_rfl) (fun _ _ _ h => h) (by rfl) ?y26 (by assumption) ?r26
            case y26 => (intro w hSw; (try dsimp only at hSw); go_simp; (try with_reducible rfl))
            (try simp only [Act.put, List.setIfInBounds_toArray, List.set_cons_zero, List.set_cons_succ])
            refine tkH (i := 27) (v := ?v27) rfl (by kernel_rfl) (by kernel_rfl) (by kernel_rfl) (fun _ _ _ h => h) (by rfl) ?y27 (by assumption) ?r27
            case y27 => (intro w hSw; (try dsimp only at hSw); go_simp; (try with_reducible rfl))
            (try simp only [Act.put, List.setIfInBounds_toArray, List.set_cons_zero, List.set_cons_succ])
            refine tkH (i := 28) (v := ?v28) rfl (by kernel_rfl) (by kernel_rfl) (by kernel_rfl) (fun _ _ _ h => h) (by rfl) ?y28 (by assumption) ?r28
            case y28 => (intro w hSw; (try dsimp only at hSw); go_simp; (try with_reducible rfl))
            (try simp only [Act.put, List.setIfInBounds_toArray, List.set_cons_zero, List.set_cons_succ])
            refine tkH (i := 29) (v := ?v29) rfl (by kernel_rfl) (by kernel_rfl) (by kernel_rfl) (fun _ _ _ h => h) (by rfl) ?y29 (by assumption) ?r29
            case y29 => (intro w hSw; (try dsimp only at hSw); go_simp; (try with_reducible rfl))
            (try simp only [Act.put, List.setIfInBounds_toArray, List.set_cons_zero, List.set_cons_succ])
            refine tkH (i := 30) (v := ?v30) rfl (by kernel_rfl) (by kernel_rfl) (by kernel_rfl) (fun _ _ _ h => h) (by rfl) ?y30 (by assumption) ?r30
            case y30 => (intro w hSw; (try dsimp only at hSw); go_simp; (try with_reducible rfl))
            (try simp only [Act.put, List.setIfInBounds_toArray, List.set_cons_zero, List.set_cons_succ])
            refine tkH (i := 31) (v := ?v31) rfl (by kernel_rfl) (by kernel_rfl) (by kernel_rfl) (fun _ _ _ h => h) (by rfl) ?y31 (by assumption) ?r31
            case y31 => (intro w hSw; (try dsimp only at hSw); go_simp; (try with_reducible rfl))
            (try simp only [Act.put, List.setIfInBounds_toArray, List.set_cons_zero, List.set_cons_succ])
            refine tkH (i := 32) (v := ?v32) rfl (by kernel_rfl) (by kernel_rfl) (by kernel_rfl) (fun _ _ _ h => h) (by rfl) ?y32 (by assumption) ?r32
            case y32 => (intro w hSw; (try dsimp only at hSw); go_simp; (try with_reducible rfl))
            (try simp only [Act.put, List.setIfInBounds_toArray, List.set_cons_zero, List.set_cons_succ])
            refine tkH (i := 33) (v := ?v33) rfl (by kernel_rfl) (by kernel_rfl) (by kernel_rfl) (fun _ _ _ h => h) (by rfl) ?y33 (by assumption) ?r33
            case y33 => (intro w hSw; (try dsimp only at hSw); go_simp; (try with_reducible rfl))
            (try simp only [Act.put, List.setIfInBounds_toArray, List.set_cons_zero, List.set_cons_succ])
            refine tkH (i := 34) (v := ?v34) rfl (by kernel_rfl) (by kernel_rfl) (by kernel_rfl) (fun _ _ _ h => h) (by rfl) ?y34 (by assumption) ?r34
            case y34 => (intro w hSw; (try dsimp only at hSw); go_simp; (try with_reducible rfl))
            (try simp only [Act.put, List.setIfInBounds_toArray, List.set_cons_zero, List.set_cons_succ])
            refine tkH (i := 35) (v := ?v35) rfl (by kernel_rfl) (by kernel_rfl) (by kernel_rfl) (fun _ _ _ h => h) (by rfl) ?y35 (by assumption) ?r35
            case y35 => (intro w hSw; (try dsimp only at hSw); go_simp; (try with_reducible rfl))
            (try simp only [Act.put, List.setIfInBounds_toArray, List.set_cons_zero, List.set_cons_succ])
            refine tkH (i := 36) (v := ?v36) rfl (by kernel_rfl) (by kernel_rfl) (by kernel_rfl) (fun _ _ _ h => h) (by rfl) ?y36 (by assumption) ?r36
            case y36 => (intro w hSw; (try dsimp only at hSw); go_simp; (try with_reducible rfl))
            (try simp only [Act.put, List.setIfInBounds_toArray, List.set_cons_zero, List.set_cons_succ])
            refine tkH (i := 37) (v := ?v37) rfl (by kernel_rfl) (by kernel_rfl) (by kernel_rfl) (fun _ _ _ h => h) (by rfl) ?y37 (by assumption) ?r37
            case y37 => (intro w hSw; (try dsimp only at hSw); go_simp; (try with_reducible rfl))
            (try simp only [Act.put, List.setIfInBounds_toArray, List.set_cons_zero, List.set_cons_succ])
            refine tkH (i := 38) (v := ?v38) rfl (by kernel_rfl) (by kernel_rfl) (by kernel_rfl) (fun _ _ _ h => h) (by rfl) ?y38 (by assumption) ?r38
            case y38 => (intro w hSw; (try dsimp only at hSw); go_simp; (try with_reducible rfl))
            (try simp only [Act.put, List.setIfInBounds_toArray, List.set_cons_zero, List.set_cons_succ])
            refine tkH (i := 39) (v := ?v39) rfl (by kernel_rfl) (by kernel_rfl) (by kernel_rfl) (fun _ _ _ h => h) (by rfl) ?y39 (by assumption) ?r39
            case y39 => (intro w hSw; (try dsimp only at hSw); go_simp; (try with_reducible rfl))
            (try simp only [Act.put, List.setIfInBounds_toArray, List.set_cons_zero, List.set_cons_succ])
            refine tkH (i := 40) (v := ?v40) rfl (by kernel_rfl) (by kernel_rfl) (by kernel_rfl) (fun _ _ _ h => h) (by rfl) ?y40 (by assumption) ?r40
            case y40 => (intro w hSw; (try dsimp only at hSw); go_simp; (try with_reducible rfl))
            (try simp only [Act.put, List.setIfInBounds_toArray, List.set_cons_zero, List.set_cons_succ])
            refine caH (i := 41) rfl (by kernel_rfl) (by rfl) (fun K hK => ?_)
            go_simp
            go_at_call 67
            refine (HBE.out _).mono ?_
            rintro en w5 ⟨rfl, hb5⟩
            have HB5 := hid (show Below wc.heap.size wc w5 from ⟨hb5.os, hb5.tape, hb5.output, hb5.size, hb5.block⟩)
            have S9 := HS9.out w5 HB5.out
            clear hb5
            refine hK.out _ _ (S9) (fun hHeld => ?_)
            clear hK K
            (try simp only [Act.put, List.setIfInBounds_toArray, List.set_cons_zero, List.set_cons_succ])
            refine tkH (i := 42) (v := ?v42) rfl (by kernel_rfl) (by kernel_rfl) (by kernel_rfl) (fun _ _ _ h => h) (by rfl) ?y42 (by assumption) ?r42
            case y42 => (intro w hSw; (try dsimp only at hSw); go_simp; (try with_reducible rfl))
            (try simp only [Act.put, List.setIfInBounds_toArray, List.set_cons_zero, List.set_cons_succ])
            refine tkH (i := 43) (v := ?v43) rfl (by kernel_rfl) (by kernel_rfl) (by kernel_rfl) (fun _ _ _ h => h) (by rfl) ?y43 (by assumption) ?r43
            case y43 => (intro w hSw; (try dsimp only at hSw); go_simp; (try with_reducible rfl))
            (try simp only [Act.put, List.setIfInBounds_toArray, List.set_cons_zero, List.set_cons_succ])
            refine tkH (i := 44) (v := ?v44) rfl (by kernel_rfl) (by kernel_rfl) (by kernel_rfl) (fun _ _ _ h => h) (by rfl) ?y44 (by assumption) ?r44
            case y44 => (intro w hSw; (try dsimp only at hSw); go_simp; (try with_reducible rfl))
            (try simp only [Act.put, List.setIfInBounds_toArray, List.set_cons_zero, List.set_cons_succ])
            refine wpAnyH_done (by kernel_rfl) ?_ _
            go_wp2
            go_meet
            exact ⟨by rw [HE.out], hid (hI.out.on HB5.out)⟩
        · have l4 : Op.bytesLess p q = false := by rw [bytesLess_eq]; exact decide_eq_false ql
          have HE := hid (show lkF N ls k (a, p, a, q) = false by
            unfold lkF; rw [E1.out, E2.out, E3.out, C5.out, decide_eq_false ql]; rfl)
          clear ql
          go_quiet (fail)
          go_wp2
          go_meet
          exact ⟨by rw [HE.out]; rfl, hid (hI.out.drewN _)⟩
      · have c4 : (a == b) = false := by rw [beq_eq_false_iff_ne]; exact q4
        have E4 := hid (decide_eq_false q4)
        clear q4
        have HF := hid (show lkF N ls k (a, p, b, q) = (decide (k = 0) || befB (ls.getD (k - 1) lk0) (a, p, b, q)) by
          unfold lkF; rw [E1.out, E2.out, E3.out, E4.out]; simp)
        by_cases q5 : k = 0
        · have d5 : decide (0 < k) = false := decide_eq_false (by omega)
          have HE := hid (show lkF N ls k (a, p, b, q) = true by rw [HF.out, decide_eq_true q5]; rfl)
          clear q5
          go_quiet (fail)
          go_wp2
          go_meet
          exact ⟨by rw [HE.out]; rfl, hid (hI.out.drewN _)⟩
        · obtain ⟨t, ht⟩ : ∃ t, k = t + 1 := ⟨k - 1, by omega⟩
          have q6 : 0 < k := by omega
          have w1 : IntKind.i64.wrap ((k : Int) - 1) = (t : Int) := by rw [IntKind.wrap_i64]; omega
          obtain ⟨⟨a', p', b', q'⟩, hy⟩ : ∃ y, ls[t]? = some y := ⟨_, List.getElem?_eq_getElem (by have := HM.out; omega)⟩
          obtain ⟨y0, y1, y2, y3⟩ := HCW.out wc (Below.refl _ _) t _ hy
          simp only at y0 y1 y2 y3
          have HE := hid (show lkF N ls k (a, p, b, q) = befB (a', p', b', q') (a, p, b, q) by
            rw [HF.out, decide_eq_false q5, show k - 1 = t by omega, getD_at hy]; rfl)
          have HBE := hid (fun W => Rbefore_any (w := W) (x := (a', p', b', q')) (y := (a, p, b, q)))
          simp only at HBE
          obtain ⟨bb, hbb⟩ : ∃ bb, bb = befB (a', p', b', q') (a, p, b, q) := ⟨_, rfl⟩
          rw [← hbb] at HBE HE
          have tI : (t : Int) < (M : Int) := by omega
          have t0I : (0 : Int) ≤ (t : Int) := by omega
          have HS9 := hid (fun (w9 : World) (hb : Below wc.heap.size wc w9) => (by
            have hJ := hI.out.on hb
            obtain ⟨-, -, z2⟩ := topJ_cells hJ.top
            obtain ⟨z3, z4, z5, z6⟩ := lkO_cells hJ.own
            obtain ⟨z7, z8, z9, z10⟩ := HCW.out w9 hb t _ hy
            exact ⟨z3, z4, z5, z6, z2, z7, z8, z9, z10⟩ : w9.cell? ⟨w.heap.size + 1, 0, none⟩ = some (.int .i64 a) ∧ w9.cell? ⟨w.heap.size + 1, 1, none⟩ = some (.string (tx p)) ∧ w9.cell? ⟨w.heap.size + 1, 2, none⟩ = some (.int .i64 b) ∧ w9.cell? ⟨w.heap.size + 1, 3, none⟩ = some (.string (tx q)) ∧ w9.cell? ⟨w.heap.size, 2, none⟩ = some (.slice (some ⟨G, o, none⟩) M lc) ∧ w9.cell? ⟨G, o + t * 4, none⟩ = some (.int .i64 a') ∧ w9.cell? ⟨G, o + t * 4 + 1, none⟩ = some (.string (tx p')) ∧ w9.cell? ⟨G, o + t * 4 + 2, none⟩ = some (.int .i64 b') ∧ w9.cell? ⟨G, o + t * 4 + 3, none⟩ = some (.string (tx q'))))
          clear q5 ht hy hbb
          refine wp_region_held_drew (S := (fun W => W.cell? ⟨w.heap.size + 1, 0, none⟩ = some (.int .i64 a) ∧ W.cell? ⟨w.heap.size + 1, 1, none⟩ = some (.string (tx p)) ∧ W.cell? ⟨w.heap.size + 1, 2, none⟩ = some (.int .i64 b) ∧ W.cell? ⟨w.heap.size + 1, 3, none⟩ = some (.string (tx q)) ∧ W.cell? ⟨w.heap.size, 2, none⟩ = some (.slice (some ⟨G, o, none⟩) M lc) ∧ W.cell? ⟨G, o + t * 4, none⟩ = some (.int .i64 a') ∧ W.cell? ⟨G, o + t * 4 + 1, none⟩ = some (.string (tx p')) ∧ W.cell? ⟨G, o + t * 4 + 2, none⟩ = some (.int .i64 b') ∧ W.cell? ⟨G, o + t * 4 + 3, none⟩ = some (.string (tx q')))) (by kernel_rfl) ?hSb0 (fun hHeld => ?_)
          case hSb0 => go_keep
          refine tkH (i := 0) (v := ?vb0) rfl (by kernel_rfl) (by kernel_rfl) (by kernel_rfl) (fun _ _ _ h => h) (by rfl) ?yb0 (by assumption) ?rb0
          case yb0 => (intro w hSw; (try dsimp only at hSw); go_simp; (try with_reducible rfl))
          (try simp only [Act.put, List.setIfInBounds_toArray, List.set_cons_zero, List.set_cons_succ])
          refine tkH (i := 1) (v := ?vb1) rfl (by kernel_rfl) (by kernel_rfl) (by kernel_rfl) (fun _ _ _ h => h) (by rfl) ?yb1 (by assumption) ?rb1
          case yb1 => (intro w hSw; (try dsimp only at hSw); go_simp; (try with_reducible rfl))
          (try simp only [Act.put, List.setIfInBounds_toArray, List.set_cons_zero, List.set_cons_succ])
          refine tkH (i := 2) (v := ?vb2) rfl (by kernel_rfl) (by kernel_rfl) (by kernel_rfl) (fun _ _ _ h => h) (by rfl) ?yb2 (by assumption) ?rb2
          case yb2 => (intro w hSw; (try dsimp only at hSw); go_simp; (try with_reducible rfl))
          (try simp only [Act.put, List.setIfInBounds_toArray, List.set_cons_zero, List.set_cons_succ])
          refine tkH (i := 3) (v := ?vb3) rfl (by kernel_rfl) (by kernel_rfl) (by kernel_rfl) (fun _ _ _ h => h) (by rfl) ?yb3 (by assumption) ?rb3
          case yb3 => (intro w hSw; (try dsimp only at hSw); go_simp; (try with_reducible rfl))
          (try simp only [Act.put, List.setIfInBounds_toArray, List.set_cons_zero, List.set_cons_succ])
          refine tkH (i := 4) (v := ?vb4) rfl (by kernel_rfl) (by kernel_rfl) (by kernel_rfl) (fun _ _ _ h => h) (by rfl) ?yb4 (by assumption) ?rb4
          case yb4 => (intro w hSw; (try dsimp only at hSw); go_simp; (try with_reducible rfl))
          (try simp only [Act.put, List.setIfInBounds_toArray, List.set_cons_zero, List.set_cons_succ])
          refine tkH (i := 5) (v := ?vb5) rfl (by kernel_rfl) (by kernel_rfl) (by kernel_rfl) (fun _ _ _ h => h) (by rfl) ?yb5 (by assumption) ?rb5
          case yb5 => (intro w hSw; (try dsimp only at hSw); go_simp; (try with_reducible rfl))
          (try simp only [Act.put, List.setIfInBounds_toArray, List.set_cons_zero, List.set_cons_succ])
          refine tkH (i := 6) (v := ?vb6) rfl (by kernel_rfl) (by kernel_rfl) (by kernel_rfl) (fun _ _ _ h => h) (by rfl) ?yb6 (by assumption) ?rb6
          case yb6 => (intro w hSw; (try dsimp only at hSw); go_simp; (try with_reducible rfl))
          (try simp only [Act.put, List.setIfInBounds_toArray, List.set_cons_zero, List.set_cons_succ])
          refine tkH (i := 7) (v := ?vb7) rfl (by kernel_rfl) (by kernel_rfl) (by kernel_rfl) (fun _ _ _ h => h) (by rfl) ?yb7 (by assumption) ?rb7
          case yb7 => (intro w hSw; (try dsimp only at hSw); go_simp; (try with_reducible rfl))
          (try simp only [Act.put, List.setIfInBounds_toArray, List.set_cons_zero, List.set_cons_succ])
          refine tkH (i := 8) (v := ?vb8) rfl (by kernel_rfl) (by kernel_rfl) (by kernel_rfl) (fun _ _ _ h => h) (by rfl) ?yb8 (by assumption) ?rb8
          case yb8 => (intro w hSw; (try dsimp only at hSw); go_simp; (try with_reducible rfl))
          (try simp only [Act.put, List.setIfInBounds_toArray, List.set_cons_zero, List.set_cons_succ])
          refine tkH (i := 9) (v := ?vb9) rfl (by kernel_rfl) (by kernel_rfl) (by kernel_rfl) (fun _ _ _ h => h) (by rfl) ?yb9 (by assumption) ?rb9
          case yb9 => (intro w hSw; (try dsimp only at hSw); go_simp; (try with_reducible rfl))
          (try simp only [Act.put, List.setIfInBounds_toArray, List.set_cons_zero, List.set_cons_succ])
          refine tkH (i := 10) (v := ?vb10) rfl (by kernel_rfl) (by kernel_rfl) (by kernel_rfl) (fun _ _ _ h => h) (by rfl) ?yb10 (by assumption) ?rb10
          case yb10 => (intro w hSw; (try dsimp only at hSw); go_simp; (try with_reducible rfl))
          (try simp only [Act.put, List.setIfInBounds_toArray, List.set_cons_zero, List.set_cons_succ])
          refine tkH (i := 11) (v := ?vb11) rfl (by kernel_rfl) (by kernel_rfl) (by kernel_rfl) (fun _ _ _ h => h) (by rfl) ?yb11 (by assumption) ?rb11
          case yb11 => (intro w hSw; (try dsimp only at hSw); go_simp; (try with_reducible rfl))
          (try simp only [Act.put, List.setIfInBounds_toArray, List.set_cons_zero, List.set_cons_succ])
          refine tkH (i := 12) (v := ?vb12) rfl (by kernel_rfl) (by kernel_rfl) (by kernel_rfl) (fun _ _ _ h => h) (by rfl) ?yb12 (by assumption) ?rb12
          case yb12 => (intro w hSw; (try dsimp only at hSw); go_simp; (try with_reducible rfl))
          (try simp only [Act.put, List.setIfInBounds_toArray, List.set_cons_zero, List.set_cons_succ])
          refine tkH (i := 13) (v := ?vb13) rfl (by kernel_rfl) (by kernel_rfl) (by kernel_rfl) (fun _ _ _ h => h) (by rfl) ?yb13 (by assumption) ?rb13
          case yb13 => (intro w hSw; (try dsimp only at hSw); go_simp; (try with_reducible rfl))
          (try simp only [Act.put, List.setIfInBounds_toArray, List.set_cons_zero, List.set_cons_succ])
          refine tkH (i := 14) (v := ?vb14) rfl (by kernel_rfl) (by kernel_rfl) (by kernel_rfl) (fun _ _ _ h => h) (by rfl) ?yb14 (by assumption) ?rb14
          case yb14 => (intro w hSw; (try dsimp only at hSw); go_simp; (try with_reducible rfl))
          (try simp only [Act.put, List.setIfInBounds_toArray, List.set_cons_zero, List.set_cons_succ])
          refine tkH (i := 15) (v := ?vb15) rfl (by kernel_rfl) (by kernel_rfl) (by kernel_rfl) (fun _ _ _ h => h) (by rfl) ?yb15 (by assumption) ?rb15
          case yb15 => (intro w hSw; (try dsimp only at hSw); go_simp; (try with_reducible rfl))
          (try simp only [Act.put, List.setIfInBounds_toArray, List.set_cons_zero, List.set_cons_succ])
          refine tkH (i := 16) (v := ?vb16) rfl (by kernel_rfl) (by kernel_rfl) (by kernel_rfl) (fun _ _ _ h => h) (by rfl) ?yb16 (by assumption) ?rb16
          case yb16 => (intro w hSw; (try dsimp only at hSw); go_simp; (try with_reducible rfl))
          (try simp only [Act.put, List.setIfInBounds_toArray, List.set_cons_zero, List.set_cons_succ])
          refine tkH (i := 17) (v := ?vb17) rfl (by kernel_rfl) (by kernel_rfl) (by kernel_rfl) (fun _ _ _ h => h) (by rfl) ?yb17 (by assumption) ?rb17
          case yb17 => (intro w hSw; (try dsimp only at hSw); go_simp; (try with_reducible rfl))
          (try simp only [Act.put, List.setIfInBounds_toArray, List.set_cons_zero, List.set_cons_succ])
          refine tkH (i := 18) (v := ?vb18) rfl (by kernel_rfl) (by kernel_rfl) (by kernel_rfl) (fun _ _ _ h => h) (by rfl) ?yb18 (by assumption) ?rb18
          case yb18 => (intro w hSw; (try dsimp only at hSw); go_simp; (try with_reducible rfl))
          (try simp only [Act.put, List.setIfInBounds_toArray, List.set_cons_zero, List.set_cons_succ])
          refine tkH (i := 19) (v := ?vb19) rfl (by kernel_rfl) (by kernel_rfl) (by kernel_rfl) (fun _ _ _ h => h) (by rfl) ?yb19 (by assumption) ?rb19
          case yb19 => (intro w hSw; (try dsimp only at hSw); go_simp; (try with_reducible rfl))
          (try simp only [Act.put, List.setIfInBounds_toArray, List.set_cons_zero, List.set_cons_succ])
          refine tkH (i := 20) (v := ?vb20) rfl (by kernel_rfl) (by kernel_rfl) (by kernel_rfl) (fun _ _ _ h => h) (by rfl) ?yb20 (by assumption) ?rb20
          case yb20 => (intro w hSw; (try dsimp only at hSw); go_simp; (try with_reducible rfl))
          (try simp only [Act.put, List.setIfInBounds_toArray, List.set_cons_zero, List.set_cons_succ])
          refine tkH (i := 21) (v := ?vb21) rfl (by kernel_rfl) (by kernel_rfl) (by kernel_rfl) (fun _ _ _ h => h) (by rfl) ?yb21 (by assumption) ?rb21
          case yb21 => (intro w hSw; (try dsimp only at hSw); go_simp; (try with_reducible rfl))
          (try simp only [Act.put, List.setIfInBounds_toArray, List.set_cons_zero, List.set_cons_succ])
          refine tkH (i := 22) (v := ?vb22) rfl (by kernel_rfl) (by kernel_rfl) (by kernel_rfl) (fun _ _ _ h => h) (by rfl) ?yb22 (by assumption) ?rb22
          case yb22 => (intro w hSw; (try dsimp only at hSw); go_simp; (try with_reducible rfl))
          (try simp only [Act.put, List.setIfInBounds_toArray, List.set_cons_zero, List.set_cons_succ])
          refine skH (i := 23) rfl (by kernel_rfl) (by kernel_rfl) (by kernel_rfl) (fun _ _ _ h => h) (by rfl) (by assumption) ?_
          (try simp only [Act.put, List.setIfInBounds_toArray, List.set_cons_zero, List.set_cons_succ])
          refine skH (i := 24) rfl (by kernel_rfl) (by kernel_rfl) (by kernel_rfl) (fun _ _ _ h => h) (by rfl) (by assumption) ?_
          (try simp only [Act.put, List.setIfInBounds_toArray, List.set_cons_zero, List.set_cons_succ])
          refine skH (i := 25) rfl (by kernel_rfl) (by kernel_rfl) (by kernel_rfl) (fun _ _ _ h => h) (by rfl) (by assumption) ?_
          (try simp only [Act.put, List.setIfInBounds_toArray, List.set_cons_zero, List.set_cons_succ])
          refine skH (i := 26) rfl (by kernel_rfl) (by kernel_rfl) (by kernel_rfl) (fun _ _ _ h => h) (by rfl) (by assumption) ?_
          (try simp only [Act.put, List.setIfInBounds_toArray, List.set_cons_zero, List.set_cons_succ])
          refine skH (i := 27) rfl (by kernel_rfl) (by kernel_rfl) (by kernel_rfl) (fun _ _ _ h => h) (by rfl) (by assumption) ?_
          (try simp only [Act.put, List.setIfInBounds_toArray, List.set_cons_zero, List.set_cons_succ])
          refine tkH (i := 28) (v := ?vb28) rfl (by kernel_rfl) (by kernel_rfl) (by kernel_rfl) (fun _ _ _ h => h) (by rfl) ?yb28 (by assumption) ?rb28
          case yb28 => (intro w hSw; (try dsimp only at hSw); go_simp; (try with_reducible rfl))
          (try simp only [Act.put, List.setIfInBounds_toArray, List.set_cons_zero, List.set_cons_succ])
          refine tkH (i := 29) (v := ?vb29) rfl (by kernel_rfl) (by kernel_rfl) (by kernel_rfl) (fun _ _ _ h => h) (by rfl) ?yb29 (by assumption) ?rb29
          case yb29 => (intro w hSw; (try dsimp only at hSw); go_simp; (try with_reducible rfl))
          (try simp only [Act.put, List.setIfInBounds_toArray, List.set_cons_zero, List.set_cons_succ])
          refine tkH (i := 30) (v := ?vb30) rfl (by kernel_rfl) (by kernel_rfl) (by kernel_rfl) (fun _ _ _ h => h) (by rfl) ?yb30 (by assumption) ?rb30
          case yb30 => (intro w hSw; (try dsimp only at hSw); go_simp; (try with_reducible rfl))
          (try simp only [Act.put, List.setIfInBounds_toArray, List.set_cons_zero, List.set_cons_succ])
          refine tkH (i := 31) (v := ?vb31) rfl (by kernel_rfl) (by kernel_rfl) (by kernel_rfl) (fun _ _ _ h => h) (by rfl) ?yb31 (by assumption) ?rb31
          case yb31 => (intro w hSw; (try dsimp only at hSw); go_simp; (try with_reducible rfl))
          (try simp only [Act.put, List.setIfInBounds_toArray, List.set_cons_zero, List.set_cons_succ])
          refine tkH (i := 32) (v := ?vb32) rfl (by kernel_rfl) (by kernel_rfl) (by kernel_rfl) (fun _ _ _ h => h) (by rfl) ?yb32 (by assumption) ?rb32
          case yb32 => (intro w hSw; (try dsimp only at hSw); go_simp; (try with_reducible rfl))
          (try simp only [Act.put, List.setIfInBounds_toArray, List.set_cons_zero, List.set_cons_succ])
          refine tkH (i := 33) (v := ?vb33) rfl (by kernel_rfl) (by kernel_rfl) (by kernel_rfl) (fun _ _ _ h => h) (by rfl) ?yb33 (by assumption) ?rb33
          case yb33 => (intro w hSw; (try dsimp only at hSw); go_simp; (try with_reducible rfl))
          (try simp only [Act.put, List.setIfInBounds_toArray, List.set_cons_zero, List.set_cons_succ])
          refine tkH (i := 34) (v := ?vb34) rfl (by kernel_rfl) (by kernel_rfl) (by kernel_rfl) (fun _ _ _ h => h) (by rfl) ?yb34 (by assumption) ?rb34
          case yb34 => (intro w hSw; (try dsimp only at hSw); go_simp; (try with_reducible rfl))
          (try simp only [Act.put, List.setIfInBounds_toArray, List.set_cons_zero, List.set_cons_succ])
          refine tkH (i := 35) (v := ?vb35) rfl (by kernel_rfl) (by kernel_rfl) (by kernel_rfl) (fun _ _ _ h => h) (by rfl) ?yb35 (by assumption) ?rb35
          case yb35 => (intro w hSw; (try dsimp only at hSw); go_simp; (try with_reducible rfl))
          (try simp only [Act.put, List.setIfInBounds_toArray, List.set_cons_zero, List.set_cons_succ])
          refine tkH (i := 36) (v := ?vb36) rfl (by kernel_rfl) (by kernel_rfl) (by kernel_rfl) (fun _ _ _ h => h) (by rfl) ?yb36 (by assumption) ?rb36
          case yb36 => (intro w hSw; (try dsimp only at hSw); go_simp; (try with_reducible rfl))
          (try simp only [Act.put, List.setIfInBounds_toArray, List.set_cons_zero, List.set_cons_succ])
          refine tkH (i := 37) (v := ?vb37) rfl (by kernel_rfl) (by kernel_rfl) (by kernel_rfl) (fun _ _ _ h => h) (by rfl) ?yb37 (by assumption) ?rb37
          case yb37 => (intro w hSw; (try dsimp only at hSw); go_simp; (try with_reducible rfl))
          (try simp only [Act.put, List.setIfInBounds_toArray, List.set_cons_zero, List.set_cons_succ])
          refine tkH (i := 38) (v := ?vb38) rfl (by kernel_rfl) (by kernel_rfl) (by kernel_rfl) (fun _ _ _ h => h) (by rfl) ?yb38 (by assumption) ?rb38
          case yb38 => (intro w hSw; (try dsimp only at hSw); go_simp; (try with_reducible rfl))
          (try simp only [Act.put, List.setIfInBounds_toArray, List.set_cons_zero, List.set_cons_succ])
          refine tkH (i := 39) (v := ?vb39) rfl (by kernel_rfl) (by kernel_rfl) (by kernel_rfl) (fun _ _ _ h => h) (by rfl) ?yb39 (by assumption) ?rb39
          case yb39 => (intro w hSw; (try dsimp only at hSw); go_simp; (try with_reducible rfl))
          (try simp only [Act.put, List.setIfInBounds_toArray, List.set_cons_zero, List.set_cons_succ])
          refine tkH (i := 40) (v := ?vb40) rfl (by kernel_rfl) (by kernel_rfl) (by kernel_rfl) (fun _ _ _ h => h) (by rfl) ?yb40 (by assumption) ?rb40
          case yb40 => (intro w hSw; (try dsimp only at hSw); go_simp; (try with_reducible rfl))
          (try simp only [Act.put, List.setIfInBounds_toArray, List.set_cons_zero, List.set_cons_succ])
          refine caH (i := 41) rfl (by kernel_rfl) (by rfl) (fun K hK => ?_)
          go_simp
          go_at_call 67
          refine (HBE.out _).mono ?_
          rintro en w5 ⟨rfl, hb5⟩
          have HB5 := hid (show Below wc.heap.size wc w5 from ⟨hb5.os, hb5.tape, hb5.output, hb5.size, hb5.block⟩)
          have S9 := HS9.out w5 HB5.out
          clear hb5
          refine hK.out _ _ (S9) (fun hHeld => ?_)
          clear hK K
          (try simp only [Act.put, List.setIfInBounds_toArray, List.set_cons_zero, List.set_cons_succ])
          refine tkH (i := 42) (v := ?vb42) rfl (by kernel_rfl) (by kernel_rfl) (by kernel_rfl) (fun _ _ _ h => h) (by rfl) ?yb42 (by assumption) ?rb42
          case yb42 => (intro w hSw; (try dsimp only at hSw); go_simp; (try with_reducible rfl))
          (try simp only [Act.put, List.setIfInBounds_toArray, List.set_cons_zero, List.set_cons_succ])
          refine tkH (i := 43) (v := ?vb43) rfl (by kernel_rfl) (by kernel_rfl) (by kernel_rfl) (fun _ _ _ h => h) (by rfl) ?yb43 (by assumption) ?rb43
          case yb43 => (intro w hSw; (try dsimp only at hSw); go_simp; (try with_reducible rfl))
          (try simp only [Act.put, List.setIfInBounds_toArray, List.set_cons_zero, List.set_cons_succ])
          refine tkH (i := 44) (v := ?vb44) rfl (by kernel_rfl) (by kernel_rfl) (by kernel_rfl) (fun _ _ _ h => h) (by rfl) ?yb44 (by assumption) ?rb44
          case yb44 => (intro w hSw; (try dsimp only at hSw); go_simp; (try with_reducible rfl))
          (try simp only [Act.put, List.setIfInBounds_toArray, List.set_cons_zero, List.set_cons_succ])
          refine wpAnyH_done (by kernel_rfl) ?_ _
          go_wp2
          go_meet
          exact ⟨by rw [HE.out], hid (hI.out.on HB5.out)⟩
    case rest =>
      obtain ⟨rfl, hI2⟩ := hcut
      obtain ⟨bF, hbF⟩ : ∃ bF, bF = lkF N ls k (a, p, b, q) := ⟨_, rfl⟩
      rw [← hbF] at HLB ⊢
      have HBF := hid hbF
      clear hbF
      cases bF with
      | false =>
        have HE := hid (show lkB (ds.map (·.1)) ls k = false from by rw [HLB.out]; rfl)
        go_wp2
        go_ret
        exact ⟨by rw [HE.out]; rfl, hI2.out.below⟩
      | true =>
        clear t0 t1 t2 x0 x1 x2 x3
        obtain ⟨t0, t1, t2⟩ := topJ_cells hI2.out.top
        obtain ⟨x0, x1, x2, x3⟩ := lkO_cells hI2.out.own
        obtain ⟨ha0, hbN, hab⟩ : 0 ≤ a ∧ b < (N : Int) ∧ a ≤ b := by
          have h := HBF.out.symm
          unfold lkF at h
          simp only [Bool.and_eq_true, decide_eq_true_eq] at h
          exact ⟨h.1, h.2.1, h.2.2.1⟩
        obtain ⟨na, rfl⟩ : ∃ n : Nat, a = n := ⟨a.toNat, by omega⟩
        obtain ⟨nb, rfl⟩ : ∃ n : Nat, b = n := ⟨b.toNat, by omega⟩
        obtain ⟨⟨da, ua, va⟩, hqa⟩ : ∃ z, ds[na]? = some z := ⟨_, List.getElem?_eq_getElem (by have := HN.out; omega)⟩
        obtain ⟨⟨db, ub, vb⟩, hqb⟩ : ∃ z, ds[nb]? = some z := ⟨_, List.getElem?_eq_getElem (by have := HN.out; omega)⟩
        obtain ⟨D, od, rfl, hDl, hdc⟩ := HD.out.resolve_left (fun e => by rw [e] at hqa; simp at hqa)
        have hwD : wc.heap[D]? = w.heap[D]? := hI2.out.below.block D hDl
        have pa := (World.cell?_of_block (a := ⟨D, od + na * 3 + 2, none⟩) hwD).trans (hdc na _ hqa).2.2
        have pb := (World.cell?_of_block (a := ⟨D, od + nb * 3 + 2, none⟩) hwD).trans (hdc nb _ hqb).2.2
        simp only at pa pb
        obtain ⟨hta, hla⟩ := HPR.out _ (List.mem_of_getElem? hqa)
        obtain ⟨htb, hlb⟩ := HPR.out _ (List.mem_of_getElem? hqb)
        simp only at hta hla htb hlb
        have HPA := hid (fun (W : World) (hb : Below w.heap.size w W) => Rplace_any (t := p) (hta.below hb) hla)
        have HPB := hid (fun (W : World) (hb : Below w.heap.size w W) => Rplace_any (t := q) (htb.below hb) hlb)
        have HQA := hid (show hasP (ds.map (·.1)) (na : Int) p = da.prt.contains p by
          unfold hasP; rw [if_pos (by omega), Int.toNat_natCast, List.getElem?_map, hqa]; rfl)
        have HQB := hid (show hasP (ds.map (·.1)) (nb : Int) q = db.prt.contains q by
          unfold hasP; rw [if_pos (by omega), Int.toNat_natCast, List.getElem?_map, hqb]; rfl)
        obtain ⟨aa, ca, hva, -⟩ := hta
        obtain ⟨ab, cb, hvb, -⟩ := htb
        subst hva; subst hvb
        have hza := plZ_neg p da.prt
        have hzb := plZ_neg q db.prt
        obtain ⟨za, hza'⟩ : ∃ z, z = plZ p da.prt := ⟨_, rfl⟩
        obtain ⟨zb, hzb'⟩ : ∃ z, z = plZ q db.prt := ⟨_, rfl⟩
        rw [← hza'] at hza HPA
        rw [← hzb'] at hzb HPB
        rw [← HQA.out] at hza
        rw [← HQB.out] at hzb
        obtain ⟨La, hLa⟩ : ∃ L, L = da.prt.length := ⟨_, rfl⟩
        obtain ⟨Lb, hLb⟩ : ∃ L, L = db.prt.length := ⟨_, rfl⟩
        rw [← hLa] at HPA pa
        rw [← hLb] at HPB pb
        have hna : (na : Int) < (N : Int) := by omega
        have hna0 : (0 : Int) ≤ (na : Int) := by omega
        have hnb0 : (0 : Int) ≤ (nb : Int) := by omega
        have hsW := hI2.out.below
        have HSW := hid hsW
        obtain ⟨hpA, hhA⟩ : ∃ x, x = hasP (ds.map (·.1)) (na : Int) p := ⟨_, rfl⟩
        obtain ⟨hpB, hhB⟩ : ∃ x, x = hasP (ds.map (·.1)) (nb : Int) q := ⟨_, rfl⟩
        rw [← hhA] at hza HLB
        rw [← hhB] at hzb HLB
        clear hqa hqb hdc hwD hza' hzb' hLa hLb hsW hhA hhB ha0 hab hla hlb
        cases hpA with
        | false =>
          have hz : decide (za < 0) = true := hza
          have HE := hid (show lkB (ds.map (·.1)) ls k = false from by rw [HLB.out]; rfl)
          clear hza
          go_wp2_with fail
          go_quiet (first | exact Calls.quiet_of ((HPA.out _ (below_drewN HSW.out)).mono fun _ _ q => ⟨q.1, 0, q.2⟩) | exact Calls.quiet_of ((HPA.out _ HSW.out).mono fun _ _ q => ⟨q.1, 0, q.2⟩))
          go_wp2
          go_ret
          exact ⟨by rw [HE.out]; rfl, below_drewN HSW.out⟩
        | true =>
          have hz : decide (za < 0) = false := hza
          cases hpB with
          | false =>
            have hz2 : decide (zb < 0) = true := hzb
            have HE := hid (show lkB (ds.map (·.1)) ls k = false from by rw [HLB.out]; rfl)
            clear hza hzb
            go_wp2_with fail
            go_quiet (first | (go_at_call_of 82 (Value.string (tx p)); exact Calls.quiet_of ((HPA.out _ (below_drewN HSW.out)).mono fun _ _ q => ⟨q.1, 0, q.2⟩)) | (go_at_call_of 82 (Value.string (tx q)); exact Calls.quiet_of ((HPB.out _ (below_drewN HSW.out)).mono fun _ _ q => ⟨q.1, 0, q.2⟩)))
            go_wp2
            go_ret
            exact ⟨by rw [HE.out]; rfl, below_drewN HSW.out⟩
          | true =>
            have hz2 : decide (zb < 0) = false := hzb
            have HLC := hid (show lkB (ds.map (·.1)) ls k = lkG ls k ((na : Int), p, (nb : Int), q) from by rw [HLB.out]; rfl)
            clear hza hzb
            go_wp2_with fail
            go_quiet (first | (go_at_call_of 82 (Value.string (tx p)); exact Calls.quiet_of ((HPA.out _ (below_drewN HSW.out)).mono fun _ _ q => ⟨q.1, 0, q.2⟩)) | (go_at_call_of 82 (Value.string (tx q)); exact Calls.quiet_of ((HPB.out _ (below_drewN HSW.out)).mono fun _ _ q => ⟨q.1, 0, q.2⟩)))
            clear HPA HPB hz hz2 pa pb t0 t1 t2 x0 x1 x2 x3 HLB
            have HAA := hid (fun (W : World) (y : LkZ) => Rat_anyJ (w := W) (x := y) (d := (na : Int)) (m := p))
            have HAB := hid (fun (W : World) (y : LkZ) => Rat_anyJ (w := W) (x := y) (d := (nb : Int)) (m := q))
            go_wp2_with fail
            go_loopw [7] (fun i wr => ∃ j : Nat, j ≤ k ∧ i = .int .i64 j ∧ Hid (LnI w (some ⟨D, od, none⟩) (some ⟨G, o, none⟩) N dc M lc wd ((na : Int), p, (nb : Int), q) wr) ∧ Hid (∀ i, i < j → (!(atB (ls.getD i lk0) (na : Int) p || atB (ls.getD i lk0) (nb : Int) q)) = true)) (fun i _ => k - (intOf i).toNat)
            case atStart => exact ⟨0, Nat.zero_le _, rfl, hid (hI2.out.drewN _), hid fun i h => absurd h (Nat.not_lt_zero _)⟩
            case round =>
              obtain ⟨j, hj, rfl, hJ, hA⟩ := hrel
              by_cases hlt : j < k
              · obtain ⟨⟨a', p', b', q'⟩, hy⟩ : ∃ y, ls[j]? = some y := ⟨_, List.getElem?_eq_getElem (by have := HM.out; omega)⟩
                have HGD := hid (getD_at (d := lk0) hy)
                have hwG : wr.heap[G]? = w.heap[G]? := hJ.out.below.block G hG
                obtain ⟨z0, z1, z2, z3⟩ := HC.out j _ hy
                have y0 := (World.cell?_of_block (a := ⟨G, o + j * 4, none⟩) hwG).trans z0
                have y1 := (World.cell?_of_block (a := ⟨G, o + j * 4 + 1, none⟩) hwG).trans z1
                have y2 := (World.cell?_of_block (a := ⟨G, o + j * 4 + 2, none⟩) hwG).trans z2
                have y3 := (World.cell?_of_block (a := ⟨G, o + j * 4 + 3, none⟩) hwG).trans z3
                simp only at y0 y1 y2 y3
                obtain ⟨-, -, t2⟩ := topJ_cells hJ.out.top
                have jI : (j : Int) < (M : Int) := by omega
                have j0I : (0 : Int) ≤ (j : Int) := by omega
                obtain ⟨W5, hW5⟩ : ∃ W5, W5 = wr.alloc (lkO (a', p', b', q')) := ⟨_, rfl⟩
                obtain ⟨kb, hkb⟩ : ∃ kb, kb = wr.heap.size := ⟨_, rfl⟩
                have hb5 : Below wr.heap.size wr W5 := by rw [hW5]; exact (Below.refl _ _).alloc (Nat.le_refl _) _
                have h5 : W5.heap[kb]? = some (lkO (a', p', b', q')) := by rw [hW5, hkb]; exact new_0 _ _
                have HJ5 := hid (hJ.out.on hb5)
                have H5 := hid h5
                obtain ⟨r0, r1, r2, r3⟩ := lkO_cells h5
                obtain ⟨x0, x1, x2, x3⟩ := lkO_cells HJ5.out.own
                have hk5 : kb < W5.heap.size := lt_of_block h5
                clear hb5 h5 z0 z1 z2 z3 hwG hy
                go_upto_region 10 with fail
                rw [← hW5, ← hkb]
                clear hW5 hkb
                go_wp2_with fail
                refine (HAA.out _ (a', p', b', q')).mono ?_
                rintro en w6 ⟨rfl, hb6⟩
                have HJ6 := hid (HJ5.out.on hb6)
                have h6 := (hb6.block _ hk5).trans H5.out
                obtain ⟨r0, r1, r2, r3⟩ := lkO_cells h6
                obtain ⟨x0, x1, x2, x3⟩ := lkO_cells HJ6.out.own
                obtain ⟨ba, hba⟩ : ∃ ba, ba = atB (a', p', b', q') (na : Int) p := ⟨_, rfl⟩
                have HBA := hid hba
                rw [← hba]
                clear hb6 h6 hba
                cases ba with
                | true =>
                  have HE := hid (show lkB (ds.map (·.1)) ls k = false from by
                    rw [HLC.out]
                    exact allN_false hlt (by
                      show (!(atB (ls.getD j lk0) (na : Int) p || _)) = false
                      rw [HGD.out, ← HBA.out]; rfl))
                  go_wp2
                  go_ret
                  exact ⟨by rw [HE.out]; rfl, HJ6.out.below⟩
                | false =>
                  go_wp2_with fail
                  refine (HAB.out _ (a', p', b', q')).mono ?_
                  rintro en w7 ⟨rfl, hb7⟩
                  have HJ7 := hid (HJ6.out.on hb7)
                  obtain ⟨bb, hbb⟩ : ∃ bb, bb = atB (a', p', b', q') (nb : Int) q := ⟨_, rfl⟩
                  have HBB := hid hbb
                  rw [← hbb]
                  clear hb7 hbb
                  cases bb with
                  | true =>
                    have HE := hid (show lkB (ds.map (·.1)) ls k = false from by
                      rw [HLC.out]
                      exact allN_false hlt (by
                        show (!(_ || atB (ls.getD j lk0) (nb : Int) q)) = false
                        rw [HGD.out, ← HBB.out]; simp))
                    go_wp2
                    go_ret
                    exact ⟨by rw [HE.out]; rfl, HJ7.out.below⟩
                  | false =>
                    have HA2 := hid (show ∀ i, i < j + 1 → (!(atB (ls.getD i lk0) (na : Int) p || atB (ls.getD i lk0) (nb : Int) q)) = true from fun i hi => by
                      by_cases e : i = j
                      · rw [e, HGD.out, ← HBA.out, ← HBB.out]; rfl
                      · exact hA.out i (by omega))
                    go_wp2
                    go_roundw
                    case rel => (repeat apply Exists.intro); exact ⟨⟨j + 1, by omega, by go_num, HJ7, HA2⟩, rfl⟩
                    case measure => simp [intOf]; omega
              · have hjk : j = k := by omega
                have HE := hid (show lkB (ds.map (·.1)) ls k = true from by
                  rw [HLC.out]
                  exact allN_iff.2 fun i hi => hA.out i (by omega))
                go_wp2
                go_ret
                exact ⟨by rw [HE.out]; rfl, hJ.out.below⟩
end Go.Proofs.YtebaopiedlioiaaGreatDoor
