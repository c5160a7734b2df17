/-
  tell: the ref of a node; find: the nodes of refs.
  New: an empty table.
  cube, ite where there may be no room.
  step, and cube: the node of a text.
  ite: whatever it is handed.
  ite: of any three numbers.
-/
import Derived.Test.YtnkipdlfpnmgeaaFNodeAnd
import Derived.Laws.Cover1
namespace Go.Proofs.Ytnkipdlfpnmgeaa
open Go.RowKit Go.Maps
open Bd (Nd)

theorem min3 (x y z : Nat) : (if (z : Int) < (if (y : Int) < (x : Int) then (y : Int) else (x : Int)) then (z : Int) else (if (y : Int) < (x : Int) then (y : Int) else (x : Int))) = ((min x (min y z) : Nat) : Int) := by
  by_cases h : (y : Int) < (x : Int)
  · rw [if_pos h]
    by_cases h2 : (z : Int) < (y : Int)
    · rw [if_pos h2]; omega
    · rw [if_neg h2]; omega
  · rw [if_neg h]
    by_cases h2 : (z : Int) < (x : Int)
    · rw [if_pos h2]; omega
    · rw [if_neg h2]; omega
theorem quiet_sum {f : FuncId} {args : Array Value} {X : World} {m n : Nat} {v : Value} (h : Calls Try.prog f args (X.drewN (m + n)) fun e w' => e = .returned v ∧ w' = X.drewN (m + n)) : Calls Try.prog f args (X.drewN (m + n)) fun e w'' => e = .returned v ∧ ∃ k, w'' = X.drewN (m + k) :=
  h.mono fun _ _ ⟨he, hm⟩ => ⟨he, n, hm⟩
theorem three_start (w : World) (n : Nat) (o0 : Value × Value × Value) (z : Value × Value × Value) : Three ((((w.alloc (.cells #[o0.1, o0.2.1, o0.2.2] 99)).drewN n).alloc (.cells #[z.1, z.2.1, z.2.2] 99)).alloc (.cells #[z.1, z.2.1, z.2.2] 99)) w.heap.size o0 z z := by
  have e1 : ((w.alloc (.cells #[o0.1, o0.2.1, o0.2.2] 99)).drewN n).heap.size = w.heap.size + 1 := by show (w.alloc _).heap.size = _; simp
  have e2 : ((((w.alloc (.cells #[o0.1, o0.2.1, o0.2.2] 99)).drewN n).alloc (.cells #[z.1, z.2.1, z.2.2] 99))).heap.size = w.heap.size + 1 + 1 := by rw [← e1]; simp
  refine ⟨?_, ?_, ?_⟩
  · rw [heap_alloc_old _ _ (by omega), heap_alloc_old _ _ (by omega)]
    exact heap_alloc_new w _
  · rw [heap_alloc_old _ _ (by omega), ← e1]
    exact heap_alloc_new _ _
  · rw [← e2]
    exact heap_alloc_new _ _
theorem three_below (w : World) (n : Nat) (o0 o1 o2 : Obj) : Below w.heap.size w ((((w.alloc o0).drewN n).alloc o1).alloc o2) := by
  have h := boxedN w o0 n
  exact (h.alloc h.size o1).alloc (by have := h.size; simp; omega) o2
theorem belowN {B : Nat} {w w' : World} (h : Below B w w') (n : Nat) : Below B w (w'.drewN n) := ⟨h.os, h.tape, h.output, h.size, h.block⟩

theorem Three.below {w w' : World} {B C : Nat} {x0 x1 x2 : Value × Value × Value} (h : Three w B x0 x1 x2) (hb : Below C w w') (hC : B + 3 ≤ C) : Three w' B x0 x1 x2 :=
  ⟨(hb.block B (by omega)).trans h.b0, (hb.block (B + 1) (by omega)).trans h.b1, (hb.block (B + 1 + 1) (by omega)).trans h.b2⟩
theorem three_set {w : World} {B : Nat} {x0 x1 x2 y1 y2 : Value × Value × Value} (h : Three w B x0 x1 x2) (j : Nat) (p q : Value) (h1 : #[x1.1, x1.2.1, x1.2.2].setIfInBounds j p = #[y1.1, y1.2.1, y1.2.2]) (h2 : #[x2.1, x2.2.1, x2.2.2].setIfInBounds j q = #[y2.1, y2.2.1, y2.2.2]) :
    Three ((w.setCell ⟨B + 1, j, none⟩ p).setCell ⟨B + 1 + 1, j, none⟩ q) B x0 y1 y2 := by
  refine ⟨?_, ?_, ?_⟩
  · rw [set_other q (by show B ≠ B + 1 + 1; omega), set_other p (by show B ≠ B + 1; omega)]; exact h.b0
  · rw [set_other q (by show B + 1 ≠ B + 1 + 1; omega), set_block p h.b1, h1]
  · have e : (w.setCell ⟨B + 1, j, none⟩ p).heap[B + 1 + 1]? = _ := (set_other p (by show B + 1 + 1 ≠ B + 1; omega)).trans h.b2
    rw [set_block q e, h2]
theorem Three.cells {w : World} {B : Nat} {x0 x1 x2 : Value × Value × Value} (h : Three w B x0 x1 x2) : (w.cell? ⟨B + 1, 0, none⟩ = some x1.1 ∧ w.cell? ⟨B + 1, 1, none⟩ = some x1.2.1 ∧ w.cell? ⟨B + 1, 2, none⟩ = some x1.2.2) ∧ (w.cell? ⟨B + 1 + 1, 0, none⟩ = some x2.1 ∧ w.cell? ⟨B + 1 + 1, 1, none⟩ = some x2.2.1 ∧ w.cell? ⟨B + 1 + 1, 2, none⟩ = some x2.2.2) ∧
    (∀ j, w.frozen? ⟨B + 1, j, none⟩ = false) ∧ (∀ j, w.frozen? ⟨B + 1 + 1, j, none⟩ = false) ∧ (w.cell? ⟨B, 0, none⟩ = some x0.1 ∧ w.cell? ⟨B, 1, none⟩ = some x0.2.1 ∧ w.cell? ⟨B, 2, none⟩ = some x0.2.2) := by
  refine ⟨⟨?_, ?_, ?_⟩, ⟨?_, ?_, ?_⟩, fun j => not_frozen h.b1, fun j => not_frozen h.b2, ⟨?_, ?_, ?_⟩⟩
  · rw [cell_at h.b1]; rfl
  · rw [cell_at h.b1]; rfl
  · rw [cell_at h.b1]; rfl
  · rw [cell_at h.b2]; rfl
  · rw [cell_at h.b2]; rfl
  · rw [cell_at h.b2]; rfl
  · rw [cell_at h.b0]; rfl
  · rw [cell_at h.b0]; rfl
  · rw [cell_at h.b0]; rfl

theorem Three.six {w : World} {B : Nat} {x0 x1 x2 : Value × Value × Value} (h : Three w B x0 x1 x2) : w.cell? ⟨B + 1, 0, none⟩ = some x1.1 ∧ w.cell? ⟨B + 1, 1, none⟩ = some x1.2.1 ∧ w.cell? ⟨B + 1, 2, none⟩ = some x1.2.2 ∧ w.cell? ⟨B + 1 + 1, 0, none⟩ = some x2.1 ∧ w.cell? ⟨B + 1 + 1, 1, none⟩ = some x2.2.1 ∧ w.cell? ⟨B + 1 + 1, 2, none⟩ = some x2.2.2 :=
  ⟨h.cells.1.1, h.cells.1.2.1, h.cells.1.2.2, h.cells.2.1.1, h.cells.2.1.2.1, h.cells.2.1.2.2⟩

/-- The j-th halves are stored. -/
def upTo (j : Nat) (f : Nat → Nat) (a b c : Nat) : Value × Value × Value := (if 0 < j then i6 (f a) else i6 0, if 1 < j then i6 (f b) else i6 0, if 2 < j then i6 (f c) else i6 0)
theorem upTo_three (f : Nat → Nat) (a b c : Nat) : upTo 3 f a b c = v3 (f a) (f b) (f c) := rfl

theorem idx0 (a b c : Int) (w : World) : (Instr.index 99 (.agg #[.int .i64 a, .int .i64 b, .int .i64 c]) (.int .i64 0)).run Try.prog w = .ok (.int .i64 a) w := by kernel_rfl
theorem idx1 (a b c : Int) (w : World) : (Instr.index 99 (.agg #[.int .i64 a, .int .i64 b, .int .i64 c]) (.int .i64 1)).run Try.prog w = .ok (.int .i64 b) w := by kernel_rfl
theorem idx2 (a b c : Int) (w : World) : (Instr.index 99 (.agg #[.int .i64 a, .int .i64 b, .int .i64 c]) (.int .i64 2)).run Try.prog w = .ok (.int .i64 c) w := by kernel_rfl

set_option maxRecDepth 2000 in
set_option maxHeartbeats 4000000 in
theorem ite_miss {n M : Nat} (ih : iteSpec n) {w : World} {y : Lay} {s : St} (A : Bd.Fam s.bits M) (hT : Tab w y s) (hW : Bd.Within A s.L) (sb room kb : Nat) (hS : StepAt w sb y.tb room kb) (hns : ¬ y.own sb) (hnk : ¬ y.own kb) (hroom : s.bits * M ≤ room) (hr3 : room ≤ 1073741824) (hbM : s.bits * M ≤ 1048576)
    (sz : Nat) (kf : Value → Option Int) (hM : MapOf Try.prog 99 3 w kb sz kf) (hK : KnownOk s.L kf) (a b c kk : Nat) (ha : a < s.L.length + 2) (hb : b < s.L.length + 2) (hc : c < s.L.length + 2)
    (hka : kk ≤ Bd.bitOf s.L a) (hkb : kk ≤ Bd.bitOf s.L b) (hkc : kk ≤ Bd.bitOf s.L c) (hF : A.F kk (Bd.iteF (Bd.den s.L a) (Bd.den s.L b) (Bd.den s.L c))) (hn : 128 - kk ≤ n + 1)
    (ha2 : 2 ≤ a) (hbc : b ≠ c) (hq : ¬ (b = 1 ∧ c = 0)) (hv : kf (arV a b c) = none) :
    Calls Try.prog 76 #[.pointer (some ⟨sb, 0, none⟩), .agg #[i6 a, i6 b, i6 c]] w fun e w' => ∃ r, e = .returned (i6 r) ∧ IteGot A w y s kb w' r (Bd.iteF (Bd.den s.L a) (Bd.den s.L b) (Bd.den s.L c)) := by
  have hsm := hT.small.1
  obtain ⟨kl, hkl⟩ := key_arr (a := a) (b := b) (c := c) (by omega) (by omega) (by omega)
  have hlook : ∀ n o, (Instr.lookup 131 (.map (some kb)) (.agg #[.int .i64 a, .int .i64 b, .int .i64 c]) true).run Try.prog ((w.alloc o).drewN n) = .ok (.tuple #[.int .i64 0, .bool false]) ((w.alloc o).drewN n) := by
    intro n o
    have := MapOf.look (w := (w.alloc o).drewN n) (hM.same ((boxedN w o n).block _ hM.lt)) kArr Try.underlying131 Try.underlying3 (zero_int _) hkl
    have hv' : kf (.agg #[i6 a, i6 b, i6 c]) = none := hv
    rw [hv'] at this
    exact this
  have lsb := block_lt hS
  have s2 : ∀ n o, ((w.alloc o).drewN n).cell? ⟨sb, 2, none⟩ = some (.map (some kb)) := by
    intro n o
    have h1 : ((w.alloc o).drewN n).heap[sb]? = w.heap[sb]? := (boxedN w o n).block sb lsb
    rw [World.cell?_of_block h1, cell_at hS]; rfl
  have s0 : ∀ n o, ((w.alloc o).drewN n).cell? ⟨sb, 0, none⟩ = some (.pointer (some ⟨y.tb, 3, none⟩)) := by
    intro n o
    have h1 : ((w.alloc o).drewN n).heap[sb]? = w.heap[sb]? := (boxedN w o n).block sb lsb
    rw [World.cell?_of_block h1, cell_at hS]; rfl
  have c0 : w.cell? ⟨sb, 0, none⟩ = some (.pointer (some ⟨y.tb, 3, none⟩)) := by rw [cell_at hS]; rfl
  have a1 : ((a : Int) == 1) = false := int_ne (b := 1) (by omega)
  have a0 : ((a : Int) == 0) = false := int_ne (b := 0) (by omega)
  have bc := int_ne hbc
  have hbit : ∀ x, x < s.L.length + 2 → ∀ W, Below w.heap.size w W → Calls Try.prog 88 #[.pointer (some ⟨y.tb, 3, none⟩), i6 x] W fun e w' => e = .returned (i6 (Bd.bitOf s.L x)) ∧ w' = W :=
    fun x hx W hB => bit_any (hT.below hB) x hx
  obtain ⟨bo, hbo⟩ : ∃ bo, bo = Bd.bitOf s.L := ⟨_, rfl⟩
  rw [← hbo] at hbit
  have HBIT := keep hbit
  have ix0 := idx0 a b c
  have ix1 := idx1 a b c
  have ix2 := idx2 a b c
  have HBO := keep hbo
  have HTT := keep hT
  clear hbit hbo
  have hhalf : ∀ k, k < 128 → ∀ x, x < s.L.length + 2 → ∀ W, Below w.heap.size w W → Calls Try.prog 89 #[.pointer (some ⟨y.tb, 3, none⟩), i6 x, i6 k] W fun e w' => e = .returned (.tuple #[i6 (Bd.loOf s.L x k), i6 (Bd.hiOf s.L x k)]) ∧ Below W.heap.size W w' :=
    fun k hk x hx W hB => halves_any (hT.below hB) x k hx hk
  obtain ⟨k0, hk0⟩ : ∃ k0, k0 = min (bo a) (min (bo b) (bo c)) := ⟨_, rfl⟩
  have hmin : ∀ (ts : Array TypeId) (t : TypeId) (w : World), (Builtin.min_ ts t #[.int .i64 (bo a), .int .i64 (bo b), .int .i64 (bo c)]).run Try.prog w = .ok (.int .i64 k0) w := by
    intro ts t w
    rw [run_min_int3, hk0, min3]
  have hfew := hT.okay.few
  have hba := Bd.bitOf_lt hT.okay ha2 ha
  have HK : Hid (kk ≤ k0 ∧ k0 ≤ Bd.bitOf s.L a ∧ k0 ≤ Bd.bitOf s.L b ∧ k0 ≤ Bd.bitOf s.L c ∧ k0 < s.bits) := by
    rw [HBO.out] at hk0
    exact ⟨by omega, by omega, by omega, by omega, by omega⟩
  have hk128 : k0 < 128 := by have := HK.out.2.2.2.2; omega
  obtain ⟨lo, hlo⟩ : ∃ lo : Nat → Nat, lo = fun x => Bd.loOf s.L x k0 := ⟨_, rfl⟩
  obtain ⟨hi, hhi⟩ : ∃ hi : Nat → Nat, hi = fun x => Bd.hiOf s.L x k0 := ⟨_, rfl⟩
  have HHALF : Hid (∀ x, x < s.L.length + 2 → ∀ W, Below w.heap.size w W → Calls Try.prog 89 #[.pointer (some ⟨y.tb, 3, none⟩), i6 x, i6 k0] W fun e w' => e = .returned (.tuple #[i6 (lo x), i6 (hi x)]) ∧ Below W.heap.size W w') := by
    rw [hlo, hhi]
    exact hhalf k0 hk128
  have HFIN := keep (fun W hBW h3 => ite_three ih A hT hW sb room kb hS hns hnk hroom hr3 hbM sz kf hM hK a b c kk k0 ha hb hc HK.out.1 HK.out.2.1 HK.out.2.2.1 HK.out.2.2.2.1 HK.out.2.2.2.2 hF hn W hBW h3)
  have el : ∀ x, Bd.loOf s.L x k0 = lo x := by intro x; rw [hlo]
  have eh : ∀ x, Bd.hiOf s.L x k0 = hi x := by intro x; rw [hhi]
  simp only [el, eh] at HFIN
  clear hk0 hlo hhi el eh hhalf hka hkb hkc hroom hr3 hbM ih
  by_cases hb1 : b = 1
  · have hb1' : ((b : Int) == 1) = true := int_eq (b := 1) hb1
    have hc0 : ((c : Int) == 0) = false := int_ne (b := 0) (fun e => hq ⟨hb1, e⟩)
    clear hq hb1 hbc hT hW hM hK hS hv hkl hF
    go_enter Try.func76, Try.ntmps76
    go_wp2_with fail
    go_quiet (fail)
    go_wp2_with fail
    go_quiet (fail)
    go_wp2_with fail
    go_quiet (first | exact quiet_sum (HBIT.out _ (by first | exact ha | exact hb | exact hc) _ (boxedN _ _ _)))
    go_wp2_with fail
    go_loopw [74] (fun i wr => ∃ j : Nat, j ≤ 3 ∧ i = .int .i64 j ∧ Three wr w.heap.size (v3 a b c) (upTo j lo a b c) (upTo j hi a b c) ∧ Below w.heap.size w wr) (fun i _ => 3 - (intOf i).toNat)
    case atStart => exact ⟨0, by omega, rfl, three_start w _ (v3 a b c) (v3 0 0 0), three_below w _ _ _ _⟩
    case round =>
      obtain ⟨j, hj, rfl, h3, hBW⟩ := hrel
      have q0 : wr.cell? ⟨sb, 0, none⟩ = some (.pointer (some ⟨y.tb, 3, none⟩)) := (hBW.cell (p := ⟨sb, 0, none⟩) lsb).trans c0
      have hsz := block_lt h3.b2
      have hrs := hBW.size
      have hjj : j = 0 ∨ j = 1 ∨ j = 2 ∨ j = 3 := by omega
      have H3 := keep h3
      have HBW := keep hBW
      clear hj h3 hBW hlook s2 s0
      rcases hjj with rfl | rfl | rfl | rfl
      · go_wp2_with (first | (go_at_call 89; refine (HHALF.out a ha wr HBW.out).mono ?_; rintro e w1 ⟨rfl, hb1⟩; have T1 := H3.out.below hb1 (by omega); have HT1 := keep T1; obtain ⟨⟨d0, _, _⟩, ⟨e0, _, _⟩, fz1, fz2, _⟩ := T1.cells; clear T1))
        go_roundw
        case rel => exact ⟨1, by omega, by go_num, three_set HT1.out 0 _ _ rfl rfl, ((HBW.out.trans (hb1.mono hrs)).setCell (by simp <;> omega) _).setCell (by simp <;> omega) _⟩
        case measure => simp [intOf]
      · go_wp2_with (first | (go_at_call 89; refine (HHALF.out b hb wr HBW.out).mono ?_; rintro e w1 ⟨rfl, hb1⟩; have T1 := H3.out.below hb1 (by omega); have HT1 := keep T1; obtain ⟨⟨_, d0, _⟩, ⟨_, e0, _⟩, fz1, fz2, _⟩ := T1.cells; clear T1))
        go_roundw
        case rel => exact ⟨2, by omega, by go_num, three_set HT1.out 1 _ _ rfl rfl, ((HBW.out.trans (hb1.mono hrs)).setCell (by simp <;> omega) _).setCell (by simp <;> omega) _⟩
        case measure => simp [intOf]
      · go_wp2_with (first | (go_at_call 89; refine (HHALF.out c hc wr HBW.out).mono ?_; rintro e w1 ⟨rfl, hb1⟩; have T1 := H3.out.below hb1 (by omega); have HT1 := keep T1; obtain ⟨⟨_, _, d0⟩, ⟨_, _, e0⟩, fz1, fz2, _⟩ := T1.cells; clear T1))
        go_roundw
        case rel => exact ⟨3, by omega, by go_num, three_set HT1.out 2 _ _ rfl rfl, ((HBW.out.trans (hb1.mono hrs)).setCell (by simp <;> omega) _).setCell (by simp <;> omega) _⟩
        case measure => simp [intOf]
      · have S0 := H3.out.six
        obtain ⟨g0, g1, g2, g3, g4, g5⟩ := S0
        have HF1 := keep (HFIN.out wr.drew HBW.out.drew ⟨H3.out.b0, H3.out.b1, H3.out.b2⟩)
        simp only [upTo_three] at g0 g1 g2 g3 g4 g5
        go_wp2_with fail
        go_region_held3 (fun w' => w'.cell? ⟨w.heap.size + 1, 0, none⟩ = some (.int .i64 (lo a)) ∧ w'.cell? ⟨w.heap.size + 1, 1, none⟩ = some (.int .i64 (lo b)) ∧ w'.cell? ⟨w.heap.size + 1, 2, none⟩ = some (.int .i64 (lo c)) ∧ w'.cell? ⟨w.heap.size + 1 + 1, 0, none⟩ = some (.int .i64 (hi a)) ∧ w'.cell? ⟨w.heap.size + 1 + 1, 1, none⟩ = some (.int .i64 (hi b)) ∧ w'.cell? ⟨w.heap.size + 1 + 1, 2, none⟩ = some (.int .i64 (hi c))) (first | (go_keep; done) | exact T3.six | exact T2.six | exact T1.six) (first | (go_at_call 74; refine HC3.out.mono ?_; rintro e w3 ⟨r, rfl, T3, q2, w4, hrun, HG⟩) | (go_at_call 76; refine HC2.out.mono ?_; rintro e w2 ⟨r2, rfl, T2, HC3⟩) | (go_at_call 76; refine HF1.out.mono ?_; rintro e w1 ⟨r1, rfl, T1, HC2⟩))
        obtain ⟨_, _, _, _, ⟨o0, o1, o2⟩⟩ := T3.cells
        go_wp2_with fail
        go_region
        go_wp2_with fail
        go_ret
        exact ⟨r, rfl, HG.out⟩
  · have hb1' : ((b : Int) == 1) = false := int_ne (b := 1) hb1
    clear hq hb1 hbc hT hW hM hK hS hv hkl hF
    go_enter Try.func76, Try.ntmps76
    go_wp2_with fail
    go_quiet (fail)
    go_wp2_with fail
    go_quiet (fail)
    go_wp2_with fail
    go_quiet (first | exact quiet_sum (HBIT.out _ (by first | exact ha | exact hb | exact hc) _ (boxedN _ _ _)))
    go_wp2_with fail
    go_loopw [74] (fun i wr => ∃ j : Nat, j ≤ 3 ∧ i = .int .i64 j ∧ Three wr w.heap.size (v3 a b c) (upTo j lo a b c) (upTo j hi a b c) ∧ Below w.heap.size w wr) (fun i _ => 3 - (intOf i).toNat)
    case atStart => exact ⟨0, by omega, rfl, three_start w _ (v3 a b c) (v3 0 0 0), three_below w _ _ _ _⟩
    case round =>
      obtain ⟨j, hj, rfl, h3, hBW⟩ := hrel
      have q0 : wr.cell? ⟨sb, 0, none⟩ = some (.pointer (some ⟨y.tb, 3, none⟩)) := (hBW.cell (p := ⟨sb, 0, none⟩) lsb).trans c0
      have hsz := block_lt h3.b2
      have hrs := hBW.size
      have hjj : j = 0 ∨ j = 1 ∨ j = 2 ∨ j = 3 := by omega
      have H3 := keep h3
      have HBW := keep hBW
      clear hj h3 hBW hlook s2 s0
      rcases hjj with rfl | rfl | rfl | rfl
      · go_wp2_with (first | (go_at_call 89; refine (HHALF.out a ha wr HBW.out).mono ?_; rintro e w1 ⟨rfl, hb1⟩; have T1 := H3.out.below hb1 (by omega); have HT1 := keep T1; obtain ⟨⟨d0, _, _⟩, ⟨e0, _, _⟩, fz1, fz2, _⟩ := T1.cells; clear T1))
        go_roundw
        case rel => exact ⟨1, by omega, by go_num, three_set HT1.out 0 _ _ rfl rfl, ((HBW.out.trans (hb1.mono hrs)).setCell (by simp <;> omega) _).setCell (by simp <;> omega) _⟩
        case measure => simp [intOf]
      · go_wp2_with (first | (go_at_call 89; refine (HHALF.out b hb wr HBW.out).mono ?_; rintro e w1 ⟨rfl, hb1⟩; have T1 := H3.out.below hb1 (by omega); have HT1 := keep T1; obtain ⟨⟨_, d0, _⟩, ⟨_, e0, _⟩, fz1, fz2, _⟩ := T1.cells; clear T1))
        go_roundw
        case rel => exact ⟨2, by omega, by go_num, three_set HT1.out 1 _ _ rfl rfl, ((HBW.out.trans (hb1.mono hrs)).setCell (by simp <;> omega) _).setCell (by simp <;> omega) _⟩
        case measure => simp [intOf]
      · go_wp2_with (first | (go_at_call 89; refine (HHALF.out c hc wr HBW.out).mono ?_; rintro e w1 ⟨rfl, hb1⟩; have T1 := H3.out.below hb1 (by omega); have HT1 := keep T1; obtain ⟨⟨_, _, d0⟩, ⟨_, _, e0⟩, fz1, fz2, _⟩ := T1.cells; clear T1))
        go_roundw
        case rel => exact ⟨3, by omega, by go_num, three_set HT1.out 2 _ _ rfl rfl, ((HBW.out.trans (hb1.mono hrs)).setCell (by simp <;> omega) _).setCell (by simp <;> omega) _⟩
        case measure => simp [intOf]
      · have S0 := H3.out.six
        obtain ⟨g0, g1, g2, g3, g4, g5⟩ := S0
        have HF1 := keep (HFIN.out wr.drew HBW.out.drew ⟨H3.out.b0, H3.out.b1, H3.out.b2⟩)
        simp only [upTo_three] at g0 g1 g2 g3 g4 g5
        go_wp2_with fail
        go_region_held3 (fun w' => w'.cell? ⟨w.heap.size + 1, 0, none⟩ = some (.int .i64 (lo a)) ∧ w'.cell? ⟨w.heap.size + 1, 1, none⟩ = some (.int .i64 (lo b)) ∧ w'.cell? ⟨w.heap.size + 1, 2, none⟩ = some (.int .i64 (lo c)) ∧ w'.cell? ⟨w.heap.size + 1 + 1, 0, none⟩ = some (.int .i64 (hi a)) ∧ w'.cell? ⟨w.heap.size + 1 + 1, 1, none⟩ = some (.int .i64 (hi b)) ∧ w'.cell? ⟨w.heap.size + 1 + 1, 2, none⟩ = some (.int .i64 (hi c))) (first | (go_keep; done) | exact T3.six | exact T2.six | exact T1.six) (first | (go_at_call 74; refine HC3.out.mono ?_; rintro e w3 ⟨r, rfl, T3, q2, w4, hrun, HG⟩) | (go_at_call 76; refine HC2.out.mono ?_; rintro e w2 ⟨r2, rfl, T2, HC3⟩) | (go_at_call 76; refine HF1.out.mono ?_; rintro e w1 ⟨r1, rfl, T1, HC2⟩))
        obtain ⟨_, _, _, _, ⟨o0, o1, o2⟩⟩ := T3.cells
        go_wp2_with fail
        go_region
        go_wp2_with fail
        go_ret
        exact ⟨r, rfl, HG.out⟩
end Go.Proofs.Ytnkipdlfpnmgeaa
namespace Go.Proofs.Ytnkipdlfpnmgeaa
open Go.RowKit Go.Maps
open Bd (Nd)

theorem iteF_one (f g : Bd.Fn) : Bd.iteF Bd.tt f g = f := by funext h; rfl
theorem iteF_zero (f g : Bd.Fn) : Bd.iteF Bd.ff f g = g := by funext h; rfl
theorem iteF_same (f g : Bd.Fn) : Bd.iteF f g g = g := by funext h; unfold Bd.iteF; split <;> rfl
theorem iteF_self (f : Bd.Fn) : Bd.iteF f Bd.tt Bd.ff = f := by
  funext h
  unfold Bd.iteF Bd.tt Bd.ff
  cases f h <;> rfl

theorem ite_all : ∀ n, iteSpec n := by
  intro n
  induction n with
  | zero =>
    intro M s A w y sb room kb sz kf a b c kk hT hW hS hns hnk hroom hr3 hbM hM hK ha hb hc hka hkb hkc hF hn
    have hb128 : 128 ≤ Bd.bitOf s.L a := by omega
    have ha2 : a < 2 := by
      rcases Nat.lt_or_ge a 2 with h | h
      · exact h
      · have := Bd.bitOf_lt hT.okay h ha
        have := hT.okay.few
        omega
    by_cases h1 : a = 1
    · subst h1
      refine (ite_one w _ b c).mono ?_
      rintro e w' ⟨rfl, hbw⟩
      exact ⟨b, rfl, IteGot.same hT hW hM hK hb (by rw [Bd.den_one, iteF_one]) hbw⟩
    · have h0 : a = 0 := by omega
      subst h0
      by_cases hbc : b = c
      · subst hbc
        refine (ite_same w _ 0 b h1).mono ?_
        rintro e w' ⟨rfl, hbw⟩
        exact ⟨b, rfl, IteGot.same hT hW hM hK hb (by rw [iteF_same]) hbw⟩
      · refine (ite_zero w _ b c hbc).mono ?_
        rintro e w' ⟨rfl, hbw⟩
        exact ⟨c, rfl, IteGot.same hT hW hM hK hc (by rw [Bd.den_zero, iteF_zero]) hbw⟩
  | succ n ih =>
    intro M s A w y sb room kb sz kf a b c kk hT hW hS hns hnk hroom hr3 hbM hM hK ha hb hc hka hkb hkc hF hn
    by_cases h1 : a = 1
    · subst h1
      refine (ite_one w _ b c).mono ?_
      rintro e w' ⟨rfl, hbw⟩
      exact ⟨b, rfl, IteGot.same hT hW hM hK hb (by rw [Bd.den_one, iteF_one]) hbw⟩
    · by_cases hbc : b = c
      · subst hbc
        refine (ite_same w _ a b h1).mono ?_
        rintro e w' ⟨rfl, hbw⟩
        exact ⟨b, rfl, IteGot.same hT hW hM hK hb (by rw [iteF_same]) hbw⟩
      · by_cases h0 : a = 0
        · subst h0
          refine (ite_zero w _ b c hbc).mono ?_
          rintro e w' ⟨rfl, hbw⟩
          exact ⟨c, rfl, IteGot.same hT hW hM hK hc (by rw [Bd.den_zero, iteF_zero]) hbw⟩
        · by_cases hq : b = 1 ∧ c = 0
          · obtain ⟨rfl, rfl⟩ := hq
            refine (ite_self w _ a h1 h0).mono ?_
            rintro e w' ⟨rfl, hbw⟩
            exact ⟨a, rfl, IteGot.same hT hW hM hK ha (by rw [Bd.den_one, Bd.den_zero, iteF_self]) hbw⟩
          · cases hv : kf (arV a b c) with
            | some v => exact ite_hit A hT hW sb room kb hS sz kf hM hK a b c ha hb hc (by omega) hbc hq v hv
            | none => exact ite_miss ih A hT hW sb room kb hS hns hnk hroom hr3 hbM sz kf hM hK a b c kk ha hb hc hka hkb hkc hF hn (by omega) hbc hq hv
end Go.Proofs.Ytnkipdlfpnmgeaa
namespace Go.Proofs.Ytnkipdlfpnmgeaa
open Go.RowKit Go.Maps
open Bd (Nd)

theorem step_any (w : World) (tb room : Nat) :
    Calls Try.prog 47 #[.pointer (some ⟨tb, 3, none⟩), i6 room] w fun e w' => e = .returned (.pointer (some ⟨w.heap.size + 1, 0, none⟩)) ∧ w' = (w.alloc (.map #[] 0)).alloc (.cells #[.pointer (some ⟨tb, 3, none⟩), i6 room, .map (some w.heap.size)] 133) := by
  have hmm := @run_makeMap Try.prog
  go_enter Try.func47, Try.ntmps47
  go_wp2
  go_ret
  exact ⟨rfl, rfl⟩

/-- A step that has just begun. -/
theorem step_new (w : World) (tb room : Nat) : StepAt ((w.alloc (.map #[] 0)).alloc (.cells #[.pointer (some ⟨tb, 3, none⟩), i6 room, .map (some w.heap.size)] 133)) (w.heap.size + 1) tb room w.heap.size ∧
    MapOf Try.prog 99 3 ((w.alloc (.map #[] 0)).alloc (.cells #[.pointer (some ⟨tb, 3, none⟩), i6 room, .map (some w.heap.size)] 133)) w.heap.size 0 (fun _ => none) ∧
    Below w.heap.size w ((w.alloc (.map #[] 0)).alloc (.cells #[.pointer (some ⟨tb, 3, none⟩), i6 room, .map (some w.heap.size)] 133)) := by
  have e : (w.alloc (.map #[] 0)).heap.size = w.heap.size + 1 := by simp
  refine ⟨?_, ?_, ((Below.refl _ _).alloc (Nat.le_refl _) _).alloc (by simp) _⟩
  · unfold StepAt
    rw [← e]
    exact heap_alloc_new _ _
  · exact (MapOf.new Try.prog 99 3 w).same (heap_alloc_old _ _ (by simp))
theorem known_none (L : List Nd) : KnownOk L (fun _ => none) := fun _ _ _ _ h => by cases h

/-- The headers that fit a text from its letter k on. -/
def suf (t : ByteArray) (k : Nat) : Bd.Fn := fun h => (List.range t.size).all fun i => decide (i < k) || ((t.data.toList.getD i 0 != 48 || !h i) && (t.data.toList.getD i 0 != 49 || h i))
theorem suf_true {t : ByteArray} {k : Nat} {h : Nat → Bool} : suf t k h = true ↔ ∀ i, i < t.size → k ≤ i → (t.data.toList.getD i 0 = 48 → h i = false) ∧ (t.data.toList.getD i 0 = 49 → h i = true) := by
  unfold suf
  rw [List.all_eq_true]
  constructor
  · intro H i hi hk
    have := H i (List.mem_range.2 hi)
    simp only [Bool.or_eq_true, Bool.and_eq_true, decide_eq_true_eq, bne_iff_ne, Bool.not_eq_true'] at this
    rcases this with h1 | ⟨h1, h2⟩
    · omega
    · refine ⟨fun e => ?_, fun e => ?_⟩
      · rcases h1 with h1 | h1
        · exact absurd e h1
        · exact h1
      · rcases h2 with h2 | h2
        · exact absurd e h2
        · exact h2
  · intro H i hi
    have hi' := List.mem_range.1 hi
    simp only [Bool.or_eq_true, Bool.and_eq_true, decide_eq_true_eq, bne_iff_ne, Bool.not_eq_true']
    rcases Nat.lt_or_ge i k with h1 | h1
    · exact Or.inl h1
    · obtain ⟨a, b⟩ := H i hi' h1
      refine Or.inr ⟨?_, ?_⟩
      · by_cases e : t.data.toList.getD i 0 = 48
        · exact Or.inr (a e)
        · exact Or.inl e
      · by_cases e : t.data.toList.getD i 0 = 49
        · exact Or.inr (b e)
        · exact Or.inl e
theorem bool_ext {a b : Bool} (h : a = true ↔ b = true) : a = b := by
  cases a <;> cases b <;> simp at h <;> rfl
theorem suf_end (t : ByteArray) : suf t t.size = Bd.tt := by
  funext h
  refine bool_ext ⟨fun _ => rfl, fun _ => suf_true.2 fun i hi hk => ?_⟩
  omega
theorem suf_zero {t : ByteArray} {k : Nat} (hk : k < t.size) (h0 : t.data.toList.getD k 0 = 48) : suf t k = Bd.mux k (suf t (k + 1)) Bd.ff := by
  funext h
  unfold Bd.mux
  cases hh : h k
  · rw [if_neg (by simp)]
    refine bool_ext ⟨fun H => suf_true.2 fun i hi hki => suf_true.1 H i hi (by omega), fun H => suf_true.2 fun i hi hki => ?_⟩
    rcases Nat.lt_or_ge k i with h1 | h1
    · exact suf_true.1 H i hi h1
    · have : i = k := by omega
      subst this
      exact ⟨fun _ => hh, fun e => (by rw [h0] at e; cases e)⟩
  · rw [if_pos rfl]
    refine bool_ext ⟨fun H => ?_, fun H => by cases H⟩
    have := (suf_true.1 H k hk (Nat.le_refl _)).1 h0
    rw [hh] at this
    cases this
theorem suf_one {t : ByteArray} {k : Nat} (hk : k < t.size) (h0 : t.data.toList.getD k 0 = 49) : suf t k = Bd.mux k Bd.ff (suf t (k + 1)) := by
  funext h
  unfold Bd.mux
  cases hh : h k
  · rw [if_neg (by simp)]
    refine bool_ext ⟨fun H => ?_, fun H => by cases H⟩
    have := (suf_true.1 H k hk (Nat.le_refl _)).2 h0
    rw [hh] at this
    cases this
  · rw [if_pos rfl]
    refine bool_ext ⟨fun H => suf_true.2 fun i hi hki => suf_true.1 H i hi (by omega), fun H => suf_true.2 fun i hi hki => ?_⟩
    rcases Nat.lt_or_ge k i with h1 | h1
    · exact suf_true.1 H i hi h1
    · have : i = k := by omega
      subst this
      exact ⟨fun e => (by rw [h0] at e; cases e), fun _ => hh⟩
theorem suf_free {t : ByteArray} {k : Nat} (h0 : t.data.toList.getD k 0 ≠ 48) (h1 : t.data.toList.getD k 0 ≠ 49) : suf t k = suf t (k + 1) := by
  funext h
  refine bool_ext ⟨fun H => suf_true.2 fun i hi hki => suf_true.1 H i hi (by omega), fun H => suf_true.2 fun i hi hki => ?_⟩
  rcases Nat.lt_or_ge k i with h2 | h2
  · exact suf_true.1 H i hi h2
  · have : i = k := by omega
    subst this
    exact ⟨fun e => absurd e h0, fun e => absurd e h1⟩
theorem suf_from (t : ByteArray) (k : Nat) : Bd.From k (suf t k) := by
  intro a b hab
  refine bool_ext ⟨fun H => suf_true.2 fun i hi hki => ?_, fun H => suf_true.2 fun i hi hki => ?_⟩
  · rw [← hab i hki]; exact suf_true.1 H i hi hki
  · rw [hab i hki]; exact suf_true.1 H i hi hki
/-- A family that has a text's function has all its ends. -/
theorem suf_fam {bits M : Nat} {A : Bd.Fam bits M} {t : ByteArray} (hs : t.size ≤ bits) (h : A.F 0 (suf t 0)) : ∀ k, k ≤ t.size → A.F k (suf t k) := by
  intro k
  induction k with
  | zero => intro _; exact h
  | succ k ih =>
    intro hk
    have hF := ih (by omega)
    by_cases e0 : t.data.toList.getD k 0 = 48
    · have := A.go k _ false (by omega) hF
      rw [suf_zero (by omega) e0, Bd.cof_mux (suf_from _ _) (Bd.from_ff _)] at this
      exact this
    · by_cases e1 : t.data.toList.getD k 0 = 49
      · have := A.go k _ true (by omega) hF
        rw [suf_one (by omega) e1, Bd.cof_mux (Bd.from_ff _) (suf_from _ _)] at this
        exact this
      · have := A.go k _ true (by omega) hF
        rw [suf_free e0 e1, Bd.cof_from (suf_from _ _)] at this
        exact this

theorem Grew.chain {X : Nat → Prop} {M : Nat} {s : St} {A : Bd.Fam s.bits M} {w w1 w2 : World} {y y1 : Lay} {N1 : List Nd} {r : Nat} {f : Bd.Fn} (hm : Moves X w y w1 y1) (h : Grew X (s := { s with L := s.L ++ N1 }) A w1 y1 w2 r f) : Grew X A w y s w2 r f := by
  obtain ⟨N2, y2, h1, h2, h3, h4, h5⟩ := h.ex
  have h1' : Tab w2 y2 { s with L := s.L ++ N1 ++ N2 } := h1
  have h2' : Bd.Within A (s.L ++ N1 ++ N2) := h2
  have h3' : r < (s.L ++ N1 ++ N2).length + 2 := h3
  have h4' : Bd.den (s.L ++ N1 ++ N2) r = f := h4
  refine ⟨N1 ++ N2, y2, ?_, ?_, ?_, ?_, hm.trans h5⟩
  · rw [← List.append_assoc]; exact h1'
  · rw [← List.append_assoc]; exact h2'
  · rw [← List.append_assoc]; exact h3'
  · rw [← List.append_assoc]; exact h4'

set_option maxHeartbeats 2000000 in
theorem cube_any {M : Nat} {w : World} {y : Lay} {s : St} (A : Bd.Fam s.bits M) (hT : Tab w y s) (hW : Bd.Within A s.L) (sb room kb : Nat) (hS : StepAt w sb y.tb room kb) (hns : ¬ y.own sb) (hroom : s.bits * M ≤ room) (hr3 : room ≤ 1073741824)
    (t : ByteArray) (ht : t.size = s.bits) (hF : A.F 0 (suf t 0)) :
    Calls Try.prog 48 #[.pointer (some ⟨sb, 0, none⟩), .string t] w fun e w' => ∃ r, e = .returned (i6 r) ∧ Grew noX A w y s w' r (suf t 0) := by
  have hf128 := hT.okay.few
  have hsuf := suf_fam (A := A) (by omega) hF
  have lsb := block_lt hS
  have H : Hid (∀ (k r : Nat) (wr : World), k < t.size → Grew noX A w y s wr r (suf t (k + 1)) → (t.data.toList.getD k 0 = 48 → Calls Try.prog 74 #[.pointer (some ⟨sb, 0, none⟩), i6 k, i6 r, i6 0] wr fun e w' => ∃ r', e = .returned (i6 r') ∧ Hid (Grew noX A w y s w' r' (suf t k))) ∧
      (t.data.toList.getD k 0 = 49 → Calls Try.prog 74 #[.pointer (some ⟨sb, 0, none⟩), i6 k, i6 0, i6 r] wr fun e w' => ∃ r', e = .returned (i6 r') ∧ Hid (Grew noX A w y s w' r' (suf t k))) ∧
      (t.data.toList.getD k 0 ≠ 48 → t.data.toList.getD k 0 ≠ 49 → Grew noX A w y s wr r (suf t k))) := by
    intro k r wr hk hG
    obtain ⟨N, y1, t1, wi1, hr1, d1, m1⟩ := hG.ex
    have hns1 := m1.not_own lsb hns
    have hS1 : StepAt wr sb y1.tb room kb := by rw [m1.tb]; exact (m1.block sb lsb hns (fun h => h)).trans hS
    have hlen : (0 : Nat) < (s.L ++ N).length + 2 := by omega
    have hkb : k < s.bits := by omega
    have hb1 : k < Bd.bitOf (s.L ++ N) r := by
      have := Bd.bit_ge t1.okay (r := r) (k := k + 1) hr1 (by show Bd.From (k + 1) (Bd.den (s.L ++ N) r); rw [d1]; exact suf_from _ _) (by omega)
      exact this
    have hb0 : k < Bd.bitOf (s.L ++ N) 0 := by rw [Bd.bitOf_end _ (by omega)]; omega
    refine ⟨fun h0 => ?_, fun h0 => ?_, fun h0 h1 => ?_⟩
    · refine (node_any (s := { s with L := s.L ++ N }) A t1 wi1 sb room kb hS1 hns1 hroom hr3 k r 0 hkb hr1 hlen hb1 hb0 ?_).mono ?_
      · show A.F k (Bd.mux k (Bd.den (s.L ++ N) r) (Bd.den (s.L ++ N) 0))
        rw [d1, Bd.den_zero, ← suf_zero hk h0]; exact hsuf k (by omega)
      · rintro e w' ⟨r', rfl, hg⟩
        refine ⟨r', rfl, Grew.chain (N1 := N) m1 ?_⟩
        have e : Bd.mux k (Bd.den (s.L ++ N) r) (Bd.den (s.L ++ N) 0) = suf t k := by rw [d1, Bd.den_zero, ← suf_zero hk h0]
        rw [← e]; exact hg
    · refine (node_any (s := { s with L := s.L ++ N }) A t1 wi1 sb room kb hS1 hns1 hroom hr3 k 0 r hkb hlen hr1 hb0 hb1 ?_).mono ?_
      · show A.F k (Bd.mux k (Bd.den (s.L ++ N) 0) (Bd.den (s.L ++ N) r))
        rw [d1, Bd.den_zero, ← suf_one hk h0]; exact hsuf k (by omega)
      · rintro e w' ⟨r', rfl, hg⟩
        refine ⟨r', rfl, Grew.chain (N1 := N) m1 ?_⟩
        have e : Bd.mux k (Bd.den (s.L ++ N) 0) (Bd.den (s.L ++ N) r) = suf t k := by rw [d1, Bd.den_zero, ← suf_one hk h0]
        rw [← e]; exact hg
    · rw [suf_free h0 h1]; exact hG
  have H0 : Hid (Grew noX A w y s w 1 (suf t t.size)) := Grew.same hT hW (by omega) (by rw [Bd.den_one, suf_end]) (Below.refl _ _)
  have hsz : t.size ≤ 128 := by omega
  have hszI : (t.size : Int) ≤ 128 := by omega
  clear hT hW hS hns hroom hr3 ht hF hsuf lsb hf128
  go_enter Try.func48, Try.ntmps48
  go_wp2_with fail
  go_loopw [5, 6] (fun u i wr => ∃ k r : Nat, k ≤ t.size ∧ u = .int .i64 r ∧ i = .int .i64 ((k : Int) - 1) ∧ Hid (Grew noX A w y s wr r (suf t k))) (fun _ i _ => ((intOf i) + 1).toNat)
  case atStart => exact ⟨t.size, 1, Nat.le_refl _, rfl, rfl, H0.out⟩
  case round =>
    obtain ⟨k, r, hk, rfl, rfl, hG⟩ := hrel
    cases k with
    | zero =>
      go_wp2_with fail
      go_ret
      exact ⟨r, rfl, hG⟩
    | succ k =>
      have e1 : ((k + 1 : Nat) : Int) - 1 = (k : Int) := by omega
      rw [e1]
      have hkI : (k : Int) < (t.size : Int) := by omega
      have hk0 : (0 : Int) ≤ (k : Int) := by omega
      have HK := keep (H.out k r wr (by omega) hG)
      clear hG e1
      have hl : k < t.size := by omega
      have hg : t.data.toList.getD k 0 = t[k]'hl := by
        rw [List.getD_eq_getElem?_getD, List.getElem?_eq_getElem (by simpa using hl)]
        rfl
      by_cases h48 : t.data.toList.getD k 0 = 48
      · have hcn : ((t[k]'hl).toNat : Int) = 48 := by rw [← hg, h48]; rfl
        clear hg
        go_wp2_with (first | (go_at_call 74; refine (HK.out.1 h48).mono ?_; rintro e w' ⟨r', rfl, hG'⟩))
        go_roundw
        case rel => exact ⟨k, r', by omega, rfl, rfl, hG'⟩
        case measure => simp [intOf]
      · by_cases h49 : t.data.toList.getD k 0 = 49
        · have hcn : ((t[k]'hl).toNat : Int) = 49 := by rw [← hg, h49]; rfl
          clear hg
          go_wp2_with (first | (go_at_call 74; refine (HK.out.2.1 h49).mono ?_; rintro e w' ⟨r', rfl, hG'⟩))
          go_roundw
          case rel => exact ⟨k, r', by omega, rfl, rfl, hG'⟩
          case measure => simp [intOf]
        · have n1 : (((t[k]'hl).toNat : Int) == 48) = false := by
            rw [beq_eq_false_iff_ne]; intro h; exact h48 (by rw [hg]; exact UInt8.toNat.inj (by simp; omega))
          have n2 : (((t[k]'hl).toNat : Int) == 49) = false := by
            rw [beq_eq_false_iff_ne]; intro h; exact h49 (by rw [hg]; exact UInt8.toNat.inj (by simp; omega))
          have HG := keep (HK.out.2.2 h48 h49)
          clear hg
          go_wp2_with fail
          go_roundw
          case rel => exact ⟨k, r, by omega, rfl, rfl, HG.out⟩
          case measure => simp [intOf]
end Go.Proofs.Ytnkipdlfpnmgeaa
namespace Go.Proofs.Ytnkipdlfpnmgeaa
open Go.RowKit Go.Maps
open Bd (Nd)

section
variable {X : Nat → Prop} {M : Nat} {s : St} {A : Bd.Fam s.bits M} {w w1 w2 : World} {y y1 : Lay} {N1 : List Nd} {room r : Nat} {f : Bd.Fn}
theorem GrewL.chain (hm : Moves X w y w1 y1) (hl : (s.L ++ N1).length ≤ max s.L.length room) (h : GrewL X (s := { s with L := s.L ++ N1 }) A w1 y1 room w2 r f) : GrewL X A w y s room w2 r f := by
  obtain ⟨N2, y2, h1, h2, h3, h4, h5, h6⟩ := h.ex
  have h1' : Tab w2 y2 { s with L := s.L ++ N1 ++ N2 } := h1
  have h2' : Bd.Within A (s.L ++ N1 ++ N2) := h2
  have h3' : r < (s.L ++ N1 ++ N2).length + 2 := h3
  have h4' : Bd.den (s.L ++ N1 ++ N2) r = f := h4
  have h6' : (s.L ++ N1 ++ N2).length ≤ max (s.L ++ N1).length room := h6
  refine ⟨N1 ++ N2, y2, ?_, ?_, ?_, ?_, hm.trans h5, ?_⟩
  · rw [← List.append_assoc]; exact h1'
  · rw [← List.append_assoc]; exact h2'
  · rw [← List.append_assoc]; exact h3'
  · rw [← List.append_assoc]; exact h4'
  · rw [← List.append_assoc]; omega
theorem Full.chain (hm : Moves X w y w1 y1) (h : Full X (s := { s with L := s.L ++ N1 }) A w1 y1 room w2) : Full X A w y s room w2 := by
  obtain ⟨N2, y2, h1, h2, h3, h4, k, g, h5, h6, h7, h8⟩ := h.ex
  have h1' : Tab w2 y2 { s with L := s.L ++ N1 ++ N2 } := h1
  have h2' : Bd.Within A (s.L ++ N1 ++ N2) := h2
  have h4' : room ≤ (s.L ++ N1 ++ N2).length := h4
  have h8' : ∀ i, i < (s.L ++ N1 ++ N2).length → Bd.den (s.L ++ N1 ++ N2) (i + 2) ≠ g := h8
  exact ⟨N1 ++ N2, y2, by rw [← List.append_assoc]; exact h1', by rw [← List.append_assoc]; exact h2', hm.trans h3, by rw [← List.append_assoc]; exact h4', k, g, h5, h6, h7, by rw [← List.append_assoc]; exact h8'⟩
theorem Full.more {X' : Nat → Prop} (h : Full X A w y s room w2) (hx : ∀ k, X k → X' k) : Full X' A w y s room w2 := by
  obtain ⟨N2, y2, h1, h2, h3, h4⟩ := h.ex
  exact ⟨N2, y2, h1, h2, h3.more hx, h4⟩
end

set_option maxHeartbeats 2000000 in
theorem cube_two {M : Nat} {w : World} {y : Lay} {s : St} (A : Bd.Fam s.bits M) (hT : Tab w y s) (hW : Bd.Within A s.L) (sb room kb : Nat) (hS : StepAt w sb y.tb room kb) (hns : ¬ y.own sb) (hr3 : room ≤ 1073741824)
    (t : ByteArray) (ht : t.size = s.bits) (hF : A.F 0 (suf t 0)) :
    Calls Try.prog 48 #[.pointer (some ⟨sb, 0, none⟩), .string t] w fun e w' => (∃ r, e = .returned (i6 r) ∧ GrewL noX A w y s room w' r (suf t 0)) ∨ (e = .panicked noRoom ∧ Full noX A w y s room w') := by
  have hf128 := hT.okay.few
  have hsuf := suf_fam (A := A) (by omega) hF
  have lsb := block_lt hS
  have H : Hid (∀ (k r : Nat) (wr : World), k < t.size → GrewL noX A w y s room wr r (suf t (k + 1)) → (t.data.toList.getD k 0 = 48 → Calls Try.prog 74 #[.pointer (some ⟨sb, 0, none⟩), i6 k, i6 r, i6 0] wr fun e w' => (∃ r', e = .returned (i6 r') ∧ Hid (GrewL noX A w y s room w' r' (suf t k))) ∨ (e = .panicked noRoom ∧ Hid (Full noX A w y s room w'))) ∧
      (t.data.toList.getD k 0 = 49 → Calls Try.prog 74 #[.pointer (some ⟨sb, 0, none⟩), i6 k, i6 0, i6 r] wr fun e w' => (∃ r', e = .returned (i6 r') ∧ Hid (GrewL noX A w y s room w' r' (suf t k))) ∨ (e = .panicked noRoom ∧ Hid (Full noX A w y s room w'))) ∧
      (t.data.toList.getD k 0 ≠ 48 → t.data.toList.getD k 0 ≠ 49 → GrewL noX A w y s room wr r (suf t k))) := by
    intro k r wr hk hG
    obtain ⟨N, y1, t1, wi1, hr1, d1, m1, l1⟩ := hG.ex
    have hns1 := m1.not_own lsb hns
    have hS1 : StepAt wr sb y1.tb room kb := by rw [m1.tb]; exact (m1.block sb lsb hns (fun h => h)).trans hS
    have hlen : (0 : Nat) < (s.L ++ N).length + 2 := by omega
    have hkb : k < s.bits := by omega
    have hb1 : k < Bd.bitOf (s.L ++ N) r := by
      have := Bd.bit_ge t1.okay (r := r) (k := k + 1) hr1 (by show Bd.From (k + 1) (Bd.den (s.L ++ N) r); rw [d1]; exact suf_from _ _) (by omega)
      exact this
    have hb0 : k < Bd.bitOf (s.L ++ N) 0 := by rw [Bd.bitOf_end _ (by omega)]; omega
    refine ⟨fun h0 => ?_, fun h0 => ?_, fun h0 h1 => ?_⟩
    · refine (node_two (s := { s with L := s.L ++ N }) A t1 wi1 sb room kb hS1 hns1 hr3 k r 0 hkb hr1 hlen hb1 hb0 ?_).mono ?_
      · show A.F k (Bd.mux k (Bd.den (s.L ++ N) r) (Bd.den (s.L ++ N) 0))
        rw [d1, Bd.den_zero, ← suf_zero hk h0]; exact hsuf k (by omega)
      · rintro e w' (⟨r', rfl, hg⟩ | ⟨rfl, hf⟩)
        · refine Or.inl ⟨r', rfl, GrewL.chain (N1 := N) m1 l1 ?_⟩
          have e : Bd.mux k (Bd.den (s.L ++ N) r) (Bd.den (s.L ++ N) 0) = suf t k := by rw [d1, Bd.den_zero, ← suf_zero hk h0]
          rw [← e]; exact hg
        · exact Or.inr ⟨rfl, Full.chain (N1 := N) m1 hf⟩
    · refine (node_two (s := { s with L := s.L ++ N }) A t1 wi1 sb room kb hS1 hns1 hr3 k 0 r hkb hlen hr1 hb0 hb1 ?_).mono ?_
      · show A.F k (Bd.mux k (Bd.den (s.L ++ N) 0) (Bd.den (s.L ++ N) r))
        rw [d1, Bd.den_zero, ← suf_one hk h0]; exact hsuf k (by omega)
      · rintro e w' (⟨r', rfl, hg⟩ | ⟨rfl, hf⟩)
        · refine Or.inl ⟨r', rfl, GrewL.chain (N1 := N) m1 l1 ?_⟩
          have e : Bd.mux k (Bd.den (s.L ++ N) 0) (Bd.den (s.L ++ N) r) = suf t k := by rw [d1, Bd.den_zero, ← suf_one hk h0]
          rw [← e]; exact hg
        · exact Or.inr ⟨rfl, Full.chain (N1 := N) m1 hf⟩
    · rw [suf_free h0 h1]; exact hG
  have H0 : Hid (GrewL noX A w y s room w 1 (suf t t.size)) := GrewL.same hT hW (by omega) (by rw [Bd.den_one, suf_end]) (Below.refl _ _)
  have hsz : t.size ≤ 128 := by omega
  have hszI : (t.size : Int) ≤ 128 := by omega
  clear hT hW hS hns hr3 ht hF hsuf lsb hf128
  go_enter Try.func48, Try.ntmps48
  go_wp2_with fail
  go_loopw [5, 6] (fun u i wr => ∃ k r : Nat, k ≤ t.size ∧ u = .int .i64 r ∧ i = .int .i64 ((k : Int) - 1) ∧ Hid (GrewL noX A w y s room wr r (suf t k))) (fun _ i _ => ((intOf i) + 1).toNat)
  case atStart => exact ⟨t.size, 1, Nat.le_refl _, rfl, rfl, H0.out⟩
  case round =>
    obtain ⟨k, r, hk, rfl, rfl, hG⟩ := hrel
    cases k with
    | zero =>
      go_wp2_with fail
      go_ret
      exact Or.inl ⟨r, rfl, hG⟩
    | succ k =>
      have e1 : ((k + 1 : Nat) : Int) - 1 = (k : Int) := by omega
      rw [e1]
      have hkI : (k : Int) < (t.size : Int) := by omega
      have hk0 : (0 : Int) ≤ (k : Int) := by omega
      have HK := keep (H.out k r wr (by omega) hG)
      clear hG e1
      have hl : k < t.size := by omega
      have hg : t.data.toList.getD k 0 = t[k]'hl := by
        rw [List.getD_eq_getElem?_getD, List.getElem?_eq_getElem (by simpa using hl)]
        rfl
      by_cases h48 : t.data.toList.getD k 0 = 48
      · have hcn : ((t[k]'hl).toNat : Int) = 48 := by rw [← hg, h48]; rfl
        clear hg
        go_wp2_with fail
        refine (HK.out.1 h48).mono ?_
        rintro e w' (⟨r', rfl, hG'⟩ | ⟨rfl, hF'⟩)
        · go_wp2_with fail
          go_roundw
          case rel => exact ⟨k, r', by omega, rfl, rfl, hG'⟩
          case measure => simp [intOf]
        · exact ⟨rfl, Or.inr ⟨rfl, hF'.out⟩⟩
      · by_cases h49 : t.data.toList.getD k 0 = 49
        · have hcn : ((t[k]'hl).toNat : Int) = 49 := by rw [← hg, h49]; rfl
          clear hg
          go_wp2_with fail
          refine (HK.out.2.1 h49).mono ?_
          rintro e w' (⟨r', rfl, hG'⟩ | ⟨rfl, hF'⟩)
          · go_wp2_with fail
            go_roundw
            case rel => exact ⟨k, r', by omega, rfl, rfl, hG'⟩
            case measure => simp [intOf]
          · exact ⟨rfl, Or.inr ⟨rfl, hF'.out⟩⟩
        · have n1 : (((t[k]'hl).toNat : Int) == 48) = false := by
            rw [beq_eq_false_iff_ne]; intro h; exact h48 (by rw [hg]; exact UInt8.toNat.inj (by simp; omega))
          have n2 : (((t[k]'hl).toNat : Int) == 49) = false := by
            rw [beq_eq_false_iff_ne]; intro h; exact h49 (by rw [hg]; exact UInt8.toNat.inj (by simp; omega))
          have HG := keep (HK.out.2.2 h48 h49)
          clear hg
          go_wp2_with fail
          go_roundw
          case rel => exact ⟨k, r, by omega, rfl, rfl, HG.out⟩
          case measure => simp [intOf]
end Go.Proofs.Ytnkipdlfpnmgeaa
namespace Go.Proofs.Ytnkipdlfpnmgeaa
open Go.RowKit Go.Maps
open Bd (Nd)

theorem make_zero (w : World) : (Instr.makeMap 74 (some (.int .i64 0))).run Try.prog w = .ok (.map (some w.heap.size)) (w.alloc (.map #[] 0)) := by kernel_rfl

set_option maxHeartbeats 1000000 in
/-- put of nothing, where there is no map yet. -/
theorem put_nil (w : World) (tb : Nat) (c4 : w.cell? ⟨tb, 4, none⟩ = some (.map none)) (fz : w.frozen? ⟨tb, 4, none⟩ = false) :
    Calls Try.prog 43 #[.pointer (some ⟨tb, 3, none⟩), .slice none 0 0] w fun e w' => e = .returned (.tuple #[]) ∧ w' = (w.alloc (.map #[] 0)).setCell ⟨tb, 4, none⟩ (.map (some w.heap.size)) := by
  have qT : ∀ (w : World) (r : Option Nat), (binOp .eql 74 (.map r) (.map none)).run Try.prog w = .ok (.bool r.isNone) w := fun w r => run_eql_map_nil w _ _ _ r Try.underlying74
  have hmz := make_zero
  have ltb : tb < w.heap.size := World.block_lt_of_cell? w _ c4
  have c4a : ∀ o, (w.alloc o).cell? ⟨tb, 4, none⟩ = some (.map none) := fun o => by rw [World.cell?_of_block (heap_alloc_old w o ltb)]; exact c4
  have fza : ∀ o, (w.alloc o).frozen? ⟨tb, 4, none⟩ = false := fun o => by rw [World.frozen?_of_block (heap_alloc_old w o ltb)]; exact fz
  go_enter Try.func43, Try.ntmps43
  go_wp2
  go_loop [19] (fun i => i = .int .i64 0) (fun _ => 0)
  case atStart => rfl
  case round =>
    subst hrel
    go_wp2
    go_end0
    exact ⟨rfl, rfl⟩

theorem new_tab (w : World) (bits limit : Nat) (hb : 1 ≤ bits) (hb2 : bits ≤ 128) (hl : limit ≤ 1048576) :
    Tab (((w.alloc (.cells #[.int .i64 2, .slice none 0 0, .map (some (w.heap.size + 1)), .slice none 0 0, .map (some (w.heap.size + 1 + 1)), i6 bits, i6 limit, .pointer (some ⟨w.heap.size, 0, none⟩)] 78)).alloc (.map #[] 0)).alloc (.map #[] 0)).drew
      ⟨w.heap.size, w.heap.size + 1 + 1, w.heap.size + 1, .slice none 0 0, .slice none 0 0⟩ ⟨[], [], 2, bits, limit⟩ := by
  generalize ho : Obj.cells #[.int .i64 2, .slice none 0 0, .map (some (w.heap.size + 1)), .slice none 0 0, .map (some (w.heap.size + 1 + 1)), i6 bits, i6 limit, .pointer (some ⟨w.heap.size, 0, none⟩)] 78 = o
  have e1 : (w.alloc o).heap.size = w.heap.size + 1 := by simp
  have e2 : ((w.alloc o).alloc (.map #[] 0)).heap.size = w.heap.size + 1 + 1 := by simp
  have m1 := MapOf.new Try.prog 3 25 (w.alloc o)
  rw [e1] at m1
  have m2 := MapOf.new Try.prog 62 3 ((w.alloc o).alloc (.map #[] 0))
  rw [e2] at m2
  refine { cells := ?_, list := World.ownsRow_nil _ _ _ _, roots := World.ownsRow_nil _ _ _ _, nodes := ⟨fun _ => none, m2.same rfl, ?_⟩, refs := ⟨fun _ => none, m1.same ?_, ?_⟩, two := ?_, okay := Bd.Okay.nil hb2, small := ?_, valid := ?_ }
  · show (((w.alloc o).alloc (.map #[] 0)).alloc (.map #[] 0)).heap[w.heap.size]? = _
    rw [heap_alloc_old _ _ (by omega), heap_alloc_old _ _ (by omega), heap_alloc_new, ← ho]
    rfl
  · exact fun x => ⟨fun i h => by simp at h, fun _ => rfl⟩
  · show (((w.alloc o).alloc (.map #[] 0)).alloc (.map #[] 0)).heap[w.heap.size + 1]? = _
    rw [heap_alloc_old _ _ (by omega)]
  · exact fun x => ⟨fun i h => by simp at h, fun _ => rfl⟩
  · show w.heap.size + 1 + 1 ≠ w.heap.size + 1; omega
  · refine ⟨?_, ?_, ?_, hl, hb⟩
    · show 0 ≤ _; omega
    · show 0 ≤ _; omega
    · show 2 ≤ 1099511627776; omega
  · exact ⟨List.nodup_nil, fun n hn => by simp at hn⟩

set_option maxHeartbeats 2000000 in
theorem New_ok (w : World) (bits limit : Nat) (hb : 1 ≤ bits) (hb2 : bits ≤ 128) (hl : limit ≤ 1048576) :
    Calls Try.prog 20 #[i6 bits, i6 limit] w fun e w' => ∃ y, e = .returned (.tuple #[.pointer (some ⟨y.tb, 0, none⟩), .int .i64 0]) ∧ Tab w' y ⟨[], [], 2, bits, limit⟩ ∧ Below w.heap.size w w' ∧ (∀ k, y.own k → w.heap.size ≤ k) := by
  have h1 : ¬ ((bits : Int) < 1) := by omega
  have h2 : ¬ ((128 : Int) < (bits : Int)) := by omega
  have h3 : ¬ ((limit : Int) < 0) := by omega
  have h4 : ¬ ((1048576 : Int) < (limit : Int)) := by omega
  have hmm := @run_makeMap Try.prog
  have qT : ∀ (w : World) (r : Option Nat), (binOp .eql 74 (.map r) (.map none)).run Try.prog w = .ok (.bool r.isNone) w := fun w r => run_eql_map_nil w _ _ _ r Try.underlying74
  go_enter Try.func20, Try.ntmps20
  go_wp2
  go_region
  go_wp2
  go_end0
  go_wp2_with (first | (go_at_call 43; refine (put_nil _ w.heap.size (by go_simp) (by go_simp)).mono ?_; rintro e w1 ⟨rfl, rfl⟩))
  go_ret2
  refine ⟨⟨w.heap.size, w.heap.size + 1 + 1, w.heap.size + 1, .slice none 0 0, .slice none 0 0⟩, rfl, ?_, ?_, ?_⟩
  · exact new_tab w bits limit hb hb2 hl
  · exact ((((Below.refl _ _).alloc (Nat.le_refl _) _).alloc (by simp) _).alloc (by simp <;> omega) _).drew
  · intro k hk
    rcases hk with rfl | rfl | rfl | hk | hk
    · exact Nat.le_refl _
    · show w.heap.size ≤ w.heap.size + 1 + 1; omega
    · show w.heap.size ≤ w.heap.size + 1; omega
    · simp [Value.ownBlock] at hk
    · simp [Value.ownBlock] at hk
end Go.Proofs.Ytnkipdlfpnmgeaa
namespace Go.Proofs.Ytnkipdlfpnmgeaa
open Go.RowKit Go.Maps
open Bd (Nd)

/-- The node of a ref. -/
def St.node? (s : St) (r : Nat) : Option Nat := if r < 2 then some r else if s.first ≤ r then s.roots[r - s.first]? else none

theorem Try.infoInt : (Try.prog.info? 3).map (fun i => (i.zero, i.size, i.bytes)) = some (some (.int .i64 0), 1, 8) := by kernel_rfl
theorem nums_snoc (l : List Nat) (x : Nat) : nums (l ++ [x]) = nums l ++ [i6 x] := by simp [nums]
theorem Tab.cell0 {w : World} {y : Lay} {s : St} (h : Tab w y s) : w.cell? ⟨y.tb, 0, none⟩ = some (i6 s.first) := by rw [cell_at h.cells]; rfl
theorem Tab.cell1 {w : World} {y : Lay} {s : St} (h : Tab w y s) : w.cell? ⟨y.tb, 1, none⟩ = some y.rs := by rw [cell_at h.cells]; rfl
theorem Tab.cell2 {w : World} {y : Lay} {s : St} (h : Tab w y s) : w.cell? ⟨y.tb, 2, none⟩ = some (.map (some y.rm)) := by rw [cell_at h.cells]; rfl
theorem Tab.roots_slice {w : World} {y : Lay} {s : St} (h : Tab w y s) : ∃ ao cap, y.rs = .slice ao s.roots.length cap := by
  rcases h.roots.2 with ⟨e, e2⟩ | ⟨g, c, _, e, _⟩
  · exact ⟨none, 0, by rw [e]; rw [e2]⟩
  · exact ⟨_, _, e⟩
theorem Tab.list_slice {w : World} {y : Lay} {s : St} (h : Tab w y s) : ∃ ao cap, y.ls = .slice ao s.L.length cap := by
  rcases h.list.2 with ⟨e, e2⟩ | ⟨g, c, _, e, _⟩
  · exact ⟨none, 0, by rw [e]; rw [e2]⟩
  · exact ⟨_, _, e⟩

/-- Behind a new ref. -/
theorem tell_tab {w w1 w2 : World} {y : Lay} {s : St} {x : Nat} (hT : Tab w y s) (hx : x ∉ s.roots) (hx2 : 2 ≤ x) (hxl : x < s.L.length + 2) (hsm : s.roots.length + 1 ≤ 1073741824) {g cap : Nat} {v : Value} {o : Obj} (hv : v = .slice (some ⟨g, 0, none⟩) (s.roots.length + 1) cap)
    (hown : w1.ownsRow 0 3 1 v (s.roots.length + 1) (nums s.roots ++ [i6 x])) (hg1 : (w.drew.alloc o).grownBy w1 y.rs.ownBlock) (hat : y.rs.ownBlock = some g ∨ g = w.heap.size + 1) {f : Value → Option Int} (hf : RefMap s.first s.roots f)
    (hput : ∀ f', Upd f (i6 x) (some ((s.first + s.roots.length : Nat) : Int)) f' → MapOf Try.prog 3 25 w2 y.rm (if (f (i6 x)).isSome then s.roots.length else s.roots.length + 1) f')
    (hg2 : (w1.setCell ⟨y.tb, 1, none⟩ v).grownBy w2 (some y.rm)) :
    Tab w2 { y with rs := v } { s with roots := s.roots ++ [x] } ∧ Moves noX w y w2 { y with rs := v } := by
  obtain ⟨a1, a2, a3, a4, a5, a6, a7, a8, a9⟩ := hT.apart
  have z1 : w.heap.size + 1 ≤ w1.heap.size := by have := hg1.size; simpa using this
  have z2 : w1.heap.size ≤ w2.heap.size := by have := hg2.size; simpa using this
  have ltb := hT.lt y.own_tb
  have lrm := hT.lt y.own_rm
  have old1 : ∀ k, k < w.heap.size → y.rs.ownBlock ≠ some k → w1.heap[k]? = w.heap[k]? := by
    intro k hk h2
    rw [hg1.block k (by simp; omega) (fun e => h2 e.symm)]
    exact heap_alloc_old w.drew o hk
  have old2 : ∀ k, k < w1.heap.size → k ≠ y.tb → k ≠ y.rm → w2.heap[k]? = w1.heap[k]? := by
    intro k hk h1 h2
    rw [hg2.block k (by simpa using hk) (fun e => h2 (by cases e; rfl))]
    exact set_other v h1
  have hgown : v.ownBlock = some g := by rw [hv]; rfl
  have hgt : g ≠ y.tb ∧ g ≠ y.rm := by
    rcases hat with h | h
    · exact ⟨fun e => by rw [e] at h; exact a4 h, fun e => by rw [e] at h; exact a8 h⟩
    · exact ⟨by omega, by omega⟩
  obtain ⟨f', hf'⟩ := upd_exists f (i6 x) (some ((s.first + s.roots.length : Nat) : Int))
  have hnone : f (i6 x) = none := (hf x).2 hx
  have hm2 := hput f' hf'
  rw [hnone] at hm2
  obtain ⟨fn, hfn, han⟩ := hT.nodes
  have hcells : w1.heap[y.tb]? = _ := (old1 y.tb ltb a4).trans hT.cells
  have hset := set_block (o := 1) v hcells
  refine ⟨{ cells := ?_, list := ?_, roots := ?_, nodes := ⟨fn, ?_, han⟩, refs := ⟨f', ?_, hf.snoc hx hf'⟩, two := hT.two, okay := hT.okay, small := ?_, valid := ?_ }, ?_⟩
  · rw [hg2.block y.tb (by simp; omega) (by simpa using fun e => a2 e.symm), hset]; rfl
  · refine row_same hT.list fun g' hg' => ?_
    have hl := hT.lt (y.own_ls hg')
    rw [old2 g' (by omega) (fun e => a3 (by rw [← e]; exact hg')) (fun e => a7 (by rw [← e]; exact hg')), old1 g' hl (a9 g' hg')]
  · have e : (s.roots ++ [x]).length = s.roots.length + 1 := by simp
    show World.ownsRow _ 0 3 1 v (s.roots ++ [x]).length (nums (s.roots ++ [x]))
    rw [e, nums_snoc]
    refine row_same hown fun g' hg' => ?_
    rw [hgown] at hg'
    cases hg'
    exact old2 g (hown.lt g hgown).2 hgt.1 hgt.2
  · refine hfn.same ?_
    have hl := hT.lt y.own_mb
    show w2.heap[y.mb]? = w.heap[y.mb]?
    rw [old2 y.mb (by omega) a1 hT.two, old1 y.mb hl a6]
  · have e : (s.roots ++ [x]).length = s.roots.length + 1 := by simp
    show MapOf _ _ _ _ y.rm (s.roots ++ [x]).length f'
    rw [e]
    simpa using hm2
  · have := hT.small
    have e : (s.roots ++ [x]).length = s.roots.length + 1 := by simp
    refine ⟨this.1, ?_, this.2.2.1, this.2.2.2.1, this.2.2.2.2⟩
    show (s.roots ++ [x]).length ≤ _
    omega
  · refine ⟨?_, ?_⟩
    · show (s.roots ++ [x]).Nodup
      rw [List.nodup_append]
      refine ⟨hT.valid.1, by simp, ?_⟩
      intro p hp q hq e
      simp at hq
      subst hq
      subst e
      exact hx hp
    · intro n hn
      have hn' : n ∈ s.roots ++ [x] := hn
      rw [List.mem_append] at hn'
      rcases hn' with h | h
      · exact hT.valid.2 n h
      · simp at h
        subst h
        exact ⟨hx2, hxl⟩
  · refine ⟨rfl, ?_, ?_, ?_, ?_, by omega, ?_⟩
    · intro k hk
      rcases hk with h | h | h | h | h
      · exact Or.inl (Or.inl h)
      · exact Or.inl (Or.inr (Or.inl h))
      · exact Or.inl (Or.inr (Or.inr (Or.inl h)))
      · exact Or.inl (y.own_ls h)
      · have : v.ownBlock = some k := h
        rw [hgown] at this
        cases this
        rcases hat with h | h
        · exact Or.inl (y.own_rs h)
        · exact Or.inr (by omega)
    · exact hg2.os.trans hg1.os
    · exact hg2.tape.trans hg1.tape
    · exact hg2.output.trans hg1.output
    · intro k hk hn _
      rw [old2 k (by omega) (fun e => hn (Or.inl e)) (fun e => hn (Or.inr (Or.inr (Or.inl e)))), old1 k hk (fun e => hn (y.own_rs e))]
end Go.Proofs.Ytnkipdlfpnmgeaa
