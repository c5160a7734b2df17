/-
  ite: of any three numbers.
-/
import Derived.Test.YtffngpdngjfcfaaBIteT
import Derived.Laws.Cover1
namespace Go.Proofs.Ytffngpdngjfcfaa
open Go.RowKit Go.Maps
open Bd (Nd)

theorem min3 (x y z : Nat) : (if (z : Int) < (if (y : Int) < (x : Int) then (y : Int) else (x : Int)) then (z : Int) else (if (y : Int) < (x : Int) then (y : Int) else (x : Int))) = ((min x (min y z) : Nat) : Int) := by
  by_cases h : (y : Int) < (x : Int)
  · rw [if_pos h]
    by_cases h2 : (z : Int) < (y : Int)
    · rw [if_pos h2]; omega
    · rw [if_neg h2]; omega
  · rw [if_neg h]
    by_cases h2 : (z : Int) < (x : Int)
    · rw [if_pos h2]; omega
    · rw [if_neg h2]; omega
theorem quiet_sum {f : FuncId} {args : Array Value} {X : World} {m n : Nat} {v : Value} (h : Calls Try.prog f args (X.drewN (m + n)) fun e w' => e = .returned v ∧ w' = X.drewN (m + n)) : Calls Try.prog f args (X.drewN (m + n)) fun e w'' => e = .returned v ∧ ∃ k, w'' = X.drewN (m + k) :=
  h.mono fun _ _ ⟨he, hm⟩ => ⟨he, n, hm⟩
theorem three_start (w : World) (n : Nat) (o0 : Value × Value × Value) (z : Value × Value × Value) : Three ((((w.alloc (.cells #[o0.1, o0.2.1, o0.2.2] 91)).drewN n).alloc (.cells #[z.1, z.2.1, z.2.2] 91)).alloc (.cells #[z.1, z.2.1, z.2.2] 91)) w.heap.size o0 z z := by
  have e1 : ((w.alloc (.cells #[o0.1, o0.2.1, o0.2.2] 91)).drewN n).heap.size = w.heap.size + 1 := by show (w.alloc _).heap.size = _; simp
  have e2 : ((((w.alloc (.cells #[o0.1, o0.2.1, o0.2.2] 91)).drewN n).alloc (.cells #[z.1, z.2.1, z.2.2] 91))).heap.size = w.heap.size + 1 + 1 := by rw [← e1]; simp
  refine ⟨?_, ?_, ?_⟩
  · rw [heap_alloc_old _ _ (by omega), heap_alloc_old _ _ (by omega)]
    exact heap_alloc_new w _
  · rw [heap_alloc_old _ _ (by omega), ← e1]
    exact heap_alloc_new _ _
  · rw [← e2]
    exact heap_alloc_new _ _
theorem three_below (w : World) (n : Nat) (o0 o1 o2 : Obj) : Below w.heap.size w ((((w.alloc o0).drewN n).alloc o1).alloc o2) := by
  have h := boxedN w o0 n
  exact (h.alloc h.size o1).alloc (by have := h.size; simp; omega) o2
theorem belowN {B : Nat} {w w' : World} (h : Below B w w') (n : Nat) : Below B w (w'.drewN n) := ⟨h.os, h.tape, h.output, h.size, h.block⟩

theorem Three.below {w w' : World} {B C : Nat} {x0 x1 x2 : Value × Value × Value} (h : Three w B x0 x1 x2) (hb : Below C w w') (hC : B + 3 ≤ C) : Three w' B x0 x1 x2 :=
  ⟨(hb.block B (by omega)).trans h.b0, (hb.block (B + 1) (by omega)).trans h.b1, (hb.block (B + 1 + 1) (by omega)).trans h.b2⟩
theorem three_set {w : World} {B : Nat} {x0 x1 x2 y1 y2 : Value × Value × Value} (h : Three w B x0 x1 x2) (j : Nat) (p q : Value) (h1 : #[x1.1, x1.2.1, x1.2.2].setIfInBounds j p = #[y1.1, y1.2.1, y1.2.2]) (h2 : #[x2.1, x2.2.1, x2.2.2].setIfInBounds j q = #[y2.1, y2.2.1, y2.2.2]) :
    Three ((w.setCell ⟨B + 1, j, none⟩ p).setCell ⟨B + 1 + 1, j, none⟩ q) B x0 y1 y2 := by
  refine ⟨?_, ?_, ?_⟩
  · rw [set_other q (by show B ≠ B + 1 + 1; omega), set_other p (by show B ≠ B + 1; omega)]; exact h.b0
  · rw [set_other q (by show B + 1 ≠ B + 1 + 1; omega), set_block p h.b1, h1]
  · have e : (w.setCell ⟨B + 1, j, none⟩ p).heap[B + 1 + 1]? = _ := (set_other p (by show B + 1 + 1 ≠ B + 1; omega)).trans h.b2
    rw [set_block q e, h2]
theorem Three.cells {w : World} {B : Nat} {x0 x1 x2 : Value × Value × Value} (h : Three w B x0 x1 x2) : (w.cell? ⟨B + 1, 0, none⟩ = some x1.1 ∧ w.cell? ⟨B + 1, 1, none⟩ = some x1.2.1 ∧ w.cell? ⟨B + 1, 2, none⟩ = some x1.2.2) ∧ (w.cell? ⟨B + 1 + 1, 0, none⟩ = some x2.1 ∧ w.cell? ⟨B + 1 + 1, 1, none⟩ = some x2.2.1 ∧ w.cell? ⟨B + 1 + 1, 2, none⟩ = some x2.2.2) ∧
    (∀ j, w.frozen? ⟨B + 1, j, none⟩ = false) ∧ (∀ j, w.frozen? ⟨B + 1 + 1, j, none⟩ = false) ∧ (w.cell? ⟨B, 0, none⟩ = some x0.1 ∧ w.cell? ⟨B, 1, none⟩ = some x0.2.1 ∧ w.cell? ⟨B, 2, none⟩ = some x0.2.2) := by
  refine ⟨⟨?_, ?_, ?_⟩, ⟨?_, ?_, ?_⟩, fun j => not_frozen h.b1, fun j => not_frozen h.b2, ⟨?_, ?_, ?_⟩⟩
  · rw [cell_at h.b1]; rfl
  · rw [cell_at h.b1]; rfl
  · rw [cell_at h.b1]; rfl
  · rw [cell_at h.b2]; rfl
  · rw [cell_at h.b2]; rfl
  · rw [cell_at h.b2]; rfl
  · rw [cell_at h.b0]; rfl
  · rw [cell_at h.b0]; rfl
  · rw [cell_at h.b0]; rfl

theorem Three.six {w : World} {B : Nat} {x0 x1 x2 : Value × Value × Value} (h : Three w B x0 x1 x2) : w.cell? ⟨B + 1, 0, none⟩ = some x1.1 ∧ w.cell? ⟨B + 1, 1, none⟩ = some x1.2.1 ∧ w.cell? ⟨B + 1, 2, none⟩ = some x1.2.2 ∧ w.cell? ⟨B + 1 + 1, 0, none⟩ = some x2.1 ∧ w.cell? ⟨B + 1 + 1, 1, none⟩ = some x2.2.1 ∧ w.cell? ⟨B + 1 + 1, 2, none⟩ = some x2.2.2 :=
  ⟨h.cells.1.1, h.cells.1.2.1, h.cells.1.2.2, h.cells.2.1.1, h.cells.2.1.2.1, h.cells.2.1.2.2⟩

/-- The j-th halves are stored. -/
def upTo (j : Nat) (f : Nat → Nat) (a b c : Nat) : Value × Value × Value := (if 0 < j then i6 (f a) else i6 0, if 1 < j then i6 (f b) else i6 0, if 2 < j then i6 (f c) else i6 0)
theorem upTo_three (f : Nat → Nat) (a b c : Nat) : upTo 3 f a b c = v3 (f a) (f b) (f c) := rfl

theorem idx0 (a b c : Int) (w : World) : (Instr.index 91 (.agg #[.int .i64 a, .int .i64 b, .int .i64 c]) (.int .i64 0)).run Try.prog w = .ok (.int .i64 a) w := by kernel_rfl
theorem idx1 (a b c : Int) (w : World) : (Instr.index 91 (.agg #[.int .i64 a, .int .i64 b, .int .i64 c]) (.int .i64 1)).run Try.prog w = .ok (.int .i64 b) w := by kernel_rfl
theorem idx2 (a b c : Int) (w : World) : (Instr.index 91 (.agg #[.int .i64 a, .int .i64 b, .int .i64 c]) (.int .i64 2)).run Try.prog w = .ok (.int .i64 c) w := by kernel_rfl

set_option maxRecDepth 2000 in
set_option maxHeartbeats 4000000 in
theorem ite_miss {n M : Nat} (ih : iteSpec n) {w : World} {y : Lay} {s : St} (A : Bd.Fam s.bits M) (hT : Tab w y s) (hW : Bd.Within A s.L) (sb room kb : Nat) (hS : StepAt w sb y.tb room kb) (hns : ¬ y.own sb) (hnk : ¬ y.own kb) (hroom : s.bits * M ≤ room) (hr3 : room ≤ 1073741824) (hbM : s.bits * M ≤ 1048576)
    (sz : Nat) (kf : Value → Option Int) (hM : MapOf Try.prog 91 3 w kb sz kf) (hK : KnownOk s.L kf) (a b c kk : Nat) (ha : a < s.L.length + 2) (hb : b < s.L.length + 2) (hc : c < s.L.length + 2)
    (hka : kk ≤ Bd.bitOf s.L a) (hkb : kk ≤ Bd.bitOf s.L b) (hkc : kk ≤ Bd.bitOf s.L c) (hF : A.F kk (Bd.iteF (Bd.den s.L a) (Bd.den s.L b) (Bd.den s.L c))) (hn : 128 - kk ≤ n + 1)
    (ha2 : 2 ≤ a) (hbc : b ≠ c) (hq : ¬ (b = 1 ∧ c = 0)) (hv : kf (arV a b c) = none) :
    Calls Try.prog 53 #[.pointer (some ⟨sb, 0, none⟩), .agg #[i6 a, i6 b, i6 c]] w fun e w' => ∃ r, e = .returned (i6 r) ∧ IteGot A w y s kb w' r (Bd.iteF (Bd.den s.L a) (Bd.den s.L b) (Bd.den s.L c)) := by
  have hsm := hT.small.1
  obtain ⟨kl, hkl⟩ := key_arr (a := a) (b := b) (c := c) (by omega) (by omega) (by omega)
  have hlook : ∀ n o, (Instr.lookup 140 (.map (some kb)) (.agg #[.int .i64 a, .int .i64 b, .int .i64 c]) true).run Try.prog ((w.alloc o).drewN n) = .ok (.tuple #[.int .i64 0, .bool false]) ((w.alloc o).drewN n) := by
    intro n o
    have := MapOf.look (w := (w.alloc o).drewN n) (hM.same ((boxedN w o n).block _ hM.lt)) kArr Try.underlying140 Try.underlying3 (zero_int _) hkl
    have hv' : kf (.agg #[i6 a, i6 b, i6 c]) = none := hv
    rw [hv'] at this
    exact this
  have lsb := block_lt hS
  have s2 : ∀ n o, ((w.alloc o).drewN n).cell? ⟨sb, 2, none⟩ = some (.map (some kb)) := by
    intro n o
    have h1 : ((w.alloc o).drewN n).heap[sb]? = w.heap[sb]? := (boxedN w o n).block sb lsb
    rw [World.cell?_of_block h1, cell_at hS]; rfl
  have s0 : ∀ n o, ((w.alloc o).drewN n).cell? ⟨sb, 0, none⟩ = some (.pointer (some ⟨y.tb, 3, none⟩)) := by
    intro n o
    have h1 : ((w.alloc o).drewN n).heap[sb]? = w.heap[sb]? := (boxedN w o n).block sb lsb
    rw [World.cell?_of_block h1, cell_at hS]; rfl
  have c0 : w.cell? ⟨sb, 0, none⟩ = some (.pointer (some ⟨y.tb, 3, none⟩)) := by rw [cell_at hS]; rfl
  have a1 : ((a : Int) == 1) = false := int_ne (b := 1) (by omega)
  have a0 : ((a : Int) == 0) = false := int_ne (b := 0) (by omega)
  have bc := int_ne hbc
  have hbit : ∀ x, x < s.L.length + 2 → ∀ W, Below w.heap.size w W → Calls Try.prog 84 #[.pointer (some ⟨y.tb, 3, none⟩), i6 x] W fun e w' => e = .returned (i6 (Bd.bitOf s.L x)) ∧ w' = W :=
    fun x hx W hB => bit_any (hT.below hB) x hx
  obtain ⟨bo, hbo⟩ : ∃ bo, bo = Bd.bitOf s.L := ⟨_, rfl⟩
  rw [← hbo] at hbit
  have HBIT := keep hbit
  have ix0 := idx0 a b c
  have ix1 := idx1 a b c
  have ix2 := idx2 a b c
  have HBO := keep hbo
  have HTT := keep hT
  clear hbit hbo
  have hhalf : ∀ k, k < 128 → ∀ x, x < s.L.length + 2 → ∀ W, Below w.heap.size w W → Calls Try.prog 85 #[.pointer (some ⟨y.tb, 3, none⟩), i6 x, i6 k] W fun e w' => e = .returned (.tuple #[i6 (Bd.loOf s.L x k), i6 (Bd.hiOf s.L x k)]) ∧ Below W.heap.size W w' :=
    fun k hk x hx W hB => halves_any (hT.below hB) x k hx hk
  obtain ⟨k0, hk0⟩ : ∃ k0, k0 = min (bo a) (min (bo b) (bo c)) := ⟨_, rfl⟩
  have hmin : ∀ (ts : Array TypeId) (t : TypeId) (w : World), (Builtin.min_ ts t #[.int .i64 (bo a), .int .i64 (bo b), .int .i64 (bo c)]).run Try.prog w = .ok (.int .i64 k0) w := by
    intro ts t w
    rw [run_min_int3, hk0, min3]
  have hfew := hT.okay.few
  have hba := Bd.bitOf_lt hT.okay ha2 ha
  have HK : Hid (kk ≤ k0 ∧ k0 ≤ Bd.bitOf s.L a ∧ k0 ≤ Bd.bitOf s.L b ∧ k0 ≤ Bd.bitOf s.L c ∧ k0 < s.bits) := by
    rw [HBO.out] at hk0
    exact ⟨by omega, by omega, by omega, by omega, by omega⟩
  have hk128 : k0 < 128 := by have := HK.out.2.2.2.2; omega
  obtain ⟨lo, hlo⟩ : ∃ lo : Nat → Nat, lo = fun x => Bd.loOf s.L x k0 := ⟨_, rfl⟩
  obtain ⟨hi, hhi⟩ : ∃ hi : Nat → Nat, hi = fun x => Bd.hiOf s.L x k0 := ⟨_, rfl⟩
  have HHALF : Hid (∀ x, x < s.L.length + 2 → ∀ W, Below w.heap.size w W → Calls Try.prog 85 #[.pointer (some ⟨y.tb, 3, none⟩), i6 x, i6 k0] W fun e w' => e = .returned (.tuple #[i6 (lo x), i6 (hi x)]) ∧ Below W.heap.size W w') := by
    rw [hlo, hhi]
    exact hhalf k0 hk128
  have HFIN := keep (fun W hBW h3 => ite_three ih A hT hW sb room kb hS hns hnk hroom hr3 hbM sz kf hM hK a b c kk k0 ha hb hc HK.out.1 HK.out.2.1 HK.out.2.2.1 HK.out.2.2.2.1 HK.out.2.2.2.2 hF hn W hBW h3)
  have el : ∀ x, Bd.loOf s.L x k0 = lo x := by intro x; rw [hlo]
  have eh : ∀ x, Bd.hiOf s.L x k0 = hi x := by intro x; rw [hhi]
  simp only [el, eh] at HFIN
  clear hk0 hlo hhi el eh hhalf hka hkb hkc hroom hr3 hbM ih
  by_cases hb1 : b = 1
  · have hb1' : ((b : Int) == 1) = true := int_eq (b := 1) hb1
    have hc0 : ((c : Int) == 0) = false := int_ne (b := 0) (fun e => hq ⟨hb1, e⟩)
    clear hq hb1 hbc hT hW hM hK hS hv hkl hF
    go_enter Try.func53, Try.ntmps53
    go_wp2_with fail
    go_quiet (fail)
    go_wp2_with fail
    go_quiet (fail)
    go_wp2_with fail
    go_quiet (first | exact quiet_sum (HBIT.out _ (by first | exact ha | exact hb | exact hc) _ (boxedN _ _ _)))
    go_wp2_with fail
    go_loopw [74] (fun i wr => ∃ j : Nat, j ≤ 3 ∧ i = .int .i64 j ∧ Three wr w.heap.size (v3 a b c) (upTo j lo a b c) (upTo j hi a b c) ∧ Below w.heap.size w wr) (fun i _ => 3 - (intOf i).toNat)
    case atStart => exact ⟨0, by omega, rfl, three_start w _ (v3 a b c) (v3 0 0 0), three_below w _ _ _ _⟩
    case round =>
      obtain ⟨j, hj, rfl, h3, hBW⟩ := hrel
      have q0 : wr.cell? ⟨sb, 0, none⟩ = some (.pointer (some ⟨y.tb, 3, none⟩)) := (hBW.cell (p := ⟨sb, 0, none⟩) lsb).trans c0
      have hsz := block_lt h3.b2
      have hrs := hBW.size
      have hjj : j = 0 ∨ j = 1 ∨ j = 2 ∨ j = 3 := by omega
      have H3 := keep h3
      have HBW := keep hBW
      clear hj h3 hBW hlook s2 s0
      rcases hjj with rfl | rfl | rfl | rfl
      · go_wp2_with (first | (go_at_call 85; refine (HHALF.out a ha wr HBW.out).mono ?_; rintro e w1 ⟨rfl, hb1⟩; have T1 := H3.out.below hb1 (by omega); have HT1 := keep T1; obtain ⟨⟨d0, _, _⟩, ⟨e0, _, _⟩, fz1, fz2, _⟩ := T1.cells; clear T1))
        go_roundw
        case rel => exact ⟨1, by omega, by go_num, three_set HT1.out 0 _ _ rfl rfl, ((HBW.out.trans (hb1.mono hrs)).setCell (by simp <;> omega) _).setCell (by simp <;> omega) _⟩
        case measure => simp [intOf]
      · go_wp2_with (first | (go_at_call 85; refine (HHALF.out b hb wr HBW.out).mono ?_; rintro e w1 ⟨rfl, hb1⟩; have T1 := H3.out.below hb1 (by omega); have HT1 := keep T1; obtain ⟨⟨_, d0, _⟩, ⟨_, e0, _⟩, fz1, fz2, _⟩ := T1.cells; clear T1))
        go_roundw
        case rel => exact ⟨2, by omega, by go_num, three_set HT1.out 1 _ _ rfl rfl, ((HBW.out.trans (hb1.mono hrs)).setCell (by simp <;> omega) _).setCell (by simp <;> omega) _⟩
        case measure => simp [intOf]
      · go_wp2_with (first | (go_at_call 85; refine (HHALF.out c hc wr HBW.out).mono ?_; rintro e w1 ⟨rfl, hb1⟩; have T1 := H3.out.below hb1 (by omega); have HT1 := keep T1; obtain ⟨⟨_, _, d0⟩, ⟨_, _, e0⟩, fz1, fz2, _⟩ := T1.cells; clear T1))
        go_roundw
        case rel => exact ⟨3, by omega, by go_num, three_set HT1.out 2 _ _ rfl rfl, ((HBW.out.trans (hb1.mono hrs)).setCell (by simp <;> omega) _).setCell (by simp <;> omega) _⟩
        case measure => simp [intOf]
      · have S0 := H3.out.six
        obtain ⟨g0, g1, g2, g3, g4, g5⟩ := S0
        have HF1 := keep (HFIN.out wr.drew HBW.out.drew ⟨H3.out.b0, H3.out.b1, H3.out.b2⟩)
        simp only [upTo_three] at g0 g1 g2 g3 g4 g5
        go_wp2_with fail
        go_region_held3 (fun w' => w'.cell? ⟨w.heap.size + 1, 0, none⟩ = some (.int .i64 (lo a)) ∧ w'.cell? ⟨w.heap.size + 1, 1, none⟩ = some (.int .i64 (lo b)) ∧ w'.cell? ⟨w.heap.size + 1, 2, none⟩ = some (.int .i64 (lo c)) ∧ w'.cell? ⟨w.heap.size + 1 + 1, 0, none⟩ = some (.int .i64 (hi a)) ∧ w'.cell? ⟨w.heap.size + 1 + 1, 1, none⟩ = some (.int .i64 (hi b)) ∧ w'.cell? ⟨w.heap.size + 1 + 1, 2, none⟩ = some (.int .i64 (hi c))) (first | (go_keep; done) | exact T3.six | exact T2.six | exact T1.six) (first | (go_at_call 86; refine HC3.out.mono ?_; rintro e w3 ⟨r, rfl, T3, q2, w4, hrun, HG⟩) | (go_at_call 53; refine HC2.out.mono ?_; rintro e w2 ⟨r2, rfl, T2, HC3⟩) | (go_at_call 53; refine HF1.out.mono ?_; rintro e w1 ⟨r1, rfl, T1, HC2⟩))
        obtain ⟨_, _, _, _, ⟨o0, o1, o2⟩⟩ := T3.cells
        go_wp2_with fail
        go_region
        go_wp2_with fail
        go_ret
        exact ⟨r, rfl, HG.out⟩
  · have hb1' : ((b : Int) == 1) = false := int_ne (b := 1) hb1
    clear hq hb1 hbc hT hW hM hK hS hv hkl hF
    go_enter Try.func53, Try.ntmps53
    go_wp2_with fail
    go_quiet (fail)
    go_wp2_with fail
    go_quiet (fail)
    go_wp2_with fail
    go_quiet (first | exact quiet_sum (HBIT.out _ (by first | exact ha | exact hb | exact hc) _ (boxedN _ _ _)))
    go_wp2_with fail
    go_loopw [74] (fun i wr => ∃ j : Nat, j ≤ 3 ∧ i = .int .i64 j ∧ Three wr w.heap.size (v3 a b c) (upTo j lo a b c) (upTo j hi a b c) ∧ Below w.heap.size w wr) (fun i _ => 3 - (intOf i).toNat)
    case atStart => exact ⟨0, by omega, rfl, three_start w _ (v3 a b c) (v3 0 0 0), three_below w _ _ _ _⟩
    case round =>
      obtain ⟨j, hj, rfl, h3, hBW⟩ := hrel
      have q0 : wr.cell? ⟨sb, 0, none⟩ = some (.pointer (some ⟨y.tb, 3, none⟩)) := (hBW.cell (p := ⟨sb, 0, none⟩) lsb).trans c0
      have hsz := block_lt h3.b2
      have hrs := hBW.size
      have hjj : j = 0 ∨ j = 1 ∨ j = 2 ∨ j = 3 := by omega
      have H3 := keep h3
      have HBW := keep hBW
      clear hj h3 hBW hlook s2 s0
      rcases hjj with rfl | rfl | rfl | rfl
      · go_wp2_with (first | (go_at_call 85; refine (HHALF.out a ha wr HBW.out).mono ?_; rintro e w1 ⟨rfl, hb1⟩; have T1 := H3.out.below hb1 (by omega); have HT1 := keep T1; obtain ⟨⟨d0, _, _⟩, ⟨e0, _, _⟩, fz1, fz2, _⟩ := T1.cells; clear T1))
        go_roundw
        case rel => exact ⟨1, by omega, by go_num, three_set HT1.out 0 _ _ rfl rfl, ((HBW.out.trans (hb1.mono hrs)).setCell (by simp <;> omega) _).setCell (by simp <;> omega) _⟩
        case measure => simp [intOf]
      · go_wp2_with (first | (go_at_call 85; refine (HHALF.out b hb wr HBW.out).mono ?_; rintro e w1 ⟨rfl, hb1⟩; have T1 := H3.out.below hb1 (by omega); have HT1 := keep T1; obtain ⟨⟨_, d0, _⟩, ⟨_, e0, _⟩, fz1, fz2, _⟩ := T1.cells; clear T1))
        go_roundw
        case rel => exact ⟨2, by omega, by go_num, three_set HT1.out 1 _ _ rfl rfl, ((HBW.out.trans (hb1.mono hrs)).setCell (by simp <;> omega) _).setCell (by simp <;> omega) _⟩
        case measure => simp [intOf]
      · go_wp2_with (first | (go_at_call 85; refine (HHALF.out c hc wr HBW.out).mono ?_; rintro e w1 ⟨rfl, hb1⟩; have T1 := H3.out.below hb1 (by omega); have HT1 := keep T1; obtain ⟨⟨_, _, d0⟩, ⟨_, _, e0⟩, fz1, fz2, _⟩ := T1.cells; clear T1))
        go_roundw
        case rel => exact ⟨3, by omega, by go_num, three_set HT1.out 2 _ _ rfl rfl, ((HBW.out.trans (hb1.mono hrs)).setCell (by simp <;> omega) _).setCell (by simp <;> omega) _⟩
        case measure => simp [intOf]
      · have S0 := H3.out.six
        obtain ⟨g0, g1, g2, g3, g4, g5⟩ := S0
        have HF1 := keep (HFIN.out wr.drew HBW.out.drew ⟨H3.out.b0, H3.out.b1, H3.out.b2⟩)
        simp only [upTo_three] at g0 g1 g2 g3 g4 g5
        go_wp2_with fail
        go_region_held3 (fun w' => w'.cell? ⟨w.heap.size + 1, 0, none⟩ = some (.int .i64 (lo a)) ∧ w'.cell? ⟨w.heap.size + 1, 1, none⟩ = some (.int .i64 (lo b)) ∧ w'.cell? ⟨w.heap.size + 1, 2, none⟩ = some (.int .i64 (lo c)) ∧ w'.cell? ⟨w.heap.size + 1 + 1, 0, none⟩ = some (.int .i64 (hi a)) ∧ w'.cell? ⟨w.heap.size + 1 + 1, 1, none⟩ = some (.int .i64 (hi b)) ∧ w'.cell? ⟨w.heap.size + 1 + 1, 2, none⟩ = some (.int .i64 (hi c))) (first | (go_keep; done) | exact T3.six | exact T2.six | exact T1.six) (first | (go_at_call 86; refine HC3.out.mono ?_; rintro e w3 ⟨r, rfl, T3, q2, w4, hrun, HG⟩) | (go_at_call 53; refine HC2.out.mono ?_; rintro e w2 ⟨r2, rfl, T2, HC3⟩) | (go_at_call 53; refine HF1.out.mono ?_; rintro e w1 ⟨r1, rfl, T1, HC2⟩))
        obtain ⟨_, _, _, _, ⟨o0, o1, o2⟩⟩ := T3.cells
        go_wp2_with fail
        go_region
        go_wp2_with fail
        go_ret
        exact ⟨r, rfl, HG.out⟩
end Go.Proofs.Ytffngpdngjfcfaa
