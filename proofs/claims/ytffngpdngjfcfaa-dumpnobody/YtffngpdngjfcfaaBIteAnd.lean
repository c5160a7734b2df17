/-
  What the calls on a set of places do: has, add; and fix on a ternary.
  Plain mathematics of ternary headers as lists of bytes, and of the two words in which the program keeps a set of places. No program is named here.
  step, and cube: the node of a text.
  ite: whatever it is handed.
  ite: of any three numbers.
-/
import Derived.Test.YtffngpdngjfcfaaQReadAnd
import Derived.Laws.Cover1
import Derived.Test.YtffngpdngjfcfaaRows
import Derived.WalkKit
import Derived.WalkSpells
import Derived.WalkLawsBesides
import Derived.RegionTactic
import Derived.ChangeAlike
namespace Go.Proofs.Ytffngpdngjfcfaa
open Go.RowKit Go.Maps
open Bd (Nd)

theorem min3 (x y z : Nat) : (if (z : Int) < (if (y : Int) < (x : Int) then (y : Int) else (x : Int)) then (z : Int) else (if (y : Int) < (x : Int) then (y : Int) else (x : Int))) = ((min x (min y z) : Nat) : Int) := by
  by_cases h : (y : Int) < (x : Int)
  · rw [if_pos h]
    by_cases h2 : (z : Int) < (y : Int)
    · rw [if_pos h2]; omega
    · rw [if_neg h2]; omega
  · rw [if_neg h]
    by_cases h2 : (z : Int) < (x : Int)
    · rw [if_pos h2]; omega
    · rw [if_neg h2]; omega
theorem quiet_sum {f : FuncId} {args : Array Value} {X : World} {m n : Nat} {v : Value} (h : Calls Try.prog f args (X.drewN (m + n)) fun e w' => e = .returned v ∧ w' = X.drewN (m + n)) : Calls Try.prog f args (X.drewN (m + n)) fun e w'' => e = .returned v ∧ ∃ k, w'' = X.drewN (m + k) :=
  h.mono fun _ _ ⟨he, hm⟩ => ⟨he, n, hm⟩
theorem three_start (w : World) (n : Nat) (o0 : Value × Value × Value) (z : Value × Value × Value) : Three ((((w.alloc (.cells #[o0.1, o0.2.1, o0.2.2] 91)).drewN n).alloc (.cells #[z.1, z.2.1, z.2.2] 91)).alloc (.cells #[z.1, z.2.1, z.2.2] 91)) w.heap.size o0 z z := by
  have e1 : ((w.alloc (.cells #[o0.1, o0.2.1, o0.2.2] 91)).drewN n).heap.size = w.heap.size + 1 := by show (w.alloc _).heap.size = _; simp
  have e2 : ((((w.alloc (.cells #[o0.1, o0.2.1, o0.2.2] 91)).drewN n).alloc (.cells #[z.1, z.2.1, z.2.2] 91))).heap.size = w.heap.size + 1 + 1 := by rw [← e1]; simp
  refine ⟨?_, ?_, ?_⟩
  · rw [heap_alloc_old _ _ (by omega), heap_alloc_old _ _ (by omega)]
    exact heap_alloc_new w _
  · rw [heap_alloc_old _ _ (by omega), ← e1]
    exact heap_alloc_new _ _
  · rw [← e2]
    exact heap_alloc_new _ _
theorem three_below (w : World) (n : Nat) (o0 o1 o2 : Obj) : Below w.heap.size w ((((w.alloc o0).drewN n).alloc o1).alloc o2) := by
  have h := boxedN w o0 n
  exact (h.alloc h.size o1).alloc (by have := h.size; simp; omega) o2
theorem belowN {B : Nat} {w w' : World} (h : Below B w w') (n : Nat) : Below B w (w'.drewN n) := ⟨h.os, h.tape, h.output, h.size, h.block⟩

theorem Three.below {w w' : World} {B C : Nat} {x0 x1 x2 : Value × Value × Value} (h : Three w B x0 x1 x2) (hb : Below C w w') (hC : B + 3 ≤ C) : Three w' B x0 x1 x2 :=
  ⟨(hb.block B (by omega)).trans h.b0, (hb.block (B + 1) (by omega)).trans h.b1, (hb.block (B + 1 + 1) (by omega)).trans h.b2⟩
theorem three_set {w : World} {B : Nat} {x0 x1 x2 y1 y2 : Value × Value × Value} (h : Three w B x0 x1 x2) (j : Nat) (p q : Value) (h1 : #[x1.1, x1.2.1, x1.2.2].setIfInBounds j p = #[y1.1, y1.2.1, y1.2.2]) (h2 : #[x2.1, x2.2.1, x2.2.2].setIfInBounds j q = #[y2.1, y2.2.1, y2.2.2]) :
    Three ((w.setCell ⟨B + 1, j, none⟩ p).setCell ⟨B + 1 + 1, j, none⟩ q) B x0 y1 y2 := by
  refine ⟨?_, ?_, ?_⟩
  · rw [set_other q (by show B ≠ B + 1 + 1; omega), set_other p (by show B ≠ B + 1; omega)]; exact h.b0
  · rw [set_other q (by show B + 1 ≠ B + 1 + 1; omega), set_block p h.b1, h1]
  · have e : (w.setCell ⟨B + 1, j, none⟩ p).heap[B + 1 + 1]? = _ := (set_other p (by show B + 1 + 1 ≠ B + 1; omega)).trans h.b2
    rw [set_block q e, h2]
theorem Three.cells {w : World} {B : Nat} {x0 x1 x2 : Value × Value × Value} (h : Three w B x0 x1 x2) : (w.cell? ⟨B + 1, 0, none⟩ = some x1.1 ∧ w.cell? ⟨B + 1, 1, none⟩ = some x1.2.1 ∧ w.cell? ⟨B + 1, 2, none⟩ = some x1.2.2) ∧ (w.cell? ⟨B + 1 + 1, 0, none⟩ = some x2.1 ∧ w.cell? ⟨B + 1 + 1, 1, none⟩ = some x2.2.1 ∧ w.cell? ⟨B + 1 + 1, 2, none⟩ = some x2.2.2) ∧
    (∀ j, w.frozen? ⟨B + 1, j, none⟩ = false) ∧ (∀ j, w.frozen? ⟨B + 1 + 1, j, none⟩ = false) ∧ (w.cell? ⟨B, 0, none⟩ = some x0.1 ∧ w.cell? ⟨B, 1, none⟩ = some x0.2.1 ∧ w.cell? ⟨B, 2, none⟩ = some x0.2.2) := by
  refine ⟨⟨?_, ?_, ?_⟩, ⟨?_, ?_, ?_⟩, fun j => not_frozen h.b1, fun j => not_frozen h.b2, ⟨?_, ?_, ?_⟩⟩
  · rw [cell_at h.b1]; rfl
  · rw [cell_at h.b1]; rfl
  · rw [cell_at h.b1]; rfl
  · rw [cell_at h.b2]; rfl
  · rw [cell_at h.b2]; rfl
  · rw [cell_at h.b2]; rfl
  · rw [cell_at h.b0]; rfl
  · rw [cell_at h.b0]; rfl
  · rw [cell_at h.b0]; rfl

theorem Three.six {w : World} {B : Nat} {x0 x1 x2 : Value × Value × Value} (h : Three w B x0 x1 x2) : w.cell? ⟨B + 1, 0, none⟩ = some x1.1 ∧ w.cell? ⟨B + 1, 1, none⟩ = some x1.2.1 ∧ w.cell? ⟨B + 1, 2, none⟩ = some x1.2.2 ∧ w.cell? ⟨B + 1 + 1, 0, none⟩ = some x2.1 ∧ w.cell? ⟨B + 1 + 1, 1, none⟩ = some x2.2.1 ∧ w.cell? ⟨B + 1 + 1, 2, none⟩ = some x2.2.2 :=
  ⟨h.cells.1.1, h.cells.1.2.1, h.cells.1.2.2, h.cells.2.1.1, h.cells.2.1.2.1, h.cells.2.1.2.2⟩

/-- The j-th halves are stored. -/
def upTo (j : Nat) (f : Nat → Nat) (a b c : Nat) : Value × Value × Value := (if 0 < j then i6 (f a) else i6 0, if 1 < j then i6 (f b) else i6 0, if 2 < j then i6 (f c) else i6 0)
theorem upTo_three (f : Nat → Nat) (a b c : Nat) : upTo 3 f a b c = v3 (f a) (f b) (f c) := rfl

theorem idx0 (a b c : Int) (w : World) : (Instr.index 91 (.agg #[.int .i64 a, .int .i64 b, .int .i64 c]) (.int .i64 0)).run Try.prog w = .ok (.int .i64 a) w := by kernel_rfl
theorem idx1 (a b c : Int) (w : World) : (Instr.index 91 (.agg #[.int .i64 a, .int .i64 b, .int .i64 c]) (.int .i64 1)).run Try.prog w = .ok (.int .i64 b) w := by kernel_rfl
theorem idx2 (a b c : Int) (w : World) : (Instr.index 91 (.agg #[.int .i64 a, .int .i64 b, .int .i64 c]) (.int .i64 2)).run Try.prog w = .ok (.int .i64 c) w := by kernel_rfl

set_option maxRecDepth 2000 in
set_option maxHeartbeats 4000000 in
theorem ite_miss {n M : Nat} (ih : iteSpec n) {w : World} {y : Lay} {s : St} (A : Bd.Fam s.bits M) (hT : Tab w y s) (hW : Bd.Within A s.L) (sb room kb : Nat) (hS : StepAt w sb y.tb room kb) (hns : ¬ y.own sb) (hnk : ¬ y.own kb) (hroom : s.bits * M ≤ room) (hr3 : room ≤ 1073741824) (hbM : s.bits * M ≤ 1048576)
    (sz : Nat) (kf : Value → Option Int) (hM : MapOf Try.prog 91 3 w kb sz kf) (hK : KnownOk s.L kf) (a b c kk : Nat) (ha : a < s.L.length + 2) (hb : b < s.L.length + 2) (hc : c < s.L.length + 2)
    (hka : kk ≤ Bd.bitOf s.L a) (hkb : kk ≤ Bd.bitOf s.L b) (hkc : kk ≤ Bd.bitOf s.L c) (hF : A.F kk (Bd.iteF (Bd.den s.L a) (Bd.den s.L b) (Bd.den s.L c))) (hn : 128 - kk ≤ n + 1)
    (ha2 : 2 ≤ a) (hbc : b ≠ c) (hq : ¬ (b = 1 ∧ c = 0)) (hv : kf (arV a b c) = none) :
    Calls Try.prog 53 #[.pointer (some ⟨sb, 0, none⟩), .agg #[i6 a, i6 b, i6 c]] w fun e w' => ∃ r, e = .returned (i6 r) ∧ IteGot A w y s kb w' r (Bd.iteF (Bd.den s.L a) (Bd.den s.L b) (Bd.den s.L c)) := by
  have hsm := hT.small.1
  obtain ⟨kl, hkl⟩ := key_arr (a := a) (b := b) (c := c) (by omega) (by omega) (by omega)
  have hlook : ∀ n o, (Instr.lookup 140 (.map (some kb)) (.agg #[.int .i64 a, .int .i64 b, .int .i64 c]) true).run Try.prog ((w.alloc o).drewN n) = .ok (.tuple #[.int .i64 0, .bool false]) ((w.alloc o).drewN n) := by
    intro n o
    have := MapOf.look (w := (w.alloc o).drewN n) (hM.same ((boxedN w o n).block _ hM.lt)) kArr Try.underlying140 Try.underlying3 (zero_int _) hkl
    have hv' : kf (.agg #[i6 a, i6 b, i6 c]) = none := hv
    rw [hv'] at this
    exact this
  have lsb := block_lt hS
  have s2 : ∀ n o, ((w.alloc o).drewN n).cell? ⟨sb, 2, none⟩ = some (.map (some kb)) := by
    intro n o
    have h1 : ((w.alloc o).drewN n).heap[sb]? = w.heap[sb]? := (boxedN w o n).block sb lsb
    rw [World.cell?_of_block h1, cell_at hS]; rfl
  have s0 : ∀ n o, ((w.alloc o).drewN n).cell? ⟨sb, 0, none⟩ = some (.pointer (some ⟨y.tb, 3, none⟩)) := by
    intro n o
    have h1 : ((w.alloc o).drewN n).heap[sb]? = w.heap[sb]? := (boxedN w o n).block sb lsb
    rw [World.cell?_of_block h1, cell_at hS]; rfl
  have c0 : w.cell? ⟨sb, 0, none⟩ = some (.pointer (some ⟨y.tb, 3, none⟩)) := by rw [cell_at hS]; rfl
  have a1 : ((a : Int) == 1) = false := int_ne (b := 1) (by omega)
  have a0 : ((a : Int) == 0) = false := int_ne (b := 0) (by omega)
  have bc := int_ne hbc
  have hbit : ∀ x, x < s.L.length + 2 → ∀ W, Below w.heap.size w W → Calls Try.prog 84 #[.pointer (some ⟨y.tb, 3, none⟩), i6 x] W fun e w' => e = .returned (i6 (Bd.bitOf s.L x)) ∧ w' = W :=
    fun x hx W hB => bit_any (hT.below hB) x hx
  obtain ⟨bo, hbo⟩ : ∃ bo, bo = Bd.bitOf s.L := ⟨_, rfl⟩
  rw [← hbo] at hbit
  have HBIT := keep hbit
  have ix0 := idx0 a b c
  have ix1 := idx1 a b c
  have ix2 := idx2 a b c
  have HBO := keep hbo
  have HTT := keep hT
  clear hbit hbo
  have hhalf : ∀ k, k < 128 → ∀ x, x < s.L.length + 2 → ∀ W, Below w.heap.size w W → Calls Try.prog 85 #[.pointer (some ⟨y.tb, 3, none⟩), i6 x, i6 k] W fun e w' => e = .returned (.tuple #[i6 (Bd.loOf s.L x k), i6 (Bd.hiOf s.L x k)]) ∧ Below W.heap.size W w' :=
    fun k hk x hx W hB => halves_any (hT.below hB) x k hx hk
  obtain ⟨k0, hk0⟩ : ∃ k0, k0 = min (bo a) (min (bo b) (bo c)) := ⟨_, rfl⟩
  have hmin : ∀ (ts : Array TypeId) (t : TypeId) (w : World), (Builtin.min_ ts t #[.int .i64 (bo a), .int .i64 (bo b), .int .i64 (bo c)]).run Try.prog w = .ok (.int .i64 k0) w := by
    intro ts t w
    rw [run_min_int3, hk0, min3]
  have hfew := hT.okay.few
  have hba := Bd.bitOf_lt hT.okay ha2 ha
  have HK : Hid (kk ≤ k0 ∧ k0 ≤ Bd.bitOf s.L a ∧ k0 ≤ Bd.bitOf s.L b ∧ k0 ≤ Bd.bitOf s.L c ∧ k0 < s.bits) := by
    rw [HBO.out] at hk0
    exact ⟨by omega, by omega, by omega, by omega, by omega⟩
  have hk128 : k0 < 128 := by have := HK.out.2.2.2.2; omega
  obtain ⟨lo, hlo⟩ : ∃ lo : Nat → Nat, lo = fun x => Bd.loOf s.L x k0 := ⟨_, rfl⟩
  obtain ⟨hi, hhi⟩ : ∃ hi : Nat → Nat, hi = fun x => Bd.hiOf s.L x k0 := ⟨_, rfl⟩
  have HHALF : Hid (∀ x, x < s.L.length + 2 → ∀ W, Below w.heap.size w W → Calls Try.prog 85 #[.pointer (some ⟨y.tb, 3, none⟩), i6 x, i6 k0] W fun e w' => e = .returned (.tuple #[i6 (lo x), i6 (hi x)]) ∧ Below W.heap.size W w') := by
    rw [hlo, hhi]
    exact hhalf k0 hk128
  have HFIN := keep (fun W hBW h3 => ite_three ih A hT hW sb room kb hS hns hnk hroom hr3 hbM sz kf hM hK a b c kk k0 ha hb hc HK.out.1 HK.out.2.1 HK.out.2.2.1 HK.out.2.2.2.1 HK.out.2.2.2.2 hF hn W hBW h3)
  have el : ∀ x, Bd.loOf s.L x k0 = lo x := by intro x; rw [hlo]
  have eh : ∀ x, Bd.hiOf s.L x k0 = hi x := by intro x; rw [hhi]
  simp only [el, eh] at HFIN
  clear hk0 hlo hhi el eh hhalf hka hkb hkc hroom hr3 hbM ih
  by_cases hb1 : b = 1
  · have hb1' : ((b : Int) == 1) = true := int_eq (b := 1) hb1
    have hc0 : ((c : Int) == 0) = false := int_ne (b := 0) (fun e => hq ⟨hb1, e⟩)
    clear hq hb1 hbc hT hW hM hK hS hv hkl hF
    go_enter Try.func53, Try.ntmps53
    go_wp2_with fail
    go_quiet (fail)
    go_wp2_with fail
    go_quiet (fail)
    go_wp2_with fail
    go_quiet (first | exact quiet_sum (HBIT.out _ (by first | exact ha | exact hb | exact hc) _ (boxedN _ _ _)))
    go_wp2_with fail
    go_loopw [74] (fun i wr => ∃ j : Nat, j ≤ 3 ∧ i = .int .i64 j ∧ Three wr w.heap.size (v3 a b c) (upTo j lo a b c) (upTo j hi a b c) ∧ Below w.heap.size w wr) (fun i _ => 3 - (intOf i).toNat)
    case atStart => exact ⟨0, by omega, rfl, three_start w _ (v3 a b c) (v3 0 0 0), three_below w _ _ _ _⟩
    case round =>
      obtain ⟨j, hj, rfl, h3, hBW⟩ := hrel
      have q0 : wr.cell? ⟨sb, 0, none⟩ = some (.pointer (some ⟨y.tb, 3, none⟩)) := (hBW.cell (p := ⟨sb, 0, none⟩) lsb).trans c0
      have hsz := block_lt h3.b2
      have hrs := hBW.size
      have hjj : j = 0 ∨ j = 1 ∨ j = 2 ∨ j = 3 := by omega
      have H3 := keep h3
      have HBW := keep hBW
      clear hj h3 hBW hlook s2 s0
      rcases hjj with rfl | rfl | rfl | rfl
      · go_wp2_with (first | (go_at_call 85; refine (HHALF.out a ha wr HBW.out).mono ?_; rintro e w1 ⟨rfl, hb1⟩; have T1 := H3.out.below hb1 (by omega); have HT1 := keep T1; obtain ⟨⟨d0, _, _⟩, ⟨e0, _, _⟩, fz1, fz2, _⟩ := T1.cells; clear T1))
        go_roundw
        case rel => exact ⟨1, by omega, by go_num, three_set HT1.out 0 _ _ rfl rfl, ((HBW.out.trans (hb1.mono hrs)).setCell (by simp <;> omega) _).setCell (by simp <;> omega) _⟩
        case measure => simp [intOf]
      · go_wp2_with (first | (go_at_call 85; refine (HHALF.out b hb wr HBW.out).mono ?_; rintro e w1 ⟨rfl, hb1⟩; have T1 := H3.out.below hb1 (by omega); have HT1 := keep T1; obtain ⟨⟨_, d0, _⟩, ⟨_, e0, _⟩, fz1, fz2, _⟩ := T1.cells; clear T1))
        go_roundw
        case rel => exact ⟨2, by omega, by go_num, three_set HT1.out 1 _ _ rfl rfl, ((HBW.out.trans (hb1.mono hrs)).setCell (by simp <;> omega) _).setCell (by simp <;> omega) _⟩
        case measure => simp [intOf]
      · go_wp2_with (first | (go_at_call 85; refine (HHALF.out c hc wr HBW.out).mono ?_; rintro e w1 ⟨rfl, hb1⟩; have T1 := H3.out.below hb1 (by omega); have HT1 := keep T1; obtain ⟨⟨_, _, d0⟩, ⟨_, _, e0⟩, fz1, fz2, _⟩ := T1.cells; clear T1))
        go_roundw
        case rel => exact ⟨3, by omega, by go_num, three_set HT1.out 2 _ _ rfl rfl, ((HBW.out.trans (hb1.mono hrs)).setCell (by simp <;> omega) _).setCell (by simp <;> omega) _⟩
        case measure => simp [intOf]
      · have S0 := H3.out.six
        obtain ⟨g0, g1, g2, g3, g4, g5⟩ := S0
        have HF1 := keep (HFIN.out wr.drew HBW.out.drew ⟨H3.out.b0, H3.out.b1, H3.out.b2⟩)
        simp only [upTo_three] at g0 g1 g2 g3 g4 g5
        go_wp2_with fail
        go_region_held3 (fun w' => w'.cell? ⟨w.heap.size + 1, 0, none⟩ = some (.int .i64 (lo a)) ∧ w'.cell? ⟨w.heap.size + 1, 1, none⟩ = some (.int .i64 (lo b)) ∧ w'.cell? ⟨w.heap.size + 1, 2, none⟩ = some (.int .i64 (lo c)) ∧ w'.cell? ⟨w.heap.size + 1 + 1, 0, none⟩ = some (.int .i64 (hi a)) ∧ w'.cell? ⟨w.heap.size + 1 + 1, 1, none⟩ = some (.int .i64 (hi b)) ∧ w'.cell? ⟨w.heap.size + 1 + 1, 2, none⟩ = some (.int .i64 (hi c))) (first | (go_keep; done) | exact T3.six | exact T2.six | exact T1.six) (first | (go_at_call 86; refine HC3.out.mono ?_; rintro e w3 ⟨r, rfl, T3, q2, w4, hrun, HG⟩) | (go_at_call 53; refine HC2.out.mono ?_; rintro e w2 ⟨r2, rfl, T2, HC3⟩) | (go_at_call 53; refine HF1.out.mono ?_; rintro e w1 ⟨r1, rfl, T1, HC2⟩))
        obtain ⟨_, _, _, _, ⟨o0, o1, o2⟩⟩ := T3.cells
        go_wp2_with fail
        go_region
        go_wp2_with fail
        go_ret
        exact ⟨r, rfl, HG.out⟩
  · have hb1' : ((b : Int) == 1) = false := int_ne (b := 1) hb1
    clear hq hb1 hbc hT hW hM hK hS hv hkl hF
    go_enter Try.func53, Try.ntmps53
    go_wp2_with fail
    go_quiet (fail)
    go_wp2_with fail
    go_quiet (fail)
    go_wp2_with fail
    go_quiet (first | exact quiet_sum (HBIT.out _ (by first | exact ha | exact hb | exact hc) _ (boxedN _ _ _)))
    go_wp2_with fail
    go_loopw [74] (fun i wr => ∃ j : Nat, j ≤ 3 ∧ i = .int .i64 j ∧ Three wr w.heap.size (v3 a b c) (upTo j lo a b c) (upTo j hi a b c) ∧ Below w.heap.size w wr) (fun i _ => 3 - (intOf i).toNat)
    case atStart => exact ⟨0, by omega, rfl, three_start w _ (v3 a b c) (v3 0 0 0), three_below w _ _ _ _⟩
    case round =>
      obtain ⟨j, hj, rfl, h3, hBW⟩ := hrel
      have q0 : wr.cell? ⟨sb, 0, none⟩ = some (.pointer (some ⟨y.tb, 3, none⟩)) := (hBW.cell (p := ⟨sb, 0, none⟩) lsb).trans c0
      have hsz := block_lt h3.b2
      have hrs := hBW.size
      have hjj : j = 0 ∨ j = 1 ∨ j = 2 ∨ j = 3 := by omega
      have H3 := keep h3
      have HBW := keep hBW
      clear hj h3 hBW hlook s2 s0
      rcases hjj with rfl | rfl | rfl | rfl
      · go_wp2_with (first | (go_at_call 85; refine (HHALF.out a ha wr HBW.out).mono ?_; rintro e w1 ⟨rfl, hb1⟩; have T1 := H3.out.below hb1 (by omega); have HT1 := keep T1; obtain ⟨⟨d0, _, _⟩, ⟨e0, _, _⟩, fz1, fz2, _⟩ := T1.cells; clear T1))
        go_roundw
        case rel => exact ⟨1, by omega, by go_num, three_set HT1.out 0 _ _ rfl rfl, ((HBW.out.trans (hb1.mono hrs)).setCell (by simp <;> omega) _).setCell (by simp <;> omega) _⟩
        case measure => simp [intOf]
      · go_wp2_with (first | (go_at_call 85; refine (HHALF.out b hb wr HBW.out).mono ?_; rintro e w1 ⟨rfl, hb1⟩; have T1 := H3.out.below hb1 (by omega); have HT1 := keep T1; obtain ⟨⟨_, d0, _⟩, ⟨_, e0, _⟩, fz1, fz2, _⟩ := T1.cells; clear T1))
        go_roundw
        case rel => exact ⟨2, by omega, by go_num, three_set HT1.out 1 _ _ rfl rfl, ((HBW.out.trans (hb1.mono hrs)).setCell (by simp <;> omega) _).setCell (by simp <;> omega) _⟩
        case measure => simp [intOf]
      · go_wp2_with (first | (go_at_call 85; refine (HHALF.out c hc wr HBW.out).mono ?_; rintro e w1 ⟨rfl, hb1⟩; have T1 := H3.out.below hb1 (by omega); have HT1 := keep T1; obtain ⟨⟨_, _, d0⟩, ⟨_, _, e0⟩, fz1, fz2, _⟩ := T1.cells; clear T1))
        go_roundw
        case rel => exact ⟨3, by omega, by go_num, three_set HT1.out 2 _ _ rfl rfl, ((HBW.out.trans (hb1.mono hrs)).setCell (by simp <;> omega) _).setCell (by simp <;> omega) _⟩
        case measure => simp [intOf]
      · have S0 := H3.out.six
        obtain ⟨g0, g1, g2, g3, g4, g5⟩ := S0
        have HF1 := keep (HFIN.out wr.drew HBW.out.drew ⟨H3.out.b0, H3.out.b1, H3.out.b2⟩)
        simp only [upTo_three] at g0 g1 g2 g3 g4 g5
        go_wp2_with fail
        go_region_held3 (fun w' => w'.cell? ⟨w.heap.size + 1, 0, none⟩ = some (.int .i64 (lo a)) ∧ w'.cell? ⟨w.heap.size + 1, 1, none⟩ = some (.int .i64 (lo b)) ∧ w'.cell? ⟨w.heap.size + 1, 2, none⟩ = some (.int .i64 (lo c)) ∧ w'.cell? ⟨w.heap.size + 1 + 1, 0, none⟩ = some (.int .i64 (hi a)) ∧ w'.cell? ⟨w.heap.size + 1 + 1, 1, none⟩ = some (.int .i64 (hi b)) ∧ w'.cell? ⟨w.heap.size + 1 + 1, 2, none⟩ = some (.int .i64 (hi c))) (first | (go_keep; done) | exact T3.six | exact T2.six | exact T1.six) (first | (go_at_call 86; refine HC3.out.mono ?_; rintro e w3 ⟨r, rfl, T3, q2, w4, hrun, HG⟩) | (go_at_call 53; refine HC2.out.mono ?_; rintro e w2 ⟨r2, rfl, T2, HC3⟩) | (go_at_call 53; refine HF1.out.mono ?_; rintro e w1 ⟨r1, rfl, T1, HC2⟩))
        obtain ⟨_, _, _, _, ⟨o0, o1, o2⟩⟩ := T3.cells
        go_wp2_with fail
        go_region
        go_wp2_with fail
        go_ret
        exact ⟨r, rfl, HG.out⟩
end Go.Proofs.Ytffngpdngjfcfaa
namespace Go.Proofs.Ytffngpdngjfcfaa
open Go.RowKit Go.Maps
open Bd (Nd)

theorem iteF_one (f g : Bd.Fn) : Bd.iteF Bd.tt f g = f := by funext h; rfl
theorem iteF_zero (f g : Bd.Fn) : Bd.iteF Bd.ff f g = g := by funext h; rfl
theorem iteF_same (f g : Bd.Fn) : Bd.iteF f g g = g := by funext h; unfold Bd.iteF; split <;> rfl
theorem iteF_self (f : Bd.Fn) : Bd.iteF f Bd.tt Bd.ff = f := by
  funext h
  unfold Bd.iteF Bd.tt Bd.ff
  cases f h <;> rfl

theorem ite_all : ∀ n, iteSpec n := by
  intro n
  induction n with
  | zero =>
    intro M s A w y sb room kb sz kf a b c kk hT hW hS hns hnk hroom hr3 hbM hM hK ha hb hc hka hkb hkc hF hn
    have hb128 : 128 ≤ Bd.bitOf s.L a := by omega
    have ha2 : a < 2 := by
      rcases Nat.lt_or_ge a 2 with h | h
      · exact h
      · have := Bd.bitOf_lt hT.okay h ha
        have := hT.okay.few
        omega
    by_cases h1 : a = 1
    · subst h1
      refine (ite_one w _ b c).mono ?_
      rintro e w' ⟨rfl, hbw⟩
      exact ⟨b, rfl, IteGot.same hT hW hM hK hb (by rw [Bd.den_one, iteF_one]) hbw⟩
    · have h0 : a = 0 := by omega
      subst h0
      by_cases hbc : b = c
      · subst hbc
        refine (ite_same w _ 0 b h1).mono ?_
        rintro e w' ⟨rfl, hbw⟩
        exact ⟨b, rfl, IteGot.same hT hW hM hK hb (by rw [iteF_same]) hbw⟩
      · refine (ite_zero w _ b c hbc).mono ?_
        rintro e w' ⟨rfl, hbw⟩
        exact ⟨c, rfl, IteGot.same hT hW hM hK hc (by rw [Bd.den_zero, iteF_zero]) hbw⟩
  | succ n ih =>
    intro M s A w y sb room kb sz kf a b c kk hT hW hS hns hnk hroom hr3 hbM hM hK ha hb hc hka hkb hkc hF hn
    by_cases h1 : a = 1
    · subst h1
      refine (ite_one w _ b c).mono ?_
      rintro e w' ⟨rfl, hbw⟩
      exact ⟨b, rfl, IteGot.same hT hW hM hK hb (by rw [Bd.den_one, iteF_one]) hbw⟩
    · by_cases hbc : b = c
      · subst hbc
        refine (ite_same w _ a b h1).mono ?_
        rintro e w' ⟨rfl, hbw⟩
        exact ⟨b, rfl, IteGot.same hT hW hM hK hb (by rw [iteF_same]) hbw⟩
      · by_cases h0 : a = 0
        · subst h0
          refine (ite_zero w _ b c hbc).mono ?_
          rintro e w' ⟨rfl, hbw⟩
          exact ⟨c, rfl, IteGot.same hT hW hM hK hc (by rw [Bd.den_zero, iteF_zero]) hbw⟩
        · by_cases hq : b = 1 ∧ c = 0
          · obtain ⟨rfl, rfl⟩ := hq
            refine (ite_self w _ a h1 h0).mono ?_
            rintro e w' ⟨rfl, hbw⟩
            exact ⟨a, rfl, IteGot.same hT hW hM hK ha (by rw [Bd.den_one, Bd.den_zero, iteF_self]) hbw⟩
          · cases hv : kf (arV a b c) with
            | some v => exact ite_hit A hT hW sb room kb hS sz kf hM hK a b c ha hb hc (by omega) hbc hq v hv
            | none => exact ite_miss ih A hT hW sb room kb hS hns hnk hroom hr3 hbM sz kf hM hK a b c kk ha hb hc hka hkb hkc hF hn (by omega) hbc hq hv
end Go.Proofs.Ytffngpdngjfcfaa
namespace Go.Proofs.Ytffngpdngjfcfaa
open Go.RowKit Go.Maps
open Bd (Nd)

theorem step_any (w : World) (tb room : Nat) :
    Calls Try.prog 52 #[.pointer (some ⟨tb, 3, none⟩), i6 room] w fun e w' => e = .returned (.pointer (some ⟨w.heap.size + 1, 0, none⟩)) ∧ w' = (w.alloc (.map #[] 0)).alloc (.cells #[.pointer (some ⟨tb, 3, none⟩), i6 room, .map (some w.heap.size)] 142) := by
  have hmm := @run_makeMap Try.prog
  go_enter Try.func52, Try.ntmps52
  go_wp2
  go_ret
  exact ⟨rfl, rfl⟩

/-- A step that has just begun. -/
theorem step_new (w : World) (tb room : Nat) : StepAt ((w.alloc (.map #[] 0)).alloc (.cells #[.pointer (some ⟨tb, 3, none⟩), i6 room, .map (some w.heap.size)] 142)) (w.heap.size + 1) tb room w.heap.size ∧
    MapOf Try.prog 91 3 ((w.alloc (.map #[] 0)).alloc (.cells #[.pointer (some ⟨tb, 3, none⟩), i6 room, .map (some w.heap.size)] 142)) w.heap.size 0 (fun _ => none) ∧
    Below w.heap.size w ((w.alloc (.map #[] 0)).alloc (.cells #[.pointer (some ⟨tb, 3, none⟩), i6 room, .map (some w.heap.size)] 142)) := by
  have e : (w.alloc (.map #[] 0)).heap.size = w.heap.size + 1 := by simp
  refine ⟨?_, ?_, ((Below.refl _ _).alloc (Nat.le_refl _) _).alloc (by simp) _⟩
  · unfold StepAt
    rw [← e]
    exact heap_alloc_new _ _
  · exact (MapOf.new Try.prog 91 3 w).same (heap_alloc_old _ _ (by simp))
theorem known_none (L : List Nd) : KnownOk L (fun _ => none) := fun _ _ _ _ h => by cases h

/-- The headers that fit a text from its letter k on. -/
def suf (t : ByteArray) (k : Nat) : Bd.Fn := fun h => (List.range t.size).all fun i => decide (i < k) || ((t.data.toList.getD i 0 != 48 || !h i) && (t.data.toList.getD i 0 != 49 || h i))
theorem suf_true {t : ByteArray} {k : Nat} {h : Nat → Bool} : suf t k h = true ↔ ∀ i, i < t.size → k ≤ i → (t.data.toList.getD i 0 = 48 → h i = false) ∧ (t.data.toList.getD i 0 = 49 → h i = true) := by
  unfold suf
  rw [List.all_eq_true]
  constructor
  · intro H i hi hk
    have := H i (List.mem_range.2 hi)
    simp only [Bool.or_eq_true, Bool.and_eq_true, decide_eq_true_eq, bne_iff_ne, Bool.not_eq_true'] at this
    rcases this with h1 | ⟨h1, h2⟩
    · omega
    · refine ⟨fun e => ?_, fun e => ?_⟩
      · rcases h1 with h1 | h1
        · exact absurd e h1
        · exact h1
      · rcases h2 with h2 | h2
        · exact absurd e h2
        · exact h2
  · intro H i hi
    have hi' := List.mem_range.1 hi
    simp only [Bool.or_eq_true, Bool.and_eq_true, decide_eq_true_eq, bne_iff_ne, Bool.not_eq_true']
    rcases Nat.lt_or_ge i k with h1 | h1
    · exact Or.inl h1
    · obtain ⟨a, b⟩ := H i hi' h1
      refine Or.inr ⟨?_, ?_⟩
      · by_cases e : t.data.toList.getD i 0 = 48
        · exact Or.inr (a e)
        · exact Or.inl e
      · by_cases e : t.data.toList.getD i 0 = 49
        · exact Or.inr (b e)
        · exact Or.inl e
theorem bool_ext {a b : Bool} (h : a = true ↔ b = true) : a = b := by
  cases a <;> cases b <;> simp at h <;> rfl
theorem suf_end (t : ByteArray) : suf t t.size = Bd.tt := by
  funext h
  refine bool_ext ⟨fun _ => rfl, fun _ => suf_true.2 fun i hi hk => ?_⟩
  omega
theorem suf_zero {t : ByteArray} {k : Nat} (hk : k < t.size) (h0 : t.data.toList.getD k 0 = 48) : suf t k = Bd.mux k (suf t (k + 1)) Bd.ff := by
  funext h
  unfold Bd.mux
  cases hh : h k
  · rw [if_neg (by simp)]
    refine bool_ext ⟨fun H => suf_true.2 fun i hi hki => suf_true.1 H i hi (by omega), fun H => suf_true.2 fun i hi hki => ?_⟩
    rcases Nat.lt_or_ge k i with h1 | h1
    · exact suf_true.1 H i hi h1
    · have : i = k := by omega
      subst this
      exact ⟨fun _ => hh, fun e => (by rw [h0] at e; cases e)⟩
  · rw [if_pos rfl]
    refine bool_ext ⟨fun H => ?_, fun H => by cases H⟩
    have := (suf_true.1 H k hk (Nat.le_refl _)).1 h0
    rw [hh] at this
    cases this
theorem suf_one {t : ByteArray} {k : Nat} (hk : k < t.size) (h0 : t.data.toList.getD k 0 = 49) : suf t k = Bd.mux k Bd.ff (suf t (k + 1)) := by
  funext h
  unfold Bd.mux
  cases hh : h k
  · rw [if_neg (by simp)]
    refine bool_ext ⟨fun H => ?_, fun H => by cases H⟩
    have := (suf_true.1 H k hk (Nat.le_refl _)).2 h0
    rw [hh] at this
    cases this
  · rw [if_pos rfl]
    refine bool_ext ⟨fun H => suf_true.2 fun i hi hki => suf_true.1 H i hi (by omega), fun H => suf_true.2 fun i hi hki => ?_⟩
    rcases Nat.lt_or_ge k i with h1 | h1
    · exact suf_true.1 H i hi h1
    · have : i = k := by omega
      subst this
      exact ⟨fun e => (by rw [h0] at e; cases e), fun _ => hh⟩
theorem suf_free {t : ByteArray} {k : Nat} (h0 : t.data.toList.getD k 0 ≠ 48) (h1 : t.data.toList.getD k 0 ≠ 49) : suf t k = suf t (k + 1) := by
  funext h
  refine bool_ext ⟨fun H => suf_true.2 fun i hi hki => suf_true.1 H i hi (by omega), fun H => suf_true.2 fun i hi hki => ?_⟩
  rcases Nat.lt_or_ge k i with h2 | h2
  · exact suf_true.1 H i hi h2
  · have : i = k := by omega
    subst this
    exact ⟨fun e => absurd e h0, fun e => absurd e h1⟩
theorem suf_from (t : ByteArray) (k : Nat) : Bd.From k (suf t k) := by
  intro a b hab
  refine bool_ext ⟨fun H => suf_true.2 fun i hi hki => ?_, fun H => suf_true.2 fun i hi hki => ?_⟩
  · rw [← hab i hki]; exact suf_true.1 H i hi hki
  · rw [hab i hki]; exact suf_true.1 H i hi hki
/-- A family that has a text's function has all its ends. -/
theorem suf_fam {bits M : Nat} {A : Bd.Fam bits M} {t : ByteArray} (hs : t.size ≤ bits) (h : A.F 0 (suf t 0)) : ∀ k, k ≤ t.size → A.F k (suf t k) := by
  intro k
  induction k with
  | zero => intro _; exact h
  | succ k ih =>
    intro hk
    have hF := ih (by omega)
    by_cases e0 : t.data.toList.getD k 0 = 48
    · have := A.go k _ false (by omega) hF
      rw [suf_zero (by omega) e0, Bd.cof_mux (suf_from _ _) (Bd.from_ff _)] at this
      exact this
    · by_cases e1 : t.data.toList.getD k 0 = 49
      · have := A.go k _ true (by omega) hF
        rw [suf_one (by omega) e1, Bd.cof_mux (Bd.from_ff _) (suf_from _ _)] at this
        exact this
      · have := A.go k _ true (by omega) hF
        rw [suf_free e0 e1, Bd.cof_from (suf_from _ _)] at this
        exact this

theorem Grew.chain {X : Nat → Prop} {M : Nat} {s : St} {A : Bd.Fam s.bits M} {w w1 w2 : World} {y y1 : Lay} {N1 : List Nd} {r : Nat} {f : Bd.Fn} (hm : Moves X w y w1 y1) (h : Grew X (s := { s with L := s.L ++ N1 }) A w1 y1 w2 r f) : Grew X A w y s w2 r f := by
  obtain ⟨N2, y2, h1, h2, h3, h4, h5⟩ := h.ex
  have h1' : Tab w2 y2 { s with L := s.L ++ N1 ++ N2 } := h1
  have h2' : Bd.Within A (s.L ++ N1 ++ N2) := h2
  have h3' : r < (s.L ++ N1 ++ N2).length + 2 := h3
  have h4' : Bd.den (s.L ++ N1 ++ N2) r = f := h4
  refine ⟨N1 ++ N2, y2, ?_, ?_, ?_, ?_, hm.trans h5⟩
  · rw [← List.append_assoc]; exact h1'
  · rw [← List.append_assoc]; exact h2'
  · rw [← List.append_assoc]; exact h3'
  · rw [← List.append_assoc]; exact h4'

set_option maxHeartbeats 2000000 in
theorem cube_any {M : Nat} {w : World} {y : Lay} {s : St} (A : Bd.Fam s.bits M) (hT : Tab w y s) (hW : Bd.Within A s.L) (sb room kb : Nat) (hS : StepAt w sb y.tb room kb) (hns : ¬ y.own sb) (hroom : s.bits * M ≤ room) (hr3 : room ≤ 1073741824)
    (t : ByteArray) (ht : t.size = s.bits) (hF : A.F 0 (suf t 0)) :
    Calls Try.prog 60 #[.pointer (some ⟨sb, 0, none⟩), .string t] w fun e w' => ∃ r, e = .returned (i6 r) ∧ Grew noX A w y s w' r (suf t 0) := by
  have hf128 := hT.okay.few
  have hsuf := suf_fam (A := A) (by omega) hF
  have lsb := block_lt hS
  have H : Hid (∀ (k r : Nat) (wr : World), k < t.size → Grew noX A w y s wr r (suf t (k + 1)) → (t.data.toList.getD k 0 = 48 → Calls Try.prog 86 #[.pointer (some ⟨sb, 0, none⟩), i6 k, i6 r, i6 0] wr fun e w' => ∃ r', e = .returned (i6 r') ∧ Hid (Grew noX A w y s w' r' (suf t k))) ∧
      (t.data.toList.getD k 0 = 49 → Calls Try.prog 86 #[.pointer (some ⟨sb, 0, none⟩), i6 k, i6 0, i6 r] wr fun e w' => ∃ r', e = .returned (i6 r') ∧ Hid (Grew noX A w y s w' r' (suf t k))) ∧
      (t.data.toList.getD k 0 ≠ 48 → t.data.toList.getD k 0 ≠ 49 → Grew noX A w y s wr r (suf t k))) := by
    intro k r wr hk hG
    obtain ⟨N, y1, t1, wi1, hr1, d1, m1⟩ := hG.ex
    have hns1 := m1.not_own lsb hns
    have hS1 : StepAt wr sb y1.tb room kb := by rw [m1.tb]; exact (m1.block sb lsb hns (fun h => h)).trans hS
    have hlen : (0 : Nat) < (s.L ++ N).length + 2 := by omega
    have hkb : k < s.bits := by omega
    have hb1 : k < Bd.bitOf (s.L ++ N) r := by
      have := Bd.bit_ge t1.okay (r := r) (k := k + 1) hr1 (by show Bd.From (k + 1) (Bd.den (s.L ++ N) r); rw [d1]; exact suf_from _ _) (by omega)
      exact this
    have hb0 : k < Bd.bitOf (s.L ++ N) 0 := by rw [Bd.bitOf_end _ (by omega)]; omega
    refine ⟨fun h0 => ?_, fun h0 => ?_, fun h0 h1 => ?_⟩
    · refine (node_any (s := { s with L := s.L ++ N }) A t1 wi1 sb room kb hS1 hns1 hroom hr3 k r 0 hkb hr1 hlen hb1 hb0 ?_).mono ?_
      · show A.F k (Bd.mux k (Bd.den (s.L ++ N) r) (Bd.den (s.L ++ N) 0))
        rw [d1, Bd.den_zero, ← suf_zero hk h0]; exact hsuf k (by omega)
      · rintro e w' ⟨r', rfl, hg⟩
        refine ⟨r', rfl, Grew.chain (N1 := N) m1 ?_⟩
        have e : Bd.mux k (Bd.den (s.L ++ N) r) (Bd.den (s.L ++ N) 0) = suf t k := by rw [d1, Bd.den_zero, ← suf_zero hk h0]
        rw [← e]; exact hg
    · refine (node_any (s := { s with L := s.L ++ N }) A t1 wi1 sb room kb hS1 hns1 hroom hr3 k 0 r hkb hlen hr1 hb0 hb1 ?_).mono ?_
      · show A.F k (Bd.mux k (Bd.den (s.L ++ N) 0) (Bd.den (s.L ++ N) r))
        rw [d1, Bd.den_zero, ← suf_one hk h0]; exact hsuf k (by omega)
      · rintro e w' ⟨r', rfl, hg⟩
        refine ⟨r', rfl, Grew.chain (N1 := N) m1 ?_⟩
        have e : Bd.mux k (Bd.den (s.L ++ N) 0) (Bd.den (s.L ++ N) r) = suf t k := by rw [d1, Bd.den_zero, ← suf_one hk h0]
        rw [← e]; exact hg
    · rw [suf_free h0 h1]; exact hG
  have H0 : Hid (Grew noX A w y s w 1 (suf t t.size)) := Grew.same hT hW (by omega) (by rw [Bd.den_one, suf_end]) (Below.refl _ _)
  have hsz : t.size ≤ 128 := by omega
  have hszI : (t.size : Int) ≤ 128 := by omega
  clear hT hW hS hns hroom hr3 ht hF hsuf lsb hf128
  go_enter Try.func60, Try.ntmps60
  go_wp2_with fail
  go_loopw [5, 6] (fun u i wr => ∃ k r : Nat, k ≤ t.size ∧ u = .int .i64 r ∧ i = .int .i64 ((k : Int) - 1) ∧ Hid (Grew noX A w y s wr r (suf t k))) (fun _ i _ => ((intOf i) + 1).toNat)
  case atStart => exact ⟨t.size, 1, Nat.le_refl _, rfl, rfl, H0.out⟩
  case round =>
    obtain ⟨k, r, hk, rfl, rfl, hG⟩ := hrel
    cases k with
    | zero =>
      go_wp2_with fail
      go_ret
      exact ⟨r, rfl, hG⟩
    | succ k =>
      have e1 : ((k + 1 : Nat) : Int) - 1 = (k : Int) := by omega
      rw [e1]
      have hkI : (k : Int) < (t.size : Int) := by omega
      have hk0 : (0 : Int) ≤ (k : Int) := by omega
      have HK := keep (H.out k r wr (by omega) hG)
      clear hG e1
      have hl : k < t.size := by omega
      have hg : t.data.toList.getD k 0 = t[k]'hl := by
        rw [List.getD_eq_getElem?_getD, List.getElem?_eq_getElem (by simpa using hl)]
        rfl
      by_cases h48 : t.data.toList.getD k 0 = 48
      · have hcn : ((t[k]'hl).toNat : Int) = 48 := by rw [← hg, h48]; rfl
        clear hg
        go_wp2_with (first | (go_at_call 86; refine (HK.out.1 h48).mono ?_; rintro e w' ⟨r', rfl, hG'⟩))
        go_roundw
        case rel => exact ⟨k, r', by omega, rfl, rfl, hG'⟩
        case measure => simp [intOf]
      · by_cases h49 : t.data.toList.getD k 0 = 49
        · have hcn : ((t[k]'hl).toNat : Int) = 49 := by rw [← hg, h49]; rfl
          clear hg
          go_wp2_with (first | (go_at_call 86; refine (HK.out.2.1 h49).mono ?_; rintro e w' ⟨r', rfl, hG'⟩))
          go_roundw
          case rel => exact ⟨k, r', by omega, rfl, rfl, hG'⟩
          case measure => simp [intOf]
        · have n1 : (((t[k]'hl).toNat : Int) == 48) = false := by
            rw [beq_eq_false_iff_ne]; intro h; exact h48 (by rw [hg]; exact UInt8.toNat.inj (by simp; omega))
          have n2 : (((t[k]'hl).toNat : Int) == 49) = false := by
            rw [beq_eq_false_iff_ne]; intro h; exact h49 (by rw [hg]; exact UInt8.toNat.inj (by simp; omega))
          have HG := keep (HK.out.2.2 h48 h49)
          clear hg
          go_wp2_with fail
          go_roundw
          case rel => exact ⟨k, r, by omega, rfl, rfl, HG.out⟩
          case measure => simp [intOf]
end Go.Proofs.Ytffngpdngjfcfaa
namespace Go.Proofs.Ytffngpdngjfcfaa
namespace Cu

/-- The word whose bit i (i < n) is p i. -/
def word (p : Nat → Bool) : Nat → Nat
  | 0 => 0
  | n + 1 => word p n ||| (if p n then 2 ^ n else 0)

theorem testBit_word (p : Nat → Bool) (n i : Nat) : (word p n).testBit i = (decide (i < n) && p i) := by
  induction n with
  | zero => simp [word]
  | succ n ih =>
    rw [word, Nat.testBit_or, ih]
    by_cases hp : p n
    · rw [if_pos hp, Nat.testBit_two_pow]
      by_cases e : n = i
      · subst e; simp [hp]
      · have : (i < n + 1) ↔ i < n := by omega
        simp [e, this]
    · rw [if_neg hp]
      by_cases e : i = n
      · subst e; simp [hp]
      · have : (i < n + 1) ↔ i < n := by omega
        simp [this]

theorem word_lt (p : Nat → Bool) (n : Nat) : word p n < 2 ^ n := by
  refine Nat.lt_pow_two_of_testBit _ fun i hi => ?_
  rw [testBit_word]
  simp; omega

theorem word_eq {p : Nat → Bool} {x : Nat} (n : Nat) (hx : x < 2 ^ n) (h : ∀ i, i < n → x.testBit i = p i) : x = word p n := by
  refine Nat.eq_of_testBit_eq fun i => ?_
  rw [testBit_word]
  by_cases hi : i < n
  · simp [hi, h i hi]
  · have : x.testBit i = false := Nat.testBit_lt_two_pow (Nat.lt_of_lt_of_le hx (Nat.pow_le_pow_right (by omega) (by omega)))
    simp [hi, this]

/-- Word k of a set of places. -/
def wd (p : Nat → Bool) (k : Nat) : Nat := word (fun i => p (64 * k + i)) 64
theorem wd_lt (p : Nat → Bool) (k : Nat) : wd p k < 18446744073709551616 := word_lt _ 64
theorem testBit_wd (p : Nat → Bool) (k i : Nat) : (wd p k).testBit i = (decide (i < 64) && p (64 * k + i)) := testBit_word _ _ _
theorem wd_eq {p : Nat → Bool} {x k : Nat} (hx : x < 18446744073709551616) (h : ∀ i, i < 64 → x.testBit i = p (64 * k + i)) : x = wd p k :=
  word_eq 64 hx h
theorem wd_congr {p q : Nat → Bool} {k : Nat} (h : ∀ i, i < 64 → p (64 * k + i) = q (64 * k + i)) : wd p k = wd q k :=
  wd_eq (wd_lt _ _) fun i hi => by rw [testBit_wd]; simp [hi, h i hi]

theorem or_lt {a b : Nat} (ha : a < 18446744073709551616) (hb : b < 18446744073709551616) : a ||| b < 18446744073709551616 := Nat.or_lt_two_pow (n := 64) ha hb
theorem and_lt {a b : Nat} (ha : a < 18446744073709551616) : a &&& b < 18446744073709551616 := Nat.lt_of_le_of_lt Nat.and_le_left ha
theorem xor_lt {a b : Nat} (ha : a < 18446744073709551616) (hb : b < 18446744073709551616) : a ^^^ b < 18446744073709551616 := Nat.xor_lt_two_pow (n := 64) ha hb
theorem pow_lt {i : Nat} (hi : i < 64) : 2 ^ i < 18446744073709551616 := Nat.pow_lt_pow_right (a := 2) (by omega) hi

/-- Is the place fixed? is it 1? (behind the end: free) -/
def fixAt (l : List UInt8) (i : Nat) : Bool := l[i]? == some 48 || l[i]? == some 49
def oneAt (l : List UInt8) (i : Nat) : Bool := l[i]? == some 49

/-- A byte of a cube; a cube. -/
def sym (c : UInt8) : Bool := c == 48 || c == 49 || c == 120
def right (l : List UInt8) : Bool := l.all sym && decide (1 ≤ l.length) && decide (l.length ≤ 128)

/-- Two words, bit by bit: is the and of them nought? -/
theorem and_ne_zero {x y : Nat} : (x &&& y = 0) ↔ ∀ i, (x.testBit i && y.testBit i) = false := by
  constructor
  · intro h i
    have := congrArg (fun z => z.testBit i) h
    simpa [Nat.testBit_and] using this
  · intro h
    refine Nat.eq_of_testBit_eq fun i => ?_
    rw [Nat.testBit_and, h i]; simp

/-- One bit more of a word. -/
def updw (p : Nat → Bool) (j : Nat) : Nat → Bool := fun i => p i || decide (i = j)
theorem wd_upd_same (p : Nat → Bool) (j : Nat) : wd p (j / 64) ||| 2 ^ (j % 64) = wd (updw p j) (j / 64) := by
  refine wd_eq (or_lt (wd_lt _ _) (pow_lt (by omega))) fun i hi => ?_
  rw [Nat.testBit_or, testBit_wd, Nat.testBit_two_pow]
  simp only [hi, updw, decide_true, Bool.true_and]
  congr 1
  apply decide_eq_decide.2
  omega
theorem wd_upd_other (p : Nat → Bool) (j k : Nat) (h : k ≠ j / 64) : wd (updw p j) k = wd p k := by
  refine wd_congr fun i hi => ?_
  have : ¬ (64 * k + i = j) := by omega
  simp [updw, this]

/-- One bit more, if that is said. -/
def setOne (q : Nat → Bool) (j : Nat) (one : Bool) : Nat → Bool := fun i => q i || (one && decide (i = j))

theorem get_snoc (l : List UInt8) (c : UInt8) (i : Nat) : (l ++ [c])[i]? = if i = l.length then some c else l[i]? := by
  by_cases h : i < l.length
  · rw [List.getElem?_append_left h, if_neg (by omega)]
  · rw [List.getElem?_append_right (by omega)]
    by_cases e : i = l.length
    · subst e; simp
    · rw [if_neg e, List.getElem?_eq_none (by simp; omega), List.getElem?_eq_none (by omega)]

theorem fixAt_end (l : List UInt8) : fixAt l l.length = false := by simp [fixAt]
theorem oneAt_end (l : List UInt8) : oneAt l l.length = false := by simp [oneAt]
theorem fixAt_snoc (l : List UInt8) (c : UInt8) (h : c = 48 ∨ c = 49) : fixAt (l ++ [c]) = updw (fixAt l) l.length := by
  funext i
  simp only [fixAt, updw, get_snoc]
  by_cases e : i = l.length
  · rw [if_pos e]; rcases h with rfl | rfl <;> simp [e]
  · rw [if_neg e]; simp [e]
theorem oneAt_snoc (l : List UInt8) (c : UInt8) : oneAt (l ++ [c]) = setOne (oneAt l) l.length (c == 49) := by
  funext i
  simp only [oneAt, setOne, get_snoc]
  by_cases e : i = l.length
  · rw [if_pos e]; simp [e]
  · rw [if_neg e]; simp [e]
theorem fixAt_snoc_x (l : List UInt8) : fixAt (l ++ [120]) = fixAt l := by
  funext i
  simp only [fixAt, get_snoc]
  by_cases e : i = l.length
  · rw [if_pos e]; subst e; simp
  · rw [if_neg e]
theorem oneAt_snoc_x (l : List UInt8) : oneAt (l ++ [120]) = oneAt l := by
  rw [oneAt_snoc]; funext i; simp [setOne]
theorem sym_cases {c : UInt8} (h : sym c = true) : c = 48 ∨ c = 49 ∨ c = 120 := by
  simp only [sym, Bool.or_eq_true, beq_iff_eq] at h
  rcases h with (h | h) | h <;> simp [h]

/-- Do two cubes meet? what they have in common; does the one lie inside the other? -/
def meetsB (a b : List UInt8) : Bool := (List.zip a b).all fun x => x.1 == x.2 || x.1 == 120 || x.2 == 120
def meetL (a b : List UInt8) : List UInt8 := List.zipWith (fun x y => if x == 120 then y else x) a b
def insideB (a b : List UInt8) : Bool := (List.zip a b).all fun x => x.1 == x.2 || x.2 == 120

theorem zip_all {a b : List UInt8} (h : a.length = b.length) (f : UInt8 × UInt8 → Bool) : (List.zip a b).all f = true ↔ ∀ i (hi : i < a.length), f (a[i], b[i]'(h ▸ hi)) = true := by
  rw [List.all_eq_true]
  constructor
  · intro H i hi
    refine H _ ?_
    have hz : i < (List.zip a b).length := by simp [← h, hi]
    have := List.getElem_mem hz
    simpa using this
  · intro H x hx
    obtain ⟨i, hi, rfl⟩ := List.getElem_of_mem hx
    have hi' : i < a.length := by simp at hi; omega
    simpa using H i hi'

theorem right_all {l : List UInt8} (h : right l = true) : l.all sym = true ∧ 1 ≤ l.length ∧ l.length ≤ 128 := by
  simp only [right, Bool.and_eq_true, decide_eq_true_eq] at h
  exact ⟨h.1.1, h.1.2, h.2⟩
theorem sym_at {l : List UInt8} (h : l.all sym = true) (i : Nat) (hi : i < l.length) : l[i] = 48 ∨ l[i] = 49 ∨ l[i] = 120 :=
  sym_cases (List.all_eq_true.1 h _ (List.getElem_mem hi))

theorem fixAt_lt {l : List UInt8} {i : Nat} (hi : i < l.length) : fixAt l i = (l[i] == 48 || l[i] == 49) := by
  simp [fixAt, List.getElem?_eq_getElem hi]
theorem oneAt_lt {l : List UInt8} {i : Nat} (hi : i < l.length) : oneAt l i = (l[i] == 49) := by
  simp [oneAt, List.getElem?_eq_getElem hi]
theorem fixAt_ge {l : List UInt8} {i : Nat} (hi : l.length ≤ i) : fixAt l i = false := by
  simp [fixAt, List.getElem?_eq_none hi]
theorem oneAt_ge {l : List UInt8} {i : Nat} (hi : l.length ≤ i) : oneAt l i = false := by
  simp [oneAt, List.getElem?_eq_none hi]

/-- Two cubes part at place i. -/
def partAt (a b : List UInt8) (i : Nat) : Bool := (oneAt a i != oneAt b i) && fixAt a i && fixAt b i
theorem meetsB_iff {a b : List UInt8} (ha : a.all sym = true) (hb : b.all sym = true) (h : a.length = b.length) : meetsB a b = true ↔ ∀ i, partAt a b i = false := by
  unfold meetsB
  rw [zip_all h]
  constructor
  · intro H i
    by_cases hi : i < a.length
    · have h1 := H i hi
      have hi' : i < b.length := h ▸ hi
      unfold partAt
      rw [fixAt_lt hi, fixAt_lt hi', oneAt_lt hi, oneAt_lt hi']
      rcases sym_at ha i hi with e | e | e <;> rcases sym_at hb i hi' with f | f | f <;> simp [e, f] at h1 ⊢
    · unfold partAt; rw [fixAt_ge (by omega)]; simp
  · intro H i hi
    have h1 := H i
    have hi' : i < b.length := h ▸ hi
    unfold partAt at h1
    rw [fixAt_lt hi, fixAt_lt hi', oneAt_lt hi, oneAt_lt hi'] at h1
    rcases sym_at ha i hi with e | e | e <;> rcases sym_at hb i hi' with f | f | f <;> simp [e, f] at h1 ⊢

/-- The one lies outside of the other at place i. -/
def outAt (a b : List UInt8) (i : Nat) : Bool := fixAt b i && (!fixAt a i || (oneAt a i != oneAt b i))
theorem insideB_iff {a b : List UInt8} (ha : a.all sym = true) (hb : b.all sym = true) (h : a.length = b.length) : insideB a b = true ↔ ∀ i, outAt a b i = false := by
  unfold insideB
  rw [zip_all h]
  constructor
  · intro H i
    by_cases hi : i < a.length
    · have h1 := H i hi
      have hi' : i < b.length := h ▸ hi
      unfold outAt
      rw [fixAt_lt hi, fixAt_lt hi', oneAt_lt hi, oneAt_lt hi']
      rcases sym_at ha i hi with e | e | e <;> rcases sym_at hb i hi' with f | f | f <;> simp [e, f] at h1 ⊢
    · unfold outAt; rw [fixAt_ge (l := b) (by omega)]; simp
  · intro H i hi
    have h1 := H i
    have hi' : i < b.length := h ▸ hi
    unfold outAt at h1
    rw [fixAt_lt hi, fixAt_lt hi', oneAt_lt hi, oneAt_lt hi'] at h1
    rcases sym_at ha i hi with e | e | e <;> rcases sym_at hb i hi' with f | f | f <;> simp [e, f] at h1 ⊢

theorem meetL_length {a b : List UInt8} (h : a.length = b.length) : (meetL a b).length = a.length := by simp [meetL, h]
theorem meetL_at {a b : List UInt8} (h : a.length = b.length) (i : Nat) (hi : i < a.length) : (meetL a b)[i]'(by rw [meetL_length h]; exact hi) = if a[i] == 120 then b[i]'(h ▸ hi) else a[i] := by
  simp [meetL]
theorem meetL_sym {a b : List UInt8} (ha : a.all sym = true) (hb : b.all sym = true) (h : a.length = b.length) : (meetL a b).all sym = true := by
  rw [List.all_eq_true]
  intro x hx
  obtain ⟨i, hi, rfl⟩ := List.getElem_of_mem hx
  have hi' : i < a.length := by rw [meetL_length h] at hi; exact hi
  rw [meetL_at h i hi']
  split
  · exact List.all_eq_true.1 hb _ (List.getElem_mem _)
  · exact List.all_eq_true.1 ha _ (List.getElem_mem _)
theorem meetL_right {a b : List UInt8} (ha : right a = true) (hb : right b = true) (h : a.length = b.length) : right (meetL a b) = true := by
  obtain ⟨h1, h2, h3⟩ := right_all ha
  obtain ⟨k1, _, _⟩ := right_all hb
  simp only [right, Bool.and_eq_true, decide_eq_true_eq]
  exact ⟨⟨meetL_sym h1 k1 h, by rw [meetL_length h]; exact h2⟩, by rw [meetL_length h]; exact h3⟩
theorem fixAt_meetL {a b : List UInt8} (ha : a.all sym = true) (hb : b.all sym = true) (h : a.length = b.length) (i : Nat) : fixAt (meetL a b) i = (fixAt a i || fixAt b i) := by
  by_cases hi : i < a.length
  · have hi' : i < b.length := h ▸ hi
    rw [fixAt_lt (by rw [meetL_length h]; exact hi), fixAt_lt hi, fixAt_lt hi', meetL_at h i hi]
    rcases sym_at ha i hi with e | e | e <;> rcases sym_at hb i hi' with f | f | f <;> simp [e, f]
  · rw [fixAt_ge (by rw [meetL_length h]; omega), fixAt_ge (by omega), fixAt_ge (l := b) (by omega)]; rfl
theorem oneAt_meetL {a b : List UInt8} (ha : a.all sym = true) (hb : b.all sym = true) (h : a.length = b.length) (hm : meetsB a b = true) (i : Nat) : oneAt (meetL a b) i = (oneAt a i || oneAt b i) := by
  by_cases hi : i < a.length
  · have hi' : i < b.length := h ▸ hi
    have hp := (meetsB_iff ha hb h).1 hm i
    unfold partAt at hp
    rw [fixAt_lt hi, fixAt_lt hi', oneAt_lt hi, oneAt_lt hi'] at hp
    rw [oneAt_lt (by rw [meetL_length h]; exact hi), oneAt_lt hi, oneAt_lt hi', meetL_at h i hi]
    rcases sym_at ha i hi with e | e | e <;> rcases sym_at hb i hi' with f | f | f <;> simp [e, f] at hp ⊢
  · rw [oneAt_ge (by rw [meetL_length h]; omega), oneAt_ge (by omega), oneAt_ge (l := b) (by omega)]; rfl

end Cu
end Go.Proofs.Ytffngpdngjfcfaa
namespace Go.Proofs.Ytffngpdngjfcfaa
open Go.RowKit

theorem has_bit (x j : Nat) (hx : x < 18446744073709551616) : (bits .and .u64 ((x : Int) / 2 ^ j) 1 == 1) = x.testBit j := by
  have e : ((x : Int) / 2 ^ j) = ((x / 2 ^ j : Nat) : Int) := by simp
  rw [e]
  have := u64_and_nat (x / 2 ^ j) 1 (Nat.lt_of_le_of_lt (Nat.div_le_self _ _) hx) (by omega)
  rw [show (1 : Int) = ((1 : Nat) : Int) from rfl, this, nat_mask1, Nat.testBit_eq_decide_div_mod_eq]
  rw [Bool.eq_iff_iff]
  simp only [beq_iff_eq, decide_eq_true_eq]
  omega

/-- A set of places as a value; a ternary as a value. -/
def pl (p : Nat → Bool) : Value := .agg #[.int .u64 (Cu.wd p 0 : Int), .int .u64 (Cu.wd p 1 : Int)]
def c4 (p q : Nat → Bool) : Array Value := #[.int .u64 (Cu.wd p 0 : Int), .int .u64 (Cu.wd p 1 : Int), .int .u64 (Cu.wd q 0 : Int), .int .u64 (Cu.wd q 1 : Int)]

theorem or_bit (x j : Nat) (hx : x < 18446744073709551616) (hj : j < 64) : bits .or .u64 (x : Int) (IntKind.u64.wrap (2 ^ j)) = ((x ||| 2 ^ j : Nat) : Int) := by
  have e : IntKind.u64.wrap (2 ^ j) = ((2 ^ j : Nat) : Int) := by
    have := Cu.pow_lt hj
    rw [IntKind.wrap_u64, show ((2 : Int) ^ j) = ((2 ^ j : Nat) : Int) from by simp]
    generalize 2 ^ j = y at *
    omega
  rw [e, u64_or_nat _ _ hx (Cu.pow_lt hj)]

set_option maxHeartbeats 400000 in
theorem add_lo (x i b o : Nat) (w : World) (hi : i < 64) (hx : x < 18446744073709551616) (hc : w.cell? ⟨b, o, none⟩ = some (.int .u64 (x : Int))) (hf : w.frozen? ⟨b, o, none⟩ = false) :
    Calls Try.prog 121 #[.pointer (some ⟨b, o, none⟩), .int .i64 (i : Int)] w fun e w' =>
      e = .returned (.tuple #[]) ∧ w' = (w.setCell ⟨b, o, none⟩ (.int .u64 ((x ||| 2 ^ i : Nat) : Int))).drew := by
  have hq : ((i : Int) / 64) = 0 := by omega
  go_enter Try.func121, Try.ntmps121
  go_wp2
  go_region
  go_end0
  refine ⟨rfl, ?_⟩
  rw [Nat.mod_eq_of_lt hi, or_bit x i hx hi]

set_option maxHeartbeats 400000 in
theorem add_hi (x i b o : Nat) (w : World) (hi : ¬ i < 64) (h2 : i < 128) (hx : x < 18446744073709551616) (hc : w.cell? ⟨b, o + 1, none⟩ = some (.int .u64 (x : Int))) (hf : w.frozen? ⟨b, o + 1, none⟩ = false) :
    Calls Try.prog 121 #[.pointer (some ⟨b, o, none⟩), .int .i64 (i : Int)] w fun e w' =>
      e = .returned (.tuple #[]) ∧ w' = (w.setCell ⟨b, o + 1, none⟩ (.int .u64 ((x ||| 2 ^ (i - 64) : Nat) : Int))).drew := by
  have hq : ((i : Int) / 64) = 1 := by omega
  go_enter Try.func121, Try.ntmps121
  go_wp2
  go_region
  go_end0
  refine ⟨rfl, ?_⟩
  rw [show i % 64 = i - 64 from by omega, or_bit x (i - 64) hx (by omega)]

/-- A block of four cells: its cells, and that they may be written; the block behind a store. -/
theorem four_cell {w : World} {b : Nat} {c0 c1 c2 c3 : Value} {t : TypeId} (h : w.heap[b]? = some (.cells #[c0, c1, c2, c3] t (0, 0))) :
    w.cell? ⟨b, 0, none⟩ = some c0 ∧ w.cell? ⟨b, 1, none⟩ = some c1 ∧ w.cell? ⟨b, 2, none⟩ = some c2 ∧ w.cell? ⟨b, 3, none⟩ = some c3 := by
  simp [World.cell?, h]
theorem free_of {w : World} {b o : Nat} {cs : Array Value} {t : TypeId} (h : w.heap[b]? = some (.cells cs t (0, 0))) : w.frozen? ⟨b, o, none⟩ = false := by
  simp [World.frozen?, h]
theorem block_set {w : World} {b o : Nat} {cs : Array Value} {t : TypeId} (u : Value) (h : w.heap[b]? = some (.cells cs t (0, 0))) :
    (w.setCell ⟨b, o, none⟩ u).heap[b]? = some (.cells (cs.setIfInBounds o u) t (0, 0)) := by
  have hlt := lt_of_block h
  have h' : w.heap[b] = .cells cs t (0, 0) := by simpa [Array.getElem?_eq_getElem hlt] using h
  show (w.heap.modify b _)[b]? = _
  rw [Array.getElem?_eq_getElem (by simpa using hlt), Array.getElem_modify_self, h']
  rfl
theorem new_0 (w : World) (o : Obj) : (w.alloc o).heap[w.heap.size]? = some o := by
  show (w.heap.push o)[w.heap.size]? = _
  rw [Array.getElem?_push, if_pos rfl]
theorem new_1 (w : World) (o o' : Obj) : ((w.alloc o).alloc o').heap[w.heap.size + 1]? = some o' := by
  show ((w.heap.push o).push o')[w.heap.size + 1]? = _
  rw [Array.getElem?_push, if_pos (by simp)]
theorem new_old (w : World) (o : Obj) {k : Nat} {x : Obj} (h : w.heap[k]? = some x) : (w.alloc o).heap[k]? = some x := by
  have := lt_of_block h
  show (w.heap.push o)[k]? = _
  rw [Array.getElem?_push, if_neg (by omega), h]
theorem grown_set (w : World) (b o : Nat) (u : Value) : w.grownBy (w.setCell ⟨b, o, none⟩ u).drew (some b) :=
  ⟨rfl, rfl, rfl, by simp, fun k _ hne => Below.heap_setCell _ _ _ _ (fun e => hne (by simp [e]))⟩
theorem grown_trans {a b c : World} {r : Option Nat} (h : a.grownBy b r) (k : b.grownBy c r) : a.grownBy c r :=
  ⟨k.os.trans h.os, k.tape.trans h.tape, k.output.trans h.output, Nat.le_trans h.size k.size, fun i hi hne => (k.block i (Nat.lt_of_lt_of_le hi h.size) hne).trans (h.block i hi hne)⟩
theorem grown_of_below {a b : World} (r : Option Nat) (h : Below a.heap.size a b) : a.grownBy b r := ⟨h.os, h.tape, h.output, h.size, fun i hi _ => h.block i hi⟩
theorem grown_refl (a : World) (r : Option Nat) : a.grownBy a r := ⟨rfl, rfl, rfl, Nat.le_refl _, fun _ _ _ => rfl⟩

theorem add_fixed (p q : Nat → Bool) (i b : Nat) (w : World) (h2 : i < 128) (hb : w.heap[b]? = some (.cells (c4 p q) 169 (0, 0))) :
    Calls Try.prog 121 #[.pointer (some ⟨b, 0, none⟩), .int .i64 (i : Int)] w fun e w' =>
      e = .returned (.tuple #[]) ∧ w'.heap[b]? = some (.cells (c4 (Cu.updw p i) q) 169 (0, 0)) ∧ w.grownBy w' (some b) := by
  have hc := four_cell hb
  by_cases hi : i < 64
  · refine (add_lo _ i b 0 w hi (Cu.wd_lt _ _) hc.1 (free_of hb)).mono ?_
    rintro e w' ⟨rfl, rfl⟩
    refine ⟨rfl, ?_, grown_set _ _ _ _⟩
    show (w.setCell _ _).heap[b]? = _
    rw [block_set _ hb]
    have e0 := Cu.wd_upd_same p i
    have e1 := Cu.wd_upd_other p i 1 (by omega)
    rw [show i / 64 = 0 from by omega, Nat.mod_eq_of_lt hi] at e0
    simp [c4, e0, e1]
  · refine (add_hi _ i b 0 w hi h2 (Cu.wd_lt _ _) hc.2.1 (free_of hb)).mono ?_
    rintro e w' ⟨rfl, rfl⟩
    refine ⟨rfl, ?_, grown_set _ _ _ _⟩
    show (w.setCell _ _).heap[b]? = _
    rw [block_set _ hb]
    have e0 := Cu.wd_upd_same p i
    have e1 := Cu.wd_upd_other p i 0 (by omega)
    rw [show i / 64 = 1 from by omega, show i % 64 = i - 64 from by omega] at e0
    simp [c4, e0, e1]

theorem add_ones (p q : Nat → Bool) (i b : Nat) (w : World) (h2 : i < 128) (hb : w.heap[b]? = some (.cells (c4 p q) 169 (0, 0))) :
    Calls Try.prog 121 #[.pointer (some ⟨b, 2, none⟩), .int .i64 (i : Int)] w fun e w' =>
      e = .returned (.tuple #[]) ∧ w'.heap[b]? = some (.cells (c4 p (Cu.updw q i)) 169 (0, 0)) ∧ w.grownBy w' (some b) := by
  have hc := four_cell hb
  by_cases hi : i < 64
  · refine (add_lo _ i b 2 w hi (Cu.wd_lt _ _) hc.2.2.1 (free_of hb)).mono ?_
    rintro e w' ⟨rfl, rfl⟩
    refine ⟨rfl, ?_, grown_set _ _ _ _⟩
    show (w.setCell _ _).heap[b]? = _
    rw [block_set _ hb]
    have e0 := Cu.wd_upd_same q i
    have e1 := Cu.wd_upd_other q i 1 (by omega)
    rw [show i / 64 = 0 from by omega, Nat.mod_eq_of_lt hi] at e0
    simp [c4, e0, e1]
  · refine (add_hi _ i b 2 w hi h2 (Cu.wd_lt _ _) hc.2.2.2 (free_of hb)).mono ?_
    rintro e w' ⟨rfl, rfl⟩
    refine ⟨rfl, ?_, grown_set _ _ _ _⟩
    show (w.setCell _ _).heap[b]? = _
    rw [block_set _ hb]
    have e0 := Cu.wd_upd_same q i
    have e1 := Cu.wd_upd_other q i 0 (by omega)
    rw [show i / 64 = 1 from by omega, show i % 64 = i - 64 from by omega] at e0
    simp [c4, e0, e1]

set_option maxHeartbeats 400000 in
theorem fix_any (p q : Nat → Bool) (i b : Nat) (one : Bool) (w : World) (h2 : i < 128) (hb : w.heap[b]? = some (.cells (c4 p q) 169 (0, 0))) :
    Calls Try.prog 111 #[.pointer (some ⟨b, 0, none⟩), .int .i64 (i : Int), .bool one] w fun e w' =>
      e = .returned (.tuple #[]) ∧ w'.heap[b]? = some (.cells (c4 (Cu.updw p i) (Cu.setOne q i one)) 169 (0, 0)) ∧ w.grownBy w' (some b) := by
  have HB : Hid (w.heap[b]? = some (.cells (c4 p q) 169 (0, 0))) := hb
  clear hb
  cases one with
  | false =>
    have e : Cu.setOne q i false = q := by funext j; simp [Cu.setOne]
    rw [e]
    go_enter Try.func111, Try.ntmps111
    go_wp2_with fail
    refine (add_fixed p q i b w h2 HB.out).mono ?_
    rintro e w1 ⟨rfl, h1, g1⟩
    have H1 : Hid _ := h1
    clear h1
    go_wp2_with fail
    go_end0
    exact ⟨rfl, H1.out, g1⟩
  | true =>
    have e : Cu.setOne q i true = Cu.updw q i := by funext j; simp [Cu.setOne, Cu.updw]
    rw [e]
    go_enter Try.func111, Try.ntmps111
    go_wp2_with fail
    refine (add_fixed p q i b w h2 HB.out).mono ?_
    rintro e w1 ⟨rfl, h1, g1⟩
    have H1 : Hid _ := h1
    clear h1
    go_wp2_with fail
    refine (add_ones _ q i b w1 h2 H1.out).mono ?_
    rintro e w2 ⟨rfl, h2', g2⟩
    go_wp2_with fail
    go_end0
    exact ⟨rfl, h2', grown_trans g1 g2⟩
end Go.Proofs.Ytffngpdngjfcfaa
