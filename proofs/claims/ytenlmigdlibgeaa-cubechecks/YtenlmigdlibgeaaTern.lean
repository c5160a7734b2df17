/-
  What the methods of a ternary do: meets, inside.
-/
import Derived.Test.YtenlmigdlibgeaaReadW
import Derived.Deep.QuietTactic
import Derived.BigQuiet
namespace Go.Proofs.Ytenlmigdlibgeaa
open Go.RowKit

/-- A ternary's value out of four words. -/
abbrev wv (a b c d : Nat) : Value := .agg #[.int .u64 (a : Int), .int .u64 (b : Int), .int .u64 (c : Int), .int .u64 (d : Int)]
abbrev wc (a b c d : Nat) : Array Value := #[.int .u64 (a : Int), .int .u64 (b : Int), .int .u64 (c : Int), .int .u64 (d : Int)]

/-- Do two words of two ternaries part? In the walk's spelling. -/
def prt (o p f g : Nat) : Bool := bits .and .u64 (bits .and .u64 (bits .xor .u64 (o : Int) (p : Int)) (f : Int)) (g : Int) != 0

theorem bool_two (b : Bool) : b = false ∨ b = true := by cases b <;> simp
theorem below_drewN' {B : Nat} {w w1 : World} {n : Nat} (h : Below B w w1) : Below B w (w1.drewN n) := h.trans ⟨rfl, rfl, rfl, Nat.le_refl _, fun _ _ => rfl⟩

set_option maxHeartbeats 1000000 in
theorem meets_words (f0 f1 o0 o1 g0 g1 p0 p1 : Nat) (w : World) :
    Calls Try.prog 30 #[wv f0 f1 o0 o1, wv g0 g1 p0 p1] w fun e w' =>
      e = .returned (.bool (!prt o0 p0 f0 g0 && !prt o1 p1 f1 g1)) ∧ Below w.heap.size w w' := by
  go_enter Try.func30, Try.ntmps30
  go_wp2
  go_loopw [6] (fun i wr => (i = .int .i64 0 ∨ (i = .int .i64 1 ∧ Hid (prt o0 p0 f0 g0 = false)) ∨ (i = .int .i64 2 ∧ Hid (prt o0 p0 f0 g0 = false) ∧ Hid (prt o1 p1 f1 g1 = false))) ∧
      wr.heap[w.heap.size]? = some (.cells (wc f0 f1 o0 o1) 69 (0, 0)) ∧ wr.heap[w.heap.size + 1]? = some (.cells (wc g0 g1 p0 p1) 69 (0, 0)) ∧ Below w.heap.size w wr)
    (fun i _ => 2 - (intOf i).toNat)
  case atStart =>
    exact ⟨Or.inl rfl, new_old _ _ (new_0 _ _), new_1 _ _ _, ((Below.refl _ _).alloc (Nat.le_refl _) _).alloc (by simp) _⟩
  case round =>
    obtain ⟨hi, h0, h1, hb⟩ := hrel
    obtain ⟨t0, t1, t2, t3⟩ := four_cell h0
    obtain ⟨u0, u1, u2, u3⟩ := four_cell h1
    have H0 : Hid _ := h0
    have H1 : Hid _ := h1
    clear h0 h1
    rcases hi with rfl | ⟨rfl, hx0⟩ | ⟨rfl, hx0, hx1⟩
    · go_wp2
      go_quiet (fail)
      rcases bool_two (prt o0 p0 f0 g0) with hx | hx
      · have hx' : (bits .and .u64 (bits .and .u64 (bits .xor .u64 (o0 : Int) (p0 : Int)) (f0 : Int)) (g0 : Int) != 0) = false := hx
        have HX : Hid (prt o0 p0 f0 g0 = false) := hx
        clear hx
        go_wp2
        go_roundw
        case rel => exact ⟨Or.inr (Or.inl ⟨rfl, HX⟩), H0.out, H1.out, below_drewN' hb⟩
        case measure => simp [intOf]
      · have hx' : (bits .and .u64 (bits .and .u64 (bits .xor .u64 (o0 : Int) (p0 : Int)) (f0 : Int)) (g0 : Int) != 0) = true := hx
        have HX : Hid (prt o0 p0 f0 g0 = true) := hx
        clear hx
        go_wp2
        go_ret
        refine ⟨?_, below_drewN' hb⟩
        rw [HX.out]; rfl
    · go_wp2
      go_quiet (fail)
      rcases bool_two (prt o1 p1 f1 g1) with hx | hx
      · have hx' : (bits .and .u64 (bits .and .u64 (bits .xor .u64 (o1 : Int) (p1 : Int)) (f1 : Int)) (g1 : Int) != 0) = false := hx
        have HX : Hid (prt o1 p1 f1 g1 = false) := hx
        clear hx
        go_wp2
        go_roundw
        case rel => exact ⟨Or.inr (Or.inr ⟨rfl, hx0, HX⟩), H0.out, H1.out, below_drewN' hb⟩
        case measure => simp [intOf]
      · have hx' : (bits .and .u64 (bits .and .u64 (bits .xor .u64 (o1 : Int) (p1 : Int)) (f1 : Int)) (g1 : Int) != 0) = true := hx
        have HX : Hid (prt o1 p1 f1 g1 = true) := hx
        clear hx
        go_wp2
        go_ret
        refine ⟨?_, below_drewN' hb⟩
        rw [HX.out, hx0.out]; rfl
    · go_wp2
      go_ret
      refine ⟨?_, hb⟩
      rw [hx0.out, hx1.out]; rfl

/-- Does a word of u lie outside of t's? In the walk's spelling. -/
def out1 (g f : Nat) : Bool := bits .andNot .u64 (g : Int) (f : Int) != 0
def out2 (o p g : Nat) : Bool := bits .and .u64 (bits .xor .u64 (o : Int) (p : Int)) (g : Int) != 0

end Go.Proofs.Ytenlmigdlibgeaa
