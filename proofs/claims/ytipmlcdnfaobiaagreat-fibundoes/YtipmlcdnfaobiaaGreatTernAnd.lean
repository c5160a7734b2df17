/-
  What holds in the rounds of cut: the two boxes, the row of parts, old memory.
  Plain mathematics: what is left of a cube without another one, place by place.
  Meet and Inside of two texts.
  Meet: what two texts have in common.
  text: the text of a ternary.
  The methods of a ternary, said of lists of bytes: meets, inside, meet.
  What the methods of a ternary do: meet.
  What the methods of a ternary do: meets, inside.
-/
import Derived.Test.YtipmlcdnfaobiaaGreatReadAnd
import Derived.Deep.QuietTactic
import Derived.BigQuiet
import Derived.Laws.BytesArg
import Derived.Deep.OwnRows
import Derived.Test.YtipmlcdnfaobiaaGreatWMathAnd
import Derived.Maps.AppendAt
namespace Go.Proofs.YtipmlcdnfaobiaaGreat.Cub
open Go.RowKit

/-- A ternary's value out of four words. -/
abbrev wv (a b c d : Nat) : Value := .agg #[.int .u64 (a : Int), .int .u64 (b : Int), .int .u64 (c : Int), .int .u64 (d : Int)]
abbrev wc (a b c d : Nat) : Array Value := #[.int .u64 (a : Int), .int .u64 (b : Int), .int .u64 (c : Int), .int .u64 (d : Int)]

/-- Do two words of two ternaries part? In the walk's spelling. -/
def prt (o p f g : Nat) : Bool := bits .and .u64 (bits .and .u64 (bits .xor .u64 (o : Int) (p : Int)) (f : Int)) (g : Int) != 0

theorem bool_two (b : Bool) : b = false ∨ b = true := by cases b <;> simp
theorem below_drewN' {B : Nat} {w w1 : World} {n : Nat} (h : Below B w w1) : Below B w (w1.drewN n) := h.trans ⟨rfl, rfl, rfl, Nat.le_refl _, fun _ _ => rfl⟩

set_option maxHeartbeats 1000000 in
theorem meets_words (f0 f1 o0 o1 g0 g1 p0 p1 : Nat) (w : World) :
    Calls Tryz.prog 107 #[wv f0 f1 o0 o1, wv g0 g1 p0 p1] w fun e w' =>
      e = .returned (.bool (!prt o0 p0 f0 g0 && !prt o1 p1 f1 g1)) ∧ Below w.heap.size w w' := by
  go_enter Tryz.func107, Tryz.ntmps107
  go_wp2
  go_loopw [6] (fun i wr => (i = .int .i64 0 ∨ (i = .int .i64 1 ∧ Hid (prt o0 p0 f0 g0 = false)) ∨ (i = .int .i64 2 ∧ Hid (prt o0 p0 f0 g0 = false) ∧ Hid (prt o1 p1 f1 g1 = false))) ∧
      wr.heap[w.heap.size]? = some (.cells (wc f0 f1 o0 o1) 108 (0, 0)) ∧ wr.heap[w.heap.size + 1]? = some (.cells (wc g0 g1 p0 p1) 108 (0, 0)) ∧ Below w.heap.size w wr)
    (fun i _ => 2 - (intOf i).toNat)
  case atStart =>
    exact ⟨Or.inl rfl, new_old _ _ (new_0 _ _), new_1 _ _ _, ((Below.refl _ _).alloc (Nat.le_refl _) _).alloc (by simp) _⟩
  case round =>
    obtain ⟨hi, h0, h1, hb⟩ := hrel
    obtain ⟨t0, t1, t2, t3⟩ := four_cell h0
    obtain ⟨u0, u1, u2, u3⟩ := four_cell h1
    have H0 : Hid _ := h0
    have H1 : Hid _ := h1
    clear h0 h1
    rcases hi with rfl | ⟨rfl, hx0⟩ | ⟨rfl, hx0, hx1⟩
    · go_wp2
      go_quiet (fail)
      rcases bool_two (prt o0 p0 f0 g0) with hx | hx
      · have hx' : (bits .and .u64 (bits .and .u64 (bits .xor .u64 (o0 : Int) (p0 : Int)) (f0 : Int)) (g0 : Int) != 0) = false := hx
        have HX : Hid (prt o0 p0 f0 g0 = false) := hx
        clear hx
        go_wp2
        go_roundw
        case rel => exact ⟨Or.inr (Or.inl ⟨rfl, HX⟩), H0.out, H1.out, below_drewN' hb⟩
        case measure => simp [intOf]
      · have hx' : (bits .and .u64 (bits .and .u64 (bits .xor .u64 (o0 : Int) (p0 : Int)) (f0 : Int)) (g0 : Int) != 0) = true := hx
        have HX : Hid (prt o0 p0 f0 g0 = true) := hx
        clear hx
        go_wp2
        go_ret
        refine ⟨?_, below_drewN' hb⟩
        rw [HX.out]; rfl
    · go_wp2
      go_quiet (fail)
      rcases bool_two (prt o1 p1 f1 g1) with hx | hx
      · have hx' : (bits .and .u64 (bits .and .u64 (bits .xor .u64 (o1 : Int) (p1 : Int)) (f1 : Int)) (g1 : Int) != 0) = false := hx
        have HX : Hid (prt o1 p1 f1 g1 = false) := hx
        clear hx
        go_wp2
        go_roundw
        case rel => exact ⟨Or.inr (Or.inr ⟨rfl, hx0, HX⟩), H0.out, H1.out, below_drewN' hb⟩
        case measure => simp [intOf]
      · have hx' : (bits .and .u64 (bits .and .u64 (bits .xor .u64 (o1 : Int) (p1 : Int)) (f1 : Int)) (g1 : Int) != 0) = true := hx
        have HX : Hid (prt o1 p1 f1 g1 = true) := hx
        clear hx
        go_wp2
        go_ret
        refine ⟨?_, below_drewN' hb⟩
        rw [HX.out, hx0.out]; rfl
    · go_wp2
      go_ret
      refine ⟨?_, hb⟩
      rw [hx0.out, hx1.out]; rfl

/-- Does a word of u lie outside of t's? In the walk's spelling. -/
def out1 (g f : Nat) : Bool := bits .andNot .u64 (g : Int) (f : Int) != 0
def out2 (o p g : Nat) : Bool := bits .and .u64 (bits .xor .u64 (o : Int) (p : Int)) (g : Int) != 0

set_option maxHeartbeats 1000000 in
theorem inside_words (f0 f1 o0 o1 g0 g1 p0 p1 : Nat) (w : World) :
    Calls Tryz.prog 105 #[wv f0 f1 o0 o1, wv g0 g1 p0 p1] w fun e w' =>
      e = .returned (.bool ((!out1 g0 f0 && !out2 o0 p0 g0) && (!out1 g1 f1 && !out2 o1 p1 g1))) ∧ Below w.heap.size w w' := by
  go_enter Tryz.func105, Tryz.ntmps105
  go_wp2
  go_loopw [6] (fun i wr => (i = .int .i64 0 ∨ (i = .int .i64 1 ∧ Hid (out1 g0 f0 = false ∧ out2 o0 p0 g0 = false)) ∨ (i = .int .i64 2 ∧ Hid (out1 g0 f0 = false ∧ out2 o0 p0 g0 = false) ∧ Hid (out1 g1 f1 = false ∧ out2 o1 p1 g1 = false))) ∧
      wr.heap[w.heap.size]? = some (.cells (wc f0 f1 o0 o1) 108 (0, 0)) ∧ wr.heap[w.heap.size + 1]? = some (.cells (wc g0 g1 p0 p1) 108 (0, 0)) ∧ Below w.heap.size w wr)
    (fun i _ => 2 - (intOf i).toNat)
  case atStart =>
    exact ⟨Or.inl rfl, new_old _ _ (new_0 _ _), new_1 _ _ _, ((Below.refl _ _).alloc (Nat.le_refl _) _).alloc (by simp) _⟩
  case round =>
    obtain ⟨hi, h0, h1, hb⟩ := hrel
    obtain ⟨t0, t1, t2, t3⟩ := four_cell h0
    obtain ⟨u0, u1, u2, u3⟩ := four_cell h1
    have H0 : Hid _ := h0
    have H1 : Hid _ := h1
    clear h0 h1
    rcases hi with rfl | ⟨rfl, hx0⟩ | ⟨rfl, hx0, hx1⟩
    · rcases bool_two (out1 g0 f0) with hx | hx
      · have hx' : (bits .andNot .u64 (g0 : Int) (f0 : Int) != 0) = false := hx
        have HX : Hid (out1 g0 f0 = false) := hx
        clear hx
        go_wp2
        go_quiet (fail)
        rcases bool_two (out2 o0 p0 g0) with hy | hy
        · have hy' : (bits .and .u64 (bits .xor .u64 (o0 : Int) (p0 : Int)) (g0 : Int) != 0) = false := hy
          have HY : Hid (out2 o0 p0 g0 = false) := hy
          clear hy
          go_wp2
          go_roundw
          case rel => exact ⟨Or.inr (Or.inl ⟨rfl, HX.out, HY.out⟩), H0.out, H1.out, below_drewN' hb⟩
          case measure => simp [intOf]
        · have hy' : (bits .and .u64 (bits .xor .u64 (o0 : Int) (p0 : Int)) (g0 : Int) != 0) = true := hy
          have HY : Hid (out2 o0 p0 g0 = true) := hy
          clear hy
          go_wp2
          go_ret
          refine ⟨?_, below_drewN' hb⟩
          rw [HY.out]; simp
      · have hx' : (bits .andNot .u64 (g0 : Int) (f0 : Int) != 0) = true := hx
        have HX : Hid (out1 g0 f0 = true) := hx
        clear hx
        go_wp2
        go_quiet (fail)
        go_wp2
        go_ret
        refine ⟨?_, below_drewN' hb⟩
        rw [HX.out]; simp
    · rcases bool_two (out1 g1 f1) with hx | hx
      · have hx' : (bits .andNot .u64 (g1 : Int) (f1 : Int) != 0) = false := hx
        have HX : Hid (out1 g1 f1 = false) := hx
        clear hx
        go_wp2
        go_quiet (fail)
        rcases bool_two (out2 o1 p1 g1) with hy | hy
        · have hy' : (bits .and .u64 (bits .xor .u64 (o1 : Int) (p1 : Int)) (g1 : Int) != 0) = false := hy
          have HY : Hid (out2 o1 p1 g1 = false) := hy
          clear hy
          go_wp2
          go_roundw
          case rel => exact ⟨Or.inr (Or.inr ⟨rfl, hx0, HX.out, HY.out⟩), H0.out, H1.out, below_drewN' hb⟩
          case measure => simp [intOf]
        · have hy' : (bits .and .u64 (bits .xor .u64 (o1 : Int) (p1 : Int)) (g1 : Int) != 0) = true := hy
          have HY : Hid (out2 o1 p1 g1 = true) := hy
          clear hy
          go_wp2
          go_ret
          refine ⟨?_, below_drewN' hb⟩
          rw [HY.out]; simp
      · have hx' : (bits .andNot .u64 (g1 : Int) (f1 : Int) != 0) = true := hx
        have HX : Hid (out1 g1 f1 = true) := hx
        clear hx
        go_wp2
        go_quiet (fail)
        go_wp2
        go_ret
        refine ⟨?_, below_drewN' hb⟩
        rw [HX.out]; simp
    · go_wp2
      go_ret
      refine ⟨?_, hb⟩
      rw [hx0.out.1, hx0.out.2, hx1.out.1, hx1.out.2]; rfl
end Go.Proofs.YtipmlcdnfaobiaaGreat.Cub
namespace Go.Proofs.YtipmlcdnfaobiaaGreat.Cub
open Go.RowKit

/-- The or of two words, in the walk's spelling. -/
abbrev orw (f g : Nat) : Value := .int .u64 (bits .or .u64 (f : Int) (g : Int))

end Go.Proofs.YtipmlcdnfaobiaaGreat.Cub
namespace Go.Proofs.YtipmlcdnfaobiaaGreat.Cub
open Go.RowKit

theorem prt_eq (o p f g : Nat) (ho : o < 18446744073709551616) (hp : p < 18446744073709551616) (hf : f < 18446744073709551616) (hg : g < 18446744073709551616) :
    prt o p f g = decide (¬ ((((o ^^^ p) &&& f) &&& g) = 0)) := by
  unfold prt
  rw [u64_xor_nat _ _ ho hp, u64_and_nat _ _ (Cu.xor_lt ho hp) hf, u64_and_nat _ _ (Cu.and_lt (Cu.xor_lt ho hp)) hg]
  rw [Bool.eq_iff_iff]
  simp only [bne_iff_ne, ne_eq, decide_eq_true_eq]
  omega

theorem nprt (a b : List UInt8) (k : Nat) : (!prt (Cu.wd (Cu.oneAt a) k) (Cu.wd (Cu.oneAt b) k) (Cu.wd (Cu.fixAt a) k) (Cu.wd (Cu.fixAt b) k)) = true ↔ ∀ i, i < 64 → Cu.partAt a b (64 * k + i) = false := by
  rw [prt_eq _ _ _ _ (Cu.wd_lt _ _) (Cu.wd_lt _ _) (Cu.wd_lt _ _) (Cu.wd_lt _ _)]
  simp only [Bool.not_eq_true', decide_eq_false_iff_not, Decidable.not_not]
  rw [Cu.and_ne_zero]
  constructor
  · intro H i hi
    have := H i
    rw [Nat.testBit_and, Nat.testBit_xor, Cu.testBit_wd, Cu.testBit_wd, Cu.testBit_wd, Cu.testBit_wd] at this
    simpa [hi, Cu.partAt] using this
  · intro H i
    rw [Nat.testBit_and, Nat.testBit_xor, Cu.testBit_wd, Cu.testBit_wd, Cu.testBit_wd, Cu.testBit_wd]
    by_cases hi : i < 64
    · have := H i hi
      simpa [hi, Cu.partAt] using this
    · simp [hi]

theorem all128 {f : Nat → Bool} (hf : ∀ i, 128 ≤ i → f i = false) : (∀ i, f i = false) ↔ (∀ i, i < 64 → f (64 * 0 + i) = false) ∧ (∀ i, i < 64 → f (64 * 1 + i) = false) := by
  constructor
  · intro H; exact ⟨fun i _ => H _, fun i _ => H _⟩
  · rintro ⟨h0, h1⟩ i
    by_cases a : i < 64
    · have := h0 i a; simpa using this
    · by_cases b : i < 128
      · have := h1 (i - 64) (by omega); rw [show 64 * 1 + (i - 64) = i from by omega] at this; exact this
      · exact hf i (by omega)

theorem meets_lists {a b : List UInt8} (ha : Cu.right a = true) (hb : Cu.right b = true) (h : a.length = b.length) :
    (!prt (Cu.wd (Cu.oneAt a) 0) (Cu.wd (Cu.oneAt b) 0) (Cu.wd (Cu.fixAt a) 0) (Cu.wd (Cu.fixAt b) 0) && !prt (Cu.wd (Cu.oneAt a) 1) (Cu.wd (Cu.oneAt b) 1) (Cu.wd (Cu.fixAt a) 1) (Cu.wd (Cu.fixAt b) 1)) = Cu.meetsB a b := by
  obtain ⟨h1, h2, h3⟩ := Cu.right_all ha
  obtain ⟨k1, _, _⟩ := Cu.right_all hb
  rw [Bool.eq_iff_iff, Bool.and_eq_true, nprt, nprt, Cu.meetsB_iff h1 k1 h]
  refine (all128 fun i hi => ?_).symm
  unfold Cu.partAt
  rw [Cu.fixAt_ge (by omega)]; simp

theorem meets_any (a b : List UInt8) (w : World) (ha : Cu.right a = true) (hb : Cu.right b = true) (h : a.length = b.length) :
    Calls Tryz.prog 107 #[tv a, tv b] w fun e w' => e = .returned (.bool (Cu.meetsB a b)) ∧ Below w.heap.size w w' := by
  rw [← meets_lists ha hb h]
  exact meets_words _ _ _ _ _ _ _ _ w

theorem out1_eq (g f : Nat) (hg : g < 18446744073709551616) (hf : f < 18446744073709551616) : out1 g f = decide (¬ (g &&& (18446744073709551615 - f) = 0)) := by
  unfold out1
  rw [u64_andNot_nat _ _ hg hf, Bool.eq_iff_iff]
  simp only [bne_iff_ne, ne_eq, decide_eq_true_eq]
  omega
theorem out2_eq (o p g : Nat) (ho : o < 18446744073709551616) (hp : p < 18446744073709551616) (hg : g < 18446744073709551616) : out2 o p g = decide (¬ ((o ^^^ p) &&& g = 0)) := by
  unfold out2
  rw [u64_xor_nat _ _ ho hp, u64_and_nat _ _ (Cu.xor_lt ho hp) hg, Bool.eq_iff_iff]
  simp only [bne_iff_ne, ne_eq, decide_eq_true_eq]
  omega
theorem testBit_not64 (f i : Nat) (hf : f < 18446744073709551616) : (18446744073709551615 - f).testBit i = (decide (i < 64) && !f.testBit i) := by
  have : 18446744073709551615 - f = 2 ^ 64 - (f + 1) := by omega
  rw [this, Nat.testBit_two_pow_sub_succ hf]

theorem nout (a b : List UInt8) (k : Nat) : (!out1 (Cu.wd (Cu.fixAt b) k) (Cu.wd (Cu.fixAt a) k) && !out2 (Cu.wd (Cu.oneAt a) k) (Cu.wd (Cu.oneAt b) k) (Cu.wd (Cu.fixAt b) k)) = true ↔ ∀ i, i < 64 → Cu.outAt a b (64 * k + i) = false := by
  rw [out1_eq _ _ (Cu.wd_lt _ _) (Cu.wd_lt _ _), out2_eq _ _ _ (Cu.wd_lt _ _) (Cu.wd_lt _ _) (Cu.wd_lt _ _)]
  simp only [Bool.and_eq_true, Bool.not_eq_true', decide_eq_false_iff_not, Decidable.not_not]
  rw [Cu.and_ne_zero, Cu.and_ne_zero]
  constructor
  · rintro ⟨H1, H2⟩ i hi
    have e1 := H1 i
    have e2 := H2 i
    rw [testBit_not64 _ _ (Cu.wd_lt _ _), Cu.testBit_wd, Cu.testBit_wd] at e1
    rw [Nat.testBit_xor, Cu.testBit_wd, Cu.testBit_wd, Cu.testBit_wd] at e2
    simp only [hi, decide_true, Bool.true_and] at e1 e2
    unfold Cu.outAt
    cases h1 : Cu.fixAt b (64 * k + i) <;> cases h2 : Cu.fixAt a (64 * k + i) <;> simp_all
  · intro H
    refine ⟨fun i => ?_, fun i => ?_⟩
    · rw [testBit_not64 _ _ (Cu.wd_lt _ _), Cu.testBit_wd, Cu.testBit_wd]
      by_cases hi : i < 64
      · have := H i hi
        unfold Cu.outAt at this
        cases h1 : Cu.fixAt b (64 * k + i) <;> cases h2 : Cu.fixAt a (64 * k + i) <;> simp_all
      · simp [hi]
    · rw [Nat.testBit_xor, Cu.testBit_wd, Cu.testBit_wd, Cu.testBit_wd]
      by_cases hi : i < 64
      · have := H i hi
        unfold Cu.outAt at this
        cases h1 : Cu.fixAt b (64 * k + i) <;> cases h2 : Cu.fixAt a (64 * k + i) <;> simp_all
      · simp [hi]

theorem inside_any (a b : List UInt8) (w : World) (ha : Cu.right a = true) (hb : Cu.right b = true) (h : a.length = b.length) :
    Calls Tryz.prog 105 #[tv a, tv b] w fun e w' => e = .returned (.bool (Cu.insideB a b)) ∧ Below w.heap.size w w' := by
  have e : ((!out1 (Cu.wd (Cu.fixAt b) 0) (Cu.wd (Cu.fixAt a) 0) && !out2 (Cu.wd (Cu.oneAt a) 0) (Cu.wd (Cu.oneAt b) 0) (Cu.wd (Cu.fixAt b) 0)) && (!out1 (Cu.wd (Cu.fixAt b) 1) (Cu.wd (Cu.fixAt a) 1) && !out2 (Cu.wd (Cu.oneAt a) 1) (Cu.wd (Cu.oneAt b) 1) (Cu.wd (Cu.fixAt b) 1))) = Cu.insideB a b := by
    obtain ⟨h1, h2, h3⟩ := Cu.right_all ha
    obtain ⟨k1, _, _⟩ := Cu.right_all hb
    rw [Bool.eq_iff_iff, Bool.and_eq_true, nout, nout, Cu.insideB_iff h1 k1 h]
    refine (all128 fun i hi => ?_).symm
    unfold Cu.outAt
    rw [Cu.fixAt_ge (l := b) (by omega)]; simp
  rw [← e]
  exact inside_words _ _ _ _ _ _ _ _ w

theorem orw_eq (p q r : Nat → Bool) (k : Nat) (h : ∀ i, i < 64 → r (64 * k + i) = (p (64 * k + i) || q (64 * k + i))) : orw (Cu.wd p k) (Cu.wd q k) = .int .u64 (Cu.wd r k : Int) := by
  unfold orw
  rw [u64_or_nat _ _ (Cu.wd_lt _ _) (Cu.wd_lt _ _)]
  congr 2
  refine Cu.wd_eq (Cu.or_lt (Cu.wd_lt _ _) (Cu.wd_lt _ _)) fun i hi => ?_
  rw [Nat.testBit_or, Cu.testBit_wd, Cu.testBit_wd, h i hi]
  simp [hi]

end Go.Proofs.YtipmlcdnfaobiaaGreat.Cub
namespace Go.Proofs.YtipmlcdnfaobiaaGreat.Cub
open Go.RowKit

theorem Tryz.infoByte : (Tryz.prog.info? 5).map (fun i => (i.zero, i.size, i.bytes)) = some (some (.int .u8 0), 1, 1) := by kernel_rfl

/-- Cells in which the first k bytes of a text lie. -/
def lieB (cs : Array Value) (k : Nat) (l : List UInt8) : Prop := ∀ j, j < k → cs[j]? = some (.int .u8 ((l.getD j 0).toNat : Int))
theorem lieB_zero (cs : Array Value) (l : List UInt8) : lieB cs 0 l := fun j hj => absurd hj (Nat.not_lt_zero j)
theorem lieB_set {cs : Array Value} {k : Nat} {l : List UInt8} (h : lieB cs k l) (hk : k < cs.size) (c : Int) (hc : c = ((l.getD k 0).toNat : Int)) : lieB (cs.setIfInBounds k (.int .u8 c)) (k + 1) l := by
  subst hc
  intro j hj
  rw [Array.getElem?_setIfInBounds]
  by_cases e : k = j
  · subst e; rw [if_pos rfl, if_pos hk]
  · rw [if_neg e]; exact h j (by omega)

def madeB (n : Nat) : Array Value := madeCells #[.int .u8 0] n
theorem madeB_size (n : Nat) : (madeB n).size = n := size_madeCells _ _

/-- The world behind the call of has: all is as it was. -/
theorem rel_text {w wr w1 : World} {o0 : Obj} {cs : Array Value} {n k : Nat} {l : List UInt8} (h0 : wr.heap[w.heap.size]? = some o0) (h1 : wr.heap[w.heap.size + 1]? = some (.cells cs 5 (0, 0)))
    (hsz : cs.size = n) (hlie : lieB cs k l) (hlt : k < n) (hbl : Below w.heap.size w wr) (hb1 : Below wr.heap.size wr w1) (c : Int) (hc : c = ((l.getD k 0).toNat : Int)) :
    (w1.setCell ⟨w.heap.size + 1, k, none⟩ (.int .u8 c)).heap[w.heap.size]? = some o0 ∧
      (∃ cs, (w1.setCell ⟨w.heap.size + 1, k, none⟩ (.int .u8 c)).heap[w.heap.size + 1]? = some (.cells cs 5 (0, 0)) ∧ cs.size = n ∧ lieB cs (k + 1) l) ∧
      Below w.heap.size w (w1.setCell ⟨w.heap.size + 1, k, none⟩ (.int .u8 c)) := by
  have hs := hbl.size
  refine ⟨?_, ⟨_, block_set _ (below_block hb1 h1 (lt_of_block h1)), by simp [hsz], lieB_set hlie (by omega) c hc⟩, (hbl.trans (hb1.mono hs)).setCell (by simp) _⟩
  rw [Below.heap_setCell _ _ _ _ (by simp)]; exact below_block hb1 h0 (lt_of_block h0)

set_option maxRecDepth 4000 in
set_option maxHeartbeats 1000000 in
theorem text_any (l : List UInt8) (n : Nat) (w : World) (hl : Cu.right l = true) (hn : l.length = n) :
    Calls Tryz.prog 81 #[tv l, .int .i64 (n : Int)] w fun e w' => e = .returned (.string ⟨l.toArray⟩) ∧ Below w.heap.size w w' := by
  obtain ⟨hall, hl1, hl2⟩ := Cu.right_all hl
  have HA : Hid (l.all Cu.sym = true) := hall
  have HN : Hid (l.length = n) := hn
  have hn1 : 1 ≤ n := by omega
  have hn2 : n ≤ 128 := by omega
  clear hl hall hn hl1 hl2
  have hmk := run_make_row' (P := Tryz.prog) 134 5 (.int .u8 0) 1 Tryz.underlying134 Tryz.infoByte rfl .i64 .i64 n (by omega) (by omega)
  rw [show madeCells #[.int .u8 0] n = madeB n from rfl] at hmk
  go_enter Tryz.func81, Tryz.ntmps81
  go_wp2
  go_loopw [11] (fun i wr => ∃ k : Nat, k ≤ n ∧ i = .int .i64 k ∧ wr.heap[w.heap.size]? = some (.cells (tc l) 108 (0, 0)) ∧
      (∃ cs, wr.heap[w.heap.size + 1]? = some (.cells cs 5 (0, 0)) ∧ cs.size = n ∧ lieB cs k l) ∧ Below w.heap.size w wr)
    (fun i _ => n - (intOf i).toNat)
  case atStart =>
    exact ⟨0, Nat.zero_le _, rfl, new_old _ _ (new_0 _ _), ⟨madeB n, new_1 _ _ _, madeB_size n, lieB_zero _ _⟩, ((Below.refl _ _).alloc (Nat.le_refl _) _).alloc (by simp) _⟩
  case round =>
    obtain ⟨k, hk, rfl, h0, ⟨cs, h1, hsz, hlie⟩, hbl⟩ := hrel
    have H0 : Hid _ := h0
    have H1 : Hid _ := h1
    have hs1 := hbl.size
    have hlt1 := lt_of_block h1
    obtain ⟨t0, t1, t2, t3⟩ := four_cell h0
    by_cases hlt : k < n
    · clear h0 h1
      have hkl : k < l.length := by rw [HN.out]; exact hlt
      have HG : Hid (l.getD k 0 = l[k]) := by show _ = _; rw [List.getD_eq_getElem?_getD, List.getElem?_eq_getElem hkl]; rfl
      have h128 : k < 128 := by omega
      rcases Cu.sym_at HA.out k hkl with hc | hc | hc
      · have hone : Cu.oneAt l k = false := by rw [Cu.oneAt_lt hkl, hc]; rfl
        have hfix : Cu.fixAt l k = true := by rw [Cu.fixAt_lt hkl, hc]; rfl
        have HC : Hid (((l.getD k 0).toNat : Int) = 48) := by show _ = _; rw [HG.out, hc]; rfl
        clear hc
        go_wp2_with fail
        refine (has_any (Cu.oneAt l) k _ h128).mono ?_
        rintro e w1 ⟨rfl, hb1⟩
        have e0 : w1.cell? ⟨w.heap.size, 0, none⟩ = _ := (hb1.cell (p := ⟨w.heap.size, 0, none⟩) (by show w.heap.size < wr.heap.size; omega)).trans t0
        have e1 : w1.cell? ⟨w.heap.size, 1, none⟩ = _ := (hb1.cell (p := ⟨w.heap.size, 1, none⟩) (by show w.heap.size < wr.heap.size; omega)).trans t1
        go_wp2_with fail
        refine (has_any (Cu.fixAt l) k _ h128).mono ?_
        rintro e w2 ⟨rfl, hb2⟩
        have hb12 := hb1.trans (hb2.mono hb1.size)
        have HB1 : Hid _ := below_block hb12 H1.out hlt1
        obtain ⟨v, hv⟩ := cells_some HB1.out (x := k) (by omega)
        have f : w2.frozen? ⟨w.heap.size + 1, k, none⟩ = false := free_of HB1.out
        go_wp2
        go_roundw
        case rel =>
          have R := rel_text H0.out H1.out hsz hlie hlt hbl hb12 48 HC.out.symm
          exact ⟨k + 1, by omega, by go_num, R.1, R.2.1, R.2.2⟩
        case measure => simp [intOf]; omega
      · have hone : Cu.oneAt l k = true := by rw [Cu.oneAt_lt hkl, hc]; rfl
        have HC : Hid (((l.getD k 0).toNat : Int) = 49) := by show _ = _; rw [HG.out, hc]; rfl
        clear hc
        go_wp2_with fail
        refine (has_any (Cu.oneAt l) k _ h128).mono ?_
        rintro e w1 ⟨rfl, hb1⟩
        have HB1 : Hid _ := below_block hb1 H1.out hlt1
        obtain ⟨v, hv⟩ := cells_some HB1.out (x := k) (by omega)
        have f : w1.frozen? ⟨w.heap.size + 1, k, none⟩ = false := free_of HB1.out
        go_wp2
        go_roundw
        case rel =>
          have R := rel_text H0.out H1.out hsz hlie hlt hbl hb1 49 HC.out.symm
          exact ⟨k + 1, by omega, by go_num, R.1, R.2.1, R.2.2⟩
        case measure => simp [intOf]; omega
      · have hone : Cu.oneAt l k = false := by rw [Cu.oneAt_lt hkl, hc]; rfl
        have hfix : Cu.fixAt l k = false := by rw [Cu.fixAt_lt hkl, hc]; rfl
        have HC : Hid (((l.getD k 0).toNat : Int) = 120) := by show _ = _; rw [HG.out, hc]; rfl
        clear hc
        go_wp2_with fail
        refine (has_any (Cu.oneAt l) k _ h128).mono ?_
        rintro e w1 ⟨rfl, hb1⟩
        have e0 : w1.cell? ⟨w.heap.size, 0, none⟩ = _ := (hb1.cell (p := ⟨w.heap.size, 0, none⟩) (by show w.heap.size < wr.heap.size; omega)).trans t0
        have e1 : w1.cell? ⟨w.heap.size, 1, none⟩ = _ := (hb1.cell (p := ⟨w.heap.size, 1, none⟩) (by show w.heap.size < wr.heap.size; omega)).trans t1
        go_wp2_with fail
        refine (has_any (Cu.fixAt l) k _ h128).mono ?_
        rintro e w2 ⟨rfl, hb2⟩
        have hb12 := hb1.trans (hb2.mono hb1.size)
        have HB1 : Hid _ := below_block hb12 H1.out hlt1
        obtain ⟨v, hv⟩ := cells_some HB1.out (x := k) (by omega)
        have f : w2.frozen? ⟨w.heap.size + 1, k, none⟩ = false := free_of HB1.out
        go_wp2
        go_roundw
        case rel =>
          have R := rel_text H0.out H1.out hsz hlie hlt hbl hb12 120 HC.out.symm
          exact ⟨k + 1, by omega, by go_num, R.1, R.2.1, R.2.2⟩
        case measure => simp [intOf]; omega
    · have hkn : k = n := by omega
      subst hkn
      have hcv := run_convert_bytes_arg (P := Tryz.prog) wr 134 5 Tryz.underlying134 Tryz.underlying5 (w.heap.size + 1) 0 k k (l.map fun c => (c.toNat : Int)) (by rw [List.length_map]; exact HN.out)
        (by
          intro i hi
          have hil : i < l.length := by rw [HN.out]; exact hi
          have := hlie i hi
          simp only [World.cell?, h1, Nat.zero_add]
          simp [this, hil]) 9 Tryz.underlying9
      have hst : strOfNums (l.map fun c => (c.toNat : Int)) = ⟨l.toArray⟩ := by
        unfold strOfNums; congr 1; simp [Function.comp_def]
      rw [hst] at hcv
      clear h0 h1
      go_wp2
      go_ret
      exact ⟨rfl, hbl⟩
end Go.Proofs.YtipmlcdnfaobiaaGreat.Cub
namespace Go.Proofs.YtipmlcdnfaobiaaGreat.Cub
open Go.RowKit

/-- Two texts by number. -/
def two (a b : ByteArray) (i : Nat) : ByteArray := if i = 0 then a else b

theorem two_cells (w : World) (a b : ByteArray) : ∀ i, i < 2 → (w.alloc (.cells #[.string a, .string b] 9)).cell? ⟨w.heap.size, 0 + i, none⟩ = some (.string (two a b i)) := by
  intro i hi
  have h := new_0 w (.cells #[.string a, .string b] 9)
  have : i = 0 ∨ i = 1 := by omega
  unfold World.cell?
  rcases this with rfl | rfl <;> (rw [h]; rfl)
theorem two_0 (a b : ByteArray) : two a b 0 = a := rfl
theorem two_1 (a b : ByteArray) : two a b 1 = b := rfl
theorem two_right {a b : ByteArray} (ha : Cu.right a.data.toList = true) (hb : Cu.right b.data.toList = true) : ∀ i, i < 2 → Cu.right (by_ (two a b) i) = true := by
  intro i hi
  have : i = 0 ∨ i = 1 := by omega
  rcases this with rfl | rfl
  · exact ha
  · exact hb
theorem two_size {a b : ByteArray} (hs : a.size = b.size) : ∀ i, i < 2 → (two a b i).size = (two a b 0).size := by
  intro i hi
  have : i = 0 ∨ i = 1 := by omega
  rcases this with rfl | rfl
  · rfl
  · exact hs.symm

/-- What read answers of two texts. -/
def err2 (a b : ByteArray) : Int := if Cu.right a.data.toList = true ∧ Cu.right b.data.toList = true then (if a.size = b.size then 0 else 11) else 10

theorem read2_bad (a b : ByteArray) (w : World) (h : err2 a b ≠ 0) :
    Calls Tryz.prog 58 #[.slice (some ⟨w.heap.size, 0, none⟩) 2 2] (w.alloc (.cells #[.string a, .string b] 9)) fun e w' =>
      e = .returned (.tuple #[.slice none 0 0, .int .i64 (err2 a b)]) ∧ Below w.heap.size w w' := by
  have hB : Below w.heap.size w (w.alloc (.cells #[.string a, .string b] 9)) := (Below.refl _ _).alloc (Nat.le_refl _) _
  by_cases ha : Cu.right a.data.toList = true
  · by_cases hb : Cu.right b.data.toList = true
    · have hs : a.size ≠ b.size := by
        intro e; apply h; unfold err2; rw [if_pos ⟨ha, hb⟩, if_pos e]
      have he : err2 a b = 11 := by unfold err2; rw [if_pos ⟨ha, hb⟩, if_neg hs]
      rw [he]
      refine (read_width (two a b) 2 w.heap.size 0 2 _ (by simp) (two_cells w a b) (by omega) (by omega) (two_right ha hb) 1 (by omega) ?_).mono ?_
      · rw [two_0, two_1]; exact fun e => hs e.symm
      · rintro e w' ⟨rfl, hb'⟩
        exact ⟨rfl, hB.trans (hb'.mono (by simp))⟩
    · have he : err2 a b = 10 := by unfold err2; rw [if_neg (fun h => hb h.2)]
      rw [he]
      refine (read_wrong (two a b) 2 w.heap.size 0 2 _ (by simp) (two_cells w a b) (by omega) (by omega) 1 (by omega) ?_ ?_).mono ?_
      · intro i hi
        have : i = 0 := by omega
        subst this; exact ha
      · exact Bool.eq_false_iff.2 hb
      · rintro e w' ⟨rfl, hb'⟩
        exact ⟨rfl, hB.trans (hb'.mono (by simp))⟩
  · have he : err2 a b = 10 := by unfold err2; rw [if_neg (fun h => ha h.1)]
    rw [he]
    refine (read_wrong (two a b) 2 w.heap.size 0 2 _ (by simp) (two_cells w a b) (by omega) (by omega) 0 (by omega) ?_ ?_).mono ?_
    · intro i hi; omega
    · exact Bool.eq_false_iff.2 ha
    · rintro e w' ⟨rfl, hb'⟩
      exact ⟨rfl, hB.trans (hb'.mono (by simp))⟩

/-- The cells of two ternaries. -/
def eight (w : World) (g : Nat) (a b : List UInt8) : Prop :=
  (w.cell? ⟨g, 0, none⟩ = some (.int .u64 (Cu.wd (Cu.fixAt a) 0 : Int)) ∧ w.cell? ⟨g, 1, none⟩ = some (.int .u64 (Cu.wd (Cu.fixAt a) 1 : Int)) ∧ w.cell? ⟨g, 2, none⟩ = some (.int .u64 (Cu.wd (Cu.oneAt a) 0 : Int)) ∧ w.cell? ⟨g, 3, none⟩ = some (.int .u64 (Cu.wd (Cu.oneAt a) 1 : Int))) ∧
  (w.cell? ⟨g, 4, none⟩ = some (.int .u64 (Cu.wd (Cu.fixAt b) 0 : Int)) ∧ w.cell? ⟨g, 5, none⟩ = some (.int .u64 (Cu.wd (Cu.fixAt b) 1 : Int)) ∧ w.cell? ⟨g, 6, none⟩ = some (.int .u64 (Cu.wd (Cu.oneAt b) 0 : Int)) ∧ w.cell? ⟨g, 7, none⟩ = some (.int .u64 (Cu.wd (Cu.oneAt b) 1 : Int)))
theorem eight_of {w : World} {g : Nat} {cs : Array Value} {L : Nat → List UInt8} (h : w.heap[g]? = some (.cells cs 108 (0, 0))) (hl : lie cs 2 L) : eight w g (L 0) (L 1) := by
  have a0 := hl 0 (by omega) 0 (by omega)
  have a1 := hl 0 (by omega) 1 (by omega)
  have a2 := hl 0 (by omega) 2 (by omega)
  have a3 := hl 0 (by omega) 3 (by omega)
  have b0 := hl 1 (by omega) 0 (by omega)
  have b1 := hl 1 (by omega) 1 (by omega)
  have b2 := hl 1 (by omega) 2 (by omega)
  have b3 := hl 1 (by omega) 3 (by omega)
  simp only [c4] at a0 a1 a2 a3 b0 b1 b2 b3
  simp [eight, World.cell?, h, a0, a1, a2, a3, b0, b1, b2, b3]
theorem eight_below {B : Nat} {w w' : World} {g : Nat} {a b : List UInt8} (h : eight w g a b) (hb : Below B w w') (hg : g < B) : eight w' g a b := by
  unfold eight
  rw [hb.cell (by exact hg), hb.cell (by exact hg), hb.cell (by exact hg), hb.cell (by exact hg), hb.cell (by exact hg), hb.cell (by exact hg), hb.cell (by exact hg), hb.cell (by exact hg)]
  exact h

theorem read2_ok (a b : ByteArray) (w : World) (ha : Cu.right a.data.toList = true) (hb : Cu.right b.data.toList = true) (hs : a.size = b.size) :
    Calls Tryz.prog 58 #[.slice (some ⟨w.heap.size, 0, none⟩) 2 2] (w.alloc (.cells #[.string a, .string b] 9)) fun e w' =>
      e = .returned (.tuple #[.slice (some ⟨w.heap.size + 3, 0, none⟩) 2 2, .int .i64 0]) ∧ eight w' (w.heap.size + 3) a.data.toList b.data.toList ∧ w.heap.size + 3 < w'.heap.size ∧ Below w.heap.size w w' := by
  have hB : Below w.heap.size w (w.alloc (.cells #[.string a, .string b] 9)) := (Below.refl _ _).alloc (Nat.le_refl _) _
  have := read_right (two a b) 2 w.heap.size 0 2 _ (by simp) (two_cells w a b) (by omega) (by omega) (two_right ha hb) (two_size hs)
  simp only [World.size_alloc] at this
  refine this.mono ?_
  rintro e w' ⟨rfl, ⟨cs, h2, _, hl⟩, hb'⟩
  have h8 := eight_of h2 hl
  rw [show by_ (two a b) 0 = a.data.toList from rfl, show by_ (two a b) 1 = b.data.toList from rfl] at h8
  exact ⟨rfl, h8, lt_of_block h2, hB.trans (hb'.mono (by simp))⟩
end Go.Proofs.YtipmlcdnfaobiaaGreat.Cub
namespace Go.Proofs.YtipmlcdnfaobiaaGreat.Cub
open Go.RowKit
attribute [local go_sem ↓] Go.wp_at_zero Go.wp_at_succ

set_option maxHeartbeats 400000 in
theorem Inside_bad (a b : ByteArray) (w : World) (h : err2 a b ≠ 0) :
    Calls Tryz.prog 76 #[.string a, .string b] w fun e w' => e = .returned (.tuple #[.bool false, .int .i64 (err2 a b)]) ∧ Below w.heap.size w w' := by
  have hne : (err2 a b != 0) = true := by rw [bne_iff_ne]; exact h
  have H : Hid (err2 a b ≠ 0) := h
  clear h
  go_enter Tryz.func76, Tryz.ntmps76
  go_wp2_with fail
  refine (read2_bad a b w H.out).mono ?_
  rintro e w1 ⟨rfl, hb1⟩
  go_wp2
  go_ret2
  exact ⟨rfl, hb1⟩

set_option maxHeartbeats 1000000 in
theorem Inside_ok (a b : ByteArray) (w : World) (ha : Cu.right a.data.toList = true) (hb : Cu.right b.data.toList = true) (hs : a.size = b.size) :
    Calls Tryz.prog 76 #[.string a, .string b] w fun e w' => e = .returned (.tuple #[.bool (Cu.insideB a.data.toList b.data.toList), .int .i64 0]) ∧ Below w.heap.size w w' := by
  have HA : Hid (Cu.right a.data.toList = true) := ha
  have HB : Hid (Cu.right b.data.toList = true) := hb
  have HS : Hid (a.size = b.size) := hs
  clear ha hb hs
  go_enter Tryz.func76, Tryz.ntmps76
  go_wp2_with fail
  refine (read2_ok a b w HA.out HB.out HS.out).mono ?_
  rintro e w1 ⟨rfl, h8, hg, hb1⟩
  have H8 : Hid _ := h8
  obtain ⟨⟨a0, a1, a2, a3⟩, b0, b1, b2, b3⟩ := h8
  go_wp2_with fail
  go_region_held3 (fun w' => (w'.cell? ⟨w.heap.size + 3, 0, none⟩ = some (.int .u64 (Cu.wd (Cu.fixAt a.data.toList) 0 : Int)) ∧ w'.cell? ⟨w.heap.size + 3, 1, none⟩ = some (.int .u64 (Cu.wd (Cu.fixAt a.data.toList) 1 : Int)) ∧ w'.cell? ⟨w.heap.size + 3, 2, none⟩ = some (.int .u64 (Cu.wd (Cu.oneAt a.data.toList) 0 : Int)) ∧ w'.cell? ⟨w.heap.size + 3, 3, none⟩ = some (.int .u64 (Cu.wd (Cu.oneAt a.data.toList) 1 : Int))) ∧ (w'.cell? ⟨w.heap.size + 3, 4, none⟩ = some (.int .u64 (Cu.wd (Cu.fixAt b.data.toList) 0 : Int)) ∧ w'.cell? ⟨w.heap.size + 3, 5, none⟩ = some (.int .u64 (Cu.wd (Cu.fixAt b.data.toList) 1 : Int)) ∧ w'.cell? ⟨w.heap.size + 3, 6, none⟩ = some (.int .u64 (Cu.wd (Cu.oneAt b.data.toList) 0 : Int)) ∧ w'.cell? ⟨w.heap.size + 3, 7, none⟩ = some (.int .u64 (Cu.wd (Cu.oneAt b.data.toList) 1 : Int)))) (first | (go_keep; done) | exact h82) (first | (go_at_call 105; refine (inside_any a.data.toList b.data.toList _ HA.out HB.out HS.out).mono ?_; rintro e w2 ⟨rfl, hb2⟩; have h82 : eight w2 (w.heap.size + 3) a.data.toList b.data.toList := eight_below H8.out (undrew hb2) hg))
  go_wp2
  go_ret2
  exact ⟨rfl, hb1.trans ((undrew hb2).mono hb1.size)⟩

end Go.Proofs.YtipmlcdnfaobiaaGreat.Cub
namespace Go.Proofs.YtipmlcdnfaobiaaGreat.Cub
namespace Cu

/-- Up to place k as what both have in common, behind it as a. -/
def mix (a b : List UInt8) (k : Nat) : List UInt8 := (meetL a b).take k ++ a.drop k
/-- Is there a part at place k? The byte turned; the part. -/
def cond (a b : List UInt8) (k : Nat) : Bool := !fixAt a k && fixAt b k
def turned (b : List UInt8) (k : Nat) : UInt8 := if oneAt b k then 48 else 49
def partL (a b : List UInt8) (k : Nat) : List UInt8 := (meetL a b).take k ++ [turned b k] ++ a.drop (k + 1)
def cutTo (a b : List UInt8) : Nat → List (List UInt8)
  | 0 => []
  | k + 1 => cutTo a b k ++ (if cond a b k then [partL a b k] else [])
def cutL (a b : List UInt8) : List (List UInt8) := if meetsB a b then cutTo a b a.length else [a]

theorem mix_zero (a b : List UInt8) : mix a b 0 = a := by simp [mix]
theorem mix_get {a b : List UInt8} (h : a.length = b.length) {k : Nat} (hk : k ≤ a.length) (i : Nat) : (mix a b k)[i]? = if i < k then (meetL a b)[i]? else a[i]? := by
  unfold mix
  have hl : ((meetL a b).take k).length = k := by rw [List.length_take, meetL_length h]; omega
  by_cases hi : i < k
  · rw [if_pos hi, List.getElem?_append_left (by rw [hl]; exact hi), List.getElem?_take_of_lt hi]
  · rw [if_neg hi, List.getElem?_append_right (by rw [hl]; omega), hl, List.getElem?_drop]
    congr 1; omega
theorem part_get {a b : List UInt8} (h : a.length = b.length) {k : Nat} (hk : k < a.length) (i : Nat) : (partL a b k)[i]? = if i = k then some (turned b k) else (mix a b k)[i]? := by
  rw [mix_get h (by omega)]
  unfold partL
  have hl : ((meetL a b).take k).length = k := by rw [List.length_take, meetL_length h]; omega
  by_cases hi : i < k
  · rw [if_neg (by omega), if_pos hi, List.append_assoc, List.getElem?_append_left (by rw [hl]; exact hi), List.getElem?_take_of_lt hi]
  · rw [if_neg hi, List.append_assoc, List.getElem?_append_right (by rw [hl]; omega), hl]
    by_cases e : i = k
    · subst e; simp
    · rw [if_neg e, List.getElem?_append_right (by simp; omega), List.getElem?_drop]
      congr 1; simp; omega
theorem part_length {a b : List UInt8} (h : a.length = b.length) {k : Nat} (hk : k < a.length) : (partL a b k).length = a.length := by
  simp [partL, meetL_length h]; omega

theorem mix_fix {a b : List UInt8} (h : a.length = b.length) {k : Nat} (hk : k < a.length) : fixAt (mix a b k) k = fixAt a k := by
  unfold fixAt; rw [mix_get h (by omega), if_neg (by omega)]

theorem turned_fixed (b : List UInt8) (k : Nat) : turned b k = 48 ∨ turned b k = 49 := by unfold turned; split <;> simp
theorem turned_one (b : List UInt8) (k : Nat) : (turned b k == 49) = !oneAt b k := by unfold turned; cases oneAt b k <;> rfl

theorem fix_part {a b : List UInt8} (h : a.length = b.length) {k : Nat} (hk : k < a.length) (_hc : cond a b k = true) : fixAt (partL a b k) = updw (fixAt (mix a b k)) k := by
  funext i
  simp only [fixAt, updw, part_get h hk]
  by_cases e : i = k
  · rw [if_pos e]; rcases turned_fixed b k with f | f <;> simp [f, e]
  · rw [if_neg e]; simp [e]
theorem one_mix_false {a b : List UInt8} (h : a.length = b.length) {k : Nat} (hk : k < a.length) (hc : cond a b k = true) : oneAt (mix a b k) k = false := by
  have : fixAt a k = false := by simp only [cond, Bool.and_eq_true, Bool.not_eq_true'] at hc; exact hc.1
  unfold fixAt at this
  unfold oneAt
  rw [mix_get h (by omega), if_neg (by omega)]
  simp only [Bool.or_eq_false_iff] at this
  exact this.2
theorem one_part {a b : List UInt8} (h : a.length = b.length) {k : Nat} (hk : k < a.length) (hc : cond a b k = true) : oneAt (partL a b k) = setOne (oneAt (mix a b k)) k (!oneAt b k) := by
  funext i
  by_cases e : i = k
  · subst e
    have h1 := one_mix_false h hk hc
    simp only [setOne, h1, Bool.false_or, decide_true, Bool.and_true]
    unfold oneAt
    rw [part_get h hk, if_pos rfl]
    have := turned_one b i
    unfold oneAt at this
    rw [← this]; rfl
  · simp only [setOne, e, decide_false, Bool.and_false, Bool.or_false]
    unfold oneAt
    rw [part_get h hk, if_neg e]

theorem mix_succ {a b : List UInt8} (h : a.length = b.length) {k : Nat} (hk : k < a.length) (i : Nat) : (mix a b (k + 1))[i]? = if i = k then (meetL a b)[k]? else (mix a b k)[i]? := by
  rw [mix_get h (by omega), mix_get h (by omega)]
  by_cases e : i = k
  · subst e; rw [if_pos (by omega), if_pos rfl]
  · rw [if_neg e]
    by_cases hi : i < k
    · rw [if_pos (by omega), if_pos hi]
    · rw [if_neg (by omega), if_neg hi]

theorem meet_at_free {a b : List UInt8} (ha : a.all sym = true) (h : a.length = b.length) {k : Nat} (hk : k < a.length) (hf : fixAt a k = false) : (meetL a b)[k]? = b[k]? := by
  have hk' : k < b.length := h ▸ hk
  rw [List.getElem?_eq_getElem (by rw [meetL_length h]; exact hk), meetL_at h k hk, List.getElem?_eq_getElem hk']
  rw [fixAt_lt hk] at hf
  rcases sym_at ha k hk with e | e | e <;> simp [e] at hf ⊢
theorem meet_at_fix {a b : List UInt8} (ha : a.all sym = true) (h : a.length = b.length) {k : Nat} (hk : k < a.length) (hf : fixAt a k = true) : (meetL a b)[k]? = a[k]? := by
  rw [List.getElem?_eq_getElem (by rw [meetL_length h]; exact hk), meetL_at h k hk, List.getElem?_eq_getElem hk]
  rw [fixAt_lt hk] at hf
  rcases sym_at ha k hk with e | e | e <;> simp [e] at hf ⊢

theorem fix_next {a b : List UInt8} (ha : a.all sym = true) (h : a.length = b.length) {k : Nat} (hk : k < a.length) (hc : cond a b k = true) : fixAt (mix a b (k + 1)) = updw (fixAt (mix a b k)) k := by
  have hc' := hc
  simp only [cond, Bool.and_eq_true, Bool.not_eq_true'] at hc'
  funext i
  by_cases e : i = k
  · subst e
    have : fixAt (mix a b (i + 1)) i = fixAt b i := by
      unfold fixAt; rw [mix_succ h hk, if_pos rfl, meet_at_free ha h hk hc'.1]
    rw [this, hc'.2]; simp [updw]
  · simp only [fixAt, updw, mix_succ h hk, if_neg e]; simp [e]
theorem one_next {a b : List UInt8} (ha : a.all sym = true) (h : a.length = b.length) {k : Nat} (hk : k < a.length) (hc : cond a b k = true) : oneAt (mix a b (k + 1)) = setOne (oneAt (mix a b k)) k (oneAt b k) := by
  have hc' := hc
  simp only [cond, Bool.and_eq_true, Bool.not_eq_true'] at hc'
  funext i
  by_cases e : i = k
  · subst e
    have : oneAt (mix a b (i + 1)) i = oneAt b i := by
      unfold oneAt; rw [mix_succ h hk, if_pos rfl, meet_at_free ha h hk hc'.1]
    rw [this]; simp [setOne, one_mix_false h hk hc]
  · simp only [oneAt, setOne, mix_succ h hk, if_neg e]; simp [e]
theorem mix_same {a b : List UInt8} (ha : a.all sym = true) (hb : b.all sym = true) (h : a.length = b.length) {k : Nat} (hk : k < a.length) (hc : cond a b k = false) : mix a b (k + 1) = mix a b k := by
  apply List.ext_getElem?
  intro i
  rw [mix_succ h hk]
  by_cases e : i = k
  · subst e
    rw [if_pos rfl, mix_get h (by omega), if_neg (by omega)]
    cases hf : fixAt a i with
    | true => exact meet_at_fix ha h hk hf
    | false =>
      have hfb : fixAt b i = false := by simpa [cond, hf] using hc
      have hk' : i < b.length := h ▸ hk
      rw [meet_at_free ha h hk hf, List.getElem?_eq_getElem hk', List.getElem?_eq_getElem hk]
      rw [fixAt_lt hk] at hf
      rw [fixAt_lt hk'] at hfb
      rcases sym_at ha i hk with e | e | e <;> rcases sym_at hb i hk' with f | f | f <;> simp [e, f] at hf hfb ⊢
  · rw [if_neg e]

theorem part_sym {a b : List UInt8} (ha : a.all sym = true) (hb : b.all sym = true) (h : a.length = b.length) {k : Nat} : (partL a b k).all sym = true := by
  have hm := List.all_eq_true.1 (meetL_sym ha hb h)
  have ha' := List.all_eq_true.1 ha
  rw [List.all_eq_true]
  intro x hx
  simp only [partL, List.mem_append, List.mem_singleton] at hx
  rcases hx with (hx | hx) | hx
  · exact hm x (List.mem_of_mem_take hx)
  · subst hx; rcases turned_fixed b k with f | f <;> rw [f] <;> rfl
  · exact ha' x (List.mem_of_mem_drop hx)
theorem part_right {a b : List UInt8} (ha : right a = true) (hb : right b = true) (h : a.length = b.length) {k : Nat} (hk : k < a.length) : right (partL a b k) = true := by
  obtain ⟨h1, h2, h3⟩ := right_all ha
  obtain ⟨k1, _, _⟩ := right_all hb
  simp only [right, Bool.and_eq_true, decide_eq_true_eq]
  exact ⟨⟨part_sym h1 k1 h, by rw [part_length h hk]; exact h2⟩, by rw [part_length h hk]; exact h3⟩
theorem cutTo_right {a b : List UInt8} (ha : right a = true) (hb : right b = true) (h : a.length = b.length) : ∀ k, k ≤ a.length → ∀ l ∈ cutTo a b k, right l = true ∧ l.length = a.length
  | 0, _ => by intro l hl; simp [cutTo] at hl
  | k + 1, hk => by
    intro l hl
    rw [cutTo, List.mem_append] at hl
    rcases hl with hl | hl
    · exact cutTo_right ha hb h k (by omega) l hl
    · split at hl
      · rw [List.mem_singleton] at hl; subst hl
        exact ⟨part_right ha hb h (by omega), part_length h (by omega)⟩
      · cases hl
theorem cutL_right {a b : List UInt8} (ha : right a = true) (hb : right b = true) (h : a.length = b.length) : ∀ l ∈ cutL a b, right l = true ∧ l.length = a.length := by
  intro l hl
  unfold cutL at hl
  split at hl
  · exact cutTo_right ha hb h _ (Nat.le_refl _) l hl
  · rw [List.mem_singleton] at hl; subst hl; exact ⟨ha, rfl⟩
theorem cutTo_length (a b : List UInt8) : ∀ k, (cutTo a b k).length ≤ k
  | 0 => by simp [cutTo]
  | k + 1 => by
    have := cutTo_length a b k
    rw [cutTo, List.length_append]
    split <;> simp <;> omega
theorem cutL_length {a b : List UInt8} (ha : right a = true) : (cutL a b).length ≤ 128 := by
  obtain ⟨_, h2, h3⟩ := right_all ha
  unfold cutL
  split
  · exact Nat.le_trans (cutTo_length a b _) h3
  · simp
end Cu
end Go.Proofs.YtipmlcdnfaobiaaGreat.Cub
namespace Go.Proofs.YtipmlcdnfaobiaaGreat.Cub
open Go.RowKit

/-- Ternaries one behind the other, as cells. -/
def flat (ls : List (List UInt8)) : List Value := ls.flatMap fun l => (tc l).toList
theorem flat_nil : flat [] = [] := rfl
theorem flat_append (a b : List (List UInt8)) : flat (a ++ b) = flat a ++ flat b := by simp [flat]
theorem flat_one (l : List UInt8) : flat [l] = (tc l).toList := by simp [flat]

structure CutInv (w : World) (base : Nat) (v : Value) (ts us : Array Value) (p : Value) (m : Nat) (ys : List Value) (wr : World) : Prop where
  t : wr.heap[w.heap.size]? = some (.cells ts 108 (0, 0))
  u : wr.heap[w.heap.size + 1]? = some (.cells us 108 (0, 0))
  own : wr.ownsRow base 108 4 p m ys
  grown : w.grownBy wr v.ownBlock
  place : p.ownBlock = v.ownBlock ∨ ∃ g, p.ownBlock = some g ∧ w.heap.size + 2 ≤ g
  old : ∀ g, v.ownBlock = some g → g < w.heap.size

theorem grown_through {a b c : World} {r s : Option Nat} (h : a.grownBy b r) (k : b.grownBy c s) (hs : ∀ i, i < a.heap.size → some i ≠ r → some i ≠ s) : a.grownBy c r :=
  ⟨k.os.trans h.os, k.tape.trans h.tape, k.output.trans h.output, Nat.le_trans h.size k.size, fun i hi hne => (k.block i (Nat.lt_of_lt_of_le hi h.size) (hs i hi hne)).trans (h.block i hi hne)⟩

section
variable {w : World} {base : Nat} {v : Value} {ts us : Array Value} {p : Value} {m : Nat} {ys : List Value} {wr : World}

theorem CutInv.size (h : CutInv w base v ts us p m ys wr) : w.heap.size + 2 ≤ wr.heap.size := lt_of_block h.u
theorem CutInv.ne (h : CutInv w base v ts us p m ys wr) : p.ownBlock ≠ some w.heap.size ∧ p.ownBlock ≠ some (w.heap.size + 1) := by
  rcases h.place with e | ⟨g, e, hg⟩
  · rw [e]
    exact ⟨fun f => by have := h.old _ f; omega, fun f => by have := h.old _ f; omega⟩
  · rw [e]
    exact ⟨fun f => by simp at f; omega, fun f => by simp at f; omega⟩

theorem CutInv.below (h : CutInv w base v ts us p m ys wr) {w1 : World} (hb : Below wr.heap.size wr w1) : CutInv w base v ts us p m ys w1 := {
  t := below_block hb h.t (lt_of_block h.t)
  u := below_block hb h.u (lt_of_block h.u)
  own := h.own.kept (grown_of_below none hb) (by cases p.ownBlock <;> simp)
  grown := grown_through h.grown (grown_of_below none hb) (fun i _ _ => by simp)
  place := h.place
  old := h.old }

theorem CutInv.write (h : CutInv w base v ts us p m ys wr) {w1 : World} {P : Nat} (g : wr.grownBy w1 (some P)) (hP : w.heap.size + 2 ≤ P) (hne : p.ownBlock ≠ some P) : CutInv w base v ts us p m ys w1 := {
  t := grown_block g h.t (by omega)
  u := grown_block g h.u (by omega)
  own := h.own.kept g (Or.inr hne)
  grown := grown_through h.grown g (fun i hi _ => by simp; omega)
  place := h.place
  old := h.old }

theorem CutInv.fixT (h : CutInv w base v ts us p m ys wr) {w1 : World} {ts' : Array Value} (g : wr.grownBy w1 (some w.heap.size)) (ht : w1.heap[w.heap.size]? = some (.cells ts' 108 (0, 0))) : CutInv w base v ts' us p m ys w1 := {
  t := ht
  u := grown_block g h.u (by omega)
  own := h.own.kept g (Or.inr h.ne.1)
  grown := grown_through h.grown g (fun i hi _ => by simp; omega)
  place := h.place
  old := h.old }

theorem CutInv.append (h : CutInv w base v ts us p m ys wr) {w1 : World} {p' : Value} {m' : Nat} {ys' : List Value} (hown : w1.ownsRow base 108 4 p' m' ys') (g : wr.grownBy w1 p.ownBlock)
    (hat : p'.ownBlock = p.ownBlock ∨ p'.ownBlock = some wr.heap.size) : CutInv w base v ts us p' m' ys' w1 := {
  t := (g.block _ (lt_of_block h.t) (fun e => h.ne.1 e.symm)).trans h.t
  u := (g.block _ (lt_of_block h.u) (fun e => h.ne.2 e.symm)).trans h.u
  own := hown
  grown := grown_through h.grown g (fun i hi hne => by
    rcases h.place with e | ⟨q, e, hq⟩
    · rw [e]; exact hne
    · rw [e]; simp; omega)
  place := by
    rcases hat with e | e
    · rw [e]; exact h.place
    · exact Or.inr ⟨_, e, h.size⟩
  old := h.old }
end

theorem tc_list (l : List UInt8) : (tc l).toList = [.int .u64 (Cu.wd (Cu.fixAt l) 0 : Int), .int .u64 (Cu.wd (Cu.fixAt l) 1 : Int), .int .u64 (Cu.wd (Cu.oneAt l) 0 : Int), .int .u64 (Cu.wd (Cu.oneAt l) 1 : Int)] := rfl
theorem add_zero (g j : Nat) : (⟨g, 0, none⟩ : Addr).add j = ⟨g, j, none⟩ := by
  unfold Addr.add; split <;> simp_all
/-- The cells of a block that has just been laid, one behind the other. -/
theorem new_cells (w : World) (cs : Array Value) (t : TypeId) (g : Nat) (hg : g = w.heap.size) : ∀ j u, cs.toList[j]? = some u → (w.alloc (.cells cs t)).cell? ((⟨g, 0, none⟩ : Addr).add j) = some u := by
  intro j u hj
  subst hg
  have h := new_0 w (.cells cs t)
  rw [add_zero]
  unfold World.cell?
  rw [h]
  simpa using hj
end Go.Proofs.YtipmlcdnfaobiaaGreat.Cub
