/-
  What holds in the rounds of cut: the two boxes, the row of parts, old memory.
-/
import Derived.Test.YtemmhingmeinjaaGreatDoorReadAnd
import Derived.Deep.QuietTactic
import Derived.BigQuiet
import Derived.Laws.BytesArg
import Derived.Deep.OwnRows
import Derived.Test.YtemmhingmeinjaaGreatDoorWMathAnd
import Derived.Maps.AppendAt
namespace Go.Proofs.YtemmhingmeinjaaGreatDoor.Cub
open Go.RowKit

abbrev wv (a b c d : Nat) : Value := .agg #[.int .u64 (a : Int), .int .u64 (b : Int), .int .u64 (c : Int), .int .u64 (d : Int)]
abbrev wc (a b c d : Nat) : Array Value := #[.int .u64 (a : Int), .int .u64 (b : Int), .int .u64 (c : Int), .int .u64 (d : Int)]

def prt (o p f g : Nat) : Bool := bits .and .u64 (bits .and .u64 (bits .xor .u64 (o : Int) (p : Int)) (f : Int)) (g : Int) != 0

theorem bool_two (b : Bool) : b = false ∨ b = true := by cases b <;> simp
theorem below_drewN' {B : Nat} {w w1 : World} {n : Nat} (h : Below B w w1) : Below B w (w1.drewN n) := h.trans ⟨rfl, rfl, rfl, Nat.le_refl _, fun _ _ => rfl⟩

def out1 (g f : Nat) : Bool := bits .andNot .u64 (g : Int) (f : Int) != 0
def out2 (o p g : Nat) : Bool := bits .and .u64 (bits .xor .u64 (o : Int) (p : Int)) (g : Int) != 0

set_option maxHeartbeats 1000000 in
theorem inside_words (f0 f1 o0 o1 g0 g1 p0 p1 : Nat) (w : World) :
    Calls Tryz.prog 159 #[wv f0 f1 o0 o1, wv g0 g1 p0 p1] w fun e w' =>
      e = .returned (.bool ((!out1 g0 f0 && !out2 o0 p0 g0) && (!out1 g1 f1 && !out2 o1 p1 g1))) ∧ Below w.heap.size w w' := by
  go_enter Tryz.func159, Tryz.ntmps159
  go_wp2
  go_loopw [6] (fun i wr => (i = .int .i64 0 ∨ (i = .int .i64 1 ∧ Hid (out1 g0 f0 = false ∧ out2 o0 p0 g0 = false)) ∨ (i = .int .i64 2 ∧ Hid (out1 g0 f0 = false ∧ out2 o0 p0 g0 = false) ∧ Hid (out1 g1 f1 = false ∧ out2 o1 p1 g1 = false))) ∧
      wr.heap[w.heap.size]? = some (.cells (wc f0 f1 o0 o1) 197 (0, 0)) ∧ wr.heap[w.heap.size + 1]? = some (.cells (wc g0 g1 p0 p1) 197 (0, 0)) ∧ Below w.heap.size w wr)
    (fun i _ => 2 - (intOf i).toNat)
  case atStart =>
    exact ⟨Or.inl rfl, new_old _ _ (new_0 _ _), new_1 _ _ _, ((Below.refl _ _).alloc (Nat.le_refl _) _).alloc (by simp) _⟩
  case round =>
    obtain ⟨hi, h0, h1, hb⟩ := hrel
    obtain ⟨t0, t1, t2, t3⟩ := four_cell h0
    obtain ⟨u0, u1, u2, u3⟩ := four_cell h1
    have H0 : Hid _ := h0
    have H1 : Hid _ := h1
    clear h0 h1
    rcases hi with rfl | ⟨rfl, hx0⟩ | ⟨rfl, hx0, hx1⟩
    · rcases bool_two (out1 g0 f0) with hx | hx
      · have hx' : (bits .andNot .u64 (g0 : Int) (f0 : Int) != 0) = false := hx
        have HX : Hid (out1 g0 f0 = false) := hx
        clear hx
        go_wp2
        go_quiet (fail)
        rcases bool_two (out2 o0 p0 g0) with hy | hy
        · have hy' : (bits .and .u64 (bits .xor .u64 (o0 : Int) (p0 : Int)) (g0 : Int) != 0) = false := hy
          have HY : Hid (out2 o0 p0 g0 = false) := hy
          clear hy
          go_wp2
          go_roundw
          case rel => exact ⟨Or.inr (Or.inl ⟨rfl, HX.out, HY.out⟩), H0.out, H1.out, below_drewN' hb⟩
          case measure => simp [intOf]
        · have hy' : (bits .and .u64 (bits .xor .u64 (o0 : Int) (p0 : Int)) (g0 : Int) != 0) = true := hy
          have HY : Hid (out2 o0 p0 g0 = true) := hy
          clear hy
          go_wp2
          go_ret
          refine ⟨?_, below_drewN' hb⟩
          rw [HY.out]; simp
      · have hx' : (bits .andNot .u64 (g0 : Int) (f0 : Int) != 0) = true := hx
        have HX : Hid (out1 g0 f0 = true) := hx
        clear hx
        go_wp2
        go_quiet (fail)
        go_wp2
        go_ret
        refine ⟨?_, below_drewN' hb⟩
        rw [HX.out]; simp
    · rcases bool_two (out1 g1 f1) with hx | hx
      · have hx' : (bits .andNot .u64 (g1 : Int) (f1 : Int) != 0) = false := hx
        have HX : Hid (out1 g1 f1 = false) := hx
        clear hx
        go_wp2
        go_quiet (fail)
        rcases bool_two (out2 o1 p1 g1) with hy | hy
        · have hy' : (bits .and .u64 (bits .xor .u64 (o1 : Int) (p1 : Int)) (g1 : Int) != 0) = false := hy
          have HY : Hid (out2 o1 p1 g1 = false) := hy
          clear hy
          go_wp2
          go_roundw
          case rel => exact ⟨Or.inr (Or.inr ⟨rfl, hx0, HX.out, HY.out⟩), H0.out, H1.out, below_drewN' hb⟩
          case measure => simp [intOf]
        · have hy' : (bits .and .u64 (bits .xor .u64 (o1 : Int) (p1 : Int)) (g1 : Int) != 0) = true := hy
          have HY : Hid (out2 o1 p1 g1 = true) := hy
          clear hy
          go_wp2
          go_ret
          refine ⟨?_, below_drewN' hb⟩
          rw [HY.out]; simp
      · have hx' : (bits .andNot .u64 (g1 : Int) (f1 : Int) != 0) = true := hx
        have HX : Hid (out1 g1 f1 = true) := hx
        clear hx
        go_wp2
        go_quiet (fail)
        go_wp2
        go_ret
        refine ⟨?_, below_drewN' hb⟩
        rw [HX.out]; simp
    · go_wp2
      go_ret
      refine ⟨?_, hb⟩
      rw [hx0.out.1, hx0.out.2, hx1.out.1, hx1.out.2]; rfl
end Go.Proofs.YtemmhingmeinjaaGreatDoor.Cub
namespace Go.Proofs.YtemmhingmeinjaaGreatDoor.Cub
open Go.RowKit

end Go.Proofs.YtemmhingmeinjaaGreatDoor.Cub
namespace Go.Proofs.YtemmhingmeinjaaGreatDoor.Cub
open Go.RowKit

theorem all128 {f : Nat → Bool} (hf : ∀ i, 128 ≤ i → f i = false) : (∀ i, f i = false) ↔ (∀ i, i < 64 → f (64 * 0 + i) = false) ∧ (∀ i, i < 64 → f (64 * 1 + i) = false) := by
  constructor
  · intro H; exact ⟨fun i _ => H _, fun i _ => H _⟩
  · rintro ⟨h0, h1⟩ i
    by_cases a : i < 64
    · have := h0 i a; simpa using this
    · by_cases b : i < 128
      · have := h1 (i - 64) (by omega); rw [show 64 * 1 + (i - 64) = i from by omega] at this; exact this
      · exact hf i (by omega)

theorem out1_eq (g f : Nat) (hg : g < 18446744073709551616) (hf : f < 18446744073709551616) : out1 g f = decide (¬ (g &&& (18446744073709551615 - f) = 0)) := by
  unfold out1
  rw [u64_andNot_nat _ _ hg hf, Bool.eq_iff_iff]
  simp only [bne_iff_ne, ne_eq, decide_eq_true_eq]
  omega
theorem out2_eq (o p g : Nat) (ho : o < 18446744073709551616) (hp : p < 18446744073709551616) (hg : g < 18446744073709551616) : out2 o p g = decide (¬ ((o ^^^ p) &&& g = 0)) := by
  unfold out2
  rw [u64_xor_nat _ _ ho hp, u64_and_nat _ _ (Cu.xor_lt ho hp) hg, Bool.eq_iff_iff]
  simp only [bne_iff_ne, ne_eq, decide_eq_true_eq]
  omega
theorem testBit_not64 (f i : Nat) (hf : f < 18446744073709551616) : (18446744073709551615 - f).testBit i = (decide (i < 64) && !f.testBit i) := by
  have : 18446744073709551615 - f = 2 ^ 64 - (f + 1) := by omega
  rw [this, Nat.testBit_two_pow_sub_succ hf]

theorem nout (a b : List UInt8) (k : Nat) : (!out1 (Cu.wd (Cu.fixAt b) k) (Cu.wd (Cu.fixAt a) k) && !out2 (Cu.wd (Cu.oneAt a) k) (Cu.wd (Cu.oneAt b) k) (Cu.wd (Cu.fixAt b) k)) = true ↔ ∀ i, i < 64 → Cu.outAt a b (64 * k + i) = false := by
  rw [out1_eq _ _ (Cu.wd_lt _ _) (Cu.wd_lt _ _), out2_eq _ _ _ (Cu.wd_lt _ _) (Cu.wd_lt _ _) (Cu.wd_lt _ _)]
  simp only [Bool.and_eq_true, Bool.not_eq_true', decide_eq_false_iff_not, Decidable.not_not]
  rw [Cu.and_ne_zero, Cu.and_ne_zero]
  constructor
  · rintro ⟨H1, H2⟩ i hi
    have e1 := H1 i
    have e2 := H2 i
    rw [testBit_not64 _ _ (Cu.wd_lt _ _), Cu.testBit_wd, Cu.testBit_wd] at e1
    rw [Nat.testBit_xor, Cu.testBit_wd, Cu.testBit_wd, Cu.testBit_wd] at e2
    simp only [hi, decide_true, Bool.true_and] at e1 e2
    unfold Cu.outAt
    cases h1 : Cu.fixAt b (64 * k + i) <;> cases h2 : Cu.fixAt a (64 * k + i) <;> simp_all
  · intro H
    refine ⟨fun i => ?_, fun i => ?_⟩
    · rw [testBit_not64 _ _ (Cu.wd_lt _ _), Cu.testBit_wd, Cu.testBit_wd]
      by_cases hi : i < 64
      · have := H i hi
        unfold Cu.outAt at this
        cases h1 : Cu.fixAt b (64 * k + i) <;> cases h2 : Cu.fixAt a (64 * k + i) <;> simp_all
      · simp [hi]
    · rw [Nat.testBit_xor, Cu.testBit_wd, Cu.testBit_wd, Cu.testBit_wd]
      by_cases hi : i < 64
      · have := H i hi
        unfold Cu.outAt at this
        cases h1 : Cu.fixAt b (64 * k + i) <;> cases h2 : Cu.fixAt a (64 * k + i) <;> simp_all
      · simp [hi]

theorem inside_any (a b : List UInt8) (w : World) (ha : Cu.right a = true) (hb : Cu.right b = true) (h : a.length = b.length) :
    Calls Tryz.prog 159 #[tv a, tv b] w fun e w' => e = .returned (.bool (Cu.insideB a b)) ∧ Below w.heap.size w w' := by
  have e : ((!out1 (Cu.wd (Cu.fixAt b) 0) (Cu.wd (Cu.fixAt a) 0) && !out2 (Cu.wd (Cu.oneAt a) 0) (Cu.wd (Cu.oneAt b) 0) (Cu.wd (Cu.fixAt b) 0)) && (!out1 (Cu.wd (Cu.fixAt b) 1) (Cu.wd (Cu.fixAt a) 1) && !out2 (Cu.wd (Cu.oneAt a) 1) (Cu.wd (Cu.oneAt b) 1) (Cu.wd (Cu.fixAt b) 1))) = Cu.insideB a b := by
    obtain ⟨h1, h2, h3⟩ := Cu.right_all ha
    obtain ⟨k1, _, _⟩ := Cu.right_all hb
    rw [Bool.eq_iff_iff, Bool.and_eq_true, nout, nout, Cu.insideB_iff h1 k1 h]
    refine (all128 fun i hi => ?_).symm
    unfold Cu.outAt
    rw [Cu.fixAt_ge (l := b) (by omega)]; simp
  rw [← e]
  exact inside_words _ _ _ _ _ _ _ _ w

end Go.Proofs.YtemmhingmeinjaaGreatDoor.Cub
namespace Go.Proofs.YtemmhingmeinjaaGreatDoor.Cub
open Go.RowKit

theorem Tryz.infoByte : (Tryz.prog.info? 5).map (fun i => (i.zero, i.size, i.bytes)) = some (some (.int .u8 0), 1, 1) := by kernel_rfl

end Go.Proofs.YtemmhingmeinjaaGreatDoor.Cub
namespace Go.Proofs.YtemmhingmeinjaaGreatDoor.Cub
open Go.RowKit

def two (a b : ByteArray) (i : Nat) : ByteArray := if i = 0 then a else b

theorem two_cells (w : World) (a b : ByteArray) : ∀ i, i < 2 → (w.alloc (.cells #[.string a, .string b] 9)).cell? ⟨w.heap.size, 0 + i, none⟩ = some (.string (two a b i)) := by
  intro i hi
  have h := new_0 w (.cells #[.string a, .string b] 9)
  have : i = 0 ∨ i = 1 := by omega
  unfold World.cell?
  rcases this with rfl | rfl <;> (rw [h]; rfl)
theorem two_0 (a b : ByteArray) : two a b 0 = a := rfl
theorem two_1 (a b : ByteArray) : two a b 1 = b := rfl
theorem two_right {a b : ByteArray} (ha : Cu.right a.data.toList = true) (hb : Cu.right b.data.toList = true) : ∀ i, i < 2 → Cu.right (by_ (two a b) i) = true := by
  intro i hi
  have : i = 0 ∨ i = 1 := by omega
  rcases this with rfl | rfl
  · exact ha
  · exact hb
theorem two_size {a b : ByteArray} (hs : a.size = b.size) : ∀ i, i < 2 → (two a b i).size = (two a b 0).size := by
  intro i hi
  have : i = 0 ∨ i = 1 := by omega
  rcases this with rfl | rfl
  · rfl
  · exact hs.symm

def err2 (a b : ByteArray) : Int := if Cu.right a.data.toList = true ∧ Cu.right b.data.toList = true then (if a.size = b.size then 0 else 11) else 10

theorem read2_bad (a b : ByteArray) (w : World) (h : err2 a b ≠ 0) :
    Calls Tryz.prog 92 #[.slice (some ⟨w.heap.size, 0, none⟩) 2 2] (w.alloc (.cells #[.string a, .string b] 9)) fun e w' =>
      e = .returned (.tuple #[.slice none 0 0, .int .i64 (err2 a b)]) ∧ Below w.heap.size w w' := by
  have hB : Below w.heap.size w (w.alloc (.cells #[.string a, .string b] 9)) := (Below.refl _ _).alloc (Nat.le_refl _) _
  by_cases ha : Cu.right a.data.toList = true
  · by_cases hb : Cu.right b.data.toList = true
    · have hs : a.size ≠ b.size := by
        intro e; apply h; unfold err2; rw [if_pos ⟨ha, hb⟩, if_pos e]
      have he : err2 a b = 11 := by unfold err2; rw [if_pos ⟨ha, hb⟩, if_neg hs]
      rw [he]
      refine (read_width (two a b) 2 w.heap.size 0 2 _ (by simp) (two_cells w a b) (by omega) (by omega) (two_right ha hb) 1 (by omega) ?_).mono ?_
      · rw [two_0, two_1]; exact fun e => hs e.symm
      · rintro e w' ⟨rfl, hb'⟩
        exact ⟨rfl, hB.trans (hb'.mono (by simp))⟩
    · have he : err2 a b = 10 := by unfold err2; rw [if_neg (fun h => hb h.2)]
      rw [he]
      refine (read_wrong (two a b) 2 w.heap.size 0 2 _ (by simp) (two_cells w a b) (by omega) (by omega) 1 (by omega) ?_ ?_).mono ?_
      · intro i hi
        have : i = 0 := by omega
        subst this; exact ha
      · exact Bool.eq_false_iff.2 hb
      · rintro e w' ⟨rfl, hb'⟩
        exact ⟨rfl, hB.trans (hb'.mono (by simp))⟩
  · have he : err2 a b = 10 := by unfold err2; rw [if_neg (fun h => ha h.1)]
    rw [he]
    refine (read_wrong (two a b) 2 w.heap.size 0 2 _ (by simp) (two_cells w a b) (by omega) (by omega) 0 (by omega) ?_ ?_).mono ?_
    · intro i hi; omega
    · exact Bool.eq_false_iff.2 ha
    · rintro e w' ⟨rfl, hb'⟩
      exact ⟨rfl, hB.trans (hb'.mono (by simp))⟩

def eight (w : World) (g : Nat) (a b : List UInt8) : Prop :=
  (w.cell? ⟨g, 0, none⟩ = some (.int .u64 (Cu.wd (Cu.fixAt a) 0 : Int)) ∧ w.cell? ⟨g, 1, none⟩ = some (.int .u64 (Cu.wd (Cu.fixAt a) 1 : Int)) ∧ w.cell? ⟨g, 2, none⟩ = some (.int .u64 (Cu.wd (Cu.oneAt a) 0 : Int)) ∧ w.cell? ⟨g, 3, none⟩ = some (.int .u64 (Cu.wd (Cu.oneAt a) 1 : Int))) ∧
  (w.cell? ⟨g, 4, none⟩ = some (.int .u64 (Cu.wd (Cu.fixAt b) 0 : Int)) ∧ w.cell? ⟨g, 5, none⟩ = some (.int .u64 (Cu.wd (Cu.fixAt b) 1 : Int)) ∧ w.cell? ⟨g, 6, none⟩ = some (.int .u64 (Cu.wd (Cu.oneAt b) 0 : Int)) ∧ w.cell? ⟨g, 7, none⟩ = some (.int .u64 (Cu.wd (Cu.oneAt b) 1 : Int)))
theorem eight_of {w : World} {g : Nat} {cs : Array Value} {L : Nat → List UInt8} (h : w.heap[g]? = some (.cells cs 197 (0, 0))) (hl : lie cs 2 L) : eight w g (L 0) (L 1) := by
  have a0 := hl 0 (by omega) 0 (by omega)
  have a1 := hl 0 (by omega) 1 (by omega)
  have a2 := hl 0 (by omega) 2 (by omega)
  have a3 := hl 0 (by omega) 3 (by omega)
  have b0 := hl 1 (by omega) 0 (by omega)
  have b1 := hl 1 (by omega) 1 (by omega)
  have b2 := hl 1 (by omega) 2 (by omega)
  have b3 := hl 1 (by omega) 3 (by omega)
  simp only [c4] at a0 a1 a2 a3 b0 b1 b2 b3
  simp [eight, World.cell?, h, a0, a1, a2, a3, b0, b1, b2, b3]
theorem eight_below {B : Nat} {w w' : World} {g : Nat} {a b : List UInt8} (h : eight w g a b) (hb : Below B w w') (hg : g < B) : eight w' g a b := by
  unfold eight
  rw [hb.cell (by exact hg), hb.cell (by exact hg), hb.cell (by exact hg), hb.cell (by exact hg), hb.cell (by exact hg), hb.cell (by exact hg), hb.cell (by exact hg), hb.cell (by exact hg)]
  exact h

theorem read2_ok (a b : ByteArray) (w : World) (ha : Cu.right a.data.toList = true) (hb : Cu.right b.data.toList = true) (hs : a.size = b.size) :
    Calls Tryz.prog 92 #[.slice (some ⟨w.heap.size, 0, none⟩) 2 2] (w.alloc (.cells #[.string a, .string b] 9)) fun e w' =>
      e = .returned (.tuple #[.slice (some ⟨w.heap.size + 3, 0, none⟩) 2 2, .int .i64 0]) ∧ eight w' (w.heap.size + 3) a.data.toList b.data.toList ∧ w.heap.size + 3 < w'.heap.size ∧ Below w.heap.size w w' := by
  have hB : Below w.heap.size w (w.alloc (.cells #[.string a, .string b] 9)) := (Below.refl _ _).alloc (Nat.le_refl _) _
  have := read_right (two a b) 2 w.heap.size 0 2 _ (by simp) (two_cells w a b) (by omega) (by omega) (two_right ha hb) (two_size hs)
  simp only [World.size_alloc] at this
  refine this.mono ?_
  rintro e w' ⟨rfl, ⟨cs, h2, _, hl⟩, hb'⟩
  have h8 := eight_of h2 hl
  rw [show by_ (two a b) 0 = a.data.toList from rfl, show by_ (two a b) 1 = b.data.toList from rfl] at h8
  exact ⟨rfl, h8, lt_of_block h2, hB.trans (hb'.mono (by simp))⟩
end Go.Proofs.YtemmhingmeinjaaGreatDoor.Cub
namespace Go.Proofs.YtemmhingmeinjaaGreatDoor.Cub
open Go.RowKit
attribute [local go_sem ↓] Go.wp_at_zero Go.wp_at_succ

set_option maxHeartbeats 400000 in
theorem Inside_bad (a b : ByteArray) (w : World) (h : err2 a b ≠ 0) :
    Calls Tryz.prog 127 #[.string a, .string b] w fun e w' => e = .returned (.tuple #[.bool false, .int .i64 (err2 a b)]) ∧ Below w.heap.size w w' := by
  have hne : (err2 a b != 0) = true := by rw [bne_iff_ne]; exact h
  have H : Hid (err2 a b ≠ 0) := h
  clear h
  go_enter Tryz.func127, Tryz.ntmps127
  go_wp2_with fail
  refine (read2_bad a b w H.out).mono ?_
  rintro e w1 ⟨rfl, hb1⟩
  go_wp2
  go_ret2
  exact ⟨rfl, hb1⟩

set_option maxHeartbeats 1000000 in
theorem Inside_ok (a b : ByteArray) (w : World) (ha : Cu.right a.data.toList = true) (hb : Cu.right b.data.toList = true) (hs : a.size = b.size) :
    Calls Tryz.prog 127 #[.string a, .string b] w fun e w' => e = .returned (.tuple #[.bool (Cu.insideB a.data.toList b.data.toList), .int .i64 0]) ∧ Below w.heap.size w w' := by
  have HA : Hid (Cu.right a.data.toList = true) := ha
  have HB : Hid (Cu.right b.data.toList = true) := hb
  have HS : Hid (a.size = b.size) := hs
  clear ha hb hs
  go_enter Tryz.func127, Tryz.ntmps127
  go_wp2_with fail
  refine (read2_ok a b w HA.out HB.out HS.out).mono ?_
  rintro e w1 ⟨rfl, h8, hg, hb1⟩
  have H8 : Hid _ := h8
  obtain ⟨⟨a0, a1, a2, a3⟩, b0, b1, b2, b3⟩ := h8
  go_wp2_with fail
  go_region_held3 (fun w' => (w'.cell? ⟨w.heap.size + 3, 0, none⟩ = some (.int .u64 (Cu.wd (Cu.fixAt a.data.toList) 0 : Int)) ∧ w'.cell? ⟨w.heap.size + 3, 1, none⟩ = some (.int .u64 (Cu.wd (Cu.fixAt a.data.toList) 1 : Int)) ∧ w'.cell? ⟨w.heap.size + 3, 2, none⟩ = some (.int .u64 (Cu.wd (Cu.oneAt a.data.toList) 0 : Int)) ∧ w'.cell? ⟨w.heap.size + 3, 3, none⟩ = some (.int .u64 (Cu.wd (Cu.oneAt a.data.toList) 1 : Int))) ∧ (w'.cell? ⟨w.heap.size + 3, 4, none⟩ = some (.int .u64 (Cu.wd (Cu.fixAt b.data.toList) 0 : Int)) ∧ w'.cell? ⟨w.heap.size + 3, 5, none⟩ = some (.int .u64 (Cu.wd (Cu.fixAt b.data.toList) 1 : Int)) ∧ w'.cell? ⟨w.heap.size + 3, 6, none⟩ = some (.int .u64 (Cu.wd (Cu.oneAt b.data.toList) 0 : Int)) ∧ w'.cell? ⟨w.heap.size + 3, 7, none⟩ = some (.int .u64 (Cu.wd (Cu.oneAt b.data.toList) 1 : Int)))) (first | (go_keep; done) | exact h82) (first | (go_at_call 159; refine (inside_any a.data.toList b.data.toList _ HA.out HB.out HS.out).mono ?_; rintro e w2 ⟨rfl, hb2⟩; have h82 : eight w2 (w.heap.size + 3) a.data.toList b.data.toList := eight_below H8.out (undrew hb2) hg))
  go_wp2
  go_ret2
  exact ⟨rfl, hb1.trans ((undrew hb2).mono hb1.size)⟩

end Go.Proofs.YtemmhingmeinjaaGreatDoor.Cub
namespace Go.Proofs.YtemmhingmeinjaaGreatDoor.Cub
namespace Cu

end Cu
end Go.Proofs.YtemmhingmeinjaaGreatDoor.Cub
namespace Go.Proofs.YtemmhingmeinjaaGreatDoor.Cub
open Go.RowKit

theorem grown_through {a b c : World} {r s : Option Nat} (h : a.grownBy b r) (k : b.grownBy c s) (hs : ∀ i, i < a.heap.size → some i ≠ r → some i ≠ s) : a.grownBy c r :=
  ⟨k.os.trans h.os, k.tape.trans h.tape, k.output.trans h.output, Nat.le_trans h.size k.size, fun i hi hne => (k.block i (Nat.lt_of_lt_of_le hi h.size) (hs i hi hne)).trans (h.block i hi hne)⟩

section
variable {w : World} {base : Nat} {v : Value} {ts us : Array Value} {p : Value} {m : Nat} {ys : List Value} {wr : World}

end

theorem add_zero (g j : Nat) : (⟨g, 0, none⟩ : Addr).add j = ⟨g, j, none⟩ := by
  unfold Addr.add; split <;> simp_all
theorem new_cells (w : World) (cs : Array Value) (t : TypeId) (g : Nat) (hg : g = w.heap.size) : ∀ j u, cs.toList[j]? = some u → (w.alloc (.cells cs t)).cell? ((⟨g, 0, none⟩ : Addr).add j) = some u := by
  intro j u hj
  subst hg
  have h := new_0 w (.cells cs t)
  rw [add_zero]
  unfold World.cell?
  rw [h]
  simpa using hj
end Go.Proofs.YtemmhingmeinjaaGreatDoor.Cub
