/-
  Meet and Inside of two texts.
  Meet: what two texts have in common.
  text: the text of a ternary.
  The methods of a ternary, said of lists of bytes: meets, inside, meet.
  What the methods of a ternary do: meet.
  What the methods of a ternary do: meets, inside.
  read: a text that is no cube: the panic of mustBeCube, caught.
-/
import Derived.Test.YtipmlcdnfaobiaaGreatMathAnd
import Derived.Deep.QuietTactic
import Derived.BigQuiet
import Derived.Laws.BytesArg
import Derived.Deep.OwnRows
namespace Go.Proofs.YtipmlcdnfaobiaaGreat.Cub
open Go.RowKit

/-- What is left of a region that can only panic: the panic, the deferred call, the two slots that are read behind it, and the world. -/
def PanicOnly (D : List Deferred) (p2 p3 : Value) (wr : World) : Exit → Act → World → Prop
  | .panic c, a, w => c = noCube ∧ a.defers = D ∧ a.tmps[2]? = some p2 ∧ a.tmps[3]? = some p3 ∧ Below wr.heap.size wr w
  | _, _, _ => False
theorem PanicOnly.stable (D : List Deferred) (p2 p3 : Value) (wr : World) (d : Tmp) (v : Value) (h2 : d ≠ 2) (h3 : d ≠ 3) (c : List PanicEntry) (a : Act) (w : World)
    (h : PanicOnly D p2 p3 wr (.panic c) (a.put (some d) v) w) : PanicOnly D p2 p3 wr (.panic c) a w := by
  obtain ⟨e1, e2, e3, e4, e5⟩ := h
  refine ⟨e1, e2, ?_, ?_, e5⟩
  · simpa [Act.put, Array.getElem?_setIfInBounds_ne h2] using e3
  · simpa [Act.put, Array.getElem?_setIfInBounds_ne h3] using e4

set_option maxHeartbeats 1000000 in
theorem read_wrong (S : Nat → ByteArray) (n b o cap : Nat) (w : World) (hb : b < w.heap.size) (hc : ∀ i, i < n → w.cell? ⟨b, o + i, none⟩ = some (.string (S i)))
    (hn0 : 0 < n) (hn : n ≤ 1000000) (m : Nat) (hm : m < n) (hr : ∀ i, i < m → Cu.right (by_ S i) = true) (hw : Cu.right (by_ S m) = false) :
    Calls Tryz.prog 58 #[.slice (some ⟨b, o, none⟩) n cap] w fun e w' =>
      e = .returned (.tuple #[.slice none 0 0, .int .i64 10]) ∧ Below w.heap.size w w' := by
  have HC : Hid (∀ i, i < n → w.cell? ⟨b, o + i, none⟩ = some (.string (S i))) := hc
  have HR : Hid (∀ i, i < m → Cu.right (by_ S i) = true) := hr
  have HW : Hid (Cu.right (by_ S m) = false) := hw
  clear hc hr hw
  have hmf : ∀ (fn : Fn) (first cap : Array Value) (w : World), (Instr.makeFunc fn first cap).run Tryz.prog w = .ok (.func fn first cap) w := fun _ _ _ _ => rfl
  have hmk := run_made n hn
  go_enter_defers Tryz.func58, Tryz.ntmps58
  go_wp2
  go_loopw [14] (fun i wr => ∃ k : Nat, k ≤ m ∧ i = .int .i64 k ∧ wr.heap[w.heap.size]? = some (.cells #[.slice (some ⟨w.heap.size + 2, 0, none⟩) n n] 101 (0, 0)) ∧
      wr.heap[w.heap.size + 1]? = some (.cells #[.int .i64 0] 33 (0, 0)) ∧
      (∃ cs, wr.heap[w.heap.size + 2]? = some (.cells cs 108 (0, 0)) ∧ cs.size = n * 4 ∧ lie cs k (by_ S)) ∧ Below w.heap.size w wr)
    (fun i _ => n - (intOf i).toNat)
  case atStart =>
    have R := start_three w (.cells #[.slice (some ⟨w.heap.size + 2, 0, none⟩) n n] 101 (0, 0)) (.cells #[.int .i64 0] 33 (0, 0)) (.cells (made n) 108 (0, 0))
    exact ⟨0, Nat.zero_le _, rfl, R.1, R.2.1, ⟨made n, R.2.2.1, made_size n, lie_zero _ _⟩, R.2.2.2⟩
  case round =>
    obtain ⟨k, hk, rfl, h0, h1, ⟨cs, h2, hsz, hlie⟩, hbl⟩ := hrel
    have H1 : Hid _ := h1
    have H2 : Hid _ := h2
    have H0 : Hid _ := h0
    have hs1 := hbl.size
    have c0 := cell_of_one h0
    have hlt0 := lt_of_block h2
    have hlt : k < n := by omega
    by_cases hkm : k < m
    · have hck : wr.cell? ⟨b, o + k, none⟩ = some (.string (S k)) := by rw [hbl.cell (by exact hb)]; exact HC.out k hlt
      have hkI : (0 : Int) ≤ (k : Int) := by omega
      have hkI2 : (k : Int) < (n : Int) := by omega
      clear h0 h1 h2
      go_wp2_with fail
      go_region_held3 (fun w' => w'.cell? ⟨w.heap.size, 0, none⟩ = some (.slice (some ⟨w.heap.size + 2, 0, none⟩) n n)) (first | (go_keep; done) | exact hc1) (first | (go_at_call 79; refine (must_right' (S k) _ (HR.out k hkm)).mono ?_; rintro e w1 ⟨rfl, hb1⟩; have hc1 : w1.cell? ⟨w.heap.size, 0, none⟩ = some (.slice (some ⟨w.heap.size + 2, 0, none⟩) n n) := (by rw [hb1.cell (by show w.heap.size < wr.heap.size; omega)]; exact c0); obtain ⟨⟨v0, q0⟩, ⟨v1, q1⟩, ⟨v2, q2⟩, ⟨v3, q3⟩, f0, f1, f2, f3⟩ := four_at (below_block hb1 (k := w.heap.size + 2) H2.out (by show w.heap.size + 2 < wr.heap.size; omega)) (x := k * 4) (by omega)))
      go_wp2
      go_roundw
      case rel =>
        have R := rel_step S H0.out H1.out H2.out hsz hlie hlt hbl (undrew hb1)
        exact ⟨k + 1, by omega, by go_num, R.1, R.2.1, R.2.2.1, R.2.2.2⟩
      case measure => simp [intOf]; omega
    · have hkn : k = m := by omega
      subst hkn
      have f0 : wr.frozen? ⟨w.heap.size, 0, none⟩ = false := free_of h0
      have f1 : wr.frozen? ⟨w.heap.size + 1, 0, none⟩ = false := free_of h1
      have c1 := cell_of_one h1
      have hck : wr.cell? ⟨b, o + k, none⟩ = some (.string (S k)) := by rw [hbl.cell (by exact hb)]; exact HC.out k hlt
      have hkI : (0 : Int) ≤ (k : Int) := by omega
      have hkI2 : (k : Int) < (n : Int) := by omega
      clear h0 h1 h2
      go_wp2_with fail
      refine Code.wp_mono (Q := PanicOnly [{ target := Target.fn (Fn.func 78) #[.pointer (some ⟨w.heap.size, 0, none⟩), .pointer (some ⟨w.heap.size + 1, 0, none⟩)], args := #[] }] (.pointer (some ⟨w.heap.size, 0, none⟩)) (.pointer (some ⟨w.heap.size + 1, 0, none⟩)) wr) ?_ ?_
      · intro e a w2 hq
        cases e with
        | panic c =>
          obtain ⟨rfl, hd, hp2, hp3, hbw⟩ := hq
          show Leaves Tryz.prog Tryz.f58 a.tmps _ a.defers (.panicking noCube) w2
          rw [hd]
          have g0 := below_block hbw H0.out (lt_of_block H0.out)
          have g1 := below_block hbw H1.out (lt_of_block H1.out)
          refine leaves_cons (f := 78) (args := #[.pointer (some ⟨w.heap.size, 0, none⟩), .pointer (some ⟨w.heap.size + 1, 0, none⟩)]) (by simp) (by simp [go_sem]) ?_
          refine (catch_panicking ⟨w.heap.size, 0, none⟩ ⟨w.heap.size + 1, 0, none⟩ _ _ (.int .i64 10) [] w2 (cell_of_one g0) (free_of g0) (cell_of_one g1) (free_of g1) (by simp)).mono ?_
          rintro e u' w3 ⟨rfl, rfl, rfl⟩
          refine ⟨.tuple #[.slice none 0 0, .int .i64 10], ?_, rfl, ?_⟩
          · have k0 : ((w2.setCell ⟨w.heap.size, 0, none⟩ (.slice none 0 0)).setCell ⟨w.heap.size + 1, 0, none⟩ (.int .i64 10)).cell? ⟨w.heap.size, 0, none⟩ = some (.slice none 0 0) := by
              rw [World.cell?_setCell_other _ _ _ _ (by simp)]; exact World.cell?_setCell_same _ _ _ (cell_of_one g0)
            have k1 : ((w2.setCell ⟨w.heap.size, 0, none⟩ (.slice none 0 0)).setCell ⟨w.heap.size + 1, 0, none⟩ (.int .i64 10)).cell? ⟨w.heap.size + 1, 0, none⟩ = some (.int .i64 10) := by
              refine World.cell?_setCell_same _ _ _ (u := .int .i64 0) ?_
              rw [World.cell?_setCell_other _ _ _ _ (by simp)]; exact cell_of_one g1
            simp [results, Tryz.results58, go_sem, hp2, hp3, k0, k1]
          · exact ((hbl.trans (hbw.mono hs1)).setCell (by simp) _).setCell (by simp) _
        | normal => exact hq.elim
        | ret => exact hq.elim
        | exit _ => exact hq.elim
        | goto _ => exact hq.elim
        | outgrown => exact hq.elim
      · refine wp_region_any (by kernel_rfl) ?_
        change wpAny _ _ _ _ _ _ _ (World.drew _)
        refine wpAny_take (i := 1) (v := .int .i64 (k : Int)) rfl (by kernel_rfl) (by kernel_rfl) (by kernel_rfl) (fun c a w h => PanicOnly.stable _ _ _ _ 20 _ (by decide) (by decide) c a w h) (Or.inl ⟨by rfl, fun w => by go_simp⟩) ?_
        refine wpAny_take (i := 2) (v := .string (S k)) rfl (by kernel_rfl) (by kernel_rfl) (by kernel_rfl) (fun c a w h => PanicOnly.stable _ _ _ _ 21 _ (by decide) (by decide) c a w h) (Or.inl ⟨by rfl, fun w => by go_simp⟩) ?_
        refine wpAny_ready (rs := [0, 3]) (by kernel_rfl) (by simp) ?_
        refine AllReady.cons rfl (fun K hK => ?_) ?_
        · go_simp
          refine hK _ _ ?_
          clear hK K
          refine wpAny_ready (rs := [3]) (by kernel_rfl) (by simp) ?_
          refine AllReady.cons rfl (fun K hK => ?_) AllReady.nil
          go_simp
          refine (must_wrong (S k) _ HW.out).mono ?_
          rintro e w1 ⟨rfl, hb1⟩
          exact ⟨rfl, rfl, rfl, rfl, undrew hb1⟩
        · refine AllReady.cons rfl (fun K hK => ?_) AllReady.nil
          go_simp
          refine (must_wrong (S k) _ HW.out).mono ?_
          rintro e w1 ⟨rfl, hb1⟩
          exact ⟨rfl, rfl, rfl, rfl, undrew hb1⟩
end Go.Proofs.YtipmlcdnfaobiaaGreat.Cub
namespace Go.Proofs.YtipmlcdnfaobiaaGreat.Cub
open Go.RowKit

/-- A ternary's value out of four words. -/
abbrev wv (a b c d : Nat) : Value := .agg #[.int .u64 (a : Int), .int .u64 (b : Int), .int .u64 (c : Int), .int .u64 (d : Int)]
abbrev wc (a b c d : Nat) : Array Value := #[.int .u64 (a : Int), .int .u64 (b : Int), .int .u64 (c : Int), .int .u64 (d : Int)]

/-- Do two words of two ternaries part? In the walk's spelling. -/
def prt (o p f g : Nat) : Bool := bits .and .u64 (bits .and .u64 (bits .xor .u64 (o : Int) (p : Int)) (f : Int)) (g : Int) != 0

theorem bool_two (b : Bool) : b = false ∨ b = true := by cases b <;> simp
theorem below_drewN' {B : Nat} {w w1 : World} {n : Nat} (h : Below B w w1) : Below B w (w1.drewN n) := h.trans ⟨rfl, rfl, rfl, Nat.le_refl _, fun _ _ => rfl⟩

set_option maxHeartbeats 1000000 in
theorem meets_words (f0 f1 o0 o1 g0 g1 p0 p1 : Nat) (w : World) :
    Calls Tryz.prog 107 #[wv f0 f1 o0 o1, wv g0 g1 p0 p1] w fun e w' =>
      e = .returned (.bool (!prt o0 p0 f0 g0 && !prt o1 p1 f1 g1)) ∧ Below w.heap.size w w' := by
  go_enter Tryz.func107, Tryz.ntmps107
  go_wp2
  go_loopw [6] (fun i wr => (i = .int .i64 0 ∨ (i = .int .i64 1 ∧ Hid (prt o0 p0 f0 g0 = false)) ∨ (i = .int .i64 2 ∧ Hid (prt o0 p0 f0 g0 = false) ∧ Hid (prt o1 p1 f1 g1 = false))) ∧
      wr.heap[w.heap.size]? = some (.cells (wc f0 f1 o0 o1) 108 (0, 0)) ∧ wr.heap[w.heap.size + 1]? = some (.cells (wc g0 g1 p0 p1) 108 (0, 0)) ∧ Below w.heap.size w wr)
    (fun i _ => 2 - (intOf i).toNat)
  case atStart =>
    exact ⟨Or.inl rfl, new_old _ _ (new_0 _ _), new_1 _ _ _, ((Below.refl _ _).alloc (Nat.le_refl _) _).alloc (by simp) _⟩
  case round =>
    obtain ⟨hi, h0, h1, hb⟩ := hrel
    obtain ⟨t0, t1, t2, t3⟩ := four_cell h0
    obtain ⟨u0, u1, u2, u3⟩ := four_cell h1
    have H0 : Hid _ := h0
    have H1 : Hid _ := h1
    clear h0 h1
    rcases hi with rfl | ⟨rfl, hx0⟩ | ⟨rfl, hx0, hx1⟩
    · go_wp2
      go_quiet (fail)
      rcases bool_two (prt o0 p0 f0 g0) with hx | hx
      · have hx' : (bits .and .u64 (bits .and .u64 (bits .xor .u64 (o0 : Int) (p0 : Int)) (f0 : Int)) (g0 : Int) != 0) = false := hx
        have HX : Hid (prt o0 p0 f0 g0 = false) := hx
        clear hx
        go_wp2
        go_roundw
        case rel => exact ⟨Or.inr (Or.inl ⟨rfl, HX⟩), H0.out, H1.out, below_drewN' hb⟩
        case measure => simp [intOf]
      · have hx' : (bits .and .u64 (bits .and .u64 (bits .xor .u64 (o0 : Int) (p0 : Int)) (f0 : Int)) (g0 : Int) != 0) = true := hx
        have HX : Hid (prt o0 p0 f0 g0 = true) := hx
        clear hx
        go_wp2
        go_ret
        refine ⟨?_, below_drewN' hb⟩
        rw [HX.out]; rfl
    · go_wp2
      go_quiet (fail)
      rcases bool_two (prt o1 p1 f1 g1) with hx | hx
      · have hx' : (bits .and .u64 (bits .and .u64 (bits .xor .u64 (o1 : Int) (p1 : Int)) (f1 : Int)) (g1 : Int) != 0) = false := hx
        have HX : Hid (prt o1 p1 f1 g1 = false) := hx
        clear hx
        go_wp2
        go_roundw
        case rel => exact ⟨Or.inr (Or.inr ⟨rfl, hx0, HX⟩), H0.out, H1.out, below_drewN' hb⟩
        case measure => simp [intOf]
      · have hx' : (bits .and .u64 (bits .and .u64 (bits .xor .u64 (o1 : Int) (p1 : Int)) (f1 : Int)) (g1 : Int) != 0) = true := hx
        have HX : Hid (prt o1 p1 f1 g1 = true) := hx
        clear hx
        go_wp2
        go_ret
        refine ⟨?_, below_drewN' hb⟩
        rw [HX.out, hx0.out]; rfl
    · go_wp2
      go_ret
      refine ⟨?_, hb⟩
      rw [hx0.out, hx1.out]; rfl

/-- Does a word of u lie outside of t's? In the walk's spelling. -/
def out1 (g f : Nat) : Bool := bits .andNot .u64 (g : Int) (f : Int) != 0
def out2 (o p g : Nat) : Bool := bits .and .u64 (bits .xor .u64 (o : Int) (p : Int)) (g : Int) != 0

set_option maxHeartbeats 1000000 in
theorem inside_words (f0 f1 o0 o1 g0 g1 p0 p1 : Nat) (w : World) :
    Calls Tryz.prog 105 #[wv f0 f1 o0 o1, wv g0 g1 p0 p1] w fun e w' =>
      e = .returned (.bool ((!out1 g0 f0 && !out2 o0 p0 g0) && (!out1 g1 f1 && !out2 o1 p1 g1))) ∧ Below w.heap.size w w' := by
  go_enter Tryz.func105, Tryz.ntmps105
  go_wp2
  go_loopw [6] (fun i wr => (i = .int .i64 0 ∨ (i = .int .i64 1 ∧ Hid (out1 g0 f0 = false ∧ out2 o0 p0 g0 = false)) ∨ (i = .int .i64 2 ∧ Hid (out1 g0 f0 = false ∧ out2 o0 p0 g0 = false) ∧ Hid (out1 g1 f1 = false ∧ out2 o1 p1 g1 = false))) ∧
      wr.heap[w.heap.size]? = some (.cells (wc f0 f1 o0 o1) 108 (0, 0)) ∧ wr.heap[w.heap.size + 1]? = some (.cells (wc g0 g1 p0 p1) 108 (0, 0)) ∧ Below w.heap.size w wr)
    (fun i _ => 2 - (intOf i).toNat)
  case atStart =>
    exact ⟨Or.inl rfl, new_old _ _ (new_0 _ _), new_1 _ _ _, ((Below.refl _ _).alloc (Nat.le_refl _) _).alloc (by simp) _⟩
  case round =>
    obtain ⟨hi, h0, h1, hb⟩ := hrel
    obtain ⟨t0, t1, t2, t3⟩ := four_cell h0
    obtain ⟨u0, u1, u2, u3⟩ := four_cell h1
    have H0 : Hid _ := h0
    have H1 : Hid _ := h1
    clear h0 h1
    rcases hi with rfl | ⟨rfl, hx0⟩ | ⟨rfl, hx0, hx1⟩
    · rcases bool_two (out1 g0 f0) with hx | hx
      · have hx' : (bits .andNot .u64 (g0 : Int) (f0 : Int) != 0) = false := hx
        have HX : Hid (out1 g0 f0 = false) := hx
        clear hx
        go_wp2
        go_quiet (fail)
        rcases bool_two (out2 o0 p0 g0) with hy | hy
        · have hy' : (bits .and .u64 (bits .xor .u64 (o0 : Int) (p0 : Int)) (g0 : Int) != 0) = false := hy
          have HY : Hid (out2 o0 p0 g0 = false) := hy
          clear hy
          go_wp2
          go_roundw
          case rel => exact ⟨Or.inr (Or.inl ⟨rfl, HX.out, HY.out⟩), H0.out, H1.out, below_drewN' hb⟩
          case measure => simp [intOf]
        · have hy' : (bits .and .u64 (bits .xor .u64 (o0 : Int) (p0 : Int)) (g0 : Int) != 0) = true := hy
          have HY : Hid (out2 o0 p0 g0 = true) := hy
          clear hy
          go_wp2
          go_ret
          refine ⟨?_, below_drewN' hb⟩
          rw [HY.out]; simp
      · have hx' : (bits .andNot .u64 (g0 : Int) (f0 : Int) != 0) = true := hx
        have HX : Hid (out1 g0 f0 = true) := hx
        clear hx
        go_wp2
        go_quiet (fail)
        go_wp2
        go_ret
        refine ⟨?_, below_drewN' hb⟩
        rw [HX.out]; simp
    · rcases bool_two (out1 g1 f1) with hx | hx
      · have hx' : (bits .andNot .u64 (g1 : Int) (f1 : Int) != 0) = false := hx
        have HX : Hid (out1 g1 f1 = false) := hx
        clear hx
        go_wp2
        go_quiet (fail)
        rcases bool_two (out2 o1 p1 g1) with hy | hy
        · have hy' : (bits .and .u64 (bits .xor .u64 (o1 : Int) (p1 : Int)) (g1 : Int) != 0) = false := hy
          have HY : Hid (out2 o1 p1 g1 = false) := hy
          clear hy
          go_wp2
          go_roundw
          case rel => exact ⟨Or.inr (Or.inr ⟨rfl, hx0, HX.out, HY.out⟩), H0.out, H1.out, below_drewN' hb⟩
          case measure => simp [intOf]
        · have hy' : (bits .and .u64 (bits .xor .u64 (o1 : Int) (p1 : Int)) (g1 : Int) != 0) = true := hy
          have HY : Hid (out2 o1 p1 g1 = true) := hy
          clear hy
          go_wp2
          go_ret
          refine ⟨?_, below_drewN' hb⟩
          rw [HY.out]; simp
      · have hx' : (bits .andNot .u64 (g1 : Int) (f1 : Int) != 0) = true := hx
        have HX : Hid (out1 g1 f1 = true) := hx
        clear hx
        go_wp2
        go_quiet (fail)
        go_wp2
        go_ret
        refine ⟨?_, below_drewN' hb⟩
        rw [HX.out]; simp
    · go_wp2
      go_ret
      refine ⟨?_, hb⟩
      rw [hx0.out.1, hx0.out.2, hx1.out.1, hx1.out.2]; rfl
end Go.Proofs.YtipmlcdnfaobiaaGreat.Cub
namespace Go.Proofs.YtipmlcdnfaobiaaGreat.Cub
open Go.RowKit

/-- The or of two words, in the walk's spelling. -/
abbrev orw (f g : Nat) : Value := .int .u64 (bits .or .u64 (f : Int) (g : Int))

end Go.Proofs.YtipmlcdnfaobiaaGreat.Cub
namespace Go.Proofs.YtipmlcdnfaobiaaGreat.Cub
open Go.RowKit

theorem prt_eq (o p f g : Nat) (ho : o < 18446744073709551616) (hp : p < 18446744073709551616) (hf : f < 18446744073709551616) (hg : g < 18446744073709551616) :
    prt o p f g = decide (¬ ((((o ^^^ p) &&& f) &&& g) = 0)) := by
  unfold prt
  rw [u64_xor_nat _ _ ho hp, u64_and_nat _ _ (Cu.xor_lt ho hp) hf, u64_and_nat _ _ (Cu.and_lt (Cu.xor_lt ho hp)) hg]
  rw [Bool.eq_iff_iff]
  simp only [bne_iff_ne, ne_eq, decide_eq_true_eq]
  omega

theorem nprt (a b : List UInt8) (k : Nat) : (!prt (Cu.wd (Cu.oneAt a) k) (Cu.wd (Cu.oneAt b) k) (Cu.wd (Cu.fixAt a) k) (Cu.wd (Cu.fixAt b) k)) = true ↔ ∀ i, i < 64 → Cu.partAt a b (64 * k + i) = false := by
  rw [prt_eq _ _ _ _ (Cu.wd_lt _ _) (Cu.wd_lt _ _) (Cu.wd_lt _ _) (Cu.wd_lt _ _)]
  simp only [Bool.not_eq_true', decide_eq_false_iff_not, Decidable.not_not]
  rw [Cu.and_ne_zero]
  constructor
  · intro H i hi
    have := H i
    rw [Nat.testBit_and, Nat.testBit_xor, Cu.testBit_wd, Cu.testBit_wd, Cu.testBit_wd, Cu.testBit_wd] at this
    simpa [hi, Cu.partAt] using this
  · intro H i
    rw [Nat.testBit_and, Nat.testBit_xor, Cu.testBit_wd, Cu.testBit_wd, Cu.testBit_wd, Cu.testBit_wd]
    by_cases hi : i < 64
    · have := H i hi
      simpa [hi, Cu.partAt] using this
    · simp [hi]

theorem all128 {f : Nat → Bool} (hf : ∀ i, 128 ≤ i → f i = false) : (∀ i, f i = false) ↔ (∀ i, i < 64 → f (64 * 0 + i) = false) ∧ (∀ i, i < 64 → f (64 * 1 + i) = false) := by
  constructor
  · intro H; exact ⟨fun i _ => H _, fun i _ => H _⟩
  · rintro ⟨h0, h1⟩ i
    by_cases a : i < 64
    · have := h0 i a; simpa using this
    · by_cases b : i < 128
      · have := h1 (i - 64) (by omega); rw [show 64 * 1 + (i - 64) = i from by omega] at this; exact this
      · exact hf i (by omega)

theorem meets_lists {a b : List UInt8} (ha : Cu.right a = true) (hb : Cu.right b = true) (h : a.length = b.length) :
    (!prt (Cu.wd (Cu.oneAt a) 0) (Cu.wd (Cu.oneAt b) 0) (Cu.wd (Cu.fixAt a) 0) (Cu.wd (Cu.fixAt b) 0) && !prt (Cu.wd (Cu.oneAt a) 1) (Cu.wd (Cu.oneAt b) 1) (Cu.wd (Cu.fixAt a) 1) (Cu.wd (Cu.fixAt b) 1)) = Cu.meetsB a b := by
  obtain ⟨h1, h2, h3⟩ := Cu.right_all ha
  obtain ⟨k1, _, _⟩ := Cu.right_all hb
  rw [Bool.eq_iff_iff, Bool.and_eq_true, nprt, nprt, Cu.meetsB_iff h1 k1 h]
  refine (all128 fun i hi => ?_).symm
  unfold Cu.partAt
  rw [Cu.fixAt_ge (by omega)]; simp

theorem meets_any (a b : List UInt8) (w : World) (ha : Cu.right a = true) (hb : Cu.right b = true) (h : a.length = b.length) :
    Calls Tryz.prog 107 #[tv a, tv b] w fun e w' => e = .returned (.bool (Cu.meetsB a b)) ∧ Below w.heap.size w w' := by
  rw [← meets_lists ha hb h]
  exact meets_words _ _ _ _ _ _ _ _ w

theorem out1_eq (g f : Nat) (hg : g < 18446744073709551616) (hf : f < 18446744073709551616) : out1 g f = decide (¬ (g &&& (18446744073709551615 - f) = 0)) := by
  unfold out1
  rw [u64_andNot_nat _ _ hg hf, Bool.eq_iff_iff]
  simp only [bne_iff_ne, ne_eq, decide_eq_true_eq]
  omega
theorem out2_eq (o p g : Nat) (ho : o < 18446744073709551616) (hp : p < 18446744073709551616) (hg : g < 18446744073709551616) : out2 o p g = decide (¬ ((o ^^^ p) &&& g = 0)) := by
  unfold out2
  rw [u64_xor_nat _ _ ho hp, u64_and_nat _ _ (Cu.xor_lt ho hp) hg, Bool.eq_iff_iff]
  simp only [bne_iff_ne, ne_eq, decide_eq_true_eq]
  omega
theorem testBit_not64 (f i : Nat) (hf : f < 18446744073709551616) : (18446744073709551615 - f).testBit i = (decide (i < 64) && !f.testBit i) := by
  have : 18446744073709551615 - f = 2 ^ 64 - (f + 1) := by omega
  rw [this, Nat.testBit_two_pow_sub_succ hf]

theorem nout (a b : List UInt8) (k : Nat) : (!out1 (Cu.wd (Cu.fixAt b) k) (Cu.wd (Cu.fixAt a) k) && !out2 (Cu.wd (Cu.oneAt a) k) (Cu.wd (Cu.oneAt b) k) (Cu.wd (Cu.fixAt b) k)) = true ↔ ∀ i, i < 64 → Cu.outAt a b (64 * k + i) = false := by
  rw [out1_eq _ _ (Cu.wd_lt _ _) (Cu.wd_lt _ _), out2_eq _ _ _ (Cu.wd_lt _ _) (Cu.wd_lt _ _) (Cu.wd_lt _ _)]
  simp only [Bool.and_eq_true, Bool.not_eq_true', decide_eq_false_iff_not, Decidable.not_not]
  rw [Cu.and_ne_zero, Cu.and_ne_zero]
  constructor
  · rintro ⟨H1, H2⟩ i hi
    have e1 := H1 i
    have e2 := H2 i
    rw [testBit_not64 _ _ (Cu.wd_lt _ _), Cu.testBit_wd, Cu.testBit_wd] at e1
    rw [Nat.testBit_xor, Cu.testBit_wd, Cu.testBit_wd, Cu.testBit_wd] at e2
    simp only [hi, decide_true, Bool.true_and] at e1 e2
    unfold Cu.outAt
    cases h1 : Cu.fixAt b (64 * k + i) <;> cases h2 : Cu.fixAt a (64 * k + i) <;> simp_all
  · intro H
    refine ⟨fun i => ?_, fun i => ?_⟩
    · rw [testBit_not64 _ _ (Cu.wd_lt _ _), Cu.testBit_wd, Cu.testBit_wd]
      by_cases hi : i < 64
      · have := H i hi
        unfold Cu.outAt at this
        cases h1 : Cu.fixAt b (64 * k + i) <;> cases h2 : Cu.fixAt a (64 * k + i) <;> simp_all
      · simp [hi]
    · rw [Nat.testBit_xor, Cu.testBit_wd, Cu.testBit_wd, Cu.testBit_wd]
      by_cases hi : i < 64
      · have := H i hi
        unfold Cu.outAt at this
        cases h1 : Cu.fixAt b (64 * k + i) <;> cases h2 : Cu.fixAt a (64 * k + i) <;> simp_all
      · simp [hi]

theorem inside_any (a b : List UInt8) (w : World) (ha : Cu.right a = true) (hb : Cu.right b = true) (h : a.length = b.length) :
    Calls Tryz.prog 105 #[tv a, tv b] w fun e w' => e = .returned (.bool (Cu.insideB a b)) ∧ Below w.heap.size w w' := by
  have e : ((!out1 (Cu.wd (Cu.fixAt b) 0) (Cu.wd (Cu.fixAt a) 0) && !out2 (Cu.wd (Cu.oneAt a) 0) (Cu.wd (Cu.oneAt b) 0) (Cu.wd (Cu.fixAt b) 0)) && (!out1 (Cu.wd (Cu.fixAt b) 1) (Cu.wd (Cu.fixAt a) 1) && !out2 (Cu.wd (Cu.oneAt a) 1) (Cu.wd (Cu.oneAt b) 1) (Cu.wd (Cu.fixAt b) 1))) = Cu.insideB a b := by
    obtain ⟨h1, h2, h3⟩ := Cu.right_all ha
    obtain ⟨k1, _, _⟩ := Cu.right_all hb
    rw [Bool.eq_iff_iff, Bool.and_eq_true, nout, nout, Cu.insideB_iff h1 k1 h]
    refine (all128 fun i hi => ?_).symm
    unfold Cu.outAt
    rw [Cu.fixAt_ge (l := b) (by omega)]; simp
  rw [← e]
  exact inside_words _ _ _ _ _ _ _ _ w

theorem orw_eq (p q r : Nat → Bool) (k : Nat) (h : ∀ i, i < 64 → r (64 * k + i) = (p (64 * k + i) || q (64 * k + i))) : orw (Cu.wd p k) (Cu.wd q k) = .int .u64 (Cu.wd r k : Int) := by
  unfold orw
  rw [u64_or_nat _ _ (Cu.wd_lt _ _) (Cu.wd_lt _ _)]
  congr 2
  refine Cu.wd_eq (Cu.or_lt (Cu.wd_lt _ _) (Cu.wd_lt _ _)) fun i hi => ?_
  rw [Nat.testBit_or, Cu.testBit_wd, Cu.testBit_wd, h i hi]
  simp [hi]

end Go.Proofs.YtipmlcdnfaobiaaGreat.Cub
namespace Go.Proofs.YtipmlcdnfaobiaaGreat.Cub
open Go.RowKit

theorem Tryz.infoByte : (Tryz.prog.info? 5).map (fun i => (i.zero, i.size, i.bytes)) = some (some (.int .u8 0), 1, 1) := by kernel_rfl

/-- Cells in which the first k bytes of a text lie. -/
def lieB (cs : Array Value) (k : Nat) (l : List UInt8) : Prop := ∀ j, j < k → cs[j]? = some (.int .u8 ((l.getD j 0).toNat : Int))
theorem lieB_zero (cs : Array Value) (l : List UInt8) : lieB cs 0 l := fun j hj => absurd hj (Nat.not_lt_zero j)
theorem lieB_set {cs : Array Value} {k : Nat} {l : List UInt8} (h : lieB cs k l) (hk : k < cs.size) (c : Int) (hc : c = ((l.getD k 0).toNat : Int)) : lieB (cs.setIfInBounds k (.int .u8 c)) (k + 1) l := by
  subst hc
  intro j hj
  rw [Array.getElem?_setIfInBounds]
  by_cases e : k = j
  · subst e; rw [if_pos rfl, if_pos hk]
  · rw [if_neg e]; exact h j (by omega)

def madeB (n : Nat) : Array Value := madeCells #[.int .u8 0] n
theorem madeB_size (n : Nat) : (madeB n).size = n := size_madeCells _ _

/-- The world behind the call of has: all is as it was. -/
theorem rel_text {w wr w1 : World} {o0 : Obj} {cs : Array Value} {n k : Nat} {l : List UInt8} (h0 : wr.heap[w.heap.size]? = some o0) (h1 : wr.heap[w.heap.size + 1]? = some (.cells cs 5 (0, 0)))
    (hsz : cs.size = n) (hlie : lieB cs k l) (hlt : k < n) (hbl : Below w.heap.size w wr) (hb1 : Below wr.heap.size wr w1) (c : Int) (hc : c = ((l.getD k 0).toNat : Int)) :
    (w1.setCell ⟨w.heap.size + 1, k, none⟩ (.int .u8 c)).heap[w.heap.size]? = some o0 ∧
      (∃ cs, (w1.setCell ⟨w.heap.size + 1, k, none⟩ (.int .u8 c)).heap[w.heap.size + 1]? = some (.cells cs 5 (0, 0)) ∧ cs.size = n ∧ lieB cs (k + 1) l) ∧
      Below w.heap.size w (w1.setCell ⟨w.heap.size + 1, k, none⟩ (.int .u8 c)) := by
  have hs := hbl.size
  refine ⟨?_, ⟨_, block_set _ (below_block hb1 h1 (lt_of_block h1)), by simp [hsz], lieB_set hlie (by omega) c hc⟩, (hbl.trans (hb1.mono hs)).setCell (by simp) _⟩
  rw [Below.heap_setCell _ _ _ _ (by simp)]; exact below_block hb1 h0 (lt_of_block h0)

set_option maxRecDepth 4000 in
set_option maxHeartbeats 1000000 in
theorem text_any (l : List UInt8) (n : Nat) (w : World) (hl : Cu.right l = true) (hn : l.length = n) :
    Calls Tryz.prog 81 #[tv l, .int .i64 (n : Int)] w fun e w' => e = .returned (.string ⟨l.toArray⟩) ∧ Below w.heap.size w w' := by
  obtain ⟨hall, hl1, hl2⟩ := Cu.right_all hl
  have HA : Hid (l.all Cu.sym = true) := hall
  have HN : Hid (l.length = n) := hn
  have hn1 : 1 ≤ n := by omega
  have hn2 : n ≤ 128 := by omega
  clear hl hall hn hl1 hl2
  have hmk := run_make_row' (P := Tryz.prog) 134 5 (.int .u8 0) 1 Tryz.underlying134 Tryz.infoByte rfl .i64 .i64 n (by omega) (by omega)
  rw [show madeCells #[.int .u8 0] n = madeB n from rfl] at hmk
  go_enter Tryz.func81, Tryz.ntmps81
  go_wp2
  go_loopw [11] (fun i wr => ∃ k : Nat, k ≤ n ∧ i = .int .i64 k ∧ wr.heap[w.heap.size]? = some (.cells (tc l) 108 (0, 0)) ∧
      (∃ cs, wr.heap[w.heap.size + 1]? = some (.cells cs 5 (0, 0)) ∧ cs.size = n ∧ lieB cs k l) ∧ Below w.heap.size w wr)
    (fun i _ => n - (intOf i).toNat)
  case atStart =>
    exact ⟨0, Nat.zero_le _, rfl, new_old _ _ (new_0 _ _), ⟨madeB n, new_1 _ _ _, madeB_size n, lieB_zero _ _⟩, ((Below.refl _ _).alloc (Nat.le_refl _) _).alloc (by simp) _⟩
  case round =>
    obtain ⟨k, hk, rfl, h0, ⟨cs, h1, hsz, hlie⟩, hbl⟩ := hrel
    have H0 : Hid _ := h0
    have H1 : Hid _ := h1
    have hs1 := hbl.size
    have hlt1 := lt_of_block h1
    obtain ⟨t0, t1, t2, t3⟩ := four_cell h0
    by_cases hlt : k < n
    · clear h0 h1
      have hkl : k < l.length := by rw [HN.out]; exact hlt
      have HG : Hid (l.getD k 0 = l[k]) := by show _ = _; rw [List.getD_eq_getElem?_getD, List.getElem?_eq_getElem hkl]; rfl
      have h128 : k < 128 := by omega
      rcases Cu.sym_at HA.out k hkl with hc | hc | hc
      · have hone : Cu.oneAt l k = false := by rw [Cu.oneAt_lt hkl, hc]; rfl
        have hfix : Cu.fixAt l k = true := by rw [Cu.fixAt_lt hkl, hc]; rfl
        have HC : Hid (((l.getD k 0).toNat : Int) = 48) := by show _ = _; rw [HG.out, hc]; rfl
        clear hc
        go_wp2_with fail
        refine (has_any (Cu.oneAt l) k _ h128).mono ?_
        rintro e w1 ⟨rfl, hb1⟩
        have e0 : w1.cell? ⟨w.heap.size, 0, none⟩ = _ := (hb1.cell (p := ⟨w.heap.size, 0, none⟩) (by show w.heap.size < wr.heap.size; omega)).trans t0
        have e1 : w1.cell? ⟨w.heap.size, 1, none⟩ = _ := (hb1.cell (p := ⟨w.heap.size, 1, none⟩) (by show w.heap.size < wr.heap.size; omega)).trans t1
        go_wp2_with fail
        refine (has_any (Cu.fixAt l) k _ h128).mono ?_
        rintro e w2 ⟨rfl, hb2⟩
        have hb12 := hb1.trans (hb2.mono hb1.size)
        have HB1 : Hid _ := below_block hb12 H1.out hlt1
        obtain ⟨v, hv⟩ := cells_some HB1.out (x := k) (by omega)
        have f : w2.frozen? ⟨w.heap.size + 1, k, none⟩ = false := free_of HB1.out
        go_wp2
        go_roundw
        case rel =>
          have R := rel_text H0.out H1.out hsz hlie hlt hbl hb12 48 HC.out.symm
          exact ⟨k + 1, by omega, by go_num, R.1, R.2.1, R.2.2⟩
        case measure => simp [intOf]; omega
      · have hone : Cu.oneAt l k = true := by rw [Cu.oneAt_lt hkl, hc]; rfl
        have HC : Hid (((l.getD k 0).toNat : Int) = 49) := by show _ = _; rw [HG.out, hc]; rfl
        clear hc
        go_wp2_with fail
        refine (has_any (Cu.oneAt l) k _ h128).mono ?_
        rintro e w1 ⟨rfl, hb1⟩
        have HB1 : Hid _ := below_block hb1 H1.out hlt1
        obtain ⟨v, hv⟩ := cells_some HB1.out (x := k) (by omega)
        have f : w1.frozen? ⟨w.heap.size + 1, k, none⟩ = false := free_of HB1.out
        go_wp2
        go_roundw
        case rel =>
          have R := rel_text H0.out H1.out hsz hlie hlt hbl hb1 49 HC.out.symm
          exact ⟨k + 1, by omega, by go_num, R.1, R.2.1, R.2.2⟩
        case measure => simp [intOf]; omega
      · have hone : Cu.oneAt l k = false := by rw [Cu.oneAt_lt hkl, hc]; rfl
        have hfix : Cu.fixAt l k = false := by rw [Cu.fixAt_lt hkl, hc]; rfl
        have HC : Hid (((l.getD k 0).toNat : Int) = 120) := by show _ = _; rw [HG.out, hc]; rfl
        clear hc
        go_wp2_with fail
        refine (has_any (Cu.oneAt l) k _ h128).mono ?_
        rintro e w1 ⟨rfl, hb1⟩
        have e0 : w1.cell? ⟨w.heap.size, 0, none⟩ = _ := (hb1.cell (p := ⟨w.heap.size, 0, none⟩) (by show w.heap.size < wr.heap.size; omega)).trans t0
        have e1 : w1.cell? ⟨w.heap.size, 1, none⟩ = _ := (hb1.cell (p := ⟨w.heap.size, 1, none⟩) (by show w.heap.size < wr.heap.size; omega)).trans t1
        go_wp2_with fail
        refine (has_any (Cu.fixAt l) k _ h128).mono ?_
        rintro e w2 ⟨rfl, hb2⟩
        have hb12 := hb1.trans (hb2.mono hb1.size)
        have HB1 : Hid _ := below_block hb12 H1.out hlt1
        obtain ⟨v, hv⟩ := cells_some HB1.out (x := k) (by omega)
        have f : w2.frozen? ⟨w.heap.size + 1, k, none⟩ = false := free_of HB1.out
        go_wp2
        go_roundw
        case rel =>
          have R := rel_text H0.out H1.out hsz hlie hlt hbl hb12 120 HC.out.symm
          exact ⟨k + 1, by omega, by go_num, R.1, R.2.1, R.2.2⟩
        case measure => simp [intOf]; omega
    · have hkn : k = n := by omega
      subst hkn
      have hcv := run_convert_bytes_arg (P := Tryz.prog) wr 134 5 Tryz.underlying134 Tryz.underlying5 (w.heap.size + 1) 0 k k (l.map fun c => (c.toNat : Int)) (by rw [List.length_map]; exact HN.out)
        (by
          intro i hi
          have hil : i < l.length := by rw [HN.out]; exact hi
          have := hlie i hi
          simp only [World.cell?, h1, Nat.zero_add]
          simp [this, hil]) 9 Tryz.underlying9
      have hst : strOfNums (l.map fun c => (c.toNat : Int)) = ⟨l.toArray⟩ := by
        unfold strOfNums; congr 1; simp [Function.comp_def]
      rw [hst] at hcv
      clear h0 h1
      go_wp2
      go_ret
      exact ⟨rfl, hbl⟩
end Go.Proofs.YtipmlcdnfaobiaaGreat.Cub
namespace Go.Proofs.YtipmlcdnfaobiaaGreat.Cub
open Go.RowKit

/-- Two texts by number. -/
def two (a b : ByteArray) (i : Nat) : ByteArray := if i = 0 then a else b

theorem two_cells (w : World) (a b : ByteArray) : ∀ i, i < 2 → (w.alloc (.cells #[.string a, .string b] 9)).cell? ⟨w.heap.size, 0 + i, none⟩ = some (.string (two a b i)) := by
  intro i hi
  have h := new_0 w (.cells #[.string a, .string b] 9)
  have : i = 0 ∨ i = 1 := by omega
  unfold World.cell?
  rcases this with rfl | rfl <;> (rw [h]; rfl)
theorem two_0 (a b : ByteArray) : two a b 0 = a := rfl
theorem two_1 (a b : ByteArray) : two a b 1 = b := rfl
theorem two_right {a b : ByteArray} (ha : Cu.right a.data.toList = true) (hb : Cu.right b.data.toList = true) : ∀ i, i < 2 → Cu.right (by_ (two a b) i) = true := by
  intro i hi
  have : i = 0 ∨ i = 1 := by omega
  rcases this with rfl | rfl
  · exact ha
  · exact hb
theorem two_size {a b : ByteArray} (hs : a.size = b.size) : ∀ i, i < 2 → (two a b i).size = (two a b 0).size := by
  intro i hi
  have : i = 0 ∨ i = 1 := by omega
  rcases this with rfl | rfl
  · rfl
  · exact hs.symm

/-- What read answers of two texts. -/
def err2 (a b : ByteArray) : Int := if Cu.right a.data.toList = true ∧ Cu.right b.data.toList = true then (if a.size = b.size then 0 else 11) else 10

theorem read2_bad (a b : ByteArray) (w : World) (h : err2 a b ≠ 0) :
    Calls Tryz.prog 58 #[.slice (some ⟨w.heap.size, 0, none⟩) 2 2] (w.alloc (.cells #[.string a, .string b] 9)) fun e w' =>
      e = .returned (.tuple #[.slice none 0 0, .int .i64 (err2 a b)]) ∧ Below w.heap.size w w' := by
  have hB : Below w.heap.size w (w.alloc (.cells #[.string a, .string b] 9)) := (Below.refl _ _).alloc (Nat.le_refl _) _
  by_cases ha : Cu.right a.data.toList = true
  · by_cases hb : Cu.right b.data.toList = true
    · have hs : a.size ≠ b.size := by
        intro e; apply h; unfold err2; rw [if_pos ⟨ha, hb⟩, if_pos e]
      have he : err2 a b = 11 := by unfold err2; rw [if_pos ⟨ha, hb⟩, if_neg hs]
      rw [he]
      refine (read_width (two a b) 2 w.heap.size 0 2 _ (by simp) (two_cells w a b) (by omega) (by omega) (two_right ha hb) 1 (by omega) ?_).mono ?_
      · rw [two_0, two_1]; exact fun e => hs e.symm
      · rintro e w' ⟨rfl, hb'⟩
        exact ⟨rfl, hB.trans (hb'.mono (by simp))⟩
    · have he : err2 a b = 10 := by unfold err2; rw [if_neg (fun h => hb h.2)]
      rw [he]
      refine (read_wrong (two a b) 2 w.heap.size 0 2 _ (by simp) (two_cells w a b) (by omega) (by omega) 1 (by omega) ?_ ?_).mono ?_
      · intro i hi
        have : i = 0 := by omega
        subst this; exact ha
      · exact Bool.eq_false_iff.2 hb
      · rintro e w' ⟨rfl, hb'⟩
        exact ⟨rfl, hB.trans (hb'.mono (by simp))⟩
  · have he : err2 a b = 10 := by unfold err2; rw [if_neg (fun h => ha h.1)]
    rw [he]
    refine (read_wrong (two a b) 2 w.heap.size 0 2 _ (by simp) (two_cells w a b) (by omega) (by omega) 0 (by omega) ?_ ?_).mono ?_
    · intro i hi; omega
    · exact Bool.eq_false_iff.2 ha
    · rintro e w' ⟨rfl, hb'⟩
      exact ⟨rfl, hB.trans (hb'.mono (by simp))⟩

/-- The cells of two ternaries. -/
def eight (w : World) (g : Nat) (a b : List UInt8) : Prop :=
  (w.cell? ⟨g, 0, none⟩ = some (.int .u64 (Cu.wd (Cu.fixAt a) 0 : Int)) ∧ w.cell? ⟨g, 1, none⟩ = some (.int .u64 (Cu.wd (Cu.fixAt a) 1 : Int)) ∧ w.cell? ⟨g, 2, none⟩ = some (.int .u64 (Cu.wd (Cu.oneAt a) 0 : Int)) ∧ w.cell? ⟨g, 3, none⟩ = some (.int .u64 (Cu.wd (Cu.oneAt a) 1 : Int))) ∧
  (w.cell? ⟨g, 4, none⟩ = some (.int .u64 (Cu.wd (Cu.fixAt b) 0 : Int)) ∧ w.cell? ⟨g, 5, none⟩ = some (.int .u64 (Cu.wd (Cu.fixAt b) 1 : Int)) ∧ w.cell? ⟨g, 6, none⟩ = some (.int .u64 (Cu.wd (Cu.oneAt b) 0 : Int)) ∧ w.cell? ⟨g, 7, none⟩ = some (.int .u64 (Cu.wd (Cu.oneAt b) 1 : Int)))
theorem eight_of {w : World} {g : Nat} {cs : Array Value} {L : Nat → List UInt8} (h : w.heap[g]? = some (.cells cs 108 (0, 0))) (hl : lie cs 2 L) : eight w g (L 0) (L 1) := by
  have a0 := hl 0 (by omega) 0 (by omega)
  have a1 := hl 0 (by omega) 1 (by omega)
  have a2 := hl 0 (by omega) 2 (by omega)
  have a3 := hl 0 (by omega) 3 (by omega)
  have b0 := hl 1 (by omega) 0 (by omega)
  have b1 := hl 1 (by omega) 1 (by omega)
  have b2 := hl 1 (by omega) 2 (by omega)
  have b3 := hl 1 (by omega) 3 (by omega)
  simp only [c4] at a0 a1 a2 a3 b0 b1 b2 b3
  simp [eight, World.cell?, h, a0, a1, a2, a3, b0, b1, b2, b3]
theorem eight_below {B : Nat} {w w' : World} {g : Nat} {a b : List UInt8} (h : eight w g a b) (hb : Below B w w') (hg : g < B) : eight w' g a b := by
  unfold eight
  rw [hb.cell (by exact hg), hb.cell (by exact hg), hb.cell (by exact hg), hb.cell (by exact hg), hb.cell (by exact hg), hb.cell (by exact hg), hb.cell (by exact hg), hb.cell (by exact hg)]
  exact h

theorem read2_ok (a b : ByteArray) (w : World) (ha : Cu.right a.data.toList = true) (hb : Cu.right b.data.toList = true) (hs : a.size = b.size) :
    Calls Tryz.prog 58 #[.slice (some ⟨w.heap.size, 0, none⟩) 2 2] (w.alloc (.cells #[.string a, .string b] 9)) fun e w' =>
      e = .returned (.tuple #[.slice (some ⟨w.heap.size + 3, 0, none⟩) 2 2, .int .i64 0]) ∧ eight w' (w.heap.size + 3) a.data.toList b.data.toList ∧ w.heap.size + 3 < w'.heap.size ∧ Below w.heap.size w w' := by
  have hB : Below w.heap.size w (w.alloc (.cells #[.string a, .string b] 9)) := (Below.refl _ _).alloc (Nat.le_refl _) _
  have := read_right (two a b) 2 w.heap.size 0 2 _ (by simp) (two_cells w a b) (by omega) (by omega) (two_right ha hb) (two_size hs)
  simp only [World.size_alloc] at this
  refine this.mono ?_
  rintro e w' ⟨rfl, ⟨cs, h2, _, hl⟩, hb'⟩
  have h8 := eight_of h2 hl
  rw [show by_ (two a b) 0 = a.data.toList from rfl, show by_ (two a b) 1 = b.data.toList from rfl] at h8
  exact ⟨rfl, h8, lt_of_block h2, hB.trans (hb'.mono (by simp))⟩
end Go.Proofs.YtipmlcdnfaobiaaGreat.Cub
namespace Go.Proofs.YtipmlcdnfaobiaaGreat.Cub
open Go.RowKit
attribute [local go_sem ↓] Go.wp_at_zero Go.wp_at_succ

set_option maxHeartbeats 400000 in
theorem Inside_bad (a b : ByteArray) (w : World) (h : err2 a b ≠ 0) :
    Calls Tryz.prog 76 #[.string a, .string b] w fun e w' => e = .returned (.tuple #[.bool false, .int .i64 (err2 a b)]) ∧ Below w.heap.size w w' := by
  have hne : (err2 a b != 0) = true := by rw [bne_iff_ne]; exact h
  have H : Hid (err2 a b ≠ 0) := h
  clear h
  go_enter Tryz.func76, Tryz.ntmps76
  go_wp2_with fail
  refine (read2_bad a b w H.out).mono ?_
  rintro e w1 ⟨rfl, hb1⟩
  go_wp2
  go_ret2
  exact ⟨rfl, hb1⟩

set_option maxHeartbeats 1000000 in
theorem Inside_ok (a b : ByteArray) (w : World) (ha : Cu.right a.data.toList = true) (hb : Cu.right b.data.toList = true) (hs : a.size = b.size) :
    Calls Tryz.prog 76 #[.string a, .string b] w fun e w' => e = .returned (.tuple #[.bool (Cu.insideB a.data.toList b.data.toList), .int .i64 0]) ∧ Below w.heap.size w w' := by
  have HA : Hid (Cu.right a.data.toList = true) := ha
  have HB : Hid (Cu.right b.data.toList = true) := hb
  have HS : Hid (a.size = b.size) := hs
  clear ha hb hs
  go_enter Tryz.func76, Tryz.ntmps76
  go_wp2_with fail
  refine (read2_ok a b w HA.out HB.out HS.out).mono ?_
  rintro e w1 ⟨rfl, h8, hg, hb1⟩
  have H8 : Hid _ := h8
  obtain ⟨⟨a0, a1, a2, a3⟩, b0, b1, b2, b3⟩ := h8
  go_wp2_with fail
  go_region_held3 (fun w' => (w'.cell? ⟨w.heap.size + 3, 0, none⟩ = some (.int .u64 (Cu.wd (Cu.fixAt a.data.toList) 0 : Int)) ∧ w'.cell? ⟨w.heap.size + 3, 1, none⟩ = some (.int .u64 (Cu.wd (Cu.fixAt a.data.toList) 1 : Int)) ∧ w'.cell? ⟨w.heap.size + 3, 2, none⟩ = some (.int .u64 (Cu.wd (Cu.oneAt a.data.toList) 0 : Int)) ∧ w'.cell? ⟨w.heap.size + 3, 3, none⟩ = some (.int .u64 (Cu.wd (Cu.oneAt a.data.toList) 1 : Int))) ∧ (w'.cell? ⟨w.heap.size + 3, 4, none⟩ = some (.int .u64 (Cu.wd (Cu.fixAt b.data.toList) 0 : Int)) ∧ w'.cell? ⟨w.heap.size + 3, 5, none⟩ = some (.int .u64 (Cu.wd (Cu.fixAt b.data.toList) 1 : Int)) ∧ w'.cell? ⟨w.heap.size + 3, 6, none⟩ = some (.int .u64 (Cu.wd (Cu.oneAt b.data.toList) 0 : Int)) ∧ w'.cell? ⟨w.heap.size + 3, 7, none⟩ = some (.int .u64 (Cu.wd (Cu.oneAt b.data.toList) 1 : Int)))) (first | (go_keep; done) | exact h82) (first | (go_at_call 105; refine (inside_any a.data.toList b.data.toList _ HA.out HB.out HS.out).mono ?_; rintro e w2 ⟨rfl, hb2⟩; have h82 : eight w2 (w.heap.size + 3) a.data.toList b.data.toList := eight_below H8.out (undrew hb2) hg))
  go_wp2
  go_ret2
  exact ⟨rfl, hb1.trans ((undrew hb2).mono hb1.size)⟩

end Go.Proofs.YtipmlcdnfaobiaaGreat.Cub
