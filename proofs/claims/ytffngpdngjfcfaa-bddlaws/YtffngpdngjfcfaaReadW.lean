/-
  read: a text that is no cube: the panic of mustBeCube, caught.
-/
import Derived.Test.YtffngpdngjfcfaaRead
namespace Go.Proofs.Ytffngpdngjfcfaa
open Go.RowKit

/-- What is left of a region that can only panic: the panic, the deferred call, the two slots that are read behind it, and the world. -/
def PanicOnly (D : List Deferred) (p2 p3 : Value) (wr : World) : Exit → Act → World → Prop
  | .panic c, a, w => c = noCube ∧ a.defers = D ∧ a.tmps[2]? = some p2 ∧ a.tmps[3]? = some p3 ∧ Below wr.heap.size wr w
  | _, _, _ => False
theorem PanicOnly.stable (D : List Deferred) (p2 p3 : Value) (wr : World) (d : Tmp) (v : Value) (h2 : d ≠ 2) (h3 : d ≠ 3) (c : List PanicEntry) (a : Act) (w : World)
    (h : PanicOnly D p2 p3 wr (.panic c) (a.put (some d) v) w) : PanicOnly D p2 p3 wr (.panic c) a w := by
  obtain ⟨e1, e2, e3, e4, e5⟩ := h
  refine ⟨e1, e2, ?_, ?_, e5⟩
  · simpa [Act.put, Array.getElem?_setIfInBounds_ne h2] using e3
  · simpa [Act.put, Array.getElem?_setIfInBounds_ne h3] using e4

set_option maxHeartbeats 1000000 in
theorem read_wrong (S : Nat → ByteArray) (n b o cap : Nat) (w : World) (hb : b < w.heap.size) (hc : ∀ i, i < n → w.cell? ⟨b, o + i, none⟩ = some (.string (S i)))
    (hn0 : 0 < n) (hn : n ≤ 1000000) (m : Nat) (hm : m < n) (hr : ∀ i, i < m → Cu.right (by_ S i) = true) (hw : Cu.right (by_ S m) = false) :
    Calls Try.prog 88 #[.slice (some ⟨b, o, none⟩) n cap] w fun e w' =>
      e = .returned (.tuple #[.slice none 0 0, .int .i64 10]) ∧ Below w.heap.size w w' := by
  have HC : Hid (∀ i, i < n → w.cell? ⟨b, o + i, none⟩ = some (.string (S i))) := hc
  have HR : Hid (∀ i, i < m → Cu.right (by_ S i) = true) := hr
  have HW : Hid (Cu.right (by_ S m) = false) := hw
  clear hc hr hw
  have hmf : ∀ (fn : Fn) (first cap : Array Value) (w : World), (Instr.makeFunc fn first cap).run Try.prog w = .ok (.func fn first cap) w := fun _ _ _ _ => rfl
  have hmk := run_made n hn
  go_enter_defers Try.func88, Try.ntmps88
  go_wp2
  go_loopw [14] (fun i wr => ∃ k : Nat, k ≤ m ∧ i = .int .i64 k ∧ wr.heap[w.heap.size]? = some (.cells #[.slice (some ⟨w.heap.size + 2, 0, none⟩) n n] 148 (0, 0)) ∧
      wr.heap[w.heap.size + 1]? = some (.cells #[.int .i64 0] 30 (0, 0)) ∧
      (∃ cs, wr.heap[w.heap.size + 2]? = some (.cells cs 169 (0, 0)) ∧ cs.size = n * 4 ∧ lie cs k (by_ S)) ∧ Below w.heap.size w wr)
    (fun i _ => n - (intOf i).toNat)
  case atStart =>
    have R := start_three w (.cells #[.slice (some ⟨w.heap.size + 2, 0, none⟩) n n] 148 (0, 0)) (.cells #[.int .i64 0] 30 (0, 0)) (.cells (made n) 169 (0, 0))
    exact ⟨0, Nat.zero_le _, rfl, R.1, R.2.1, ⟨made n, R.2.2.1, made_size n, lie_zero _ _⟩, R.2.2.2⟩
  case round =>
    obtain ⟨k, hk, rfl, h0, h1, ⟨cs, h2, hsz, hlie⟩, hbl⟩ := hrel
    have H1 : Hid _ := h1
    have H2 : Hid _ := h2
    have H0 : Hid _ := h0
    have hs1 := hbl.size
    have c0 := cell_of_one h0
    have hlt0 := lt_of_block h2
    have hlt : k < n := by omega
    by_cases hkm : k < m
    · have hck : wr.cell? ⟨b, o + k, none⟩ = some (.string (S k)) := by rw [hbl.cell (by exact hb)]; exact HC.out k hlt
      have hkI : (0 : Int) ≤ (k : Int) := by omega
      have hkI2 : (k : Int) < (n : Int) := by omega
      clear h0 h1 h2
      go_wp2_with fail
      go_region_held3 (fun w' => w'.cell? ⟨w.heap.size, 0, none⟩ = some (.slice (some ⟨w.heap.size + 2, 0, none⟩) n n)) (first | (go_keep; done) | exact hc1) (first | (go_at_call 103; refine (must_right' (S k) _ (HR.out k hkm)).mono ?_; rintro e w1 ⟨rfl, hb1⟩; have hc1 : w1.cell? ⟨w.heap.size, 0, none⟩ = some (.slice (some ⟨w.heap.size + 2, 0, none⟩) n n) := (by rw [hb1.cell (by show w.heap.size < wr.heap.size; omega)]; exact c0); obtain ⟨⟨v0, q0⟩, ⟨v1, q1⟩, ⟨v2, q2⟩, ⟨v3, q3⟩, f0, f1, f2, f3⟩ := four_at (below_block hb1 (k := w.heap.size + 2) H2.out (by show w.heap.size + 2 < wr.heap.size; omega)) (x := k * 4) (by omega)))
      go_wp2
      go_roundw
      case rel =>
        have R := rel_step S H0.out H1.out H2.out hsz hlie hlt hbl (undrew hb1)
        exact ⟨k + 1, by omega, by go_num, R.1, R.2.1, R.2.2.1, R.2.2.2⟩
      case measure => simp [intOf]; omega
    · have hkn : k = m := by omega
      subst hkn
      have f0 : wr.frozen? ⟨w.heap.size, 0, none⟩ = false := free_of h0
      have f1 : wr.frozen? ⟨w.heap.size + 1, 0, none⟩ = false := free_of h1
      have c1 := cell_of_one h1
      have hck : wr.cell? ⟨b, o + k, none⟩ = some (.string (S k)) := by rw [hbl.cell (by exact hb)]; exact HC.out k hlt
      have hkI : (0 : Int) ≤ (k : Int) := by omega
      have hkI2 : (k : Int) < (n : Int) := by omega
      clear h0 h1 h2
      go_wp2_with fail
      refine Code.wp_mono (Q := PanicOnly [{ target := Target.fn (Fn.func 102) #[.pointer (some ⟨w.heap.size, 0, none⟩), .pointer (some ⟨w.heap.size + 1, 0, none⟩)], args := #[] }] (.pointer (some ⟨w.heap.size, 0, none⟩)) (.pointer (some ⟨w.heap.size + 1, 0, none⟩)) wr) ?_ ?_
      · intro e a w2 hq
        cases e with
        | panic c =>
          obtain ⟨rfl, hd, hp2, hp3, hbw⟩ := hq
          show Leaves Try.prog Try.f88 a.tmps _ a.defers (.panicking noCube) w2
          rw [hd]
          have g0 := below_block hbw H0.out (lt_of_block H0.out)
          have g1 := below_block hbw H1.out (lt_of_block H1.out)
          refine leaves_cons (f := 102) (args := #[.pointer (some ⟨w.heap.size, 0, none⟩), .pointer (some ⟨w.heap.size + 1, 0, none⟩)]) (by simp) (by simp [go_sem]) ?_
          refine (catch_panicking ⟨w.heap.size, 0, none⟩ ⟨w.heap.size + 1, 0, none⟩ _ _ (.int .i64 10) [] w2 (cell_of_one g0) (free_of g0) (cell_of_one g1) (free_of g1) (by simp)).mono ?_
          rintro e u' w3 ⟨rfl, rfl, rfl⟩
          refine ⟨.tuple #[.slice none 0 0, .int .i64 10], ?_, rfl, ?_⟩
          · have k0 : ((w2.setCell ⟨w.heap.size, 0, none⟩ (.slice none 0 0)).setCell ⟨w.heap.size + 1, 0, none⟩ (.int .i64 10)).cell? ⟨w.heap.size, 0, none⟩ = some (.slice none 0 0) := by
              rw [World.cell?_setCell_other _ _ _ _ (by simp)]; exact World.cell?_setCell_same _ _ _ (cell_of_one g0)
            have k1 : ((w2.setCell ⟨w.heap.size, 0, none⟩ (.slice none 0 0)).setCell ⟨w.heap.size + 1, 0, none⟩ (.int .i64 10)).cell? ⟨w.heap.size + 1, 0, none⟩ = some (.int .i64 10) := by
              refine World.cell?_setCell_same _ _ _ (u := .int .i64 0) ?_
              rw [World.cell?_setCell_other _ _ _ _ (by simp)]; exact cell_of_one g1
            simp [results, Try.results88, go_sem, hp2, hp3, k0, k1]
          · exact ((hbl.trans (hbw.mono hs1)).setCell (by simp) _).setCell (by simp) _
        | normal => exact hq.elim
        | ret => exact hq.elim
        | exit _ => exact hq.elim
        | goto _ => exact hq.elim
        | outgrown => exact hq.elim
      · refine wp_region_any (by kernel_rfl) ?_
        change wpAny _ _ _ _ _ _ _ (World.drew _)
        refine wpAny_take (i := 1) (v := .int .i64 (k : Int)) rfl (by kernel_rfl) (by kernel_rfl) (by kernel_rfl) (fun c a w h => PanicOnly.stable _ _ _ _ 20 _ (by decide) (by decide) c a w h) (Or.inl ⟨by rfl, fun w => by go_simp⟩) ?_
        refine wpAny_take (i := 2) (v := .string (S k)) rfl (by kernel_rfl) (by kernel_rfl) (by kernel_rfl) (fun c a w h => PanicOnly.stable _ _ _ _ 21 _ (by decide) (by decide) c a w h) (Or.inl ⟨by rfl, fun w => by go_simp⟩) ?_
        refine wpAny_ready (rs := [0, 3]) (by kernel_rfl) (by simp) ?_
        refine AllReady.cons rfl (fun K hK => ?_) ?_
        · go_simp
          refine hK _ _ ?_
          clear hK K
          refine wpAny_ready (rs := [3]) (by kernel_rfl) (by simp) ?_
          refine AllReady.cons rfl (fun K hK => ?_) AllReady.nil
          go_simp
          refine (must_wrong (S k) _ HW.out).mono ?_
          rintro e w1 ⟨rfl, hb1⟩
          exact ⟨rfl, rfl, rfl, rfl, undrew hb1⟩
        · refine AllReady.cons rfl (fun K hK => ?_) AllReady.nil
          go_simp
          refine (must_wrong (S k) _ HW.out).mono ?_
          rintro e w1 ⟨rfl, hb1⟩
          exact ⟨rfl, rfl, rfl, rfl, undrew hb1⟩
end Go.Proofs.Ytffngpdngjfcfaa
