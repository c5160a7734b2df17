/-
  texts: the texts of several ternaries.
-/
import Derived.Test.YtenlmigdlibgeaaCutW
namespace Go.Proofs.Ytenlmigdlibgeaa
open Go.RowKit

theorem Try.infoString : (Try.prog.info? 9).map (fun i => (i.zero, i.size, i.bytes)) = some (some (.string ByteArray.empty), 1, 16) := by kernel_rfl

/-- The value of a text. -/
abbrev sv (l : List UInt8) : Value := .string ⟨l.toArray⟩
/-- Cells in which the first k texts lie. -/
def lieS (cs : Array Value) (k : Nat) (L : Nat → List UInt8) : Prop := ∀ j, j < k → cs[j]? = some (sv (L j))
theorem lieS_zero (cs : Array Value) (L : Nat → List UInt8) : lieS cs 0 L := fun j hj => absurd hj (Nat.not_lt_zero j)
theorem lieS_set {cs : Array Value} {k : Nat} {L : Nat → List UInt8} (h : lieS cs k L) (hk : k < cs.size) : lieS (cs.setIfInBounds k (sv (L k))) (k + 1) L := by
  intro j hj
  rw [Array.getElem?_setIfInBounds]
  by_cases e : k = j
  · subst e; rw [if_pos rfl, if_pos hk]
  · rw [if_neg e]; exact h j (by omega)
def madeS (n : Nat) : Array Value := madeCells #[.string ByteArray.empty] n
theorem madeS_size (n : Nat) : (madeS n).size = n := size_madeCells _ _

theorem rel_texts {w wr w1 : World} {cs : Array Value} {n k : Nat} {L : Nat → List UInt8} (h0 : wr.heap[w.heap.size]? = some (.cells cs 9 (0, 0)))
    (hsz : cs.size = n) (hlie : lieS cs k L) (hlt : k < n) (hbl : Below w.heap.size w wr) (hb1 : Below wr.heap.size wr w1) :
      (∃ cs, (w1.setCell ⟨w.heap.size, k, none⟩ (sv (L k))).heap[w.heap.size]? = some (.cells cs 9 (0, 0)) ∧ cs.size = n ∧ lieS cs (k + 1) L) ∧
      Below w.heap.size w (w1.setCell ⟨w.heap.size, k, none⟩ (sv (L k))) := by
  have hs := hbl.size
  exact ⟨⟨_, block_set _ (below_block hb1 h0 (lt_of_block h0)), by simp [hsz], lieS_set hlie (by omega)⟩, (hbl.trans (hb1.mono hs)).setCell (by simp) _⟩

set_option maxHeartbeats 1000000 in
theorem texts_none (ao : Option Addr) (cap width : Nat) (w : World) :
    Calls Try.prog 33 #[.slice ao 0 cap, .int .i64 (width : Int)] w fun e w' => e = .returned (.slice (some ⟨w.heap.size, 0, none⟩) 0 0) ∧ w'.heap[w.heap.size]? = some (.cells (madeS 0) 9 (0, 0)) ∧ Below w.heap.size w w' := by
  have hmk : ∀ w : World, (Instr.makeSlice 45 (.int .i64 0) (.int .i64 0)).run Try.prog w = .ok (.slice (some ⟨w.heap.size, 0, none⟩) 0 0) (w.alloc (.cells (madeS 0) 9)) :=
    run_make_row' (P := Try.prog) 45 9 (.string ByteArray.empty) 16 Try.underlying45 Try.infoString rfl .i64 .i64 0 (by omega) (by omega)
  go_enter Try.func33, Try.ntmps33
  go_wp2
  refine wp_loop_rounds 1 ?_
  rw [rounds_succ]
  go_wp2
  go_ret
  exact ⟨rfl, new_0 _ _, (Below.refl _ _).alloc (Nat.le_refl _) _⟩

set_option maxHeartbeats 1000000 in
theorem texts_some (L : Nat → List UInt8) (g n cap width : Nat) (w : World) (hg : g < w.heap.size) (hn : n ≤ 1000000)
    (hc : ∀ i, i < n → ∀ j, j < 4 → w.cell? ⟨g, i * 4 + j, none⟩ = (tc (L i))[j]?) (hr : ∀ i, i < n → Cu.right (L i) = true ∧ (L i).length = width) :
    Calls Try.prog 33 #[.slice (some ⟨g, 0, none⟩) n cap, .int .i64 (width : Int)] w fun e w' => e = .returned (.slice (some ⟨w.heap.size, 0, none⟩) n n) ∧ (∃ cs, w'.heap[w.heap.size]? = some (.cells cs 9 (0, 0)) ∧ cs.size = n ∧ lieS cs n L) ∧ Below w.heap.size w w' := by
  have hmk := run_make_row' (P := Try.prog) 45 9 (.string ByteArray.empty) 16 Try.underlying45 Try.infoString rfl .i64 .i64 n (by omega) (by omega)
  rw [show madeCells #[.string ByteArray.empty] n = madeS n from rfl] at hmk
  have HC : Hid (∀ i, i < n → ∀ j, j < 4 → w.cell? ⟨g, i * 4 + j, none⟩ = (tc (L i))[j]?) := hc
  have HR : Hid (∀ i, i < n → Cu.right (L i) = true ∧ (L i).length = width) := hr
  clear hc hr
  go_enter Try.func33, Try.ntmps33
  go_wp2
  go_loopw [13] (fun i wr => ∃ k : Nat, k ≤ n ∧ i = .int .i64 k ∧ (∃ cs, wr.heap[w.heap.size]? = some (.cells cs 9 (0, 0)) ∧ cs.size = n ∧ lieS cs k L) ∧ Below w.heap.size w wr)
    (fun i _ => n - (intOf i).toNat)
  case atStart => exact ⟨0, Nat.zero_le _, rfl, ⟨madeS n, new_0 _ _, madeS_size n, lieS_zero _ _⟩, (Below.refl _ _).alloc (Nat.le_refl _) _⟩
  case round =>
    obtain ⟨k, hk, rfl, ⟨cs, h0, hsz, hlie⟩, hbl⟩ := hrel
    have H0 : Hid _ := h0
    have hlt0 := lt_of_block h0
    clear h0
    by_cases hlt : k < n
    · have t0 : wr.cell? ⟨g, k * 4, none⟩ = some (.int .u64 (Cu.wd (Cu.fixAt (L k)) 0 : Int)) := by rw [hbl.cell (by exact hg)]; exact HC.out k hlt 0 (by omega)
      have t1 : wr.cell? ⟨g, k * 4 + 1, none⟩ = some (.int .u64 (Cu.wd (Cu.fixAt (L k)) 1 : Int)) := by rw [hbl.cell (by exact hg)]; exact HC.out k hlt 1 (by omega)
      have t2 : wr.cell? ⟨g, k * 4 + 2, none⟩ = some (.int .u64 (Cu.wd (Cu.oneAt (L k)) 0 : Int)) := by rw [hbl.cell (by exact hg)]; exact HC.out k hlt 2 (by omega)
      have t3 : wr.cell? ⟨g, k * 4 + 3, none⟩ = some (.int .u64 (Cu.wd (Cu.oneAt (L k)) 1 : Int)) := by rw [hbl.cell (by exact hg)]; exact HC.out k hlt 3 (by omega)
      go_wp2_with fail
      refine (text_any (L k) width _ (HR.out k hlt).1 (HR.out k hlt).2).mono ?_
      rintro e w1 ⟨rfl, hb1⟩
      have hb1' : Below wr.heap.size wr w1 := ((Below.refl _ _).alloc (Nat.le_refl _) _).trans (hb1.mono (by simp))
      have HB : Hid _ := below_block hb1' H0.out hlt0
      obtain ⟨y, hy⟩ := cells_some HB.out (x := k) (by omega)
      have f : w1.frozen? ⟨w.heap.size, k, none⟩ = false := free_of HB.out
      clear t0 t1 t2 t3
      go_wp2
      go_roundw
      case rel =>
        have R := rel_texts H0.out hsz hlie hlt hbl hb1'
        exact ⟨k + 1, by omega, by go_num, R.1, R.2⟩
      case measure => simp [intOf]; omega
    · have hkn : k = n := by omega
      subst hkn
      go_wp2
      go_ret
      exact ⟨rfl, ⟨cs, H0.out, hsz, hlie⟩, hbl⟩
end Go.Proofs.Ytenlmigdlibgeaa
