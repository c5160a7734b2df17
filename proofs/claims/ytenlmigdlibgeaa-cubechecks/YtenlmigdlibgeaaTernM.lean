/-
  What the methods of a ternary do: meet.
-/
import Derived.Test.YtenlmigdlibgeaaTern
namespace Go.Proofs.Ytenlmigdlibgeaa
open Go.RowKit

/-- The or of two words, in the walk's spelling. -/
abbrev orw (f g : Nat) : Value := .int .u64 (bits .or .u64 (f : Int) (g : Int))

set_option maxHeartbeats 1000000 in
theorem meet_words (f0 f1 o0 o1 g0 g1 p0 p1 : Nat) (w : World) :
    Calls Try.prog 31 #[wv f0 f1 o0 o1, wv g0 g1 p0 p1] w fun e w' =>
      e = .returned (.agg #[orw f0 g0, orw f1 g1, orw o0 p0, orw o1 p1]) ∧ Below w.heap.size w w' := by
  go_enter Try.func31, Try.ntmps31
  go_wp2
  go_loopw [6] (fun i wr => ((i = .int .i64 0 ∧ wr.heap[w.heap.size]? = some (.cells (wc f0 f1 o0 o1) 69 (0, 0))) ∨ (i = .int .i64 1 ∧ wr.heap[w.heap.size]? = some (.cells #[orw f0 g0, .int .u64 (f1 : Int), orw o0 p0, .int .u64 (o1 : Int)] 69 (0, 0))) ∨ (i = .int .i64 2 ∧ wr.heap[w.heap.size]? = some (.cells #[orw f0 g0, orw f1 g1, orw o0 p0, orw o1 p1] 69 (0, 0)))) ∧
      wr.heap[w.heap.size + 1]? = some (.cells (wc g0 g1 p0 p1) 69 (0, 0)) ∧ wr.heap[w.heap.size + 2]? = some (.cells #[.int .u64 0, .int .u64 0, .int .u64 0, .int .u64 0] 69 (0, 0)) ∧ Below w.heap.size w wr)
    (fun i _ => 2 - (intOf i).toNat)
  case atStart =>
    have R := start_three w (.cells (wc f0 f1 o0 o1) 69 (0, 0)) (.cells (wc g0 g1 p0 p1) 69 (0, 0)) (.cells #[.int .u64 0, .int .u64 0, .int .u64 0, .int .u64 0] 69 (0, 0))
    exact ⟨Or.inl ⟨rfl, R.1⟩, R.2.1, R.2.2.1, R.2.2.2⟩
  case round =>
    obtain ⟨hi, h1, h2, hb⟩ := hrel
    obtain ⟨u0, u1, u2, u3⟩ := four_cell h1
    have H1 : Hid _ := h1
    have H2 : Hid _ := h2
    rcases hi with ⟨rfl, h0⟩ | ⟨rfl, h0⟩ | ⟨rfl, h0⟩
    · obtain ⟨t0, t1, t2, t3⟩ := four_cell h0
      have F0 : wr.frozen? ⟨w.heap.size, 0, none⟩ = false := free_of h0
      have F2 : wr.frozen? ⟨w.heap.size, 2, none⟩ = false := free_of h0
      have H0 : Hid _ := h0
      clear h0 h1 h2
      go_wp2
      go_region
      go_wp2
      go_region
      go_wp2
      go_roundw
      case rel =>
        refine ⟨Or.inr (Or.inl ⟨rfl, ?_⟩), ?_, ?_, ((hb.setCell (by simp) _).setCell (by simp) _).drew.drew⟩
        · exact block_set _ (block_set _ H0.out)
        · exact ((Below.heap_setCell _ _ _ _ (by simp)).trans (Below.heap_setCell _ _ _ _ (by simp))).trans H1.out
        · exact ((Below.heap_setCell _ _ _ _ (by simp)).trans (Below.heap_setCell _ _ _ _ (by simp))).trans H2.out
      case measure => simp [intOf]
    · obtain ⟨t0, t1, t2, t3⟩ := four_cell h0
      have F1 : wr.frozen? ⟨w.heap.size, 1, none⟩ = false := free_of h0
      have F3 : wr.frozen? ⟨w.heap.size, 3, none⟩ = false := free_of h0
      have H0 : Hid _ := h0
      clear h0 h1 h2
      go_wp2
      go_region
      go_wp2
      go_region
      go_wp2
      go_roundw
      case rel =>
        refine ⟨Or.inr (Or.inr ⟨rfl, ?_⟩), ?_, ?_, ((hb.setCell (by simp) _).setCell (by simp) _).drew.drew⟩
        · exact block_set _ (block_set _ H0.out)
        · exact ((Below.heap_setCell _ _ _ _ (by simp)).trans (Below.heap_setCell _ _ _ _ (by simp))).trans H1.out
        · exact ((Below.heap_setCell _ _ _ _ (by simp)).trans (Below.heap_setCell _ _ _ _ (by simp))).trans H2.out
      case measure => simp [intOf]
    · obtain ⟨t0, t1, t2, t3⟩ := four_cell h0
      obtain ⟨v0, v1, v2, v3⟩ := four_cell h2
      have F0 : wr.frozen? ⟨w.heap.size + 2, 0, none⟩ = false := free_of h2
      have F1 : wr.frozen? ⟨w.heap.size + 2, 1, none⟩ = false := free_of h2
      have F2 : wr.frozen? ⟨w.heap.size + 2, 2, none⟩ = false := free_of h2
      have F3 : wr.frozen? ⟨w.heap.size + 2, 3, none⟩ = false := free_of h2
      clear h0 h1 h2
      go_wp2
      refine bodyPost_ret (v := .agg #[orw f0 g0, orw f1 g1, orw o0 p0, orw o1 p1]) ?_ rfl ⟨rfl, ?_⟩
      · simp [results, Try.results31, go_sem, v0, v1, v2, v3]
      · have q : w.heap.size ≤ w.heap.size + 2 := by omega
        exact (((hb.setCell q _).setCell q _).setCell q _).setCell q _
end Go.Proofs.Ytenlmigdlibgeaa
