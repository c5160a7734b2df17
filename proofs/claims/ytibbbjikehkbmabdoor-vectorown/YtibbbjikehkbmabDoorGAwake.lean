/-
  The laws' own run: two vectors that agree.
-/
import Derived.Test.YtibbbjikehkbmabDoorGMrg
import Derived.Test.YtibbbjikehkbmabDoorGText
namespace Go.Proofs.YtibbbjikehkbmabDoor.Ve
open Go.RowKit

theorem vec_laid {w : World} {cs : Array Value} {t : TypeId} {l : List St} {b n : Nat} (hb : b = w.heap.size) (h : cs.toList = flatS l) (hn : n = l.length) : VecV (w.alloc (.cells cs t)) (.slice (some ⟨b, 0, none⟩) n n) l := by
  subst hb
  refine ⟨some ⟨w.heap.size, 0, none⟩, n, by rw [hn], by omega, fun q => (by cases q), Or.inr ⟨w.heap.size, 0, rfl, by simp, fun j s hj => ?_⟩⟩
  obtain ⟨h0, h1⟩ := flatS_get hj
  rw [← h] at h0 h1
  rw [Nat.zero_add, cell_news, cell_news, ← Array.getElem?_toList, ← Array.getElem?_toList]
  exact ⟨h0, h1⟩
def vA : List St := [(0, 1), (2, 5)]
def vB : List St := [(2, 5), (3, 1)]
def vC : List St := [(0, 1), (2, 5), (3, 1)]
theorem mrg_awake : mrgP [vA, vB] = (vC, true, 0) := by decide +kernel
theorem vtx_awake : vtx vC = [48, 58, 49, 32, 50, 58, 53, 32, 51, 58, 49] := by decide +kernel
theorem right_C : Right vC := by decide +kernel
set_option maxRecDepth 20000 in
set_option maxHeartbeats 2000000 in
theorem awake_any (w : World) : Calls Tryd.prog 11 #[] w fun e w' => e = .returned (.bool true) ∧ Below w.heap.size w w' := by
  obtain ⟨W1, hW1⟩ : ∃ W1, W1 = (w.alloc (.cells #[.int .i64 0, .int .u64 1, .int .i64 2, .int .u64 5] 33)).alloc (.cells #[.int .i64 2, .int .u64 5, .int .i64 3, .int .u64 1] 33) := ⟨_, rfl⟩
  have z1 : W1.heap.size = w.heap.size + 1 + 1 := by rw [hW1]; simp
  have hB1 : Below w.heap.size w W1 := by rw [hW1]; exact ((Below.refl _ w).alloc (Nat.le_refl _) _).alloc (by simp) _
  have va : VecV W1 (.slice (some ⟨w.heap.size, 0, none⟩) 2 2) vA := by
    rw [hW1]
    exact (vec_laid (w := w) (cs := #[.int .i64 0, .int .u64 1, .int .i64 2, .int .u64 5]) (t := 33) (l := vA) rfl rfl rfl).below (below_al _ _)
  have vb : VecV W1 (.slice (some ⟨w.heap.size + 1, 0, none⟩) 2 2) vB := by
    rw [hW1]
    exact vec_laid (l := vB) (by simp) rfl rfl
  have hv := vecs_two (t := 23) (n := w.heap.size + 1 + 1) z1.symm va vb
  have HM := hid (Merge_any hv (by simp [maxLen]) (fun l hl => by simp at hl; rcases hl with rfl | rfl <;> simp [maxLen, vA, vB]))
  rw [mrg_awake] at HM
  have HB := hid (hB1.alloc hB1.size (.cells #[.slice (some ⟨w.heap.size, 0, none⟩) 2 2, .slice (some ⟨w.heap.size + 1, 0, none⟩) 2 2] 23))
  have HVT := hid vtx_awake
  clear hv va vb z1 hB1
  subst hW1
  go_enter Tryd.func11, Tryd.ntmps11
  go_wp2_with fail
  refine HM.out.mono ?_
  rintro e w1 ⟨v1, rfl, ho, hb1⟩
  have HB1 := hid (HB.out.trans (hb1.mono HB.out.size))
  have HX := hid (Text_ok ho.vec right_C (by decide) (fun s hs => by
    have : ∀ s ∈ vC, (stS s).length ≤ 24 := by decide +kernel
    exact this s hs) (fun s hs W _ => by
    obtain ⟨d, u⟩ := s
    have hd : ∀ s ∈ vC, (0 ≤ s.1 ∧ s.1 < 100) ∧ s.2 < 100 := by decide
    obtain ⟨⟨h1, h2⟩, h3⟩ := hd _ hs
    obtain ⟨k, rfl⟩ : ∃ k : Nat, d = (k : Int) := ⟨d.toNat, by simp only at h1; omega⟩
    exact textOf_small k u (by simp only at h2; omega) h3 W))
  obtain ⟨a, c, e⟩ := ho.form
  subst e
  clear ho hb1
  rw [HVT.out] at HX
  go_wp2_with fail
  refine HX.out.mono ?_
  rintro e w2 ⟨rfl, hb2⟩
  go_wp2
  go_ret
  exact ⟨by rfl, HB1.out.trans (hb2.mono HB1.out.size)⟩
end Go.Proofs.YtibbbjikehkbmabDoor.Ve
