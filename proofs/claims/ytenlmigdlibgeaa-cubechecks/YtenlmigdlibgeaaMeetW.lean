/-
  Meet: what two texts have in common.
-/
import Derived.Test.YtenlmigdlibgeaaText
namespace Go.Proofs.Ytenlmigdlibgeaa
open Go.RowKit

/-- Two texts by number. -/
def two (a b : ByteArray) (i : Nat) : ByteArray := if i = 0 then a else b

theorem two_cells (w : World) (a b : ByteArray) : ∀ i, i < 2 → (w.alloc (.cells #[.string a, .string b] 9)).cell? ⟨w.heap.size, 0 + i, none⟩ = some (.string (two a b i)) := by
  intro i hi
  have h := new_0 w (.cells #[.string a, .string b] 9)
  have : i = 0 ∨ i = 1 := by omega
  unfold World.cell?
  rcases this with rfl | rfl <;> (rw [h]; rfl)
theorem two_0 (a b : ByteArray) : two a b 0 = a := rfl
theorem two_1 (a b : ByteArray) : two a b 1 = b := rfl
theorem two_right {a b : ByteArray} (ha : Cu.right a.data.toList = true) (hb : Cu.right b.data.toList = true) : ∀ i, i < 2 → Cu.right (by_ (two a b) i) = true := by
  intro i hi
  have : i = 0 ∨ i = 1 := by omega
  rcases this with rfl | rfl
  · exact ha
  · exact hb
theorem two_size {a b : ByteArray} (hs : a.size = b.size) : ∀ i, i < 2 → (two a b i).size = (two a b 0).size := by
  intro i hi
  have : i = 0 ∨ i = 1 := by omega
  rcases this with rfl | rfl
  · rfl
  · exact hs.symm

/-- What read answers of two texts. -/
def err2 (a b : ByteArray) : Int := if Cu.right a.data.toList = true ∧ Cu.right b.data.toList = true then (if a.size = b.size then 0 else 11) else 10

theorem read2_bad (a b : ByteArray) (w : World) (h : err2 a b ≠ 0) :
    Calls Try.prog 15 #[.slice (some ⟨w.heap.size, 0, none⟩) 2 2] (w.alloc (.cells #[.string a, .string b] 9)) fun e w' =>
      e = .returned (.tuple #[.slice none 0 0, .int .i64 (err2 a b)]) ∧ Below w.heap.size w w' := by
  have hB : Below w.heap.size w (w.alloc (.cells #[.string a, .string b] 9)) := (Below.refl _ _).alloc (Nat.le_refl _) _
  by_cases ha : Cu.right a.data.toList = true
  · by_cases hb : Cu.right b.data.toList = true
    · have hs : a.size ≠ b.size := by
        intro e; apply h; unfold err2; rw [if_pos ⟨ha, hb⟩, if_pos e]
      have he : err2 a b = 11 := by unfold err2; rw [if_pos ⟨ha, hb⟩, if_neg hs]
      rw [he]
      refine (read_width (two a b) 2 w.heap.size 0 2 _ (by simp) (two_cells w a b) (by omega) (by omega) (two_right ha hb) 1 (by omega) ?_).mono ?_
      · rw [two_0, two_1]; exact fun e => hs e.symm
      · rintro e w' ⟨rfl, hb'⟩
        exact ⟨rfl, hB.trans (hb'.mono (by simp))⟩
    · have he : err2 a b = 10 := by unfold err2; rw [if_neg (fun h => hb h.2)]
      rw [he]
      refine (read_wrong (two a b) 2 w.heap.size 0 2 _ (by simp) (two_cells w a b) (by omega) (by omega) 1 (by omega) ?_ ?_).mono ?_
      · intro i hi
        have : i = 0 := by omega
        subst this; exact ha
      · exact Bool.eq_false_iff.2 hb
      · rintro e w' ⟨rfl, hb'⟩
        exact ⟨rfl, hB.trans (hb'.mono (by simp))⟩
  · have he : err2 a b = 10 := by unfold err2; rw [if_neg (fun h => ha h.1)]
    rw [he]
    refine (read_wrong (two a b) 2 w.heap.size 0 2 _ (by simp) (two_cells w a b) (by omega) (by omega) 0 (by omega) ?_ ?_).mono ?_
    · intro i hi; omega
    · exact Bool.eq_false_iff.2 ha
    · rintro e w' ⟨rfl, hb'⟩
      exact ⟨rfl, hB.trans (hb'.mono (by simp))⟩

/-- The cells of two ternaries. -/
def eight (w : World) (g : Nat) (a b : List UInt8) : Prop :=
  (w.cell? ⟨g, 0, none⟩ = some (.int .u64 (Cu.wd (Cu.fixAt a) 0 : Int)) ∧ w.cell? ⟨g, 1, none⟩ = some (.int .u64 (Cu.wd (Cu.fixAt a) 1 : Int)) ∧ w.cell? ⟨g, 2, none⟩ = some (.int .u64 (Cu.wd (Cu.oneAt a) 0 : Int)) ∧ w.cell? ⟨g, 3, none⟩ = some (.int .u64 (Cu.wd (Cu.oneAt a) 1 : Int))) ∧
  (w.cell? ⟨g, 4, none⟩ = some (.int .u64 (Cu.wd (Cu.fixAt b) 0 : Int)) ∧ w.cell? ⟨g, 5, none⟩ = some (.int .u64 (Cu.wd (Cu.fixAt b) 1 : Int)) ∧ w.cell? ⟨g, 6, none⟩ = some (.int .u64 (Cu.wd (Cu.oneAt b) 0 : Int)) ∧ w.cell? ⟨g, 7, none⟩ = some (.int .u64 (Cu.wd (Cu.oneAt b) 1 : Int)))
theorem eight_of {w : World} {g : Nat} {cs : Array Value} {L : Nat → List UInt8} (h : w.heap[g]? = some (.cells cs 69 (0, 0))) (hl : lie cs 2 L) : eight w g (L 0) (L 1) := by
  have a0 := hl 0 (by omega) 0 (by omega)
  have a1 := hl 0 (by omega) 1 (by omega)
  have a2 := hl 0 (by omega) 2 (by omega)
  have a3 := hl 0 (by omega) 3 (by omega)
  have b0 := hl 1 (by omega) 0 (by omega)
  have b1 := hl 1 (by omega) 1 (by omega)
  have b2 := hl 1 (by omega) 2 (by omega)
  have b3 := hl 1 (by omega) 3 (by omega)
  simp only [c4] at a0 a1 a2 a3 b0 b1 b2 b3
  simp [eight, World.cell?, h, a0, a1, a2, a3, b0, b1, b2, b3]
theorem eight_below {B : Nat} {w w' : World} {g : Nat} {a b : List UInt8} (h : eight w g a b) (hb : Below B w w') (hg : g < B) : eight w' g a b := by
  unfold eight
  rw [hb.cell (by exact hg), hb.cell (by exact hg), hb.cell (by exact hg), hb.cell (by exact hg), hb.cell (by exact hg), hb.cell (by exact hg), hb.cell (by exact hg), hb.cell (by exact hg)]
  exact h

theorem read2_ok (a b : ByteArray) (w : World) (ha : Cu.right a.data.toList = true) (hb : Cu.right b.data.toList = true) (hs : a.size = b.size) :
    Calls Try.prog 15 #[.slice (some ⟨w.heap.size, 0, none⟩) 2 2] (w.alloc (.cells #[.string a, .string b] 9)) fun e w' =>
      e = .returned (.tuple #[.slice (some ⟨w.heap.size + 3, 0, none⟩) 2 2, .int .i64 0]) ∧ eight w' (w.heap.size + 3) a.data.toList b.data.toList ∧ w.heap.size + 3 < w'.heap.size ∧ Below w.heap.size w w' := by
  have hB : Below w.heap.size w (w.alloc (.cells #[.string a, .string b] 9)) := (Below.refl _ _).alloc (Nat.le_refl _) _
  have := read_right (two a b) 2 w.heap.size 0 2 _ (by simp) (two_cells w a b) (by omega) (by omega) (two_right ha hb) (two_size hs)
  simp only [World.size_alloc] at this
  refine this.mono ?_
  rintro e w' ⟨rfl, ⟨cs, h2, _, hl⟩, hb'⟩
  have h8 := eight_of h2 hl
  rw [show by_ (two a b) 0 = a.data.toList from rfl, show by_ (two a b) 1 = b.data.toList from rfl] at h8
  exact ⟨rfl, h8, lt_of_block h2, hB.trans (hb'.mono (by simp))⟩
end Go.Proofs.Ytenlmigdlibgeaa
