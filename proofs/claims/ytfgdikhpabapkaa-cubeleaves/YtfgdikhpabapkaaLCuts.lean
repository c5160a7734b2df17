/-
  The law CubeCuts: of any two texts it answers true.
-/
import Derived.Test.YtfgdikhpabapkaaRCut
import Derived.Test.YtfgdikhpabapkaaOrder
namespace Go.Proofs.Ytfgdikhpabapkaa
open Go.RowKit

theorem two_len {a b : ByteArray} (ha : a.size ≤ maxLen) (hb : b.size ≤ maxLen) : ∀ i, i < 2 → (two a b i).size ≤ maxLen := by
  intro i hi
  have : i = 0 ∨ i = 1 := by omega
  rcases this with rfl | rfl
  · exact ha
  · exact hb

theorem wrong2_any (a b : ByteArray) (w : World) (ha : a.size ≤ maxLen) (hb : b.size ≤ maxLen) :
    Calls Try.prog 31 #[.slice (some ⟨w.heap.size, 0, none⟩) 2 2] (w.alloc (.cells #[.string a, .string b] 9)) fun e w' => e = .returned (.int .i64 (err2 a b)) ∧ Below w.heap.size w w' := by
  have hB : Below w.heap.size w (w.alloc (.cells #[.string a, .string b] 9)) := (Below.refl _ _).alloc (Nat.le_refl _) _
  by_cases hra : Cu.right a.data.toList = true
  · by_cases hrb : Cu.right b.data.toList = true
    · by_cases hs : a.size = b.size
      · have he : err2 a b = 0 := err2_of hra hrb hs
        rw [he]
        refine (wrong_rest (two a b) 2 w.heap.size 0 2 _ (two_cells w a b) (by omega) (by omega) (two_len ha hb) (two_right hra hrb) 0 (Or.inl ⟨rfl, two_size hs⟩)).mono ?_
        rintro e w' ⟨rfl, hb'⟩
        exact ⟨rfl, hB.trans (hb'.mono (by simp))⟩
      · have he : err2 a b = 11 := by unfold err2; rw [if_pos ⟨hra, hrb⟩, if_neg hs]
        rw [he]
        refine (wrong_rest (two a b) 2 w.heap.size 0 2 _ (two_cells w a b) (by omega) (by omega) (two_len ha hb) (two_right hra hrb) 11 (Or.inr ⟨rfl, 1, by omega, fun e => hs e.symm⟩)).mono ?_
        rintro e w' ⟨rfl, hb'⟩
        exact ⟨rfl, hB.trans (hb'.mono (by simp))⟩
    · have he : err2 a b = 10 := by unfold err2; rw [if_neg (fun h => hrb h.2)]
      rw [he]
      refine (wrong_cube (two a b) 2 w.heap.size 0 2 _ (two_cells w a b) (by omega) (two_len ha hb) 1 (by omega) ?_ (Bool.eq_false_iff.2 hrb)).mono ?_
      · intro i hi
        have e : i = 0 := by omega
        subst e; exact hra
      · rintro e w' ⟨rfl, hb'⟩
        exact ⟨rfl, hB.trans (hb'.mono (by simp))⟩
  · have he : err2 a b = 10 := by unfold err2; rw [if_neg (fun h => hra h.1)]
    rw [he]
    refine (wrong_cube (two a b) 2 w.heap.size 0 2 _ (two_cells w a b) (by omega) (two_len ha hb) 0 (by omega) (fun i hi => by omega) (Bool.eq_false_iff.2 hra)).mono ?_
    rintro e w' ⟨rfl, hb'⟩
    exact ⟨rfl, hB.trans (hb'.mono (by simp))⟩

/-- A row of texts that the call itself has made. -/
theorem row_own {w : World} {base : Nat} {v : Value} {ls : List (List UInt8)} (h : w.ownsRow base 9 1 v ls.length (svs ls)) : Row w v ls := by
  have h0 := h
  rcases h.2 with ⟨e, e2⟩ | ⟨g, cap, cur, e, _, hg, _⟩
  · have : ls = [] := List.length_eq_zero_iff.1 e2
    subst this
    exact ⟨none, 0, e, Or.inl rfl⟩
  · subst e
    refine ⟨_, cap, rfl, Or.inr ⟨g, 0, rfl, lt_of_block hg, fun i hi => ?_⟩⟩
    rw [Nat.zero_add, h0.cellAt i (by omega)]
    simp [svs, List.getElem?_eq_getElem hi]

/-- What is left of two texts. -/
def cutR (a b : ByteArray) : List (List UInt8) := if err2 a b = 0 then Cu.cutL a.data.toList b.data.toList else []

theorem rcut_any (a b : ByteArray) (w : World) (h : err2 a b = 0) :
    Calls Try.prog 32 #[.string a, .string b] w fun e w' => ∃ v, e = .returned v ∧ Row w' v (Cu.cutL a.data.toList b.data.toList) ∧ Below w.heap.size w w' := by
  obtain ⟨ha, hb, hs⟩ := err2_zero h
  rcases bool_two (Cu.meetsB a.data.toList b.data.toList) with hm | hm
  · refine (rcut_apart a b w ha hb hs hm).mono ?_
    rintro e w' ⟨v, rfl, hown, hb'⟩
    refine ⟨v, rfl, ?_, hb'⟩
    have e : Cu.cutL a.data.toList b.data.toList = [a.data.toList] := by unfold Cu.cutL; rw [hm, if_neg (by simp)]
    rw [e]
    exact row_own hown
  · refine (rcut_meet a b w ha hb hs hm).mono ?_
    rintro e w' ⟨v, rfl, hown, hb'⟩
    refine ⟨v, rfl, ?_, hb'⟩
    have e : Cu.cutL a.data.toList b.data.toList = Cu.cutTo a.data.toList b.data.toList a.size := by unfold Cu.cutL; rw [hm, if_pos rfl, len_data]
    rw [e]
    exact row_own hown

set_option maxHeartbeats 400000 in
theorem RCut_any (a b : ByteArray) (w : World) (ha : a.size ≤ maxLen) (hb : b.size ≤ maxLen) :
    Calls Try.prog 13 #[.string a, .string b] w fun e w' => ∃ v, e = .returned (.tuple #[v, .int .i64 (err2 a b)]) ∧ Row w' v (cutR a b) ∧ Below w.heap.size w w' := by
  by_cases h : err2 a b = 0
  · have hne : (err2 a b != 0) = false := by rw [h]; rfl
    have H := hid h
    have e : cutR a b = Cu.cutL a.data.toList b.data.toList := if_pos h
    rw [e]
    clear h e
    go_enter Try.func13, Try.ntmps13
    go_wp2_with fail
    refine (wrong2_any a b w ha hb).mono ?_
    rintro e w1 ⟨rfl, hb1⟩
    go_wp2_with fail
    refine (rcut_any a b _ H.out).mono ?_
    rintro e w2 ⟨v, rfl, hrow, hb2⟩
    go_wp2
    go_ret2
    refine ⟨v, ?_, hrow, below2 hb1 hb2⟩
    rw [H.out]; rfl
  · have hne : (err2 a b != 0) = true := by rw [bne_iff_ne]; exact h
    have e : cutR a b = [] := if_neg h
    rw [e]
    clear h e
    go_enter Try.func13, Try.ntmps13
    go_wp2_with fail
    refine (wrong2_any a b w ha hb).mono ?_
    rintro e w1 ⟨rfl, hb1⟩
    go_wp2
    go_ret2
    exact ⟨_, rfl, Row.nil _, hb1⟩

theorem Cut_any (a b : ByteArray) (w : World) :
    Calls Try.prog 12 #[.string a, .string b] w fun e w' => ∃ v, e = .returned (.tuple #[v, .int .i64 (err2 a b)]) ∧ Row w' v (cutR a b) ∧ Below w.heap.size w w' := by
  by_cases h : err2 a b = 0
  · obtain ⟨ha, hb, hs⟩ := err2_zero h
    refine (Cut_ok a b w ha hb hs).mono ?_
    rintro e w' ⟨v, rfl, ht, hb'⟩
    have e : cutR a b = Cu.cutL a.data.toList b.data.toList := if_pos h
    rw [h, e]
    exact ⟨v, rfl, ht.row, hb'⟩
  · refine (Cut_bad a b w h).mono ?_
    rintro e w' ⟨rfl, hb'⟩
    have e : cutR a b = [] := if_neg h
    rw [e]
    exact ⟨_, rfl, Row.nil _, hb'⟩

theorem cutR_length (a b : ByteArray) : (cutR a b).length ≤ 128 := by
  unfold cutR
  split
  · rename_i h; exact Cu.cutL_length (err2_zero h).1
  · simp

set_option maxHeartbeats 1000000 in
theorem cuts_any (a b : ByteArray) (w : World) (ha : a.size ≤ maxLen) (hb : b.size ≤ maxLen) :
    Calls Try.prog 4 #[.string a, .string b] w fun e w' => e = .returned (.bool true) ∧ Below w.heap.size w w' := by
  go_enter Try.func4, Try.ntmps4
  go_wp2_with fail
  refine (Cut_any a b _).mono ?_
  rintro e w1 ⟨v1, rfl, r1, hb1⟩
  have R1 := hid r1
  clear r1
  go_wp2_with fail
  refine (RCut_any a b _ ha hb).mono ?_
  rintro e w2 ⟨v2, rfl, r2, hb2⟩
  have R2 := hid r2
  clear r2
  have B2 := below2 hb1 hb2
  go_wp2_with fail
  have m := Texts_rows v1 v2 (cutR a b) (cutR a b) w2 (R1.out.below hb2 (Nat.le_refl _)) R2.out (Nat.le_trans (cutR_length a b) (by omega))
  rw [show decide (cutR a b = cutR a b) = true from decide_eq_true rfl] at m
  refine m.mono ?_
  clear m
  rintro e w3 ⟨rfl, hb3⟩
  have B3 := below2 B2 hb3
  go_wp2_with fail
  refine (alive_any _).mono ?_
  rintro e w4 ⟨rfl, hb4⟩
  go_wp2
  go_ret
  exact ⟨rfl, below2 B3 hb4⟩
end Go.Proofs.Ytfgdikhpabapkaa
