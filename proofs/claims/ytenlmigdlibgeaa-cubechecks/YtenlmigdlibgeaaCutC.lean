/-
  Cut of two texts; the comparison of two rows of texts; alive.
-/
import Derived.Test.YtenlmigdlibgeaaTexts
namespace Go.Proofs.Ytenlmigdlibgeaa
open Go.RowKit
attribute [local go_sem ↓] Go.wp_at_zero Go.wp_at_succ

/-- A slice of texts in a block: the first cells of the block are ls. -/
def Texts (w : World) (v : Value) (ls : List (List UInt8)) : Prop :=
  ∃ g cap cs, v = .slice (some ⟨g, 0, none⟩) ls.length cap ∧ w.heap[g]? = some (.cells cs 9 (0, 0)) ∧ ∀ i (h : i < ls.length), cs[i]? = some (sv ls[i])

theorem Texts.below {w w' : World} {v : Value} {ls : List (List UInt8)} (h : Texts w v ls) (hb : Below w.heap.size w w') : Texts w' v ls := by
  obtain ⟨g, cap, cs, e, hg, hc⟩ := h
  exact ⟨g, cap, cs, e, below_block hb hg (lt_of_block hg), hc⟩

/-- The cells of a row of ternaries. -/
theorem flat_get (ls : List (List UInt8)) : ∀ i (h : i < ls.length) j, j < 4 → (flat ls)[i * 4 + j]? = (tc ls[i])[j]? := by
  induction ls with
  | nil => intro i h; simp at h
  | cons l ls ih =>
    intro i h j hj
    have e : flat (l :: ls) = (tc l).toList ++ flat ls := by rw [show l :: ls = [l] ++ ls from rfl, flat_append, flat_one]
    have hl : (tc l).toList.length = 4 := rfl
    rw [e]
    cases i with
    | zero => rw [List.getElem?_append_left (by rw [hl]; omega)]; simp
    | succ i =>
      rw [List.getElem?_append_right (by rw [hl]; omega), hl, show (i + 1) * 4 + j - 4 = i * 4 + j from by omega]
      exact ih i (by simpa using h) j hj

/-- texts, of a row that the call itself has made. -/
theorem texts_own (ls : List (List UInt8)) (v : Value) (base n width : Nat) (w : World) (hown : w.ownsRow base 69 4 v n (flat ls)) (hn : n = ls.length) (hm : n ≤ 1000000)
    (hr : ∀ l ∈ ls, Cu.right l = true ∧ l.length = width) :
    Calls Try.prog 33 #[v, .int .i64 (width : Int)] w fun e w' => ∃ v', e = .returned v' ∧ Texts w' v' ls ∧ Below w.heap.size w w' := by
  subst hn
  cases ls with
  | nil =>
    have hv : ∃ ao cap, v = .slice ao 0 cap := by
      rcases hown.2 with ⟨e, _⟩ | ⟨g, cap, cur, e, _⟩
      · exact ⟨_, _, e⟩
      · exact ⟨_, _, e⟩
    obtain ⟨ao, cap, rfl⟩ := hv
    refine (texts_none ao cap width w).mono ?_
    rintro e w' ⟨rfl, h, hb⟩
    exact ⟨_, rfl, ⟨w.heap.size, 0, madeS 0, rfl, h, fun i hi => by simp at hi⟩, hb⟩
  | cons l ls =>
    have hown' := hown
    rcases hown.2 with ⟨_, e⟩ | ⟨g, cap, cur, rfl, hbg, hg, _⟩
    · simp at e
    · have := texts_some (fun i => (l :: ls).getD i []) g (l :: ls).length cap width w (lt_of_block hg) hm ?_ ?_
      · refine this.mono ?_
        rintro e w' ⟨rfl, ⟨cs, h, hs, hl⟩, hb⟩
        refine ⟨_, rfl, ⟨w.heap.size, (l :: ls).length, cs, rfl, h, fun i hi => ?_⟩, hb⟩
        rw [hl i hi]
        simp only [List.getD_eq_getElem?_getD, List.getElem?_eq_getElem hi, Option.getD_some]
      · intro i hi j hj
        rw [hown'.cellAt (i * 4 + j) (by omega)]
        rw [flat_get _ i hi j hj]
        simp only [List.getD_eq_getElem?_getD, List.getElem?_eq_getElem hi, Option.getD_some]
      · intro i hi
        simp only [List.getD_eq_getElem?_getD, List.getElem?_eq_getElem hi, Option.getD_some]
        exact hr _ (List.getElem_mem hi)

/-- cut, in both cases. -/
theorem cut_any (a b : List UInt8) (width : Nat) (v : Value) (n : Nat) (xs : List Value) (base : Nat) (w : World) (ha : Cu.right a = true) (hb : Cu.right b = true) (h : a.length = b.length) (hw : a.length = width)
    (hown : w.ownsRow base 69 4 v n xs) (hbase : base ≤ w.heap.size) (hn : n ≤ 1000000) :
    Calls Try.prog 34 #[tv a, tv b, .int .i64 (width : Int), v] w fun e w' => ∃ v', e = .returned v' ∧ w'.ownsRow base 69 4 v' (n + (Cu.cutL a b).length) (xs ++ flat (Cu.cutL a b)) ∧ w.grownBy w' v.ownBlock ∧
      (v'.ownBlock = v.ownBlock ∨ ∃ g, v'.ownBlock = some g ∧ w.heap.size ≤ g) := by
  rcases bool_two (Cu.meetsB a b) with hm | hm
  · have e : Cu.cutL a b = [a] := by unfold Cu.cutL; rw [hm, if_neg (by simp)]
    rw [e]
    exact cut_apart a b width v n xs base w ha hb h hm hown hbase hn
  · have e : Cu.cutL a b = Cu.cutTo a b width := by unfold Cu.cutL; rw [hm, if_pos rfl, hw]
    rw [e]
    exact cut_meet a b width v n xs base w ha hb h hw hm hown hbase hn

theorem below_of_grown {a b : World} (h : a.grownBy b none) : Below a.heap.size a b := ⟨h.os, h.tape, h.output, h.size, fun i hi => h.block i hi (by simp)⟩

set_option maxHeartbeats 400000 in
theorem Cut_bad (a b : ByteArray) (w : World) (h : err2 a b ≠ 0) :
    Calls Try.prog 17 #[.string a, .string b] w fun e w' => e = .returned (.tuple #[.slice none 0 0, .int .i64 (err2 a b)]) ∧ Below w.heap.size w w' := by
  have hne : (err2 a b != 0) = true := by rw [bne_iff_ne]; exact h
  have H : Hid (err2 a b ≠ 0) := h
  clear h
  go_enter Try.func17, Try.ntmps17
  go_wp2_with fail
  refine (read2_bad a b w H.out).mono ?_
  rintro e w1 ⟨rfl, hb1⟩
  go_wp2
  go_ret2
  exact ⟨rfl, hb1⟩

set_option maxHeartbeats 1000000 in
theorem Cut_ok (a b : ByteArray) (w : World) (ha : Cu.right a.data.toList = true) (hb : Cu.right b.data.toList = true) (hs : a.size = b.size) :
    Calls Try.prog 17 #[.string a, .string b] w fun e w' => ∃ v', e = .returned (.tuple #[v', .int .i64 0]) ∧ Texts w' v' (Cu.cutL a.data.toList b.data.toList) ∧ Below w.heap.size w w' := by
  have HA : Hid (Cu.right a.data.toList = true) := ha
  have HB : Hid (Cu.right b.data.toList = true) := hb
  have HS : Hid (a.size = b.size) := hs
  have HLn : Hid ((Cu.cutL a.data.toList b.data.toList).length ≤ 128) := Cu.cutL_length ha
  have HR : Hid (∀ l ∈ Cu.cutL a.data.toList b.data.toList, Cu.right l = true ∧ l.length = a.size) := Cu.cutL_right ha hb hs
  clear ha hb hs
  go_enter Try.func17, Try.ntmps17
  go_wp2_with fail
  refine (read2_ok a b w HA.out HB.out HS.out).mono ?_
  rintro e w1 ⟨rfl, h8, hg, hb1⟩
  have H8 : Hid _ := h8
  obtain ⟨⟨a0, a1, a2, a3⟩, b0, b1, b2, b3⟩ := h8
  go_wp2_with fail
  go_region_held3 (fun w' => (w'.cell? ⟨w.heap.size + 3, 0, none⟩ = some (.int .u64 (Cu.wd (Cu.fixAt a.data.toList) 0 : Int)) ∧ w'.cell? ⟨w.heap.size + 3, 1, none⟩ = some (.int .u64 (Cu.wd (Cu.fixAt a.data.toList) 1 : Int)) ∧ w'.cell? ⟨w.heap.size + 3, 2, none⟩ = some (.int .u64 (Cu.wd (Cu.oneAt a.data.toList) 0 : Int)) ∧ w'.cell? ⟨w.heap.size + 3, 3, none⟩ = some (.int .u64 (Cu.wd (Cu.oneAt a.data.toList) 1 : Int))) ∧ (w'.cell? ⟨w.heap.size + 3, 4, none⟩ = some (.int .u64 (Cu.wd (Cu.fixAt b.data.toList) 0 : Int)) ∧ w'.cell? ⟨w.heap.size + 3, 5, none⟩ = some (.int .u64 (Cu.wd (Cu.fixAt b.data.toList) 1 : Int)) ∧ w'.cell? ⟨w.heap.size + 3, 6, none⟩ = some (.int .u64 (Cu.wd (Cu.oneAt b.data.toList) 0 : Int)) ∧ w'.cell? ⟨w.heap.size + 3, 7, none⟩ = some (.int .u64 (Cu.wd (Cu.oneAt b.data.toList) 1 : Int)))) (first | (go_keep; done) | exact h83 | exact h82) (first | (go_at_call 34; refine (cut_any a.data.toList b.data.toList a.size (.slice none 0 0) 0 [] w.heap.size _ HA.out HB.out HS.out rfl (World.ownsRow_nil _ _ _ _) (by exact hb1.size) (by omega)).mono ?_; rintro e w2 ⟨v2, rfl, hown2, hgr2, _⟩; have hb2 := below_of_grown hgr2; have h82 : eight w2 (w.heap.size + 3) a.data.toList b.data.toList := eight_below H8.out (undrew hb2) hg) | (go_at_call 33; refine (texts_own (Cu.cutL a.data.toList b.data.toList) v2 w.heap.size _ a.size _ (by simpa using hown2) rfl (Nat.le_trans HLn.out (by omega)) HR.out).mono ?_; rintro e w3 ⟨v3, rfl, htx, hb3⟩; have h83 : eight w3 (w.heap.size + 3) a.data.toList b.data.toList := eight_below h82 hb3 (Nat.lt_of_lt_of_le hg hb2.size)))
  go_wp2
  go_ret2
  exact ⟨v3, rfl, htx, (hb1.trans ((undrew hb2).mono hb1.size)).trans (hb3.mono (Nat.le_trans hb1.size hb2.size))⟩
end Go.Proofs.Ytenlmigdlibgeaa
