/-
  Meet and Inside in one contract each; what follows of them.
-/
import Derived.Test.YtenlmigdlibgeaaAlive
namespace Go.Proofs.Ytenlmigdlibgeaa
open Go.RowKit

def okB (a b : ByteArray) : Bool := decide (err2 a b = 0) && Cu.meetsB a.data.toList b.data.toList
def meetS (a b : ByteArray) : ByteArray := if okB a b = true then ⟨(Cu.meetL a.data.toList b.data.toList).toArray⟩ else ByteArray.empty
def insB (a b : ByteArray) : Bool := decide (err2 a b = 0) && Cu.insideB a.data.toList b.data.toList

theorem err2_zero {a b : ByteArray} (h : err2 a b = 0) : Cu.right a.data.toList = true ∧ Cu.right b.data.toList = true ∧ a.size = b.size := by
  unfold err2 at h
  split at h
  · rename_i h1
    split at h
    · rename_i h2; exact ⟨h1.1, h1.2, h2⟩
    · cases h
  · cases h
theorem err2_of {a b : ByteArray} (ha : Cu.right a.data.toList = true) (hb : Cu.right b.data.toList = true) (hs : a.size = b.size) : err2 a b = 0 := by
  unfold err2; rw [if_pos ⟨ha, hb⟩, if_pos hs]
theorem err2_comm (a b : ByteArray) : err2 b a = err2 a b := by
  unfold err2
  by_cases h : Cu.right a.data.toList = true ∧ Cu.right b.data.toList = true
  · rw [if_pos h, if_pos h.symm]
    by_cases hs : a.size = b.size
    · rw [if_pos hs, if_pos hs.symm]
    · rw [if_neg hs, if_neg (fun e => hs e.symm)]
  · rw [if_neg h, if_neg (fun e => h e.symm)]

theorem Meet_any (a b : ByteArray) (w : World) :
    Calls Try.prog 16 #[.string a, .string b] w fun e w' => e = .returned (.tuple #[.string (meetS a b), .bool (okB a b), .int .i64 (err2 a b)]) ∧ Below w.heap.size w w' := by
  by_cases h : err2 a b = 0
  · obtain ⟨ha, hb, hs⟩ := err2_zero h
    rcases bool_two (Cu.meetsB a.data.toList b.data.toList) with hm | hm
    · have e1 : okB a b = false := by simp [okB, hm]
      have e2 : meetS a b = ByteArray.empty := by unfold meetS; rw [e1, if_neg (by simp)]
      rw [e1, e2, h]
      exact Meet_apart a b w ha hb hs hm
    · have e1 : okB a b = true := by simp [okB, hm, h]
      have e2 : meetS a b = ⟨(Cu.meetL a.data.toList b.data.toList).toArray⟩ := by unfold meetS; rw [e1, if_pos rfl]
      rw [e1, e2, h]
      exact Meet_ok a b w ha hb hs hm
  · have e1 : okB a b = false := by simp [okB, h]
    have e2 : meetS a b = ByteArray.empty := by unfold meetS; rw [e1, if_neg (by simp)]
    rw [e1, e2]
    exact Meet_bad a b w h

theorem meetsB_comm {a b : List UInt8} (h : a.length = b.length) : Cu.meetsB b a = Cu.meetsB a b := by
  rw [Bool.eq_iff_iff, Cu.meetsB, Cu.meetsB, Cu.zip_all h.symm, Cu.zip_all h]
  constructor
  · intro H i hi
    have := H i (h ▸ hi)
    simp only [Bool.or_eq_true, beq_iff_eq] at this ⊢
    rcases this with (e | e) | e
    · exact Or.inl (Or.inl e.symm)
    · exact Or.inr e
    · exact Or.inl (Or.inr e)
  · intro H i hi
    have := H i (h ▸ hi)
    simp only [Bool.or_eq_true, beq_iff_eq] at this ⊢
    rcases this with (e | e) | e
    · exact Or.inl (Or.inl e.symm)
    · exact Or.inr e
    · exact Or.inl (Or.inr e)
theorem meetL_comm {a b : List UInt8} (h : a.length = b.length) (hm : Cu.meetsB a b = true) : Cu.meetL b a = Cu.meetL a b := by
  apply List.ext_getElem (by rw [Cu.meetL_length h, Cu.meetL_length h.symm, h])
  intro i h1 h2
  have hi : i < a.length := by rw [Cu.meetL_length h] at h2; exact h2
  rw [Cu.meetL_at h i hi, Cu.meetL_at h.symm i (h ▸ hi)]
  unfold Cu.meetsB at hm
  have := (Cu.zip_all h _).1 hm i hi
  simp only [Bool.or_eq_true, beq_iff_eq] at this
  rcases this with (e | e) | e
  · rw [e]
  · rw [if_pos (beq_iff_eq.2 e)]
    split
    · rename_i e2; rw [beq_iff_eq] at e2; rw [e, e2]
    · rfl
  · rw [if_pos (beq_iff_eq.2 e)]
    split
    · rename_i e2; rw [beq_iff_eq] at e2; rw [e, e2]
    · rfl
theorem okB_comm (a b : ByteArray) : okB b a = okB a b := by
  unfold okB
  rw [err2_comm]
  by_cases h : err2 a b = 0
  · obtain ⟨_, _, hs⟩ := err2_zero h
    rw [meetsB_comm hs]
  · simp [h]
theorem meetS_comm (a b : ByteArray) : meetS b a = meetS a b := by
  unfold meetS
  rw [okB_comm]
  by_cases h : okB a b = true
  · rw [if_pos h, if_pos h]
    simp only [okB, Bool.and_eq_true, decide_eq_true_eq] at h
    obtain ⟨_, _, hs⟩ := err2_zero h.1
    rw [meetL_comm hs h.2]
  · rw [if_neg h, if_neg h]

theorem meetS_data {a b : ByteArray} (h : okB a b = true) : (meetS a b).data.toList = Cu.meetL a.data.toList b.data.toList := by
  unfold meetS; rw [if_pos h]
theorem okB_zero {a b : ByteArray} (h : okB a b = true) : err2 a b = 0 ∧ Cu.meetsB a.data.toList b.data.toList = true := by
  simp only [okB, Bool.and_eq_true, decide_eq_true_eq] at h; exact h
theorem insB_zero {a b : ByteArray} (h : insB a b = true) : err2 a b = 0 ∧ Cu.insideB a.data.toList b.data.toList = true := by
  simp only [insB, Bool.and_eq_true, decide_eq_true_eq] at h; exact h

theorem inside_both {a b c : List UInt8} (hab : a.length = b.length) (hca : c.length = a.length) (h1 : Cu.insideB c a = true) (h2 : Cu.insideB c b = true) :
    Cu.meetsB a b = true ∧ Cu.insideB c (Cu.meetL a b) = true := by
  unfold Cu.insideB at h1 h2
  rw [Cu.zip_all hca] at h1
  rw [Cu.zip_all (hca.trans hab)] at h2
  refine ⟨?_, ?_⟩
  · unfold Cu.meetsB
    rw [Cu.zip_all hab]
    intro i hi
    have e1 := h1 i (by omega)
    have e2 := h2 i (by omega)
    simp only [Bool.or_eq_true, beq_iff_eq] at e1 e2 ⊢
    rcases e1 with e1 | e1
    · rcases e2 with e2 | e2
      · exact Or.inl (Or.inl (e1.symm.trans e2))
      · exact Or.inr e2
    · exact Or.inl (Or.inr e1)
  · unfold Cu.insideB
    rw [Cu.zip_all (hca.trans (Cu.meetL_length hab).symm)]
    intro i hi
    have e1 := h1 i hi
    have e2 := h2 i hi
    rw [Cu.meetL_at hab i (by omega)]
    simp only [Bool.or_eq_true, beq_iff_eq] at e1 e2 ⊢
    split
    · exact e2
    · rename_i hne
      rcases e1 with e1 | e1
      · exact Or.inl e1
      · exact absurd e1 hne

theorem inside_meet {a b c : ByteArray} (h0 : err2 a b = 0) (h1 : insB c a = true) (h2 : insB c b = true) : okB a b = true ∧ insB c (meetS a b) = true ∧ err2 c (meetS a b) = 0 := by
  obtain ⟨ha, hb, hs⟩ := err2_zero h0
  obtain ⟨e1, i1⟩ := insB_zero h1
  obtain ⟨e2, i2⟩ := insB_zero h2
  obtain ⟨hc, _, hsc⟩ := err2_zero e1
  obtain ⟨m1, m2⟩ := inside_both hs hsc i1 i2
  have ho : okB a b = true := by simp [okB, h0, m1]
  have hz : err2 c (meetS a b) = 0 := by
    refine err2_of hc ?_ ?_
    · rw [meetS_data ho]; exact Cu.meetL_right ha hb hs
    · show c.size = (meetS a b).data.toList.length
      rw [meetS_data ho, Cu.meetL_length hs]; exact hsc
  refine ⟨ho, ?_, hz⟩
  rw [insB, hz, meetS_data ho, m2]; rfl
end Go.Proofs.Ytenlmigdlibgeaa
