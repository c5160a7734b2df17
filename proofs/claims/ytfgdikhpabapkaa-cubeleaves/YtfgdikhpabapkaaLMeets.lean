/-
  The law CubeMeets: of any two texts it answers true.
-/
import Derived.Test.YtfgdikhpabapkaaContains
namespace Go.Proofs.Ytfgdikhpabapkaa
open Go.RowKit

/-- Has: the answer, the error. -/
def hasX (s : ByteArray) : Bool := s.data.toList.contains 120
def errH (c h : ByteArray) : Int := if hasX h = true then 10 else err2 h c
def hasB (c h : ByteArray) : Bool := !hasX h && insB h c

set_option maxHeartbeats 400000 in
theorem Has_any (c h : ByteArray) (w : World) :
    Calls Try.prog 17 #[.string c, .string h] w fun e w' => e = .returned (.tuple #[.bool (hasB c h), .int .i64 (errH c h)]) ∧ Below w.heap.size w w' := by
  rcases bool_two (hasX h) with hx | hx
  · have e1 : hasB c h = insB h c := by simp [hasB, hx]
    have e2 : errH c h = err2 h c := by simp [errH, hx]
    rw [e1, e2]
    have HX := hid hx
    clear hx e1 e2
    go_enter Try.func17, Try.ntmps17
    go_wp2_with fail
    have q := Contains_x h w
    rw [show h.data.toList.contains 120 = false from HX.out] at q
    refine q.mono ?_
    clear q
    rintro e w1 ⟨rfl, rfl⟩
    go_wp2_with fail
    refine (Inside_any h c _).mono ?_
    rintro e w2 ⟨rfl, hb2⟩
    go_wp2
    go_ret2
    exact ⟨rfl, hb2⟩
  · have e1 : hasB c h = false := by simp [hasB, hx]
    have e2 : errH c h = 10 := by simp [errH, hx]
    rw [e1, e2]
    have HX := hid hx
    clear hx e1 e2
    go_enter Try.func17, Try.ntmps17
    go_wp2_with fail
    have q := Contains_x h w
    rw [show h.data.toList.contains 120 = true from HX.out] at q
    refine q.mono ?_
    clear q
    rintro e w1 ⟨rfl, rfl⟩
    go_wp2
    go_ret2
    exact ⟨rfl, Below.refl _ _⟩

set_option maxHeartbeats 400000 in
theorem RMeet_any (a b : ByteArray) (w : World) (ha : a.size ≤ maxLen) (hb : b.size ≤ maxLen) :
    Calls Try.prog 15 #[.string a, .string b] w fun e w' => e = .returned (.tuple #[.string (meetS a b), .bool (okB a b), .int .i64 (err2 a b)]) ∧ Below w.heap.size w w' := by
  by_cases h : err2 a b = 0
  · have hne : (err2 a b != 0) = false := by rw [h]; rfl
    have H := hid h
    obtain ⟨hra, hrb, hs⟩ := err2_zero h
    have HA := hid hra
    have HB := hid hrb
    have HS := hid hs
    have HR : Hid ((okB a b = true ∧ Cu.meetsB a.data.toList b.data.toList = true ∧ meetS a b = ⟨(Cu.meetL a.data.toList b.data.toList).toArray⟩) ∨ (okB a b = false ∧ Cu.meetsB a.data.toList b.data.toList = false ∧ meetS a b = ByteArray.empty)) := by
      rcases bool_two (Cu.meetsB a.data.toList b.data.toList) with hm | hm
      · have e1 : okB a b = false := by simp [okB, hm]
        exact Or.inr ⟨e1, hm, by unfold meetS; rw [e1, if_neg (by simp)]⟩
      · have e1 : okB a b = true := by simp [okB, hm, h]
        exact Or.inl ⟨e1, hm, by unfold meetS; rw [e1, if_pos rfl]⟩
    clear h hra hrb hs
    go_enter Try.func15, Try.ntmps15
    go_wp2_with fail
    refine (wrong2_any a b w ha hb).mono ?_
    rintro e w1 ⟨rfl, hb1⟩
    go_wp2_with fail
    refine (both_any a b _ HA.out HB.out HS.out (meetS a b) (okB a b) HR.out).mono ?_
    rintro e w2 ⟨rfl, hb2⟩
    go_wp2
    go_ret3
    refine ⟨?_, below2 hb1 hb2⟩
    rw [H.out]; rfl
  · have hne : (err2 a b != 0) = true := by rw [bne_iff_ne]; exact h
    have e1 : okB a b = false := by simp [okB, h]
    have e2 : meetS a b = ByteArray.empty := by unfold meetS; rw [e1, if_neg (by simp)]
    rw [e1, e2]
    clear h e1 e2
    go_enter Try.func15, Try.ntmps15
    go_wp2_with fail
    refine (wrong2_any a b w ha hb).mono ?_
    rintro e w1 ⟨rfl, hb1⟩
    go_wp2
    go_ret3
    exact ⟨rfl, hb1⟩

/-- One lies inside the other just if what both have in common is the one. -/
theorem inside_iff_meet {a b : List UInt8} (h : a.length = b.length) : Cu.insideB a b = (Cu.meetsB a b && (Cu.meetL a b == a)) := by
  rw [Bool.eq_iff_iff, Bool.and_eq_true, beq_iff_eq]
  unfold Cu.insideB Cu.meetsB
  rw [Cu.zip_all h, Cu.zip_all h]
  constructor
  · intro H
    refine ⟨fun i hi => ?_, ?_⟩
    · have := H i hi
      simp only [Bool.or_eq_true, beq_iff_eq] at this ⊢
      rcases this with e | e
      · exact Or.inl (Or.inl e)
      · exact Or.inr e
    · apply List.ext_getElem (Cu.meetL_length h)
      intro i h1 h2
      rw [Cu.meetL_at h i h2]
      have := H i h2
      simp only [Bool.or_eq_true, beq_iff_eq] at this
      split
      · rename_i e
        rw [beq_iff_eq] at e
        rcases this with f | f
        · exact f.symm
        · rw [e, f]
      · rfl
  · rintro ⟨H1, H2⟩ i hi
    have := H1 i hi
    simp only [Bool.or_eq_true, beq_iff_eq] at this ⊢
    rcases this with (e | e) | e
    · exact Or.inl e
    · have hg := Cu.meetL_at h i hi
      simp only [e, beq_self_eq_true, if_true] at hg
      have : (Cu.meetL a b)[i]'(by rw [Cu.meetL_length h]; exact hi) = a[i] := by simp only [H2]
      rw [hg] at this
      exact Or.inl this.symm
    · exact Or.inr e

theorem insB_meet (a b : ByteArray) : insB a b = (okB a b && ((meetS a b).data.toList == a.data.toList)) := by
  by_cases h : err2 a b = 0
  · obtain ⟨_, _, hs⟩ := err2_zero h
    rcases bool_two (okB a b) with ho | ho
    · have hm : Cu.meetsB a.data.toList b.data.toList = false := by simpa [okB, h] using ho
      rw [ho, insB, h, inside_iff_meet hs, hm]; rfl
    · rw [meetS_data ho, ho, insB, h, inside_iff_meet hs, (okB_zero ho).2]; rfl
  · have e1 : okB a b = false := by simp [okB, h]
    rw [e1]; simp [insB, h]

set_option maxHeartbeats 400000 in
theorem RInside_any (a b : ByteArray) (w : World) (ha : a.size ≤ maxLen) (hb : b.size ≤ maxLen) :
    Calls Try.prog 16 #[.string a, .string b] w fun e w' => e = .returned (.tuple #[.bool (insB a b), .int .i64 (err2 a b)]) ∧ Below w.heap.size w w' := by
  have HI := hid (insB_meet a b)
  rcases bool_two (okB a b) with ho | ho
  · have HO := hid ho
    go_enter Try.func16, Try.ntmps16
    go_wp2_with fail
    have q := RMeet_any a b w ha hb
    rw [HO.out] at q
    refine q.mono ?_
    clear q
    rintro e w1 ⟨rfl, hb1⟩
    go_wp2
    go_ret2
    refine ⟨?_, hb1⟩
    rw [HI.out, HO.out]; rfl
  · have HO := hid ho
    have hz : (err2 a b == 0) = true := by rw [(okB_zero ho).1]; rfl
    have HZ := hid (okB_zero ho).1
    clear ho
    go_enter Try.func16, Try.ntmps16
    go_wp2_with fail
    have q := RMeet_any a b w ha hb
    rw [HO.out] at q
    refine q.mono ?_
    clear q
    rintro e w1 ⟨rfl, hb1⟩
    go_wp2
    go_ret2
    refine ⟨?_, hb1⟩
    rw [HI.out, HO.out, ByteArray.toList_eq, ByteArray.toList_eq]; rfl

set_option maxHeartbeats 1000000 in
theorem Header_any (s : ByteArray) (w : World) (hs : s.size ≤ maxLen) :
    Calls Try.prog 36 #[.string s] w fun e w' => e = .returned (.bool (!hasX s && Cu.right s.data.toList)) ∧ w' = w := by
  have HM := hid hs
  unfold maxLen at hs
  go_enter Try.func36, Try.ntmps36
  go_wp2
  go_loop [3] (fun i => ∃ k : Nat, k ≤ s.size ∧ i = .int .i64 k ∧ Hid (∀ j (h : j < s.size), j < k → s[j]'h ≠ 120)) (fun i => s.size - (intOf i).toNat)
  case atStart => exact ⟨0, Nat.zero_le _, rfl, fun j _ hj => absurd hj (Nat.not_lt_zero j)⟩
  case round =>
    obtain ⟨k, hk, rfl, hpre⟩ := hrel
    by_cases hlt : k < s.size
    · by_cases hx : s[k]'hlt = 120
      · have hb : (((s[k]'hlt).toNat : Int) == 120) = true := by rw [hx]; rfl
        have HX : Hid (hasX s = true) := by
          show _ = _
          unfold hasX
          rw [List.contains_iff_mem]
          have : s.data[k]'hlt ∈ s.data.toList := by simp
          rw [← hx]; exact this
        clear hx
        go_wp2
        go_ret
        refine ⟨?_, rfl⟩
        rw [HX.out]; rfl
      · have hb : (((s[k]'hlt).toNat : Int) == 120) = false := by
          rw [beq_eq_false_iff_ne]; intro h; exact hx (UInt8.toNat.inj (by simp; omega))
        have HX := hid hx
        clear hx
        go_wp2
        go_round
        case rel =>
          refine ⟨k + 1, by omega, by go_num, fun j h hj => ?_⟩
          by_cases e : j = k
          · subst e; exact HX.out
          · exact hpre.out j h (by omega)
        case measure => simp [intOf]; omega
    · have HX : Hid (hasX s = false) := by
        show _ = _
        unfold hasX
        rw [← Bool.not_eq_true, List.contains_iff_mem]
        intro hmem
        obtain ⟨j, hj, e⟩ := List.getElem_of_mem hmem
        have hj' : j < s.size := by rw [len_data] at hj; exact hj
        exact hpre.out j hj' (by omega) e
      go_wp2_with fail
      refine (Right_any s w HM.out).mono ?_
      rintro e w1 ⟨rfl, rfl⟩
      go_wp2
      go_ret
      refine ⟨?_, rfl⟩
      rw [HX.out]; rfl

theorem errH_bad {c h : ByteArray} (hb : Cu.right c.data.toList = false ∨ (!hasX h && Cu.right h.data.toList) = false) : errH c h = 10 ∧ hasB c h = false := by
  rcases bool_two (hasX h) with hx | hx
  · have e : err2 h c = 10 := by
      unfold err2
      rw [if_neg]
      rintro ⟨h1, h2⟩
      rcases hb with e | e
      · rw [e] at h2; cases h2
      · rw [hx, h1] at e; cases e
    refine ⟨by simp [errH, hx, e], by simp [hasB, insB, e]⟩
  · exact ⟨by simp [errH, hx], by simp [hasB, hx]⟩

set_option maxHeartbeats 400000 in
theorem RHas_any (c h : ByteArray) (w : World) (hc : c.size ≤ maxLen) (hh : h.size ≤ maxLen) :
    Calls Try.prog 18 #[.string c, .string h] w fun e w' => e = .returned (.tuple #[.bool (hasB c h), .int .i64 (errH c h)]) ∧ Below w.heap.size w w' := by
  rcases bool_two (Cu.right c.data.toList) with hr | hr
  · obtain ⟨e1, e2⟩ := errH_bad (c := c) (h := h) (Or.inl hr)
    rw [e1, e2]
    have HR := hid hr
    clear hr e1 e2
    go_enter Try.func18, Try.ntmps18
    go_wp2_with fail
    have q := Right_any c w hc
    rw [HR.out] at q
    refine q.mono ?_
    clear q
    rintro e w1 ⟨rfl, rfl⟩
    go_wp2
    go_ret2
    exact ⟨rfl, Below.refl _ _⟩
  · rcases bool_two (!hasX h && Cu.right h.data.toList) with hq | hq
    · obtain ⟨e1, e2⟩ := errH_bad (c := c) (h := h) (Or.inr hq)
      rw [e1, e2]
      have HR := hid hr
      have HQ := hid hq
      clear hr hq e1 e2
      go_enter Try.func18, Try.ntmps18
      go_wp2_with fail
      have q := Right_any c w hc
      rw [HR.out] at q
      refine q.mono ?_
      clear q
      rintro e w1 ⟨rfl, rfl⟩
      go_wp2_with fail
      have q := Header_any h w1 hh
      rw [HQ.out] at q
      refine q.mono ?_
      clear q
      rintro e w1 ⟨rfl, rfl⟩
      go_wp2
      go_ret2
      exact ⟨rfl, Below.refl _ _⟩
    · have hx : hasX h = false := by
        rcases bool_two (hasX h) with e | e
        · exact e
        · rw [e] at hq; cases hq
      have e1 : hasB c h = insB h c := by simp [hasB, hx]
      have e2 : errH c h = err2 h c := by simp [errH, hx]
      rw [e1, e2]
      have HR := hid hr
      have HQ := hid hq
      clear hr hq e1 e2 hx
      go_enter Try.func18, Try.ntmps18
      go_wp2_with fail
      have q := Right_any c w hc
      rw [HR.out] at q
      refine q.mono ?_
      clear q
      rintro e w1 ⟨rfl, rfl⟩
      go_wp2_with fail
      have q := Header_any h w1 hh
      rw [HQ.out] at q
      refine q.mono ?_
      clear q
      rintro e w1 ⟨rfl, rfl⟩
      go_wp2_with fail
      refine (RInside_any h c _ hh hc).mono ?_
      rintro e w2 ⟨rfl, hb2⟩
      go_wp2
      go_ret2
      exact ⟨rfl, hb2⟩

set_option maxHeartbeats 1000000 in
theorem meets_law (a b : ByteArray) (w : World) (ha : a.size ≤ maxLen) (hb : b.size ≤ maxLen) :
    Calls Try.prog 5 #[.string a, .string b] w fun e w' => e = .returned (.bool true) ∧ Below w.heap.size w w' := by
  go_enter Try.func5, Try.ntmps5
  go_wp2_with fail
  refine (Meet_any a b _).mono ?_
  rintro e w1 ⟨rfl, hb1⟩
  go_wp2_with fail
  refine (RMeet_any a b _ ha hb).mono ?_
  rintro e w2 ⟨rfl, hb2⟩
  have B2 := below2 hb1 hb2
  clear hb1 hb2
  go_wp2_with fail
  refine (Inside_any a b _).mono ?_
  rintro e w3 ⟨rfl, hb3⟩
  have B3 := below2 B2 hb3
  clear B2 hb3
  go_wp2_with fail
  refine (RInside_any a b _ ha hb).mono ?_
  rintro e w4 ⟨rfl, hb4⟩
  have B4 := below2 B3 hb4
  clear B3 hb4
  go_wp2_with fail
  refine (Has_any a b _).mono ?_
  rintro e w5 ⟨rfl, hb5⟩
  have B5 := below2 B4 hb5
  clear B4 hb5
  go_wp2_with fail
  refine (RHas_any a b _ ha hb).mono ?_
  rintro e w6 ⟨rfl, hb6⟩
  have B6 := below2 B5 hb6
  clear B5 hb6
  go_wp2_with fail
  refine (alive_any _).mono ?_
  rintro e w7 ⟨rfl, hb7⟩
  go_wp2
  go_ret
  exact ⟨rfl, below2 B6 hb7⟩
end Go.Proofs.Ytfgdikhpabapkaa
