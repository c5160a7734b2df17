/-
  The law CubeParts: of any three texts it answers true.
  Plain mathematics: the parts of a cut meet neither one another nor what was cut off, and each header lies where it must.
  Apart: do no two of several texts meet?; in: does a header lie in one of several?
  The law CubeMeets: of any two texts it answers true.
-/
import Derived.Test.YtipmlcdnfaobiaaGreatRefAnd
import Derived.Test.YtipmlcdnfaobiaaGreatCutsAnd
namespace Go.Proofs.YtipmlcdnfaobiaaGreat.Cub
open Go.RowKit

/-- Has: the answer, the error. -/
def hasX (s : ByteArray) : Bool := s.data.toList.contains 120
def errH (c h : ByteArray) : Int := if hasX h = true then 10 else err2 h c
def hasB (c h : ByteArray) : Bool := !hasX h && insB h c

set_option maxRecDepth 8000 in
set_option maxHeartbeats 400000 in
theorem Has_any (c h : ByteArray) (w : World) :
    Calls Tryz.prog 53 #[.string c, .string h] w fun e w' => e = .returned (.tuple #[.bool (hasB c h), .int .i64 (errH c h)]) ∧ Below w.heap.size w w' := by
  rcases bool_two (hasX h) with hx | hx
  · have e1 : hasB c h = insB h c := by simp [hasB, hx]
    have e2 : errH c h = err2 h c := by simp [errH, hx]
    rw [e1, e2]
    have HX := hid hx
    clear hx e1 e2
    go_enter Tryz.func53, Tryz.ntmps53
    go_wp2_with fail
    have q := Contains_x h w
    rw [show h.data.toList.contains 120 = false from HX.out] at q
    refine q.mono ?_
    clear q
    rintro e w1 ⟨rfl, rfl⟩
    go_wp2_with fail
    refine (Inside_any h c _).mono ?_
    rintro e w2 ⟨rfl, hb2⟩
    go_wp2
    go_ret2
    exact ⟨rfl, hb2⟩
  · have e1 : hasB c h = false := by simp [hasB, hx]
    have e2 : errH c h = 10 := by simp [errH, hx]
    rw [e1, e2]
    have HX := hid hx
    clear hx e1 e2
    go_enter Tryz.func53, Tryz.ntmps53
    go_wp2_with fail
    have q := Contains_x h w
    rw [show h.data.toList.contains 120 = true from HX.out] at q
    refine q.mono ?_
    clear q
    rintro e w1 ⟨rfl, rfl⟩
    go_wp2
    go_ret2
    exact ⟨rfl, Below.refl _ _⟩

set_option maxRecDepth 8000 in
set_option maxHeartbeats 400000 in
theorem RMeet_any (a b : ByteArray) (w : World) (ha : a.size ≤ maxLen) (hb : b.size ≤ maxLen) :
    Calls Tryz.prog 77 #[.string a, .string b] w fun e w' => e = .returned (.tuple #[.string (meetS a b), .bool (okB a b), .int .i64 (err2 a b)]) ∧ Below w.heap.size w w' := by
  by_cases h : err2 a b = 0
  · have hne : (err2 a b != 0) = false := by rw [h]; rfl
    have H := hid h
    obtain ⟨hra, hrb, hs⟩ := err2_zero h
    have HA := hid hra
    have HB := hid hrb
    have HS := hid hs
    have HR : Hid ((okB a b = true ∧ Cu.meetsB a.data.toList b.data.toList = true ∧ meetS a b = ⟨(Cu.meetL a.data.toList b.data.toList).toArray⟩) ∨ (okB a b = false ∧ Cu.meetsB a.data.toList b.data.toList = false ∧ meetS a b = ByteArray.empty)) := by
      rcases bool_two (Cu.meetsB a.data.toList b.data.toList) with hm | hm
      · have e1 : okB a b = false := by simp [okB, hm]
        exact Or.inr ⟨e1, hm, by unfold meetS; rw [e1, if_neg (by simp)]⟩
      · have e1 : okB a b = true := by simp [okB, hm, h]
        exact Or.inl ⟨e1, hm, by unfold meetS; rw [e1, if_pos rfl]⟩
    clear h hra hrb hs
    go_enter Tryz.func77, Tryz.ntmps77
    go_wp2_with fail
    refine (wrong2_any a b w ha hb).mono ?_
    rintro e w1 ⟨rfl, hb1⟩
    go_wp2_with fail
    refine (both_any a b _ HA.out HB.out HS.out (meetS a b) (okB a b) HR.out).mono ?_
    rintro e w2 ⟨rfl, hb2⟩
    go_wp2
    go_ret3
    refine ⟨?_, below2 hb1 hb2⟩
    rw [H.out]; rfl
  · have hne : (err2 a b != 0) = true := by rw [bne_iff_ne]; exact h
    have e1 : okB a b = false := by simp [okB, h]
    have e2 : meetS a b = ByteArray.empty := by unfold meetS; rw [e1, if_neg (by simp)]
    rw [e1, e2]
    clear h e1 e2
    go_enter Tryz.func77, Tryz.ntmps77
    go_wp2_with fail
    refine (wrong2_any a b w ha hb).mono ?_
    rintro e w1 ⟨rfl, hb1⟩
    go_wp2
    go_ret3
    exact ⟨rfl, hb1⟩

/-- One lies inside the other just if what both have in common is the one. -/
theorem inside_iff_meet {a b : List UInt8} (h : a.length = b.length) : Cu.insideB a b = (Cu.meetsB a b && (Cu.meetL a b == a)) := by
  rw [Bool.eq_iff_iff, Bool.and_eq_true, beq_iff_eq]
  unfold Cu.insideB Cu.meetsB
  rw [Cu.zip_all h, Cu.zip_all h]
  constructor
  · intro H
    refine ⟨fun i hi => ?_, ?_⟩
    · have := H i hi
      simp only [Bool.or_eq_true, beq_iff_eq] at this ⊢
      rcases this with e | e
      · exact Or.inl (Or.inl e)
      · exact Or.inr e
    · apply List.ext_getElem (Cu.meetL_length h)
      intro i h1 h2
      rw [Cu.meetL_at h i h2]
      have := H i h2
      simp only [Bool.or_eq_true, beq_iff_eq] at this
      split
      · rename_i e
        rw [beq_iff_eq] at e
        rcases this with f | f
        · exact f.symm
        · rw [e, f]
      · rfl
  · rintro ⟨H1, H2⟩ i hi
    have := H1 i hi
    simp only [Bool.or_eq_true, beq_iff_eq] at this ⊢
    rcases this with (e | e) | e
    · exact Or.inl e
    · have hg := Cu.meetL_at h i hi
      simp only [e, beq_self_eq_true, if_true] at hg
      have : (Cu.meetL a b)[i]'(by rw [Cu.meetL_length h]; exact hi) = a[i] := by simp only [H2]
      rw [hg] at this
      exact Or.inl this.symm
    · exact Or.inr e

theorem insB_meet (a b : ByteArray) : insB a b = (okB a b && ((meetS a b).data.toList == a.data.toList)) := by
  by_cases h : err2 a b = 0
  · obtain ⟨_, _, hs⟩ := err2_zero h
    rcases bool_two (okB a b) with ho | ho
    · have hm : Cu.meetsB a.data.toList b.data.toList = false := by simpa [okB, h] using ho
      rw [ho, insB, h, inside_iff_meet hs, hm]; rfl
    · rw [meetS_data ho, ho, insB, h, inside_iff_meet hs, (okB_zero ho).2]; rfl
  · have e1 : okB a b = false := by simp [okB, h]
    rw [e1]; simp [insB, h]

set_option maxRecDepth 8000 in
set_option maxHeartbeats 400000 in
theorem RInside_any (a b : ByteArray) (w : World) (ha : a.size ≤ maxLen) (hb : b.size ≤ maxLen) :
    Calls Tryz.prog 57 #[.string a, .string b] w fun e w' => e = .returned (.tuple #[.bool (insB a b), .int .i64 (err2 a b)]) ∧ Below w.heap.size w w' := by
  have HI := hid (insB_meet a b)
  rcases bool_two (okB a b) with ho | ho
  · have HO := hid ho
    go_enter Tryz.func57, Tryz.ntmps57
    go_wp2_with fail
    have q := RMeet_any a b w ha hb
    rw [HO.out] at q
    refine q.mono ?_
    clear q
    rintro e w1 ⟨rfl, hb1⟩
    go_wp2
    go_ret2
    refine ⟨?_, hb1⟩
    rw [HI.out, HO.out]; rfl
  · have HO := hid ho
    have hz : (err2 a b == 0) = true := by rw [(okB_zero ho).1]; rfl
    have HZ := hid (okB_zero ho).1
    clear ho
    go_enter Tryz.func57, Tryz.ntmps57
    go_wp2_with fail
    have q := RMeet_any a b w ha hb
    rw [HO.out] at q
    refine q.mono ?_
    clear q
    rintro e w1 ⟨rfl, hb1⟩
    go_wp2
    go_ret2
    refine ⟨?_, hb1⟩
    rw [HI.out, HO.out, ByteArray.toList_eq, ByteArray.toList_eq]; rfl

set_option maxRecDepth 8000 in
set_option maxHeartbeats 1000000 in
theorem Header_any (s : ByteArray) (w : World) (hs : s.size ≤ maxLen) :
    Calls Tryz.prog 39 #[.string s] w fun e w' => e = .returned (.bool (!hasX s && Cu.right s.data.toList)) ∧ w' = w := by
  have HM := hid hs
  unfold maxLen at hs
  go_enter Tryz.func39, Tryz.ntmps39
  go_wp2
  go_loop [3] (fun i => ∃ k : Nat, k ≤ s.size ∧ i = .int .i64 k ∧ Hid (∀ j (h : j < s.size), j < k → s[j]'h ≠ 120)) (fun i => s.size - (intOf i).toNat)
  case atStart => exact ⟨0, Nat.zero_le _, rfl, fun j _ hj => absurd hj (Nat.not_lt_zero j)⟩
  case round =>
    obtain ⟨k, hk, rfl, hpre⟩ := hrel
    by_cases hlt : k < s.size
    · by_cases hx : s[k]'hlt = 120
      · have hb : (((s[k]'hlt).toNat : Int) == 120) = true := by rw [hx]; rfl
        have HX : Hid (hasX s = true) := by
          show _ = _
          unfold hasX
          rw [List.contains_iff_mem]
          have : s.data[k]'hlt ∈ s.data.toList := by simp
          rw [← hx]; exact this
        clear hx
        go_wp2
        go_ret
        refine ⟨?_, rfl⟩
        rw [HX.out]; rfl
      · have hb : (((s[k]'hlt).toNat : Int) == 120) = false := by
          rw [beq_eq_false_iff_ne]; intro h; exact hx (UInt8.toNat.inj (by simp; omega))
        have HX := hid hx
        clear hx
        go_wp2
        go_round
        case rel =>
          refine ⟨k + 1, by omega, by go_num, fun j h hj => ?_⟩
          by_cases e : j = k
          · subst e; exact HX.out
          · exact hpre.out j h (by omega)
        case measure => simp [intOf]; omega
    · have HX : Hid (hasX s = false) := by
        show _ = _
        unfold hasX
        rw [← Bool.not_eq_true, List.contains_iff_mem]
        intro hmem
        obtain ⟨j, hj, e⟩ := List.getElem_of_mem hmem
        have hj' : j < s.size := by rw [len_data] at hj; exact hj
        exact hpre.out j hj' (by omega) e
      go_wp2_with fail
      refine (Right_any s w HM.out).mono ?_
      rintro e w1 ⟨rfl, rfl⟩
      go_wp2
      go_ret
      refine ⟨?_, rfl⟩
      rw [HX.out]; rfl

theorem errH_bad {c h : ByteArray} (hb : Cu.right c.data.toList = false ∨ (!hasX h && Cu.right h.data.toList) = false) : errH c h = 10 ∧ hasB c h = false := by
  rcases bool_two (hasX h) with hx | hx
  · have e : err2 h c = 10 := by
      unfold err2
      rw [if_neg]
      rintro ⟨h1, h2⟩
      rcases hb with e | e
      · rw [e] at h2; cases h2
      · rw [hx, h1] at e; cases e
    refine ⟨by simp [errH, hx, e], by simp [hasB, insB, e]⟩
  · exact ⟨by simp [errH, hx], by simp [hasB, hx]⟩

set_option maxRecDepth 8000 in
set_option maxHeartbeats 400000 in
theorem RHas_any (c h : ByteArray) (w : World) (hc : c.size ≤ maxLen) (hh : h.size ≤ maxLen) :
    Calls Tryz.prog 40 #[.string c, .string h] w fun e w' => e = .returned (.tuple #[.bool (hasB c h), .int .i64 (errH c h)]) ∧ Below w.heap.size w w' := by
  rcases bool_two (Cu.right c.data.toList) with hr | hr
  · obtain ⟨e1, e2⟩ := errH_bad (c := c) (h := h) (Or.inl hr)
    rw [e1, e2]
    have HR := hid hr
    clear hr e1 e2
    go_enter Tryz.func40, Tryz.ntmps40
    go_wp2_with fail
    have q := Right_any c w hc
    rw [HR.out] at q
    refine q.mono ?_
    clear q
    rintro e w1 ⟨rfl, rfl⟩
    go_wp2
    go_ret2
    exact ⟨rfl, Below.refl _ _⟩
  · rcases bool_two (!hasX h && Cu.right h.data.toList) with hq | hq
    · obtain ⟨e1, e2⟩ := errH_bad (c := c) (h := h) (Or.inr hq)
      rw [e1, e2]
      have HR := hid hr
      have HQ := hid hq
      clear hr hq e1 e2
      go_enter Tryz.func40, Tryz.ntmps40
      go_wp2_with fail
      have q := Right_any c w hc
      rw [HR.out] at q
      refine q.mono ?_
      clear q
      rintro e w1 ⟨rfl, rfl⟩
      go_wp2_with fail
      have q := Header_any h w1 hh
      rw [HQ.out] at q
      refine q.mono ?_
      clear q
      rintro e w1 ⟨rfl, rfl⟩
      go_wp2
      go_ret2
      exact ⟨rfl, Below.refl _ _⟩
    · have hx : hasX h = false := by
        rcases bool_two (hasX h) with e | e
        · exact e
        · rw [e] at hq; cases hq
      have e1 : hasB c h = insB h c := by simp [hasB, hx]
      have e2 : errH c h = err2 h c := by simp [errH, hx]
      rw [e1, e2]
      have HR := hid hr
      have HQ := hid hq
      clear hr hq e1 e2 hx
      go_enter Tryz.func40, Tryz.ntmps40
      go_wp2_with fail
      have q := Right_any c w hc
      rw [HR.out] at q
      refine q.mono ?_
      clear q
      rintro e w1 ⟨rfl, rfl⟩
      go_wp2_with fail
      have q := Header_any h w1 hh
      rw [HQ.out] at q
      refine q.mono ?_
      clear q
      rintro e w1 ⟨rfl, rfl⟩
      go_wp2_with fail
      refine (RInside_any h c _ hh hc).mono ?_
      rintro e w2 ⟨rfl, hb2⟩
      go_wp2
      go_ret2
      exact ⟨rfl, hb2⟩

end Go.Proofs.YtipmlcdnfaobiaaGreat.Cub
namespace Go.Proofs.YtipmlcdnfaobiaaGreat.Cub
open Go.RowKit

/-- The i-th text of a row, as a text; the row's texts by number. -/
def nth (ls : List (List UInt8)) (i : Nat) : ByteArray := ⟨(ls.getD i []).toArray⟩
theorem nth_bytes (ls : List (List UInt8)) (i : Nat) : by_ (nth ls) i = ls.getD i [] := rfl
theorem nth_at {ls : List (List UInt8)} {i : Nat} (h : i < ls.length) : ls.getD i [] = ls[i] := by
  rw [List.getD_eq_getElem?_getD, List.getElem?_eq_getElem h]; rfl
theorem nth_size (ls : List (List UInt8)) (i : Nat) : (nth ls i).size = (ls.getD i []).length := by
  show (ls.getD i []).toArray.size = _
  simp

/-- Why several are refused; whether no two meet. -/
def allRight (ls : List (List UInt8)) : Bool := ls.all Cu.right
def allWide (ls : List (List UInt8)) : Bool := ls.all fun l => l.length == (ls.getD 0 []).length
def errL (ls : List (List UInt8)) : Int := if allRight ls = true then (if allWide ls = true then 0 else 11) else 10
def apartB (ls : List (List UInt8)) : Bool := decide (∀ i, i < ls.length → ∀ j, j < i → Cu.meetsB (ls.getD i []) (ls.getD j []) = false)

theorem errL_zero {ls : List (List UInt8)} (h : errL ls = 0) : (∀ i, i < ls.length → Cu.right (ls.getD i []) = true) ∧ (∀ i, i < ls.length → (ls.getD i []).length = (ls.getD 0 []).length) := by
  unfold errL at h
  split at h
  · rename_i h1
    split at h
    · rename_i h2
      refine ⟨fun i hi => ?_, fun i hi => ?_⟩
      · rw [nth_at hi]; exact List.all_eq_true.1 h1 _ (List.getElem_mem hi)
      · have := List.all_eq_true.1 h2 _ (List.getElem_mem hi)
        rw [nth_at hi]; simpa using this
    · cases h
  · cases h

/-- The first that is none. -/
theorem first_wrong (p : Nat → Bool) : ∀ n, (∃ i, i < n ∧ p i = false) → ∃ m, m < n ∧ p m = false ∧ ∀ i, i < m → p i = true
  | 0, h => by obtain ⟨i, hi, _⟩ := h; omega
  | n + 1, h => by
    by_cases hp : ∃ i, i < n ∧ p i = false
    · obtain ⟨m, hm, e, hl⟩ := first_wrong p n hp
      exact ⟨m, by omega, e, hl⟩
    · obtain ⟨i, hi, e⟩ := h
      have : i = n := by
        by_cases hin : i < n
        · exact absurd ⟨i, hin, e⟩ hp
        · omega
      subst this
      refine ⟨i, by omega, e, fun j hj => ?_⟩
      rcases bool_two (p j) with f | f
      · exact absurd ⟨j, hj, f⟩ hp
      · exact f

theorem errL_cases (ls : List (List UInt8)) : errL ls = 0 ∨ (errL ls = 11 ∧ (∀ i, i < ls.length → Cu.right (ls.getD i []) = true) ∧ ∃ m, m < ls.length ∧ (ls.getD m []).length ≠ (ls.getD 0 []).length) ∨
    (errL ls = 10 ∧ ∃ m, m < ls.length ∧ Cu.right (ls.getD m []) = false ∧ ∀ i, i < m → Cu.right (ls.getD i []) = true) := by
  rcases bool_two (allRight ls) with h | h
  · refine Or.inr (Or.inr ⟨by simp [errL, h], ?_⟩)
    refine first_wrong (fun i => Cu.right (ls.getD i [])) ls.length ?_
    obtain ⟨l, hl, e⟩ := List.all_eq_false.1 h
    obtain ⟨i, hi, rfl⟩ := List.getElem_of_mem hl
    exact ⟨i, hi, by rw [nth_at hi]; simpa using e⟩
  · have hr : ∀ i, i < ls.length → Cu.right (ls.getD i []) = true := fun i hi => by rw [nth_at hi]; exact List.all_eq_true.1 h _ (List.getElem_mem hi)
    rcases bool_two (allWide ls) with h2 | h2
    · refine Or.inr (Or.inl ⟨by simp [errL, h, h2], hr, ?_⟩)
      obtain ⟨l, hl, e⟩ := List.all_eq_false.1 h2
      obtain ⟨i, hi, rfl⟩ := List.getElem_of_mem hl
      exact ⟨i, hi, by rw [nth_at hi]; simpa using e⟩
    · exact Or.inl (by simp [errL, h, h2])

/-- The cells of a row of texts, by number. -/
theorem row_cells {w : World} {ls : List (List UInt8)} {g o : Nat} (h : ∀ i (h : i < ls.length), w.cell? ⟨g, o + i, none⟩ = some (sv ls[i])) : ∀ i, i < ls.length → w.cell? ⟨g, o + i, none⟩ = some (.string (nth ls i)) := by
  intro i hi
  rw [h i hi, nth, nth_at hi]

theorem read_bad (ls : List (List UInt8)) (v : Value) (w : World) (hr : Row w v ls) (hn : ls.length ≤ 1000000) (he : errL ls ≠ 0) :
    Calls Tryz.prog 58 #[v] w fun e w' => e = .returned (.tuple #[.slice none 0 0, .int .i64 (errL ls)]) ∧ Below w.heap.size w w' := by
  obtain ⟨ao, cap, rfl, hr⟩ := hr
  have hne : 0 < ls.length := by
    cases ls with
    | nil => exact absurd rfl he
    | cons => simp
  obtain ⟨g, o, rfl, hg, hc⟩ : ∃ g o, ao = some ⟨g, o, none⟩ ∧ g < w.heap.size ∧ ∀ i (h : i < ls.length), w.cell? ⟨g, o + i, none⟩ = some (sv ls[i]) := by
    rcases hr with rfl | hr
    · simp at hne
    · exact hr
  rcases errL_cases ls with e | ⟨e, h1, m, hm, h2⟩ | ⟨e, m, hm, h1, h2⟩
  · exact absurd e he
  · rw [e]
    exact read_width (nth ls) ls.length g o cap w hg (row_cells hc) hne hn h1 m hm (by rw [nth_size, nth_size]; exact h2)
  · rw [e]
    exact read_wrong (nth ls) ls.length g o cap w hg (row_cells hc) hne hn m hm h2 h1

theorem read_ok (ls : List (List UInt8)) (v : Value) (w : World) (hr : Row w v ls) (h0 : 0 < ls.length) (hn : ls.length ≤ 1000000) (he : errL ls = 0) :
    Calls Tryz.prog 58 #[v] w fun e w' =>
      e = .returned (.tuple #[.slice (some ⟨w.heap.size + 2, 0, none⟩) ls.length ls.length, .int .i64 0]) ∧ (∃ cs, w'.heap[w.heap.size + 2]? = some (.cells cs 108 (0, 0)) ∧ cs.size = ls.length * 4 ∧ lie cs ls.length (by_ (nth ls))) ∧ Below w.heap.size w w' := by
  obtain ⟨ao, cap, rfl, hr⟩ := hr
  obtain ⟨g, o, rfl, hg, hc⟩ : ∃ g o, ao = some ⟨g, o, none⟩ ∧ g < w.heap.size ∧ ∀ i (h : i < ls.length), w.cell? ⟨g, o + i, none⟩ = some (sv ls[i]) := by
    rcases hr with rfl | hr
    · simp at h0
    · exact hr
  obtain ⟨h1, h2⟩ := errL_zero he
  exact read_right (nth ls) ls.length g o cap w hg (row_cells hc) h0 hn h1 (fun i hi => by rw [nth_size, nth_size]; exact h2 i hi)

/-- Four cells of a row of ternaries, one behind the other. -/
theorem lie_four {w : World} {g n : Nat} {cs : Array Value} {L : Nat → List UInt8} (h : w.heap[g]? = some (.cells cs 108 (0, 0))) (hl : lie cs n L) {k : Nat} (hk : k < n) :
    w.cell? ⟨g, k * 4, none⟩ = some (.int .u64 (Cu.wd (Cu.fixAt (L k)) 0 : Int)) ∧ w.cell? ⟨g, k * 4 + 1, none⟩ = some (.int .u64 (Cu.wd (Cu.fixAt (L k)) 1 : Int)) ∧
      w.cell? ⟨g, k * 4 + 2, none⟩ = some (.int .u64 (Cu.wd (Cu.oneAt (L k)) 0 : Int)) ∧ w.cell? ⟨g, k * 4 + 3, none⟩ = some (.int .u64 (Cu.wd (Cu.oneAt (L k)) 1 : Int)) := by
  have a0 := hl k hk 0 (by omega)
  have a1 := hl k hk 1 (by omega)
  have a2 := hl k hk 2 (by omega)
  have a3 := hl k hk 3 (by omega)
  rw [Nat.add_zero] at a0
  unfold World.cell?
  rw [h]
  exact ⟨a0, a1, a2, a3⟩

/-- Does the header lie in one of several? -/
def inB (ls : List (List UInt8)) (h : ByteArray) : Bool := ls.any fun l => hasB ⟨l.toArray⟩ h

theorem hasB_zero {c h : ByteArray} (hh : hasB c h = true) : errH c h = 0 := by
  simp only [hasB, Bool.and_eq_true, Bool.not_eq_true'] at hh
  unfold errH
  rw [hh.1, if_neg (by simp)]
  exact (insB_zero hh.2).1

end Go.Proofs.YtipmlcdnfaobiaaGreat.Cub
namespace Go.Proofs.YtipmlcdnfaobiaaGreat.Cub
namespace Cu

theorem mem_cutTo {a b : List UInt8} {l : List UInt8} : ∀ {n}, l ∈ cutTo a b n ↔ ∃ k, k < n ∧ cond a b k = true ∧ l = partL a b k
  | 0 => by simp [cutTo]
  | n + 1 => by
    rw [cutTo, List.mem_append, mem_cutTo]
    constructor
    · rintro (⟨k, hk, hc, e⟩ | h)
      · exact ⟨k, by omega, hc, e⟩
      · split at h
        · rename_i hc
          rw [List.mem_singleton] at h
          exact ⟨n, by omega, hc, h⟩
        · cases h
    · rintro ⟨k, hk, hc, e⟩
      by_cases hkn : k = n
      · subst hkn
        right
        rw [if_pos hc, List.mem_singleton]; exact e
      · exact Or.inl ⟨k, by omega, hc, e⟩

theorem cond_parts {a b : List UInt8} {k : Nat} (h : cond a b k = true) : fixAt a k = false ∧ fixAt b k = true := by
  simp only [cond, Bool.and_eq_true, Bool.not_eq_true'] at h; exact h

/-- At a place ahead of its own a part is as what both have in common. -/
theorem part_at {a b : List UInt8} (ha : a.all sym = true) (hb : b.all sym = true) (h : a.length = b.length) (hm : meetsB a b = true) {k : Nat} (hk : k < a.length) (hc : cond a b k = true) (i : Nat) :
    (i < k → fixAt (partL a b k) i = (fixAt a i || fixAt b i) ∧ oneAt (partL a b k) i = (oneAt a i || oneAt b i)) ∧
    (i = k → fixAt (partL a b k) i = true ∧ oneAt (partL a b k) i = !oneAt b k) ∧
    (k < i → fixAt (partL a b k) i = fixAt a i ∧ oneAt (partL a b k) i = oneAt a i) := by
  have hf : ∀ j, fixAt (partL a b k) j = updw (fixAt (mix a b k)) k j := fun j => by rw [fix_part h hk hc]
  have ho : ∀ j, oneAt (partL a b k) j = setOne (oneAt (mix a b k)) k (!oneAt b k) j := fun j => by rw [one_part h hk hc]
  refine ⟨fun hi => ?_, fun hi => ?_, fun hi => ?_⟩
  · rw [hf, ho]
    have e : ¬ i = k := by omega
    simp only [updw, setOne, e, decide_false, Bool.or_false, Bool.and_false]
    refine ⟨?_, ?_⟩
    · rw [← fixAt_meetL ha hb h]; unfold fixAt; rw [mix_get h (by omega), if_pos hi]
    · rw [← oneAt_meetL ha hb h hm]; unfold oneAt; rw [mix_get h (by omega), if_pos hi]
  · subst hi
    rw [hf, ho]
    refine ⟨by simp [updw], ?_⟩
    simp [setOne, one_mix_false h hk hc]
  · rw [hf, ho]
    have e : ¬ i = k := by omega
    simp only [updw, setOne, e, decide_false, Bool.or_false, Bool.and_false]
    refine ⟨?_, ?_⟩
    · unfold fixAt; rw [mix_get h (by omega), if_neg (by omega)]
    · unfold oneAt; rw [mix_get h (by omega), if_neg (by omega)]

theorem one_of_free {a : List UInt8} {k : Nat} (h : fixAt a k = false) : oneAt a k = false := by
  unfold fixAt at h; unfold oneAt
  simp only [Bool.or_eq_false_iff] at h; exact h.2

theorem not_meets {l m : List UInt8} (hl : l.all sym = true) (hm : m.all sym = true) (h : l.length = m.length) {i : Nat} (hp : partAt l m i = true) : meetsB l m = false := by
  rw [← Bool.not_eq_true, meetsB_iff hl hm h]
  intro H
  rw [H i] at hp; cases hp

theorem parts_apart {a b : List UInt8} (ha : a.all sym = true) (hb : b.all sym = true) (h : a.length = b.length) (hm : meetsB a b = true) {k1 k2 : Nat} (h12 : k1 < k2) (hk2 : k2 < a.length) (hc1 : cond a b k1 = true) (hc2 : cond a b k2 = true) :
    meetsB (partL a b k2) (partL a b k1) = false := by
  have e1 := (part_at ha hb h hm (by omega) hc1 k1).2.1 rfl
  have e2 := (part_at ha hb h hm hk2 hc2 k1).1 h12
  obtain ⟨f1, f2⟩ := cond_parts hc1
  refine not_meets (part_sym ha hb h) (part_sym ha hb h) (by rw [part_length h hk2, part_length h (by omega)]) (i := k1) ?_
  unfold partAt
  rw [e1.1, e1.2, e2.1, e2.2, f1, f2, one_of_free f1]
  cases oneAt b k1 <;> rfl
theorem part_off {a b : List UInt8} (ha : a.all sym = true) (hb : b.all sym = true) (h : a.length = b.length) (hm : meetsB a b = true) {k : Nat} (hk : k < a.length) (hc : cond a b k = true) : meetsB b (partL a b k) = false := by
  have e1 := (part_at ha hb h hm hk hc k).2.1 rfl
  obtain ⟨f1, f2⟩ := cond_parts hc
  refine not_meets hb (part_sym ha hb h) (by rw [part_length h hk, h]) (i := k) ?_
  unfold partAt
  rw [e1.1, e1.2, f2]
  cases oneAt b k <;> rfl

theorem pair_cutTo {a b : List UInt8} (ha : a.all sym = true) (hb : b.all sym = true) (h : a.length = b.length) (hm : meetsB a b = true) : ∀ n, n ≤ a.length → (cutTo a b n).Pairwise fun x y => meetsB y x = false
  | 0, _ => by simp [cutTo]
  | n + 1, hn => by
    rw [cutTo, List.pairwise_append]
    refine ⟨pair_cutTo ha hb h hm n (by omega), ?_, ?_⟩
    · split <;> simp
    · intro x hx y hy
      obtain ⟨k, hk, hc, rfl⟩ := mem_cutTo.1 hx
      split at hy
      · rename_i hc2
        rw [List.mem_singleton] at hy
        subst hy
        exact parts_apart ha hb h hm hk (by omega) hc hc2
      · cases hy

theorem meets_flip {a b : List UInt8} (h : a.length = b.length) : meetsB b a = meetsB a b := by
  rw [Bool.eq_iff_iff, meetsB, meetsB, zip_all h.symm, zip_all h]
  constructor <;> (intro H i hi; have := H i (by omega); simp only [Bool.or_eq_true, beq_iff_eq] at this ⊢; rcases this with (e | e) | e <;> simp [e])

theorem pair_cutL {a b : List UInt8} (ha : right a = true) (hb : right b = true) (h : a.length = b.length) : (cutL a b ++ [b]).Pairwise fun x y => meetsB y x = false := by
  obtain ⟨ha1, _, _⟩ := right_all ha
  obtain ⟨hb1, _, _⟩ := right_all hb
  rw [List.pairwise_append]
  unfold cutL
  cases hm : meetsB a b with
  | true =>
    rw [if_pos rfl]
    refine ⟨pair_cutTo ha1 hb1 h hm _ (Nat.le_refl _), by simp, ?_⟩
    intro x hx y hy
    rw [List.mem_singleton] at hy
    subst hy
    obtain ⟨k, hk, hc, rfl⟩ := mem_cutTo.1 hx
    exact part_off ha1 hb1 h hm hk hc
  | false =>
    rw [if_neg (by simp)]
    refine ⟨by simp, by simp, ?_⟩
    intro x hx y hy
    rw [List.mem_singleton] at hx hy
    subst hx hy
    rw [meets_flip h]; exact hm

/-- A header: every place is fixed. -/
theorem header_inside {h c : List UInt8} (hh : h.all sym = true) (hc : c.all sym = true) (hl : h.length = c.length) (hx : ∀ i, i < h.length → fixAt h i = true) :
    insideB h c = true ↔ ∀ i, fixAt c i = true → oneAt h i = oneAt c i := by
  rw [insideB_iff hh hc hl]
  constructor
  · intro H i hi
    have hil : i < h.length := by
      by_cases e : i < h.length
      · exact e
      · rw [fixAt_ge (by omega)] at hi; cases hi
    have := H i
    unfold outAt at this
    rw [hi, hx i hil] at this
    simpa using this
  · intro H i
    unfold outAt
    cases hf : fixAt c i with
    | false => rfl
    | true =>
      have hil : i < h.length := by
        by_cases e : i < h.length
        · exact e
        · rw [fixAt_ge (by omega)] at hf; cases hf
      rw [hx i hil, H i hf]; simp

/-- P1.6: a header lies in one of the parts just if it lies in a and not in b. -/
theorem in_parts {a b h : List UInt8} (ha : right a = true) (hb : right b = true) (hh : h.all sym = true) (hab : a.length = b.length) (hl : h.length = a.length) (hx : ∀ i, i < h.length → fixAt h i = true) :
    (∃ l, l ∈ cutL a b ∧ insideB h l = true) ↔ (insideB h a = true ∧ insideB h b = false) := by
  obtain ⟨ha1, _, _⟩ := right_all ha
  obtain ⟨hb1, _, _⟩ := right_all hb
  have ia := header_inside hh ha1 hl hx
  have ib := header_inside hh hb1 (hl.trans hab) hx
  unfold cutL
  cases hm : meetsB a b with
  | false =>
    rw [if_neg (by simp)]
    constructor
    · rintro ⟨l, hl', hi⟩
      rw [List.mem_singleton] at hl'
      subst hl'
      refine ⟨hi, ?_⟩
      rw [← Bool.not_eq_true]
      intro hi2
      have H1 := ia.1 hi
      have H2 := ib.1 hi2
      have : meetsB l b = true := (meetsB_iff ha1 hb1 hab).2 (fun i => by
        unfold partAt
        cases f1 : fixAt l i with
        | false => simp
        | true =>
          cases f2 : fixAt b i with
          | false => simp
          | true => rw [← H1 i f1, ← H2 i f2]; simp)
      rw [hm] at this; cases this
    · rintro ⟨h1, _⟩
      exact ⟨a, by simp, h1⟩
  | true =>
    rw [if_pos rfl]
    constructor
    · rintro ⟨l, hl', hi⟩
      obtain ⟨k, hk, hc, rfl⟩ := mem_cutTo.1 hl'
      have ip := (header_inside hh (part_sym ha1 hb1 hab) (by rw [part_length hab hk]; exact hl) hx).1 hi
      obtain ⟨f1, f2⟩ := cond_parts hc
      refine ⟨ia.2 (fun i hf => ?_), ?_⟩
      · have pa := part_at ha1 hb1 hab hm hk hc i
        rcases Nat.lt_trichotomy i k with hik | hik | hik
        · have e := pa.1 hik
          have := ip i (by rw [e.1, hf]; rfl)
          rw [this, e.2]
          cases fb : fixAt b i with
          | false => rw [one_of_free fb]; simp
          | true =>
            have := (meetsB_iff ha1 hb1 hab).1 hm i
            unfold partAt at this
            rw [hf, fb] at this
            simp only [Bool.and_true] at this
            have e2 : oneAt a i = oneAt b i := by simpa using this
            rw [e2]; simp
        · subst hik; rw [f1] at hf; cases hf
        · have e := pa.2.2 hik
          have := ip i (by rw [e.1]; exact hf)
          rw [this, e.2]
      · rw [← Bool.not_eq_true]
        intro hi2
        have H2 := ib.1 hi2 k f2
        have e := (part_at ha1 hb1 hab hm hk hc k).2.1 rfl
        have := ip k e.1
        rw [e.2, H2] at this
        cases hob : oneAt b k <;> rw [hob] at this <;> cases this
    · rintro ⟨h1, h2⟩
      have H1 := ia.1 h1
      have hex : ∃ i, i < a.length ∧ (fixAt b i && (oneAt h i != oneAt b i)) = true := by
        apply Classical.byContradiction
        intro hno
        have : insideB h b = true := ib.2 (fun i hf => by
          by_cases hi : i < a.length
          · apply Classical.byContradiction
            intro hne
            exact hno ⟨i, hi, by simp [hf, hne]⟩
          · rw [fixAt_ge (by omega)] at hf; cases hf)
        rw [this] at h2; cases h2
      -- the first such place
      have hfirst : ∀ n, (∃ i, i < n ∧ (fixAt b i && (oneAt h i != oneAt b i)) = true) → ∃ k, k < n ∧ (fixAt b k && (oneAt h k != oneAt b k)) = true ∧ ∀ i, i < k → (fixAt b i && (oneAt h i != oneAt b i)) = false := by
        intro n
        induction n with
        | zero => rintro ⟨i, hi, _⟩; omega
        | succ n ih =>
          rintro ⟨i, hi, hp⟩
          by_cases hn : ∃ i, i < n ∧ (fixAt b i && (oneAt h i != oneAt b i)) = true
          · obtain ⟨k, hk, e, f⟩ := ih hn
            exact ⟨k, by omega, e, f⟩
          · have : i = n := by
              by_cases hin : i < n
              · exact absurd ⟨i, hin, hp⟩ hn
              · omega
            subst this
            refine ⟨i, by omega, hp, fun j hj => ?_⟩
            rw [← Bool.not_eq_true]
            exact fun e => hn ⟨j, hj, e⟩
      obtain ⟨k, hk, hp, hmin⟩ := hfirst _ hex
      simp only [Bool.and_eq_true, bne_iff_ne, ne_eq] at hp
      obtain ⟨f2, hne⟩ := hp
      have f1 : fixAt a k = false := by
        cases f1 : fixAt a k with
        | false => rfl
        | true =>
          have := (meetsB_iff ha1 hb1 hab).1 hm k
          unfold partAt at this
          rw [f1, f2] at this
          have e2 : oneAt a k = oneAt b k := by simpa using this
          exact absurd ((H1 k f1).trans e2) hne
      have hc : cond a b k = true := by unfold cond; rw [f1, f2]; rfl
      refine ⟨partL a b k, mem_cutTo.2 ⟨k, hk, hc, rfl⟩, ?_⟩
      refine (header_inside hh (part_sym ha1 hb1 hab) (by rw [part_length hab hk]; exact hl) hx).2 (fun i hf => ?_)
      have pa := part_at ha1 hb1 hab hm hk hc i
      rcases Nat.lt_trichotomy i k with hik | hik | hik
      · have e := pa.1 hik
        rw [e.1] at hf
        rw [e.2]
        have hmi := hmin i hik
        cases fa : fixAt a i with
        | false =>
          rw [fa, Bool.false_or] at hf
          rw [hf] at hmi
          have e3 : oneAt h i = oneAt b i := by simpa using hmi
          rw [one_of_free fa, e3]; simp
        | true =>
          rw [H1 i fa]
          cases fb : fixAt b i with
          | false => rw [one_of_free fb]; simp
          | true =>
            rw [fb] at hmi
            have e3 : oneAt h i = oneAt b i := by simpa using hmi
            rw [← e3, H1 i fa]; simp
      · subst hik
        rw [(pa.2.1 rfl).2]
        cases ho : oneAt h i <;> cases hob : oneAt b i <;> simp_all
      · have e := pa.2.2 hik
        rw [e.1] at hf
        rw [e.2]; exact H1 i hf
end Cu
end Go.Proofs.YtipmlcdnfaobiaaGreat.Cub
namespace Go.Proofs.YtipmlcdnfaobiaaGreat.Cub
open Go.RowKit

theorem errH_zero {c h : ByteArray} (e : errH c h = 0) : hasX h = false ∧ err2 h c = 0 := by
  unfold errH at e
  split at e
  · cases e
  · rename_i hx
    exact ⟨Bool.not_eq_true _ ▸ hx, e⟩

/-- A header: every place is fixed. -/
theorem header_fixed {h : ByteArray} (hx : hasX h = false) (hr : Cu.right h.data.toList = true) : ∀ i, i < h.data.toList.length → Cu.fixAt h.data.toList i = true := by
  intro i hi
  obtain ⟨h1, _, _⟩ := Cu.right_all hr
  rw [Cu.fixAt_lt hi]
  rcases Cu.sym_at h1 i hi with e | e | e
  · rw [e]; rfl
  · rw [e]; rfl
  · exfalso
    have : (120 : UInt8) ∈ h.data.toList := by rw [← e]; exact List.getElem_mem hi
    unfold hasX at hx
    rw [← Bool.not_eq_true, List.contains_iff_mem] at hx
    exact hx this

theorem hasB_list {c : List UInt8} {h : ByteArray} (hx : hasX h = false) (hh : Cu.right h.data.toList = true) (hc : Cu.right c = true) (hl : c.length = h.size) : hasB ⟨c.toArray⟩ h = Cu.insideB h.data.toList c := by
  have e : err2 h ⟨c.toArray⟩ = 0 := err2_of hh (by simpa using hc) (by show h.size = c.toArray.size; simp [hl])
  unfold hasB insB
  rw [hx, e]
  simp

theorem in_cut {a b h : ByteArray} (h0 : err2 a b = 0) (h1 : errH a h = 0) (h2 : errH b h = 0) : inB (Cu.cutL a.data.toList b.data.toList) h = (hasB a h && !hasB b h) := by
  obtain ⟨ha, hb, hs⟩ := err2_zero h0
  obtain ⟨hx, e1⟩ := errH_zero h1
  obtain ⟨_, e2⟩ := errH_zero h2
  obtain ⟨hh, _, hsa⟩ := err2_zero e1
  obtain ⟨hh1, _, _⟩ := Cu.right_all hh
  have q := Cu.in_parts (h := h.data.toList) ha hb hh1 hs hsa (header_fixed hx hh)
  have ea : hasB a h = Cu.insideB h.data.toList a.data.toList := by unfold hasB insB; rw [hx, e1]; simp
  have eb : hasB b h = Cu.insideB h.data.toList b.data.toList := by unfold hasB insB; rw [hx, e2]; simp
  rw [ea, eb, Bool.eq_iff_iff]
  rw [Bool.and_eq_true, Bool.not_eq_true', ← q]
  unfold inB
  rw [List.any_eq_true]
  constructor
  · rintro ⟨l, hl, hi⟩
    obtain ⟨r1, r2⟩ := Cu.cutL_right ha hb hs l hl
    rw [hasB_list hx hh r1 (by rw [r2]; exact hsa.symm)] at hi
    exact ⟨l, hl, hi⟩
  · rintro ⟨l, hl, hi⟩
    obtain ⟨r1, r2⟩ := Cu.cutL_right ha hb hs l hl
    refine ⟨l, hl, ?_⟩
    rw [hasB_list hx hh r1 (by rw [r2]; exact hsa.symm)]
    exact hi

theorem errL_of {ls : List (List UInt8)} {n : Nat} (h : ∀ l ∈ ls, Cu.right l = true ∧ l.length = n) : errL ls = 0 := by
  have h1 : allRight ls = true := List.all_eq_true.2 (fun l hl => (h l hl).1)
  have h2 : allWide ls = true := List.all_eq_true.2 (fun l hl => by
    have h0 : 0 < ls.length := List.length_pos_of_mem hl
    rw [nth_at h0]
    simp only [beq_iff_eq]
    rw [(h l hl).2, (h _ (List.getElem_mem h0)).2])
  unfold errL
  rw [if_pos h1, if_pos h2]

theorem apartB_of {ls : List (List UInt8)} (h : ls.Pairwise fun x y => Cu.meetsB y x = false) : apartB ls = true := by
  refine decide_eq_true (fun i hi j hj => ?_)
  have hj' : j < ls.length := by omega
  rw [nth_at hi, nth_at hj']
  exact List.pairwise_iff_getElem.1 h j i hj' hi hj

theorem sv_data (b : ByteArray) : Value.string b = sv b.data.toList := by
  show Value.string b = Value.string ⟨b.data.toList.toArray⟩
  rw [Array.toArray_toList]

theorem texts_cells {w : World} {g n cap : Nat} {ls : List (List UInt8)} (h : Texts w (.slice (some ⟨g, 0, none⟩) n cap) ls) : g < w.heap.size ∧ ∀ i (h : i < ls.length), w.cell? ⟨g, i, none⟩ = some (sv ls[i]) := by
  obtain ⟨g', cap', cs, e, hg, hc⟩ := h
  simp only [Value.slice.injEq, Option.some.injEq, Addr.mk.injEq, and_true] at e
  obtain ⟨rfl, _⟩ := e
  refine ⟨lt_of_block hg, fun i hi => ?_⟩
  unfold World.cell?
  rw [hg]
  exact hc i hi

theorem texts_news {w : World} {g : Nat} {ls : List (List UInt8)} {o : Obj} (hg : g < w.heap.size) (hc : ∀ i (h : i < ls.length), w.cell? ⟨g, i, none⟩ = some (sv ls[i])) : ∀ j u, (svs ls)[j]? = some u → (w.alloc o).cell? ((⟨g, 0, none⟩ : Addr).add j) = some u := by
  intro j u hj
  rw [add_zero]
  have hl : j < ls.length := by
    have := List.getElem?_eq_some_iff.1 hj
    obtain ⟨h, _⟩ := this
    simpa [svs] using h
  have hb : Below w.heap.size w (w.alloc o) := (Below.refl _ _).alloc (Nat.le_refl _) _
  rw [hb.cell (by exact hg), hc j hl]
  rw [← hj]
  simp [svs, List.getElem?_eq_getElem hl]
theorem svs_one (ls : List (List UInt8)) : ∀ u ∈ svs ls, u.oneCell' = true := by
  intro u hu
  simp only [svs, List.mem_map] at hu
  obtain ⟨l, _, rfl⟩ := hu
  rfl

end Go.Proofs.YtipmlcdnfaobiaaGreat.Cub
