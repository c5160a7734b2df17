/-
  Words by the document's own reckoning: word, glued.
-/
import Derived.Test.YtalmcdhohoplpaaDoorWFew
namespace Go.Proofs.YtalmcdhohoplpaaDoor
open Go.RowKit

theorem tk_len (l : List UInt8) (c : Nat) : ∀ p ∈ (Wo.tk l c).1, p.1.length ≤ l.length := by
  generalize hn : l.length = n
  induction n using Nat.strongRecOn generalizing l c with
  | ind n ih =>
    intro p hp
    cases l with
    | nil => rw [Wo.tk_nil] at hp; exact absurd hp (by simp)
    | cons a t =>
      simp only [List.length_cons] at hn
      by_cases h35 : a.toNat = 35
      · rw [Wo.tk_hash _ _ _ h35] at hp; exact absurd hp (by simp)
      · cases hb : Wo.blk a.toNat with
        | true =>
          rw [Wo.tk_blank _ _ _ h35 hb] at hp
          have := ih t.length (by omega) t _ rfl p hp
          omega
        | false =>
          by_cases h0 : Wo.fst (a :: t) = 0
          · rw [Wo.tk_fault _ _ _ h35 hb h0] at hp; exact absurd hp (by simp)
          · rw [Wo.tk_word _ _ _ h35 hb h0] at hp
            have hle := Wo.fst_le (a :: t)
            simp only [List.length_cons] at hle
            rcases List.mem_cons.1 hp with rfl | hp
            · simp only [List.length_take, List.length_cons]; omega
            · have := ih ((a :: t).drop (Wo.fst (a :: t))).length (by rw [List.length_drop, List.length_cons]; omega) _ _ rfl p hp
              rw [List.length_drop, List.length_cons] at this
              omega

theorem isW_tk {l : List UInt8} (h : Wo.isW l = true) (c : Nat) : Wo.tk l c = ([(l, c)], none) := by
  have := Wo.tk_first (c := c) h (Wo.fst_blank h [] (Or.inl rfl))
  rw [List.append_nil, Wo.tk_nil] at this
  exact this
theorem isW_of_tk {l : List UInt8} {c : Nat} {p : List UInt8 × Nat} (h2 : (Wo.tk l c).2 = none) (h1 : (Wo.tk l c).1 = [p]) (hp : p.1 = l) : Wo.isW l = true := by
  cases l with
  | nil => rw [Wo.tk_nil] at h1; cases h1
  | cons a t =>
    by_cases h35 : a.toNat = 35
    · rw [Wo.tk_hash _ _ _ h35] at h1; cases h1
    · cases hb : Wo.blk a.toNat with
      | true =>
        rw [Wo.tk_blank _ _ _ h35 hb] at h1
        have := tk_len t (c + 1) p (by rw [h1]; simp)
        rw [hp] at this
        simp only [List.length_cons] at this
        omega
      | false =>
        by_cases h0 : Wo.fst (a :: t) = 0
        · rw [Wo.tk_fault _ _ _ h35 hb h0] at h2; cases h2
        · rw [Wo.tk_word _ _ _ h35 hb h0] at h1
          injection h1 with e1 e2
          rw [← e1] at hp
          have hl := congrArg List.length hp
          simp only [List.length_take, List.length_cons] at hl
          have hle := Wo.fst_le (a :: t)
          simp only [List.length_cons] at hle
          exact decide_eq_true ⟨by simp, by simp only [List.length_cons]; omega⟩
theorem sgn_isW {l : List UInt8} (h : sgn l = true) : Wo.isW l = true := by
  match l, h with
  | [a], h =>
    have h' : Wo.sgl a.toNat = true := h
    exact decide_eq_true ⟨by simp, by rw [Wo.fst_one, h']; rfl⟩
  | [a, b], h =>
    have h' : Wo.dbl a.toNat b.toNat = true := h
    exact decide_eq_true ⟨by simp, by rw [Wo.fst_two, h']; rfl⟩

theorem tx_eq_iff (a b : List UInt8) : ((tx a).toList == (tx b).toList) = decide (a = b) := by
  rw [Lib.toList_data, Lib.toList_data]
  show (a == b) = _
  by_cases h : a = b
  · subst h; simp
  · simp [h]

set_option maxRecDepth 4000 in
set_option maxHeartbeats 1000000 in
theorem Rword_any (l : List UInt8) (w : World) (hl : l.length ≤ 1048576) : Calls Tryd.prog 35 #[.string (tx l)] w fun e w' => e = .returned (.bool (Wo.isW l)) ∧ Below w.heap.size w w' := by
  have q1 := fun w => RSign_any (tx l) w
  rw [show (tx l).data.toList = l from rfl] at q1
  have q2 := fun w => line_any l 1 w hl (by omega)
  rcases bool_two (sgn l) with hs | hs
  · rw [hs] at q1
    obtain ⟨s, hsd⟩ : ∃ s, s = tx l := ⟨_, rfl⟩
    rw [← hsd] at q1 q2 ⊢
    have HS := hid hsd
    clear hsd hs
    go_enter Tryd.func35, Tryd.ntmps35
    go_wp2_with (first | (go_at_call 18; refine (q1 _).mono ?_; rintro e w' ⟨rfl, rfl⟩) | fail)
    refine (q2 _).mono ?_
    clear q1 q2
    rintro e w1 ⟨hb1, ⟨c, hf, rfl⟩ | ⟨v, hno, rfl, hown⟩⟩
    · have HE := hid (show Wo.isW l = false by
        cases hq : Wo.isW l with
        | false => rfl
        | true => rw [isW_tk hq] at hf; cases hf)
      have hc : decide ((c : Int) < 0) = false := decide_eq_false (by omega)
      clear hf
      go_wp2
      go_ret
      exact ⟨ret_bool HE.out.symm, hb1⟩
    · obtain ⟨ao, cap, rfl⟩ := own_form hown
      by_cases h1 : ∃ p, (Wo.tk l 1).1 = [p]
      · obtain ⟨p, hp⟩ := h1
        rw [hp] at hown ⊢
        obtain ⟨g, cap', hv, hg, hc⟩ := own_some hown (by simp)
        injection hv with e1 e2 e3
        subst e1
        have c0 := hc 0 (.string (tx p.1)) (by simp [Wo.wds, flatW, wcl])
        have HE := hid (show Wo.isW l = (p.1 == s.toList) by
          have e0 : (p.1 == s.toList) = decide (p.1 = l) := by rw [HS.out]; have := tx_eq_iff p.1 l; rw [Lib.toList_data] at this; exact this
          rw [e0]
          cases hq : Wo.isW l with
          | true =>
            have := isW_tk hq 1
            rw [this] at hp
            injection hp with e1 _
            rw [← e1]; simp
          | false =>
            symm
            refine decide_eq_false (fun e => ?_)
            have := isW_of_tk hno hp e
            rw [hq] at this; cases this)
        clear hno hown hc hp
        go_wp2
        go_ret
        exact ⟨ret_bool HE.out.symm, hb1⟩
      · have hlen : (Wo.tk l 1).1.length ≠ 1 := fun e => by
          match hq : (Wo.tk l 1).1, e with
          | [p], _ => exact h1 ⟨p, hq⟩
        have hlb : (((Wo.tk l 1).1.length : Int) == 1) = false := by rw [beq_eq_false_iff_ne]; omega
        have HE := hid (show Wo.isW l = false by
          cases hq : Wo.isW l with
          | false => rfl
          | true => exact absurd ⟨_, by rw [isW_tk hq]⟩ h1)
        clear hno hown h1 hlen
        go_wp2
        go_ret
        exact ⟨ret_bool HE.out.symm, hb1⟩
  · have HE := hid (sgn_isW hs)
    rw [hs] at q1
    clear hs
    go_enter Tryd.func35, Tryd.ntmps35
    go_wp2_with (go_at_call 18; refine (q1 _).mono ?_; rintro e w' ⟨rfl, rfl⟩)
    go_ret
    exact ⟨ret_bool HE.out.symm, Below.refl _ _⟩

theorem glue_tk {a b : List UInt8} (ha : Wo.isW a = true) (hb : Wo.isW b = true) (hg : Wo.glue a b = false) : Wo.tk (a ++ b) 1 = ([(a, 1), (b, 1 + a.length)], none) := by
  have hg' : Wo.fst (a ++ b) = a.length := Decidable.not_not.1 (of_decide_eq_false hg)
  rw [Wo.tk_first ha hg', isW_tk hb]
theorem glue_not {a b : List UInt8} (ha : Wo.isW a = true) (hg : Wo.glue a b = true) {p q : List UInt8 × Nat} (h2 : (Wo.tk (a ++ b) 1).2 = none) (h1 : (Wo.tk (a ++ b) 1).1 = [p, q]) : p.1 ≠ a := by
  have hg' : Wo.fst (a ++ b) ≠ a.length := of_decide_eq_true hg
  obtain ⟨x, t, rfl⟩ : ∃ x t, a = x :: t := by
    cases a with
    | nil => exact absurd rfl (Wo.isW_ne ha)
    | cons x t => exact ⟨x, t, rfl⟩
  have hx : Wo.ltr x.toNat = true ∨ Wo.sgl x.toNat = true := Wo.fst_head (t := t) (by rw [Wo.isW_len ha]; simp)
  obtain ⟨p1, p2, _⟩ := Wo.head_plain hx
  intro hp
  have e : x :: t ++ b = x :: (t ++ b) := rfl
  rw [e] at h1 h2 hg'
  by_cases h0 : Wo.fst (x :: (t ++ b)) = 0
  · rw [Wo.tk_fault _ _ _ p1 p2 h0] at h2; cases h2
  · rw [Wo.tk_word _ _ _ p1 p2 h0] at h1
    injection h1 with e1 e2
    rw [← e1] at hp
    have hl := congrArg List.length hp
    have hle := Wo.fst_le (x :: (t ++ b))
    rw [List.length_take, Nat.min_eq_left hle] at hl
    exact hg' hl

set_option maxRecDepth 4000 in
set_option maxHeartbeats 1000000 in
theorem Rglued_any (a b : List UInt8) (w : World) (ha : Wo.isW a = true) (hb : Wo.isW b = true) (hl : a.length + b.length ≤ 1048576) : Calls Tryd.prog 36 #[.string (tx a), .string (tx b)] w fun e w' => e = .returned (.bool (Wo.glue a b)) ∧ Below w.heap.size w w' := by
  have q2 := fun w => line_any (a ++ b) 1 w (by rw [List.length_append]; exact hl) (by omega)
  have hap : tx (a ++ b) = tx a ++ tx b := by
    apply ByteArray.ext
    simp
  rw [hap] at q2
  have HA := hid ha
  have HB := hid hb
  have hov : ¬ 9223372036854775807 < (tx a).size + (tx b).size := by rw [tx_size, tx_size]; omega
  have hov2 : ¬ 9223372036854775807 < a.length + b.length := by omega
  clear ha hb hap
  go_enter Tryd.func36, Tryd.ntmps36
  go_wp2_with fail
  refine (q2 _).mono ?_
  clear q2 hov hov2
  rintro e w1 ⟨hb1, ⟨c, hf, rfl⟩ | ⟨v, hno, rfl, hown⟩⟩
  · have HE := hid (show Wo.glue a b = true by
      cases hq : Wo.glue a b with
      | true => rfl
      | false => rw [glue_tk HA.out HB.out hq] at hf; cases hf)
    have hc : (0 : Int) ≤ (c : Int) := by omega
    clear hf
    go_wp2
    go_ret
    exact ⟨ret_bool HE.out.symm, hb1⟩
  · obtain ⟨ao, cap, rfl⟩ := own_form hown
    by_cases h1 : ∃ p q, (Wo.tk (a ++ b) 1).1 = [p, q]
    · obtain ⟨p, q, hp⟩ := h1
      rw [hp] at hown ⊢
      obtain ⟨g, cap', hv, hg, hc⟩ := own_some hown (by simp)
      injection hv with e1 e2 e3
      subst e1
      have c0 := hc 0 (.string (tx p.1)) (by simp [Wo.wds, flatW, wcl])
      have c3 := hc 3 (.string (tx q.1)) (by simp [Wo.wds, flatW, wcl])
      rcases bool_two (Wo.glue a b) with hq | hq
      · have hpq := glue_tk HA.out HB.out hq
        rw [hpq] at hp
        injection hp with u1 u2
        injection u2 with u3 _
        subst u1
        subst u3
        have HQ := hid hq
        clear hno hown hc hq hpq
        go_wp2
        go_ret
        exact ⟨ret_bool (by rw [HQ.out]), hb1⟩
      · have hne := glue_not HA.out hq hno hp
        have hb' : (p.1 == a) = false := beq_eq_false_iff_ne.2 hne
        have HQ := hid hq
        clear hno hown hc hq hne
        go_wp2
        go_ret
        exact ⟨ret_bool (by rw [HQ.out]), hb1⟩
    · have hlen : (Wo.tk (a ++ b) 1).1.length ≠ 2 := fun e => by
        match hq : (Wo.tk (a ++ b) 1).1, e with
        | [p, q], _ => exact h1 ⟨p, q, hq⟩
      have hlb : (((Wo.tk (a ++ b) 1).1.length : Int) != 2) = true := by rw [bne_iff_ne]; omega
      have HE := hid (show Wo.glue a b = true by
        cases hq : Wo.glue a b with
        | true => rfl
        | false => exact absurd ⟨_, _, by rw [glue_tk HA.out HB.out hq]⟩ h1)
      clear hno hown h1 hlen
      go_wp2
      go_ret
      exact ⟨ret_bool HE.out.symm, hb1⟩
end Go.Proofs.YtalmcdhohoplpaaDoor
