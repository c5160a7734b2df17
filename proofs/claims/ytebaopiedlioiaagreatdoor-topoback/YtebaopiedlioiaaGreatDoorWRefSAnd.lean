/-
  topo.Peer of any links.
  Which ends, and which links, are alike: == at structs of numbers and texts.
  Links of two ends: endsOf, compareLinks, joined.
  Which end, and which link, stands ahead: cmp.Compare, cmp.Or, compare, compareLinks, joined, endsOf; isWidth.
  The reader of rules in memory: what of a line is left, the line's end; begin, next, must, text.
  Words by the document's own reckoning: word, glued.
-/
import Derived.Test.YtebaopiedlioiaaGreatDoorWRefLAnd
import Derived.Test.YtebaopiedlioiaaGreatDoorUMathAnd
import Derived.Test.YtebaopiedlioiaaGreatDoorWSkipAnd
import Derived.Deep.RegionHeld2
import Derived.Sort.Walk0
import Derived.Deep.DeepCutAuto
namespace Go.Proofs.YtebaopiedlioiaaGreatDoor
open Go.RowKit

theorem tk_len (l : List UInt8) (c : Nat) : ∀ p ∈ (Wo.tk l c).1, p.1.length ≤ l.length := by
  generalize hn : l.length = n
  induction n using Nat.strongRecOn generalizing l c with
  | ind n ih =>
    intro p hp
    cases l with
    | nil => rw [Wo.tk_nil] at hp; exact absurd hp (by simp)
    | cons a t =>
      simp only [List.length_cons] at hn
      by_cases h35 : a.toNat = 35
      · rw [Wo.tk_hash _ _ _ h35] at hp; exact absurd hp (by simp)
      · cases hb : Wo.blk a.toNat with
        | true =>
          rw [Wo.tk_blank _ _ _ h35 hb] at hp
          have := ih t.length (by omega) t _ rfl p hp
          omega
        | false =>
          by_cases h0 : Wo.fst (a :: t) = 0
          · rw [Wo.tk_fault _ _ _ h35 hb h0] at hp; exact absurd hp (by simp)
          · rw [Wo.tk_word _ _ _ h35 hb h0] at hp
            have hle := Wo.fst_le (a :: t)
            simp only [List.length_cons] at hle
            rcases List.mem_cons.1 hp with rfl | hp
            · simp only [List.length_take, List.length_cons]; omega
            · have := ih ((a :: t).drop (Wo.fst (a :: t))).length (by rw [List.length_drop, List.length_cons]; omega) _ _ rfl p hp
              rw [List.length_drop, List.length_cons] at this
              omega

theorem isW_tk {l : List UInt8} (h : Wo.isW l = true) (c : Nat) : Wo.tk l c = ([(l, c)], none) := by
  have := Wo.tk_first (c := c) h (Wo.fst_blank h [] (Or.inl rfl))
  rw [List.append_nil, Wo.tk_nil] at this
  exact this
theorem isW_of_tk {l : List UInt8} {c : Nat} {p : List UInt8 × Nat} (h2 : (Wo.tk l c).2 = none) (h1 : (Wo.tk l c).1 = [p]) (hp : p.1 = l) : Wo.isW l = true := by
  cases l with
  | nil => rw [Wo.tk_nil] at h1; cases h1
  | cons a t =>
    by_cases h35 : a.toNat = 35
    · rw [Wo.tk_hash _ _ _ h35] at h1; cases h1
    · cases hb : Wo.blk a.toNat with
      | true =>
        rw [Wo.tk_blank _ _ _ h35 hb] at h1
        have := tk_len t (c + 1) p (by rw [h1]; simp)
        rw [hp] at this
        simp only [List.length_cons] at this
        omega
      | false =>
        by_cases h0 : Wo.fst (a :: t) = 0
        · rw [Wo.tk_fault _ _ _ h35 hb h0] at h2; cases h2
        · rw [Wo.tk_word _ _ _ h35 hb h0] at h1
          injection h1 with e1 e2
          rw [← e1] at hp
          have hl := congrArg List.length hp
          simp only [List.length_take, List.length_cons] at hl
          have hle := Wo.fst_le (a :: t)
          simp only [List.length_cons] at hle
          exact decide_eq_true ⟨by simp, by simp only [List.length_cons]; omega⟩
theorem sgn_isW {l : List UInt8} (h : sgn l = true) : Wo.isW l = true := by
  match l, h with
  | [a], h =>
    have h' : Wo.sgl a.toNat = true := h
    exact decide_eq_true ⟨by simp, by rw [Wo.fst_one, h']; rfl⟩
  | [a, b], h =>
    have h' : Wo.dbl a.toNat b.toNat = true := h
    exact decide_eq_true ⟨by simp, by rw [Wo.fst_two, h']; rfl⟩

theorem tx_eq_iff (a b : List UInt8) : ((tx a).toList == (tx b).toList) = decide (a = b) := by
  rw [Lib.toList_data, Lib.toList_data]
  show (a == b) = _
  by_cases h : a = b
  · subst h; simp
  · simp [h]

set_option maxRecDepth 4000 in
set_option maxHeartbeats 1000000 in
theorem Rword_any (l : List UInt8) (w : World) (hl : l.length ≤ 1048576) : Calls Tryz.prog 71 #[.string (tx l)] w fun e w' => e = .returned (.bool (Wo.isW l)) ∧ Below w.heap.size w w' := by
  have q1 := fun w => RSign_any (tx l) w
  rw [show (tx l).data.toList = l from rfl] at q1
  have q2 := fun w => line_any l 1 w hl (by omega)
  rcases bool_two (sgn l) with hs | hs
  · rw [hs] at q1
    obtain ⟨s, hsd⟩ : ∃ s, s = tx l := ⟨_, rfl⟩
    rw [← hsd] at q1 q2 ⊢
    have HS := hid hsd
    clear hsd hs
    go_enter Tryz.func71, Tryz.ntmps71
    go_wp2_with (first | (go_at_call 107; refine (q1 _).mono ?_; rintro e w' ⟨rfl, rfl⟩) | fail)
    refine (q2 _).mono ?_
    clear q1 q2
    rintro e w1 ⟨hb1, ⟨c, hf, rfl⟩ | ⟨v, hno, rfl, hown⟩⟩
    · have HE := hid (show Wo.isW l = false by
        cases hq : Wo.isW l with
        | false => rfl
        | true => rw [isW_tk hq] at hf; cases hf)
      have hc : decide ((c : Int) < 0) = false := decide_eq_false (by omega)
      clear hf
      go_wp2
      go_ret
      exact ⟨ret_bool HE.out.symm, hb1⟩
    · obtain ⟨ao, cap, rfl⟩ := own_form hown
      by_cases h1 : ∃ p, (Wo.tk l 1).1 = [p]
      · obtain ⟨p, hp⟩ := h1
        rw [hp] at hown ⊢
        obtain ⟨g, cap', hv, hg, hc⟩ := own_some hown (by simp)
        injection hv with e1 e2 e3
        subst e1
        have c0 := hc 0 (.string (tx p.1)) (by simp [Wo.wds, flatW, wcl])
        have HE := hid (show Wo.isW l = (p.1 == s.toList) by
          have e0 : (p.1 == s.toList) = decide (p.1 = l) := by rw [HS.out]; have := tx_eq_iff p.1 l; rw [Lib.toList_data] at this; exact this
          rw [e0]
          cases hq : Wo.isW l with
          | true =>
            have := isW_tk hq 1
            rw [this] at hp
            injection hp with e1 _
            rw [← e1]; simp
          | false =>
            symm
            refine decide_eq_false (fun e => ?_)
            have := isW_of_tk hno hp e
            rw [hq] at this; cases this)
        clear hno hown hc hp
        go_wp2
        go_ret
        exact ⟨ret_bool HE.out.symm, hb1⟩
      · have hlen : (Wo.tk l 1).1.length ≠ 1 := fun e => by
          match hq : (Wo.tk l 1).1, e with
          | [p], _ => exact h1 ⟨p, hq⟩
        have hlb : (((Wo.tk l 1).1.length : Int) == 1) = false := by rw [beq_eq_false_iff_ne]; omega
        have HE := hid (show Wo.isW l = false by
          cases hq : Wo.isW l with
          | false => rfl
          | true => exact absurd ⟨_, by rw [isW_tk hq]⟩ h1)
        clear hno hown h1 hlen
        go_wp2
        go_ret
        exact ⟨ret_bool HE.out.symm, hb1⟩
  · have HE := hid (sgn_isW hs)
    rw [hs] at q1
    clear hs
    go_enter Tryz.func71, Tryz.ntmps71
    go_wp2_with (go_at_call 107; refine (q1 _).mono ?_; rintro e w' ⟨rfl, rfl⟩)
    go_ret
    exact ⟨ret_bool HE.out.symm, Below.refl _ _⟩

theorem glue_tk {a b : List UInt8} (ha : Wo.isW a = true) (hb : Wo.isW b = true) (hg : Wo.glue a b = false) : Wo.tk (a ++ b) 1 = ([(a, 1), (b, 1 + a.length)], none) := by
  have hg' : Wo.fst (a ++ b) = a.length := Decidable.not_not.1 (of_decide_eq_false hg)
  rw [Wo.tk_first ha hg', isW_tk hb]
theorem glue_not {a b : List UInt8} (ha : Wo.isW a = true) (hg : Wo.glue a b = true) {p q : List UInt8 × Nat} (h2 : (Wo.tk (a ++ b) 1).2 = none) (h1 : (Wo.tk (a ++ b) 1).1 = [p, q]) : p.1 ≠ a := by
  have hg' : Wo.fst (a ++ b) ≠ a.length := of_decide_eq_true hg
  obtain ⟨x, t, rfl⟩ : ∃ x t, a = x :: t := by
    cases a with
    | nil => exact absurd rfl (Wo.isW_ne ha)
    | cons x t => exact ⟨x, t, rfl⟩
  have hx : Wo.ltr x.toNat = true ∨ Wo.sgl x.toNat = true := Wo.fst_head (t := t) (by rw [Wo.isW_len ha]; simp)
  obtain ⟨p1, p2, _⟩ := Wo.head_plain hx
  intro hp
  have e : x :: t ++ b = x :: (t ++ b) := rfl
  rw [e] at h1 h2 hg'
  by_cases h0 : Wo.fst (x :: (t ++ b)) = 0
  · rw [Wo.tk_fault _ _ _ p1 p2 h0] at h2; cases h2
  · rw [Wo.tk_word _ _ _ p1 p2 h0] at h1
    injection h1 with e1 e2
    rw [← e1] at hp
    have hl := congrArg List.length hp
    have hle := Wo.fst_le (x :: (t ++ b))
    rw [List.length_take, Nat.min_eq_left hle] at hl
    exact hg' hl

set_option maxRecDepth 4000 in
set_option maxHeartbeats 1000000 in
theorem Rglued_any (a b : List UInt8) (w : World) (ha : Wo.isW a = true) (hb : Wo.isW b = true) (hl : a.length + b.length ≤ 1048576) : Calls Tryz.prog 72 #[.string (tx a), .string (tx b)] w fun e w' => e = .returned (.bool (Wo.glue a b)) ∧ Below w.heap.size w w' := by
  have q2 := fun w => line_any (a ++ b) 1 w (by rw [List.length_append]; exact hl) (by omega)
  have hap : tx (a ++ b) = tx a ++ tx b := by
    apply ByteArray.ext
    simp
  rw [hap] at q2
  have HA := hid ha
  have HB := hid hb
  have hov : ¬ 9223372036854775807 < (tx a).size + (tx b).size := by rw [tx_size, tx_size]; omega
  have hov2 : ¬ 9223372036854775807 < a.length + b.length := by omega
  clear ha hb hap
  go_enter Tryz.func72, Tryz.ntmps72
  go_wp2_with fail
  refine (q2 _).mono ?_
  clear q2 hov hov2
  rintro e w1 ⟨hb1, ⟨c, hf, rfl⟩ | ⟨v, hno, rfl, hown⟩⟩
  · have HE := hid (show Wo.glue a b = true by
      cases hq : Wo.glue a b with
      | true => rfl
      | false => rw [glue_tk HA.out HB.out hq] at hf; cases hf)
    have hc : (0 : Int) ≤ (c : Int) := by omega
    clear hf
    go_wp2
    go_ret
    exact ⟨ret_bool HE.out.symm, hb1⟩
  · obtain ⟨ao, cap, rfl⟩ := own_form hown
    by_cases h1 : ∃ p q, (Wo.tk (a ++ b) 1).1 = [p, q]
    · obtain ⟨p, q, hp⟩ := h1
      rw [hp] at hown ⊢
      obtain ⟨g, cap', hv, hg, hc⟩ := own_some hown (by simp)
      injection hv with e1 e2 e3
      subst e1
      have c0 := hc 0 (.string (tx p.1)) (by simp [Wo.wds, flatW, wcl])
      have c3 := hc 3 (.string (tx q.1)) (by simp [Wo.wds, flatW, wcl])
      rcases bool_two (Wo.glue a b) with hq | hq
      · have hpq := glue_tk HA.out HB.out hq
        rw [hpq] at hp
        injection hp with u1 u2
        injection u2 with u3 _
        subst u1
        subst u3
        have HQ := hid hq
        clear hno hown hc hq hpq
        go_wp2
        go_ret
        exact ⟨ret_bool (by rw [HQ.out]), hb1⟩
      · have hne := glue_not HA.out hq hno hp
        have hb' : (p.1 == a) = false := beq_eq_false_iff_ne.2 hne
        have HQ := hid hq
        clear hno hown hc hq hne
        go_wp2
        go_ret
        exact ⟨ret_bool (by rw [HQ.out]), hb1⟩
    · have hlen : (Wo.tk (a ++ b) 1).1.length ≠ 2 := fun e => by
        match hq : (Wo.tk (a ++ b) 1).1, e with
        | [p, q], _ => exact h1 ⟨p, q, hq⟩
      have hlb : (((Wo.tk (a ++ b) 1).1.length : Int) != 2) = true := by rw [bne_iff_ne]; omega
      have HE := hid (show Wo.glue a b = true by
        cases hq : Wo.glue a b with
        | true => rfl
        | false => exact absurd ⟨_, _, by rw [glue_tk HA.out HB.out hq]⟩ h1)
      clear hno hown h1 hlen
      go_wp2
      go_ret
      exact ⟨ret_bool HE.out.symm, hb1⟩
end Go.Proofs.YtebaopiedlioiaaGreatDoor
namespace Go.Proofs.YtebaopiedlioiaaGreatDoor
open Go.RowKit
open Wo (Wd)

/-- A word as a value. -/
abbrev wv (x : Wd) : Value := .agg #[.string (tx x.1), .int .i64 x.2.1, .int .i64 x.2.2]
/-- A word in a block of its own. -/
abbrev wob (x : Wd) : Obj := .cells #[.string (tx x.1), .int .i64 x.2.1, .int .i64 x.2.2] 74
theorem heap_old (w : World) (o : Obj) {k : Nat} (hk : k < w.heap.size) : (w.alloc o).heap[k]? = w.heap[k]? := by
  show (w.heap.push o)[k]? = _
  rw [Array.getElem?_push, if_neg (by omega)]
/-- The panic of must. -/
abbrev pan (e : Int) : List PanicEntry := [{ v := .iface 26 (.int .i64 e), recovered := false }]

theorem grown_refl (w : World) (r : Option Nat) : w.grownBy w r := ⟨rfl, rfl, rfl, Nat.le_refl _, fun _ _ _ => rfl⟩
theorem grown_set (w : World) (b o : Nat) (v : Value) : w.grownBy (w.setCell ⟨b, o, none⟩ v) (some b) := grown_cell _ _ _ _
theorem grown_alloc (w : World) (o : Obj) (r : Option Nat) : w.grownBy (w.alloc o) r := ⟨rfl, rfl, rfl, by simp, fun i hi _ => heap_old w o hi⟩
theorem alloc_cell {w : World} {b o : Nat} {v : Value} (h : w.cell? ⟨b, o, none⟩ = some v) (hb : b < w.heap.size) (ob : Obj) : (w.alloc ob).cell? ⟨b, o, none⟩ = some v := by
  rw [World.cell?_of_block (heap_old w ob hb)]; exact h
theorem alloc_free {w : World} {b o : Nat} {cs : Array Value} {t : TypeId} (h : w.heap[b]? = some (.cells cs t (0, 0))) (ob : Obj) : (w.alloc ob).frozen? ⟨b, o, none⟩ = false := free_of (new_old w ob h)

end Go.Proofs.YtebaopiedlioiaaGreatDoor
namespace Go.Proofs.YtebaopiedlioiaaGreatDoor
open Go.RowKit

theorem onanInt (x : Int) (w : World) : Calls Tryz.prog 152 #[.int .i64 x] w fun e w' => e = .returned (.bool false) ∧ w' = w := by
  go_enter Tryz.func152, Tryz.ntmps152
  go_wp2
  go_ret
  exact ⟨by simp, rfl⟩
theorem onanStr (x : List UInt8) (w : World) : Calls Tryz.prog 138 #[.string (tx x)] w fun e w' => e = .returned (.bool false) ∧ w' = w := by
  go_enter Tryz.func138, Tryz.ntmps138
  go_wp2
  go_ret
  exact ⟨by simp, rfl⟩
/-- Below, above or alike. -/
def ocI (x y : Int) : Int := if x < y then -1 else if y < x then 1 else 0
def ocL (x y : List UInt8) : Int := if x < y then -1 else if y < x then 1 else 0

set_option maxHeartbeats 1000000 in
theorem ocmpInt (x y : Int) (w : World) : Calls Tryz.prog 113 #[.int .i64 x, .int .i64 y] w fun e w' => e = .returned (.int .i64 (ocI x y)) ∧ w' = w := by
  have HX := hid (onanInt x)
  have HY := hid (onanInt y)
  rcases Int.lt_trichotomy x y with h | h | h
  · have e := hid (show ocI x y = -1 by unfold ocI; rw [if_pos h])
    go_enter Tryz.func113, Tryz.ntmps113
    go_wp2_with (first | (go_at_call 152; refine (onanInt _ _).mono ?_; rintro e w' ⟨rfl, rfl⟩))
    go_ret
    exact ⟨by rw [e.out]; rfl, rfl⟩
  · subst h
    have e := hid (show ocI x x = 0 by unfold ocI; rw [if_neg (Int.lt_irrefl _), if_neg (Int.lt_irrefl _)])
    go_enter Tryz.func113, Tryz.ntmps113
    go_wp2_with (first | (go_at_call 152; refine (onanInt _ _).mono ?_; rintro e w' ⟨rfl, rfl⟩))
    go_ret
    exact ⟨by rw [e.out]; rfl, rfl⟩
  · have hn : ¬ x < y := by omega
    have e := hid (show ocI x y = 1 by unfold ocI; rw [if_neg hn, if_pos h])
    go_enter Tryz.func113, Tryz.ntmps113
    go_wp2_with (first | (go_at_call 152; refine (onanInt _ _).mono ?_; rintro e w' ⟨rfl, rfl⟩))
    go_ret
    exact ⟨by rw [e.out]; rfl, rfl⟩

set_option maxHeartbeats 1000000 in
theorem ocmpStr (x y : List UInt8) (w : World) : Calls Tryz.prog 97 #[.string (tx x), .string (tx y)] w fun e w' => e = .returned (.int .i64 (ocL x y)) ∧ w' = w := by
  by_cases h : x < y
  · have e := hid (show ocL x y = -1 by unfold ocL; rw [if_pos h])
    have h1 : Op.bytesLess x y = true := by rw [bytesLess_eq]; exact decide_eq_true h
    clear h
    go_enter Tryz.func97, Tryz.ntmps97
    go_wp2_with (first | (go_at_call 138; refine (onanStr _ _).mono ?_; rintro e w' ⟨rfl, rfl⟩))
    go_ret
    exact ⟨by rw [e.out]; rfl, rfl⟩
  · have h1 : Op.bytesLess x y = false := by rw [bytesLess_eq]; exact decide_eq_false h
    by_cases h2 : y < x
    · have e := hid (show ocL x y = 1 by unfold ocL; rw [if_neg h, if_pos h2])
      have h3 : (x == y) = false := by rw [beq_eq_false_iff_ne]; rintro rfl; exact h h2
      clear h h2
      go_enter Tryz.func97, Tryz.ntmps97
      go_wp2_with (first | (go_at_call 138; refine (onanStr _ _).mono ?_; rintro e w' ⟨rfl, rfl⟩))
      go_ret
      exact ⟨by rw [e.out]; rfl, rfl⟩
    · have e := hid (show ocL x y = 0 by unfold ocL; rw [if_neg h, if_neg h2])
      have h3 : (x == y) = true := by
        rw [beq_iff_eq]
        rcases Ru.lt_or h with q | q
        · exact absurd q h2
        · exact q
      clear h h2
      go_enter Tryz.func97, Tryz.ntmps97
      go_wp2_with (first | (go_at_call 138; refine (onanStr _ _).mono ?_; rintro e w' ⟨rfl, rfl⟩))
      go_ret
      exact ⟨by rw [e.out]; rfl, rfl⟩

set_option maxHeartbeats 1000000 in
/-- cmp.Or of two. -/
theorem ocmpOr {w : World} {g : Nat} {a b : Int} (h0 : w.cell? ⟨g, 0, none⟩ = some (.int .i64 a)) (h1 : w.cell? ⟨g, 1, none⟩ = some (.int .i64 b)) : Calls Tryz.prog 112 #[.slice (some ⟨g, 0, none⟩) 2 2] w fun e w' => e = .returned (.int .i64 (if a = 0 then b else a)) ∧ w' = w := by
  by_cases ha : a = 0
  · rw [if_pos ha]
    subst ha
    by_cases hb : b = 0
    · subst hb
      go_enter Tryz.func112, Tryz.ntmps112
      go_wp2_with fail
      refine wp_loop_rounds 3 ?_
      rw [rounds_succ]
      go_wp2_with fail
      rw [rounds_succ]
      go_wp2_with fail
      rw [rounds_succ]
      go_wp2
      go_ret
      exact ⟨rfl, rfl⟩
    · go_enter Tryz.func112, Tryz.ntmps112
      go_wp2_with fail
      refine wp_loop_rounds 2 ?_
      rw [rounds_succ]
      go_wp2_with fail
      rw [rounds_succ]
      go_wp2
      go_ret
      exact ⟨rfl, rfl⟩
  · rw [if_neg ha]
    go_enter Tryz.func112, Tryz.ntmps112
    go_wp2_with fail
    refine wp_loop_rounds 1 ?_
    rw [rounds_succ]
    go_wp2
    go_ret
    exact ⟨rfl, rfl⟩
set_option maxHeartbeats 400000 in
theorem oisWidth (n : Int) (w : World) : Calls Tryz.prog 74 #[.int .i64 n] w fun e w' => e = .returned (.bool (decide (1 ≤ n ∧ n ≤ 128))) ∧ w' = w := by
  by_cases h1 : 1 ≤ n
  · by_cases h2 : n ≤ 128
    · have hd : decide (1 ≤ n ∧ n ≤ 128) = true := by simp [h1, h2]
      rw [hd]
      go_enter Tryz.func74, Tryz.ntmps74
      go_wp2
      go_ret
      exact ⟨rfl, rfl⟩
    · have hd : decide (1 ≤ n ∧ n ≤ 128) = false := by simp [h2]
      rw [hd]
      go_enter Tryz.func74, Tryz.ntmps74
      go_wp2
      go_ret
      exact ⟨rfl, rfl⟩
  · have hd : decide (1 ≤ n ∧ n ≤ 128) = false := by simp [h1]
    rw [hd]
    go_enter Tryz.func74, Tryz.ntmps74
    go_wp2
    go_ret
    exact ⟨rfl, rfl⟩

/-- An end in a block of its own. -/
abbrev eob (p : Int) (m : List UInt8) : Obj := .cells #[.int .i64 p, .string (tx m)] 95
theorem eob_cells {w : World} {b : Nat} {p : Int} {m : List UInt8} (h : w.heap[b]? = some (eob p m)) : w.cell? ⟨b, 0, none⟩ = some (.int .i64 p) ∧ w.cell? ⟨b, 1, none⟩ = some (.string (tx m)) := by
  constructor
  · rw [cell_at h]; rfl
  · rw [cell_at h]; rfl

set_option maxRecDepth 20000 in
set_option maxHeartbeats 2000000 in
theorem ocompare_gr {w : World} {p q : Int} {m n : List UInt8} :
    Calls Tryz.prog 78 #[.agg #[.int .i64 p, .string (tx m)], .agg #[.int .i64 q, .string (tx n)]] w fun e w' => e = .returned (.int .i64 (if ocI p q = 0 then ocL m n else ocI p q)) ∧ Below w.heap.size w w' ∧ w.drawn ≤ w'.drawn := by
  have HI := hid (fun w' => ocmpInt p q w')
  have HS := hid (fun w' => ocmpStr m n w')
  obtain ⟨a, ha⟩ : ∃ a, a = ocI p q := ⟨_, rfl⟩
  obtain ⟨b, hb⟩ : ∃ b, b = ocL m n := ⟨_, rfl⟩
  rw [← ha] at HI ⊢
  rw [← hb] at HS ⊢
  obtain ⟨r, hr⟩ : ∃ r, r = (if a = 0 then b else a) := ⟨_, rfl⟩
  have HO := hid (fun (X : World) => ocmpOr (w := (X.alloc (.cells #[.int .i64 a, .int .i64 b] 3)).drew) (g := X.heap.size) (a := a) (b := b) (by rw [cell_at (show ((X.alloc (.cells #[.int .i64 a, .int .i64 b] 3)).drew).heap[X.heap.size]? = some (.cells #[.int .i64 a, .int .i64 b] 3) from new_0 _ _)]; rfl) (by rw [cell_at (show ((X.alloc (.cells #[.int .i64 a, .int .i64 b] 3)).drew).heap[X.heap.size]? = some (.cells #[.int .i64 a, .int .i64 b] 3) from new_0 _ _)]; rfl))
  rw [← hr] at HO ⊢
  clear ha hb hr
  obtain ⟨X, hX⟩ : ∃ X, X = (w.alloc (eob p m)).alloc (eob q n) := ⟨_, rfl⟩
  have hXb0 : X.heap[w.heap.size]? = some (eob p m) := by rw [hX]; exact new_old _ _ (new_0 w _)
  have hXb1 : X.heap[w.heap.size + 1]? = some (eob q n) := by rw [hX]; exact new_1 _ _ _
  have BX := hid (show Below w.heap.size w X by rw [hX]; exact ((Below.refl _ _).alloc (Nat.le_refl _) _).alloc (by simp) _)
  have DX := hid (show w.drawn ≤ X.drawn by rw [hX]; exact Nat.le_refl _)
  have SX := hid (fun (W : World) (h0 : W.heap[w.heap.size]? = some (eob p m)) (h1 : W.heap[w.heap.size + 1]? = some (eob q n)) => And.intro (eob_cells h0).1 (And.intro (eob_cells h0).2 (And.intro (eob_cells h1).1 (eob_cells h1).2)))
  have S0 := hid (SX.out X hXb0 hXb1)
  have S1 := hid (fun (O : Obj) => SX.out (X.alloc O) (new_old _ _ hXb0) (new_old _ _ hXb1))
  clear hXb0 hXb1
  go_enter Tryz.func78, Tryz.ntmps78
  go_wp2_with fail
  rw [← hX]
  clear hX
  go_region_held2 (fun W => W.cell? ⟨w.heap.size, 0, none⟩ = some (.int .i64 p) ∧ W.cell? ⟨w.heap.size, 1, none⟩ = some (.string (tx m)) ∧ W.cell? ⟨w.heap.size + 1, 0, none⟩ = some (.int .i64 q) ∧ W.cell? ⟨w.heap.size + 1, 1, none⟩ = some (.string (tx n))) (first | exact S0.out | exact S1.out _ | assumption) (first | (go_at_call 113; refine (HI.out _).mono ?_; rintro en w2 ⟨rfl, rfl⟩) | (go_at_call 97; refine (HS.out _).mono ?_; rintro en w3 ⟨rfl, rfl⟩) | (go_at_call 112; refine (HO.out X).mono ?_; rintro en w4 ⟨rfl, rfl⟩))
  go_wp2
  go_ret
  exact ⟨rfl, (BX.out.alloc BX.out.size _).drew, Nat.le_succ_of_le DX.out⟩
theorem ocompare_any {w : World} {p q : Int} {m n : List UInt8} :
    Calls Tryz.prog 78 #[.agg #[.int .i64 p, .string (tx m)], .agg #[.int .i64 q, .string (tx n)]] w fun e w' => e = .returned (.int .i64 (if ocI p q = 0 then ocL m n else ocI p q)) ∧ Below w.heap.size w w' :=
  ocompare_gr.mono fun _ _ q => ⟨q.1, q.2.1⟩
end Go.Proofs.YtebaopiedlioiaaGreatDoor
namespace Go.Proofs.YtebaopiedlioiaaGreatDoor
open Go.RowKit

/-- Which of two ends stands ahead. -/
def ocE (p : Int) (m : List UInt8) (q : Int) (n : List UInt8) : Int := if ocI p q = 0 then ocL m n else ocI p q
/-- A link as a value. -/
abbrev lkv (p : Int) (m : List UInt8) (q : Int) (n : List UInt8) : Value := .agg #[.int .i64 p, .string (tx m), .int .i64 q, .string (tx n)]

set_option maxRecDepth 20000 in
set_option maxHeartbeats 2000000 in
theorem oendsOf_any {w : World} {p q : Int} {m n : List UInt8} : Calls Tryz.prog 48 #[lkv p m q n] w fun e w' => e = .returned (.tuple #[.agg #[.int .i64 p, .string (tx m)], .agg #[.int .i64 q, .string (tx n)]]) ∧ Below w.heap.size w w' := by
  have HB := hid (fun (x y z : Obj) => (show Below w.heap.size w (((w.alloc x).alloc y).alloc z).drew from ((((Below.refl _ _).alloc (Nat.le_refl _) _).alloc (by simp) _).alloc (by simp only [World.size_alloc]; omega) _).drew))
  go_enter Tryz.func48, Tryz.ntmps48
  go_wp2_with fail
  go_region_held3 (fun w' => w'.cell? ⟨w.heap.size, 0, none⟩ = some (.int .i64 p) ∧ w'.cell? ⟨w.heap.size, 1, none⟩ = some (.string (tx m)) ∧ w'.cell? ⟨w.heap.size, 2, none⟩ = some (.int .i64 q) ∧ w'.cell? ⟨w.heap.size, 3, none⟩ = some (.string (tx n))) (go_keep) (fail)
  go_wp2
  refine bodyPost_ret (v := .tuple #[.agg #[.int .i64 p, .string (tx m)], .agg #[.int .i64 q, .string (tx n)]]) (by simp [results, Tryz.results48, go_sem]) rfl ⟨rfl, ?_⟩
  exact HB.out _ _ _

set_option maxRecDepth 20000 in
set_option maxHeartbeats 2000000 in
theorem ocompareLinks_gr {w : World} {p q p' q' : Int} {m n m' n' : List UInt8} : Calls Tryz.prog 76 #[lkv p m q n, lkv p' m' q' n'] w fun e w' => e = .returned (.int .i64 (ocE p m p' m')) ∧ Below w.heap.size w w' ∧ w.drawn ≤ w'.drawn := by
  have HC : Hid (∀ W : World, Calls Tryz.prog 78 #[.agg #[.int .i64 p, .string (tx m)], .agg #[.int .i64 p', .string (tx m')]] W fun e w' => e = .returned (.int .i64 (ocE p m p' m')) ∧ Below W.heap.size W w' ∧ W.drawn ≤ w'.drawn) := hid fun W => ocompare_gr
  have HB := hid (fun (x y : Obj) => (show Below w.heap.size w ((w.alloc x).alloc y) from ((Below.refl _ _).alloc (Nat.le_refl _) _).alloc (by simp) _))
  go_enter Tryz.func76, Tryz.ntmps76
  go_wp2_with fail
  refine (HC.out _).mono ?_
  rintro en w1 ⟨rfl, hb1, hd1⟩
  have D1 := hid (show w.drawn ≤ w1.drawn from hd1)
  have B1 := hid (below_two (HB.out _ _) hb1)
  clear hb1 hd1
  go_wp2
  go_ret
  exact ⟨rfl, B1.out, D1.out⟩
theorem ocompareLinks_any {w : World} {p q p' q' : Int} {m n m' n' : List UInt8} : Calls Tryz.prog 76 #[lkv p m q n, lkv p' m' q' n'] w fun e w' => e = .returned (.int .i64 (ocE p m p' m')) ∧ Below w.heap.size w w' :=
  ocompareLinks_gr.mono fun _ _ q => ⟨q.1, q.2.1⟩

set_option maxRecDepth 20000 in
set_option maxHeartbeats 800000 in
theorem ojoined_any {w : World} {p q : Int} {m n : List UInt8} : Calls Tryz.prog 98 #[.agg #[.int .i64 p, .string (tx m)], .agg #[.int .i64 q, .string (tx n)]] w fun e w' => e = .returned (if ocE q n p m < 0 then lkv q n p m else lkv p m q n) ∧ Below w.heap.size w w' := by
  have HC : Hid (∀ W : World, Calls Tryz.prog 78 #[.agg #[.int .i64 q, .string (tx n)], .agg #[.int .i64 p, .string (tx m)]] W fun e w' => e = .returned (.int .i64 (ocE q n p m)) ∧ Below W.heap.size W w') := hid fun W => ocompare_any
  obtain ⟨c, hc⟩ : ∃ c, c = ocE q n p m := ⟨_, rfl⟩
  rw [← hc] at HC ⊢
  have HB := hid (fun (x y z : Obj) => (show Below w.heap.size w (((w.alloc x).alloc y).alloc z) from (((Below.refl _ _).alloc (Nat.le_refl _) _).alloc (by simp) _).alloc (by simp only [World.size_alloc]; omega) _))
  clear hc
  go_enter Tryz.func98, Tryz.ntmps98
  go_wp2_with fail
  refine (HC.out _).mono ?_
  rintro en w1 ⟨rfl, hb1⟩
  have B1 := hid (below_two (HB.out _ _ _) hb1)
  have hs := hb1.size
  have e0 := below_block hb1 (new_old _ _ (new_old _ _ (new_0 w (eob p m)))) (by simp only [World.size_alloc]; omega)
  have e1 := below_block hb1 (new_old _ _ (new_1 w (eob p m) (eob q n))) (by simp only [World.size_alloc]; omega)
  obtain ⟨x0, x1⟩ := eob_cells e0
  obtain ⟨y0, y1⟩ := eob_cells e1
  have e2 := below_block hb1 (new_0 ((w.alloc (eob p m)).alloc (eob q n)) _) (by simp only [World.size_alloc]; omega)
  simp only [World.size_alloc] at e2 hs
  have z0 := cell_at (o := 0) e2
  have z1 := cell_at (o := 1) e2
  have z2 := cell_at (o := 2) e2
  have z3 := cell_at (o := 3) e2
  have v0 : w1.frozen? ⟨w.heap.size + 1 + 1, 0, none⟩ = false := free_of e2
  have v1 : w1.frozen? ⟨w.heap.size + 1 + 1, 1, none⟩ = false := free_of e2
  have v2 : w1.frozen? ⟨w.heap.size + 1 + 1, 2, none⟩ = false := free_of e2
  have v3 : w1.frozen? ⟨w.heap.size + 1 + 1, 3, none⟩ = false := free_of e2
  have f0 : w1.frozen? ⟨w.heap.size, 0, none⟩ = false := free_of e0
  have f1 : w1.frozen? ⟨w.heap.size, 1, none⟩ = false := free_of e0
  have f2 : w1.frozen? ⟨w.heap.size + 1, 0, none⟩ = false := free_of e1
  have f3 : w1.frozen? ⟨w.heap.size + 1, 1, none⟩ = false := free_of e1
  simp only [List.getElem?_toArray, List.getElem?_cons_succ, List.getElem?_cons_zero] at z0 z1 z2 z3
  clear hb1 e0 e1 e2
  by_cases hc : c < 0
  · go_wp2
    refine bodyPost_ret (v := lkv q n p m) (by simp [results, Tryz.results98, go_sem, z0, z1, z2, z3]) rfl ⟨rfl, ?_⟩
    repeat (first | (with_reducible refine Below.drew ?_) | (refine Below.setCell ?_ (by dsimp only; omega) _))
    with_reducible exact B1.out
  · go_wp2
    refine bodyPost_ret (v := lkv p m q n) (by simp [results, Tryz.results98, go_sem, z0, z1, z2, z3]) rfl ⟨rfl, ?_⟩
    repeat (first | (with_reducible refine Below.drew ?_) | (refine Below.setCell ?_ (by dsimp only; omega) _))
    with_reducible exact B1.out
end Go.Proofs.YtebaopiedlioiaaGreatDoor
namespace Go.Proofs.YtebaopiedlioiaaGreatDoor
open Go.RowKit

theorem part_intJ (w : World) (cs : Array Value) (i : Nat) (v : Value) (h : cs[i]? = some v) : (part 3 cs i).run Tryz.prog w = .ok v w := by
  simp [part, h]
theorem part_strJ (w : World) (cs : Array Value) (i : Nat) (v : Value) (h : cs[i]? = some v) : (part 9 cs i).run Tryz.prog w = .ok v w := by
  simp [part, h]
theorem eq_intJ (w : World) (n m : Int) : (Op.equalIn 9999 3 (.int .i64 n) (.int .i64 m)).run Tryz.prog w = .ok (n == m) w := by
  have u := Tryz.underlying3
  rw [Op.equalIn]
  simp [run_underlying u]
theorem eq_strJ (w : World) (n m : List UInt8) : (Op.equalIn 9999 9 (.string (tx n)) (.string (tx m))).run Tryz.prog w = .ok (n == m) w := by
  have u := Tryz.underlying9
  have e : (tx n == tx m) = (n == m) := by
    show (n.toArray == m.toArray) = (n == m)
    by_cases h : n = m
    · subst h; simp
    · rw [beq_eq_false_iff_ne.2 h, beq_eq_false_iff_ne]
      intro q
      exact h (by simpa using q)
  rw [Op.equalIn]
  simp [run_underlying u, e]
theorem endEqJ (d a : Int) (m p : List UInt8) (w : World) : (binOp .eql 95 (.agg #[.int .i64 d, .string (tx m)]) (.agg #[.int .i64 a, .string (tx p)])).run Tryz.prog w = .ok (.bool (decide (d = a ∧ m = p))) w := by
  have u0 := Tryz.underlying95
  have st : Tryz.prog.stoodInHeld 95 = false := by kernel_rfl
  have a0 := fun w => part_intJ w #[.int .i64 d, .string (tx m)] 0 _ rfl
  have a1 := fun w => part_strJ w #[.int .i64 d, .string (tx m)] 1 _ rfl
  have b0 := fun w => part_intJ w #[.int .i64 a, .string (tx p)] 0 _ rfl
  have b1 := fun w => part_strJ w #[.int .i64 a, .string (tx p)] 1 _ rfl
  unfold binOp
  simp only
  unfold Op.equal Op.maxDepth
  rw [Op.equalIn]
  by_cases h1 : d = a
  · have e1 : (d == a) = true := by rw [h1]; simp
    by_cases h2 : m = p
    · have e2 : (m == p) = true := by rw [h2]; simp
      rw [decide_eq_true (And.intro h1 h2)]
      clear h1 h2
      simp [run_underlying u0, st, a0, a1, b0, b1, eq_intJ, eq_strJ, e1, e2, Result.andThen]
    · have e2 : (m == p) = false := beq_eq_false_iff_ne.2 h2
      rw [decide_eq_false (fun q => h2 q.2)]
      clear h1 h2
      simp [run_underlying u0, st, a0, a1, b0, b1, eq_intJ, eq_strJ, e1, e2, Result.andThen]
  · have e1 : (d == a) = false := beq_eq_false_iff_ne.2 h1
    rw [decide_eq_false (fun q => h1 q.1)]
    clear h1
    simp [run_underlying u0, st, a0, b0, eq_intJ, e1, Result.andThen]
end Go.Proofs.YtebaopiedlioiaaGreatDoor
namespace Go.Proofs.YtebaopiedlioiaaGreatDoor
open Go.RowKit

theorem cell_ltP {w : World} {b o : Nat} {v : Value} (h : w.cell? ⟨b, o, none⟩ = some v) : b < w.heap.size := by
  obtain ⟨c, e, fr, h1, -⟩ := Go.Sort.cells_of_cell? h
  exact lt_of_block h1
set_option maxHeartbeats 400000 in
theorem Clone_all (s : List UInt8) (w : World) (hs : s.length ≤ 1048576) : Calls Tryz.prog 49 #[.string (tx s)] w fun e w' => e = .returned (.string (tx s)) ∧ Below w.heap.size w w' := by
  by_cases h0 : s = []
  · subst h0
    have q : ∀ w, Calls Tryz.prog 85 #[.string (tx [])] w fun e w' => e = .returned (.string (tx [])) ∧ w' = w := fun w => by
      go_enter Tryz.func85, Tryz.ntmps85
      go_wp2
      go_ret
      exact ⟨rfl, rfl⟩
    have HQ := hid q
    clear q
    go_enter Tryz.func49, Tryz.ntmps49
    go_wp2_with (go_at_call 85; refine (HQ.out _).mono ?_; rintro e w' ⟨rfl, rfl⟩)
    go_ret
    exact ⟨rfl, Below.refl _ _⟩
  · exact Clone_any (tx s) w (by rw [tx_size]; exact List.length_pos_iff.2 h0) (by rw [tx_size]; exact hs)
/-- A link of any two numbers. -/
abbrev LkZ := Int × List UInt8 × Int × List UInt8
/-- Links that lie somewhere. -/
structure LkV (w : World) (v : Value) (ls : List LkZ) : Prop where
  form : ∃ av cap, v = .slice av ls.length cap ∧ (ls = [] ∨ ∃ G o, av = some ⟨G, o, none⟩ ∧ G < w.heap.size ∧ ∀ (i : Nat) (q : LkZ), ls[i]? = some q → w.cell? ⟨G, o + i * 4, none⟩ = some (.int .i64 q.1) ∧ w.cell? ⟨G, o + i * 4 + 1, none⟩ = some (.string (tx q.2.1)) ∧ w.cell? ⟨G, o + i * 4 + 2, none⟩ = some (.int .i64 q.2.2.1) ∧ w.cell? ⟨G, o + i * 4 + 3, none⟩ = some (.string (tx q.2.2.2)))
theorem LkV.below {w w' : World} {v : Value} {ls : List LkZ} (h : LkV w v ls) (hb : Below w.heap.size w w') : LkV w' v ls := by
  obtain ⟨av, cap, h1, h2⟩ := h.form
  refine ⟨av, cap, h1, h2.imp id ?_⟩
  rintro ⟨G, o, h3, h4, h5⟩
  refine ⟨G, o, h3, Nat.lt_of_lt_of_le h4 hb.size, fun i q hq => ?_⟩
  obtain ⟨q1, q2, q3, q4⟩ := h5 i q hq
  exact ⟨(hb.cell (by exact h4)).trans q1, (hb.cell (by exact h4)).trans q2, (hb.cell (by exact h4)).trans q3, (hb.cell (by exact h4)).trans q4⟩
/-- The other end of a port. -/
def peerJ (d : Int) (m : List UInt8) : List LkZ → Option (Int × List UInt8)
  | [] => none
  | (a, p, b, q) :: r => if d = a ∧ m = p then some (b, q) else if d = b ∧ m = q then some (a, p) else peerJ d m r
def peerV : Option (Int × List UInt8) → Value
  | none => .tuple #[.int .i64 0, .string (tx []), .bool false]
  | some (b, q) => .tuple #[.int .i64 b, .string (tx q), .bool true]

set_option maxRecDepth 20000 in
set_option maxHeartbeats 1000000 in
theorem oPeer_any {w : World} {x0 x1 v : Value} {ls : List LkZ} (hL : LkV w v ls) (d : Int) (m : List UInt8) (hsm : ∀ q ∈ ls, q.2.1.length ≤ 1048576 ∧ q.2.2.2.length ≤ 1048576) (hlen : ls.length ≤ 1000000) :
    Calls Tryz.prog 21 #[.agg #[x0, x1, v], .int .i64 d, .string (tx m)] w fun e w' => e = .returned (peerV (peerJ d m ls)) ∧ Below w.heap.size w w' := by
  obtain ⟨av, cap, rfl, hcell⟩ := hL.form
  obtain ⟨n, hn⟩ : ∃ n, ls.length = n := ⟨_, rfl⟩
  have HC := hid hcell
  have HN := hid hn
  rw [hn] at hlen ⊢
  clear hcell hn
  obtain ⟨W0, hW0⟩ : ∃ W0, W0 = (w.alloc (.cells #[x0, x1, .slice av n cap] 25)).alloc (eob d m) := ⟨_, rfl⟩
  have hb0 : Below w.heap.size w W0 := by rw [hW0]; exact ((Below.refl _ _).alloc (Nat.le_refl _) _).alloc (by simp) _
  have ho0 : W0.heap[w.heap.size + 1]? = some (eob d m) := by rw [hW0]; exact new_1 _ _ _
  have hs0 : w.heap.size + 2 ≤ W0.heap.size := by have := lt_of_block ho0; omega
  have HB0 := hid hb0
  have HO0 := hid ho0
  have HSM := hid hsm
  clear hb0 ho0 hsm hL
  have hEQ : ∀ (a : Int) (p : List UInt8) (w : World), (binOp .eql 95 (.agg #[.int .i64 d, .string (tx m)]) (.agg #[.int .i64 a, .string (tx p)])).run Tryz.prog w = .ok (.bool (decide (d = a ∧ m = p))) w := fun a p w => endEqJ d a m p w
  go_enter Tryz.func21, Tryz.ntmps21
  go_wp2_with fail
  rw [← hW0]
  clear hW0
  go_loopw [20] (fun i wr => ∃ k : Nat, k ≤ n ∧ i = .int .i64 k ∧ Hid (Below (w.heap.size + 2) W0 wr) ∧ Hid (peerJ d m ls = peerJ d m (ls.drop k))) (fun i _ => n - (intOf i).toNat)
  case atStart => exact ⟨0, Nat.zero_le _, rfl, hid (Below.refl _ _), hid rfl⟩
  case round =>
    obtain ⟨k, hk, rfl, hB, hR⟩ := hrel
    by_cases hkn : k < n
    · have hkl : k < ls.length := by rw [HN.out]; exact hkn
      obtain ⟨⟨a, p, b, q⟩, hq⟩ : ∃ q, ls[k]? = some q := ⟨_, List.getElem?_eq_getElem hkl⟩
      obtain ⟨G, o, rfl, hG, hcells⟩ : ∃ G o, av = some ⟨G, o, none⟩ ∧ G < w.heap.size ∧ ∀ (i : Nat) (q : LkZ), ls[i]? = some q → w.cell? ⟨G, o + i * 4, none⟩ = some (.int .i64 q.1) ∧ w.cell? ⟨G, o + i * 4 + 1, none⟩ = some (.string (tx q.2.1)) ∧ w.cell? ⟨G, o + i * 4 + 2, none⟩ = some (.int .i64 q.2.2.1) ∧ w.cell? ⟨G, o + i * 4 + 3, none⟩ = some (.string (tx q.2.2.2)) := by
        rcases HC.out with e | h
        · rw [e] at hkl; exact absurd hkl (Nat.not_lt_zero _)
        · exact h
      have hwr : ∀ i, i < w.heap.size → wr.heap[i]? = w.heap[i]? := fun i hi => (hB.out.block i (by omega)).trans (HB0.out.block i hi)
      obtain ⟨z0, z1, z2, z3⟩ := hcells k _ hq
      have y0 := (World.cell?_of_block (a := ⟨G, o + k * 4, none⟩) (hwr G hG)).trans z0
      have y1 := (World.cell?_of_block (a := ⟨G, o + k * 4 + 1, none⟩) (hwr G hG)).trans z1
      have y2 := (World.cell?_of_block (a := ⟨G, o + k * 4 + 2, none⟩) (hwr G hG)).trans z2
      have y3 := (World.cell?_of_block (a := ⟨G, o + k * 4 + 3, none⟩) (hwr G hG)).trans z3
      simp only at y0 y1 y2 y3
      have HDR := hid (show ls.drop k = (a, p, b, q) :: ls.drop (k + 1) from by
        rw [List.drop_eq_getElem_cons hkl]
        congr 1
        rw [List.getElem?_eq_getElem hkl] at hq
        exact Option.some.inj hq)
      have hsz := hB.out.size
      have HSQ := hid (HSM.out _ (List.mem_of_getElem? hq))
      have hkI : (k : Int) < (n : Int) := by omega
      have hk0 : (0 : Int) ≤ (k : Int) := by omega
      clear hcells z0 z1 z2 z3 hq hkl hwr
      go_wp2_with fail
      refine oendsOf_any.mono ?_
      rintro en w5 ⟨rfl, hb5⟩
      have HB5 := hid (show Below wr.heap.size wr w5 from by
        have h1 : Below wr.heap.size wr (wr.alloc (.cells #[.int .i64 a, .string (tx p), .int .i64 b, .string (tx q)] 83)) := (Below.refl _ _).alloc (Nat.le_refl _) _
        have h2 := hb5
        simp only [World.size_alloc] at h2
        exact ⟨h2.os.trans h1.os, h2.tape.trans h1.tape, h2.output.trans h1.output, Nat.le_trans h1.size h2.size, fun i hi => (h2.block i (by omega)).trans (h1.block i hi)⟩)
      clear hb5
      obtain ⟨A, hA⟩ : ∃ A, A = w5.heap.size := ⟨_, rfl⟩
      obtain ⟨W6, hW6⟩ : ∃ W6, W6 = (w5.alloc (eob a p)).alloc (eob b q) := ⟨_, rfl⟩
      have hA6 : W6.heap[A]? = some (eob a p) := by rw [hW6, hA]; exact new_old _ _ (new_0 _ _)
      have hB6 : W6.heap[A + 1]? = some (eob b q) := by rw [hW6, hA]; exact new_1 _ _ _
      have HB6 := hid (show Below wr.heap.size wr W6 from by rw [hW6]; exact (HB5.out.alloc HB5.out.size _).alloc (by have := HB5.out.size; simp only [World.size_alloc]; omega) _)
      have hO6 : W6.heap[w.heap.size + 1]? = some (eob d m) := (HB6.out.block _ (by omega)).trans ((hB.out.block _ (by omega)).trans HO0.out)
      obtain ⟨a0, a1⟩ := eob_cells hA6
      obtain ⟨b0, b1⟩ := eob_cells hB6
      obtain ⟨c0, c1⟩ := eob_cells hO6
      have HB7 := hid (show Below (w.heap.size + 2) W0 W6 from by
        have h1 := hB.out
        have h2 := HB6.out
        exact ⟨h2.os.trans h1.os, h2.tape.trans h1.tape, h2.output.trans h1.output, Nat.le_trans h1.size h2.size, fun i hi => (h2.block i (by omega)).trans (h1.block i hi)⟩)
      have HB8 := hid (show Below w.heap.size w W6 from ⟨HB7.out.os.trans HB0.out.os, HB7.out.tape.trans HB0.out.tape, HB7.out.output.trans HB0.out.output, Nat.le_trans HB0.out.size HB7.out.size, fun i hi => (HB7.out.block i (by omega)).trans (HB0.out.block i hi)⟩)
      clear hA6 hB6 hO6
      go_upto_region 6 with fail
      rw [← hA, ← hW6]
      clear hW6 hA
      by_cases hE1 : d = a ∧ m = p
      · have hd1 : decide (d = a ∧ m = p) = true := decide_eq_true hE1
        have HE := hid hE1
        clear hE1
        have HCL := hid (fun (W : World) => Clone_all q W (HSQ.out.2))
        have HS9 := hid (fun (w9 : World) (hb : Below W6.heap.size W6 w9) => (by
          have hl := cell_ltP b0
          exact ⟨(World.cell?_of_block (hb.block _ hl)).trans b0, (World.cell?_of_block (hb.block _ hl)).trans b1⟩ : w9.cell? ⟨A + 1, 0, none⟩ = some (.int .i64 b) ∧ w9.cell? ⟨A + 1, 1, none⟩ = some (.string (tx q))))
        go_wp2_with fail
        go_region_held3 (fun W => W.cell? ⟨A + 1, 0, none⟩ = some (.int .i64 b) ∧ W.cell? ⟨A + 1, 1, none⟩ = some (.string (tx q))) (first | (go_keep; done) | exact S9) (first | (go_at_call 49; refine (HCL.out _).mono ?_; rintro en w9 ⟨rfl, hb9⟩; have HB9 := hid (show Below W6.heap.size W6 w9 from ⟨hb9.os, hb9.tape, hb9.output, hb9.size, hb9.block⟩); have S9 := HS9.out w9 HB9.out))
        go_wp2
        refine bodyPost_ret (v := .tuple #[.int .i64 b, .string (tx q), .bool true]) (by simp [results, Tryz.results21, go_sem]) rfl ⟨?_, ?_⟩
        · rw [hR.out, HDR.out, peerJ, if_pos HE.out]; rfl
        · exact ⟨HB9.out.os.trans HB8.out.os, HB9.out.tape.trans HB8.out.tape, HB9.out.output.trans HB8.out.output, Nat.le_trans HB8.out.size HB9.out.size, fun i hi => (HB9.out.block i (by have := HB8.out.size; omega)).trans (HB8.out.block i hi)⟩
      · have hd1 : decide (d = a ∧ m = p) = false := decide_eq_false hE1
        have HE1 := hid hE1
        clear hE1
        by_cases hE2 : d = b ∧ m = q
        · have hd2 : decide (d = b ∧ m = q) = true := decide_eq_true hE2
          have HE2 := hid hE2
          clear hE2
          have HCL := hid (fun (W : World) => Clone_all p W (HSQ.out.1))
          have HS9 := hid (fun (w9 : World) (hb : Below W6.heap.size W6 w9) => (by
            have hl := cell_ltP a0
            exact ⟨(World.cell?_of_block (hb.block _ hl)).trans a0, (World.cell?_of_block (hb.block _ hl)).trans a1⟩ : w9.cell? ⟨A, 0, none⟩ = some (.int .i64 a) ∧ w9.cell? ⟨A, 1, none⟩ = some (.string (tx p))))
          go_wp2_with fail
          go_region_held3 (fun W => W.cell? ⟨A, 0, none⟩ = some (.int .i64 a) ∧ W.cell? ⟨A, 1, none⟩ = some (.string (tx p))) (first | (go_keep; done) | exact S9) (first | (go_at_call 49; refine (HCL.out _).mono ?_; rintro en w9 ⟨rfl, hb9⟩; have HB9 := hid (show Below W6.heap.size W6 w9 from ⟨hb9.os, hb9.tape, hb9.output, hb9.size, hb9.block⟩); have S9 := HS9.out w9 HB9.out))
          go_wp2
          refine bodyPost_ret (v := .tuple #[.int .i64 a, .string (tx p), .bool true]) (by simp [results, Tryz.results21, go_sem]) rfl ⟨?_, ?_⟩
          · rw [hR.out, HDR.out, peerJ, if_neg HE1.out, if_pos HE2.out]; rfl
          · exact ⟨HB9.out.os.trans HB8.out.os, HB9.out.tape.trans HB8.out.tape, HB9.out.output.trans HB8.out.output, Nat.le_trans HB8.out.size HB9.out.size, fun i hi => (HB9.out.block i (by have := HB8.out.size; omega)).trans (HB8.out.block i hi)⟩
        · have hd2 : decide (d = b ∧ m = q) = false := decide_eq_false hE2
          have HE2 := hid hE2
          clear hE2
          have HR9 := hid (show peerJ d m ls = peerJ d m (ls.drop (k + 1)) from by rw [hR.out, HDR.out, peerJ, if_neg HE1.out, if_neg HE2.out])
          have hk63 : (k : Int) + 1 ≤ 1000001 := by omega
          go_wp2
          exact ⟨⟨k + 1, by omega, by simp, HB7, HR9⟩, by simp [intOf]; omega⟩
    · have HE := hid (show peerJ d m ls = none from by
        rw [hR.out, List.drop_eq_nil_of_le (by rw [HN.out]; omega)]
        rfl)
      go_wp2
      refine bodyPost_ret (v := .tuple #[.int .i64 0, .string (tx []), .bool false]) (by simp [results, Tryz.results21, go_sem]) rfl ⟨by rw [HE.out]; rfl, ?_⟩
      exact ⟨hB.out.os.trans HB0.out.os, hB.out.tape.trans HB0.out.tape, hB.out.output.trans HB0.out.output, Nat.le_trans HB0.out.size hB.out.size, fun i hi => (hB.out.block i (by omega)).trans (HB0.out.block i hi)⟩
end Go.Proofs.YtebaopiedlioiaaGreatDoor
