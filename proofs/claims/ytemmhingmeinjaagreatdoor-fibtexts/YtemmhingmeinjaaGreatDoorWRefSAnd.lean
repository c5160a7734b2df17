/-
  mustBeCube: the ternary of a cube; a panic with ErrCube at a text that is none.
-/
import Derived.Test.YtemmhingmeinjaaGreatDoorWRefLAnd
import Derived.Test.YtemmhingmeinjaaGreatDoorUMathAnd
import Derived.Test.YtemmhingmeinjaaGreatDoorWSkipAnd
import Derived.Deep.RegionHeld2
import Derived.Test.YtemmhingmeinjaaGreatDoorRows
import Derived.Test.YtemmhingmeinjaaGreatDoorWMathAnd
import Derived.WalkKit
import Derived.WalkSpells
import Derived.WalkLawsBesides
import Derived.RegionTactic
import Derived.ChangeAlike
namespace Go.Proofs.YtemmhingmeinjaaGreatDoor
open Go.RowKit

theorem tk_len (l : List UInt8) (c : Nat) : ∀ p ∈ (Wo.tk l c).1, p.1.length ≤ l.length := by
  generalize hn : l.length = n
  induction n using Nat.strongRecOn generalizing l c with
  | ind n ih =>
    intro p hp
    cases l with
    | nil => rw [Wo.tk_nil] at hp; exact absurd hp (by simp)
    | cons a t =>
      simp only [List.length_cons] at hn
      by_cases h35 : a.toNat = 35
      · rw [Wo.tk_hash _ _ _ h35] at hp; exact absurd hp (by simp)
      · cases hb : Wo.blk a.toNat with
        | true =>
          rw [Wo.tk_blank _ _ _ h35 hb] at hp
          have := ih t.length (by omega) t _ rfl p hp
          omega
        | false =>
          by_cases h0 : Wo.fst (a :: t) = 0
          · rw [Wo.tk_fault _ _ _ h35 hb h0] at hp; exact absurd hp (by simp)
          · rw [Wo.tk_word _ _ _ h35 hb h0] at hp
            have hle := Wo.fst_le (a :: t)
            simp only [List.length_cons] at hle
            rcases List.mem_cons.1 hp with rfl | hp
            · simp only [List.length_take, List.length_cons]; omega
            · have := ih ((a :: t).drop (Wo.fst (a :: t))).length (by rw [List.length_drop, List.length_cons]; omega) _ _ rfl p hp
              rw [List.length_drop, List.length_cons] at this
              omega

theorem isW_tk {l : List UInt8} (h : Wo.isW l = true) (c : Nat) : Wo.tk l c = ([(l, c)], none) := by
  have := Wo.tk_first (c := c) h (Wo.fst_blank h [] (Or.inl rfl))
  rw [List.append_nil, Wo.tk_nil] at this
  exact this
theorem isW_of_tk {l : List UInt8} {c : Nat} {p : List UInt8 × Nat} (h2 : (Wo.tk l c).2 = none) (h1 : (Wo.tk l c).1 = [p]) (hp : p.1 = l) : Wo.isW l = true := by
  cases l with
  | nil => rw [Wo.tk_nil] at h1; cases h1
  | cons a t =>
    by_cases h35 : a.toNat = 35
    · rw [Wo.tk_hash _ _ _ h35] at h1; cases h1
    · cases hb : Wo.blk a.toNat with
      | true =>
        rw [Wo.tk_blank _ _ _ h35 hb] at h1
        have := tk_len t (c + 1) p (by rw [h1]; simp)
        rw [hp] at this
        simp only [List.length_cons] at this
        omega
      | false =>
        by_cases h0 : Wo.fst (a :: t) = 0
        · rw [Wo.tk_fault _ _ _ h35 hb h0] at h2; cases h2
        · rw [Wo.tk_word _ _ _ h35 hb h0] at h1
          injection h1 with e1 e2
          rw [← e1] at hp
          have hl := congrArg List.length hp
          simp only [List.length_take, List.length_cons] at hl
          have hle := Wo.fst_le (a :: t)
          simp only [List.length_cons] at hle
          exact decide_eq_true ⟨by simp, by simp only [List.length_cons]; omega⟩
theorem sgn_isW {l : List UInt8} (h : sgn l = true) : Wo.isW l = true := by
  match l, h with
  | [a], h =>
    have h' : Wo.sgl a.toNat = true := h
    exact decide_eq_true ⟨by simp, by rw [Wo.fst_one, h']; rfl⟩
  | [a, b], h =>
    have h' : Wo.dbl a.toNat b.toNat = true := h
    exact decide_eq_true ⟨by simp, by rw [Wo.fst_two, h']; rfl⟩

theorem tx_eq_iff (a b : List UInt8) : ((tx a).toList == (tx b).toList) = decide (a = b) := by
  rw [Lib.toList_data, Lib.toList_data]
  show (a == b) = _
  by_cases h : a = b
  · subst h; simp
  · simp [h]

set_option maxRecDepth 4000 in
set_option maxHeartbeats 1000000 in
theorem Rword_any (l : List UInt8) (w : World) (hl : l.length ≤ 1048576) : Calls Tryz.prog 100 #[.string (tx l)] w fun e w' => e = .returned (.bool (Wo.isW l)) ∧ Below w.heap.size w w' := by
  have q1 := fun w => RSign_any (tx l) w
  rw [show (tx l).data.toList = l from rfl] at q1
  have q2 := fun w => line_any l 1 w hl (by omega)
  rcases bool_two (sgn l) with hs | hs
  · rw [hs] at q1
    obtain ⟨s, hsd⟩ : ∃ s, s = tx l := ⟨_, rfl⟩
    rw [← hsd] at q1 q2 ⊢
    have HS := hid hsd
    clear hsd hs
    go_enter Tryz.func100, Tryz.ntmps100
    go_wp2_with (first | (go_at_call 136; refine (q1 _).mono ?_; rintro e w' ⟨rfl, rfl⟩) | fail)
    refine (q2 _).mono ?_
    clear q1 q2
    rintro e w1 ⟨hb1, ⟨c, hf, rfl⟩ | ⟨v, hno, rfl, hown⟩⟩
    · have HE := hid (show Wo.isW l = false by
        cases hq : Wo.isW l with
        | false => rfl
        | true => rw [isW_tk hq] at hf; cases hf)
      have hc : decide ((c : Int) < 0) = false := decide_eq_false (by omega)
      clear hf
      go_wp2
      go_ret
      exact ⟨ret_bool HE.out.symm, hb1⟩
    · obtain ⟨ao, cap, rfl⟩ := own_form hown
      by_cases h1 : ∃ p, (Wo.tk l 1).1 = [p]
      · obtain ⟨p, hp⟩ := h1
        rw [hp] at hown ⊢
        obtain ⟨g, cap', hv, hg, hc⟩ := own_some hown (by simp)
        injection hv with e1 e2 e3
        subst e1
        have c0 := hc 0 (.string (tx p.1)) (by simp [Wo.wds, flatW, wcl])
        have HE := hid (show Wo.isW l = (p.1 == s.toList) by
          have e0 : (p.1 == s.toList) = decide (p.1 = l) := by rw [HS.out]; have := tx_eq_iff p.1 l; rw [Lib.toList_data] at this; exact this
          rw [e0]
          cases hq : Wo.isW l with
          | true =>
            have := isW_tk hq 1
            rw [this] at hp
            injection hp with e1 _
            rw [← e1]; simp
          | false =>
            symm
            refine decide_eq_false (fun e => ?_)
            have := isW_of_tk hno hp e
            rw [hq] at this; cases this)
        clear hno hown hc hp
        go_wp2
        go_ret
        exact ⟨ret_bool HE.out.symm, hb1⟩
      · have hlen : (Wo.tk l 1).1.length ≠ 1 := fun e => by
          match hq : (Wo.tk l 1).1, e with
          | [p], _ => exact h1 ⟨p, hq⟩
        have hlb : (((Wo.tk l 1).1.length : Int) == 1) = false := by rw [beq_eq_false_iff_ne]; omega
        have HE := hid (show Wo.isW l = false by
          cases hq : Wo.isW l with
          | false => rfl
          | true => exact absurd ⟨_, by rw [isW_tk hq]⟩ h1)
        clear hno hown h1 hlen
        go_wp2
        go_ret
        exact ⟨ret_bool HE.out.symm, hb1⟩
  · have HE := hid (sgn_isW hs)
    rw [hs] at q1
    clear hs
    go_enter Tryz.func100, Tryz.ntmps100
    go_wp2_with (go_at_call 136; refine (q1 _).mono ?_; rintro e w' ⟨rfl, rfl⟩)
    go_ret
    exact ⟨ret_bool HE.out.symm, Below.refl _ _⟩

theorem glue_tk {a b : List UInt8} (ha : Wo.isW a = true) (hb : Wo.isW b = true) (hg : Wo.glue a b = false) : Wo.tk (a ++ b) 1 = ([(a, 1), (b, 1 + a.length)], none) := by
  have hg' : Wo.fst (a ++ b) = a.length := Decidable.not_not.1 (of_decide_eq_false hg)
  rw [Wo.tk_first ha hg', isW_tk hb]
theorem glue_not {a b : List UInt8} (ha : Wo.isW a = true) (hg : Wo.glue a b = true) {p q : List UInt8 × Nat} (h2 : (Wo.tk (a ++ b) 1).2 = none) (h1 : (Wo.tk (a ++ b) 1).1 = [p, q]) : p.1 ≠ a := by
  have hg' : Wo.fst (a ++ b) ≠ a.length := of_decide_eq_true hg
  obtain ⟨x, t, rfl⟩ : ∃ x t, a = x :: t := by
    cases a with
    | nil => exact absurd rfl (Wo.isW_ne ha)
    | cons x t => exact ⟨x, t, rfl⟩
  have hx : Wo.ltr x.toNat = true ∨ Wo.sgl x.toNat = true := Wo.fst_head (t := t) (by rw [Wo.isW_len ha]; simp)
  obtain ⟨p1, p2, _⟩ := Wo.head_plain hx
  intro hp
  have e : x :: t ++ b = x :: (t ++ b) := rfl
  rw [e] at h1 h2 hg'
  by_cases h0 : Wo.fst (x :: (t ++ b)) = 0
  · rw [Wo.tk_fault _ _ _ p1 p2 h0] at h2; cases h2
  · rw [Wo.tk_word _ _ _ p1 p2 h0] at h1
    injection h1 with e1 e2
    rw [← e1] at hp
    have hl := congrArg List.length hp
    have hle := Wo.fst_le (x :: (t ++ b))
    rw [List.length_take, Nat.min_eq_left hle] at hl
    exact hg' hl

set_option maxRecDepth 4000 in
set_option maxHeartbeats 1000000 in
theorem Rglued_any (a b : List UInt8) (w : World) (ha : Wo.isW a = true) (hb : Wo.isW b = true) (hl : a.length + b.length ≤ 1048576) : Calls Tryz.prog 101 #[.string (tx a), .string (tx b)] w fun e w' => e = .returned (.bool (Wo.glue a b)) ∧ Below w.heap.size w w' := by
  have q2 := fun w => line_any (a ++ b) 1 w (by rw [List.length_append]; exact hl) (by omega)
  have hap : tx (a ++ b) = tx a ++ tx b := by
    apply ByteArray.ext
    simp
  rw [hap] at q2
  have HA := hid ha
  have HB := hid hb
  have hov : ¬ 9223372036854775807 < (tx a).size + (tx b).size := by rw [tx_size, tx_size]; omega
  have hov2 : ¬ 9223372036854775807 < a.length + b.length := by omega
  clear ha hb hap
  go_enter Tryz.func101, Tryz.ntmps101
  go_wp2_with fail
  refine (q2 _).mono ?_
  clear q2 hov hov2
  rintro e w1 ⟨hb1, ⟨c, hf, rfl⟩ | ⟨v, hno, rfl, hown⟩⟩
  · have HE := hid (show Wo.glue a b = true by
      cases hq : Wo.glue a b with
      | true => rfl
      | false => rw [glue_tk HA.out HB.out hq] at hf; cases hf)
    have hc : (0 : Int) ≤ (c : Int) := by omega
    clear hf
    go_wp2
    go_ret
    exact ⟨ret_bool HE.out.symm, hb1⟩
  · obtain ⟨ao, cap, rfl⟩ := own_form hown
    by_cases h1 : ∃ p q, (Wo.tk (a ++ b) 1).1 = [p, q]
    · obtain ⟨p, q, hp⟩ := h1
      rw [hp] at hown ⊢
      obtain ⟨g, cap', hv, hg, hc⟩ := own_some hown (by simp)
      injection hv with e1 e2 e3
      subst e1
      have c0 := hc 0 (.string (tx p.1)) (by simp [Wo.wds, flatW, wcl])
      have c3 := hc 3 (.string (tx q.1)) (by simp [Wo.wds, flatW, wcl])
      rcases bool_two (Wo.glue a b) with hq | hq
      · have hpq := glue_tk HA.out HB.out hq
        rw [hpq] at hp
        injection hp with u1 u2
        injection u2 with u3 _
        subst u1
        subst u3
        have HQ := hid hq
        clear hno hown hc hq hpq
        go_wp2
        go_ret
        exact ⟨ret_bool (by rw [HQ.out]), hb1⟩
      · have hne := glue_not HA.out hq hno hp
        have hb' : (p.1 == a) = false := beq_eq_false_iff_ne.2 hne
        have HQ := hid hq
        clear hno hown hc hq hne
        go_wp2
        go_ret
        exact ⟨ret_bool (by rw [HQ.out]), hb1⟩
    · have hlen : (Wo.tk (a ++ b) 1).1.length ≠ 2 := fun e => by
        match hq : (Wo.tk (a ++ b) 1).1, e with
        | [p, q], _ => exact h1 ⟨p, q, hq⟩
      have hlb : (((Wo.tk (a ++ b) 1).1.length : Int) != 2) = true := by rw [bne_iff_ne]; omega
      have HE := hid (show Wo.glue a b = true by
        cases hq : Wo.glue a b with
        | true => rfl
        | false => exact absurd ⟨_, _, by rw [glue_tk HA.out HB.out hq]⟩ h1)
      clear hno hown h1 hlen
      go_wp2
      go_ret
      exact ⟨ret_bool HE.out.symm, hb1⟩
end Go.Proofs.YtemmhingmeinjaaGreatDoor
namespace Go.Proofs.YtemmhingmeinjaaGreatDoor
open Go.RowKit
open Wo (Wd)

abbrev wv (x : Wd) : Value := .agg #[.string (tx x.1), .int .i64 x.2.1, .int .i64 x.2.2]
abbrev wob (x : Wd) : Obj := .cells #[.string (tx x.1), .int .i64 x.2.1, .int .i64 x.2.2] 143
theorem heap_old (w : World) (o : Obj) {k : Nat} (hk : k < w.heap.size) : (w.alloc o).heap[k]? = w.heap[k]? := by
  show (w.heap.push o)[k]? = _
  rw [Array.getElem?_push, if_neg (by omega)]
abbrev pan (e : Int) : List PanicEntry := [{ v := .iface 28 (.int .i64 e), recovered := false }]

structure RdAt (w : World) (rb g : Nat) (width : Nat) (l : List Wd) (e : Wd) : Prop where
  ex : ∃ (o cap : Nat) (f0 f1 f2 : Value), w.heap[rb]? = some (.cells #[.int .i64 width, .slice (some ⟨g, o, none⟩) l.length cap, .string (tx e.1), .int .i64 e.2.1, .int .i64 e.2.2, f0, f1, f2] 145 (0, 0)) ∧ l.length ≤ cap ∧ cap ≤ 9223372036854775807 ∧ g ≠ rb ∧ g < w.heap.size ∧
    ∀ (i : Nat) (x : Wd), l[i]? = some x → w.cell? ⟨g, o + i * 3, none⟩ = some (.string (tx x.1)) ∧ w.cell? ⟨g, o + i * 3 + 1, none⟩ = some (.int .i64 x.2.1) ∧ w.cell? ⟨g, o + i * 3 + 2, none⟩ = some (.int .i64 x.2.2)
structure FaultAt (w : World) (rb : Nat) (f : Ru.Ft) : Prop where
  ex : ∃ (c0 c1 c2 c3 c4 : Value), w.heap[rb]? = some (.cells #[c0, c1, c2, c3, c4, .int .i64 f.1, .int .i64 f.2.1, .int .i64 f.2.2] 145 (0, 0))
def Gave (w : World) (rb : Nat) (f : Ru.Ft) (en : Ending) (w' : World) : Prop := ∃ e : Int, en = .panicked (pan e) ∧ FaultAt w' rb f ∧ w.grownBy w' (some rb)

theorem RdAt.grown {w w' : World} {rb g width : Nat} {l : List Wd} {e : Wd} (h : RdAt w rb g width l e) (hb : Below w.heap.size w w') : RdAt w' rb g width l e := by
  obtain ⟨o, cap, f0, f1, f2, hc, h1, h2, h3, h4, h5⟩ := h.ex
  have ek : ∀ k, (hk : k < w.heap.size) → w'.heap[k]? = w.heap[k]? := fun k hk => hb.block k hk
  refine ⟨o, cap, f0, f1, f2, (ek _ (lt_of_block hc)).trans hc, h1, h2, h3, by have := hb.size; omega, fun i x hx => ?_⟩
  obtain ⟨q1, q2, q3⟩ := h5 i x hx
  exact ⟨by rw [World.cell?_of_block (ek g h4)]; exact q1, by rw [World.cell?_of_block (ek g h4)]; exact q2, by rw [World.cell?_of_block (ek g h4)]; exact q3⟩
theorem RdAt.lt {w : World} {rb g width : Nat} {l : List Wd} {e : Wd} (h : RdAt w rb g width l e) : rb < w.heap.size := by
  obtain ⟨o, cap, f0, f1, f2, hc, _⟩ := h.ex
  exact lt_of_block hc
theorem grown_refl (w : World) (r : Option Nat) : w.grownBy w r := ⟨rfl, rfl, rfl, Nat.le_refl _, fun _ _ _ => rfl⟩
theorem grown_set (w : World) (b o : Nat) (v : Value) : w.grownBy (w.setCell ⟨b, o, none⟩ v) (some b) := grown_cell _ _ _ _
theorem grown_alloc (w : World) (o : Obj) (r : Option Nat) : w.grownBy (w.alloc o) r := ⟨rfl, rfl, rfl, by simp, fun i hi _ => heap_old w o hi⟩
theorem Gave.from {w w1 w2 : World} {rb : Nat} {f : Ru.Ft} {en : Ending} (h1 : w.grownBy w1 (some rb)) (h : Gave w1 rb f en w2) : Gave w rb f en w2 := by
  obtain ⟨e, rfl, hf, hg⟩ := h
  exact ⟨e, rfl, hf, grown_two h1 hg⟩

theorem rd_next {w : World} {rb g width o cap o' cap' : Nat} {x : Wd} {l : List Wd} {e : Wd} {f0 f1 f2 : Value} (hc : w.heap[rb]? = some (.cells #[.int .i64 width, .slice (some ⟨g, o, none⟩) (l.length + 1) cap, .string (tx e.1), .int .i64 e.2.1, .int .i64 e.2.2, f0, f1, f2] 145 (0, 0))) (h1 : l.length + 1 ≤ cap) (h2 : cap ≤ 9223372036854775807) (h3 : g ≠ rb) (h4 : g < w.heap.size)
    (h5 : ∀ (i : Nat) (y : Wd), (x :: l)[i]? = some y → w.cell? ⟨g, o + i * 3, none⟩ = some (.string (tx y.1)) ∧ w.cell? ⟨g, o + i * 3 + 1, none⟩ = some (.int .i64 y.2.1) ∧ w.cell? ⟨g, o + i * 3 + 2, none⟩ = some (.int .i64 y.2.2))
    (ho : (1 < cap ∧ o' = o + 3 ∧ cap' = cap - 1) ∨ (1 = cap ∧ o' = o ∧ cap' = 0)) : RdAt (w.setCell ⟨rb, 1, none⟩ (.slice (some ⟨g, o', none⟩) l.length cap')) rb g width l e := by
  refine ⟨o', cap', f0, f1, f2, ?_, by omega, by omega, h3, by simpa using h4, fun i y hy => ?_⟩
  · rw [block_set (o := 1) _ hc]; rfl
  · have hlt : i < l.length := (List.getElem?_eq_some_iff.1 hy).1
    obtain ⟨q1, q2, q3⟩ := h5 (i + 1) y (by simpa using hy)
    have eb : (w.setCell ⟨rb, 1, none⟩ (.slice (some ⟨g, o', none⟩) l.length cap')).heap[g]? = w.heap[g]? := Below.heap_setCell _ _ _ _ h3
    rcases ho with ⟨_, rfl, rfl⟩ | ⟨e1, _, _⟩
    · have e3 : o + 3 + i * 3 = o + (i + 1) * 3 := by omega
      rw [e3]
      exact ⟨by rw [World.cell?_of_block eb]; exact q1, by rw [World.cell?_of_block eb]; exact q2, by rw [World.cell?_of_block eb]; exact q3⟩
    · omega

theorem alloc_cell {w : World} {b o : Nat} {v : Value} (h : w.cell? ⟨b, o, none⟩ = some v) (hb : b < w.heap.size) (ob : Obj) : (w.alloc ob).cell? ⟨b, o, none⟩ = some v := by
  rw [World.cell?_of_block (heap_old w ob hb)]; exact h
theorem alloc_free {w : World} {b o : Nat} {cs : Array Value} {t : TypeId} (h : w.heap[b]? = some (.cells cs t (0, 0))) (ob : Obj) : (w.alloc ob).frozen? ⟨b, o, none⟩ = false := free_of (new_old w ob h)

set_option maxHeartbeats 1000000 in
theorem unext_any {w : World} {rb g width : Nat} {l : List Wd} {e : Wd} (hR : RdAt w rb g width l e) :
    Calls Tryz.prog 142 #[.pointer (some ⟨rb, 0, none⟩)] w fun en w' => en = .returned (wv (Ru.nx e l)) ∧ RdAt w' rb g width l.tail e ∧ w.grownBy w' (some rb) := by
  have HR := hid hR
  obtain ⟨o, cap, f0, f1, f2, hc, h1, h2, h3, h4, h5⟩ := hR.ex
  have hlt := lt_of_block hc
  have c1 := cell_at (o := 1) hc
  have c2 := cell_at (o := 2) hc
  have c3 := cell_at (o := 3) hc
  have c4 := cell_at (o := 4) hc
  simp only [List.getElem?_toArray, List.getElem?_cons_succ, List.getElem?_cons_zero] at c1 c2 c3 c4
  have fr : ∀ ob, (w.alloc ob).frozen? ⟨rb, 1, none⟩ = false := alloc_free hc
  cases l with
  | nil =>
    simp only [List.length_nil] at c1
    have a1 := alloc_cell c1 hlt
    have a2 := alloc_cell c2 hlt
    have a3 := alloc_cell c3 hlt
    have a4 := alloc_cell c4 hlt
    clear hR hc h5 c1 c2 c3 c4
    go_enter Tryz.func142, Tryz.ntmps142
    go_wp2
    refine bodyPost_ret (v := wv e) (by simp [results, Tryz.results142, go_sem]) rfl ?_
    exact ⟨rfl, HR.out.grown ((Below.refl _ _).alloc (Nat.le_refl _) _), grown_alloc _ _ _⟩
  | cons x t =>
    obtain ⟨q1, q2, q3⟩ := h5 0 x rfl
    simp only [Nat.zero_mul, Nat.add_zero] at q1 q2 q3
    simp only [List.length_cons] at c1 h1 hc
    have a1 := alloc_cell c1 hlt
    have b1 := alloc_cell q1 h4
    have b2 := alloc_cell q2 h4
    have b3 := alloc_cell q3 h4
    have HC := hid hc
    have H5 := hid h5
    have hlI : (1 : Int) ≤ (cap : Int) := by omega
    have hl0 : ¬ ((t.length : Int) + 1 = 0) := by omega
    clear hR hc h5 c1 c2 c3 c4 q1 q2 q3
    rcases Nat.lt_or_ge 1 cap with hcap | hcap
    · have hcI : (1 : Int) < (cap : Int) := by omega
      have HN := hid (rd_next (o' := o + 3) (cap' := cap - 1) HC.out h1 h2 h3 h4 H5.out (Or.inl ⟨hcap, rfl, rfl⟩))
      go_enter Tryz.func142, Tryz.ntmps142
      go_wp2
      all_goals first
        | (exfalso; omega)
        | (refine bodyPost_ret (v := wv x) (by simp [results, Tryz.results142, go_sem]) rfl ?_; exact ⟨rfl, HN.out.grown (((Below.refl _ _).alloc (Nat.le_refl _) _).alloc (by simp) _), grown_two (grown_two (grown_set _ _ _ _) (grown_alloc _ _ _)) (grown_alloc _ _ _)⟩)
    · have hc1 : cap = 1 := by omega
      subst hc1
      have ht : t.length = 0 := by omega
      have HN := hid (rd_next (o' := o) (cap' := 0) HC.out h1 h2 h3 h4 H5.out (Or.inr ⟨rfl, rfl, rfl⟩))
      rw [ht] at HN a1
      go_enter Tryz.func142, Tryz.ntmps142
      go_wp2
      all_goals first
        | (exfalso; omega)
        | (refine bodyPost_ret (v := wv x) (by simp [results, Tryz.results142, go_sem]) rfl ?_; exact ⟨rfl, HN.out.grown (((Below.refl _ _).alloc (Nat.le_refl _) _).alloc (by simp) _), grown_two (grown_two (grown_set _ _ _ _) (grown_alloc _ _ _)) (grown_alloc _ _ _)⟩)

set_option maxHeartbeats 400000 in
theorem umust_yes (p : Value) (x : Wd) (e : Int) (w : World) : Calls Tryz.prog 72 #[p, .bool true, wv x, .int .i64 e] w fun en w' => en = .returned (.tuple #[]) ∧ w' = w.alloc (wob x) := by
  go_enter Tryz.func72, Tryz.ntmps72
  go_wp2
  go_end0
  exact ⟨rfl, rfl⟩

theorem RdAt.cells {w : World} {rb g width : Nat} {l : List Wd} {e : Wd} (h : RdAt w rb g width l e) : ∃ (c0 c1 c2 c3 c4 c5 c6 c7 : Value), w.heap[rb]? = some (.cells #[c0, c1, c2, c3, c4, c5, c6, c7] 145 (0, 0)) := by
  obtain ⟨o, cap, f0, f1, f2, hc, _⟩ := h.ex
  exact ⟨_, _, _, _, _, _, _, _, hc⟩

set_option maxHeartbeats 1000000 in
theorem umust_no {w : World} {rb g width : Nat} {l : List Wd} {e0 : Wd} (hR : RdAt w rb g width l e0) (x : Wd) (e : Nat) :
    Calls Tryz.prog 72 #[.pointer (some ⟨rb, 0, none⟩), .bool false, wv x, .int .i64 e] w fun en w' => Gave w rb (Ru.ft x e) en w' := by
  obtain ⟨c0, c1, c2, c3, c4, c5, c6, c7, hc0⟩ := hR.cells
  have hc := new_old w (wob x) hc0
  have k5 := cell_at (o := 5) hc
  have k6 := cell_at (o := 6) hc
  have k7 := cell_at (o := 7) hc
  simp only [List.getElem?_toArray, List.getElem?_cons_succ, List.getElem?_cons_zero] at k5 k6 k7
  have f5 : (w.alloc (wob x)).frozen? ⟨rb, 5, none⟩ = false := free_of hc
  have f6 : (w.alloc (wob x)).frozen? ⟨rb, 6, none⟩ = false := free_of hc
  have f7 : (w.alloc (wob x)).frozen? ⟨rb, 7, none⟩ = false := free_of hc
  have HF : Hid (FaultAt ((((w.alloc (wob x)).setCell ⟨rb, 5, none⟩ (.int .i64 x.2.1)).setCell ⟨rb, 6, none⟩ (.int .i64 x.2.2)).setCell ⟨rb, 7, none⟩ (.int .i64 e)) rb (Ru.ft x e) ∧ w.grownBy ((((w.alloc (wob x)).setCell ⟨rb, 5, none⟩ (.int .i64 x.2.1)).setCell ⟨rb, 6, none⟩ (.int .i64 x.2.2)).setCell ⟨rb, 7, none⟩ (.int .i64 e)) (some rb)) :=
    ⟨⟨c0, c1, c2, c3, c4, by rw [block_set (o := 7) _ (block_set (o := 6) _ (block_set (o := 5) _ hc))]; rfl⟩, grown_two (grown_two (grown_two (grown_alloc _ _ _) (grown_set _ _ _ _)) (grown_set _ _ _ _)) (grown_set _ _ _ _)⟩
  clear hR hc hc0
  go_enter Tryz.func72, Tryz.ntmps72
  go_wp2
  exact ⟨rfl, e, rfl, HF.out⟩

theorem umust_two {w : World} {rb g width : Nat} {l : List Wd} {e0 : Wd} (hR : RdAt w rb g width l e0) (b : Bool) (x : Wd) (e : Nat) :
    Calls Tryz.prog 72 #[.pointer (some ⟨rb, 0, none⟩), .bool b, wv x, .int .i64 e] w fun en w' => (b = true ∧ en = .returned (.tuple #[]) ∧ w' = w.alloc (wob x)) ∨ (b = false ∧ Gave w rb (Ru.ft x e) en w') := by
  cases b with
  | true => exact (umust_yes _ x e w).mono fun en w' h => Or.inl ⟨rfl, h⟩
  | false => exact (umust_no hR x e).mono fun en w' h => Or.inr ⟨rfl, h⟩

theorem RdAt.alloc {w : World} {rb g width : Nat} {l : List Wd} {e : Wd} (h : RdAt w rb g width l e) (o : Obj) : RdAt (w.alloc o) rb g width l e := h.grown ((Below.refl _ _).alloc (Nat.le_refl _) _)
theorem Gave.after {w w1 w2 : World} {rb : Nat} {f : Ru.Ft} {en : Ending} (h : Gave w1 rb f en w2) (h1 : w.grownBy w1 (some rb)) : Gave w rb f en w2 := h.from h1

set_option maxHeartbeats 1000000 in
theorem utext_any {w : World} {rb g width : Nat} {l : List Wd} {e : Wd} (hR : RdAt w rb g width l e) (s : List UInt8) (n : Nat) :
    Calls Tryz.prog 107 #[.pointer (some ⟨rb, 0, none⟩), .string (tx s), .int .i64 n] w fun en w' =>
      ((Ru.nx e l).1 = s ∧ en = .returned (.tuple #[]) ∧ RdAt w' rb g width l.tail e ∧ w.grownBy w' (some rb)) ∨ ((Ru.nx e l).1 ≠ s ∧ Gave w rb (Ru.ft (Ru.nx e l) n) en w') := by
  have HN := hid (unext_any hR)
  obtain ⟨x, hx⟩ : ∃ x, x = Ru.nx e l := ⟨_, rfl⟩
  rw [← hx] at HN ⊢
  clear hx hR
  by_cases hs : x.1 = s
  · have hb : (x.1 == s) = true := by simpa using hs
    have HS := hid hs
    clear hs
    go_enter Tryz.func107, Tryz.ntmps107
    go_wp2_with fail
    refine HN.out.mono ?_
    rintro en w1 ⟨rfl, h1, h2⟩
    have H := hid (And.intro h1 h2)
    clear h1 h2
    go_wp2_with fail
    refine (umust_yes _ _ _ _).mono ?_
    rintro en w2 ⟨rfl, rfl⟩
    go_wp2
    go_end0
    exact Or.inl ⟨HS.out, rfl, (H.out.1.alloc _).alloc _, grown_two (grown_two H.out.2 (grown_alloc _ _ _)) (grown_alloc _ _ _)⟩
  · have hb : (x.1 == s) = false := by simpa using hs
    have HS := hid hs
    clear hs
    go_enter Tryz.func107, Tryz.ntmps107
    go_wp2_with fail
    refine HN.out.mono ?_
    rintro en w1 ⟨rfl, h1, h2⟩
    have H := hid (And.intro h1 h2)
    clear h1 h2
    go_wp2_with fail
    refine (umust_no (H.out.1.alloc _) x n).mono ?_
    rintro en w2 hG
    obtain ⟨q, rfl, hf, hg⟩ := hG
    exact ⟨rfl, Or.inr ⟨HS.out, q, rfl, hf, grown_two (grown_two H.out.2 (grown_alloc _ _ _)) hg⟩⟩
end Go.Proofs.YtemmhingmeinjaaGreatDoor
namespace Go.Proofs.YtemmhingmeinjaaGreatDoor.Cub
open Go.RowKit

def pl (p : Nat → Bool) : Value := .agg #[.int .u64 (Cu.wd p 0 : Int), .int .u64 (Cu.wd p 1 : Int)]
def c4 (p q : Nat → Bool) : Array Value := #[.int .u64 (Cu.wd p 0 : Int), .int .u64 (Cu.wd p 1 : Int), .int .u64 (Cu.wd q 0 : Int), .int .u64 (Cu.wd q 1 : Int)]

theorem or_bit (x j : Nat) (hx : x < 18446744073709551616) (hj : j < 64) : bits .or .u64 (x : Int) (IntKind.u64.wrap (2 ^ j)) = ((x ||| 2 ^ j : Nat) : Int) := by
  have e : IntKind.u64.wrap (2 ^ j) = ((2 ^ j : Nat) : Int) := by
    have := Cu.pow_lt hj
    rw [IntKind.wrap_u64, show ((2 : Int) ^ j) = ((2 ^ j : Nat) : Int) from by simp]
    generalize 2 ^ j = y at *
    omega
  rw [e, u64_or_nat _ _ hx (Cu.pow_lt hj)]

set_option maxHeartbeats 400000 in
theorem add_lo (x i b o : Nat) (w : World) (hi : i < 64) (hx : x < 18446744073709551616) (hc : w.cell? ⟨b, o, none⟩ = some (.int .u64 (x : Int))) (hf : w.frozen? ⟨b, o, none⟩ = false) :
    Calls Tryz.prog 179 #[.pointer (some ⟨b, o, none⟩), .int .i64 (i : Int)] w fun e w' =>
      e = .returned (.tuple #[]) ∧ w' = (w.setCell ⟨b, o, none⟩ (.int .u64 ((x ||| 2 ^ i : Nat) : Int))).drew := by
  have hq : ((i : Int) / 64) = 0 := by omega
  go_enter Tryz.func179, Tryz.ntmps179
  go_wp2
  go_region
  go_end0
  refine ⟨rfl, ?_⟩
  rw [Nat.mod_eq_of_lt hi, or_bit x i hx hi]

set_option maxHeartbeats 400000 in
theorem add_hi (x i b o : Nat) (w : World) (hi : ¬ i < 64) (h2 : i < 128) (hx : x < 18446744073709551616) (hc : w.cell? ⟨b, o + 1, none⟩ = some (.int .u64 (x : Int))) (hf : w.frozen? ⟨b, o + 1, none⟩ = false) :
    Calls Tryz.prog 179 #[.pointer (some ⟨b, o, none⟩), .int .i64 (i : Int)] w fun e w' =>
      e = .returned (.tuple #[]) ∧ w' = (w.setCell ⟨b, o + 1, none⟩ (.int .u64 ((x ||| 2 ^ (i - 64) : Nat) : Int))).drew := by
  have hq : ((i : Int) / 64) = 1 := by omega
  go_enter Tryz.func179, Tryz.ntmps179
  go_wp2
  go_region
  go_end0
  refine ⟨rfl, ?_⟩
  rw [show i % 64 = i - 64 from by omega, or_bit x (i - 64) hx (by omega)]

theorem four_cell {w : World} {b : Nat} {c0 c1 c2 c3 : Value} {t : TypeId} (h : w.heap[b]? = some (.cells #[c0, c1, c2, c3] t (0, 0))) :
    w.cell? ⟨b, 0, none⟩ = some c0 ∧ w.cell? ⟨b, 1, none⟩ = some c1 ∧ w.cell? ⟨b, 2, none⟩ = some c2 ∧ w.cell? ⟨b, 3, none⟩ = some c3 := by
  simp [World.cell?, h]
theorem free_of {w : World} {b o : Nat} {cs : Array Value} {t : TypeId} (h : w.heap[b]? = some (.cells cs t (0, 0))) : w.frozen? ⟨b, o, none⟩ = false := by
  simp [World.frozen?, h]
theorem block_set {w : World} {b o : Nat} {cs : Array Value} {t : TypeId} (u : Value) (h : w.heap[b]? = some (.cells cs t (0, 0))) :
    (w.setCell ⟨b, o, none⟩ u).heap[b]? = some (.cells (cs.setIfInBounds o u) t (0, 0)) := by
  have hlt := lt_of_block h
  have h' : w.heap[b] = .cells cs t (0, 0) := by simpa [Array.getElem?_eq_getElem hlt] using h
  show (w.heap.modify b _)[b]? = _
  rw [Array.getElem?_eq_getElem (by simpa using hlt), Array.getElem_modify_self, h']
  rfl
theorem new_0 (w : World) (o : Obj) : (w.alloc o).heap[w.heap.size]? = some o := by
  show (w.heap.push o)[w.heap.size]? = _
  rw [Array.getElem?_push, if_pos rfl]
theorem new_1 (w : World) (o o' : Obj) : ((w.alloc o).alloc o').heap[w.heap.size + 1]? = some o' := by
  show ((w.heap.push o).push o')[w.heap.size + 1]? = _
  rw [Array.getElem?_push, if_pos (by simp)]
theorem new_old (w : World) (o : Obj) {k : Nat} {x : Obj} (h : w.heap[k]? = some x) : (w.alloc o).heap[k]? = some x := by
  have := lt_of_block h
  show (w.heap.push o)[k]? = _
  rw [Array.getElem?_push, if_neg (by omega), h]
theorem grown_set (w : World) (b o : Nat) (u : Value) : w.grownBy (w.setCell ⟨b, o, none⟩ u).drew (some b) :=
  ⟨rfl, rfl, rfl, by simp, fun k _ hne => Below.heap_setCell _ _ _ _ (fun e => hne (by simp [e]))⟩
theorem grown_trans {a b c : World} {r : Option Nat} (h : a.grownBy b r) (k : b.grownBy c r) : a.grownBy c r :=
  ⟨k.os.trans h.os, k.tape.trans h.tape, k.output.trans h.output, Nat.le_trans h.size k.size, fun i hi hne => (k.block i (Nat.lt_of_lt_of_le hi h.size) hne).trans (h.block i hi hne)⟩
theorem grown_of_below {a b : World} (r : Option Nat) (h : Below a.heap.size a b) : a.grownBy b r := ⟨h.os, h.tape, h.output, h.size, fun i hi _ => h.block i hi⟩
theorem grown_refl (a : World) (r : Option Nat) : a.grownBy a r := ⟨rfl, rfl, rfl, Nat.le_refl _, fun _ _ _ => rfl⟩

theorem add_fixed (p q : Nat → Bool) (i b : Nat) (w : World) (h2 : i < 128) (hb : w.heap[b]? = some (.cells (c4 p q) 197 (0, 0))) :
    Calls Tryz.prog 179 #[.pointer (some ⟨b, 0, none⟩), .int .i64 (i : Int)] w fun e w' =>
      e = .returned (.tuple #[]) ∧ w'.heap[b]? = some (.cells (c4 (Cu.updw p i) q) 197 (0, 0)) ∧ w.grownBy w' (some b) := by
  have hc := four_cell hb
  by_cases hi : i < 64
  · refine (add_lo _ i b 0 w hi (Cu.wd_lt _ _) hc.1 (free_of hb)).mono ?_
    rintro e w' ⟨rfl, rfl⟩
    refine ⟨rfl, ?_, grown_set _ _ _ _⟩
    show (w.setCell _ _).heap[b]? = _
    rw [block_set _ hb]
    have e0 := Cu.wd_upd_same p i
    have e1 := Cu.wd_upd_other p i 1 (by omega)
    rw [show i / 64 = 0 from by omega, Nat.mod_eq_of_lt hi] at e0
    simp [c4, e0, e1]
  · refine (add_hi _ i b 0 w hi h2 (Cu.wd_lt _ _) hc.2.1 (free_of hb)).mono ?_
    rintro e w' ⟨rfl, rfl⟩
    refine ⟨rfl, ?_, grown_set _ _ _ _⟩
    show (w.setCell _ _).heap[b]? = _
    rw [block_set _ hb]
    have e0 := Cu.wd_upd_same p i
    have e1 := Cu.wd_upd_other p i 0 (by omega)
    rw [show i / 64 = 1 from by omega, show i % 64 = i - 64 from by omega] at e0
    simp [c4, e0, e1]

theorem add_ones (p q : Nat → Bool) (i b : Nat) (w : World) (h2 : i < 128) (hb : w.heap[b]? = some (.cells (c4 p q) 197 (0, 0))) :
    Calls Tryz.prog 179 #[.pointer (some ⟨b, 2, none⟩), .int .i64 (i : Int)] w fun e w' =>
      e = .returned (.tuple #[]) ∧ w'.heap[b]? = some (.cells (c4 p (Cu.updw q i)) 197 (0, 0)) ∧ w.grownBy w' (some b) := by
  have hc := four_cell hb
  by_cases hi : i < 64
  · refine (add_lo _ i b 2 w hi (Cu.wd_lt _ _) hc.2.2.1 (free_of hb)).mono ?_
    rintro e w' ⟨rfl, rfl⟩
    refine ⟨rfl, ?_, grown_set _ _ _ _⟩
    show (w.setCell _ _).heap[b]? = _
    rw [block_set _ hb]
    have e0 := Cu.wd_upd_same q i
    have e1 := Cu.wd_upd_other q i 1 (by omega)
    rw [show i / 64 = 0 from by omega, Nat.mod_eq_of_lt hi] at e0
    simp [c4, e0, e1]
  · refine (add_hi _ i b 2 w hi h2 (Cu.wd_lt _ _) hc.2.2.2 (free_of hb)).mono ?_
    rintro e w' ⟨rfl, rfl⟩
    refine ⟨rfl, ?_, grown_set _ _ _ _⟩
    show (w.setCell _ _).heap[b]? = _
    rw [block_set _ hb]
    have e0 := Cu.wd_upd_same q i
    have e1 := Cu.wd_upd_other q i 0 (by omega)
    rw [show i / 64 = 1 from by omega, show i % 64 = i - 64 from by omega] at e0
    simp [c4, e0, e1]

set_option maxHeartbeats 400000 in
theorem fix_any (p q : Nat → Bool) (i b : Nat) (one : Bool) (w : World) (h2 : i < 128) (hb : w.heap[b]? = some (.cells (c4 p q) 197 (0, 0))) :
    Calls Tryz.prog 160 #[.pointer (some ⟨b, 0, none⟩), .int .i64 (i : Int), .bool one] w fun e w' =>
      e = .returned (.tuple #[]) ∧ w'.heap[b]? = some (.cells (c4 (Cu.updw p i) (Cu.setOne q i one)) 197 (0, 0)) ∧ w.grownBy w' (some b) := by
  have HB : Hid (w.heap[b]? = some (.cells (c4 p q) 197 (0, 0))) := hb
  clear hb
  cases one with
  | false =>
    have e : Cu.setOne q i false = q := by funext j; simp [Cu.setOne]
    rw [e]
    go_enter Tryz.func160, Tryz.ntmps160
    go_wp2_with fail
    refine (add_fixed p q i b w h2 HB.out).mono ?_
    rintro e w1 ⟨rfl, h1, g1⟩
    have H1 : Hid _ := h1
    clear h1
    go_wp2_with fail
    go_end0
    exact ⟨rfl, H1.out, g1⟩
  | true =>
    have e : Cu.setOne q i true = Cu.updw q i := by funext j; simp [Cu.setOne, Cu.updw]
    rw [e]
    go_enter Tryz.func160, Tryz.ntmps160
    go_wp2_with fail
    refine (add_fixed p q i b w h2 HB.out).mono ?_
    rintro e w1 ⟨rfl, h1, g1⟩
    have H1 : Hid _ := h1
    clear h1
    go_wp2_with fail
    refine (add_ones _ q i b w1 h2 H1.out).mono ?_
    rintro e w2 ⟨rfl, h2', g2⟩
    go_wp2_with fail
    go_end0
    exact ⟨rfl, h2', grown_trans g1 g2⟩
end Go.Proofs.YtemmhingmeinjaaGreatDoor.Cub
namespace Go.Proofs.YtemmhingmeinjaaGreatDoor.Cub
open Go.RowKit

abbrev tc (l : List UInt8) : Array Value := c4 (Cu.fixAt l) (Cu.oneAt l)

theorem take_snoc (s : ByteArray) (k : Nat) (h : k < s.size) : s.data.toList.take (k + 1) = s.data.toList.take k ++ [s[k]] := by
  rw [List.take_succ_eq_append_getElem (by simpa using h)]; rfl
theorem take_len (s : ByteArray) (k : Nat) (h : k ≤ s.size) : (s.data.toList.take k).length = k := by
  rw [List.length_take]; simp; exact Nat.min_eq_left h
theorem grown_block {w w' : World} {r : Nat} (g : w.grownBy w' (some r)) {k : Nat} {o : Obj} (h : w.heap[k]? = some o) (hne : k ≠ r) : w'.heap[k]? = some o :=
  (g.block k (lt_of_block h) (by simp [hne])).trans h
theorem below_grown {B r : Nat} {w w1 w2 : World} (h : Below B w w1) (g : w1.grownBy w2 (some r)) (h1 : B ≤ w1.heap.size) (h2 : B ≤ r) : Below B w w2 :=
  h.grown g h1 (fun k hk => by simp at hk; omega)

theorem tc_snoc_fix (l : List UInt8) (c : UInt8) (h : c = 48 ∨ c = 49) : tc (l ++ [c]) = c4 (Cu.updw (Cu.fixAt l) l.length) (Cu.setOne (Cu.oneAt l) l.length (c == 49)) := by
  rw [tc, Cu.fixAt_snoc l c h, Cu.oneAt_snoc]
theorem tc_snoc_x (l : List UInt8) : tc (l ++ [120]) = tc l := by
  rw [tc, Cu.fixAt_snoc_x, Cu.oneAt_snoc_x]
theorem tc_nil : tc [] = #[.int .u64 0, .int .u64 0, .int .u64 0, .int .u64 0] := by
  have e : Cu.wd (Cu.fixAt []) = fun _ => 0 := by
    funext k
    symm
    exact Cu.wd_eq (by omega) (fun i _ => by simp [Cu.fixAt])
  have e2 : Cu.wd (Cu.oneAt []) = fun _ => 0 := by
    funext k
    symm
    exact Cu.wd_eq (by omega) (fun i _ => by simp [Cu.oneAt])
  simp [tc, c4, e, e2]

set_option maxHeartbeats 400000 in
theorem must_right (s : ByteArray) (w : World) (hs : Cu.right s.data.toList = true) :
    Calls Tryz.prog 129 #[.string s] w fun e w' =>
      e = .returned (.agg (tc s.data.toList)) ∧ Below w.heap.size w w' := by
  have hr := hs
  simp only [Cu.right, Bool.and_eq_true, decide_eq_true_eq, Array.length_toList] at hr
  obtain ⟨⟨hall, h1⟩, h2⟩ := hr
  have h1' : 1 ≤ s.size := h1
  have h2' : s.size ≤ 128 := h2
  have hd1 : decide ((s.size : Int) < 1) = false := by simp; omega
  have hd2 : decide (128 < (s.size : Int)) = false := by simp; omega
  clear h1 h2 hs
  have HA : Hid (s.data.toList.all Cu.sym = true) := hall
  clear hall
  go_enter Tryz.func129, Tryz.ntmps129
  go_wp2
  go_loopw [16] (fun i wr => ∃ k : Nat, k ≤ s.size ∧ i = .int .i64 k ∧ wr.heap[w.heap.size + 1]? = some (.cells (tc (s.data.toList.take k)) 197 (0, 0)) ∧
      wr.heap[w.heap.size]? = some (.cells #[.int .u64 0, .int .u64 0, .int .u64 0, .int .u64 0] 197 (0, 0)) ∧ Below w.heap.size w wr)
    (fun i _ => s.size - (intOf i).toNat)
  case atStart =>
    refine ⟨0, Nat.zero_le _, rfl, ?_, ?_, ((Below.refl _ _).alloc (Nat.le_refl _) _).alloc (by simp) _⟩
    · rw [List.take_zero, tc_nil]
      exact new_1 _ _ _
    · exact new_old _ _ (new_0 _ _)
  case round =>
    obtain ⟨k, hk, rfl, ht, hz, hb⟩ := hrel
    have HT : Hid _ := ht
    have HZ : Hid _ := hz
    by_cases hlt : k < s.size
    · clear ht hz
      have hsym : Cu.sym s[k] = true := by
        have := HA.out
        rw [List.all_eq_true] at this
        refine this _ ?_
        show s.data[k] ∈ s.data.toList
        simp
      have HS : Hid (s.data.toList.take (k + 1) = s.data.toList.take k ++ [s[k]]) := take_snoc s k hlt
      have HL : Hid ((s.data.toList.take k).length = k) := take_len s k hk
      have hs1 := hb.size
      rcases Cu.sym_cases hsym with hc | hc | hc
      · have hcn : (s[k].toNat : Int) = 48 := by rw [hc]; rfl
        have HC : Hid (s[k] = 48) := hc
        clear hc hsym
        go_wp2_with fail
        refine (fix_any _ _ k _ false wr (by omega) HT.out).mono ?_
        rintro e w1 ⟨rfl, hn, g1⟩
        have HN : Hid _ := hn
        clear hn
        go_wp2
        go_roundw
        case rel =>
          refine ⟨k + 1, by omega, by go_num, ?_, grown_block g1 HZ.out (by omega), below_grown hb g1 hs1 (by omega)⟩
          rw [HS.out, HC.out, tc_snoc_fix _ _ (Or.inl rfl), HL.out]
          exact HN.out
        case measure => simp [intOf]; omega
      · have hcn : (s[k].toNat : Int) = 49 := by rw [hc]; rfl
        have HC : Hid (s[k] = 49) := hc
        clear hc hsym
        go_wp2_with fail
        refine (fix_any _ _ k _ true wr (by omega) HT.out).mono ?_
        rintro e w1 ⟨rfl, hn, g1⟩
        have HN : Hid _ := hn
        clear hn
        go_wp2
        go_roundw
        case rel =>
          refine ⟨k + 1, by omega, by go_num, ?_, grown_block g1 HZ.out (by omega), below_grown hb g1 hs1 (by omega)⟩
          rw [HS.out, HC.out, tc_snoc_fix _ _ (Or.inr rfl), HL.out]
          exact HN.out
        case measure => simp [intOf]; omega
      · have hcn : (s[k].toNat : Int) = 120 := by rw [hc]; rfl
        have HC : Hid (s[k] = 120) := hc
        clear hc hsym
        go_wp2
        go_roundw
        case rel =>
          refine ⟨k + 1, by omega, by go_num, ?_, HZ.out, hb⟩
          rw [HS.out, HC.out, tc_snoc_x]
          exact HT.out
        case measure => simp [intOf]; omega
    · have hkk : k = s.size := by omega
      subst hkk
      have HE : Hid (s.data.toList.take s.size = s.data.toList) := by
        show _ = _
        rw [List.take_of_length_le (by simp)]
      obtain ⟨t0, t1, t2, t3⟩ := four_cell ht
      obtain ⟨z0, z1, z2, z3⟩ := four_cell hz
      have f0 : wr.frozen? ⟨w.heap.size, 0, none⟩ = false := free_of hz
      have f1 : wr.frozen? ⟨w.heap.size, 1, none⟩ = false := free_of hz
      have f2 : wr.frozen? ⟨w.heap.size, 2, none⟩ = false := free_of hz
      have f3 : wr.frozen? ⟨w.heap.size, 3, none⟩ = false := free_of hz
      clear ht hz
      go_wp2
      refine bodyPost_ret (v := .agg (tc (s.data.toList.take s.size))) ?_ rfl ⟨by rw [HE.out], ?_⟩
      · simp [results, Tryz.results129, go_sem, z0, z1, z2, z3, c4]
      · exact (((hb.setCell (by simp) _).setCell (by simp) _).setCell (by simp) _).setCell (by simp) _

abbrev tv (l : List UInt8) : Value := .agg #[.int .u64 (Cu.wd (Cu.fixAt l) 0 : Int), .int .u64 (Cu.wd (Cu.fixAt l) 1 : Int), .int .u64 (Cu.wd (Cu.oneAt l) 0 : Int), .int .u64 (Cu.wd (Cu.oneAt l) 1 : Int)]

theorem must_right' (s : ByteArray) (w : World) (hs : Cu.right s.data.toList = true) :
    Calls Tryz.prog 129 #[.string s] w fun e w' => e = .returned (tv s.data.toList) ∧ Below w.heap.size w w' := must_right s w hs

abbrev noCube : List PanicEntry := [{ v := .iface 28 (.int .i64 10), recovered := false }]

set_option maxHeartbeats 400000 in
theorem must_size (s : ByteArray) (w : World) (hs : s.size < 1 ∨ 128 < s.size) :
    Calls Tryz.prog 129 #[.string s] w fun e w' => e = .panicked noCube ∧ Below w.heap.size w w' := by
  rcases hs with hs | hs
  · have hd1 : decide ((s.size : Int) < 1) = true := by simp; omega
    go_enter Tryz.func129, Tryz.ntmps129
    go_wp2
    exact ⟨rfl, rfl, (Below.refl _ _).alloc (Nat.le_refl _) _⟩
  · have hd1 : decide ((s.size : Int) < 1) = false := by simp; omega
    have hd2 : decide (128 < (s.size : Int)) = true := by simp; omega
    go_enter Tryz.func129, Tryz.ntmps129
    go_wp2
    exact ⟨rfl, rfl, (Below.refl _ _).alloc (Nat.le_refl _) _⟩

set_option maxHeartbeats 400000 in
theorem must_sym (s : ByteArray) (w : World) (h1' : 1 ≤ s.size) (h2' : s.size ≤ 128) (hall : s.data.toList.all Cu.sym = false) :
    Calls Tryz.prog 129 #[.string s] w fun e w' => e = .panicked noCube ∧ Below w.heap.size w w' := by
  have hd1 : decide ((s.size : Int) < 1) = false := by simp; omega
  have hd2 : decide (128 < (s.size : Int)) = false := by simp; omega
  have HA : Hid (s.data.toList.all Cu.sym = false) := hall
  clear hall
  go_enter Tryz.func129, Tryz.ntmps129
  go_wp2
  go_loopw [16] (fun i wr => ∃ k : Nat, k ≤ s.size ∧ i = .int .i64 k ∧ (∃ p q, wr.heap[w.heap.size + 1]? = some (.cells (c4 p q) 197 (0, 0))) ∧
      Hid ((s.data.toList.take k).all Cu.sym = true) ∧ Below w.heap.size w wr)
    (fun i _ => s.size - (intOf i).toNat)
  case atStart =>
    refine ⟨0, Nat.zero_le _, rfl, ⟨Cu.fixAt [], Cu.oneAt [], ?_⟩, ?_, ((Below.refl _ _).alloc (Nat.le_refl _) _).alloc (by simp) _⟩
    · have := tc_nil
      rw [tc] at this
      rw [this]
      exact new_1 _ _ _
    · show _ = _
      simp
  case round =>
    obtain ⟨k, hk, rfl, ⟨p, q, ht⟩, hpre, hb⟩ := hrel
    have HT : Hid _ := ht
    clear ht
    have hs1 := hb.size
    by_cases hlt : k < s.size
    · have HS : Hid (s.data.toList.take (k + 1) = s.data.toList.take k ++ [s[k]]) := take_snoc s k hlt
      by_cases hsym : Cu.sym s[k] = true
      · have HP : Hid ((s.data.toList.take (k + 1)).all Cu.sym = true) := by
          show _ = _
          rw [HS.out, List.all_append, hpre.out]; simp [hsym]
        rcases Cu.sym_cases hsym with hc | hc | hc
        · have hcn : (s[k].toNat : Int) = 48 := by rw [hc]; rfl
          clear hc hsym
          go_wp2_with fail
          refine (fix_any _ _ k _ false wr (by omega) HT.out).mono ?_
          rintro e w1 ⟨rfl, hn, g1⟩
          have HN : Hid _ := hn
          clear hn
          go_wp2
          go_roundw
          case rel => exact ⟨k + 1, by omega, by go_num, ⟨_, _, HN.out⟩, HP, below_grown hb g1 hs1 (by omega)⟩
          case measure => simp [intOf]; omega
        · have hcn : (s[k].toNat : Int) = 49 := by rw [hc]; rfl
          clear hc hsym
          go_wp2_with fail
          refine (fix_any _ _ k _ true wr (by omega) HT.out).mono ?_
          rintro e w1 ⟨rfl, hn, g1⟩
          have HN : Hid _ := hn
          clear hn
          go_wp2
          go_roundw
          case rel => exact ⟨k + 1, by omega, by go_num, ⟨_, _, HN.out⟩, HP, below_grown hb g1 hs1 (by omega)⟩
          case measure => simp [intOf]; omega
        · have hcn : (s[k].toNat : Int) = 120 := by rw [hc]; rfl
          clear hc hsym
          go_wp2
          go_roundw
          case rel => exact ⟨k + 1, by omega, by go_num, ⟨_, _, HT.out⟩, HP, hb⟩
          case measure => simp [intOf]; omega
      · have n1 : ((s[k].toNat : Int) == 48) = false := by
          rw [beq_eq_false_iff_ne]; intro h; exact hsym (by have : s[k] = 48 := UInt8.toNat.inj (by simp; omega); simp [Cu.sym, this])
        have n2 : ((s[k].toNat : Int) == 49) = false := by
          rw [beq_eq_false_iff_ne]; intro h; exact hsym (by have : s[k] = 49 := UInt8.toNat.inj (by simp; omega); simp [Cu.sym, this])
        have n3 : ((s[k].toNat : Int) == 120) = false := by
          rw [beq_eq_false_iff_ne]; intro h; exact hsym (by have : s[k] = 120 := UInt8.toNat.inj (by simp; omega); simp [Cu.sym, this])
        clear hsym
        go_wp2
        exact ⟨rfl, rfl, hb⟩
    · exfalso
      have hkk : k = s.size := by omega
      have h1 := hpre.out
      rw [hkk, List.take_of_length_le (by simp)] at h1
      have h2 := HA.out
      rw [h1] at h2
      cases h2

theorem must_wrong (s : ByteArray) (w : World) (hs : Cu.right s.data.toList = false) :
    Calls Tryz.prog 129 #[.string s] w fun e w' => e = .panicked noCube ∧ Below w.heap.size w w' := by
  by_cases h : s.size < 1 ∨ 128 < s.size
  · exact must_size s w h
  · refine must_sym s w (by omega) (by omega) ?_
    have h1 : 1 ≤ s.data.toList.length := by simp; show 1 ≤ s.size; omega
    have h2 : s.data.toList.length ≤ 128 := by simp; show s.size ≤ 128; omega
    simpa only [Cu.right, h1, h2, decide_true, Bool.and_true] using hs
end Go.Proofs.YtemmhingmeinjaaGreatDoor.Cub
