/-
  What is read of a table: bit, halves.
-/
import Derived.Test.YtffngpdngjfcfaaBTab
namespace Go.Proofs.Ytffngpdngjfcfaa
open Go.RowKit Go.Maps
open Bd (Nd)

theorem Tab.cell3 {w : World} {y : Lay} {s : St} (h : Tab w y s) : w.cell? ⟨y.tb, 3, none⟩ = some y.ls := by rw [cell_at h.cells]; rfl
theorem Tab.cell4 {w : World} {y : Lay} {s : St} (h : Tab w y s) : w.cell? ⟨y.tb, 4, none⟩ = some (.map (some y.mb)) := by rw [cell_at h.cells]; rfl
/-- A node's three cells. -/
theorem Tab.node {w : World} {y : Lay} {s : St} (h : Tab w y s) {i : Nat} {x : Nd} (hx : s.L[i]? = some x) :
    ∃ g cap, y.ls = .slice (some ⟨g, 0, none⟩) s.L.length cap ∧ w.cell? ⟨g, i * 3, none⟩ = some (i6 x.1) ∧ w.cell? ⟨g, i * 3 + 1, none⟩ = some (i6 x.2.1) ∧ w.cell? ⟨g, i * 3 + 2, none⟩ = some (i6 x.2.2) := by
  have hi := Bd.getElem?_lt hx
  obtain ⟨g, cap, hv, _⟩ := h.list.form (by omega)
  have hc := h.list.cells (g := g) (by rw [hv]; rfl)
  have hadd : ∀ j, (⟨g, 0, none⟩ : Addr).add j = ⟨g, j, none⟩ := by intro j; unfold Addr.add; split <;> simp_all
  obtain ⟨a, b, c⟩ := flat_at hx
  have h1 := hc _ _ a
  have h2 := hc _ _ b
  have h3 := hc _ _ c
  rw [hadd] at h1 h2 h3
  exact ⟨g, cap, hv, h1, h2, h3⟩

set_option maxHeartbeats 1000000 in
theorem bit_any {w : World} {y : Lay} {s : St} (hT : Tab w y s) (n : Nat) (hn : n < s.L.length + 2) :
    Calls Try.prog 84 #[.pointer (some ⟨y.tb, 3, none⟩), i6 n] w fun e w' => e = .returned (i6 (Bd.bitOf s.L n)) ∧ w' = w := by
  have hsm := hT.small.1
  rcases Nat.lt_or_ge n 2 with h2 | h2
  · have h2I : (n : Int) < 2 := by omega
    rw [Bd.bitOf_end _ h2]
    go_enter Try.func84, Try.ntmps84
    go_wp2
    go_ret
    exact ⟨rfl, rfl⟩
  · obtain ⟨i, rfl⟩ : ∃ i, n = i + 2 := ⟨n - 2, by omega⟩
    have hx : s.L[i]? = some s.L[i] := List.getElem?_eq_getElem (by omega)
    rw [Bd.bitOf_at hx]
    have c3 := hT.cell3
    obtain ⟨g, cap, hv, h0, _, _⟩ := hT.node hx
    rw [hv] at c3
    generalize s.L[i] = x at *
    generalize s.L.length = len at *
    have e1 : ((i + 2 : Nat) : Int) = (i : Int) + 2 := by omega
    simp only [i6, e1]
    have hl : ¬ ((i : Int) + 2 < 2) := by omega
    have hI : (i : Int) < (len : Int) := by omega
    go_enter Try.func84, Try.ntmps84
    go_wp2
    go_ret
    exact ⟨rfl, rfl⟩

set_option maxHeartbeats 1000000 in
theorem halves_any {w : World} {y : Lay} {s : St} (hT : Tab w y s) (n k : Nat) (hn : n < s.L.length + 2) (hk : k < 128) :
    Calls Try.prog 85 #[.pointer (some ⟨y.tb, 3, none⟩), i6 n, i6 k] w fun e w' => e = .returned (.tuple #[i6 (Bd.loOf s.L n k), i6 (Bd.hiOf s.L n k)]) ∧ Below w.heap.size w w' := by
  have hsm := hT.small.1
  by_cases hb : Bd.bitOf s.L n = k
  · have h2 := Bd.half_at hk hb
    obtain ⟨i, rfl⟩ : ∃ i, n = i + 2 := ⟨n - 2, by omega⟩
    have hx : s.L[i]? = some s.L[i] := List.getElem?_eq_getElem (by omega)
    have hlo : Bd.loOf s.L (i + 2) k = s.L[i].2.1 := by unfold Bd.loOf; rw [if_pos hb, List.getD_eq_getElem?_getD]; simp only [Nat.add_sub_cancel, hx, Option.getD_some]
    have hhi : Bd.hiOf s.L (i + 2) k = s.L[i].2.2 := by unfold Bd.hiOf; rw [if_pos hb, List.getD_eq_getElem?_getD]; simp only [Nat.add_sub_cancel, hx, Option.getD_some]
    have hbit := bit_any hT (i + 2) hn
    rw [hlo, hhi]
    rw [hb] at hbit
    clear hlo hhi
    have c3 := hT.cell3
    obtain ⟨g, cap, hv, h0, h1, h3⟩ := hT.node hx
    rw [hv] at c3
    generalize s.L[i] = x at *
    generalize s.L.length = len at *
    have e1 : ((i + 2 : Nat) : Int) = (i : Int) + 2 := by omega
    simp only [i6, e1] at hbit ⊢
    have hI : (i : Int) < (len : Int) := by omega
    have HB := keep hbit
    clear hbit hT
    go_enter Try.func85, Try.ntmps85
    go_wp2_with (go_at_call 84; refine HB.out.mono ?_; rintro e w' ⟨rfl, rfl⟩)
    go_region
    go_wp2
    go_ret2
    exact ⟨rfl, ((Below.refl _ _).alloc (Nat.le_refl _) _).drew⟩
  · have hlo : Bd.loOf s.L n k = n := by unfold Bd.loOf; rw [if_neg hb]
    have hhi : Bd.hiOf s.L n k = n := by unfold Bd.hiOf; rw [if_neg hb]
    have HB := keep (bit_any hT n hn)
    rw [hlo, hhi]
    have hne : ((Bd.bitOf s.L n : Int) != (k : Int)) = true := by rw [bne_iff_ne]; omega
    clear hT hlo hhi
    generalize Bd.bitOf s.L n = m at *
    go_enter Try.func85, Try.ntmps85
    go_wp2_with (go_at_call 84; refine HB.out.mono ?_; rintro e w' ⟨rfl, rfl⟩)
    go_ret2
    exact ⟨rfl, Below.refl _ _⟩
end Go.Proofs.Ytffngpdngjfcfaa
