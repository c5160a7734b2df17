/-
  Counts: the laws' walks: More.
-/
import Derived.Test.YteadddocmmkbgabDoorKAwake
import Derived.Test.YteadddocmmkbgabDoorKLawB
namespace Go.Proofs.YteadddocmmkbgabDoor.Co
open Go.RowKit Go.Shelf

theorem breaks_mem {m c i : Nat} {k : Int} (h : breaksN m k c = some i) : i < m + 2 ∧ c.testBit i = true := mem_els.1 (List.mem_of_find?_eq_some h)
theorem breaks_less {m a b : Nat} {k : Int} (h : breaksN m k (a ||| b) = none) : breaksN m k a = none := by
  unfold breaksN at h ⊢
  rw [List.find?_eq_none] at h ⊢
  intro x hx
  obtain ⟨h1, h2⟩ := mem_els.1 hx
  exact h x (mem_els.2 ⟨h1, by rw [Nat.testBit_or, h2, Bool.true_or]⟩)
theorem breaksP_ok {m : Nat} {k : Int} {c : Nat} (hm : m ≤ 62) (hc : mayB m c = true) (hk : ¬ (k < 1 ∨ 3 < k)) : breaksP (m : Int) k c = match breaksN m k c with | some i => ((i : Int), true, 0) | none => (0, false, 0) := by
  unfold breaksP
  rw [if_pos (chk_ok hm (by intro x hx; simp at hx; rw [hx]; exact hc)), if_neg hk]
  rfl
theorem breaksP_no {m : Nat} {k : Int} {c : Nat} (hm : m ≤ 62) (hc : mayB m c = true) (hk : k < 1 ∨ 3 < k) : breaksP (m : Int) k c = (0, false, 81) := by
  unfold breaksP
  rw [if_pos (chk_ok hm (by intro x hx; simp at hx; rw [hx]; exact hc)), if_pos hk]

set_option maxRecDepth 100000 in
set_option maxHeartbeats 4000000 in
theorem kmore_any {t k : Int} {a b : Nat} {w : World} (ha : a < 18446744073709551616) (hb : b < 18446744073709551616) (hP : PowTab w) :
    Calls Tryd.prog 3 #[.int .i64 t, .int .i64 k, .int .u64 (a : Int), .int .u64 (b : Int)] w fun e w' => e = .returned (.bool true) ∧ Below w.heap.size w w' := by
  have HK := hid (kawake hP)
  have h64 : ∀ x ∈ [a, b], x < 18446744073709551616 := by intro x hx; simp at hx; rcases hx with rfl | rfl <;> assumption
  have HC := hid (fun w' => (RCheck_any (t := t) (cap := 2) (n := 2) (l := [a, b]) rfl (by omega) (two_cs w' a b 23) h64).mono (fun e w2 (h : _ ∧ _) => (show _ ∧ Below w'.heap.size w' w2 from ⟨h.1, h.2 ▸ below_alloc w' _⟩)))
  by_cases h0 : chkE t [a, b] = 0
  · have hr := chk_range h0
    have hmay := chk_may h0
    rw [h0] at HC
    obtain ⟨m, rfl⟩ : ∃ m : Nat, t = (m : Int) := ⟨t.toNat, by omega⟩
    have hm : m ≤ 62 := by omega
    have ma : mayB m a = true := hmay a (by simp)
    have mb : mayB m b = true := hmay b (by simp)
    obtain ⟨U, hU⟩ : ∃ U, U = a ||| b := ⟨_, rfl⟩
    have mU : mayB m U = true := by rw [hU]; exact or_may ma mb
    have hU64 := two_64 (may_lt mU) hm
    have H1 := hid (Union_two ha hb (x := U) (e0 := 0) (by rw [unionP2 hm ma mb, hU]))
    have H2 := hid (fun w' => Holds_any (t := (m : Int)) (k := k) (c := U) (w := w') hU64)
    have H3 := hid (fun w' => Holds_any (t := (m : Int)) (k := k) (c := a) (w := w') ha)
    have H4 := hid (fun w' => Breaks_any (t := (m : Int)) (k := k) (c := U) (w := w') hU64)
    have go : ∀ (x y br : Bool) (n f : Int), holdsP (m : Int) k U = (x, f) → holdsP (m : Int) k a = (y, f) → breaksP (m : Int) k U = (n, br, f) →
        ((f = 81) ∨ (f = 0 ∧ x = true ∧ y = true ∧ br = false) ∨ (f = 0 ∧ x = false ∧ br = true ∧ ∃ i : Nat, n = (i : Int) ∧ i < 64 ∧ U.testBit i = true)) →
        Calls Tryd.prog 3 #[.int .i64 (m : Int), .int .i64 k, .int .u64 (a : Int), .int .u64 (b : Int)] w fun e w' => e = .returned (.bool true) ∧ Below w.heap.size w w' := by
      intro x y br n f e2 e3 e4 hcase
      rw [e2] at H2
      rw [e3] at H3
      rw [e4] at H4
      simp only at H2 H3 H4
      clear hU mU ma mb hmay hr h0 h64 hP e2 e3 e4
      have HI := hid (fun (i : Nat) (hi : i < 64) w' => RIn_any (c := U) hi hU64 w')
      rcases hcase with rfl | ⟨rfl, rfl, rfl, rfl⟩ | ⟨rfl, rfl, rfl, i, rfl, hi, hbit⟩
      · go_enter Tryd.func3, Tryd.ntmps3
        go_wp2_with fail
        refine HK.out.mono ?_
        rintro e w0 ⟨rfl, hb0⟩
        have B0 := hid hb0
        clear hb0
        go_wp2_with fail
        refine (HC.out _).mono ?_
        rintro e w1 ⟨rfl, hb1⟩
        have B1 := hid (below_tr B0.out hb1)
        clear hb1
        go_wp2_with fail
        refine (H1.out _).mono ?_
        rintro e w2 ⟨rfl, hb2⟩
        have B2 := hid (below_tr B1.out hb2)
        clear hb2
        go_wp2_with fail
        refine (H2.out _).mono ?_
        rintro e w3 ⟨rfl, hb3⟩
        have B3 := hid (below_tr B2.out hb3)
        clear hb3
        go_wp2_with fail
        refine (H3.out _).mono ?_
        rintro e w4 ⟨rfl, hb4⟩
        have B4 := hid (below_tr B3.out hb4)
        clear hb4
        go_wp2_with fail
        refine (H4.out _).mono ?_
        rintro e w5 ⟨rfl, hb5⟩
        have B5 := hid (below_tr B4.out hb5)
        clear hb5
        go_wp2
        go_ret
        exact ⟨rfl, B5.out⟩
      · go_enter Tryd.func3, Tryd.ntmps3
        go_wp2_with fail
        refine HK.out.mono ?_
        rintro e w0 ⟨rfl, hb0⟩
        have B0 := hid hb0
        clear hb0
        go_wp2_with fail
        refine (HC.out _).mono ?_
        rintro e w1 ⟨rfl, hb1⟩
        have B1 := hid (below_tr B0.out hb1)
        clear hb1
        go_wp2_with fail
        refine (H1.out _).mono ?_
        rintro e w2 ⟨rfl, hb2⟩
        have B2 := hid (below_tr B1.out hb2)
        clear hb2
        go_wp2_with fail
        refine (H2.out _).mono ?_
        rintro e w3 ⟨rfl, hb3⟩
        have B3 := hid (below_tr B2.out hb3)
        clear hb3
        go_wp2_with fail
        refine (H3.out _).mono ?_
        rintro e w4 ⟨rfl, hb4⟩
        have B4 := hid (below_tr B3.out hb4)
        clear hb4
        go_wp2_with fail
        refine (H4.out _).mono ?_
        rintro e w5 ⟨rfl, hb5⟩
        have B5 := hid (below_tr B4.out hb5)
        clear hb5
        go_wp2
        go_ret
        exact ⟨rfl, B5.out⟩
      · have HIi := hid (HI.out i hi)
        rw [hbit] at HIi
        have hiI : (i : Int) < 64 := by omega
        have hi0 : (0 : Int) ≤ (i : Int) := by omega
        go_enter Tryd.func3, Tryd.ntmps3
        go_wp2_with fail
        refine HK.out.mono ?_
        rintro e w0 ⟨rfl, hb0⟩
        have B0 := hid hb0
        clear hb0
        go_wp2_with fail
        refine (HC.out _).mono ?_
        rintro e w1 ⟨rfl, hb1⟩
        have B1 := hid (below_tr B0.out hb1)
        clear hb1
        go_wp2_with fail
        refine (H1.out _).mono ?_
        rintro e w2 ⟨rfl, hb2⟩
        have B2 := hid (below_tr B1.out hb2)
        clear hb2
        go_wp2_with fail
        refine (H2.out _).mono ?_
        rintro e w3 ⟨rfl, hb3⟩
        have B3 := hid (below_tr B2.out hb3)
        clear hb3
        go_wp2_with fail
        refine (H3.out _).mono ?_
        rintro e w4 ⟨rfl, hb4⟩
        have B4 := hid (below_tr B3.out hb4)
        clear hb4
        go_wp2_with fail
        refine (H4.out _).mono ?_
        rintro e w5 ⟨rfl, hb5⟩
        have B5 := hid (below_tr B4.out hb5)
        clear hb5
        go_wp2_with fail
        refine (HIi.out _).mono ?_
        rintro e w' ⟨rfl, e'⟩
        have ew := e'.symm
        clear e'
        subst ew
        go_wp2
        go_ret
        exact ⟨rfl, B5.out⟩
    by_cases hk : k < 1 ∨ 3 < k
    · have eU := breaksP_no (k := k) hm mU hk
      have ea := breaksP_no (k := k) hm ma hk
      exact go _ _ _ _ _ (by unfold holdsP; rw [eU]) (by unfold holdsP; rw [ea]) eU (Or.inl rfl)
    · have eU := breaksP_ok (k := k) hm mU hk
      have ea := breaksP_ok (k := k) hm ma hk
      cases hN : breaksN m k U with
      | none =>
        have hNa := breaks_less (by rw [hU] at hN; exact hN)
        rw [hN] at eU
        rw [hNa] at ea
        exact go true true false 0 0 (by unfold holdsP; rw [eU]; rfl) (by unfold holdsP; rw [ea]; rfl) eU (Or.inr (Or.inl ⟨rfl, rfl, rfl, rfl⟩))
      | some i =>
        rw [hN] at eU
        obtain ⟨h1, h2⟩ := breaks_mem hN
        refine go false (holdsP (m : Int) k a).1 true i 0 (by unfold holdsP; rw [eU]; rfl) ?_ eU (Or.inr (Or.inr ⟨rfl, rfl, rfl, i, rfl, by omega, h2⟩))
        have : (holdsP (m : Int) k a).2 = 0 := by
          unfold holdsP
          rw [ea]
          cases breaksN m k a <;> rfl
        rw [← this]
  · have h0' : (chkE t [a, b] == 0) = false := by simpa using h0
    obtain ⟨r, hr⟩ : ∃ r, r = chkE t [a, b] := ⟨_, rfl⟩
    rw [← hr] at HC h0'
    clear hr h0
    go_enter Tryd.func3, Tryd.ntmps3
    go_wp2_with fail
    refine HK.out.mono ?_
    rintro e w0 ⟨rfl, hb0⟩
    have B0 := hid hb0
    clear hb0
    go_wp2_with fail
    refine (HC.out _).mono ?_
    rintro e w1 ⟨rfl, hb1⟩
    have B1 := hid (below_tr B0.out hb1)
    clear hb1
    go_wp2
    go_ret
    exact ⟨rfl, B1.out⟩
end Go.Proofs.YteadddocmmkbgabDoor.Co
