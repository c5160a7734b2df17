/-
  Same: two rows of the same lines.
-/
import Derived.Test.YtalmcdhohoplpaaDoorWRefTx
namespace Go.Proofs.YtalmcdhohoplpaaDoor
open Go.RowKit

theorem own_le {w : World} {B : Nat} {e : TypeId} {size : Nat} {v : Value} {n : Nat} {xs : List Value} (h : w.ownsRow B e size v n xs) : n ≤ maxLen := by
  rcases h.2 with ⟨_, rfl⟩ | ⟨g, cap, cur, _, _, _, h1, h2, _⟩
  · exact Nat.zero_le _
  · omega
theorem flatW_at {ws : List Wo.Wd} {i : Nat} {x : Wo.Wd} (h : ws[i]? = some x) : (flatW ws)[i * 3]? = some (.string (tx x.1)) ∧ (flatW ws)[i * 3 + 1]? = some (.int .i64 x.2.1) ∧ (flatW ws)[i * 3 + 2]? = some (.int .i64 x.2.2) := by
  induction ws generalizing i with
  | nil => simp at h
  | cons y l ih =>
    cases i with
    | zero =>
      simp at h
      subst h
      simp [flatW, wcl]
    | succ i =>
      have := ih (i := i) (by simpa using h)
      have e : ∀ j, (flatW (y :: l))[(i + 1) * 3 + j]? = (flatW l)[i * 3 + j]? := by
        intro j
        have : (i + 1) * 3 + j = (i * 3 + j) + 3 := by omega
        rw [this]
        simp [flatW, wcl]
      exact ⟨by rw [← Nat.add_zero ((i + 1) * 3), e]; exact this.1, by rw [e]; exact this.2.1, by rw [e]; exact this.2.2⟩

/-- Rows of words in cells that a walk can load: of line i the slice, of its word k the three cells. -/
structure Shown (w : World) (g : Nat) (ls : List (List Wo.Wd)) (G : Nat → Nat) (C : Nat → Nat) : Prop where
  line : ∀ (i : Nat) (x : List Wo.Wd), ls[i]? = some x → 0 < x.length → w.cell? ⟨g, i, none⟩ = some (.slice (some ⟨G i, 0, none⟩) x.length (C i))
  word : ∀ (i : Nat) (x : List Wo.Wd), ls[i]? = some x → 0 < x.length → ∀ (k : Nat) (y : Wo.Wd), x[k]? = some y → w.cell? ⟨G i, k * 3, none⟩ = some (.string (tx y.1)) ∧ w.cell? ⟨G i, k * 3 + 1, none⟩ = some (.int .i64 y.2.1) ∧ w.cell? ⟨G i, k * 3 + 2, none⟩ = some (.int .i64 y.2.2)
theorem LinesAt.shown {w : World} {B : Nat} {v : Value} {ls : List (List Wo.Wd)} (h : LinesAt w B v ls) (h0 : 0 < ls.length) (hne : ∀ x ∈ ls, 0 < x.length) : ∃ g cap G C, v = .slice (some ⟨g, 0, none⟩) ls.length cap ∧ ls.length ≤ maxLen ∧ (∀ x ∈ ls, x.length ≤ maxLen) ∧ Shown w g ls G C := by
  obtain ⟨vs, ho, hl, hi⟩ := h
  obtain ⟨g, cap, rfl, hg, hc⟩ := own_some ho h0
  have key : ∀ i : Nat, ∃ G C : Nat, ∀ x : List Wo.Wd, ls[i]? = some x → vs[i]? = some (Value.slice (some ⟨G, 0, none⟩) x.length C) ∧ x.length ≤ maxLen ∧ ∀ j u, (flatW x)[j]? = some u → w.cell? ⟨G, j, none⟩ = some u := by
    intro i
    cases hx : ls[i]? with
    | none => exact ⟨0, 0, fun x h => by cases h⟩
    | some x =>
      obtain ⟨u, hu, hown⟩ := hi i x hx
      obtain ⟨g2, cap2, rfl, hg2, hc2⟩ := own_some hown (hne x (List.mem_of_getElem? hx))
      refine ⟨g2, cap2, fun y hy => ?_⟩
      cases hy
      exact ⟨hu, own_le hown, hc2⟩
  refine ⟨g, cap, fun i => (key i).choose, fun i => (key i).choose_spec.choose, rfl, own_le ho, ?_, ⟨?_, ?_⟩⟩
  · intro x hx
    obtain ⟨i, hi', rfl⟩ := List.mem_iff_getElem.1 hx
    exact ((key i).choose_spec.choose_spec _ (List.getElem?_eq_getElem hi')).2.1
  · intro i x hx _
    exact hc i _ ((key i).choose_spec.choose_spec x hx).1
  · intro i x hx _ k y hy
    have h3 := ((key i).choose_spec.choose_spec x hx).2.2
    obtain ⟨f1, f2, f3⟩ := flatW_at hy
    exact ⟨h3 _ _ f1, h3 _ _ f2, h3 _ _ f3⟩

theorem drawn_twice (w : World) (a b : Nat) : ∃ m, (w.drewN a).drewN b = w.drewN m := ⟨a + b, by simp only [World.drewN, Nat.add_assoc]⟩

set_option maxHeartbeats 400000 in
theorem Same_none (a1 a2 : Option Addr) (c d : Nat) (w : World) :
    Calls Tryd.prog 12 #[.slice a1 0 c, .slice a2 0 d] w fun e w' => e = .returned (.bool true) ∧ Below w.heap.size w w' := by
  go_enter Tryd.func12, Tryd.ntmps12
  go_wp2
  refine wp_loop_rounds 1 ?_
  rw [rounds_succ]
  go_wp2
  go_ret
  exact ⟨rfl, Below.refl _ _⟩

set_option maxRecDepth 4000 in
set_option maxHeartbeats 4000000 in
theorem Same_some (ls : List (List Wo.Wd)) (g g' c d : Nat) (G C G' C' : Nat → Nat) (w : World) (hn : ls.length ≤ maxLen) (hm : ∀ x ∈ ls, x.length ≤ maxLen) (hne : ∀ x ∈ ls, 0 < x.length) (h1 : Shown w g ls G C) (h2 : Shown w g' ls G' C') :
    Calls Tryd.prog 12 #[.slice (some ⟨g, 0, none⟩) ls.length c, .slice (some ⟨g', 0, none⟩) ls.length d] w fun e w' => e = .returned (.bool true) ∧ Below w.heap.size w w' := by
  unfold maxLen at hn
  have HM := hid hm
  have HNE := hid hne
  have H1 := hid h1
  have H2 := hid h2
  clear hm hne h1 h2
  obtain ⟨n, hnn⟩ : ∃ n, n = ls.length := ⟨_, rfl⟩
  have HN := hid hnn
  rw [← hnn] at hn ⊢
  clear hnn
  have hnb : ((n : Int) != (n : Int)) = false := by simp
  go_enter Tryd.func12, Tryd.ntmps12
  go_wp2
  clear hnb
  go_loopw [5] (fun i wr => ∃ k : Nat, k ≤ n ∧ i = .int .i64 k ∧ Hid (∃ m, wr = w.drewN m)) (fun i _ => n - (intOf i).toNat)
  case atStart => exact ⟨0, Nat.zero_le _, rfl, 0, rfl⟩
  case round =>
    obtain ⟨k, hk, rfl, HW⟩ := hrel
    obtain ⟨m0, rfl⟩ := HW.out
    by_cases hlt : k < n
    · have hlt' : k < ls.length := by rw [← HN.out]; exact hlt
      obtain ⟨x, hx⟩ : ∃ x, ls[k]? = some x := ⟨_, List.getElem?_eq_getElem hlt'⟩
      have hxm := HM.out x (List.mem_of_getElem? hx)
      have hx0 := HNE.out x (List.mem_of_getElem? hx)
      unfold maxLen at hxm
      have c1 := H1.out.line k x hx hx0
      have c2 := H2.out.line k x hx hx0
      obtain ⟨xl, hxl⟩ : ∃ xl, xl = x.length := ⟨_, rfl⟩
      rw [← hxl] at c1 c2 hxm hx0
      have HXL := hid hxl
      have HX := hid hx
      clear hx hxl
      have hkI : (0 : Int) ≤ (k : Int) := by omega
      have hkI2 : (k : Int) < (n : Int) := by omega
      have hxb : ((xl : Int) != (xl : Int)) = false := by simp
      go_wp2
      go_quiet (fail)
      go_wp2
      clear hxb
      go_loopw [6] (fun j wr => ∃ i : Nat, i ≤ xl ∧ j = .int .i64 i ∧ Hid (∃ m, wr = w.drewN m)) (fun j _ => xl - (intOf j).toNat)
      case atStart => exact ⟨0, Nat.zero_le _, rfl, drawn_twice _ _ _⟩
      case round =>
        obtain ⟨i, hi, rfl, HW2⟩ := hrel
        obtain ⟨m1, rfl⟩ := HW2.out
        by_cases hil : i < xl
        · obtain ⟨y, hy⟩ : ∃ y, x[i]? = some y := ⟨_, List.getElem?_eq_getElem (by rw [← HXL.out]; exact hil)⟩
          obtain ⟨p0, p1, p2⟩ := H1.out.word k x HX.out (by rw [← HXL.out]; exact hx0) i y hy
          obtain ⟨r0, r1, r2⟩ := H2.out.word k x HX.out (by rw [← HXL.out]; exact hx0) i y hy
          clear hy
          have hiI : (0 : Int) ≤ (i : Int) := by omega
          have hiI2 : (i : Int) < (xl : Int) := by omega
          go_wp2
          go_quiet (fail)
          go_wp2
          go_roundw
          case rel => exact ⟨i + 1, by omega, by go_num, _, rfl⟩
          case measure => simp [intOf]; omega
        · go_wp2
          go_roundw
          case rel => exact ⟨k + 1, by omega, by go_num, _, rfl⟩
          case measure => simp [intOf]; omega
    · go_wp2
      go_ret
      exact ⟨rfl, below_drewN (Below.refl _ _)⟩

theorem Same_any (v1 v2 : Value) (ls : List (List Wo.Wd)) (B1 B2 : Nat) (w : World) (hne : ∀ x ∈ ls, 0 < x.length) (h1 : LinesAt w B1 v1 ls) (h2 : LinesAt w B2 v2 ls) :
    Calls Tryd.prog 12 #[v1, v2] w fun e w' => e = .returned (.bool true) ∧ Below w.heap.size w w' := by
  by_cases h0 : 0 < ls.length
  · obtain ⟨g, c, G, C, rfl, hn, hm, s1⟩ := h1.shown h0 hne
    obtain ⟨g', d, G', C', rfl, _, _, s2⟩ := h2.shown h0 hne
    exact Same_some ls g g' c d G C G' C' w hn hm hne s1 s2
  · have : ls = [] := List.length_eq_zero_iff.1 (by omega)
    subst this
    obtain ⟨a1, c1, rfl⟩ := h1.form
    obtain ⟨a2, c2, rfl⟩ := h2.form
    exact Same_none a1 a2 c1 c2 w

theorem rd_ne (ls : List (List UInt8)) (n : Nat) : ∀ x ∈ (Wo.rd ls n).1, 0 < x.length := by
  induction ls generalizing n with
  | nil => intro x hx; exact absurd hx (by simp [Wo.rd])
  | cons l ls ih =>
    intro x hx
    cases h : (Wo.tk l 1).2 with
    | some c => rw [Wo.rd_fault h] at hx; exact absurd hx (by simp)
    | none =>
      by_cases hz : (Wo.tk l 1).1 = []
      · rw [Wo.rd_none h hz] at hx; exact ih _ x hx
      · rw [Wo.rd_some h hz] at hx
        rcases List.mem_cons.1 hx with rfl | hx
        · simp only [Wo.wds, List.length_map]
          exact List.length_pos_iff.2 hz
        · exact ih _ x hx
theorem read_ne (s : List UInt8) : ∀ x ∈ Wo.read s, 0 < x.length := by
  unfold Wo.read
  split
  · exact rd_ne _ _
  · intro x hx; exact absurd hx (by simp)
end Go.Proofs.YtalmcdhohoplpaaDoor
