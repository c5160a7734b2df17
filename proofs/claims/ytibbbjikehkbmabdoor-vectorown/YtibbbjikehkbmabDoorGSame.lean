/-
  Same: slices.Equal of stamps, and the document's.
-/
import Derived.Test.YtibbbjikehkbmabDoorGDev
namespace Go.Proofs.YtibbbjikehkbmabDoor.Ve
open Go.RowKit

theorem stampNe (d d' u u' : Int) (w : World) : (binOp .neq 33 (.agg #[.int .i64 d, .int .u64 u]) (.agg #[.int .i64 d', .int .u64 u'])).run Tryd.prog w = .ok (.bool (!decide (d = d' ∧ u = u'))) w := by
  by_cases h1 : d = d' <;> by_cases h2 : u = u' <;> simp [go_sem, h1, h2]
theorem stampEq (d d' u u' : Int) (w : World) : (binOp .eql 33 (.agg #[.int .i64 d, .int .u64 u]) (.agg #[.int .i64 d', .int .u64 u'])).run Tryd.prog w = .ok (.bool (decide (d = d' ∧ u = u'))) w := by
  by_cases h1 : d = d' <;> by_cases h2 : u = u' <;> simp [go_sem, h1, h2]
theorem drew_more {w : World} {m : World} (h : ∃ n, m = w.drewN n) {k : Nat} : ∃ n, m.drewN k = w.drewN n := by
  obtain ⟨n, rfl⟩ := h
  exact ⟨_, World.drewN_drewN _ _ _⟩
theorem rows_eq {xs ys : List St} {n : Nat} (h1 : n = xs.length) (h2 : n = ys.length) (h : ∀ i, i < n → xs[i]? = ys[i]?) : xs = ys := by
  apply List.ext_getElem?
  intro i
  by_cases q : i < n
  · exact h i q
  · rw [List.getElem?_eq_none (by omega), List.getElem?_eq_none (by omega)]
theorem st_eq {x y : St} : ((x.1 = y.1 ∧ (x.2 : Int) = (y.2 : Int)) ↔ x = y) := by
  obtain ⟨a, b⟩ := x
  obtain ⟨c, d⟩ := y
  simp only [Prod.mk.injEq]
  omega

set_option maxRecDepth 20000 in
set_option maxHeartbeats 2000000 in
theorem RSame_any {w : World} {v1 v2 : Value} {xs ys : List St} (h1 : VecV w v1 xs) (h2 : VecV w v2 ys) (hn : xs.length ≤ maxLen) (hm : ys.length ≤ maxLen) :
    Calls Tryd.prog 8 #[v1, v2] w fun e w' => e = .returned (.bool (decide (xs = ys))) ∧ ∃ n, w' = w.drewN n := by
  obtain ⟨a1, c1, rfl, -, -, r1⟩ := h1
  obtain ⟨a2, c2, rfl, -, -, r2⟩ := h2
  have HR1 := hid r1
  have HR2 := hid r2
  obtain ⟨n, hnn⟩ : ∃ n, n = xs.length := ⟨_, rfl⟩
  obtain ⟨m, hmm⟩ : ∃ m, m = ys.length := ⟨_, rfl⟩
  have HN := hid hnn
  have HM := hid hmm
  rw [← hnn] at hn ⊢
  rw [← hmm] at hm ⊢
  unfold maxLen at hn hm
  clear r1 r2 hnn hmm
  by_cases hq : n = m
  · subst hq
    have hne : ((n : Int) != (n : Int)) = false := by simp
    go_enter Tryd.func8, Tryd.ntmps8
    go_wp2_with fail
    go_loopw [5] (fun i wr => ∃ k : Nat, k ≤ n ∧ i = .int .i64 k ∧ Hid (∀ i, i < k → xs[i]? = ys[i]?) ∧ Hid (∃ m, wr = w.drewN m)) (fun i _ => n - (intOf i).toNat)
    case atStart => exact ⟨0, Nat.zero_le _, rfl, hid fun i h => absurd h (Nat.not_lt_zero _), hid ⟨0, rfl⟩⟩
    case round =>
      obtain ⟨k, hk, rfl, hA, hB⟩ := hrel
      by_cases hlt : k < n
      · obtain ⟨x, hx⟩ : ∃ x, xs[k]? = some x := ⟨_, List.getElem?_eq_getElem (by have := HN.out; omega)⟩
        obtain ⟨y, hy⟩ : ∃ y, ys[k]? = some y := ⟨_, List.getElem?_eq_getElem (by have := HM.out; omega)⟩
        obtain ⟨g, o, rfl, hg, hc⟩ := HR1.out.resolve_left (fun e => by rw [e] at hx; simp at hx)
        obtain ⟨g', o', rfl, hg', hc'⟩ := HR2.out.resolve_left (fun e => by rw [e] at hy; simp at hy)
        have e0 : wr.heap = w.heap := by obtain ⟨m, hm⟩ := hB.out; rw [hm]; rfl
        obtain ⟨d0, d1⟩ := hc k _ hx
        obtain ⟨d2, d3⟩ := hc' k _ hy
        have y0 := (World.cell?_of_block (w' := wr) (a := ⟨g, o + k * 2, none⟩) (by rw [e0])).trans d0
        have y1 := (World.cell?_of_block (w' := wr) (a := ⟨g, o + k * 2 + 1, none⟩) (by rw [e0])).trans d1
        have y2 := (World.cell?_of_block (w' := wr) (a := ⟨g', o' + k * 2, none⟩) (by rw [e0])).trans d2
        have y3 := (World.cell?_of_block (w' := wr) (a := ⟨g', o' + k * 2 + 1, none⟩) (by rw [e0])).trans d3
        have kI : (k : Int) < (n : Int) := by omega
        have k0 : (0 : Int) ≤ (k : Int) := by omega
        have HX := hid hx
        have HY := hid hy
        have hNE := fun w : World => stampNe x.1 y.1 (x.2 : Int) (y.2 : Int) w
        obtain ⟨a, b⟩ := x
        obtain ⟨a', b'⟩ := y
        simp only at y0 y1 y2 y3 hNE
        clear hx hy hc hc' e0 d0 d1 d2 d3
        by_cases e : (a, b) = (a', b')
        · have HA2 := hid (show ∀ i, i < k + 1 → xs[i]? = ys[i]? from fun i hi => by
            by_cases q : i = k
            · rw [q, HX.out, HY.out, e]
            · exact hA.out i (by omega))
          have e1 : (!decide (a = a' ∧ (b : Int) = (b' : Int))) = false := by rw [decide_eq_true (st_eq.2 e)]; rfl
          simp only [e1] at hNE
          clear e e1
          go_wp2_with fail
          go_quiet (fail)
          go_wp2
          go_roundw
          case rel => exact ⟨k + 1, by omega, by go_num, HA2, hid (drew_more hB.out)⟩
          case measure => simp [intOf]; omega
        · have e1 : (!decide (a = a' ∧ (b : Int) = (b' : Int))) = true := by rw [decide_eq_false (fun q => e (st_eq (x := (a, b)) (y := (a', b')) |>.1 q))]; rfl
          have HE := hid (show decide (xs = ys) = false from decide_eq_false (fun q => e (by
            have h1 := HX.out
            rw [q, HY.out] at h1
            injection h1 with h1
            exact h1.symm)))
          simp only [e1] at hNE
          clear e e1
          go_wp2_with fail
          go_quiet (fail)
          go_wp2
          go_ret
          exact ⟨by rw [HE.out]; rfl, drew_more hB.out⟩
      · have hkn : k = n := by omega
        have HE := hid (show decide (xs = ys) = true from decide_eq_true (rows_eq HN.out HM.out (fun i hi => hA.out i (by omega))))
        go_wp2
        go_ret
        exact ⟨by rw [HE.out]; rfl, hB.out⟩
  · have HE := hid (show decide (xs = ys) = false from decide_eq_false (fun q => hq (by rw [HN.out, HM.out, q])))
    have hne : ((n : Int) != (m : Int)) = true := by rw [bne_iff_ne]; omega
    have hne2 : (n != m) = true := by rw [bne_iff_ne]; exact hq
    go_enter Tryd.func8, Tryd.ntmps8
    go_wp2
    go_ret
    exact ⟨by rw [HE.out]; rfl, 0, rfl⟩
end Go.Proofs.YtibbbjikehkbmabDoor.Ve
