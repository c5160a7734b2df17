/-
  Counts: the document's own List, Breaks, Holds.
-/
import Derived.Test.YteadddocmmkbgaaDoorKRefB
import Derived.Test.YteadddocmmkbgaaDoorKListB
namespace Go.Proofs.YteadddocmmkbgaaDoor.Co
open Go.RowKit Go.Shelf

theorem Rright_any {t i : Nat} (k : Int) (w : World) : Calls Tryd.prog 40 #[.int .i64 (t : Int), .int .i64 k, .int .i64 (i : Int)] w fun e w' => e = .returned (.bool (holdsB t k i)) ∧ w' = w := by
  by_cases h1 : k = 1
  · subst h1
    go_enter Tryd.func40, Tryd.ntmps40
    go_wp2
    go_ret
    refine ⟨?_, rfl⟩
    show Ending.returned (Value.bool ((i : Int) == (t : Int))) = _
    congr 2
    unfold holdsB
    rw [if_pos rfl, Bool.eq_iff_iff, beq_iff_eq, decide_eq_true_iff]
    omega
  · by_cases h2 : k = 2
    · subst h2
      go_enter Tryd.func40, Tryd.ntmps40
      go_wp2
      go_ret
      exact ⟨rfl, rfl⟩
    · go_enter Tryd.func40, Tryd.ntmps40
      go_wp2
      go_ret
      refine ⟨?_, rfl⟩
      show Ending.returned (Value.bool (decide (t ≤ i))) = _
      rw [holdsB, if_neg h1, if_neg h2]
theorem one_cs (w : World) (c : Nat) : CsIn (w.alloc (.cells #[.int .u64 (c : Int)] 24)) (some ⟨w.heap.size, 0, none⟩) [c] := one_in (Boxed.new _ _ _)
theorem below_alloc1 (w : World) (o : Obj) : Below w.heap.size w (w.alloc o) := (Below.refl _ w).alloc (Nat.le_refl _) _
/-- What breaks, as far as the elements below j go. -/
theorem find_upTo {c j : Nat} {p : Nat → Bool} (h : ∀ i ∈ upTo c j, p i = false) (hc : c.testBit j = true) (hp : p j = true) {m : Nat} (hm : j < m) : (upTo c m).find? p = some j := by
  obtain ⟨r, hr⟩ := upTo_pre (c := c) (k := j + 1) (m := m) (by omega)
  rw [← hr, upTo_succ, if_pos hc, List.append_assoc, List.find?_append, List.find?_eq_none.2 (by intro x hx; simp [h x hx])]
  simp [hp]

set_option maxRecDepth 100000 in
set_option maxHeartbeats 2000000 in
theorem RBreaks_any {t k : Int} {c : Nat} {w : World} (h64 : c < 18446744073709551616) :
    Calls Tryd.prog 24 #[.int .i64 t, .int .i64 k, .int .u64 (c : Int)] w fun e w' => e = .returned (.tuple #[.int .i64 (breaksP t k c).1, .bool (breaksP t k c).2.1, .int .i64 (breaksP t k c).2.2]) ∧ Below w.heap.size w w' := by
  have HC := hid (RCheck_any (t := t) (cap := 1) (n := 1) (l := [c]) rfl (by omega) (one_cs w c) (by simpa using h64))
  have HB := hid (below_alloc1 w (.cells #[.int .u64 (c : Int)] 24))
  by_cases h0 : chkE t [c] = 0
  · have hr := chk_range h0
    obtain ⟨m, rfl⟩ : ∃ m : Nat, t = (m : Int) := ⟨t.toNat, by omega⟩
    have hm : m ≤ 62 := by omega
    rw [h0] at HC
    by_cases hk : k < 1 ∨ 3 < k
    · have HR := hid (show breaksP m k c = (0, false, 81) by unfold breaksP; rw [if_pos h0, if_pos hk])
      rcases Int.lt_or_le k 1 with hk1 | hk1
      · go_enter Tryd.func24, Tryd.ntmps24
        go_wp2_with fail
        refine HC.out.mono ?_
        rintro e w1 ⟨rfl, rfl⟩
        go_wp2
        go_ret3
        exact ⟨by rw [HR.out]; rfl, HB.out⟩
      · have hk3 : 3 < k := by omega
        go_enter Tryd.func24, Tryd.ntmps24
        go_wp2_with fail
        refine HC.out.mono ?_
        rintro e w1 ⟨rfl, rfl⟩
        go_wp2
        go_ret3
        exact ⟨by rw [HR.out]; rfl, HB.out⟩
    · have HR := hid (show breaksP m k c = match breaksN m k c with | some i => ((i : Int), true, 0) | none => (0, false, 0) by unfold breaksP; rw [if_pos h0, if_neg hk]; rfl)
      have hk1 : ¬ k < 1 := by omega
      have hk3 : ¬ 3 < k := by omega
      go_enter Tryd.func24, Tryd.ntmps24
      go_wp2_with fail
      refine HC.out.mono ?_
      rintro e w1 ⟨rfl, rfl⟩
      go_wp2_with fail
      go_loopw [10] (fun i wr => ∃ j : Nat, j ≤ m + 2 ∧ i = .int .i64 (j : Int) ∧ Hid (Below w.heap.size w wr ∧ ∀ x ∈ upTo c j, (!holdsB m k x) = false)) (fun i _ => m + 2 - (intOf i).toNat)
      case atStart => exact ⟨0, Nat.zero_le _, rfl, HB.out, fun x hx => by cases hx⟩
      case round =>
        obtain ⟨j, hj, rfl, HJ⟩ := hrel
        by_cases hlt : j < m + 2
        · have HI := hid (RIn_any (c := c) (i := j) (by omega) h64 wr)
          have HX := hid (Rright_any (t := m) (i := j) k wr)
          have hjI : (j : Int) ≤ (m : Int) + 1 := by omega
          have hjN : j ≤ m + 1 := by omega
          rcases bool_two (c.testBit j) with hb | hb
          · rw [hb] at HI
            go_wp2_with fail
            refine HI.out.mono ?_
            rintro e w' ⟨rfl, e'⟩
            have ew := e'.symm
            clear e'
            subst ew
            go_wp2
            go_roundw
            case rel => exact ⟨j + 1, by omega, by simp, HJ.out.1, by rw [upTo_succ, hb]; exact HJ.out.2⟩
            case measure => simp [intOf]; omega
          · rw [hb] at HI
            rcases bool_two (holdsB m k j) with hh | hh
            · rw [hh] at HX
              have HF := hid (show breaksN m k c = some j from find_upTo (p := fun i => !holdsB m k i) HJ.out.2 hb (by simp [hh]) hlt)
              rw [HF.out] at HR
              go_wp2_with fail
              refine HI.out.mono ?_
              rintro e w' ⟨rfl, e'⟩
              have ew := e'.symm
              clear e'
              subst ew
              go_wp2_with fail
              refine HX.out.mono ?_
              rintro e w' ⟨rfl, e'⟩
              have ew := e'.symm
              clear e'
              subst ew
              go_wp2
              go_ret3
              exact ⟨by rw [HR.out]; rfl, HJ.out.1⟩
            · rw [hh] at HX
              go_wp2_with fail
              refine HI.out.mono ?_
              rintro e w' ⟨rfl, e'⟩
              have ew := e'.symm
              clear e'
              subst ew
              go_wp2_with fail
              refine HX.out.mono ?_
              rintro e w' ⟨rfl, e'⟩
              have ew := e'.symm
              clear e'
              subst ew
              go_wp2
              go_roundw
              case rel => exact ⟨j + 1, by omega, by simp, HJ.out.1, by
                rw [upTo_succ, if_pos hb]
                intro x hx
                rcases List.mem_append.1 hx with hx | hx
                · exact HJ.out.2 x hx
                · rw [List.mem_singleton.1 hx, hh]; rfl⟩
              case measure => simp [intOf]; omega
        · have hje : j = m + 2 := by omega
          have hjI : ¬ (j : Int) ≤ (m : Int) + 1 := by omega
          have hjN : ¬ j ≤ m + 1 := by omega
          have HF := hid (show breaksN m k c = none by
            unfold breaksN
            have e : els m c = upTo c (m + 2) := rfl
            rw [e, ← hje, List.find?_eq_none]
            intro x hx
            rw [HJ.out.2 x hx]
            simp)
          rw [HF.out] at HR
          clear hje
          go_wp2
          go_ret3
          exact ⟨by rw [HR.out]; rfl, HJ.out.1⟩
  · have h0' : (chkE t [c] == 0) = false := by simpa using h0
    have HR := hid (show breaksP t k c = (0, false, chkE t [c]) by unfold breaksP; rw [if_neg h0])
    clear h0
    go_enter Tryd.func24, Tryd.ntmps24
    go_wp2_with fail
    refine HC.out.mono ?_
    rintro e w1 ⟨rfl, rfl⟩
    go_wp2
    go_ret3
    exact ⟨by rw [HR.out]; rfl, HB.out⟩
set_option maxRecDepth 100000 in
set_option maxHeartbeats 1000000 in
theorem RHolds_any {t k : Int} {c : Nat} {w : World} (h64 : c < 18446744073709551616) :
    Calls Tryd.prog 22 #[.int .i64 t, .int .i64 k, .int .u64 (c : Int)] w fun e w' => e = .returned (.tuple #[.bool (holdsP t k c).1, .int .i64 (holdsP t k c).2]) ∧ Below w.heap.size w w' := by
  have HB := hid (RBreaks_any (t := t) (k := k) (w := w) h64)
  have HR := hid (show holdsP t k c = (!(breaksP t k c).2.1 && decide ((breaksP t k c).2.2 = 0), (breaksP t k c).2.2) from rfl)
  obtain ⟨p, hp⟩ : ∃ p, p = breaksP t k c := ⟨_, rfl⟩
  rw [← hp] at HB HR
  clear hp
  obtain ⟨p1, p2, p3⟩ := p
  simp only at HB HR
  by_cases he : p3 = 0
  · subst he
    go_enter Tryd.func22, Tryd.ntmps22
    go_wp2_with fail
    refine HB.out.mono ?_
    rintro e w1 ⟨rfl, hb1⟩
    go_wp2
    go_ret2
    exact ⟨by rw [HR.out]; simp, hb1⟩
  · have he' : (p3 == 0) = false := by simpa using he
    go_enter Tryd.func22, Tryd.ntmps22
    go_wp2_with fail
    refine HB.out.mono ?_
    rintro e w1 ⟨rfl, hb1⟩
    go_wp2
    go_ret2
    exact ⟨by rw [HR.out, decide_eq_false he, Bool.and_false]; rfl, hb1⟩

/-- Behind an append to a row of one's own what lay ahead of it lies as it lay. -/
theorem row_below {n₀ : Nat} {W w2 : World} {e : TypeId} {size : Nat} {v : Value} {n : Nat} {xs : List Value} {o : Obj} (h : W.ownsRow n₀ e size v n xs) (hg : (W.alloc o).grownBy w2 v.ownBlock) (hn : n₀ ≤ W.heap.size) : Below n₀ W w2 := by
  refine ((Below.refl n₀ W).alloc hn o).grown hg (by simp; omega) fun j ej => ?_
  rcases h.2 with ⟨rfl, _⟩ | ⟨g, cap, cur, rfl, hb, _⟩
  · simp [Value.ownBlock] at ej
  · obtain rfl : g = j := by simpa [Value.ownBlock] using ej
    exact hb

set_option maxRecDepth 100000 in
set_option maxHeartbeats 2000000 in
theorem RList_any {t : Int} {c : Nat} {w : World} (h64 : c < 18446744073709551616) :
    Calls Tryd.prog 12 #[.int .i64 t, .int .u64 (c : Int)] w fun e w' => ∃ v, e = .returned (.tuple #[v, .int .i64 (listP t c).2]) ∧ IntsV w' v (listP t c).1 ∧ Below w.heap.size w w' := by
  have HC := hid (RCheck_any (t := t) (cap := 1) (n := 1) (l := [c]) rfl (by omega) (one_cs w c) (by simpa using h64))
  have HB := hid (below_alloc1 w (.cells #[.int .u64 (c : Int)] 24))
  obtain ⟨i0, hi, hz0, hz1, hz2⟩ := info_parts Tryd.infoInt
  by_cases h0 : chkE t [c] = 0
  · have HR := hid (show listP t c = ((els t.toNat c).map (fun (n : Nat) => (n : Int)), 0) by unfold listP; rw [if_pos h0])
    have hr := chk_range h0
    rw [h0] at HC
    obtain ⟨m, rfl⟩ : ∃ m : Nat, t = (m : Int) := ⟨t.toNat, by omega⟩
    have hm : m ≤ 62 := by omega
    go_enter Tryd.func12, Tryd.ntmps12
    go_wp2_with fail
    refine HC.out.mono ?_
    rintro e w1 ⟨rfl, rfl⟩
    go_wp2_with fail
    go_loopw [8, 7] (fun i v wr => ∃ j : Nat, j ≤ m + 2 ∧ i = .int .i64 (j : Int) ∧ Hid (wr.ownsRow w.heap.size 3 1 v (upTo c j).length (((upTo c j).map (fun (n : Nat) => (n : Int))).map (Value.int .i64)) ∧ Below w.heap.size w wr)) (fun i _ _ => m + 2 - (intOf i).toNat)
    case atStart => exact ⟨0, Nat.zero_le _, rfl, World.ownsRow_nil _ _ _ _, HB.out⟩
    case round =>
      obtain ⟨j, hj, rfl, HJ⟩ := hrel
      by_cases hlt : j < m + 2
      · have HI := hid (RIn_any (c := c) (i := j) (by omega) h64 wr)
        have hjI : (j : Int) ≤ (m : Int) + 1 := by omega
        have hjN : j ≤ m + 1 := by omega
        have hlen := upTo_len c j
        have hsz := HJ.out.2.size
        rcases bool_two (c.testBit j) with hb | hb
        · rw [hb] at HI
          go_wp2_with fail
          refine HI.out.mono ?_
          rintro e w' ⟨rfl, e'⟩
          have ew := e'.symm
          clear e'
          subst ew
          go_wp2
          go_roundw
          case rel => exact ⟨j + 1, by omega, by simp, by rw [upTo_succ, hb]; exact HJ.out⟩
          case measure => simp [intOf]; omega
        · rw [hb] at HI
          go_wp2_with fail
          refine HI.out.mono ?_
          rintro e w' ⟨rfl, e'⟩
          have ew := e'.symm
          clear e'
          subst ew
          go_wp2_with (at_builtin; refine wpList_append_own _ rfl _ _ 22 rfl w.heap.size 3 i0 (.int .i64 0) 1 8 Tryd.underlying22 hi hz0 hz1 hz2 rfl (by decide) _ _ _ rfl (HJ.out.1.alloc _) ⟨wr.heap.size, 0, none⟩ 1 1 [.int .i64 (j : Int)] rfl rfl (cell_one_new _ _ _) (by simp [Value.oneCell']) (by simp [maxLen]; omega) (by omega) (by simp; omega) ?_; intro v' w2 hown' hgrow _; have HO := hid hown'; have HG := hid hgrow; clear hown' hgrow)
          go_roundw
          case rel =>
            refine ⟨j + 1, by omega, by simp, ?_, ?_⟩
            · rw [upTo_succ, if_pos hb, List.length_append, List.map_append, List.map_append]
              exact HO.out
            · exact HJ.out.2.trans (row_below HJ.out.1 HG.out hsz)
          case measure => simp [intOf]; omega
      · have hje : j = m + 2 := by omega
        have hjI : ¬ (j : Int) ≤ (m : Int) + 1 := by omega
        have hjN : ¬ j ≤ m + 1 := by omega
        have HF := hid (show upTo c j = els m c by rw [hje]; rfl)
        clear hje
        go_wp2
        go_ret2
        refine ⟨_, by rw [HR.out]; rfl, ?_, HJ.out.2⟩
        rw [HR.out, show ((m : Int).toNat) = m from rfl, ← HF.out]
        exact ints_of_row HJ.out.1
  · have h0' : (chkE t [c] == 0) = false := by simpa using h0
    have HR := hid (show listP t c = ([], chkE t [c]) by unfold listP; rw [if_neg h0])
    clear h0
    go_enter Tryd.func12, Tryd.ntmps12
    go_wp2_with fail
    refine HC.out.mono ?_
    rintro e w1 ⟨rfl, rfl⟩
    go_wp2
    go_ret2
    exact ⟨.slice none 0 0, by rw [HR.out]; rfl, by rw [HR.out]; exact ⟨none, 0, rfl, Or.inl rfl⟩, HB.out⟩
end Go.Proofs.YteadddocmmkbgaaDoor.Co
