/-
  The law BddRefs: the walk.
-/
import Derived.Test.YtplmpielmppcaaaBLRefs
namespace Go.Proofs.Ytplmpielmppcaaa
open Go.RowKit Go.Maps

/-- What the law asks once the cubes are made: each call fails, and the table keeps its nodes. -/
theorem ask_and {B : Nat} {w0 w : World} {tb n : Nat} {bad : Int} (h : Asked B w0 w tb n bad) : Calls Try.prog 9 #[.pointer (some ⟨tb, 0, none⟩), .slice (some ⟨w.heap.size, 0, none⟩) 2 2] (w.alloc (.cells #[.int .i64 1, .int .i64 bad] 23)) fun e w' => ∃ r, e = .returned (.tuple #[r, .int .i64 22]) ∧ Asked B w0 w' tb n bad := by
  have h1 := h.below ((Below.refl _ _).alloc (Nat.le_refl _) (.cells #[.int .i64 1, .int .i64 bad] 23))
  refine (And_err _ (fun w1 hb => (h1.below hb).ans _ [1, bad] 1 ((ints_new w [1, bad]).below hb) (first_bad1 bad 1 (Or.inr rfl)))).mono ?_
  rintro e w' ⟨r, rfl, hb⟩
  exact ⟨r, rfl, h1.below hb⟩
theorem ask_or {B : Nat} {w0 w : World} {tb n : Nat} {bad : Int} (h : Asked B w0 w tb n bad) : Calls Try.prog 10 #[.pointer (some ⟨tb, 0, none⟩), .slice (some ⟨w.heap.size, 0, none⟩) 2 2] (w.alloc (.cells #[.int .i64 bad, .int .i64 1] 23)) fun e w' => ∃ r, e = .returned (.tuple #[r, .int .i64 22]) ∧ Asked B w0 w' tb n bad := by
  have h1 := h.below ((Below.refl _ _).alloc (Nat.le_refl _) (.cells #[.int .i64 bad, .int .i64 1] 23))
  refine (Or_err _ (fun w1 hb => (h1.below hb).ans _ [bad, 1] 0 ((ints_new w [bad, 1]).below hb) (first_bad0 bad 1))).mono ?_
  rintro e w' ⟨r, rfl, hb⟩
  exact ⟨r, rfl, h1.below hb⟩
theorem ask_keep {B : Nat} {w0 w : World} {tb n : Nat} {bad : Int} (h : Asked B w0 w tb n bad) : Calls Try.prog 19 #[.pointer (some ⟨tb, 0, none⟩), .slice (some ⟨w.heap.size, 0, none⟩) 1 1] (w.alloc (.cells #[.int .i64 bad] 23)) fun e w' => ∃ r, e = .returned (.tuple #[r, .int .i64 22]) ∧ Asked B w0 w' tb n bad := by
  have h1 := h.below ((Below.refl _ _).alloc (Nat.le_refl _) (.cells #[.int .i64 bad] 23))
  refine (h1.keep _ (ints_new w [bad])).mono ?_
  rintro e w' ⟨r, rfl, hb⟩
  exact ⟨r, rfl, h1.below hb⟩

set_option maxRecDepth 8000 in
set_option maxHeartbeats 20000000 in
theorem refs_any (bits bad : Int) (a0 : Option Addr) (len cap : Nat) (ss : List ByteArray) (w : World) (hv : Came w a0 len cap ss) (hw : bad ≤ 9223372036854775807) :
    Calls Try.prog 4 #[.int .i64 bits, .slice a0 len cap, .int .i64 bad] w fun e w' => e = .returned (.bool true) ∧ Below w.heap.size w w' := by
  have HV := keep hv
  have HWF := keep hw
  clear hv hw
  by_cases hok : 1 ≤ bits ∧ bits ≤ 128
  · obtain ⟨nb, rfl⟩ : ∃ nb : Nat, bits = (nb : Int) := ⟨bits.toNat, by omega⟩
    have h1 : 1 ≤ nb := by omega
    have h2 : nb ≤ 128 := by omega
    have H12 := keep (And.intro h1 h2)
    clear hok h1 h2
    go_enter Try.func4, Try.ntmps4
    go_wp2_with fail
    refine (refs_new w nb H12.out.1 H12.out.2 (refFam nb ss) bad).mono ?_
    rintro e w1 ⟨tb, rfl, h1⟩
    have H1 := keep h1
    clear h1
    go_wp2_with fail
    refine (awake_any w1).mono ?_
    rintro e w2 ⟨rfl, hb2⟩
    have HB2 := keep hb2
    clear hb2
    have HK : Hid (∀ kn : Bool, (kn = false → bad ≠ 0 ∧ bad ≠ 1) → Refs w.heap.size w w2 tb nb (refFam nb ss) bad 0 kn) := fun kn h => (H1.out kn h).below HB2.out
    have ways : (bad == 0) = true ∨ ((bad == 0) = false ∧ (bad == 1) = true) ∨ ((bad == 0) = false ∧ (bad == 1) = false) := by
      cases (bad == 0) <;> cases (bad == 1) <;> simp
    have start : ∃ kn : Bool, kn = (bad == 0 || bad == 1) ∧ Hid (Refs w.heap.size w w2 tb nb (refFam nb ss) bad 0 kn) := ⟨_, rfl, HK.out _ (fun h => by simpa using h)⟩
    obtain ⟨kn0, hkn0, S0⟩ := start
    clear H1 HB2 HK
    rcases ways with e0 | ⟨e0, e1⟩ | ⟨e0, e1⟩
    all_goals (
      simp only [e0, Bool.true_or, Bool.false_or] at hkn0
      try simp only [e1] at hkn0
      subst hkn0
      go_wp2
      clear e0
      try clear e1
      go_loopw [9, 10] (fun u i wr => ∃ (k : Nat) (kn : Bool), k ≤ 30 ∧ u = .bool kn ∧ i = .int .i64 k ∧ Hid (Refs w.heap.size w wr tb nb (refFam nb ss) bad k kn)) (fun _ i _ => 30 - (intOf i).toNat)
      case atStart => exact ⟨0, _, by omega, rfl, rfl, S0⟩
      case round =>
        clear S0
        obtain ⟨k, kn, hk, rfl, rfl, H⟩ := hrel
        by_cases hin : k < len ∧ k < 30
        · obtain ⟨g, o, hg, hgl, hc, hks⟩ := text_of HV.out hin.1
          have hcr : wr.cell? ⟨g, o + k, none⟩ = some (.string (ss.getD k ByteArray.empty)) := by
            obtain ⟨_, _, _, _, _, _, _, _, hb, _, _⟩ := H.out.ex
            rw [hb.cell hgl]; exact hc
          have Q := keep (refs_cube H12.out.2 H.out hin.2 hks)
          subst hg
          have hkl : (k : Int) < (len : Int) := by omega
          have hk30 : (k : Int) < 30 := by omega
          have hk0 : (0 : Int) ≤ (k : Int) := by omega
          have HIN := keep hin
          clear hin hc hgl hks H
          generalize ss.getD k ByteArray.empty = t at hcr Q
          go_wp2_with fail
          refine Q.out.mono ?_
          rintro e w3 (⟨r, rfl, h⟩ | ⟨rfl, h⟩)
          · have HR := keep h
            clear h Q hcr
            cases kn
            · cases hrb : ((r : Int) == bad)
              · go_wp2
                go_roundw
                case rel => exact ⟨k + 1, false, by have := HIN.out; omega, rfl, by go_num, HR.out false (fun _ => ⟨by trivial, by simpa using hrb⟩)⟩
                case measure => have := HIN.out; simp [intOf]; omega
              · go_wp2
                go_roundw
                case rel => exact ⟨k + 1, true, by have := HIN.out; omega, rfl, by go_num, HR.out true (fun h => by cases h)⟩
                case measure => have := HIN.out; simp [intOf]; omega
            · go_wp2
              go_roundw
              case rel => exact ⟨k + 1, true, by have := HIN.out; omega, rfl, by go_num, HR.out true (fun h => by cases h)⟩
              case measure => have := HIN.out; simp [intOf]; omega
          · have HR := keep h
            clear h Q hcr
            cases kn
            · go_wp2
              go_roundw
              case rel => exact ⟨k + 1, false, by have := HIN.out; omega, rfl, by go_num, HR.out⟩
              case measure => have := HIN.out; simp [intOf]; omega
            · go_wp2
              go_roundw
              case rel => exact ⟨k + 1, true, by have := HIN.out; omega, rfl, by go_num, HR.out⟩
              case measure => have := HIN.out; simp [intOf]; omega
        · have out : (¬ (k : Int) < (len : Int)) ∨ ((k : Int) < (len : Int) ∧ ¬ (k : Int) < 30) := by omega
          clear hin
          cases kn
          · obtain ⟨n, ha⟩ := H.out.asked HWF.out
            have A0 := keep ha
            clear ha H HV
            rcases out with ho | ⟨ho, ho2⟩
            all_goals (
              go_wp2_with fail
              refine (A0.out.size).mono ?_
              rintro e v ⟨rfl, rfl⟩
              go_wp2_with fail
              refine ((ask_and A0.out)).mono ?_
              rintro e v0 ⟨x0, rfl, ha⟩
              have A1 := keep ha
              clear ha A0
              go_wp2_with fail
              refine ((ask_or A1.out)).mono ?_
              rintro e v1 ⟨x1, rfl, ha⟩
              have A2 := keep ha
              clear ha A1
              go_wp2_with fail
              refine (Not_err (A2.out.ite _ _ _ 0 (first_bad3 bad 0 1))).mono ?_
              rintro e v2 ⟨x2, rfl, hb⟩
              have A3 := keep (A2.out.below hb)
              clear hb A2
              go_wp2_with fail
              refine (Diff_err (A3.out.ite _ _ _ 0 (first_bad3 bad 0 1))).mono ?_
              rintro e v3 ⟨x3, rfl, hb⟩
              have A4 := keep (A3.out.below hb)
              clear hb A3
              go_wp2_with fail
              refine (Ite_err (A4.out.ite _ _ _ 1 (first_bad4 bad 0 1 (Or.inl rfl)))).mono ?_
              rintro e v4 ⟨rfl, hb⟩
              have A5 := keep (A4.out.below hb)
              clear hb A4
              go_wp2_with fail
              refine (Has_err (Or.inr rfl) bad A5.out.root _).mono ?_
              rintro e v5 ⟨x5, rfl, hb⟩
              have A6 := keep (A5.out.below hb)
              clear hb A5
              go_wp2_with fail
              refine (Any_err (Or.inr rfl) bad A6.out.root).mono ?_
              rintro e v6 ⟨x6, y6, rfl, hb⟩
              have A7 := keep (A6.out.below hb)
              clear hb A6
              go_wp2_with fail
              refine (Cubes_err (Or.inr rfl) bad (-1) A7.out.root).mono ?_
              rintro e v7 ⟨x7, rfl, hb⟩
              have A8 := keep (A7.out.below hb)
              clear hb A7
              go_wp2_with fail
              refine (List_err (Or.inr rfl) bad A8.out.root).mono ?_
              rintro e v8 ⟨x8, rfl, hb⟩
              have A9 := keep (A8.out.below hb)
              clear hb A8
              go_wp2_with fail
              refine ((ask_keep A9.out)).mono ?_
              rintro e v9 ⟨x9, rfl, ha⟩
              have A10 := keep ha
              clear ha A9
              go_wp2_with fail
              refine (A10.out.size).mono ?_
              rintro e v ⟨rfl, rfl⟩
              go_wp2
              go_ret
              obtain ⟨_, _, _, _, _, _, hb, _⟩ := A10.out.ex
              exact ⟨by simp, hb⟩)
          · obtain ⟨_, _, _, _, _, _, _, _, hb, _, _⟩ := H.out.ex
            have HB := keep hb
            clear hb H HV
            rcases out with ho | ⟨ho, ho2⟩
            all_goals (
              go_wp2
              go_ret
              exact ⟨rfl, HB.out⟩))
  · have hb : bits < 1 ∨ 128 < bits := by omega
    have Q := keep (New_err w bits hb)
    clear hb hok
    go_enter Try.func4, Try.ntmps4
    go_wp2_with fail
    refine Q.out.mono ?_
    rintro e w1 ⟨rfl, rfl⟩
    go_wp2_with fail
    refine (awake_any _).mono ?_
    rintro e w2 ⟨rfl, hb2⟩
    have HB2 := keep hb2
    clear hb2 Q
    go_wp2
    go_ret
    exact ⟨rfl, HB2.out⟩
end Go.Proofs.Ytplmpielmppcaaa
