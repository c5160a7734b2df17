/-
  The law BddNobody: of any text it answers true.
-/
import Derived.Test.YtplmpielmppcaaaBNoAns
import Derived.Test.YtplmpielmppcaaaBAwake
namespace Go.Proofs.Ytplmpielmppcaaa
open Go.RowKit Go.Maps

/-- A table that New did not make, in a world that keeps what lay ahead of B. -/
structure NoOne (B : Nat) (w0 w : World) (a : Option Addr) : Prop where
  below : Below B w0 w
  size : B ≤ w.heap.size
  nobody : Nobody w (.pointer a)
theorem NoOne.on {B : Nat} {w0 w w' : World} {a : Option Addr} (h : NoOne B w0 w a) (hb : Below w.heap.size w w') : NoOne B w0 w' a :=
  ⟨h.below.trans (hb.mono h.size), Nat.le_trans h.size hb.size, h.nobody.below hb⟩

/-- The two tables of the law. -/
def TwoNo (w' : World) (g : Nat) : Prop := ∀ k : Nat, k < 2 → ∃ a, w'.cell? ⟨g + 1, k, none⟩ = some (.pointer a) ∧ Nobody w' (.pointer a)

theorem TwoNo.below {w w' : World} {g : Nat} (h : TwoNo w g) (hb : Below w.heap.size w w') : TwoNo w' g := by
  intro k hk
  obtain ⟨a, hc, hn⟩ := h k hk
  exact ⟨a, by rw [hb.cell (World.block_lt_of_cell? w _ hc)]; exact hc, hn.below hb⟩

theorem two_start (w : World) : Below w.heap.size w ((w.alloc (.cells #[.int .i64 0, .slice none 0 0, .map none, .slice none 0 0, .map none, .int .i64 0, .int .i64 0, .pointer none] 33)).alloc (.cells #[.pointer none, .pointer (some ⟨w.heap.size, 0, none⟩)] 22)) ∧
    w.heap.size ≤ ((w.alloc (.cells #[.int .i64 0, .slice none 0 0, .map none, .slice none 0 0, .map none, .int .i64 0, .int .i64 0, .pointer none] 33)).alloc (.cells #[.pointer none, .pointer (some ⟨w.heap.size, 0, none⟩)] 22)).heap.size ∧
    TwoNo ((w.alloc (.cells #[.int .i64 0, .slice none 0 0, .map none, .slice none 0 0, .map none, .int .i64 0, .int .i64 0, .pointer none] 33)).alloc (.cells #[.pointer none, .pointer (some ⟨w.heap.size, 0, none⟩)] 22)) w.heap.size := by
  generalize ho : Obj.cells #[.int .i64 0, .slice none 0 0, .map none, .slice none 0 0, .map none, .int .i64 0, .int .i64 0, .pointer none] 33 = o
  have e1 : (w.alloc o).heap.size = w.heap.size + 1 := by simp
  have c1 := heap_alloc_new (w.alloc o) (.cells #[.pointer none, .pointer (some ⟨w.heap.size, 0, none⟩)] 22)
  rw [e1] at c1
  have c0 := (heap_alloc_old (w.alloc o) (.cells #[.pointer none, .pointer (some ⟨w.heap.size, 0, none⟩)] 22) (show w.heap.size < _ by omega)).trans (heap_alloc_new w o)
  refine ⟨((Below.refl _ _).alloc (Nat.le_refl _) _).alloc (by simp) _, by simp <;> omega, fun k hk => ?_⟩
  match k, hk with
  | 0, _ => exact ⟨none, by rw [cell_at c1]; rfl, Or.inl rfl⟩
  | 1, _ => exact ⟨some ⟨w.heap.size, 0, none⟩, by rw [cell_at c1]; rfl, Or.inr ⟨w.heap.size, rfl, by subst ho; rw [cell_at c0]; rfl⟩⟩
  | (k + 2), h => omega

set_option maxRecDepth 8000 in
set_option maxHeartbeats 4000000 in
theorem nobody_any (t : ByteArray) (w : World) : Calls Try.prog 3 #[.string t] w fun e w' => e = .returned (.bool true) ∧ Below w.heap.size w w' := by
  go_enter Try.func3, Try.ntmps3
  go_wp2
  go_loopw [39] (fun i wr => ∃ k : Nat, k ≤ 2 ∧ i = .int .i64 k ∧ Hid (Below w.heap.size w wr ∧ w.heap.size ≤ wr.heap.size ∧ TwoNo wr w.heap.size)) (fun i _ => 2 - (intOf i).toNat)
  case atStart =>
    exact ⟨0, by omega, rfl, two_start w⟩
  case round =>
    obtain ⟨k, hk, rfl, H⟩ := hrel
    by_cases hlt : k < 2
    · have hkI : (0 : Int) ≤ (k : Int) := by omega
      have hkI2 : (k : Int) < 2 := by omega
      obtain ⟨a, hc, hn⟩ := H.out.2.2 k hlt
      have N0 : Hid (NoOne wr.heap.size wr wr a) := ⟨Below.refl _ _, Nat.le_refl _, hn⟩
      clear hn
      go_wp2_with fail
      refine (Cube_no N0.out.nobody t).mono ?_
      rintro e w1 ⟨r0, rfl, hb⟩
      have N1 := keep (N0.out.on hb)
      clear hb N0
      go_wp2_with fail
      refine (And_err _ (fun w1 hb => answer_no (N1.out.nobody.below hb) _)).mono ?_
      rintro e w2 ⟨r1, rfl, hb⟩
      have N2 := keep (N1.out.on hb)
      clear hb N1
      go_wp2_with fail
      refine (Or_err _ (fun w1 hb => answer_no (N2.out.nobody.below hb) _)).mono ?_
      rintro e w3 ⟨r2, rfl, hb⟩
      have N3 := keep (N2.out.on hb)
      clear hb N2
      go_wp2_with fail
      refine (Not_err (ite_err_no N3.out.nobody _ _ _)).mono ?_
      rintro e w4 ⟨r3, rfl, hb⟩
      have N4 := keep (N3.out.on hb)
      clear hb N3
      go_wp2_with fail
      refine (Diff_err (ite_err_no N4.out.nobody _ _ _)).mono ?_
      rintro e w5 ⟨r4, rfl, hb⟩
      have N5 := keep (N4.out.on hb)
      clear hb N4
      go_wp2_with fail
      refine (Ite_err (ite_err_no N5.out.nobody _ _ _)).mono ?_
      rintro e w6 ⟨rfl, hb⟩
      have N6 := keep (N5.out.on hb)
      clear hb N5
      go_wp2_with fail
      refine (Has_err (Or.inl rfl) 0 (root_err_no N6.out.nobody _) t).mono ?_
      rintro e w7 ⟨r6, rfl, hb⟩
      have N7 := keep (N6.out.on hb)
      clear hb N6
      go_wp2_with fail
      refine (Any_err (Or.inl rfl) 0 (root_err_no N7.out.nobody _)).mono ?_
      rintro e w8 ⟨r7, s7, rfl, hb⟩
      have N8 := keep (N7.out.on hb)
      clear hb N7
      go_wp2_with fail
      refine (Cubes_err (Or.inl rfl) 0 1 (root_err_no N8.out.nobody _)).mono ?_
      rintro e w9 ⟨r8, rfl, hb⟩
      have N9 := keep (N8.out.on hb)
      clear hb N8
      go_wp2_with fail
      refine (List_err (Or.inl rfl) 0 (root_err_no N9.out.nobody _)).mono ?_
      rintro e w10 ⟨r9, rfl, hb⟩
      have N10 := keep (N9.out.on hb)
      clear hb N9
      go_wp2_with fail
      refine (Make_no N10.out.nobody none 0 0).mono ?_
      rintro e w11 ⟨r10, s10, rfl, hb⟩
      have N11 := keep (N10.out.on hb)
      clear hb N10
      go_wp2_with fail
      refine (Keep_no N11.out.nobody _).mono ?_
      rintro e w12 ⟨r11, rfl, rfl⟩
      go_wp2
      have NZ : Hid (NoOne wr.heap.size wr (w12.alloc (.cells #[.int .i64 4, .int .i64 4, .int .i64 4, .int .i64 4, .int .i64 4, .int .i64 4, .int .i64 4, .int .i64 4, .int .i64 4, .int .i64 4, .int .i64 4, .int .i64 4] 35)) a) := N11.out.on ((Below.refl _ _).alloc (Nat.le_refl _) _)
      have CZ : Hid (∀ j : Nat, j < 12 → (w12.alloc (.cells #[.int .i64 4, .int .i64 4, .int .i64 4, .int .i64 4, .int .i64 4, .int .i64 4, .int .i64 4, .int .i64 4, .int .i64 4, .int .i64 4, .int .i64 4, .int .i64 4] 35)).cell? ⟨w12.heap.size, j, none⟩ = some (.int .i64 4)) := by
        intro j hj
        rw [cell_at (heap_alloc_new w12 _)]
        match j, hj with
        | 0, _ => rfl
        | 1, _ => rfl
        | 2, _ => rfl
        | 3, _ => rfl
        | 4, _ => rfl
        | 5, _ => rfl
        | 6, _ => rfl
        | 7, _ => rfl
        | 8, _ => rfl
        | 9, _ => rfl
        | 10, _ => rfl
        | 11, _ => rfl
        | (j + 12), h => omega
      clear N11 hc
      generalize w12.alloc (.cells #[.int .i64 4, .int .i64 4, .int .i64 4, .int .i64 4, .int .i64 4, .int .i64 4, .int .i64 4, .int .i64 4, .int .i64 4, .int .i64 4, .int .i64 4, .int .i64 4] 35) = wz at NZ CZ ⊢
      go_loopw [33] (fun i wq => ∃ j : Nat, j ≤ 12 ∧ i = .int .i64 j ∧ wq = wz) (fun i _ => 12 - (intOf i).toNat)
      case atStart => exact ⟨0, by omega, rfl, rfl⟩
      case round =>
        obtain ⟨j, hj, rfl, rfl⟩ := hrel
        by_cases hj2 : j < 12
        · have hjI : (0 : Int) ≤ (j : Int) := by omega
          have hjI2 : (j : Int) < 12 := by omega
          have cj := CZ.out j hj2
          go_wp2
          go_roundw
          case rel => exact ⟨j + 1, by omega, by go_num, trivial⟩
          case measure => simp [intOf]; omega
        · have hjI : ¬ ((j : Int) < 12) := by omega
          have qb := Bits_no NZ.out.nobody
          have ql := Limit_no NZ.out.nobody
          have qs := Size_no NZ.out.nobody
          go_wp2_with fail
          refine qb.mono ?_
          rintro e w13 ⟨rfl, rfl⟩
          go_wp2_with fail
          refine ql.mono ?_
          rintro e w14 ⟨rfl, rfl⟩
          go_wp2_with fail
          refine qs.mono ?_
          rintro e w15 ⟨rfl, rfl⟩
          clear qb ql qs
          go_wp2
          go_roundw
          case rel => exact ⟨k + 1, by omega, by go_num, H.out.1.trans (NZ.out.below.mono H.out.2.1), Nat.le_trans H.out.2.1 NZ.out.size, H.out.2.2.below NZ.out.below⟩
          case measure => simp [intOf]; omega
    · have hkI : ¬ ((k : Int) < 2) := by omega
      go_wp2_with fail
      refine (awake_any _).mono ?_
      rintro e w1 ⟨rfl, hb⟩
      have HB := keep (H.out.1.trans (hb.mono H.out.2.1))
      clear hb
      go_wp2
      go_ret
      exact ⟨rfl, HB.out⟩
end Go.Proofs.Ytplmpielmppcaaa
