/-
  mustBeCube: the ternary of a cube; a panic with ErrCube at a text that is none.
-/
import Derived.Test.YtffngpdngjfcfaaBits
namespace Go.Proofs.Ytffngpdngjfcfaa
open Go.RowKit

/-- The cells of a cube's ternary. -/
abbrev tc (l : List UInt8) : Array Value := c4 (Cu.fixAt l) (Cu.oneAt l)

theorem take_snoc (s : ByteArray) (k : Nat) (h : k < s.size) : s.data.toList.take (k + 1) = s.data.toList.take k ++ [s[k]] := by
  rw [List.take_succ_eq_append_getElem (by simpa using h)]; rfl
theorem take_len (s : ByteArray) (k : Nat) (h : k ≤ s.size) : (s.data.toList.take k).length = k := by
  rw [List.length_take]; simp; exact Nat.min_eq_left h
theorem grown_block {w w' : World} {r : Nat} (g : w.grownBy w' (some r)) {k : Nat} {o : Obj} (h : w.heap[k]? = some o) (hne : k ≠ r) : w'.heap[k]? = some o :=
  (g.block k (lt_of_block h) (by simp [hne])).trans h
theorem below_grown {B r : Nat} {w w1 w2 : World} (h : Below B w w1) (g : w1.grownBy w2 (some r)) (h1 : B ≤ w1.heap.size) (h2 : B ≤ r) : Below B w w2 :=
  h.grown g h1 (fun k hk => by simp at hk; omega)

theorem tc_snoc_fix (l : List UInt8) (c : UInt8) (h : c = 48 ∨ c = 49) : tc (l ++ [c]) = c4 (Cu.updw (Cu.fixAt l) l.length) (Cu.setOne (Cu.oneAt l) l.length (c == 49)) := by
  rw [tc, Cu.fixAt_snoc l c h, Cu.oneAt_snoc]
theorem tc_snoc_x (l : List UInt8) : tc (l ++ [120]) = tc l := by
  rw [tc, Cu.fixAt_snoc_x, Cu.oneAt_snoc_x]
theorem tc_nil : tc [] = #[.int .u64 0, .int .u64 0, .int .u64 0, .int .u64 0] := by
  have e : Cu.wd (Cu.fixAt []) = fun _ => 0 := by
    funext k
    symm
    exact Cu.wd_eq (by omega) (fun i _ => by simp [Cu.fixAt])
  have e2 : Cu.wd (Cu.oneAt []) = fun _ => 0 := by
    funext k
    symm
    exact Cu.wd_eq (by omega) (fun i _ => by simp [Cu.oneAt])
  simp [tc, c4, e, e2]

set_option maxHeartbeats 400000 in
theorem must_right (s : ByteArray) (w : World) (hs : Cu.right s.data.toList = true) :
    Calls Try.prog 103 #[.string s] w fun e w' =>
      e = .returned (.agg (tc s.data.toList)) ∧ Below w.heap.size w w' := by
  have hr := hs
  simp only [Cu.right, Bool.and_eq_true, decide_eq_true_eq, Array.length_toList] at hr
  obtain ⟨⟨hall, h1⟩, h2⟩ := hr
  have h1' : 1 ≤ s.size := h1
  have h2' : s.size ≤ 128 := h2
  have hd1 : decide ((s.size : Int) < 1) = false := by simp; omega
  have hd2 : decide (128 < (s.size : Int)) = false := by simp; omega
  clear h1 h2 hs
  have HA : Hid (s.data.toList.all Cu.sym = true) := hall
  clear hall
  go_enter Try.func103, Try.ntmps103
  go_wp2
  go_loopw [16] (fun i wr => ∃ k : Nat, k ≤ s.size ∧ i = .int .i64 k ∧ wr.heap[w.heap.size + 1]? = some (.cells (tc (s.data.toList.take k)) 169 (0, 0)) ∧
      wr.heap[w.heap.size]? = some (.cells #[.int .u64 0, .int .u64 0, .int .u64 0, .int .u64 0] 169 (0, 0)) ∧ Below w.heap.size w wr)
    (fun i _ => s.size - (intOf i).toNat)
  case atStart =>
    refine ⟨0, Nat.zero_le _, rfl, ?_, ?_, ((Below.refl _ _).alloc (Nat.le_refl _) _).alloc (by simp) _⟩
    · rw [List.take_zero, tc_nil]
      exact new_1 _ _ _
    · exact new_old _ _ (new_0 _ _)
  case round =>
    obtain ⟨k, hk, rfl, ht, hz, hb⟩ := hrel
    have HT : Hid _ := ht
    have HZ : Hid _ := hz
    by_cases hlt : k < s.size
    · clear ht hz
      have hsym : Cu.sym s[k] = true := by
        have := HA.out
        rw [List.all_eq_true] at this
        refine this _ ?_
        show s.data[k] ∈ s.data.toList
        simp
      have HS : Hid (s.data.toList.take (k + 1) = s.data.toList.take k ++ [s[k]]) := take_snoc s k hlt
      have HL : Hid ((s.data.toList.take k).length = k) := take_len s k hk
      have hs1 := hb.size
      rcases Cu.sym_cases hsym with hc | hc | hc
      · have hcn : (s[k].toNat : Int) = 48 := by rw [hc]; rfl
        have HC : Hid (s[k] = 48) := hc
        clear hc hsym
        go_wp2_with fail
        refine (fix_any _ _ k _ false wr (by omega) HT.out).mono ?_
        rintro e w1 ⟨rfl, hn, g1⟩
        have HN : Hid _ := hn
        clear hn
        go_wp2
        go_roundw
        case rel =>
          refine ⟨k + 1, by omega, by go_num, ?_, grown_block g1 HZ.out (by omega), below_grown hb g1 hs1 (by omega)⟩
          rw [HS.out, HC.out, tc_snoc_fix _ _ (Or.inl rfl), HL.out]
          exact HN.out
        case measure => simp [intOf]; omega
      · have hcn : (s[k].toNat : Int) = 49 := by rw [hc]; rfl
        have HC : Hid (s[k] = 49) := hc
        clear hc hsym
        go_wp2_with fail
        refine (fix_any _ _ k _ true wr (by omega) HT.out).mono ?_
        rintro e w1 ⟨rfl, hn, g1⟩
        have HN : Hid _ := hn
        clear hn
        go_wp2
        go_roundw
        case rel =>
          refine ⟨k + 1, by omega, by go_num, ?_, grown_block g1 HZ.out (by omega), below_grown hb g1 hs1 (by omega)⟩
          rw [HS.out, HC.out, tc_snoc_fix _ _ (Or.inr rfl), HL.out]
          exact HN.out
        case measure => simp [intOf]; omega
      · have hcn : (s[k].toNat : Int) = 120 := by rw [hc]; rfl
        have HC : Hid (s[k] = 120) := hc
        clear hc hsym
        go_wp2
        go_roundw
        case rel =>
          refine ⟨k + 1, by omega, by go_num, ?_, HZ.out, hb⟩
          rw [HS.out, HC.out, tc_snoc_x]
          exact HT.out
        case measure => simp [intOf]; omega
    · have hkk : k = s.size := by omega
      subst hkk
      have HE : Hid (s.data.toList.take s.size = s.data.toList) := by
        show _ = _
        rw [List.take_of_length_le (by simp)]
      obtain ⟨t0, t1, t2, t3⟩ := four_cell ht
      obtain ⟨z0, z1, z2, z3⟩ := four_cell hz
      have f0 : wr.frozen? ⟨w.heap.size, 0, none⟩ = false := free_of hz
      have f1 : wr.frozen? ⟨w.heap.size, 1, none⟩ = false := free_of hz
      have f2 : wr.frozen? ⟨w.heap.size, 2, none⟩ = false := free_of hz
      have f3 : wr.frozen? ⟨w.heap.size, 3, none⟩ = false := free_of hz
      clear ht hz
      go_wp2
      refine bodyPost_ret (v := .agg (tc (s.data.toList.take s.size))) ?_ rfl ⟨by rw [HE.out], ?_⟩
      · simp [results, Try.results103, go_sem, z0, z1, z2, z3, c4]
      · exact (((hb.setCell (by simp) _).setCell (by simp) _).setCell (by simp) _).setCell (by simp) _

/-- A ternary's value, written out. -/
abbrev tv (l : List UInt8) : Value := .agg #[.int .u64 (Cu.wd (Cu.fixAt l) 0 : Int), .int .u64 (Cu.wd (Cu.fixAt l) 1 : Int), .int .u64 (Cu.wd (Cu.oneAt l) 0 : Int), .int .u64 (Cu.wd (Cu.oneAt l) 1 : Int)]

theorem must_right' (s : ByteArray) (w : World) (hs : Cu.right s.data.toList = true) :
    Calls Try.prog 103 #[.string s] w fun e w' => e = .returned (tv s.data.toList) ∧ Below w.heap.size w w' := must_right s w hs

/-- The panic of a text that is no cube. -/
abbrev noCube : List PanicEntry := [{ v := .iface 30 (.int .i64 10), recovered := false }]

set_option maxHeartbeats 400000 in
theorem must_size (s : ByteArray) (w : World) (hs : s.size < 1 ∨ 128 < s.size) :
    Calls Try.prog 103 #[.string s] w fun e w' => e = .panicked noCube ∧ Below w.heap.size w w' := by
  rcases hs with hs | hs
  · have hd1 : decide ((s.size : Int) < 1) = true := by simp; omega
    go_enter Try.func103, Try.ntmps103
    go_wp2
    exact ⟨rfl, rfl, (Below.refl _ _).alloc (Nat.le_refl _) _⟩
  · have hd1 : decide ((s.size : Int) < 1) = false := by simp; omega
    have hd2 : decide (128 < (s.size : Int)) = true := by simp; omega
    go_enter Try.func103, Try.ntmps103
    go_wp2
    exact ⟨rfl, rfl, (Below.refl _ _).alloc (Nat.le_refl _) _⟩

set_option maxHeartbeats 400000 in
theorem must_sym (s : ByteArray) (w : World) (h1' : 1 ≤ s.size) (h2' : s.size ≤ 128) (hall : s.data.toList.all Cu.sym = false) :
    Calls Try.prog 103 #[.string s] w fun e w' => e = .panicked noCube ∧ Below w.heap.size w w' := by
  have hd1 : decide ((s.size : Int) < 1) = false := by simp; omega
  have hd2 : decide (128 < (s.size : Int)) = false := by simp; omega
  have HA : Hid (s.data.toList.all Cu.sym = false) := hall
  clear hall
  go_enter Try.func103, Try.ntmps103
  go_wp2
  go_loopw [16] (fun i wr => ∃ k : Nat, k ≤ s.size ∧ i = .int .i64 k ∧ (∃ p q, wr.heap[w.heap.size + 1]? = some (.cells (c4 p q) 169 (0, 0))) ∧
      Hid ((s.data.toList.take k).all Cu.sym = true) ∧ Below w.heap.size w wr)
    (fun i _ => s.size - (intOf i).toNat)
  case atStart =>
    refine ⟨0, Nat.zero_le _, rfl, ⟨Cu.fixAt [], Cu.oneAt [], ?_⟩, ?_, ((Below.refl _ _).alloc (Nat.le_refl _) _).alloc (by simp) _⟩
    · have := tc_nil
      rw [tc] at this
      rw [this]
      exact new_1 _ _ _
    · show _ = _
      simp
  case round =>
    obtain ⟨k, hk, rfl, ⟨p, q, ht⟩, hpre, hb⟩ := hrel
    have HT : Hid _ := ht
    clear ht
    have hs1 := hb.size
    by_cases hlt : k < s.size
    · have HS : Hid (s.data.toList.take (k + 1) = s.data.toList.take k ++ [s[k]]) := take_snoc s k hlt
      by_cases hsym : Cu.sym s[k] = true
      · have HP : Hid ((s.data.toList.take (k + 1)).all Cu.sym = true) := by
          show _ = _
          rw [HS.out, List.all_append, hpre.out]; simp [hsym]
        rcases Cu.sym_cases hsym with hc | hc | hc
        · have hcn : (s[k].toNat : Int) = 48 := by rw [hc]; rfl
          clear hc hsym
          go_wp2_with fail
          refine (fix_any _ _ k _ false wr (by omega) HT.out).mono ?_
          rintro e w1 ⟨rfl, hn, g1⟩
          have HN : Hid _ := hn
          clear hn
          go_wp2
          go_roundw
          case rel => exact ⟨k + 1, by omega, by go_num, ⟨_, _, HN.out⟩, HP, below_grown hb g1 hs1 (by omega)⟩
          case measure => simp [intOf]; omega
        · have hcn : (s[k].toNat : Int) = 49 := by rw [hc]; rfl
          clear hc hsym
          go_wp2_with fail
          refine (fix_any _ _ k _ true wr (by omega) HT.out).mono ?_
          rintro e w1 ⟨rfl, hn, g1⟩
          have HN : Hid _ := hn
          clear hn
          go_wp2
          go_roundw
          case rel => exact ⟨k + 1, by omega, by go_num, ⟨_, _, HN.out⟩, HP, below_grown hb g1 hs1 (by omega)⟩
          case measure => simp [intOf]; omega
        · have hcn : (s[k].toNat : Int) = 120 := by rw [hc]; rfl
          clear hc hsym
          go_wp2
          go_roundw
          case rel => exact ⟨k + 1, by omega, by go_num, ⟨_, _, HT.out⟩, HP, hb⟩
          case measure => simp [intOf]; omega
      · have n1 : ((s[k].toNat : Int) == 48) = false := by
          rw [beq_eq_false_iff_ne]; intro h; exact hsym (by have : s[k] = 48 := UInt8.toNat.inj (by simp; omega); simp [Cu.sym, this])
        have n2 : ((s[k].toNat : Int) == 49) = false := by
          rw [beq_eq_false_iff_ne]; intro h; exact hsym (by have : s[k] = 49 := UInt8.toNat.inj (by simp; omega); simp [Cu.sym, this])
        have n3 : ((s[k].toNat : Int) == 120) = false := by
          rw [beq_eq_false_iff_ne]; intro h; exact hsym (by have : s[k] = 120 := UInt8.toNat.inj (by simp; omega); simp [Cu.sym, this])
        clear hsym
        go_wp2
        exact ⟨rfl, rfl, hb⟩
    · exfalso
      have hkk : k = s.size := by omega
      have h1 := hpre.out
      rw [hkk, List.take_of_length_le (by simp)] at h1
      have h2 := HA.out
      rw [h1] at h2
      cases h2

theorem must_wrong (s : ByteArray) (w : World) (hs : Cu.right s.data.toList = false) :
    Calls Try.prog 103 #[.string s] w fun e w' => e = .panicked noCube ∧ Below w.heap.size w w' := by
  by_cases h : s.size < 1 ∨ 128 < s.size
  · exact must_size s w h
  · refine must_sym s w (by omega) (by omega) ?_
    have h1 : 1 ≤ s.data.toList.length := by simp; show 1 ≤ s.size; omega
    have h2 : s.data.toList.length ≤ 128 := by simp; show s.size ≤ 128; omega
    simpa only [Cu.right, h1, h2, decide_true, Bool.and_true] using hs
end Go.Proofs.Ytffngpdngjfcfaa
