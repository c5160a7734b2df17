/-
  Counts: the laws' walks: Algebra.
-/
import Derived.Test.YteadddocmmkbgaaDoorKAwake
import Derived.Test.YteadddocmmkbgaaDoorKRef
namespace Go.Proofs.YteadddocmmkbgaaDoor.Co
open Go.RowKit Go.Shelf

theorem chk_ok {m : Nat} {l : List Nat} (hm : m ≤ 62) (h : ∀ c ∈ l, mayB m c = true) : chkE (m : Int) l = 0 := by
  unfold chkE
  rw [if_neg (by omega), Int.toNat_natCast, if_pos (List.all_eq_true.2 h)]
theorem sumP_ok {m : Nat} {l : List Nat} (hm : m ≤ 62) (h : ∀ c ∈ l, mayB m c = true) : sumP (m : Int) l = (l.foldl (sumN m) 1, 0) := by
  unfold sumP
  rw [if_pos (chk_ok hm h)]
  rfl
theorem unionP_ok {m : Nat} {l : List Nat} (hm : m ≤ 62) (h : ∀ c ∈ l, mayB m c = true) (hl : l ≠ []) : unionP (m : Int) l = (orL l, 0) := by
  unfold unionP
  rw [if_pos (chk_ok hm h), if_neg hl]
theorem sumP2 {m a b : Nat} (hm : m ≤ 62) (ha : mayB m a = true) (hb : mayB m b = true) : sumP (m : Int) [a, b] = (sumN m a b, 0) := by
  rw [sumP_ok hm (by intro c hc; simp at hc; rcases hc with rfl | rfl <;> assumption)]
  show (sumN m (sumN m 1 a) b, _) = _
  rw [sumN_one (may_lt ha)]
theorem unionP2 {m a b : Nat} (hm : m ≤ 62) (ha : mayB m a = true) (hb : mayB m b = true) : unionP (m : Int) [a, b] = (a ||| b, 0) := by
  rw [unionP_ok hm (by intro c hc; simp at hc; rcases hc with rfl | rfl <;> assumption) (by simp)]
  show ((0 ||| a) ||| b, _) = _
  rw [Nat.zero_or]
theorem one_may (m : Nat) : mayB m 1 = true := by
  have : 2 ^ 1 ≤ 2 ^ (m + 2) := Nat.pow_le_pow_right (by omega) (by omega)
  simp [mayB]
theorem three_cs (w : World) (a b c : Nat) (t : TypeId) : CsIn (w.alloc (.cells #[.int .u64 (a : Int), .int .u64 (b : Int), .int .u64 (c : Int)] t)) (some ⟨w.heap.size, 0, none⟩) [a, b, c] := by
  have h : (w.alloc (.cells #[.int .u64 (a : Int), .int .u64 (b : Int), .int .u64 (c : Int)] t)).heap[w.heap.size]? = some (.cells #[.int .u64 (a : Int), .int .u64 (b : Int), .int .u64 (c : Int)] t (0, 0)) := World.alloc_heap_new w _
  refine Or.inr ⟨_, _, rfl, by simp, fun j hj => ?_⟩
  unfold World.cell?
  match j, hj with
  | 0, _ => rw [h]; rfl
  | 1, _ => rw [h]; rfl
  | 2, _ => rw [h]; rfl
/-- Sum and Union of two sets in a row of their own. -/
theorem Sum_two {t : Int} {a b x : Nat} {e0 : Int} (ha : a < 18446744073709551616) (hb : b < 18446744073709551616) (he : sumP t [a, b] = (x, e0)) (w : World) :
    Calls Tryd.prog 15 #[.int .i64 t, .slice (some ⟨w.heap.size, 0, none⟩) 2 2] (w.alloc (.cells #[.int .u64 (a : Int), .int .u64 (b : Int)] 24)) fun e w' => e = .returned (.tuple #[.int .u64 (x : Int), .int .i64 e0]) ∧ Below w.heap.size w w' := by
  have h := Sum_any (t := t) (cap := 2) (n := 2) (l := [a, b]) rfl (by omega) (two_cs w a b 24) (by intro c hc; simp at hc; rcases hc with rfl | rfl <;> assumption)
  rw [he] at h
  exact h.mono fun e w' ⟨h1, h2⟩ => ⟨h1, below_tr (below_alloc _ _) h2⟩
theorem Union_two {t : Int} {a b x : Nat} {e0 : Int} (ha : a < 18446744073709551616) (hb : b < 18446744073709551616) (he : unionP t [a, b] = (x, e0)) (w : World) :
    Calls Tryd.prog 17 #[.int .i64 t, .slice (some ⟨w.heap.size, 0, none⟩) 2 2] (w.alloc (.cells #[.int .u64 (a : Int), .int .u64 (b : Int)] 24)) fun e w' => e = .returned (.tuple #[.int .u64 (x : Int), .int .i64 e0]) ∧ Below w.heap.size w w' := by
  have h := Union_any (t := t) (cap := 2) (n := 2) (l := [a, b]) rfl (by omega) (two_cs w a b 24) (by intro c hc; simp at hc; rcases hc with rfl | rfl <;> assumption)
  rw [he] at h
  exact h.mono fun e w' ⟨h1, h2⟩ => ⟨h1, below_tr (below_alloc _ _) h2⟩

set_option maxRecDepth 100000 in
set_option maxHeartbeats 4000000 in
theorem kalg_any {t : Int} {a b c : Nat} {w : World} (ha : a < 18446744073709551616) (hb : b < 18446744073709551616) (hc : c < 18446744073709551616) (hP : PowTab w) :
    Calls Tryd.prog 7 #[.int .i64 t, .int .u64 (a : Int), .int .u64 (b : Int), .int .u64 (c : Int)] w fun e w' => e = .returned (.bool true) ∧ Below w.heap.size w w' := by
  have HK := hid (kawake hP)
  have h64 : ∀ x ∈ [a, b, c], x < 18446744073709551616 := by intro x hx; simp at hx; rcases hx with rfl | rfl | rfl <;> assumption
  have HC := hid (fun w' => (RCheck_any (t := t) (cap := 3) (n := 3) (l := [a, b, c]) rfl (by omega) (three_cs w' a b c 24) h64).mono (fun e w2 (h : _ ∧ _) => (show _ ∧ Below w'.heap.size w' w2 from ⟨h.1, h.2 ▸ below_alloc w' _⟩)))
  have HD := hid (fun w' => (Check_any (t := t) (cap := 3) (n := 3) (l := [a, b, c]) rfl (by omega) (three_cs w' a b c 24) h64).mono (fun e w2 (h : _ ∧ _) => (show _ ∧ Below w'.heap.size w' w2 from ⟨h.1, below_tr (below_alloc w' _) h.2⟩)))
  by_cases h0 : chkE t [a, b, c] = 0
  · have hr := chk_range h0
    have hmay := chk_may h0
    rw [h0] at HC
    obtain ⟨m, rfl⟩ : ∃ m : Nat, t = (m : Int) := ⟨t.toNat, by omega⟩
    have hm : m ≤ 62 := by omega
    have ma : mayB m a = true := hmay a (by simp)
    have mb : mayB m b = true := hmay b (by simp)
    have mc : mayB m c = true := hmay c (by simp)
    obtain ⟨X, hX⟩ : ∃ X, X = sumN m a b := ⟨_, rfl⟩
    obtain ⟨P, hPd⟩ : ∃ P, P = sumN m X c := ⟨_, rfl⟩
    obtain ⟨U, hU⟩ : ∃ U, U = a ||| b := ⟨_, rfl⟩
    obtain ⟨V, hV⟩ : ∃ V, V = sumN m U c := ⟨_, rfl⟩
    obtain ⟨M, hM⟩ : ∃ M, M = sumN m b c := ⟨_, rfl⟩
    obtain ⟨N, hN⟩ : ∃ N, N = sumN m a c := ⟨_, rfl⟩
    have mX : mayB m X = true := by rw [hX]; exact sumN_may ma mb
    have mU : mayB m U = true := by rw [hU]; exact or_may ma mb
    have mM : mayB m M = true := by rw [hM]; exact sumN_may mb mc
    have mN : mayB m N = true := by rw [hN]; exact sumN_may ma mc
    have lt : ∀ {x}, mayB m x = true → x < 18446744073709551616 := fun h => two_64 (may_lt h) hm
    have H1 := hid (Sum_two ha hb (x := X) (e0 := 0) (by rw [sumP2 hm ma mb, hX]))
    have H2 := hid (Sum_two hb ha (x := X) (e0 := 0) (by rw [sumP2 hm mb ma, hX, sumN_comm]))
    have H3 := hid (Sum_two (lt mX) hc (x := P) (e0 := 0) (by rw [sumP2 hm mX mc, hPd]))
    have H4 := hid (fun w' => (Sum_any (t := (m : Int)) (cap := 3) (n := 3) (l := [a, b, c]) rfl (by omega) (three_cs w' a b c 24) h64).mono (fun e w2 (h : _ ∧ _) => (show _ ∧ Below w'.heap.size w' w2 from ⟨h.1, below_tr (below_alloc w' _) h.2⟩)))
    have e4 : sumP (m : Int) [a, b, c] = (P, 0) := by
      rw [sumP_ok hm hmay, hPd, hX]
      show (sumN m (sumN m (sumN m 1 a) b) c, _) = _
      rw [sumN_one (may_lt ma)]
    rw [e4] at H4
    have H5 := hid (Union_two ha hb (x := U) (e0 := 0) (by rw [unionP2 hm ma mb, hU]))
    have H6 := hid (Sum_two (lt mU) hc (x := V) (e0 := 0) (by rw [sumP2 hm mU mc, hV]))
    have H7 := hid (Sum_two hb hc (x := M) (e0 := 0) (by rw [sumP2 hm mb mc, hM]))
    have H8 := hid (Sum_two ha hc (x := N) (e0 := 0) (by rw [sumP2 hm ma mc, hN]))
    have H9 := hid (Union_two (lt mM) (lt mN) (x := V) (e0 := 0) (by rw [unionP2 hm mM mN, hV, hM, hN, hU, sumN_or]))
    have HA := hid (Sum_two (t := (m : Int)) (b := 1) ha (by omega) (x := a) (e0 := 0) (by rw [sumP2 hm ma (one_may m), sumN_comm, sumN_one (may_lt ma)]))
    have HB := hid (Union_two hb ha (x := U) (e0 := 0) (by rw [unionP2 hm mb ma, hU, Nat.or_comm]))
    clear hX hPd hU hV hM hN mX mU mM mN ma mb mc hmay hr h0 h64 e4 HD hP
    go_enter Tryd.func7, Tryd.ntmps7
    go_wp2_with fail
    refine HK.out.mono ?_
    rintro e w0 ⟨rfl, hb0⟩
    have B0 := hid hb0
    clear hb0
    go_wp2_with fail
    refine (HC.out _).mono ?_
    rintro e w1 ⟨rfl, hb1⟩
    have B1 := hid (below_tr B0.out hb1)
    clear hb1
    go_wp2_with fail
    refine (H1.out _).mono ?_
    rintro e w2 ⟨rfl, hb2⟩
    have B2 := hid (below_tr B1.out hb2)
    clear hb2
    go_wp2_with fail
    refine (H2.out _).mono ?_
    rintro e w3 ⟨rfl, hb3⟩
    have B3 := hid (below_tr B2.out hb3)
    clear hb3
    go_wp2_with fail
    refine (H3.out _).mono ?_
    rintro e w4 ⟨rfl, hb4⟩
    have B4 := hid (below_tr B3.out hb4)
    clear hb4
    go_wp2_with fail
    refine (H4.out _).mono ?_
    rintro e w5 ⟨rfl, hb5⟩
    have B5 := hid (below_tr B4.out hb5)
    clear hb5
    go_wp2_with fail
    refine (H5.out _).mono ?_
    rintro e w6 ⟨rfl, hb6⟩
    have B6 := hid (below_tr B5.out hb6)
    clear hb6
    go_wp2_with fail
    refine (H6.out _).mono ?_
    rintro e w7 ⟨rfl, hb7⟩
    have B7 := hid (below_tr B6.out hb7)
    clear hb7
    go_wp2_with fail
    refine (H7.out _).mono ?_
    rintro e w8 ⟨rfl, hb8⟩
    have B8 := hid (below_tr B7.out hb8)
    clear hb8
    go_wp2_with fail
    refine (H8.out _).mono ?_
    rintro e w9 ⟨rfl, hb9⟩
    have B9 := hid (below_tr B8.out hb9)
    clear hb9
    go_wp2_with fail
    refine (H9.out _).mono ?_
    rintro e w10 ⟨rfl, hb10⟩
    have B10 := hid (below_tr B9.out hb10)
    clear hb10
    go_wp2_with fail
    refine (HA.out _).mono ?_
    rintro e w11 ⟨rfl, hb11⟩
    have B11 := hid (below_tr B10.out hb11)
    clear hb11
    go_wp2_with fail
    refine (HB.out _).mono ?_
    rintro e w12 ⟨rfl, hb12⟩
    have B12 := hid (below_tr B11.out hb12)
    clear hb12
    go_wp2
    go_ret
    exact ⟨rfl, B12.out⟩
  · have h0' : (chkE t [a, b, c] == 0) = false := by simpa using h0
    obtain ⟨r, hr⟩ : ∃ r, r = chkE t [a, b, c] := ⟨_, rfl⟩
    rw [← hr] at HC HD h0'
    clear hr h0
    go_enter Tryd.func7, Tryd.ntmps7
    go_wp2_with fail
    refine HK.out.mono ?_
    rintro e w0 ⟨rfl, hb0⟩
    have B0 := hid hb0
    clear hb0
    go_wp2_with fail
    refine (HC.out _).mono ?_
    rintro e w1 ⟨rfl, hb1⟩
    have B1 := hid (below_tr B0.out hb1)
    clear hb1
    go_wp2_with fail
    refine (HD.out _).mono ?_
    rintro e w2 ⟨rfl, hb2⟩
    have B2 := hid (below_tr B1.out hb2)
    clear hb2
    go_wp2_with fail
    refine (HC.out _).mono ?_
    rintro e w3 ⟨rfl, hb3⟩
    have B3 := hid (below_tr B2.out hb3)
    clear hb3
    go_wp2
    go_ret
    exact ⟨by simp, B3.out⟩
end Go.Proofs.YteadddocmmkbgaaDoor.Co
