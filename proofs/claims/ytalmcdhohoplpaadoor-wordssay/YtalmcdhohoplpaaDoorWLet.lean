/-
  Package words: letters, Sign, first, isWord, mayTouch.
-/
import Derived.Test.YtalmcdhohoplpaaDoorWFirst
namespace Go.Proofs.YtalmcdhohoplpaaDoor
open Go.RowKit

theorem ret_int {k : IntKind} {a b : Int} (h : a = b) : Ending.returned (.int k a) = .returned (.int k b) := by rw [h]
theorem drop_at (s : ByteArray) (k : Nat) (h : k < s.size) : s.data.toList.drop k = s[k] :: s.data.toList.drop (k + 1) := by
  rw [List.drop_eq_getElem_cons (by simpa using h)]; rfl
theorem ext_drop (s : ByteArray) (k : Nat) : (s.extract k s.size).data.toList = s.data.toList.drop k := by
  rw [Lib.extract_data, Lib.size_eq, List.take_of_length_le (by simp)]
theorem ext_take (s : ByteArray) (k : Nat) : (s.extract 0 k).data.toList = s.data.toList.take k := by
  rw [Lib.extract_data]; simp

set_option maxHeartbeats 1000000 in
theorem letters_any (s : ByteArray) (w : World) (hs : s.size ≤ maxLen) : Calls Tryd.prog 26 #[.string s] w fun e w' => e = .returned (.int .i64 (Wo.lets s.data.toList : Int)) ∧ w' = w := by
  unfold maxLen at hs
  go_enter Tryd.func26, Tryd.ntmps26
  go_wp2
  go_loop [3] (fun n => ∃ k : Nat, k ≤ s.size ∧ n = .int .i64 k ∧ Hid (Wo.lets s.data.toList = k + Wo.lets (s.data.toList.drop k))) (fun n => s.size - (intOf n).toNat)
  case atStart => exact ⟨0, Nat.zero_le _, rfl, by show _ = _; simp⟩
  case round =>
    obtain ⟨k, hk, rfl, HL⟩ := hrel
    by_cases hlt : k < s.size
    · have HD := hid (drop_at s k hlt)
      have HE := hid (ext_drop s k)
      have hkI : (0 : Int) ≤ (k : Int) := by omega
      have hkI2 : (k : Int) < (s.size : Int) := by omega
      have hkI3 : (k : Int) ≤ (s.size : Int) := by omega
      rcases bool_two (Wo.ltr (s[k]'hlt).toNat) with h1 | h1
      · have HR := hid (show Wo.lets s.data.toList = k by rw [HL.out, HD.out, Wo.lets_cons, h1]; simp)
        have q : ∀ w, Calls Tryd.prog 41 #[bv (s[k]'hlt)] w fun e w' => e = .returned (.bool false) ∧ w' = w := fun w => h1 ▸ letter_any (s[k]'hlt) w
        clear h1
        go_wp2_with (go_at_call 41; refine (q _).mono ?_; rintro e w' ⟨rfl, rfl⟩)
        go_ret
        exact ⟨by rw [HR.out]; rfl, rfl⟩
      · have q : ∀ w, Calls Tryd.prog 41 #[bv (s[k]'hlt)] w fun e w' => e = .returned (.bool true) ∧ w' = w := fun w => h1 ▸ letter_any (s[k]'hlt) w
        have H1 := hid h1
        clear h1
        rcases bool_two (Wo.arr (s.data.toList.drop k)) with h2 | h2
        · have q2 : ∀ w, Calls Tryd.prog 42 #[.string (s.extract k s.size), .string ⟨#[45, 62]⟩] w fun e w' => e = .returned (.bool false) ∧ w' = w := fun w => by
            have := HasPrefix_arr (s.extract k s.size) w
            rw [HE.out, h2] at this; exact this
          have HR := hid (show Wo.lets s.data.toList = (k + 1) + Wo.lets (s.data.toList.drop (k + 1)) by
            rw [HL.out, HD.out, Wo.lets_cons, ← HD.out, H1.out, h2, if_pos (show (true && !false) = true from rfl)]; omega)
          clear h2
          go_wp2_with (first | (go_at_call 41; refine (q _).mono ?_; rintro e w' ⟨rfl, rfl⟩) | (go_at_call 42; refine (q2 _).mono ?_; rintro e w' ⟨rfl, rfl⟩))
          go_round
          case rel => exact ⟨k + 1, by omega, by go_num, HR⟩
          case measure => simp [intOf]; omega
        · have q2 : ∀ w, Calls Tryd.prog 42 #[.string (s.extract k s.size), .string ⟨#[45, 62]⟩] w fun e w' => e = .returned (.bool true) ∧ w' = w := fun w => by
            have := HasPrefix_arr (s.extract k s.size) w
            rw [HE.out, h2] at this; exact this
          have HR := hid (show Wo.lets s.data.toList = k by
            rw [HL.out, HD.out, Wo.lets_cons, ← HD.out, H1.out, h2]; simp)
          clear h2
          go_wp2_with (first | (go_at_call 41; refine (q _).mono ?_; rintro e w' ⟨rfl, rfl⟩) | (go_at_call 42; refine (q2 _).mono ?_; rintro e w' ⟨rfl, rfl⟩))
          go_ret
          exact ⟨by rw [HR.out]; rfl, rfl⟩
    · have HR := hid (show Wo.lets s.data.toList = k by
        rw [HL.out, List.drop_of_length_le (by rw [← Lib.size_eq]; omega)]; rfl)
      go_wp2
      go_ret
      exact ⟨by rw [HR.out]; rfl, rfl⟩

/-- Is a text a sign? -/
def sgn (l : List UInt8) : Bool := match l with
  | [a] => Wo.sgl a.toNat
  | [a, b] => Wo.dbl a.toNat b.toNat
  | _ => false
theorem b_eq (a b : UInt8) : (a == b) = (a.toNat == b.toNat) := by
  rw [Bool.eq_iff_iff, beq_iff_eq, beq_iff_eq]
  exact ⟨fun h => h ▸ rfl, UInt8.toNat.inj⟩
theorem sgn_list (l : List UInt8) : sgn l = (l == [61, 61] || l == [60, 61] || l == [62, 61] || l == [45, 62] || l == [40] || l == [41] || l == [44] || l == [124] || l == [42] || l == [43] || l == [63] || l == [46] || l == [36] || l == [61] || l == [60] || l == [62]) := by
  match l with
  | [] => rfl
  | [a] =>
    show Wo.sgl a.toNat = _
    rw [Bool.eq_iff_iff]
    simp [Wo.sgl, b_eq, or_assoc]
  | [a, b] =>
    show Wo.dbl a.toNat b.toNat = _
    simp [Wo.dbl, b_eq]
  | a :: b :: c :: t => simp [sgn]

set_option maxHeartbeats 1000000 in
theorem Sign_any (s : ByteArray) (w : World) : Calls Tryd.prog 17 #[.string s] w fun e w' => e = .returned (.bool (sgn s.data.toList)) ∧ w' = w := by
  have HG := hid (sgn_list s.toList)
  rw [show s.data.toList = s.toList from (Lib.toList_data s).symm]
  go_enter Tryd.func17, Tryd.ntmps17
  go_wp2
  all_goals
    go_ret
    refine ⟨ret_bool ?_, rfl⟩
    rw [HG.out]
    clear HG
    simp_all

/-- The word with which a text begins, its signs of at most m bytes looked for. -/
def fsA (l : List UInt8) : Nat → Nat
  | 0 => Wo.lets l
  | m + 1 => if sgn (l.take (m + 1)) then m + 1 else fsA l m
theorem fsA_fst (l : List UInt8) : Wo.fst l = fsA l (min 2 l.length) := by
  match l with
  | [] => rfl
  | [a] => rfl
  | a :: b :: t =>
    have : min 2 (a :: b :: t).length = 2 := by simp only [List.length_cons]; omega
    rw [this]; rfl

set_option maxHeartbeats 1000000 in
theorem first_any (s : ByteArray) (w : World) (hs : s.size ≤ maxLen) : Calls Tryd.prog 43 #[.string s] w fun e w' => e = .returned (.int .i64 (Wo.fst s.data.toList : Int)) ∧ w' = w := by
  have HF := hid (fsA_fst s.data.toList)
  have hmin : ∀ w : World, (Builtin.min_ #[3, 3] 3 #[.int .i64 2, .int .i64 (s.size : Int)]).run Tryd.prog w = .ok (.int .i64 ((min 2 s.size : Nat) : Int)) w := by
    intro w
    rw [run_min_int2]
    congr 2
    split <;> omega
  go_enter Tryd.func43, Tryd.ntmps43
  go_wp2
  go_loop [3] (fun n => ∃ m : Nat, m ≤ s.size ∧ m ≤ 2 ∧ n = .int .i64 m ∧ Hid (Wo.fst s.data.toList = fsA s.data.toList m)) (fun n => (intOf n).toNat)
  case atStart => exact ⟨min 2 s.size, by omega, by omega, rfl, by show _ = _; rw [HF.out, ← Lib.size_eq]⟩
  case round =>
    obtain ⟨m, hm, hm2, rfl, HM⟩ := hrel
    clear hmin
    cases m with
    | zero =>
      go_wp2_with (go_at_call 26; refine (letters_any s _ hs).mono ?_; rintro e w' ⟨rfl, rfl⟩)
      go_ret
      exact ⟨ret_int (by rw [HM.out]; rfl), rfl⟩
    | succ m =>
      have hI : (0 : Int) < ((m + 1 : Nat) : Int) := by omega
      have hI1 : (0 : Int) ≤ ((m + 1 : Nat) : Int) := by omega
      have hI2 : ((m + 1 : Nat) : Int) ≤ (s.size : Int) := by omega
      have q := fun w => Sign_any (s.extract 0 (m + 1)) w
      rw [ext_take] at q
      rcases bool_two (sgn (s.data.toList.take (m + 1))) with h | h
      · have HR := hid (show Wo.fst s.data.toList = fsA s.data.toList m by rw [HM.out, fsA, h]; rfl)
        rw [h] at q
        clear h
        go_wp2_with (go_at_call 17; refine (q _).mono ?_; rintro e w' ⟨rfl, rfl⟩)
        go_round
        case rel => exact ⟨m, by omega, by omega, by go_num, HR⟩
        case measure => simp [intOf]
      · have HR := hid (show Wo.fst s.data.toList = m + 1 by rw [HM.out, fsA, h]; rfl)
        rw [h] at q
        clear h
        go_wp2_with (go_at_call 17; refine (q _).mono ?_; rintro e w' ⟨rfl, rfl⟩)
        go_ret
        exact ⟨ret_int (by rw [HR.out]; rfl), rfl⟩
end Go.Proofs.YtalmcdhohoplpaaDoor
