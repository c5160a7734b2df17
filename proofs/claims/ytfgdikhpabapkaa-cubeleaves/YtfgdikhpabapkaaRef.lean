/-
  The document's own functions on texts: Right, turned, wrong.
-/
import Derived.Test.YtfgdikhpabapkaaBoth
namespace Go.Proofs.Ytfgdikhpabapkaa
open Go.RowKit

theorem len_data (s : ByteArray) : s.data.toList.length = s.size := Array.length_toList

set_option maxHeartbeats 1000000 in
theorem Right_any (s : ByteArray) (w : World) (hs : s.size ≤ maxLen) :
    Calls Try.prog 35 #[.string s] w fun e w' => e = .returned (.bool (Cu.right s.data.toList)) ∧ w' = w := by
  unfold maxLen at hs
  go_enter Try.func35, Try.ntmps35
  go_wp2
  go_loop [3] (fun i => ∃ k : Nat, k ≤ s.size ∧ i = .int .i64 k ∧ Hid ((s.data.toList.take k).all Cu.sym = true)) (fun i => s.size - (intOf i).toNat)
  case atStart => exact ⟨0, Nat.zero_le _, rfl, by show _ = _; simp⟩
  case round =>
    obtain ⟨k, hk, rfl, hpre⟩ := hrel
    by_cases hlt : k < s.size
    · have HS : Hid (s.data.toList.take (k + 1) = s.data.toList.take k ++ [s[k]]) := take_snoc s k hlt
      by_cases hsym : Cu.sym s[k] = true
      · have HP : Hid ((s.data.toList.take (k + 1)).all Cu.sym = true) := by
          show _ = _
          rw [HS.out, List.all_append, hpre.out]; simp [hsym]
        rcases Cu.sym_cases hsym with hc | hc | hc
        · have hcn : (s[k].toNat : Int) = 48 := by rw [hc]; rfl
          clear hc hsym
          go_wp2
          go_round
          case rel => exact ⟨k + 1, by omega, by go_num, HP⟩
          case measure => simp [intOf]; omega
        · have hcn : (s[k].toNat : Int) = 49 := by rw [hc]; rfl
          clear hc hsym
          go_wp2
          go_round
          case rel => exact ⟨k + 1, by omega, by go_num, HP⟩
          case measure => simp [intOf]; omega
        · have hcn : (s[k].toNat : Int) = 120 := by rw [hc]; rfl
          clear hc hsym
          go_wp2
          go_round
          case rel => exact ⟨k + 1, by omega, by go_num, HP⟩
          case measure => simp [intOf]; omega
      · have n1 : ((s[k].toNat : Int) != 48) = true := by
          rw [bne_iff_ne]; intro h; exact hsym (by have : s[k] = 48 := UInt8.toNat.inj (by simp; omega); simp [Cu.sym, this])
        have n2 : ((s[k].toNat : Int) != 49) = true := by
          rw [bne_iff_ne]; intro h; exact hsym (by have : s[k] = 49 := UInt8.toNat.inj (by simp; omega); simp [Cu.sym, this])
        have n3 : ((s[k].toNat : Int) != 120) = true := by
          rw [bne_iff_ne]; intro h; exact hsym (by have : s[k] = 120 := UInt8.toNat.inj (by simp; omega); simp [Cu.sym, this])
        have HF : Hid (Cu.right s.data.toList = false) := by
          show _ = _
          have : s.data.toList.all Cu.sym = false := by
            rw [List.all_eq_false]
            exact ⟨s[k], by show s.data[k] ∈ s.data.toList; simp, hsym⟩
          simp [Cu.right, this]
        clear hsym
        go_wp2
        go_ret
        exact ⟨by rw [HF.out]; rfl, rfl⟩
    · have hkk : k = s.size := by omega
      subst hkk
      have HE : Hid (s.data.toList.all Cu.sym = true) := by
        have := hpre.out
        rw [List.take_of_length_le (by simp)] at this
        exact this
      by_cases he : s.size = 0
      · have hemp : s.toList.isEmpty = true := by rw [ByteArray.toList_eq]; exact List.isEmpty_iff_length_eq_zero.2 (by rw [len_data]; exact he)
        have HF : Hid (Cu.right s.data.toList = false) := by
          show _ = _
          have : ¬ (1 ≤ s.data.toList.length) := by rw [len_data]; omega
          simp only [Cu.right, this, decide_false, Bool.and_false, Bool.false_and]
        clear he
        go_wp2
        go_ret
        exact ⟨by rw [HF.out]; rfl, rfl⟩
      · have hemp : s.toList.isEmpty = false := by
          rw [ByteArray.toList_eq, ← Bool.not_eq_true]
          exact fun h => he (by have := List.isEmpty_iff_length_eq_zero.1 h; rw [len_data] at this; exact this)
        have HF : Hid (Cu.right s.data.toList = decide ((s.size : Int) ≤ 128)) := by
          show _ = _
          have h1 : 1 ≤ s.data.toList.length := by rw [len_data]; omega
          simp only [Cu.right, HE.out, h1, decide_true, Bool.true_and]
          apply decide_eq_decide.2
          rw [len_data]
          omega
        clear he
        go_wp2
        go_ret
        exact ⟨by rw [HF.out]; rfl, rfl⟩

set_option maxHeartbeats 400000 in
theorem turned_any (c : Int) (w : World) : Calls Try.prog 42 #[.int .u8 c] w fun e w' => e = .returned (.int .u8 (if c = 48 then 49 else 48)) ∧ w' = w := by
  by_cases h : c = 48
  · have hb : (c == 48) = true := beq_iff_eq.2 h
    rw [if_pos h]
    clear h
    go_enter Try.func42, Try.ntmps42
    go_wp2
    go_ret
    exact ⟨rfl, rfl⟩
  · have hb : (c == 48) = false := beq_eq_false_iff_ne.2 h
    rw [if_neg h]
    clear h
    go_enter Try.func42, Try.ntmps42
    go_wp2
    go_ret
    exact ⟨rfl, rfl⟩

set_option maxHeartbeats 1000000 in
theorem wrong_none (ao : Option Addr) (cap : Nat) (w : World) :
    Calls Try.prog 31 #[.slice ao 0 cap] w fun e w' => e = .returned (.int .i64 0) ∧ Below w.heap.size w w' := by
  go_enter Try.func31, Try.ntmps31
  go_wp2
  refine wp_loop_rounds 1 ?_
  rw [rounds_succ]
  go_wp2
  refine wp_loop_rounds 1 ?_
  rw [rounds_succ]
  go_wp2
  go_ret
  exact ⟨rfl, Below.refl _ _⟩

set_option maxHeartbeats 1000000 in
theorem wrong_cube (S : Nat → ByteArray) (n b o cap : Nat) (w : World) (hc : ∀ i, i < n → w.cell? ⟨b, o + i, none⟩ = some (.string (S i)))
    (hn : n ≤ 1000000) (hsz : ∀ i, i < n → (S i).size ≤ maxLen) (m : Nat) (hm : m < n) (hr : ∀ i, i < m → Cu.right (by_ S i) = true) (hw : Cu.right (by_ S m) = false) :
    Calls Try.prog 31 #[.slice (some ⟨b, o, none⟩) n cap] w fun e w' => e = .returned (.int .i64 10) ∧ Below w.heap.size w w' := by
  have HC : Hid (∀ i, i < n → w.cell? ⟨b, o + i, none⟩ = some (.string (S i))) := hc
  have HZ : Hid (∀ i, i < n → (S i).size ≤ maxLen) := hsz
  have HR : Hid (∀ i, i < m → Cu.right (by_ S i) = true) := hr
  have HW : Hid (Cu.right (by_ S m) = false) := hw
  clear hc hsz hr hw
  go_enter Try.func31, Try.ntmps31
  go_wp2
  go_loop [3] (fun i => ∃ k : Nat, k ≤ m ∧ i = .int .i64 k) (fun i => m + 1 - (intOf i).toNat)
  case atStart => exact ⟨0, Nat.zero_le _, rfl⟩
  case round =>
    obtain ⟨k, hk, rfl⟩ := hrel
    have hlt : k < n := by omega
    have hck : w.cell? ⟨b, o + k, none⟩ = some (.string (S k)) := HC.out k hlt
    by_cases hkm : k < m
    · go_wp2_with fail
      have q := Right_any (S k) w (HZ.out k hlt)
      rw [HR.out k hkm] at q
      refine q.mono ?_
      clear q
      rintro e w1 ⟨rfl, rfl⟩
      go_wp2
      go_round
      case rel => exact ⟨k + 1, by omega, by go_num⟩
      case measure => simp [intOf]; omega
    · have e : k = m := by omega
      subst e
      go_wp2_with fail
      have q := Right_any (S k) w (HZ.out k hlt)
      rw [HW.out] at q
      refine q.mono ?_
      clear q
      rintro e w1 ⟨rfl, rfl⟩
      go_wp2
      go_ret
      exact ⟨rfl, Below.refl _ _⟩

set_option maxHeartbeats 1000000 in
theorem wrong_rest (S : Nat → ByteArray) (n b o cap : Nat) (w : World) (hc : ∀ i, i < n → w.cell? ⟨b, o + i, none⟩ = some (.string (S i)))
    (hn0 : 0 < n) (hn : n ≤ 1000000) (hsz : ∀ i, i < n → (S i).size ≤ maxLen) (hr : ∀ i, i < n → Cu.right (by_ S i) = true) (r : Int)
    (hw : (r = 0 ∧ ∀ i, i < n → (S i).size = (S 0).size) ∨ (r = 11 ∧ ∃ m, m < n ∧ (S m).size ≠ (S 0).size)) :
    Calls Try.prog 31 #[.slice (some ⟨b, o, none⟩) n cap] w fun e w' => e = .returned (.int .i64 r) ∧ Below w.heap.size w w' := by
  have HC : Hid (∀ i, i < n → w.cell? ⟨b, o + i, none⟩ = some (.string (S i))) := hc
  have HZ : Hid (∀ i, i < n → (S i).size ≤ maxLen) := hsz
  have HR : Hid (∀ i, i < n → Cu.right (by_ S i) = true) := hr
  have HW : Hid ((r = 0 ∧ ∀ i, i < n → (S i).size = (S 0).size) ∨ (r = 11 ∧ ∃ m, m < n ∧ (S m).size ≠ (S 0).size)) := hw
  clear hc hsz hr hw
  go_enter Try.func31, Try.ntmps31
  go_wp2
  go_loop [3] (fun i => ∃ k : Nat, k ≤ n ∧ i = .int .i64 k) (fun i => n - (intOf i).toNat)
  case atStart => exact ⟨0, Nat.zero_le _, rfl⟩
  case round =>
    obtain ⟨k, hk, rfl⟩ := hrel
    by_cases hlt : k < n
    · have hck : w.cell? ⟨b, o + k, none⟩ = some (.string (S k)) := HC.out k hlt
      go_wp2_with fail
      have q := Right_any (S k) w (HZ.out k hlt)
      rw [HR.out k hlt] at q
      refine q.mono ?_
      clear q
      rintro e w1 ⟨rfl, rfl⟩
      go_wp2
      go_round
      case rel => exact ⟨k + 1, by omega, by go_num⟩
      case measure => simp [intOf]; omega
    · have hkn : k = n := by omega
      subst hkn
      have hc0 : w.cell? ⟨b, o, none⟩ = some (.string (S 0)) := HC.out 0 hn0
      go_wp2
      go_loopw [4] (fun i wr => ∃ j : Nat, 1 ≤ j ∧ j ≤ k ∧ i = .int .i64 j ∧ Hid (∀ i, i < j → (S i).size = (S 0).size) ∧ ∃ nq, wr = w.drewN nq) (fun i _ => k - (intOf i).toNat)
      case atStart =>
        refine ⟨1, Nat.le_refl _, hn0, rfl, fun i hi => ?_, 0, rfl⟩
        have e : i = 0 := by omega
        rw [e]
      case round =>
        obtain ⟨j, hj1, hj, rfl, hpre, nq0, rfl⟩ := hrel
        by_cases hjn : j < k
        · have hcj : w.cell? ⟨b, o + j, none⟩ = some (.string (S j)) := HC.out j hjn
          have hjI : (0 : Int) ≤ (j : Int) := by omega
          have hjI2 : (j : Int) < (k : Int) := by omega
          have h0I : (0 : Int) < (k : Int) := by omega
          by_cases hsame : (S j).size = (S 0).size
          · have hne : (((S j).size : Int) != ((S 0).size : Int)) = false := by rw [hsame]; simp
            have HSM : Hid ((S j).size = (S 0).size) := hsame
            clear hsame
            go_wp2
            go_quiet (fail)
            go_wp2
            go_roundw
            case rel =>
              refine ⟨j + 1, by omega, by omega, by go_num, fun i hi => ?_, nq0 + nq, ?_⟩
              · by_cases e : i = j
                · rw [e]; exact HSM.out
                · exact hpre.out i (by omega)
              · simp [World.drewN]
            case measure => simp [intOf]; omega
          · have hne : (((S j).size : Int) != ((S 0).size : Int)) = true := by rw [bne_iff_ne]; omega
            have HSM : Hid ((S j).size ≠ (S 0).size) := hsame
            clear hsame
            go_wp2
            go_quiet (fail)
            go_wp2
            go_ret
            refine ⟨?_, below_drewN' (below_drewN' (Below.refl _ _))⟩
            rcases HW.out with ⟨_, h⟩ | ⟨h, _⟩
            · exact absurd (h j hjn) HSM.out
            · rw [h]; rfl
        · go_wp2
          go_ret
          refine ⟨?_, below_drewN' (Below.refl _ _)⟩
          rcases HW.out with ⟨h, _⟩ | ⟨_, m, hm, h⟩
          · rw [h]; rfl
          · exact absurd (hpre.out m (by omega)) h
end Go.Proofs.Ytfgdikhpabapkaa
