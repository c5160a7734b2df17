/-
  The document's own functions on texts: Right, turned, wrong.
-/
import Derived.Test.YtenlmigdlibgeaaBoth
namespace Go.Proofs.Ytenlmigdlibgeaa
open Go.RowKit

theorem len_data (s : ByteArray) : s.data.toList.length = s.size := Array.length_toList

set_option maxHeartbeats 1000000 in
theorem Right_any (s : ByteArray) (w : World) (hs : s.size ≤ maxLen) :
    Calls Try.prog 11 #[.string s] w fun e w' => e = .returned (.bool (Cu.right s.data.toList)) ∧ w' = w := by
  unfold maxLen at hs
  go_enter Try.func11, Try.ntmps11
  go_wp2
  go_loop [3] (fun i => ∃ k : Nat, k ≤ s.size ∧ i = .int .i64 k ∧ Hid ((s.data.toList.take k).all Cu.sym = true)) (fun i => s.size - (intOf i).toNat)
  case atStart => exact ⟨0, Nat.zero_le _, rfl, by show _ = _; simp⟩
  case round =>
    obtain ⟨k, hk, rfl, hpre⟩ := hrel
    by_cases hlt : k < s.size
    · have HS : Hid (s.data.toList.take (k + 1) = s.data.toList.take k ++ [s[k]]) := take_snoc s k hlt
      by_cases hsym : Cu.sym s[k] = true
      · have HP : Hid ((s.data.toList.take (k + 1)).all Cu.sym = true) := by
          show _ = _
          rw [HS.out, List.all_append, hpre.out]; simp [hsym]
        rcases Cu.sym_cases hsym with hc | hc | hc
        · have hcn : (s[k].toNat : Int) = 48 := by rw [hc]; rfl
          clear hc hsym
          go_wp2
          go_round
          case rel => exact ⟨k + 1, by omega, by go_num, HP⟩
          case measure => simp [intOf]; omega
        · have hcn : (s[k].toNat : Int) = 49 := by rw [hc]; rfl
          clear hc hsym
          go_wp2
          go_round
          case rel => exact ⟨k + 1, by omega, by go_num, HP⟩
          case measure => simp [intOf]; omega
        · have hcn : (s[k].toNat : Int) = 120 := by rw [hc]; rfl
          clear hc hsym
          go_wp2
          go_round
          case rel => exact ⟨k + 1, by omega, by go_num, HP⟩
          case measure => simp [intOf]; omega
      · have n1 : ((s[k].toNat : Int) != 48) = true := by
          rw [bne_iff_ne]; intro h; exact hsym (by have : s[k] = 48 := UInt8.toNat.inj (by simp; omega); simp [Cu.sym, this])
        have n2 : ((s[k].toNat : Int) != 49) = true := by
          rw [bne_iff_ne]; intro h; exact hsym (by have : s[k] = 49 := UInt8.toNat.inj (by simp; omega); simp [Cu.sym, this])
        have n3 : ((s[k].toNat : Int) != 120) = true := by
          rw [bne_iff_ne]; intro h; exact hsym (by have : s[k] = 120 := UInt8.toNat.inj (by simp; omega); simp [Cu.sym, this])
        have HF : Hid (Cu.right s.data.toList = false) := by
          show _ = _
          have : s.data.toList.all Cu.sym = false := by
            rw [List.all_eq_false]
            exact ⟨s[k], by show s.data[k] ∈ s.data.toList; simp, hsym⟩
          simp [Cu.right, this]
        clear hsym
        go_wp2
        go_ret
        exact ⟨by rw [HF.out]; rfl, rfl⟩
    · have hkk : k = s.size := by omega
      subst hkk
      have HE : Hid (s.data.toList.all Cu.sym = true) := by
        have := hpre.out
        rw [List.take_of_length_le (by simp)] at this
        exact this
      by_cases he : s.size = 0
      · have hemp : s.toList.isEmpty = true := by rw [ByteArray.toList_eq]; exact List.isEmpty_iff_length_eq_zero.2 (by rw [len_data]; exact he)
        have HF : Hid (Cu.right s.data.toList = false) := by
          show _ = _
          have : ¬ (1 ≤ s.data.toList.length) := by rw [len_data]; omega
          simp only [Cu.right, this, decide_false, Bool.and_false, Bool.false_and]
        clear he
        go_wp2
        go_ret
        exact ⟨by rw [HF.out]; rfl, rfl⟩
      · have hemp : s.toList.isEmpty = false := by
          rw [ByteArray.toList_eq, ← Bool.not_eq_true]
          exact fun h => he (by have := List.isEmpty_iff_length_eq_zero.1 h; rw [len_data] at this; exact this)
        have HF : Hid (Cu.right s.data.toList = decide ((s.size : Int) ≤ 128)) := by
          show _ = _
          have h1 : 1 ≤ s.data.toList.length := by rw [len_data]; omega
          simp only [Cu.right, HE.out, h1, decide_true, Bool.true_and]
          apply decide_eq_decide.2
          rw [len_data]
          omega
        clear he
        go_wp2
        go_ret
        exact ⟨by rw [HF.out]; rfl, rfl⟩

end Go.Proofs.Ytenlmigdlibgeaa
