/-
  The document's own: why several are refused; do no two of several meet? And Apart of none.
-/
import Derived.Test.YtfgdikhpabapkaaView
namespace Go.Proofs.Ytfgdikhpabapkaa
open Go.RowKit
attribute [local go_sem ↓] Go.wp_at_zero Go.wp_at_succ

theorem wrong_list (ls : List (List UInt8)) (v : Value) (w : World) (hr : Row w v ls) (hn : ls.length ≤ 1000000) (hz : ∀ l ∈ ls, l.length ≤ maxLen) :
    Calls Try.prog 31 #[v] w fun e w' => e = .returned (.int .i64 (errL ls)) ∧ Below w.heap.size w w' := by
  obtain ⟨ao, cap, rfl, hr⟩ := hr
  rcases hr with rfl | ⟨g, o, rfl, hg, hc⟩
  · exact wrong_none ao cap w
  · by_cases h0 : ls.length = 0
    · have : ls = [] := List.length_eq_zero_iff.1 h0
      subst this
      exact wrong_none _ cap w
    · have hsz : ∀ i, i < ls.length → (nth ls i).size ≤ maxLen := fun i hi => by
        rw [nth_size, nth_at hi]; exact hz _ (List.getElem_mem hi)
      rcases errL_cases ls with e | ⟨e, h1, m, hm, h2⟩ | ⟨e, m, hm, h1, h2⟩
      · rw [e]
        obtain ⟨q1, q2⟩ := errL_zero e
        exact wrong_rest (nth ls) ls.length g o cap w (row_cells hc) (by omega) hn hsz q1 0 (Or.inl ⟨rfl, fun i hi => by rw [nth_size, nth_size]; exact q2 i hi⟩)
      · rw [e]
        exact wrong_rest (nth ls) ls.length g o cap w (row_cells hc) (by omega) hn hsz h1 11 (Or.inr ⟨rfl, m, hm, by rw [nth_size, nth_size]; exact h2⟩)
      · rw [e]
        exact wrong_cube (nth ls) ls.length g o cap w (row_cells hc) hn hsz m hm h2 h1

set_option maxHeartbeats 1000000 in
theorem RApart_bad (ls : List (List UInt8)) (v : Value) (w : World) (hr : Row w v ls) (hn : ls.length ≤ 1000000) (hz : ∀ l ∈ ls, l.length ≤ maxLen) (he : errL ls ≠ 0) :
    Calls Try.prog 23 #[v] w fun e w' => e = .returned (.tuple #[.bool false, .int .i64 (errL ls)]) ∧ Below w.heap.size w w' := by
  have hne : (errL ls != 0) = true := by rw [bne_iff_ne]; exact he
  have HR := hid hr
  have HZ := hid hz
  clear he hr hz
  go_enter Try.func23, Try.ntmps23
  go_wp2_with fail
  refine (wrong_list ls v w HR.out hn HZ.out).mono ?_
  rintro e w1 ⟨rfl, hb1⟩
  go_wp2
  go_ret2
  exact ⟨rfl, hb1⟩

set_option maxHeartbeats 1000000 in
theorem RApart_none (ao : Option Addr) (cap : Nat) (w : World) :
    Calls Try.prog 23 #[.slice ao 0 cap] w fun e w' => e = .returned (.tuple #[.bool true, .int .i64 0]) ∧ Below w.heap.size w w' := by
  go_enter Try.func23, Try.ntmps23
  go_wp2_with fail
  refine (wrong_none ao cap w).mono ?_
  rintro e w1 ⟨rfl, hb1⟩
  go_wp2
  refine wp_loop_rounds 1 ?_
  rw [rounds_succ]
  go_wp2
  go_ret2
  exact ⟨rfl, hb1⟩

set_option maxHeartbeats 4000000 in
theorem RApart_ok (ls : List (List UInt8)) (v : Value) (w : World) (hr : Row w v ls) (h0 : 0 < ls.length) (hn : ls.length ≤ 1000000) (hz : ∀ l ∈ ls, l.length ≤ maxLen) (he : errL ls = 0) :
    Calls Try.prog 23 #[v] w fun e w' => e = .returned (.tuple #[.bool (apartB ls), .int .i64 0]) ∧ Below w.heap.size w w' := by
  have HRW := hid hr
  have HZ := hid hz
  have H := hid he
  have HE := hid (errL_zero he)
  obtain ⟨ao, cap, rfl, hr⟩ := hr
  obtain ⟨g, o, rfl, hg, hc⟩ : ∃ g o, ao = some ⟨g, o, none⟩ ∧ g < w.heap.size ∧ ∀ i (h : i < ls.length), w.cell? ⟨g, o + i, none⟩ = some (sv ls[i]) := by
    rcases hr with rfl | hr
    · simp at h0
    · exact hr
  have HC := hid (row_cells hc)
  clear hc hz he
  obtain ⟨n, hnn⟩ : ∃ n, n = ls.length := ⟨_, rfl⟩
  have HN := hid hnn
  have HNL := hid hn
  rw [← hnn] at h0 hn HRW
  rw [← hnn]
  clear hnn
  go_enter Try.func23, Try.ntmps23
  go_wp2_with fail
  have q := wrong_list ls _ w HRW.out HNL.out HZ.out
  rw [H.out] at q
  refine q.mono ?_
  clear q
  rintro e w1 ⟨rfl, hb1⟩
  go_wp2
  go_loopw [5] (fun i wr => ∃ k : Nat, k ≤ n ∧ i = .int .i64 k ∧ Hid (∀ i, i < k → ∀ j, j < i → Cu.meetsB (ls.getD i []) (ls.getD j []) = false) ∧ Below w.heap.size w wr) (fun i _ => n - (intOf i).toNat)
  case atStart => exact ⟨0, Nat.zero_le _, rfl, fun i hi => absurd hi (Nat.not_lt_zero i), hb1⟩
  case round =>
    obtain ⟨k, hk, rfl, hpre, hbl⟩ := hrel
    rename World => wo
    by_cases hlt : k < n
    · go_wp2
      go_loopw [6] (fun i wq => ∃ j : Nat, j ≤ k ∧ i = .int .i64 j ∧ Hid (∀ i, i < j → Cu.meetsB (ls.getD k []) (ls.getD i []) = false) ∧ Below w.heap.size w wq) (fun i _ => k - (intOf i).toNat)
      case atStart => exact ⟨0, Nat.zero_le _, rfl, fun i hi => absurd hi (Nat.not_lt_zero i), hbl⟩
      case round =>
        obtain ⟨j, hj, rfl, hin, hbq⟩ := hrel
        by_cases hjk : j < k
        · have ck : wr.cell? ⟨g, o + k, none⟩ = some (.string (nth ls k)) := by rw [hbq.cell (by exact hg)]; exact HC.out k (by rw [← HN.out]; exact hlt)
          have cj : wr.cell? ⟨g, o + j, none⟩ = some (.string (nth ls j)) := by rw [hbq.cell (by exact hg)]; exact HC.out j (by rw [← HN.out]; omega)
          have hkI : (0 : Int) ≤ (k : Int) := by omega
          have hkI2 : (k : Int) < (n : Int) := by omega
          have hjI : (0 : Int) ≤ (j : Int) := by omega
          have hjI2 : (j : Int) < (n : Int) := by omega
          have hwq := hbq.size
          have HRK : Hid (Cu.right (nth ls k).data.toList = true) := HE.out.1 k (by rw [← HN.out]; exact hlt)
          have HRJ : Hid (Cu.right (nth ls j).data.toList = true) := HE.out.1 j (by rw [← HN.out]; omega)
          have HLL : Hid ((nth ls k).size = (nth ls j).size) := by
            show _ = _
            rw [nth_size, nth_size]
            exact (HE.out.2 k (by rw [← HN.out]; exact hlt)).trans (HE.out.2 j (by rw [← HN.out]; omega)).symm
          have HMM : Hid (Cu.meetsB (nth ls k).data.toList (nth ls j).data.toList = Cu.meetsB (ls.getD k []) (ls.getD j [])) := rfl
          rcases bool_two (Cu.meetsB (ls.getD k []) (ls.getD j [])) with hm | hm
          · have HM := hid hm
            clear hm
            go_wp2_with fail
            go_region_held3 (fun w' => w'.cell? ⟨g, o + k, none⟩ = some (.string (nth ls k)) ∧ w'.cell? ⟨g, o + j, none⟩ = some (.string (nth ls j))) (first | (go_keep; done) | exact hkeep) (first | (go_at_call 33; refine (both_any (nth ls k) (nth ls j) _ HRK.out HRJ.out HLL.out ByteArray.empty false (Or.inr ⟨rfl, HMM.out.trans HM.out, rfl⟩)).mono ?_; rintro e w2 ⟨rfl, hb2⟩; have hkeep : w2.cell? ⟨g, o + k, none⟩ = some (.string (nth ls k)) ∧ w2.cell? ⟨g, o + j, none⟩ = some (.string (nth ls j)) := ⟨(by rw [hb2.cell (by show g < wr.heap.size; omega)]; exact ck), (by rw [hb2.cell (by show g < wr.heap.size; omega)]; exact cj)⟩))
            have HB2 := hid (undrew hb2)
            clear ck cj hkeep hb2
            go_wp2
            go_roundw
            case rel =>
              refine ⟨j + 1, by omega, by go_num, fun i hi => ?_, hbq.trans (HB2.out.mono hwq)⟩
              by_cases e : i = j
              · rw [e]; exact HM.out
              · exact hin.out i (by omega)
            case measure => simp [intOf]; omega
          · have HM := hid hm
            clear hm
            go_wp2_with fail
            go_region_held3 (fun w' => w'.cell? ⟨g, o + k, none⟩ = some (.string (nth ls k)) ∧ w'.cell? ⟨g, o + j, none⟩ = some (.string (nth ls j))) (first | (go_keep; done) | exact hkeep) (first | (go_at_call 33; refine (both_any (nth ls k) (nth ls j) _ HRK.out HRJ.out HLL.out ⟨(Cu.meetL (nth ls k).data.toList (nth ls j).data.toList).toArray⟩ true (Or.inl ⟨rfl, HMM.out.trans HM.out, rfl⟩)).mono ?_; rintro e w2 ⟨rfl, hb2⟩; have hkeep : w2.cell? ⟨g, o + k, none⟩ = some (.string (nth ls k)) ∧ w2.cell? ⟨g, o + j, none⟩ = some (.string (nth ls j)) := ⟨(by rw [hb2.cell (by show g < wr.heap.size; omega)]; exact ck), (by rw [hb2.cell (by show g < wr.heap.size; omega)]; exact cj)⟩))
            have HB2 := hid (undrew hb2)
            clear ck cj hkeep hb2
            go_wp2
            go_ret2
            refine ⟨?_, hbq.trans (HB2.out.mono hwq)⟩
            have : apartB ls = false := decide_eq_false (fun h => by
              have := h k (by rw [← HN.out]; exact hlt) j hjk
              rw [HM.out] at this; cases this)
            rw [this]; rfl
        · have hjk3 : j = k := by omega
          subst hjk3
          go_wp2
          go_roundw
          case rel =>
            refine ⟨j + 1, by omega, by go_num, fun i hi i2 hi2 => ?_, hbq⟩
            by_cases e : i = j
            · subst e; exact hin.out i2 hi2
            · exact hpre.out i (by omega) i2 hi2
          case measure => simp [intOf]; omega
    · have hkn : k = n := by omega
      subst hkn
      go_wp2
      go_ret2
      refine ⟨?_, hbl⟩
      have : apartB ls = true := decide_eq_true (fun i hi j hj => hpre.out i (by rw [HN.out]; exact hi) j hj)
      rw [this]; rfl

theorem RApart_any (ls : List (List UInt8)) (v : Value) (w : World) (hr : Row w v ls) (hn : ls.length ≤ 1000000) (hz : ∀ l ∈ ls, l.length ≤ maxLen) :
    Calls Try.prog 23 #[v] w fun e w' => e = .returned (.tuple #[.bool (decide (errL ls = 0) && apartB ls), .int .i64 (errL ls)]) ∧ Below w.heap.size w w' := by
  by_cases he : errL ls = 0
  · rw [he]
    by_cases h0 : 0 < ls.length
    · exact RApart_ok ls v w hr h0 hn hz he
    · have : ls = [] := List.length_eq_zero_iff.1 (by omega)
      subst this
      obtain ⟨ao, cap, rfl, _⟩ := hr
      exact RApart_none ao cap w
  · have e : (decide (errL ls = 0) && apartB ls) = false := by simp [he]
    rw [e]
    exact RApart_bad ls v w hr hn hz he

set_option maxHeartbeats 1000000 in
theorem read_none (ao : Option Addr) (cap : Nat) (w : World) :
    Calls Try.prog 24 #[.slice ao 0 cap] w fun e w' => e = .returned (.tuple #[.slice (some ⟨w.heap.size + 2, 0, none⟩) 0 0, .int .i64 0]) ∧ Below w.heap.size w w' := by
  have hmf : ∀ (fn : Fn) (first cap : Array Value) (w : World), (Instr.makeFunc fn first cap).run Try.prog w = .ok (.func fn first cap) w := fun _ _ _ _ => rfl
  have hmk : ∀ w : World, (Instr.makeSlice 47 (.int .i64 0) (.int .i64 0)).run Try.prog w = .ok (.slice (some ⟨w.heap.size, 0, none⟩) 0 0) (w.alloc (.cells (made 0) 54)) := run_made 0 (by omega)
  go_enter_defers Try.func24, Try.ntmps24
  go_wp2
  refine wp_loop_rounds 1 ?_
  rw [rounds_succ]
  go_wp2
  refine wp_loop_rounds 1 ?_
  rw [rounds_succ]
  go_wp2
  refine leaves_cons (f := 38) (args := #[.pointer (some ⟨w.heap.size, 0, none⟩), .pointer (some ⟨w.heap.size + 1, 0, none⟩)]) (by simp) (by simp [go_sem]) ?_
  refine (catch_idle _ _ _).mono ?_
  rintro e u' w'' ⟨rfl, rfl, rfl⟩
  have R := start_three w (.cells #[.slice (some ⟨w.heap.size + 2, 0, none⟩) 0 0] 47 (0, 0)) (.cells #[.int .i64 0] 22 (0, 0)) (.cells (made 0) 54 (0, 0))
  refine ⟨.tuple #[.slice (some ⟨w.heap.size + 2, 0, none⟩) 0 0, .int .i64 0], ?_, rfl, ?_⟩
  · have c0 := cell_of_one R.1
    have c1 := cell_of_one R.2.1
    simp [results, Try.results24, go_sem, c0, c1]
  · exact R.2.2.2

set_option maxHeartbeats 1000000 in
theorem Apart_none (ao : Option Addr) (cap : Nat) (w : World) :
    Calls Try.prog 19 #[.slice ao 0 cap] w fun e w' => e = .returned (.tuple #[.bool true, .int .i64 0]) ∧ Below w.heap.size w w' := by
  go_enter Try.func19, Try.ntmps19
  go_wp2_with fail
  refine (read_none ao cap w).mono ?_
  rintro e w1 ⟨rfl, hb1⟩
  go_wp2
  refine wp_loop_rounds 1 ?_
  rw [rounds_succ]
  go_wp2
  go_ret2
  exact ⟨rfl, hb1⟩

theorem Apart_all (ls : List (List UInt8)) (v : Value) (w : World) (hr : Row w v ls) (hn : ls.length ≤ 1000000) :
    Calls Try.prog 19 #[v] w fun e w' => e = .returned (.tuple #[.bool (decide (errL ls = 0) && apartB ls), .int .i64 (errL ls)]) ∧ Below w.heap.size w w' := by
  by_cases h0 : 0 < ls.length
  · exact Apart_any ls v w hr h0 hn
  · have : ls = [] := List.length_eq_zero_iff.1 (by omega)
    subst this
    obtain ⟨ao, cap, rfl, _⟩ := hr
    exact Apart_none ao cap w
end Go.Proofs.Ytfgdikhpabapkaa
