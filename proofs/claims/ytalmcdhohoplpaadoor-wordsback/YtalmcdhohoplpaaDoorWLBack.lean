/-
  The law WordsBack: of any texts it answers true.
-/
import Derived.Test.YtalmcdhohoplpaaDoorWLSay
namespace Go.Proofs.YtalmcdhohoplpaaDoor
open Go.RowKit

theorem sayL_len (ls : List (List UInt8)) (hn : ls.length ≤ 60) (h4 : ∀ l ∈ ls, l.length ≤ 4000) : (Wo.sayL ls).length ≤ 240060 := by
  rw [← Wo.sayTo_all]
  have := sayTo_len ls h4 ls.length
  omega
theorem back_read {ls : List (List UInt8)} (h : allW ls = true) (h0 : ls ≠ []) : Wo.err (Wo.sayL ls) = 0 ∧ Wo.faultL (Wo.sayL ls) = 0 ∧ Wo.faultC (Wo.sayL ls) = 0 ∧ ∃ ws, Wo.read (Wo.sayL ls) = [ws] ∧ ws.map (·.1) = ls := by
  have hw : ∀ l ∈ ls, Wo.isW l = true := List.all_eq_true.1 h
  obtain ⟨e2, ws, e1, em⟩ := Wo.read_say ls hw h0
  obtain ⟨k1, k2, k3, k4⟩ := text_well e2
  exact ⟨k4, k2, k3, ws, by rw [k1, e1], em⟩
theorem map_getD {ws : List Wo.Wd} {ls : List (List UInt8)} (h : ws.map (·.1) = ls) {i : Nat} {y : Wo.Wd} (hy : ws[i]? = some y) : y.1 = ls.getD i [] := by
  rw [← h, List.getD_eq_getElem?_getD, List.getElem?_map, hy]; rfl

/-- What the loop of WordsBack looks at. -/
structure Looks (w : World) (ls : List (List UInt8)) (g g2 cap2 gl ol : Nat) : Prop where
  row : w.cell? ⟨g, 0, none⟩ = some (.slice (some ⟨g2, 0, none⟩) ls.length cap2)
  word : ∀ i, i < ls.length → w.cell? ⟨g2, i * 3, none⟩ = some (.string (tx (ls.getD i [])))
  text : ∀ i, i < ls.length → w.cell? ⟨gl, ol + i, none⟩ = some (.string (tx (ls.getD i [])))
theorem looks_of {w : World} {B : Nat} {v vl : Value} {ls : List (List UInt8)} {ws : List Wo.Wd} (h : LinesAt w B v [ws]) (hm : ws.map (·.1) = ls) (h0 : ls ≠ []) (ht : Txs w vl ls) :
    ∃ g cap g2 cap2 gl ol capl, v = .slice (some ⟨g, 0, none⟩) 1 cap ∧ vl = .slice (some ⟨gl, ol, none⟩) ls.length capl ∧ Looks w ls g g2 cap2 gl ol := by
  have hl : ws.length = ls.length := by rw [← hm, List.length_map]
  have hlp : 0 < ls.length := List.length_pos_iff.2 h0
  obtain ⟨g, cap, hv, hg, hi⟩ := h.at (by simp)
  obtain ⟨g2, cap2, hg2, c0, hc⟩ := hi 0 ws rfl (by omega)
  obtain ⟨ao, capl, e, hr⟩ := ht
  rcases hr with hr | ⟨gl, ol, ea, _, hcl⟩
  · exact absurd hr h0
  · refine ⟨g, cap, g2, cap2, gl, ol, capl, by simpa using hv, by rw [e, ea], ⟨by rw [← hl]; exact c0, fun i hi' => ?_, hcl⟩⟩
    obtain ⟨y, hy⟩ : ∃ y, ws[i]? = some y := ⟨_, List.getElem?_eq_getElem (by omega)⟩
    rw [← map_getD hm hy]
    exact hc _ _ (flatW_at hy).1

set_option maxRecDepth 4000 in
set_option maxHeartbeats 4000000 in
theorem back_any (a0 : Option Addr) (len cap : Nat) (ss : List ByteArray) (w : World) (hv : Came w a0 len cap ss) :
    Calls Tryd.prog 6 #[.slice a0 len cap] w fun e w' => e = .returned (.bool true) ∧ Below w.heap.size w w' := by
  have hn := fewL_len ss len
  have h4 : ∀ l ∈ fewL ss len, l.length ≤ 4000 := fewT_short _ _
  have q0 := few_any a0 len cap ss w hv
  obtain ⟨ls, hls⟩ : ∃ ls, ls = fewL ss len := ⟨_, rfl⟩
  rw [← hls] at hn h4 q0
  clear hls hv
  have H4 := hid h4
  have q1 := fun (v : Value) (w : World) (h : Txs w v ls) => Say_any v ls w h hn H4.out
  clear h4
  rcases bool_two (allW ls) with hw | hw
  · have e1 : sayS ls = [] := by unfold sayS; rw [hw]; rfl
    have e2 : sayE ls = 31 := by unfold sayE; rw [hw]; rfl
    rw [e1, e2] at q1
    clear e1 e2 hw
    go_enter Tryd.func6, Tryd.ntmps6
    go_wp2_with fail
    refine q0.mono ?_
    clear q0
    rintro e w1 ⟨v, rfl, HT, hb1⟩
    go_wp2_with fail
    refine (q1 v w1 HT.out).mono ?_
    rintro e w2 ⟨rfl, hb2⟩
    have HB := hid (below_two hb1 hb2)
    clear hb1 hb2 q1
    go_wp2_with (first | (go_at_call 9; refine (alive_any _).mono ?_; rintro e w9 ⟨rfl, hb9⟩))
    go_ret
    exact ⟨rfl, below_two HB.out hb9⟩
  · have e1 : sayS ls = Wo.sayL ls := by unfold sayS; rw [hw]; rfl
    have e2 : sayE ls = 0 := by unfold sayE; rw [hw]; rfl
    rw [e1, e2] at q1
    have q2 := fun w => Lines_any (Wo.sayL ls) w (by have := sayL_len ls hn H4.out; omega)
    clear e1 e2
    by_cases h0 : ls = []
    · subst h0
      have q3 := fun w => Lines_any [] w (by simp)
      have r0 : Wo.read [] = [] ∧ Wo.faultL [] = 0 ∧ Wo.faultC [] = 0 ∧ Wo.err [] = 0 := by decide
      rw [r0.1, r0.2.1, r0.2.2.1, r0.2.2.2] at q3
      rw [show Wo.sayL [] = [] from rfl] at q1
      clear q2 r0 hw
      go_enter Tryd.func6, Tryd.ntmps6
      go_wp2_with fail
      refine q0.mono ?_
      clear q0
      rintro e w1 ⟨v, rfl, HT, hb1⟩
      go_wp2_with fail
      refine (q1 v w1 HT.out).mono ?_
      rintro e w2 ⟨rfl, hb2⟩
      obtain ⟨al, cl, rfl⟩ : ∃ al cl, v = .slice al 0 cl := by obtain ⟨al, cl, e, _⟩ := HT.out; exact ⟨al, cl, e⟩
      go_wp2_with fail
      refine (q3 w2).mono ?_
      rintro e w3 ⟨v3, rfl, HL3, hb3⟩
      obtain ⟨a3, c3, rfl⟩ := HL3.out.form
      have HB := hid (below_two (below_two hb1 hb2) hb3)
      clear hb1 hb2 hb3 q1 q3
      go_wp2
      refine wp_loop_rounds 1 ?_
      rw [rounds_succ]
      go_wp2_with (first | (go_at_call 9; refine (alive_any _).mono ?_; rintro e w9 ⟨rfl, hb9⟩))
      go_ret
      exact ⟨rfl, below_two HB.out hb9⟩
    · obtain ⟨k1, k2, k3, ws, k4, k5⟩ := back_read hw h0
      have hp : 0 < ls.length := List.length_pos_iff.2 h0
      rw [k1, k2, k3, k4] at q2
      have HM := hid k5
      have H0 := hid h0
      clear k1 k2 k3 k4 k5 hw h0
      obtain ⟨n, hnn⟩ : ∃ n, n = ls.length := ⟨_, rfl⟩
      have HN := hid hnn
      rw [← hnn] at hn hp
      clear hnn
      go_enter Tryd.func6, Tryd.ntmps6
      go_wp2_with fail
      refine q0.mono ?_
      clear q0
      rintro e w1 ⟨v, rfl, HT, hb1⟩
      go_wp2_with fail
      refine (q1 v w1 HT.out).mono ?_
      rintro e w2 ⟨rfl, hb2⟩
      go_wp2_with fail
      refine (q2 w2).mono ?_
      rintro e w3 ⟨v3, rfl, HL3, hb3⟩
      obtain ⟨g, c, g2, c2, gl, ol, cl, rfl, hvv, hlk⟩ := looks_of HL3.out HM.out H0.out (HT.out.below (below_two hb2 hb3))
      subst hvv
      have HK := hid hlk
      have HB := hid (below_two (below_two hb1 hb2) hb3)
      have hrow := hlk.row
      rw [← HN.out] at hrow ⊢
      clear hb1 hb2 hb3 q1 q2 hlk
      have hp1 : (0 : Int) < (n : Int) := by omega
      have hp2 : ((n : Int) == 0) = false := by rw [beq_eq_false_iff_ne]; omega
      have hp3 : ((n : Int) != (n : Int)) = false := by simp
      have hp4 : ¬ n = 0 := by omega
      go_wp2
      go_loopw [9] (fun i wr => ∃ k : Nat, k ≤ n ∧ i = .int .i64 k ∧ Hid (∃ m, wr = w3.drewN m)) (fun i _ => n - (intOf i).toNat)
      case atStart => exact ⟨0, Nat.zero_le _, rfl, 0, rfl⟩
      case round =>
        obtain ⟨k, hk, rfl, HW⟩ := hrel
        obtain ⟨m0, rfl⟩ := HW.out
        by_cases hlt : k < n
        · have ck := HK.out.word k (by rw [← HN.out]; exact hlt)
          have cl := HK.out.text k (by rw [← HN.out]; exact hlt)
          obtain ⟨x, hx⟩ : ∃ x, x = ls.getD k [] := ⟨_, rfl⟩
          rw [← hx] at ck cl
          clear hx
          have hkI : (0 : Int) ≤ (k : Int) := by omega
          have hkI2 : (k : Int) < (n : Int) := by omega
          go_wp2
          go_quiet (fail)
          go_wp2
          go_roundw
          case rel => exact ⟨k + 1, by omega, by go_num, _, rfl⟩
          case measure => simp [intOf]; omega
        · go_wp2_with (first | (go_at_call 9; refine (alive_any _).mono ?_; rintro e w9 ⟨rfl, hb9⟩))
          go_ret
          exact ⟨rfl, below_two (below_drewN HB.out) hb9⟩
end Go.Proofs.YtalmcdhohoplpaaDoor
