/-
  The document's Check.
-/
import Derived.Test.YtibbbjikehkbmabDoorGChk
import Derived.Test.YtibbbjikehkbmabDoorGSame
namespace Go.Proofs.YtibbbjikehkbmabDoor.Ve
open Go.RowKit

theorem VecV.drew {w w' : World} {v : Value} {l : List St} (h : VecV w v l) (hb : ∃ n, w' = w.drewN n) : VecV w' v l := by
  obtain ⟨n, rfl⟩ := hb
  exact h.below (below_drewN (Below.refl _ _))
theorem drew_below {w w' : World} (hb : ∃ n, w' = w.drewN n) : Below w.heap.size w w' := by
  obtain ⟨n, rfl⟩ := hb
  exact below_drewN (Below.refl _ _)

set_option maxRecDepth 20000 in
set_option maxHeartbeats 4000000 in
theorem RCheck_any {w : World} {v : Value} {ls : List (List St)} (h : VecsV w v ls) (hm : ls.length ≤ maxLen) (hml : ∀ l ∈ ls, l.length ≤ maxLen) :
    Calls Tryd.prog 22 #[v] w fun e w' => e = .returned (.int .i64 (chkN ls)) ∧ ∃ n, w' = w.drewN n := by
  obtain ⟨ao, c, rfl, -, -, hr⟩ := h
  obtain ⟨n, hn⟩ : ∃ n, n = ls.length := ⟨_, rfl⟩
  have HN := hid hn
  rw [← hn] at hm ⊢
  have HR := hid hr
  have HML := hid hml
  unfold maxLen at hm
  clear hn hr hml
  go_enter Tryd.func22, Tryd.ntmps22
  go_wp2_with fail
  go_loopw [3, 4] (fun i _ wr => ∃ k : Nat, k ≤ n ∧ i = .int .i64 k ∧ Hid (∃ m, wr = w.drewN m) ∧ Hid (∀ l ∈ ls.take k, Right l)) (fun i _ _ => n - (intOf i).toNat)
  case atStart => exact ⟨0, Nat.zero_le _, rfl, ⟨0, rfl⟩, fun l hl => by simp at hl⟩
  case round =>
    obtain ⟨k, hk, rfl, HB, HA⟩ := hrel
    by_cases hlt : k < n
    · obtain ⟨l, hl⟩ : ∃ l, ls[k]? = some l := ⟨_, List.getElem?_eq_getElem (by rw [← HN.out]; exact hlt)⟩
      obtain ⟨g, o, rfl, hg, hc⟩ := HR.out.resolve_left (fun e => by rw [e] at hl; simp at hl)
      obtain ⟨vl, hvl, ao, cl, rfl, -, -, hrow⟩ := hc k l hl
      have hll := HML.out l (List.mem_of_getElem? hl)
      obtain ⟨m, hmm⟩ : ∃ m, m = l.length := ⟨_, rfl⟩
      rw [← hmm] at hvl hll
      have HM := hid hmm
      have HL := hid hl
      have HROW := hid hrow
      have HG := hid hg
      have HVL := hid hvl
      have kI : (k : Int) < (n : Int) := by omega
      have k0 : (0 : Int) ≤ (k : Int) := by omega
      unfold maxLen at hll
      rename World => wo
      clear hl hrow hc hmm hg hvl
      go_wp2_with fail
      go_loopw [4] (fun i wr => ∃ j : Nat, j ≤ m ∧ i = .int .i64 j ∧ Hid (∃ m, wr = w.drewN m) ∧ Hid (Right (l.take j))) (fun i _ => m - (intOf i).toNat)
      case atStart => exact ⟨0, Nat.zero_le _, rfl, HB.out, by show Right _; simp; exact right_nil⟩
      case round =>
        obtain ⟨j, hj, rfl, HB2, HA2⟩ := hrel
        have hB2 := drew_below HB2.out
        have hg := HG.out
        have hvl := (hB2.cell (p := ⟨g, o + k, none⟩) HG.out).trans HVL.out
        by_cases hjm : j < m
        · obtain ⟨⟨d, u⟩, hs⟩ : ∃ s, l[j]? = some s := ⟨_, List.getElem?_eq_getElem (by rw [← HM.out]; exact hjm)⟩
          obtain ⟨g', o', rfl, hg', hc'⟩ := (HROW.out.below hB2).resolve_left (fun e => by rw [e] at hs; simp at hs)
          obtain ⟨c0, c1⟩ := hc' j _ hs
          have HTK := hid (right_take hs)
          have HMEM := hid (List.mem_of_getElem? HL.out)
          simp only at c0 c1
          have jI : (j : Int) < (m : Int) := by omega
          have j0 : (0 : Int) ≤ (j : Int) := by omega
          have HD := hid (RDevice_any d)
          clear hB2
          rcases bool_two (devB d) with hd | hd
          · rw [hd] at HD
            have HE := hid (chkN_bad HMEM.out (not_right_of_take (k := j + 1) (fun q => devB_not.1 hd (HTK.out.1 q).2.1)))
            clear hd hs hc'
            go_wp2_with fail
            go_quiet (((go_at_call 23; exact Calls.quiet_of_same (HD.out _))))
            go_wp2
            go_ret
            exact ⟨by rw [HE.out]; rfl, drew_more HB2.out⟩
          · rw [hd] at HD
            have hdv := devB_iff.1 hd
            by_cases hj0 : j = 0
            · have HR2 := hid (show Right (l.take (j + 1)) from HTK.out.2 ⟨HA2.out, hdv, fun p t h => by omega⟩)
              have hjz : decide (0 < j) = false := by rw [hj0]; rfl
              clear hd hs hc' hj0
              go_wp2_with fail
              go_quiet (((go_at_call 23; exact Calls.quiet_of_same (HD.out _))))
              go_wp2
              go_roundw
              case rel => exact ⟨j + 1, by omega, by go_num, drew_more HB2.out, HR2.out⟩
              case measure => simp [intOf]; omega
            · obtain ⟨t, rfl⟩ : ∃ t, j = t + 1 := ⟨j - 1, by omega⟩
              obtain ⟨⟨d', u'⟩, hs'⟩ : ∃ s, l[t]? = some s := ⟨_, List.getElem?_eq_getElem (by have := HM.out; omega)⟩
              obtain ⟨p0, p1⟩ := hc' t _ hs'
              simp only at p0 p1
              have hw1 : IntKind.i64.wrap (((t + 1 : Nat) : Int) - 1) = (t : Int) := by rw [IntKind.wrap_i64]; omega
              have t0 : (0 : Int) ≤ (t : Int) := by omega
              have t1 : (t : Int) < (m : Int) := by omega
              have jp : (0 : Int) < ((t + 1 : Nat) : Int) := by omega
              by_cases hle : d ≤ d'
              · have HE := hid (chkN_bad HMEM.out (not_right_of_take (k := t + 1 + 1) (fun q => by
                  have := (HTK.out.1 q).2.2 t _ rfl hs'
                  simp only at this
                  omega)))
                clear hd hs hc' hs'
                go_wp2_with fail
                go_quiet (((go_at_call 23; exact Calls.quiet_of_same (HD.out _))))
                go_wp2
                go_ret
                exact ⟨by rw [HE.out]; rfl, drew_more HB2.out⟩
              · have HR2 := hid (show Right (l.take (t + 1 + 1)) from HTK.out.2 ⟨HA2.out, hdv, fun p x hp hx => by
                  obtain rfl : t = p := by omega
                  rw [hs'] at hx
                  cases hx
                  show d' < d
                  omega⟩)
                clear hd hs hc' hs'
                go_wp2_with fail
                go_quiet (((go_at_call 23; exact Calls.quiet_of_same (HD.out _))))
                go_wp2
                go_roundw
                case rel => exact ⟨t + 1 + 1, by omega, by go_num, drew_more HB2.out, HR2.out⟩
                case measure => simp [intOf]; omega
        · have hjm' : j = m := by omega
          have HR2 := hid (show ∀ x ∈ ls.take (k + 1), Right x from fun x hx => by
            have e : ls.take (k + 1) = ls.take k ++ [l] := by rw [List.take_add_one, HL.out]; rfl
            rw [e] at hx
            rcases List.mem_append.1 hx with hx | hx
            · exact HA.out x hx
            · rw [List.mem_singleton.1 hx]
              have := HA2.out
              rw [hjm', HM.out, List.take_length] at this
              exact this)
          have jI : ¬ (j : Int) < (m : Int) := by omega
          clear hjm' hB2
          go_wp2
          go_roundw
          case rel => exact ⟨k + 1, by omega, by go_num, HB2.out, HR2.out⟩
          case measure => simp [intOf]; omega
    · have hkn : k = n := by omega
      have kI : ¬ (k : Int) < (n : Int) := by omega
      have HE := hid (chkN_ok (ls := ls) (fun l hl => HA.out l (by rw [hkn, HN.out, List.take_length]; exact hl)))
      clear hkn
      go_wp2
      go_ret
      exact ⟨by rw [HE.out]; rfl, HB.out⟩
end Go.Proofs.YtibbbjikehkbmabDoor.Ve
