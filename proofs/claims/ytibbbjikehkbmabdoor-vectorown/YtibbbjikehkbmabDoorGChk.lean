/-
  Check: which vectors may be; both sides.
-/
import Derived.Test.YtibbbjikehkbmabDoorGDev
namespace Go.Proofs.YtibbbjikehkbmabDoor.Ve
open Go.RowKit

theorem devB_iff {d : Int} : devB d = true ↔ 0 ≤ d ∧ d < 256 := by unfold devB; exact decide_eq_true_iff
theorem devB_not {d : Int} : devB d = false ↔ ¬ (0 ≤ d ∧ d < 256) := by unfold devB; exact decide_eq_false_iff_not
theorem chkN_ok {ls : List (List St)} (h : ∀ l ∈ ls, Right l) : chkN ls = 0 := by unfold chkN; rw [if_pos h]
theorem chkN_bad {ls : List (List St)} {l : List St} (hl : l ∈ ls) (h : ¬ Right l) : chkN ls = 160 := by unfold chkN; rw [if_neg (fun q => h (q l hl))]
theorem not_right_of_take {l : List St} {k : Nat} (h : ¬ Right (l.take k)) : ¬ Right l := fun q => h (right_of_take q k)

set_option maxRecDepth 20000 in
set_option maxHeartbeats 4000000 in
theorem Check_any {w : World} {v : Value} {ls : List (List St)} (h : VecsV w v ls) (hm : ls.length ≤ maxLen) (hml : ∀ l ∈ ls, l.length ≤ maxLen) :
    Calls Tryd.prog 16 #[v] w fun e w' => e = .returned (.int .i64 (chkN ls)) ∧ Below w.heap.size w w' := by
  obtain ⟨ao, c, rfl, -, -, hr⟩ := h
  obtain ⟨n, hn⟩ : ∃ n, n = ls.length := ⟨_, rfl⟩
  have HN := hid hn
  rw [← hn] at hm ⊢
  have HR := hid hr
  have HML := hid hml
  unfold maxLen at hm
  clear hn hr hml
  go_enter Tryd.func16, Tryd.ntmps16
  go_wp2_with fail
  go_loopw [4, 5, 6, 9, 13, 14, 15] (fun _ _ _ i _ _ _ wr => ∃ k : Nat, k ≤ n ∧ i = .int .i64 k ∧ Hid (Below w.heap.size w wr) ∧ Hid (∀ l ∈ ls.take k, Right l)) (fun _ _ _ i _ _ _ _ => n - (intOf i).toNat)
  case atStart => exact ⟨0, Nat.zero_le _, rfl, Below.refl _ _, fun l hl => by simp at hl⟩
  case round =>
    obtain ⟨k, hk, rfl, HB, HA⟩ := hrel
    by_cases hlt : k < n
    · obtain ⟨l, hl⟩ : ∃ l, ls[k]? = some l := ⟨_, List.getElem?_eq_getElem (by rw [← HN.out]; exact hlt)⟩
      obtain ⟨g, o, rfl, hg, hc⟩ := (HR.out.below HB.out).resolve_left (fun e => by rw [e] at hl; simp at hl)
      obtain ⟨vl, hvl, ao, cl, rfl, -, -, hrow⟩ := hc k l hl
      have hll := HML.out l (List.mem_of_getElem? hl)
      obtain ⟨m, hmm⟩ : ∃ m, m = l.length := ⟨_, rfl⟩
      rw [← hmm] at hvl hll
      have HM := hid hmm
      have HL := hid hl
      have HROW := hid hrow
      have kI : (k : Int) < (n : Int) := by omega
      have k0 : (0 : Int) ≤ (k : Int) := by omega
      unfold maxLen at hll
      rename World => wo
      clear hl hrow hc hmm
      go_wp2_with fail
      go_loopw [5, 6, 15] (fun _ _ i wr => ∃ j : Nat, j ≤ m ∧ i = .int .i64 j ∧ Hid (Below wo.heap.size wo wr) ∧ Hid (Right (l.take j))) (fun _ _ i _ => m - (intOf i).toNat)
      case atStart => exact ⟨0, Nat.zero_le _, rfl, Below.refl _ _, by show Right _; simp; exact right_nil⟩
      case round =>
        obtain ⟨j, hj, rfl, HB2, HA2⟩ := hrel
        by_cases hjm : j < m
        · obtain ⟨⟨d, u⟩, hs⟩ : ∃ s, l[j]? = some s := ⟨_, List.getElem?_eq_getElem (by rw [← HM.out]; exact hjm)⟩
          obtain ⟨g', o', rfl, hg', hc'⟩ := (HROW.out.below HB2.out).resolve_left (fun e => by rw [e] at hs; simp at hs)
          obtain ⟨c0, c1⟩ := hc' j _ hs
          have HTK := hid (right_take hs)
          have HMEM := hid (List.mem_of_getElem? HL.out)
          have HBB := hid (below_tr HB.out HB2.out)
          simp only at c0 c1
          have jI : (j : Int) < (m : Int) := by omega
          have j0 : (0 : Int) ≤ (j : Int) := by omega
          have HD := hid (isDev_any d)
          rcases bool_two (devB d) with hd | hd
          · rw [hd] at HD
            have HE := hid (chkN_bad HMEM.out (not_right_of_take (k := j + 1) (fun q => devB_not.1 hd (HTK.out.1 q).2.1)))
            clear hd hs hc'
            go_wp2_with fail
            go_quiet (((go_at_call 17; exact Calls.quiet_of_same (HD.out _))))
            go_wp2
            go_ret
            exact ⟨by rw [HE.out]; rfl, below_drewN (HBB.out.alloc HBB.out.size _)⟩
          · rw [hd] at HD
            have hdv := devB_iff.1 hd
            by_cases hj0 : j = 0
            · have HR2 := hid (show Right (l.take (j + 1)) from HTK.out.2 ⟨HA2.out, hdv, fun p t h => by omega⟩)
              have hjz : decide (0 < j) = false := by rw [hj0]; rfl
              clear hd hs hc' hj0
              go_wp2_with fail
              go_quiet (((go_at_call 17; exact Calls.quiet_of_same (HD.out _))))
              go_wp2
              go_roundw
              case rel => exact ⟨j + 1, by omega, by go_num, below_drewN (HB2.out.alloc HB2.out.size _), HR2.out⟩
              case measure => simp [intOf]; omega
            · obtain ⟨t, rfl⟩ : ∃ t, j = t + 1 := ⟨j - 1, by omega⟩
              obtain ⟨⟨d', u'⟩, hs'⟩ : ∃ s, l[t]? = some s := ⟨_, List.getElem?_eq_getElem (by have := HM.out; omega)⟩
              obtain ⟨p0, p1⟩ := hc' t _ hs'
              simp only at p0 p1
              have hw1 : IntKind.i64.wrap (((t + 1 : Nat) : Int) - 1) = (t : Int) := by rw [IntKind.wrap_i64]; omega
              have t0 : (0 : Int) ≤ (t : Int) := by omega
              have t1 : (t : Int) < (m : Int) := by omega
              have jp : (0 : Int) < ((t + 1 : Nat) : Int) := by omega
              by_cases hle : d ≤ d'
              · have HE := hid (chkN_bad HMEM.out (not_right_of_take (k := t + 1 + 1) (fun q => by
                  have := (HTK.out.1 q).2.2 t _ rfl hs'
                  simp only at this
                  omega)))
                clear hd hs hc' hs'
                go_wp2_with fail
                go_quiet (((go_at_call 17; exact Calls.quiet_of_same (HD.out _))))
                go_wp2
                go_ret
                exact ⟨by rw [HE.out]; rfl, below_drewN (HBB.out.alloc HBB.out.size _)⟩
              · have HR2 := hid (show Right (l.take (t + 1 + 1)) from HTK.out.2 ⟨HA2.out, hdv, fun p x hp hx => by
                  obtain rfl : t = p := by omega
                  rw [hs'] at hx
                  cases hx
                  show d' < d
                  omega⟩)
                clear hd hs hc' hs'
                go_wp2_with fail
                go_quiet (((go_at_call 17; exact Calls.quiet_of_same (HD.out _))))
                go_wp2
                go_roundw
                case rel => exact ⟨t + 1 + 1, by omega, by go_num, below_drewN (HB2.out.alloc HB2.out.size _), HR2.out⟩
                case measure => simp [intOf]; omega
        · have hjm' : j = m := by omega
          have HR2 := hid (show ∀ x ∈ ls.take (k + 1), Right x from fun x hx => by
            have e : ls.take (k + 1) = ls.take k ++ [l] := by rw [List.take_add_one, HL.out]; rfl
            rw [e] at hx
            rcases List.mem_append.1 hx with hx | hx
            · exact HA.out x hx
            · rw [List.mem_singleton.1 hx]
              have := HA2.out
              rw [hjm', HM.out, List.take_length] at this
              exact this)
          have jI : ¬ (j : Int) < (m : Int) := by omega
          clear hjm'
          go_wp2
          go_roundw
          case rel => exact ⟨k + 1, by omega, by go_num, below_tr HB.out HB2.out, HR2.out⟩
          case measure => simp [intOf]; omega
    · have hkn : k = n := by omega
      have kI : ¬ (k : Int) < (n : Int) := by omega
      have HE := hid (chkN_ok (ls := ls) (fun l hl => HA.out l (by rw [hkn, HN.out, List.take_length]; exact hl)))
      clear hkn
      go_wp2
      go_ret
      exact ⟨by rw [HE.out]; rfl, HB.out⟩
end Go.Proofs.YtibbbjikehkbmabDoor.Ve
