/-
  Merge and Join: the program's.
-/
import Derived.Test.YtibbbjikehkbmabDoorGGath
namespace Go.Proofs.YtibbbjikehkbmabDoor.Ve
open Go.RowKit

/-- What Merge and Join come to. -/
def mrgP (ls : List (List St)) : List St × Bool × Int := if chkN ls = 0 then (if agrS ls.flatten then (joinS ls.flatten, true, 0) else ([], false, 0)) else ([], false, chkN ls)
def joinP (ls : List (List St)) : List St × Int := if chkN ls = 0 then (joinS ls.flatten, 0) else ([], chkN ls)
theorem right_all {ls : List (List St)} (h : chkN ls = 0) : ∀ l ∈ ls, Right l := by
  unfold chkN at h
  by_cases q : ∀ v ∈ ls, Right v
  · exact q
  · rw [if_neg q] at h; cases h
set_option maxRecDepth 20000 in
theorem Merge_any {w : World} {v : Value} {ls : List (List St)} (h : VecsV w v ls) (hm : ls.length ≤ maxLen) (hml : ∀ l ∈ ls, l.length ≤ maxLen) :
    Calls Tryd.prog 6 #[v] w fun e w' => ∃ v', e = .returned (.tuple #[v', .bool (mrgP ls).2.1, .int .i64 (mrgP ls).2.2]) ∧ OwnS w' w.heap.size v' (mrgP ls).1 ∧ Below w.heap.size w w' := by
  have HV := hid h
  have HC := hid (Check_any h hm hml)
  have HG := hid (fun W (hh : VecsV W v ls) (hr : ∀ l ∈ ls, Right l) => gathered_any ls.length (Nat.le_refl _) hh hr hm)
  obtain ⟨ao, c, rfl, -⟩ := h
  obtain ⟨n, hn⟩ : ∃ n, n = ls.length := ⟨_, rfl⟩
  rw [← hn] at HV HC HG ⊢
  clear hn hm
  rcases chkN_two ls with h0 | h0
  · rw [h0] at HC
    have HR := hid (right_all h0)
    by_cases ha : agrS ls.flatten
    · have HE := hid (show mrgP ls = (joinS ls.flatten, true, 0) by unfold mrgP; rw [if_pos h0, if_pos ha])
      have HD := hid (show decide (agrS ls.flatten) = true from decide_eq_true ha)
      clear h0 ha
      go_enter Tryd.func6, Tryd.ntmps6
      go_wp2_with fail
      refine HC.out.mono ?_
      rintro e w1 ⟨rfl, hb1⟩
      have HB1 := hid hb1
      clear hb1
      go_wp2_with fail
      refine (HG.out _ (HV.out.below HB1.out) HR.out).mono ?_
      rintro e w2 ⟨v2, rfl, ho, hb2⟩
      rw [HD.out]
      obtain ⟨a2, n2, c2, rfl⟩ : ∃ a n c, v2 = .slice a n c := by obtain ⟨a, c, e⟩ := ho.form; exact ⟨a, _, c, e⟩
      have HB2 := hid (below_tr HB1.out hb2)
      have HO := hid (own_mono ho HB1.out.size)
      clear ho hb2
      go_wp2
      refine bodyPost_ret (results_tmp3 (fn := Tryd.f6) rfl _ _ _) rfl ?_
      exact ⟨_, by rw [HE.out]; rfl, by rw [HE.out]; exact HO.out, HB2.out⟩
    · have HE := hid (show mrgP ls = ([], false, 0) by unfold mrgP; rw [if_pos h0, if_neg ha])
      have HD := hid (show decide (agrS ls.flatten) = false from decide_eq_false ha)
      clear h0 ha
      go_enter Tryd.func6, Tryd.ntmps6
      go_wp2_with fail
      refine HC.out.mono ?_
      rintro e w1 ⟨rfl, hb1⟩
      have HB1 := hid hb1
      clear hb1
      go_wp2_with fail
      refine (HG.out _ (HV.out.below HB1.out) HR.out).mono ?_
      rintro e w2 ⟨v2, rfl, ho, hb2⟩
      rw [HD.out]
      obtain ⟨a2, n2, c2, rfl⟩ : ∃ a n c, v2 = .slice a n c := by obtain ⟨a, c, e⟩ := ho.form; exact ⟨a, _, c, e⟩
      have HB2 := hid (below_tr HB1.out hb2)
      clear ho hb2
      go_wp2
      refine bodyPost_ret (results_tmp3 (fn := Tryd.f6) rfl _ _ _) rfl ?_
      exact ⟨_, by rw [HE.out]; rfl, by rw [HE.out]; exact World.ownsRow_nil _ _ _ _, HB2.out⟩
  · rw [h0] at HC
    have HE := hid (show mrgP ls = ([], false, 160) by unfold mrgP; rw [if_neg (by rw [h0]; decide), h0])
    clear h0
    go_enter Tryd.func6, Tryd.ntmps6
    go_wp2_with fail
    refine HC.out.mono ?_
    rintro e w1 ⟨rfl, hb1⟩
    go_wp2
    refine bodyPost_ret (results_tmp3 (fn := Tryd.f6) rfl _ _ _) rfl ?_
    exact ⟨_, by rw [HE.out]; rfl, by rw [HE.out]; exact World.ownsRow_nil _ _ _ _, hb1⟩
set_option maxRecDepth 20000 in
theorem Join_any {w : World} {v : Value} {ls : List (List St)} (h : VecsV w v ls) (hm : ls.length ≤ maxLen) (hml : ∀ l ∈ ls, l.length ≤ maxLen) :
    Calls Tryd.prog 7 #[v] w fun e w' => ∃ v', e = .returned (.tuple #[v', .int .i64 (joinP ls).2]) ∧ OwnS w' w.heap.size v' (joinP ls).1 ∧ Below w.heap.size w w' := by
  have HV := hid h
  have HC := hid (Check_any h hm hml)
  have HG := hid (fun W (hh : VecsV W v ls) (hr : ∀ l ∈ ls, Right l) => gathered_any ls.length (Nat.le_refl _) hh hr hm)
  obtain ⟨ao, c, rfl, -⟩ := h
  obtain ⟨n, hn⟩ : ∃ n, n = ls.length := ⟨_, rfl⟩
  rw [← hn] at HV HC HG ⊢
  clear hn hm
  rcases chkN_two ls with h0 | h0
  · rw [h0] at HC
    have HR := hid (right_all h0)
    have HE := hid (show joinP ls = (joinS ls.flatten, 0) by unfold joinP; rw [if_pos h0])
    clear h0
    go_enter Tryd.func7, Tryd.ntmps7
    go_wp2_with fail
    refine HC.out.mono ?_
    rintro e w1 ⟨rfl, hb1⟩
    have HB1 := hid hb1
    clear hb1
    go_wp2_with fail
    refine (HG.out _ (HV.out.below HB1.out) HR.out).mono ?_
    rintro e w2 ⟨v2, rfl, ho, hb2⟩
    obtain ⟨a2, n2, c2, rfl⟩ : ∃ a n c, v2 = .slice a n c := by obtain ⟨a, c, e⟩ := ho.form; exact ⟨a, _, c, e⟩
    have HB2 := hid (below_tr HB1.out hb2)
    have HO := hid (own_mono ho HB1.out.size)
    clear ho hb2
    go_wp2
    go_ret2
    exact ⟨_, by rw [HE.out]; rfl, by rw [HE.out]; exact HO.out, HB2.out⟩
  · rw [h0] at HC
    have HE := hid (show joinP ls = ([], 160) by unfold joinP; rw [if_neg (by rw [h0]; decide), h0])
    clear h0
    go_enter Tryd.func7, Tryd.ntmps7
    go_wp2_with fail
    refine HC.out.mono ?_
    rintro e w1 ⟨rfl, hb1⟩
    go_wp2
    go_ret2
    exact ⟨_, by rw [HE.out]; rfl, by rw [HE.out]; exact World.ownsRow_nil _ _ _ _, hb1⟩
end Go.Proofs.YtibbbjikehkbmabDoor.Ve
