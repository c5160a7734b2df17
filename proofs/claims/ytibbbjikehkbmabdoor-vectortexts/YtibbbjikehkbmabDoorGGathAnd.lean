/-
  Text: the program's and the document's, of any vector.
  With: the program's.
  slices.Insert of one stamp into a row of one's own, any way.
  Merge and Join: the document's.
  Merge and Join: the program's.
  gathered: of each device of some vectors the greatest version, and whether they agree.
-/
import Derived.Test.YtibbbjikehkbmabDoorGBelAnd
import Derived.Test.YtibbbjikehkbmabDoorGTxtAnd
import Derived.Test.YtibbbjikehkbmabDoorGInsCAnd
namespace Go.Proofs.YtibbbjikehkbmabDoor.Ve
open Go.RowKit

theorem rows_take {w : World} {ao : Option Addr} {ls : List (List St)} (h : RowsIn w ao ls) (k : Nat) : RowsIn w ao (ls.take k) := by
  rcases h with rfl | ⟨g, o, e, hg, hc⟩
  · left; simp
  · refine Or.inr ⟨g, o, e, hg, fun j s hj => ?_⟩
    rw [List.getElem?_take] at hj
    split at hj
    · exact hc _ _ hj
    · cases hj
theorem rows_drop {w : World} {g o : Nat} {ls : List (List St)} (h : RowsIn w (some ⟨g, o, none⟩) ls) (k : Nat) : RowsIn w (some ⟨g, o + k, none⟩) (ls.drop k) := by
  rcases h with rfl | ⟨g', o', e, hg, hc⟩
  · left; simp
  · injection e with e
    injection e with e1 e2 _
    subst e1
    subst e2
    refine Or.inr ⟨g, o + k, rfl, hg, fun j s hj => ?_⟩
    rw [List.getElem?_drop] at hj
    have := hc _ _ hj
    rw [show o + k + j = o + (k + j) by omega]
    exact this
theorem agr_one {l : List St} (h : Right l) : agrS l := fun s hs t ht e => by rw [right_one h hs ht e]
theorem right_flat {ls : List (List St)} (h : ∀ l ∈ ls, Right l) : ∀ s ∈ ls.flatten, 0 ≤ s.1 ∧ s.1 < 256 := fun s hs => by
  obtain ⟨l, hl, hs⟩ := List.mem_flatten.1 hs
  exact (h l hl).1 s hs
theorem take_drop_flat (ls : List (List St)) (k : Nat) : (ls.take k).flatten ++ (ls.drop k).flatten = ls.flatten := by rw [← List.flatten_append, List.take_append_drop]
/-- Half and half. -/
theorem grt_flat {ls : List (List St)} (h : ∀ l ∈ ls, Right l) (k : Nat) : grt (joinS (ls.take k).flatten) (joinS (ls.drop k).flatten) = joinS ls.flatten := by
  have h1 : ∀ l ∈ ls.take k, Right l := fun l hl => h l (List.mem_of_mem_take hl)
  have h2 : ∀ l ∈ ls.drop k, Right l := fun l hl => h l (List.mem_of_mem_drop hl)
  have r1 := right_flat h1
  have r2 := right_flat h2
  rw [grt_join (mem_joinS r1).1 (mem_joinS r2).1, joinS_append r1 (fun s hs => (mem_joinS r2).1.1 s hs), ← take_drop_flat ls k]
  have hc : ∀ a b : List St, (∀ s ∈ a, 0 ≤ s.1 ∧ s.1 < 256) → (∀ s ∈ b, 0 ≤ s.1 ∧ s.1 < 256) → joinS (a ++ b) = joinS (b ++ a) := fun a b ha hb => joinS_congr (fun s hs => (List.mem_append.1 hs).elim (ha s) (hb s)) (fun s => by simp only [List.mem_append]; exact Or.comm)
  rw [hc _ _ r1 (fun s hs => (mem_joinS r2).1.1 s hs), joinS_append r2 r1, hc _ _ r2 r1]
theorem agr_flat {ls : List (List St)} (h : ∀ l ∈ ls, Right l) (k : Nat) : ((stepsV (joinS (ls.take k).flatten) (joinS (ls.drop k).flatten)).all agB && decide (agrS (ls.take k).flatten) && decide (agrS (ls.drop k).flatten)) = decide (agrS ls.flatten) := by
  have h1 : ∀ l ∈ ls.take k, Right l := fun l hl => h l (List.mem_of_mem_take hl)
  have h2 : ∀ l ∈ ls.drop k, Right l := fun l hl => h l (List.mem_of_mem_drop hl)
  have r1 := right_flat h1
  have r2 := right_flat h2
  rw [Bool.eq_iff_iff]
  simp only [Bool.and_eq_true, decide_eq_true_iff]
  rw [agr_spec _ _ (mem_joinS r1).1 (mem_joinS r2).1, ← take_drop_flat ls k, agrS_append r1 r2]
  constructor
  · rintro ⟨⟨a, b⟩, c⟩; exact ⟨b, c, a⟩
  · rintro ⟨b, c, a⟩; exact ⟨⟨a, b⟩, c⟩

theorem sizeVec (w : World) : (sizeOf (Tryd.prog.elem 36)).run Tryd.prog w = .ok 1 w := by
  have e : Tryd.prog.elem 36 = 23 := by kernel_rfl
  rw [e]
  simp [go_sem]
theorem undVs : Tryd.prog.underlying 36 = some (.slice (Tryd.prog.elem 36)) := by kernel_rfl
theorem cutr_take {w : World} {ao : Option Addr} {n c f : Nat} {ls : List (List St)} (h : VecsV w (.slice ao n c) ls) (hf : f ≤ ls.length) : ∃ a c', (∀ W, (Instr.slice 36 (.slice ao n c) none (some (.int .i64 (f : Int))) none).run Tryd.prog W = .ok (.slice a f c') W) ∧ VecsV w (.slice a f c') (ls.take f) := by
  obtain ⟨ao', c1, e, hc, hn, hr⟩ := h
  injection e with e1 e2 e3
  subst e1 e2 e3
  refine ⟨ao, c, fun W => ?_, ao, c, by rw [List.length_take, Nat.min_eq_left hf], by rw [List.length_take]; omega, hn, rows_take hr f⟩
  rw [run_slice_h W 36 ao ls.length c undVs .i64 (f : Int) (by omega) (by omega), sizeVec]
  simp [Result.andThen, sliced]
  intro _
  cases ao <;> simp [Addr.add]
theorem cutr_drop {w : World} {ao : Option Addr} {n c f : Nat} {ls : List (List St)} (h : VecsV w (.slice ao n c) ls) (hf : f ≤ ls.length) : ∃ a c', (∀ W, (Instr.slice 36 (.slice ao n c) (some (.int .i64 (f : Int))) none none).run Tryd.prog W = .ok (.slice a (ls.length - f) c') W) ∧ VecsV w (.slice a (ls.length - f) c') (ls.drop f) := by
  obtain ⟨ao', c1, e, hc, hn, hr⟩ := h
  injection e with e1 e2 e3
  subst e1 e2 e3
  refine ⟨if c = f then ao else ao.map (·.add f), c - f, fun W => ?_, if c = f then ao else ao.map (·.add f), c - f, by rw [List.length_drop], by rw [List.length_drop]; omega, fun q => ?_, ?_⟩
  · rw [run_slice_l W 36 ao ls.length c undVs .i64 (f : Int) (by omega) (by omega), sizeVec]
    simp [Result.andThen, sliced]
  · split at q
    · rename_i hcf; omega
    · cases ao with
      | none => rw [hn rfl]; omega
      | some p => cases q
  · split
    · rename_i hcf
      left
      exact List.drop_eq_nil_of_le (by omega)
    · cases ao with
      | none =>
        rcases hr with rfl | ⟨g, o, e, _⟩
        · left; simp
        · cases e
      | some p =>
        rcases hr with rfl | ⟨g, o, e, hg, hcell⟩
        · left; simp
        · injection e with e
          subst e
          have := rows_drop (Or.inr ⟨g, o, rfl, hg, hcell⟩) f
          rw [Option.map_some, addr_addS]
          exact this
set_option maxRecDepth 20000 in
set_option maxHeartbeats 2000000 in
theorem gathered_any : ∀ (m : Nat) {w : World} {v : Value} {ls : List (List St)}, ls.length ≤ m → VecsV w v ls → (∀ l ∈ ls, Right l) → ls.length ≤ maxLen →
    Calls Tryd.prog 21 #[v] w fun e w' => ∃ v', e = .returned (.tuple #[v', .bool (decide (agrS ls.flatten))]) ∧ OwnS w' w.heap.size v' (joinS ls.flatten) ∧ Below w.heap.size w w' := by
  intro m
  induction m with
  | zero =>
    intro w v ls hm h hr hmax
    have : ls = [] := List.eq_nil_of_length_eq_zero (by omega)
    subst this
    obtain ⟨ao, c, rfl, -⟩ := h
    go_enter Tryd.func21, Tryd.ntmps21
    go_wp2
    go_ret2
    exact ⟨.slice none 0 0, by rfl, World.ownsRow_nil _ _ _ _, Below.refl _ _⟩
  | succ m ih =>
    intro w v ls hm h hr hmax
    obtain ⟨ao, c, rfl, hc, hn, hrow⟩ := h
    obtain ⟨n, hnn⟩ : ∃ n, n = ls.length := ⟨_, rfl⟩
    have HN := hid hnn
    have HR := hid hr
    have HROW := hid hrow
    rw [← hnn] at hc hm hmax ⊢
    unfold maxLen at hmax
    clear hnn hr hrow
    by_cases h0 : n = 0
    · have hl : ls = [] := List.eq_nil_of_length_eq_zero (by rw [← HN.out]; exact h0)
      subst hl
      subst h0
      go_enter Tryd.func21, Tryd.ntmps21
      go_wp2
      go_ret2
      exact ⟨.slice none 0 0, by rfl, World.ownsRow_nil _ _ _ _, Below.refl _ _⟩
    · obtain ⟨g, o, rfl, hg, hcell⟩ := HROW.out.resolve_left (fun e => h0 (by rw [HN.out, e]; rfl))
      by_cases h1 : n = 1
      · obtain ⟨l, hl⟩ : ∃ l, ls = [l] := by
          have := HN.out
          rw [h1] at this
          exact List.length_eq_one_iff.1 this.symm
        subst hl
        subst h1
        obtain ⟨vl, hvl, hv⟩ := hcell 0 l rfl
        have hrl := HR.out l (by simp)
        have HC := hid (copyOf_any hv (by have := right_len hrl; omega))
        have HJ := hid (show joinS [l].flatten = l by simp; exact joinS_one hrl)
        have HA := hid (show decide (agrS [l].flatten) = true from decide_eq_true (by simp; exact agr_one hrl))
        obtain ⟨al, cl, rfl, -⟩ := hv
        rw [Nat.add_zero] at hvl
        clear hcell hrl
        go_enter Tryd.func21, Tryd.ntmps21
        go_wp2_with (first | (go_at_call 18; refine HC.out.mono ?_; rintro e w1 ⟨v', rfl, ho, hb⟩))
        go_ret2
        exact ⟨_, by rw [HA.out]; rfl, by rw [HJ.out]; exact ho, hb⟩
      · clear hcell
        obtain ⟨f, hf⟩ : ∃ f, f = n / 2 := ⟨_, rfl⟩
        have hfl : f ≤ ls.length := by have := HN.out; omega
        have hV : VecsV w (.slice (some ⟨g, o, none⟩) n c) ls := ⟨_, c, by rw [HN.out], by rw [← HN.out]; exact hc, fun q => (by cases q), HROW.out⟩
        obtain ⟨ta, tca, hta, vta⟩ := cutr_take hV hfl
        obtain ⟨da, dca, hda, vda⟩ := cutr_drop hV hfl
        obtain ⟨n1, hn1⟩ : ∃ n1, n1 = ls.length - f := ⟨_, rfl⟩
        rw [← hn1] at hda vda
        have HT := hid vta
        have HD := hid vda
        have r1 : ∀ l ∈ ls.take f, Right l := fun l hl => HR.out l (List.mem_of_mem_take hl)
        have r2 : ∀ l ∈ ls.drop f, Right l := fun l hl => HR.out l (List.mem_of_mem_drop hl)
        have q1 := (mem_joinS (right_flat r1)).1
        have q2 := (mem_joinS (right_flat r2)).1
        have HI1 := hid (fun W (h : VecsV W (.slice ta f tca) (ls.take f)) => ih (by rw [List.length_take]; have := HN.out; omega) h r1 (by unfold maxLen; rw [List.length_take]; have := HN.out; omega))
        have HI2 := hid (fun W (h : VecsV W (.slice da n1 dca) (ls.drop f)) => ih (by rw [List.length_drop]; have := HN.out; omega) h r2 (by unfold maxLen; rw [List.length_drop]; have := HN.out; omega))
        have HG := hid (fun W va vb (h1 : VecV W va (joinS (ls.take f).flatten)) (h2 : VecV W vb (joinS (ls.drop f).flatten)) => greatest_any h1 h2 q1 q2)
        have HE1 := hid (grt_flat HR.out f)
        have HE2 := hid (agr_flat HR.out f)
        have hq : Int.tdiv (n : Int) 2 = (f : Int) := by rw [Int.tdiv_eq_ediv_of_nonneg (by omega)]; omega
        have hq2 : (n : Int) / 2 = (f : Int) := by rw [hf]; omega
        have h0I : ((n : Int) == 0) = false := by rw [beq_eq_false_iff_ne]; omega
        have h1I : ((n : Int) == 1) = false := by rw [beq_eq_false_iff_ne]; omega
        have h0N : (n == 0) = false := by rw [beq_eq_false_iff_ne]; exact h0
        have h1N : (n == 1) = false := by rw [beq_eq_false_iff_ne]; exact h1
        clear hf vta vda hn1 hV hfl ih r1 r2 q1 q2 h0 h1
        go_enter Tryd.func21, Tryd.ntmps21
        go_wp2_with fail
        refine (HI1.out _ HT.out).mono ?_
        rintro e w1 ⟨va, rfl, ho1, hb1⟩
        have HO1 := hid ho1
        have HB1 := hid hb1
        obtain ⟨aa, na, ca, rfl⟩ : ∃ a n c, va = .slice a n c := by obtain ⟨a, c, e⟩ := ho1.form; exact ⟨a, _, c, e⟩
        clear ho1 hb1
        go_wp2_with fail
        refine (HI2.out _ (HD.out.below HB1.out)).mono ?_
        rintro e w2 ⟨vb, rfl, ho2, hb2⟩
        have HO2 := hid ho2
        have HB2 := hid hb2
        obtain ⟨ab, nb, cb, rfl⟩ : ∃ a n c, vb = .slice a n c := by obtain ⟨a, c, e⟩ := ho2.form; exact ⟨a, _, c, e⟩
        clear ho2 hb2
        go_wp2_with fail
        refine (HG.out _ _ _ (HO1.out.on HB2.out).vec HO2.out.vec).mono ?_
        rintro e w3 ⟨vc, rfl, ho3, hb3⟩
        obtain ⟨ac, nc, cc, rfl⟩ : ∃ a n c, vc = .slice a n c := by obtain ⟨a, c, e⟩ := ho3.form; exact ⟨a, _, c, e⟩
        have HB3 := hid (below_tr (below_tr HB1.out HB2.out) hb3)
        have HO3 := hid (show OwnS w3 w.heap.size (.slice ac nc cc) (joinS ls.flatten) by rw [← HE1.out]; exact own_mono ho3 (below_tr HB1.out HB2.out).size)
        clear ho3 hb3
        obtain ⟨x, hx⟩ : ∃ x, x = (stepsV (joinS (ls.take f).flatten) (joinS (ls.drop f).flatten)).all agB := ⟨_, rfl⟩
        obtain ⟨y, hy⟩ : ∃ y, y = decide (agrS (ls.take f).flatten) := ⟨_, rfl⟩
        obtain ⟨z, hz⟩ : ∃ z, z = decide (agrS (ls.drop f).flatten) := ⟨_, rfl⟩
        rw [← hx, ← hy, ← hz] at HE2
        rw [← hx, ← hy, ← hz]
        clear hx hy hz
        rcases bool_two x with e | e <;> rcases bool_two y with e' | e' <;> subst e <;> subst e'
        all_goals go_wp2
        all_goals go_ret2
        all_goals exact ⟨_, by rw [← HE2.out]; rfl, HO3.out, HB3.out⟩
end Go.Proofs.YtibbbjikehkbmabDoor.Ve
namespace Go.Proofs.YtibbbjikehkbmabDoor.Ve
open Go.RowKit

/-- What Merge and Join come to. -/
def mrgP (ls : List (List St)) : List St × Bool × Int := if chkN ls = 0 then (if agrS ls.flatten then (joinS ls.flatten, true, 0) else ([], false, 0)) else ([], false, chkN ls)
def joinP (ls : List (List St)) : List St × Int := if chkN ls = 0 then (joinS ls.flatten, 0) else ([], chkN ls)
theorem right_all {ls : List (List St)} (h : chkN ls = 0) : ∀ l ∈ ls, Right l := by
  unfold chkN at h
  by_cases q : ∀ v ∈ ls, Right v
  · exact q
  · rw [if_neg q] at h; cases h
set_option maxRecDepth 20000 in
theorem Merge_any {w : World} {v : Value} {ls : List (List St)} (h : VecsV w v ls) (hm : ls.length ≤ maxLen) (hml : ∀ l ∈ ls, l.length ≤ maxLen) :
    Calls Tryd.prog 6 #[v] w fun e w' => ∃ v', e = .returned (.tuple #[v', .bool (mrgP ls).2.1, .int .i64 (mrgP ls).2.2]) ∧ OwnS w' w.heap.size v' (mrgP ls).1 ∧ Below w.heap.size w w' := by
  have HV := hid h
  have HC := hid (Check_any h hm hml)
  have HG := hid (fun W (hh : VecsV W v ls) (hr : ∀ l ∈ ls, Right l) => gathered_any ls.length (Nat.le_refl _) hh hr hm)
  obtain ⟨ao, c, rfl, -⟩ := h
  obtain ⟨n, hn⟩ : ∃ n, n = ls.length := ⟨_, rfl⟩
  rw [← hn] at HV HC HG ⊢
  clear hn hm
  rcases chkN_two ls with h0 | h0
  · rw [h0] at HC
    have HR := hid (right_all h0)
    by_cases ha : agrS ls.flatten
    · have HE := hid (show mrgP ls = (joinS ls.flatten, true, 0) by unfold mrgP; rw [if_pos h0, if_pos ha])
      have HD := hid (show decide (agrS ls.flatten) = true from decide_eq_true ha)
      clear h0 ha
      go_enter Tryd.func6, Tryd.ntmps6
      go_wp2_with fail
      refine HC.out.mono ?_
      rintro e w1 ⟨rfl, hb1⟩
      have HB1 := hid hb1
      clear hb1
      go_wp2_with fail
      refine (HG.out _ (HV.out.below HB1.out) HR.out).mono ?_
      rintro e w2 ⟨v2, rfl, ho, hb2⟩
      rw [HD.out]
      obtain ⟨a2, n2, c2, rfl⟩ : ∃ a n c, v2 = .slice a n c := by obtain ⟨a, c, e⟩ := ho.form; exact ⟨a, _, c, e⟩
      have HB2 := hid (below_tr HB1.out hb2)
      have HO := hid (own_mono ho HB1.out.size)
      clear ho hb2
      go_wp2
      refine bodyPost_ret (results_tmp3 (fn := Tryd.f6) rfl _ _ _) rfl ?_
      exact ⟨_, by rw [HE.out]; rfl, by rw [HE.out]; exact HO.out, HB2.out⟩
    · have HE := hid (show mrgP ls = ([], false, 0) by unfold mrgP; rw [if_pos h0, if_neg ha])
      have HD := hid (show decide (agrS ls.flatten) = false from decide_eq_false ha)
      clear h0 ha
      go_enter Tryd.func6, Tryd.ntmps6
      go_wp2_with fail
      refine HC.out.mono ?_
      rintro e w1 ⟨rfl, hb1⟩
      have HB1 := hid hb1
      clear hb1
      go_wp2_with fail
      refine (HG.out _ (HV.out.below HB1.out) HR.out).mono ?_
      rintro e w2 ⟨v2, rfl, ho, hb2⟩
      rw [HD.out]
      obtain ⟨a2, n2, c2, rfl⟩ : ∃ a n c, v2 = .slice a n c := by obtain ⟨a, c, e⟩ := ho.form; exact ⟨a, _, c, e⟩
      have HB2 := hid (below_tr HB1.out hb2)
      clear ho hb2
      go_wp2
      refine bodyPost_ret (results_tmp3 (fn := Tryd.f6) rfl _ _ _) rfl ?_
      exact ⟨_, by rw [HE.out]; rfl, by rw [HE.out]; exact World.ownsRow_nil _ _ _ _, HB2.out⟩
  · rw [h0] at HC
    have HE := hid (show mrgP ls = ([], false, 160) by unfold mrgP; rw [if_neg (by rw [h0]; decide), h0])
    clear h0
    go_enter Tryd.func6, Tryd.ntmps6
    go_wp2_with fail
    refine HC.out.mono ?_
    rintro e w1 ⟨rfl, hb1⟩
    go_wp2
    refine bodyPost_ret (results_tmp3 (fn := Tryd.f6) rfl _ _ _) rfl ?_
    exact ⟨_, by rw [HE.out]; rfl, by rw [HE.out]; exact World.ownsRow_nil _ _ _ _, hb1⟩
set_option maxRecDepth 20000 in
theorem Join_any {w : World} {v : Value} {ls : List (List St)} (h : VecsV w v ls) (hm : ls.length ≤ maxLen) (hml : ∀ l ∈ ls, l.length ≤ maxLen) :
    Calls Tryd.prog 7 #[v] w fun e w' => ∃ v', e = .returned (.tuple #[v', .int .i64 (joinP ls).2]) ∧ OwnS w' w.heap.size v' (joinP ls).1 ∧ Below w.heap.size w w' := by
  have HV := hid h
  have HC := hid (Check_any h hm hml)
  have HG := hid (fun W (hh : VecsV W v ls) (hr : ∀ l ∈ ls, Right l) => gathered_any ls.length (Nat.le_refl _) hh hr hm)
  obtain ⟨ao, c, rfl, -⟩ := h
  obtain ⟨n, hn⟩ : ∃ n, n = ls.length := ⟨_, rfl⟩
  rw [← hn] at HV HC HG ⊢
  clear hn hm
  rcases chkN_two ls with h0 | h0
  · rw [h0] at HC
    have HR := hid (right_all h0)
    have HE := hid (show joinP ls = (joinS ls.flatten, 0) by unfold joinP; rw [if_pos h0])
    clear h0
    go_enter Tryd.func7, Tryd.ntmps7
    go_wp2_with fail
    refine HC.out.mono ?_
    rintro e w1 ⟨rfl, hb1⟩
    have HB1 := hid hb1
    clear hb1
    go_wp2_with fail
    refine (HG.out _ (HV.out.below HB1.out) HR.out).mono ?_
    rintro e w2 ⟨v2, rfl, ho, hb2⟩
    obtain ⟨a2, n2, c2, rfl⟩ : ∃ a n c, v2 = .slice a n c := by obtain ⟨a, c, e⟩ := ho.form; exact ⟨a, _, c, e⟩
    have HB2 := hid (below_tr HB1.out hb2)
    have HO := hid (own_mono ho HB1.out.size)
    clear ho hb2
    go_wp2
    go_ret2
    exact ⟨_, by rw [HE.out]; rfl, by rw [HE.out]; exact HO.out, HB2.out⟩
  · rw [h0] at HC
    have HE := hid (show joinP ls = ([], 160) by unfold joinP; rw [if_neg (by rw [h0]; decide), h0])
    clear h0
    go_enter Tryd.func7, Tryd.ntmps7
    go_wp2_with fail
    refine HC.out.mono ?_
    rintro e w1 ⟨rfl, hb1⟩
    go_wp2
    go_ret2
    exact ⟨_, by rw [HE.out]; rfl, by rw [HE.out]; exact World.ownsRow_nil _ _ _ _, hb1⟩
end Go.Proofs.YtibbbjikehkbmabDoor.Ve
namespace Go.Proofs.YtibbbjikehkbmabDoor.Ve
open Go.RowKit

theorem joinS_snoc (ss : List St) (s : St) : joinS (ss ++ [s]) = putM (joinS ss) s := by
  unfold joinS
  rw [List.foldl_append]
  rfl
theorem putV_same {v : List St} {s : St} (h : Right v) (hs : s ∈ v) : putV v s = v := by
  refine right_ext (putV_right h (h.1 s hs)) h fun t => ?_
  rw [mem_putV]
  constructor
  · rintro (rfl | ⟨ht, _⟩)
    · exact hs
    · exact ht
  · intro ht
    by_cases e : t.1 = s.1
    · exact Or.inl (right_one h ht hs e)
    · exact Or.inr ⟨ht, e⟩
/-- What find tells of a row that is right. -/
theorem fndP_none {v : List St} {d : Int} (h : (fndP v d).2 = false) : getV v d = none := by
  unfold fndP at h
  cases e : getV v d with
  | none => rfl
  | some n => rw [e] at h; cases h
theorem fndP_some {v : List St} {d : Int} (h : (fndP v d).2 = true) : getV v d = some (fndP v d).1 := by
  unfold fndP at h ⊢
  cases e : getV v d with
  | none => rw [e] at h; cases h
  | some n => rfl
theorem join_put {ss : List St} {s : St} (hd : ∀ t ∈ ss, 0 ≤ t.1 ∧ t.1 < 256) (h : (fndP (joinS ss) s.1).2 = false ∨ (fndP (joinS ss) s.1).1 ≤ s.2) : putV (joinS ss) s = joinS (ss ++ [s]) := by
  rw [joinS_snoc]
  unfold putM
  cases hb : (fndP (joinS ss) s.1).2 with
  | false => rw [fndP_none hb]
  | true =>
    rw [fndP_some hb]
    have hle := h.resolve_left (by rw [hb]; decide)
    by_cases q : (fndP (joinS ss) s.1).1 < s.2
    · simp [q]
    · have e : (fndP (joinS ss) s.1).1 = s.2 := by omega
      simp only [q, if_false]
      refine putV_same (mem_joinS hd).1 ?_
      have := get_mem (fndP_some hb)
      rw [e] at this
      exact this
theorem join_keep {ss : List St} {s : St} (h1 : (fndP (joinS ss) s.1).2 = true) (h2 : ¬ (fndP (joinS ss) s.1).1 < s.2) : joinS ss = joinS (ss ++ [s]) := by
  rw [joinS_snoc]
  unfold putM
  rw [fndP_some h1]
  simp [h2]
theorem agr_snoc {ss : List St} {s : St} (hd : ∀ t ∈ ss, 0 ≤ t.1 ∧ t.1 < 256) (ha : agrS ss) : agrS (ss ++ [s]) ↔ ((fndP (joinS ss) s.1).2 = true → (fndP (joinS ss) s.1).1 = s.2) := by
  constructor
  · intro h hb
    have hm := get_mem (fndP_some hb)
    have hm := ((mem_joinS_of_agr hd ha _).1 hm)
    exact h (s.1, (fndP (joinS ss) s.1).1) (List.mem_append.2 (Or.inl hm)) s (by simp) rfl
  · intro h
    have key : ∀ t ∈ ss, t.1 = s.1 → t.2 = s.2 := fun t ht e => by
      have hj := (mem_joinS_of_agr hd ha t).2 ht
      have hg := (mem_get (mem_joinS hd).1 (d := t.1) (n := t.2)).2 hj
      have hb : (fndP (joinS ss) s.1).2 = true := by unfold fndP; rw [← e, hg]
      have he : (fndP (joinS ss) s.1).1 = t.2 := by unfold fndP; rw [← e, hg]
      rw [← he]
      exact h hb
    intro t ht u hu e
    rcases List.mem_append.1 ht with ht | ht <;> rcases List.mem_append.1 hu with hu | hu
    · exact ha t ht u hu e
    · rw [List.mem_singleton.1 hu] at e ⊢; exact key t ht e
    · rw [List.mem_singleton.1 ht] at e ⊢; exact (key u hu e.symm).symm
    · rw [List.mem_singleton.1 ht, List.mem_singleton.1 hu]
/-- The stamps up to a place. -/
def preS (ls : List (List St)) (i k : Nat) : List St := (ls.take i).flatten ++ (ls.getD i []).take k
theorem preS_next {ls : List (List St)} {i k : Nat} {l : List St} {s : St} (hl : ls[i]? = some l) (hs : l[k]? = some s) : preS ls i (k + 1) = preS ls i k ++ [s] := by
  unfold preS
  have e : ls.getD i [] = l := by rw [List.getD_eq_getElem?_getD, hl]; rfl
  rw [e, List.take_add_one, hs, List.append_assoc]
  rfl
theorem preS_row {ls : List (List St)} {i k : Nat} {l : List St} (hl : ls[i]? = some l) (hk : k = l.length) : preS ls i k = preS ls (i + 1) 0 := by
  unfold preS
  have e : ls.getD i [] = l := by rw [List.getD_eq_getElem?_getD, hl]; rfl
  rw [e, hk, List.take_length, List.take_add_one, hl]
  simp
theorem preS_end {ls : List (List St)} {i : Nat} (hi : i = ls.length) : preS ls i 0 = ls.flatten := by
  unfold preS
  rw [hi, List.take_length]
  simp
theorem preS_sub {ls : List (List St)} {i k : Nat} {s : St} (h : s ∈ preS ls i k) : s ∈ ls.flatten := by
  unfold preS at h
  rcases List.mem_append.1 h with h | h
  · obtain ⟨l, hl, hs⟩ := List.mem_flatten.1 h
    exact List.mem_flatten.2 ⟨l, List.mem_of_mem_take hl, hs⟩
  · have h := List.mem_of_mem_take h
    rw [List.getD_eq_getElem?_getD] at h
    cases e : ls[i]? with
    | none => rw [e] at h; cases h
    | some l => rw [e] at h; exact List.mem_flatten.2 ⟨l, List.mem_of_getElem? e, h⟩
theorem preS_right {ls : List (List St)} (h : ∀ l ∈ ls, Right l) (i k : Nat) : ∀ s ∈ preS ls i k, 0 ≤ s.1 ∧ s.1 < 256 := fun s hs => right_flat h s (preS_sub hs)
theorem preS_no {ls : List (List St)} {i k : Nat} (h : ¬ agrS (preS ls i k)) : ¬ agrS ls.flatten := fun q => h fun s hs t ht e => q s (preS_sub hs) t (preS_sub ht) e
end Go.Proofs.YtibbbjikehkbmabDoor.Ve
namespace Go.Proofs.YtibbbjikehkbmabDoor.Ve
open Go.RowKit

theorem Insert_any {w : World} {B k vb : Nat} {v : Value} {l : List St} {q : St} (ho : OwnS w B v l) (hB : B ≤ w.heap.size) (hk : k ≤ l.length) (h60 : l.length ≤ 4096)
    (hv : w.heap[vb]? = some (.cells #[.int .i64 q.1, .int .u64 (q.2 : Int)] 33 (0, 0))) (hne : v.ownBlock ≠ some vb) :
    Calls Tryd.prog 20 #[v, .int .i64 (k : Int), .slice (some ⟨vb, 0, none⟩) 1 1] w fun e w' => ∃ v', e = .returned v' ∧ OwnS w' B v' (l.take k ++ q :: l.drop k) ∧ w.grownBy w' v.ownBlock := by
  obtain ⟨ao, c, rfl⟩ := ho.form
  have hlen : (l.take k ++ q :: l.drop k).length = l.length + 1 := by simp; omega
  by_cases hkn : k = l.length
  · subst hkn
    have h := Insert_end (q := q) ho hB h60 hv
    refine h.mono ?_
    rintro e w' ⟨bo, bc, rfl, h1, h2⟩
    refine ⟨_, rfl, ?_, h2⟩
    unfold OwnS
    rw [hlen]
    rw [List.take_length, List.drop_length]
    exact h1
  · have hk' : k < l.length := by omega
    rcases ho.2 with ⟨e, h0⟩ | ⟨g, cap, cur, e, hBg, hh, hn, hm, _, _⟩
    · omega
    · injection e with e1 e2 e3
      subst e1 e3
      have hg : vb ≠ g := fun q => hne (by rw [q]; rfl)
      by_cases hroom : l.length + 1 ≤ c
      · refine (Insert_shift ho rfl hk' hroom h60 hv hg).mono ?_
        rintro e w' ⟨rfl, h1, h2⟩
        refine ⟨_, rfl, ?_, h2⟩
        unfold OwnS
        rw [hlen]
        exact h1
      · refine (Insert_grow ho rfl hk' (by omega) h60 hB hv).mono ?_
        rintro e w' ⟨bo, bc, rfl, h1, h2⟩
        refine ⟨_, rfl, ?_, h2⟩
        unfold OwnS
        rw [hlen]
        exact h1
theorem low_parts (d : Int) : ∀ {l : List St}, Right l → l.take (lowI l d) = l.filter (fun t => decide (t.1 < d)) ∧ l.drop (lowI l d) = l.filter (fun t => !decide (t.1 < d))
  | [], _ => by simp [lowI]
  | x :: l, hr => by
    obtain ⟨_, hx, hr'⟩ := right_cons.1 hr
    obtain ⟨i1, i2⟩ := low_parts d hr'
    by_cases h : x.1 < d
    · have e : lowI (x :: l) d = lowI l d + 1 := by unfold lowI; simp [h]
      rw [e, List.take_succ_cons, List.drop_succ_cons, i1, i2]
      simp [h]
    · have hall : ∀ t ∈ x :: l, ¬ t.1 < d := fun t ht => by
        rcases List.mem_cons.1 ht with rfl | ht
        · exact h
        · have := hx t ht; omega
      have e1 : (x :: l).filter (fun t => decide (t.1 < d)) = [] := by
        rw [List.filter_eq_nil_iff]
        intro t ht
        simpa using hall t ht
      have e2 : (x :: l).filter (fun t => !decide (t.1 < d)) = x :: l := by
        rw [List.filter_eq_self]
        intro t ht
        simpa using hall t ht
      have e : lowI (x :: l) d = 0 := by unfold lowI; rw [e1]; rfl
      rw [e, e1, e2]
      simp
theorem low_le {l : List St} (d : Int) : lowI l d ≤ l.length := List.length_filter_le _ _
/-- A stamp put in where there is none of its device. -/
theorem putV_ins {l : List St} {s : St} (hr : Right l) (h : (fndP l s.1).2 = false) : l.take (lowI l s.1) ++ s :: l.drop (lowI l s.1) = putV l s := by
  have hno := fndP_none h
  obtain ⟨e1, e2⟩ := low_parts s.1 hr
  rw [e1, e2]
  unfold putV
  congr 2
  apply List.filter_congr
  intro t ht
  have hne : t.1 ≠ s.1 := fun e => get_none hno t.2 (by rw [← e]; exact ht)
  rw [Bool.eq_iff_iff]
  simp
  omega
/-- Where a device's stamp stands. -/
theorem low_at {l : List St} {d : Int} (hr : Right l) (h : (fndP l d).2 = true) : l[lowI l d]? = some (d, (fndP l d).1) := by
  have hm := get_mem (fndP_some h)
  obtain ⟨_, e2⟩ := low_parts d hr
  have hin : (d, (fndP l d).1) ∈ l.drop (lowI l d) := by
    rw [e2, List.mem_filter]
    exact ⟨hm, by simp⟩
  cases hd : l.drop (lowI l d) with
  | nil => rw [hd] at hin; cases hin
  | cons y r =>
    have hy : l[lowI l d]? = some y := by
      have := congrArg (fun z : List St => z[0]?) hd
      simpa [List.getElem?_drop] using this
    rw [hy]
    rw [hd] at hin
    rcases List.mem_cons.1 hin with e | hin
    · rw [e]
    · exfalso
      obtain ⟨i, hi⟩ := List.getElem?_of_mem hin
      have hi2 : l[lowI l d + (i + 1)]? = some (d, (fndP l d).1) := by
        rw [← List.getElem?_drop, hd]
        simpa using hi
      have hlt := right_lt hr hy hi2 (by omega)
      have hyd : y ∈ l.drop (lowI l d) := by rw [hd]; simp
      rw [e2, List.mem_filter] at hyd
      have := hyd.2
      simp at this
      simp only at hlt
      omega
theorem putV_set {l : List St} {s : St} (hr : Right l) (h : (fndP l s.1).2 = true) : l.set (lowI l s.1) s = putV l s := by
  have hat := low_at hr h
  have hlt := (List.getElem?_eq_some_iff.1 hat).1
  have hs := hr.1 _ (List.mem_of_getElem? hat)
  have hset : l.set (lowI l s.1) s = l.take (lowI l s.1) ++ s :: l.drop (lowI l s.1 + 1) := by
    rw [List.set_eq_take_append_cons_drop, if_pos hlt]
  rw [hset]
  obtain ⟨e1, e2⟩ := low_parts s.1 hr
  rw [e1]
  unfold putV
  congr 2
  have hd : l.drop (lowI l s.1) = (s.1, (fndP l s.1).1) :: l.drop (lowI l s.1 + 1) := by
    rw [List.drop_eq_getElem_cons hlt]
    congr 1
    exact (List.getElem?_eq_some_iff.1 hat).2
  have hr2 := right_of_drop hr (lowI l s.1)
  rw [hd] at hr2
  obtain ⟨_, hx, _⟩ := right_cons.1 hr2
  have e3 : l.filter (fun t => decide (s.1 < t.1)) = (l.drop (lowI l s.1)).filter (fun t => decide (s.1 < t.1)) := by
    conv => lhs; rw [← List.take_append_drop (lowI l s.1) l]
    rw [List.filter_append, e1]
    have : (l.filter (fun t => decide (t.1 < s.1))).filter (fun t => decide (s.1 < t.1)) = [] := by
      rw [List.filter_eq_nil_iff]
      intro t ht
      have := (List.mem_filter.1 ht).2
      simp at this ⊢
      omega
    rw [this, List.nil_append]
  rw [e3, hd]
  have e4 : (l.drop (lowI l s.1 + 1)).filter (fun t => decide (s.1 < t.1)) = l.drop (lowI l s.1 + 1) := by
    rw [List.filter_eq_self]
    intro t ht
    simpa using hx t ht
  simp [e4]
end Go.Proofs.YtibbbjikehkbmabDoor.Ve
namespace Go.Proofs.YtibbbjikehkbmabDoor.Ve
open Go.RowKit

/-- What With comes to. -/
def devs (l : List St) : Prop := ∀ s ∈ l, 0 ≤ s.1 ∧ s.1 < 256
instance (l : List St) : Decidable (devs l) := by unfold devs; infer_instance
def putL (v l : List St) : List St := l.foldl putV v
def withP (v l : List St) : List St × Int := if Right v then (if devs l then (putL v l, 0) else ([], 5)) else ([], 160)
theorem putL_right {v : List St} (hv : Right v) : ∀ {l : List St}, devs l → Right (putL v l) := by
  intro l
  induction l generalizing v with
  | nil => intro _; exact hv
  | cons s l ih =>
    intro h
    exact ih (putV_right hv (h s (by simp))) (fun t ht => h t (by simp [ht]))
theorem putL_snoc (v l : List St) (s : St) : putL v (l ++ [s]) = putV (putL v l) s := by
  unfold putL
  rw [List.foldl_append]
  rfl
theorem devs_take {l : List St} (h : devs l) (k : Nat) : devs (l.take k) := fun s hs => h s (List.mem_of_mem_take hs)
theorem devs_next {l : List St} {k : Nat} {s : St} (hs : l[k]? = some s) (h : devs (l.take k)) (hd : 0 ≤ s.1 ∧ s.1 < 256) : devs (l.take (k + 1)) := fun t ht => by
  rw [take_snocS hs] at ht
  rcases List.mem_append.1 ht with ht | ht
  · exact h t ht
  · rw [List.mem_singleton.1 ht]; exact hd
theorem vecs_one {w : World} {va : Value} {a : List St} {t : TypeId} {n : Nat} (hn : n = w.heap.size) (ha : VecV w va a) : VecsV (w.alloc (.cells #[va] t)) (.slice (some ⟨n, 0, none⟩) 1 1) [a] := by
  subst hn
  refine ⟨some ⟨w.heap.size, 0, none⟩, 1, rfl, Nat.le_refl _, fun q => (by cases q), Or.inr ⟨w.heap.size, 0, rfl, by simp, fun j l hj => ?_⟩⟩
  rcases j with _ | j
  · have : a = l := by simpa using hj
    subst this
    exact ⟨va, cell_news 0, ha.below (below_al _ _)⟩
  · simp at hj
theorem chk_one {a : List St} : chkN [a] = if Right a then 0 else 160 := by
  unfold chkN
  by_cases h : Right a
  · rw [if_pos h, if_pos (fun v hv => by simp at hv; subst hv; exact h)]
  · rw [if_neg h, if_neg (fun q => h (q a (by simp)))]
theorem flatS_set (l : List St) (s : St) : ∀ {p : Nat}, p < l.length → flatS (l.set p s) = ((flatS l).set (p * 2) (.int .i64 s.1)).set (p * 2 + 1) (.int .u64 (s.2 : Int)) := by
  induction l with
  | nil => intro p h; simp at h
  | cons a r ih =>
    intro p h
    have e : flatS (a :: r) = .int .i64 a.1 :: .int .u64 (a.2 : Int) :: flatS r := rfl
    cases p with
    | zero =>
      have e2 : flatS (s :: r) = .int .i64 s.1 :: .int .u64 (s.2 : Int) :: flatS r := rfl
      rw [List.set_cons_zero, e, e2]
      rfl
    | succ p =>
      have e2 : flatS (a :: r.set p s) = .int .i64 a.1 :: .int .u64 (a.2 : Int) :: flatS (r.set p s) := rfl
      rw [List.set_cons_succ, e, e2, ih (by simpa using h), show (p + 1) * 2 = p * 2 + 1 + 1 by omega]
      rfl
/-- A stamp of a row of one's own is stored anew. -/
theorem own_setS {w : World} {B g n c p : Nat} {l : List St} {s : St} (h : OwnS w B (.slice (some ⟨g, 0, none⟩) n c) l) (hp : p < l.length) : OwnS ((w.setCell ⟨g, p * 2, none⟩ (.int .i64 s.1)).setCell ⟨g, p * 2 + 1, none⟩ (.int .u64 (s.2 : Int))) B (.slice (some ⟨g, 0, none⟩) n c) (l.set p s) := by
  obtain ⟨h1, h2⟩ := h
  refine ⟨by rw [flatS_len, List.length_set], ?_⟩
  rw [List.length_set]
  rcases h2 with ⟨e, h0⟩ | ⟨g', cap, cur, e, hB, hh, hn, hm, hs, ht⟩
  · omega
  · refine Or.inr ⟨g', cap, (cur.setIfInBounds (p * 2) (.int .i64 s.1)).setIfInBounds (p * 2 + 1) (.int .u64 (s.2 : Int)), e, hB, ?_, hn, hm, by simpa using hs, ?_⟩
    · injection e with e1 _ _
      injection e1 with e1
      injection e1 with e1 _ _
      subst e1
      exact block_set _ (block_set _ hh)
    · rw [flatS_set l s hp, ← ht]
      simp only [Array.toList_setIfInBounds, List.take_set]
set_option maxRecDepth 20000 in
set_option maxHeartbeats 8000000 in
theorem With_any {w : World} {v u : Value} {a l : List St} (ha : VecV w v a) (hl : VecV w u l) (la : a.length ≤ maxLen) (ll : l.length ≤ maxLen) :
    Calls Tryd.prog 5 #[v, u] w fun e w' => ∃ v', e = .returned (.tuple #[v', .int .i64 (withP a l).2]) ∧ OwnS w' w.heap.size v' (withP a l).1 ∧ Below w.heap.size w w' := by
  have HA := hid ha
  have HC := hid (Check_any (vecs_one (t := 23) (n := w.heap.size) rfl ha) (by simp [maxLen]) (fun x hx => by simp at hx; subst hx; exact la))
  have HCO := hid (fun W (hh : VecV W v a) (h16 : a.length * 16 ≤ 140737488355328) => copyOf_any hh h16)
  obtain ⟨ao, ca, rfl, -, -, -⟩ := ha
  obtain ⟨lo, cl, rfl, -, -, hrow⟩ := hl
  obtain ⟨n, hn⟩ : ∃ n, n = l.length := ⟨_, rfl⟩
  obtain ⟨m, hm⟩ : ∃ m, m = a.length := ⟨_, rfl⟩
  rw [← hn] at ll ⊢
  rw [← hm] at HA HC HCO ⊢
  have HN := hid hn
  have HM := hid hm
  have HROW := hid hrow
  unfold maxLen at ll
  clear hn hm hrow la
  by_cases hr : Right a
  · rw [chk_one, if_pos hr] at HC
    have hm256 : m ≤ 256 := by have := right_len hr; have := HM.out; omega
    have HR := hid hr
    clear hr
    go_enter Tryd.func5, Tryd.ntmps5
    go_wp2_with fail
    refine HC.out.mono ?_
    rintro e w1 ⟨rfl, hb1⟩
    have HB1 := hid (below_tr (below_al _ _) hb1)
    clear hb1
    go_wp2_with fail
    go_loopw [8, 22] (fun _ vc wr => ∃ k : Nat, k ≤ n ∧ vc = .int .i64 k ∧ Hid (Below w.heap.size w wr) ∧ Hid (devs (l.take k))) (fun _ vc _ => n - (intOf vc).toNat)
    case atStart => exact ⟨0, Nat.zero_le _, rfl, HB1.out, fun s hs => by simp at hs⟩
    case round =>
      obtain ⟨k, hk, rfl, HB, HDV⟩ := hrel
      by_cases hlt : k < n
      · obtain ⟨s, hs⟩ : ∃ s, l[k]? = some s := ⟨_, List.getElem?_eq_getElem (by have := HN.out; omega)⟩
        obtain ⟨g, o, rfl, hg, hc⟩ := (HROW.out.below HB.out).resolve_left (fun e => by rw [e] at hs; simp at hs)
        obtain ⟨c0, c1⟩ := hc k s hs
        have kI : (k : Int) < (n : Int) := by omega
        have k0 : (0 : Int) ≤ (k : Int) := by omega
        have HS := hid hs
        have HIS := hid (isDev_any s.1)
        obtain ⟨d, u⟩ := s
        simp only at c0 c1 HIS
        clear hs hc hlt
        rcases bool_two (devB d) with hd | hd
        · rw [hd] at HIS
          have HE := hid (show withP a l = ([], 5) by
            unfold withP
            rw [if_pos HR.out, if_neg (fun q => devB_not.1 hd (q _ (List.mem_of_getElem? HS.out)))])
          clear hd
          go_wp2_with fail
          refine (HIS.out _).mono ?_
          rintro e w' ⟨rfl, e'⟩
          subst e'
          go_wp2
          go_ret2
          exact ⟨.slice none 0 0, by rw [HE.out]; rfl, by rw [HE.out]; exact World.ownsRow_nil _ _ _ _, HB.out.alloc HB.out.size _⟩
        · rw [hd] at HIS
          have HDV2 := hid (devs_next HS.out HDV.out (devB_iff.1 hd))
          clear hd
          go_wp2_with fail
          refine (HIS.out _).mono ?_
          rintro e w' ⟨rfl, e'⟩
          subst e'
          go_wp2
          go_roundw
          case rel => exact ⟨k + 1, by omega, by go_num, HB.out.alloc HB.out.size _, HDV2⟩
          case measure => simp [intOf]; omega
      · have hkn : k = n := by omega
        have kI : ¬ (k : Int) < (n : Int) := by omega
        have HDL := hid (show devs l by have := HDV.out; rw [hkn, HN.out, List.take_length] at this; exact this)
        have HE := hid (show withP a l = (putL a l, 0) by unfold withP; rw [if_pos HR.out, if_pos HDL.out])
        clear hkn
        go_wp2_with fail
        refine (HCO.out wr (HA.out.below HB.out) (by have := HM.out; omega)).mono ?_
        rintro e w2 ⟨v2, rfl, ho, hb2⟩
        have HB2 := hid (below_tr HB.out hb2)
        have HO2 := hid (own_mono ho HB.out.size)
        obtain ⟨a2, c2, e2⟩ := ho.form
        have e2' : v2 = .slice a2 m c2 := by rw [e2, ← HM.out]
        clear e2
        subst e2'
        clear ho hb2
        go_wp2_with fail
        go_loopw [9, 11, 12, 13, 35] (fun vt _ _ _ vc wr => ∃ (k : Nat) (b : Option Addr) (j cc : Nat), k ≤ n ∧ vc = .int .i64 k ∧ vt = .slice b j cc ∧ Hid (j = (putL a (l.take k)).length) ∧ Hid (Below w.heap.size w wr ∧ OwnS wr w.heap.size (.slice b j cc) (putL a (l.take k)))) (fun _ _ _ _ vc _ => n - (intOf vc).toNat)
        case atStart => exact ⟨0, a2, m, c2, Nat.zero_le _, rfl, rfl, by rw [List.take_zero]; exact HM.out, HB2.out, by rw [List.take_zero]; exact HO2.out⟩
        case round =>
          clear HB2 HO2
          obtain ⟨k, b, j, cc, hk, rfl, rfl, HJ, HBO⟩ := hrel
          by_cases hlt : k < n
          · obtain ⟨s, hs⟩ : ∃ s, l[k]? = some s := ⟨_, List.getElem?_eq_getElem (by have := HN.out; omega)⟩
            obtain ⟨g, o, rfl, hg, hc⟩ := (HROW.out.below HBO.out.1).resolve_left (fun e => by rw [e] at hs; simp at hs)
            obtain ⟨c0, c1⟩ := hc k s hs
            have kI : (k : Int) < (n : Int) := by omega
            have k0 : (0 : Int) ≤ (k : Int) := by omega
            have hrt := putL_right HR.out (devs_take HDL.out k)
            have hsd := HDL.out s (List.mem_of_getElem? hs)
            have hnx : putL a (l.take (k + 1)) = putV (putL a (l.take k)) s := by rw [take_snocS hs, putL_snoc]
            obtain ⟨T, hT⟩ : ∃ T, T = putL a (l.take k) := ⟨_, rfl⟩
            rw [← hT] at HJ HBO hrt hnx
            have HT := hid hT
            have HRT := hid hrt
            have HNX := hid hnx
            have HSD := hid hsd
            have hj256 : j ≤ 256 := by have := right_len hrt; have := HJ.out; omega
            obtain ⟨wb, hwb⟩ : ∃ wb, wb = wr.alloc (.cells #[.int .i64 s.1, .int .u64 (s.2 : Int)] 33) := ⟨_, rfl⟩
            have HOB := hid (show OwnS wb w.heap.size (.slice b j cc) T by rw [hwb]; exact HBO.out.2.on (below_al _ _))
            have HBB := hid (show Below w.heap.size w wb by rw [hwb]; exact HBO.out.1.alloc HBO.out.1.size _)
            have HBX := hid (show wb.heap[wr.heap.size]? = some (.cells #[.int .i64 s.1, .int .u64 (s.2 : Int)] 33 (0, 0)) by rw [hwb]; exact new_0 _ _)
            have HOL := hid (show ∀ q, (Value.slice b j cc).ownBlock = some q → q < wr.heap.size from fun q hq => (World.ownsRow.lt HBO.out.2 q hq).2)
            have HF := hid (find_any (w := wb) HOB.out.vec hrt s.1)
            obtain ⟨⟨q1, ok⟩, hq⟩ : ∃ q, q = fndP T s.1 := ⟨_, rfl⟩
            rw [← hq] at HF
            have HQ := hid hq
            obtain ⟨p, hp⟩ : ∃ p, p = lowI T s.1 := ⟨_, rfl⟩
            rw [← hp] at HF
            have HPP := hid hp
            obtain ⟨d, u⟩ := s
            simp only at c0 c1 HF
            subst hwb
            clear hs hc hlt hrt hnx hsd hT hq hp
            go_wp2_with fail
            refine HF.out.mono ?_
            rintro e w3 ⟨rfl, hb3⟩
            have HB3 := hid (HBB.out.trans (hb3.mono HBB.out.size))
            have HO3 := hid (HOB.out.on hb3)
            have hbx : w3.heap[wr.heap.size]? = some (.cells #[.int .i64 d, .int .u64 (u : Int)] 33 (0, 0)) := below_block hb3 HBX.out (by simp)
            have HBX3 := hid hbx
            have x0 : w3.cell? ⟨wr.heap.size, 0, none⟩ = some (.int .i64 d) := by rw [cell_at hbx]; rfl
            have x1 : w3.cell? ⟨wr.heap.size, 1, none⟩ = some (.int .u64 (u : Int)) := by rw [cell_at hbx]; rfl
            have HSZ := hid (show wr.heap.size < w3.heap.size from lt_of_block hbx)
            clear hb3 hbx HF HOB HBX HBB HBO
            rcases bool_two ok with hok | hok
            · subst hok
              have HTS := hid (show T.take p ++ (d, u) :: T.drop p = putV T (d, u) by rw [HPP.out]; exact putV_ins (s := (d, u)) HRT.out (show (fndP T d).2 = false by rw [← HQ.out]))
              have HIN := hid (Insert_any (w := w3.alloc (.cells #[.int .i64 d, .int .u64 (u : Int)] 33)) (B := w.heap.size) (k := p) (vb := w3.heap.size) (q := (d, u)) (HO3.out.on (below_al _ _)) (by have := HB3.out.size; simp; omega) (by rw [HPP.out]; exact low_le d) (by have := HJ.out; omega) (new_0 _ _) (fun e => by have := (World.ownsRow.lt HO3.out _ e).2; omega))
              have HLT := hid (show ∀ q, (Value.slice b j cc).ownBlock = some q → w.heap.size ≤ q from fun q hq => (World.ownsRow.lt HO3.out q hq).1)
              go_wp2_with fail
              refine HIN.out.mono ?_
              rintro e w4 ⟨v4, rfl, ho4, hg4⟩
              have HB4 := hid ((HB3.out.alloc HB3.out.size (.cells #[.int .i64 d, .int .u64 (u : Int)] 33)).grown hg4 (by have := HB3.out.size; simp; omega) HLT.out)
              rw [HTS.out] at ho4
              have HO4 := hid ho4
              obtain ⟨a4, c4, e4⟩ := ho4.form
              subst e4
              clear ho4 hg4
              obtain ⟨n4, hn4⟩ : ∃ n4, n4 = (putV T (d, u)).length := ⟨_, rfl⟩
              rw [← hn4] at HO4 ⊢
              have HN4 := hid hn4
              clear hn4
              go_wp2
              go_roundw
              case rel => exact ⟨k + 1, a4, n4, c4, by omega, by go_num, rfl, hid (by rw [HNX.out]; exact HN4.out), HB4.out, by rw [HNX.out]; exact HO4.out⟩
              case measure => simp [intOf]; omega
            · subst hok
              have hat := low_at HRT.out (show (fndP T d).2 = true by rw [← HQ.out])
              rw [← HPP.out] at hat
              have hpl := (List.getElem?_eq_some_iff.1 hat).1
              have pI : (p : Int) < (j : Int) := by have := HJ.out; omega
              have p0 : (0 : Int) ≤ (p : Int) := by omega
              obtain ⟨gb, rfl, hpart⟩ : ∃ gb, b = some ⟨gb, 0, none⟩ ∧ ∃ cur, w.heap.size ≤ gb ∧ w3.heap[gb]? = some (.cells cur 33 (0, 0)) ∧ j ≤ cc ∧ cc ≤ maxLen ∧ cur.size = cc * 2 ∧ cur.toList.take (j * 2) = flatS T := by
                rcases HO3.out.2 with ⟨e, h0⟩ | ⟨g', cap, cur, e, hB, hh, hn, hm, hs, ht⟩
                · omega
                · injection e with e1 e2 e3
                  subst e1 e3
                  exact ⟨g', rfl, cur, hB, hh, by have := HJ.out; omega, hm, hs, by rw [HJ.out]; exact ht⟩
              obtain ⟨cur, hgB, hgh, hjc, hcm, hcs, htk⟩ := hpart
              have y0 : ∃ z, w3.cell? ⟨gb, p * 2, none⟩ = some z := cells_some hgh (by rw [hcs]; have := HJ.out; omega)
              have y1 : ∃ z, w3.cell? ⟨gb, p * 2 + 1, none⟩ = some z := cells_some hgh (by rw [hcs]; have := HJ.out; omega)
              obtain ⟨z0, y0⟩ := y0
              obtain ⟨z1, y1⟩ := y1
              have f0 := free_of (o := p * 2) hgh
              have f1 := free_of (o := p * 2 + 1) hgh
              have HGH := hid hgh
              have HOX := hid (own_setS (s := (d, u)) HO3.out hpl)
              have HTS := hid (show T.set p (d, u) = putV T (d, u) by rw [HPP.out]; exact putV_set (s := (d, u)) HRT.out (show (fndP T d).2 = true by rw [← HQ.out]))
              have HBX2 := hid (show Below w.heap.size w ((w3.setCell ⟨gb, p * 2, none⟩ (.int .i64 d)).setCell ⟨gb, p * 2 + 1, none⟩ (.int .u64 (u : Int))) from (HB3.out.setCell (p := ⟨gb, p * 2, none⟩) hgB _).setCell (p := ⟨gb, p * 2 + 1, none⟩) hgB _)
              have HLN := hid (show (putV T (d, u)).length = T.length by rw [← HTS.out, List.length_set])
              clear hat hpl hgh htk
              go_wp2_with fail
              go_roundw
              case rel => exact ⟨k + 1, some ⟨gb, 0, none⟩, j, cc, by omega, by go_num, rfl, hid (by rw [HNX.out, HLN.out]; exact HJ.out), HBX2.out, by rw [HNX.out, ← HTS.out]; exact HOX.out⟩
              case measure => simp [intOf]; omega
          · have hkn : k = n := by omega
            have kI : ¬ (k : Int) < (n : Int) := by omega
            have HE2 := hid (show putL a (l.take k) = putL a l by rw [hkn, HN.out, List.take_length])
            clear hkn
            go_wp2
            go_ret2
            exact ⟨_, by rw [HE.out]; rfl, by rw [HE.out, ← HE2.out]; exact HBO.out.2, HBO.out.1⟩
  · rw [chk_one, if_neg hr] at HC
    have HE := hid (show withP a l = ([], 160) by unfold withP; rw [if_neg hr])
    clear hr
    go_enter Tryd.func5, Tryd.ntmps5
    go_wp2_with fail
    refine HC.out.mono ?_
    rintro e w1 ⟨rfl, hb1⟩
    have HB1 := hid (below_tr (below_al _ _) hb1)
    clear hb1
    go_wp2
    go_ret2
    exact ⟨.slice none 0 0, by rw [HE.out]; rfl, by rw [HE.out]; exact World.ownsRow_nil _ _ _ _, HB1.out⟩
end Go.Proofs.YtibbbjikehkbmabDoor.Ve
namespace Go.Proofs.YtibbbjikehkbmabDoor.Ve
open Go.RowKit

/-- Versions that a uint64 holds. -/
def U64 (l : List St) : Prop := ∀ s ∈ l, s.2 < 18446744073709551616
/-- What Text comes to. -/
def txtP (l : List St) : List UInt8 × Int := if Right l then (vtx l, 0) else ([], 160)
theorem dec_three {n : Nat} (h : n < 256) : (Lib.decDigits n).length ≤ 3 := by
  have key : ∀ k : Fin 256, (Lib.decDigits k.1).length ≤ 3 := by decide +kernel
  exact key ⟨n, by omega⟩
theorem stS_len {s : St} (hs : 0 ≤ s.1 ∧ s.1 < 256) (hu : s.2 < 18446744073709551616) : (stS s).length ≤ 24 := by
  unfold stS stT
  rw [List.length_append, List.length_cons]
  have h1 := dec_three (n := s.1.toNat) (by omega)
  have h2 := dec_20 hu
  simp only
  omega
theorem textOf_s {s : St} (hs : 0 ≤ s.1 ∧ s.1 < 256) (hu : s.2 < 18446744073709551616) {w : World} (hp : PowTab w) : Calls Tryd.prog 26 #[.agg #[.int .i64 s.1, .int .u64 (s.2 : Int)]] w fun e w' => e = .returned (.string (txV (stS s))) ∧ Below w.heap.size w w' := by
  obtain ⟨d, u⟩ := s
  obtain ⟨n, rfl⟩ : ∃ n : Nat, d = n := ⟨d.toNat, by simp only at hs; omega⟩
  exact textOf_any n u (by simp only at hs; omega) hu hp
theorem stamp_s {s : St} (hs : 0 ≤ s.1 ∧ s.1 < 256) (hu : s.2 < 18446744073709551616) {w : World} (hp : PowTab w) : Calls Tryd.prog 28 #[.agg #[.int .i64 s.1, .int .u64 (s.2 : Int)]] w fun e w' => e = .returned (.string (txV (stS s))) ∧ Below w.heap.size w w' := by
  obtain ⟨d, u⟩ := s
  obtain ⟨n, rfl⟩ : ∃ n : Nat, d = n := ⟨d.toNat, by simp only at hs; omega⟩
  exact Rstamp_any n u (by simp only at hs; omega) hu hp
set_option maxRecDepth 20000 in
set_option maxHeartbeats 4000000 in
theorem Text_any {w : World} {v : Value} {a : List St} (ha : VecV w v a) (la : a.length ≤ maxLen) (hu : U64 a) (hp : PowTab w) :
    Calls Tryd.prog 12 #[v] w fun e w' => e = .returned (.tuple #[.string (txV (txtP a).1), .int .i64 (txtP a).2]) ∧ Below w.heap.size w w' := by
  by_cases hr : Right a
  · by_cases h0 : a = []
    · subst h0
      have HC := hid (Check_any (vecs_one (t := 23) (n := w.heap.size) rfl ha) (by simp [maxLen]) (fun x hx => by simp at hx; subst hx; exact la))
      rw [chk_one, if_pos hr] at HC
      have HE := hid (show txtP [] = ([45], 0) by unfold txtP; rw [if_pos hr]; rfl)
      obtain ⟨ao, ca, rfl, -, -, -⟩ := ha
      simp only [List.length_nil] at HC ⊢
      clear hr la hp
      go_enter Tryd.func12, Tryd.ntmps12
      go_wp2_with fail
      refine HC.out.mono ?_
      rintro e w1 ⟨rfl, hb1⟩
      have HB1 := hid (below_tr (below_al _ _) hb1)
      clear hb1
      go_wp2
      go_ret2
      exact ⟨by rw [HE.out]; rfl, HB1.out⟩
    · have hE : txtP a = (vtx a, 0) := by unfold txtP; rw [if_pos hr]
      rw [hE]
      exact Text_ok ha hr h0 (fun s hs => stS_len (hr.1 s hs) (hu s hs)) (hid fun s hs W hb => textOf_s (hr.1 s hs) (hu s hs) (hp.below hb))
  · have HC := hid (Check_any (vecs_one (t := 23) (n := w.heap.size) rfl ha) (by simp [maxLen]) (fun x hx => by simp at hx; subst hx; exact la))
    rw [chk_one, if_neg hr] at HC
    have HE := hid (show txtP a = ([], 160) by unfold txtP; rw [if_neg hr])
    obtain ⟨ao, ca, rfl, -, -, -⟩ := ha
    obtain ⟨m, hm⟩ : ∃ m, m = a.length := ⟨_, rfl⟩
    rw [← hm] at HC ⊢
    clear hr la hp hm
    go_enter Tryd.func12, Tryd.ntmps12
    go_wp2_with fail
    refine HC.out.mono ?_
    rintro e w1 ⟨rfl, hb1⟩
    have HB1 := hid (below_tr (below_al _ _) hb1)
    clear hb1
    go_wp2
    go_ret2
    exact ⟨by rw [HE.out]; rfl, HB1.out⟩
theorem join_snocV (l : List (List UInt8)) (x sep : List UInt8) (h : l ≠ []) : Lib.join (l ++ [x]) sep = Lib.join l sep ++ sep ++ x := by
  obtain ⟨y, l, rfl⟩ := List.exists_cons_of_ne_nil h
  rw [List.cons_append, Lib.join_cons, Lib.join_cons]
  simp [Lib.joinTail]
/-- The text of the first k stamps. -/
def preT (l : List St) (k : Nat) : List UInt8 := Lib.join ((l.take k).map stS) [32]
theorem preT_one {l : List St} {s : St} (hs : l[0]? = some s) : preT l 1 = stS s := by
  unfold preT
  rw [take_snocS hs, List.take_zero, List.nil_append, List.map_cons, List.map_nil, Lib.join_one]
theorem preT_next {l : List St} {k : Nat} {s : St} (hs : l[k]? = some s) (hk : 0 < k) : preT l (k + 1) = preT l k ++ [32] ++ stS s := by
  have hlt := (List.getElem?_eq_some_iff.1 hs).1
  unfold preT
  rw [take_snocS hs, List.map_append, List.map_cons, List.map_nil, join_snocV _ _ _ (by
    intro e
    have := congrArg List.length e
    rw [List.length_map, List.length_take, List.length_nil] at this
    omega)]
theorem preT_len {l : List St} (h : ∀ s ∈ l, (stS s).length ≤ 24) {k : Nat} (hk : k ≤ l.length) : (preT l k).length ≤ 25 * k := by
  unfold preT
  have := join_lenV (xs := (l.take k).map stS) (fun x hx => by
    obtain ⟨s, hs, rfl⟩ := List.mem_map.1 hx
    exact h s (List.mem_of_mem_take hs))
  rw [List.length_map, List.length_take] at this
  omega
set_option maxRecDepth 20000 in
set_option maxHeartbeats 4000000 in
theorem RText_any {w : World} {v : Value} {a : List St} (ha : VecV w v a) (la : a.length ≤ maxLen) (hu : U64 a) (hp : PowTab w) :
    Calls Tryd.prog 13 #[v] w fun e w' => e = .returned (.tuple #[.string (txV (txtP a).1), .int .i64 (txtP a).2]) ∧ Below w.heap.size w w' := by
  have HC := hid (RCheck_any (vecs_one (t := 23) (n := w.heap.size) rfl ha) (by simp [maxLen]) (fun x hx => by simp at hx; subst hx; exact la))
  obtain ⟨ao, ca, rfl, -, -, hrow⟩ := ha
  obtain ⟨n, hn⟩ : ∃ n, n = a.length := ⟨_, rfl⟩
  rw [← hn] at HC la ⊢
  have HN := hid hn
  have HROW := hid hrow
  have HP := hid hp
  clear hrow hp
  by_cases hr : Right a
  · have h256 := right_len hr
    rw [← hn] at h256
    rw [chk_one, if_pos hr] at HC
    have HE := hid (show txtP a = (vtx a, 0) by unfold txtP; rw [if_pos hr])
    have HST := hid (fun s (hs : s ∈ a) W (hb : Below w.heap.size w W) => stamp_s (hr.1 s hs) (hu s hs) (HP.out.below hb))
    have HLN := hid (fun s (hs : s ∈ a) => stS_len (hr.1 s hs) (hu s hs))
    clear hr hu la
    by_cases h0 : n = 0
    · subst h0
      have h0 : a = [] := List.eq_nil_of_length_eq_zero hn.symm
      subst h0
      clear hn
      go_enter Tryd.func13, Tryd.ntmps13
      go_wp2_with fail
      refine HC.out.mono ?_
      rintro e w1 ⟨rfl, hd⟩
      have HB1 := hid (below_tr (below_al _ _) (drew_below hd))
      clear hd
      go_wp2
      go_ret2
      exact ⟨by rw [HE.out]; rfl, HB1.out⟩
    · have hn0I : ((n : Int) == 0) = false := by rw [beq_eq_false_iff_ne]; omega
      have hn0N : (n == 0) = false := by rw [beq_eq_false_iff_ne]; exact h0
      have HV := hid (show vtx a = preT a n by
        unfold vtx preT
        rw [if_neg (fun e => h0 (by rw [hn, e]; rfl)), hn, List.take_length])
      clear hn
      go_enter Tryd.func13, Tryd.ntmps13
      go_wp2_with fail
      refine HC.out.mono ?_
      rintro e w1 ⟨rfl, hd⟩
      have HB1 := hid (below_tr (below_al _ _) (drew_below hd))
      clear hd
      go_wp2_with fail
      go_loopw [5, 6] (fun vs vc wr => ∃ k : Nat, k ≤ n ∧ vs = .string (txV (preT a k)) ∧ vc = .int .i64 k ∧ Hid (Below w.heap.size w wr)) (fun _ vc _ => n - (intOf vc).toNat)
      case atStart => exact ⟨0, Nat.zero_le _, rfl, rfl, HB1⟩
      case round =>
        obtain ⟨k, hk, rfl, rfl, HB⟩ := hrel
        by_cases hlt : k < n
        · obtain ⟨s, hs⟩ : ∃ s, a[k]? = some s := ⟨_, List.getElem?_eq_getElem (by have := HN.out; omega)⟩
          obtain ⟨g, o, rfl, hg, hc⟩ := (HROW.out.below HB.out).resolve_left (fun e => by rw [e] at hs; simp at hs)
          obtain ⟨c0, c1⟩ := hc k _ hs
          have kI : (k : Int) < (n : Int) := by omega
          have k0 : (0 : Int) ≤ (k : Int) := by omega
          have HTS := hid (HST.out s (List.mem_of_getElem? hs) _ HB.out)
          have hl1 := HLN.out s (List.mem_of_getElem? hs)
          have hl2 := preT_len HLN.out (k := k) (by have := HN.out; omega)
          rcases Nat.eq_zero_or_pos k with hk0 | hk0
          · subst hk0
            have hE1 : preT a 0 = [] := rfl
            have HNX := hid (preT_one hs)
            obtain ⟨d, u⟩ := s
            simp only [Nat.zero_mul, Nat.add_zero] at c0 c1
            rw [hE1]
            have hl3 : ¬ 9223372036854775807 < (stS (d, u)).length := by omega
            clear hs hc hlt hl1 hl2
            go_wp2_with fail
            refine HTS.out.mono ?_
            rintro e w3 ⟨rfl, hb3⟩
            have HB3 := hid (below_tr HB.out hb3)
            clear hb3
            go_wp2
            go_roundw
            case rel => exact ⟨1, by omega, by rw [HNX.out]; rfl, by go_num, HB3⟩
            case measure => simp [intOf]; omega
          · have kP : (0 : Int) < (k : Int) := by omega
            have HNX := hid (preT_next hs hk0)
            obtain ⟨d, u⟩ := s
            simp only at c0 c1
            obtain ⟨T, hT⟩ : ∃ T, T = preT a k := ⟨_, rfl⟩
            rw [← hT] at HNX hl2 ⊢
            have hl3 : ¬ 9223372036854775807 < T.length + 1 := by omega
            have hl4 : ¬ 9223372036854775807 < T.length + 1 + (stS (d, u)).length := by omega
            clear hs hc hlt hl1 hl2 hT
            go_wp2_with fail
            refine HTS.out.mono ?_
            rintro e w3 ⟨rfl, hb3⟩
            have HB3 := hid (below_tr HB.out hb3)
            clear hb3
            go_wp2
            go_roundw
            case rel => exact ⟨k + 1, by omega, by
              rw [HNX.out]
              show Value.string (txV T ++ txV [32] ++ txV (stS (d, u))) = _
              rw [txV_add, txV_add], by go_num, HB3⟩
            case measure => simp [intOf]; omega
        · have hkn : k = n := by omega
          have kI : ¬ (k : Int) < (n : Int) := by omega
          subst hkn
          go_wp2
          go_ret2
          exact ⟨by rw [HE.out, HV.out]; rfl, HB.out⟩
  · rw [chk_one, if_neg hr] at HC
    have HE := hid (show txtP a = ([], 160) by unfold txtP; rw [if_neg hr])
    clear hr la hu hn
    go_enter Tryd.func13, Tryd.ntmps13
    go_wp2_with fail
    refine HC.out.mono ?_
    rintro e w1 ⟨rfl, hd⟩
    have HB1 := hid (below_tr (below_al _ _) (drew_below hd))
    clear hd
    go_wp2
    go_ret2
    exact ⟨by rw [HE.out]; rfl, HB1.out⟩
end Go.Proofs.YtibbbjikehkbmabDoor.Ve
