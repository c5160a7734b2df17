/-
  gathered: of each device of some vectors the greatest version, and whether they agree.
-/
import Derived.Test.YtibbbjikehkbmabDoorGGr
import Derived.Test.YtibbbjikehkbmabDoorGCopy
namespace Go.Proofs.YtibbbjikehkbmabDoor.Ve
open Go.RowKit

theorem rows_take {w : World} {ao : Option Addr} {ls : List (List St)} (h : RowsIn w ao ls) (k : Nat) : RowsIn w ao (ls.take k) := by
  rcases h with rfl | ⟨g, o, e, hg, hc⟩
  · left; simp
  · refine Or.inr ⟨g, o, e, hg, fun j s hj => ?_⟩
    rw [List.getElem?_take] at hj
    split at hj
    · exact hc _ _ hj
    · cases hj
theorem rows_drop {w : World} {g o : Nat} {ls : List (List St)} (h : RowsIn w (some ⟨g, o, none⟩) ls) (k : Nat) : RowsIn w (some ⟨g, o + k, none⟩) (ls.drop k) := by
  rcases h with rfl | ⟨g', o', e, hg, hc⟩
  · left; simp
  · injection e with e
    injection e with e1 e2 _
    subst e1
    subst e2
    refine Or.inr ⟨g, o + k, rfl, hg, fun j s hj => ?_⟩
    rw [List.getElem?_drop] at hj
    have := hc _ _ hj
    rw [show o + k + j = o + (k + j) by omega]
    exact this
theorem agr_one {l : List St} (h : Right l) : agrS l := fun s hs t ht e => by rw [right_one h hs ht e]
theorem right_flat {ls : List (List St)} (h : ∀ l ∈ ls, Right l) : ∀ s ∈ ls.flatten, 0 ≤ s.1 ∧ s.1 < 256 := fun s hs => by
  obtain ⟨l, hl, hs⟩ := List.mem_flatten.1 hs
  exact (h l hl).1 s hs
theorem take_drop_flat (ls : List (List St)) (k : Nat) : (ls.take k).flatten ++ (ls.drop k).flatten = ls.flatten := by rw [← List.flatten_append, List.take_append_drop]
/-- Half and half. -/
theorem grt_flat {ls : List (List St)} (h : ∀ l ∈ ls, Right l) (k : Nat) : grt (joinS (ls.take k).flatten) (joinS (ls.drop k).flatten) = joinS ls.flatten := by
  have h1 : ∀ l ∈ ls.take k, Right l := fun l hl => h l (List.mem_of_mem_take hl)
  have h2 : ∀ l ∈ ls.drop k, Right l := fun l hl => h l (List.mem_of_mem_drop hl)
  have r1 := right_flat h1
  have r2 := right_flat h2
  rw [grt_join (mem_joinS r1).1 (mem_joinS r2).1, joinS_append r1 (fun s hs => (mem_joinS r2).1.1 s hs), ← take_drop_flat ls k]
  have hc : ∀ a b : List St, (∀ s ∈ a, 0 ≤ s.1 ∧ s.1 < 256) → (∀ s ∈ b, 0 ≤ s.1 ∧ s.1 < 256) → joinS (a ++ b) = joinS (b ++ a) := fun a b ha hb => joinS_congr (fun s hs => (List.mem_append.1 hs).elim (ha s) (hb s)) (fun s => by simp only [List.mem_append]; exact Or.comm)
  rw [hc _ _ r1 (fun s hs => (mem_joinS r2).1.1 s hs), joinS_append r2 r1, hc _ _ r2 r1]
theorem agr_flat {ls : List (List St)} (h : ∀ l ∈ ls, Right l) (k : Nat) : ((stepsV (joinS (ls.take k).flatten) (joinS (ls.drop k).flatten)).all agB && decide (agrS (ls.take k).flatten) && decide (agrS (ls.drop k).flatten)) = decide (agrS ls.flatten) := by
  have h1 : ∀ l ∈ ls.take k, Right l := fun l hl => h l (List.mem_of_mem_take hl)
  have h2 : ∀ l ∈ ls.drop k, Right l := fun l hl => h l (List.mem_of_mem_drop hl)
  have r1 := right_flat h1
  have r2 := right_flat h2
  rw [Bool.eq_iff_iff]
  simp only [Bool.and_eq_true, decide_eq_true_iff]
  rw [agr_spec _ _ (mem_joinS r1).1 (mem_joinS r2).1, ← take_drop_flat ls k, agrS_append r1 r2]
  constructor
  · rintro ⟨⟨a, b⟩, c⟩; exact ⟨b, c, a⟩
  · rintro ⟨b, c, a⟩; exact ⟨⟨a, b⟩, c⟩

theorem sizeVec (w : World) : (sizeOf (Tryd.prog.elem 36)).run Tryd.prog w = .ok 1 w := by
  have e : Tryd.prog.elem 36 = 23 := by kernel_rfl
  rw [e]
  simp [go_sem]
theorem undVs : Tryd.prog.underlying 36 = some (.slice (Tryd.prog.elem 36)) := by kernel_rfl
theorem cutr_take {w : World} {ao : Option Addr} {n c f : Nat} {ls : List (List St)} (h : VecsV w (.slice ao n c) ls) (hf : f ≤ ls.length) : ∃ a c', (∀ W, (Instr.slice 36 (.slice ao n c) none (some (.int .i64 (f : Int))) none).run Tryd.prog W = .ok (.slice a f c') W) ∧ VecsV w (.slice a f c') (ls.take f) := by
  obtain ⟨ao', c1, e, hc, hn, hr⟩ := h
  injection e with e1 e2 e3
  subst e1 e2 e3
  refine ⟨ao, c, fun W => ?_, ao, c, by rw [List.length_take, Nat.min_eq_left hf], by rw [List.length_take]; omega, hn, rows_take hr f⟩
  rw [run_slice_h W 36 ao ls.length c undVs .i64 (f : Int) (by omega) (by omega), sizeVec]
  simp [Result.andThen, sliced]
  intro _
  cases ao <;> simp [Addr.add]
theorem cutr_drop {w : World} {ao : Option Addr} {n c f : Nat} {ls : List (List St)} (h : VecsV w (.slice ao n c) ls) (hf : f ≤ ls.length) : ∃ a c', (∀ W, (Instr.slice 36 (.slice ao n c) (some (.int .i64 (f : Int))) none none).run Tryd.prog W = .ok (.slice a (ls.length - f) c') W) ∧ VecsV w (.slice a (ls.length - f) c') (ls.drop f) := by
  obtain ⟨ao', c1, e, hc, hn, hr⟩ := h
  injection e with e1 e2 e3
  subst e1 e2 e3
  refine ⟨if c = f then ao else ao.map (·.add f), c - f, fun W => ?_, if c = f then ao else ao.map (·.add f), c - f, by rw [List.length_drop], by rw [List.length_drop]; omega, fun q => ?_, ?_⟩
  · rw [run_slice_l W 36 ao ls.length c undVs .i64 (f : Int) (by omega) (by omega), sizeVec]
    simp [Result.andThen, sliced]
  · split at q
    · rename_i hcf; omega
    · cases ao with
      | none => rw [hn rfl]; omega
      | some p => cases q
  · split
    · rename_i hcf
      left
      exact List.drop_eq_nil_of_le (by omega)
    · cases ao with
      | none =>
        rcases hr with rfl | ⟨g, o, e, _⟩
        · left; simp
        · cases e
      | some p =>
        rcases hr with rfl | ⟨g, o, e, hg, hcell⟩
        · left; simp
        · injection e with e
          subst e
          have := rows_drop (Or.inr ⟨g, o, rfl, hg, hcell⟩) f
          rw [Option.map_some, addr_addS]
          exact this
set_option maxRecDepth 20000 in
set_option maxHeartbeats 2000000 in
theorem gathered_any : ∀ (m : Nat) {w : World} {v : Value} {ls : List (List St)}, ls.length ≤ m → VecsV w v ls → (∀ l ∈ ls, Right l) → ls.length ≤ maxLen →
    Calls Tryd.prog 21 #[v] w fun e w' => ∃ v', e = .returned (.tuple #[v', .bool (decide (agrS ls.flatten))]) ∧ OwnS w' w.heap.size v' (joinS ls.flatten) ∧ Below w.heap.size w w' := by
  intro m
  induction m with
  | zero =>
    intro w v ls hm h hr hmax
    have : ls = [] := List.eq_nil_of_length_eq_zero (by omega)
    subst this
    obtain ⟨ao, c, rfl, -⟩ := h
    go_enter Tryd.func21, Tryd.ntmps21
    go_wp2
    go_ret2
    exact ⟨.slice none 0 0, by rfl, World.ownsRow_nil _ _ _ _, Below.refl _ _⟩
  | succ m ih =>
    intro w v ls hm h hr hmax
    obtain ⟨ao, c, rfl, hc, hn, hrow⟩ := h
    obtain ⟨n, hnn⟩ : ∃ n, n = ls.length := ⟨_, rfl⟩
    have HN := hid hnn
    have HR := hid hr
    have HROW := hid hrow
    rw [← hnn] at hc hm hmax ⊢
    unfold maxLen at hmax
    clear hnn hr hrow
    by_cases h0 : n = 0
    · have hl : ls = [] := List.eq_nil_of_length_eq_zero (by rw [← HN.out]; exact h0)
      subst hl
      subst h0
      go_enter Tryd.func21, Tryd.ntmps21
      go_wp2
      go_ret2
      exact ⟨.slice none 0 0, by rfl, World.ownsRow_nil _ _ _ _, Below.refl _ _⟩
    · obtain ⟨g, o, rfl, hg, hcell⟩ := HROW.out.resolve_left (fun e => h0 (by rw [HN.out, e]; rfl))
      by_cases h1 : n = 1
      · obtain ⟨l, hl⟩ : ∃ l, ls = [l] := by
          have := HN.out
          rw [h1] at this
          exact List.length_eq_one_iff.1 this.symm
        subst hl
        subst h1
        obtain ⟨vl, hvl, hv⟩ := hcell 0 l rfl
        have hrl := HR.out l (by simp)
        have HC := hid (copyOf_any hv (by have := right_len hrl; omega))
        have HJ := hid (show joinS [l].flatten = l by simp; exact joinS_one hrl)
        have HA := hid (show decide (agrS [l].flatten) = true from decide_eq_true (by simp; exact agr_one hrl))
        obtain ⟨al, cl, rfl, -⟩ := hv
        rw [Nat.add_zero] at hvl
        clear hcell hrl
        go_enter Tryd.func21, Tryd.ntmps21
        go_wp2_with (first | (go_at_call 18; refine HC.out.mono ?_; rintro e w1 ⟨v', rfl, ho, hb⟩))
        go_ret2
        exact ⟨_, by rw [HA.out]; rfl, by rw [HJ.out]; exact ho, hb⟩
      · clear hcell
        obtain ⟨f, hf⟩ : ∃ f, f = n / 2 := ⟨_, rfl⟩
        have hfl : f ≤ ls.length := by have := HN.out; omega
        have hV : VecsV w (.slice (some ⟨g, o, none⟩) n c) ls := ⟨_, c, by rw [HN.out], by rw [← HN.out]; exact hc, fun q => (by cases q), HROW.out⟩
        obtain ⟨ta, tca, hta, vta⟩ := cutr_take hV hfl
        obtain ⟨da, dca, hda, vda⟩ := cutr_drop hV hfl
        obtain ⟨n1, hn1⟩ : ∃ n1, n1 = ls.length - f := ⟨_, rfl⟩
        rw [← hn1] at hda vda
        have HT := hid vta
        have HD := hid vda
        have r1 : ∀ l ∈ ls.take f, Right l := fun l hl => HR.out l (List.mem_of_mem_take hl)
        have r2 : ∀ l ∈ ls.drop f, Right l := fun l hl => HR.out l (List.mem_of_mem_drop hl)
        have q1 := (mem_joinS (right_flat r1)).1
        have q2 := (mem_joinS (right_flat r2)).1
        have HI1 := hid (fun W (h : VecsV W (.slice ta f tca) (ls.take f)) => ih (by rw [List.length_take]; have := HN.out; omega) h r1 (by unfold maxLen; rw [List.length_take]; have := HN.out; omega))
        have HI2 := hid (fun W (h : VecsV W (.slice da n1 dca) (ls.drop f)) => ih (by rw [List.length_drop]; have := HN.out; omega) h r2 (by unfold maxLen; rw [List.length_drop]; have := HN.out; omega))
        have HG := hid (fun W va vb (h1 : VecV W va (joinS (ls.take f).flatten)) (h2 : VecV W vb (joinS (ls.drop f).flatten)) => greatest_any h1 h2 q1 q2)
        have HE1 := hid (grt_flat HR.out f)
        have HE2 := hid (agr_flat HR.out f)
        have hq : Int.tdiv (n : Int) 2 = (f : Int) := by rw [Int.tdiv_eq_ediv_of_nonneg (by omega)]; omega
        have hq2 : (n : Int) / 2 = (f : Int) := by rw [hf]; omega
        have h0I : ((n : Int) == 0) = false := by rw [beq_eq_false_iff_ne]; omega
        have h1I : ((n : Int) == 1) = false := by rw [beq_eq_false_iff_ne]; omega
        have h0N : (n == 0) = false := by rw [beq_eq_false_iff_ne]; exact h0
        have h1N : (n == 1) = false := by rw [beq_eq_false_iff_ne]; exact h1
        clear hf vta vda hn1 hV hfl ih r1 r2 q1 q2 h0 h1
        go_enter Tryd.func21, Tryd.ntmps21
        go_wp2_with fail
        refine (HI1.out _ HT.out).mono ?_
        rintro e w1 ⟨va, rfl, ho1, hb1⟩
        have HO1 := hid ho1
        have HB1 := hid hb1
        obtain ⟨aa, na, ca, rfl⟩ : ∃ a n c, va = .slice a n c := by obtain ⟨a, c, e⟩ := ho1.form; exact ⟨a, _, c, e⟩
        clear ho1 hb1
        go_wp2_with fail
        refine (HI2.out _ (HD.out.below HB1.out)).mono ?_
        rintro e w2 ⟨vb, rfl, ho2, hb2⟩
        have HO2 := hid ho2
        have HB2 := hid hb2
        obtain ⟨ab, nb, cb, rfl⟩ : ∃ a n c, vb = .slice a n c := by obtain ⟨a, c, e⟩ := ho2.form; exact ⟨a, _, c, e⟩
        clear ho2 hb2
        go_wp2_with fail
        refine (HG.out _ _ _ (HO1.out.on HB2.out).vec HO2.out.vec).mono ?_
        rintro e w3 ⟨vc, rfl, ho3, hb3⟩
        obtain ⟨ac, nc, cc, rfl⟩ : ∃ a n c, vc = .slice a n c := by obtain ⟨a, c, e⟩ := ho3.form; exact ⟨a, _, c, e⟩
        have HB3 := hid (below_tr (below_tr HB1.out HB2.out) hb3)
        have HO3 := hid (show OwnS w3 w.heap.size (.slice ac nc cc) (joinS ls.flatten) by rw [← HE1.out]; exact own_mono ho3 (below_tr HB1.out HB2.out).size)
        clear ho3 hb3
        obtain ⟨x, hx⟩ : ∃ x, x = (stepsV (joinS (ls.take f).flatten) (joinS (ls.drop f).flatten)).all agB := ⟨_, rfl⟩
        obtain ⟨y, hy⟩ : ∃ y, y = decide (agrS (ls.take f).flatten) := ⟨_, rfl⟩
        obtain ⟨z, hz⟩ : ∃ z, z = decide (agrS (ls.drop f).flatten) := ⟨_, rfl⟩
        rw [← hx, ← hy, ← hz] at HE2
        rw [← hx, ← hy, ← hz]
        clear hx hy hz
        rcases bool_two x with e | e <;> rcases bool_two y with e' | e' <;> subst e <;> subst e'
        all_goals go_wp2
        all_goals go_ret2
        all_goals exact ⟨_, by rw [← HE2.out]; rfl, HO3.out, HB3.out⟩
end Go.Proofs.YtibbbjikehkbmabDoor.Ve
