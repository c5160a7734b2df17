/-
  Package counts: Of, Sum, Union.
-/
import Derived.Test.YteadddocmmkbgaaDoorKChk
import Derived.Test.YteadddocmmkbgaaDoorKSums
namespace Go.Proofs.YteadddocmmkbgaaDoor.Co
open Go.RowKit Go.Shelf

/-- A slice of numbers in memory. -/
def IsIn (w : World) (ao : Option Addr) (l : List Int) : Prop := l = [] ∨ ∃ g o, ao = some ⟨g, o, none⟩ ∧ g < w.heap.size ∧ ∀ j, j < l.length → w.cell? ⟨g, o + j, none⟩ = some (.int .i64 (l.getD j 0))
theorem IsIn.below {w w' : World} {ao : Option Addr} {l : List Int} (h : IsIn w ao l) (hb : Below w.heap.size w w') : IsIn w' ao l := by
  rcases h with h | ⟨g, o, e, hg, hc⟩
  · exact Or.inl h
  · exact Or.inr ⟨g, o, e, Nat.lt_of_lt_of_le hg hb.size, fun j hj => (hb.cell (p := ⟨g, o + j, none⟩) hg).trans (hc j hj)⟩
/-- What Of, Sum, Union come to. -/
def ofL (t : Nat) (l : List Int) : Nat := setN (l.map fun n => min n.toNat (t + 1))
def ofP (t : Int) (l : List Int) : Nat × Int := if t < 0 ∨ 62 < t then (0, 1) else if l = [] then (0, 80) else if l.all (fun n => decide (0 ≤ n)) then (ofL t.toNat l, 0) else (0, 5)
def sumP (t : Int) (l : List Nat) : Nat × Int := if chkE t l = 0 then (l.foldl (sumN t.toNat) 1, 0) else (0, chkE t l)
def orL (l : List Nat) : Nat := l.foldl (fun a b => a ||| b) 0
def unionP (t : Int) (l : List Nat) : Nat × Int := if chkE t l = 0 then (if l = [] then (0, 80) else (orL l, 0)) else (0, chkE t l)
theorem chkE_nil (t : Int) : chkE t [] = if t < 0 ∨ 62 < t then 1 else 0 := by unfold chkE; simp
theorem chk_range {t : Int} {l : List Nat} (h : chkE t l = 0) : 0 ≤ t ∧ t ≤ 62 := by
  unfold chkE at h
  split at h
  · cases h
  · omega
theorem chk_may {t : Int} {l : List Nat} (h : chkE t l = 0) : ∀ c ∈ l, mayB t.toNat c = true := by
  unfold chkE at h
  split at h
  · cases h
  · split at h
    · rename_i h1; exact List.all_eq_true.1 h1
    · cases h
theorem ofL_snoc (t : Nat) (l : List Int) (n : Int) : ofL t (l ++ [n]) = ofL t l ||| 2 ^ min n.toNat (t + 1) := by
  unfold ofL; rw [List.map_append]; exact setN_snoc _ _
theorem ofL_lt (t : Nat) (l : List Int) : ofL t l < 2 ^ (t + 2) := setN_lt fun k hk => by
  obtain ⟨x, _, rfl⟩ := List.mem_map.1 hk; omega

set_option maxRecDepth 100000 in
set_option maxHeartbeats 1000000 in
theorem Of_any {t : Int} {ao : Option Addr} {l : List Int} {n cap : Nat} {w : World} (hl : l.length = n) (hN : n ≤ 9223372036854775807) (hin : IsIn w ao l) (h64 : ∀ x ∈ l, x < 9223372036854775808) :
    Calls Tryd.prog 9 #[.int .i64 t, .slice ao n cap] w fun e w' => e = .returned (.tuple #[.int .u64 ((ofP t l).1 : Nat), .int .i64 (ofP t l).2]) ∧ Below w.heap.size w w' := by
  have HL := hid hl
  have HIN := hid hin
  clear hl hin
  by_cases h0 : t < 0 ∨ 62 < t
  · have HC := hid (Check_any (t := t) (ao := none) (l := []) (n := 0) (cap := 0) (w := w) rfl (by omega) (Or.inl rfl) (by simp))
    rw [chkE_nil, if_pos h0] at HC
    have HR := hid (show ofP t l = (0, 1) by unfold ofP; rw [if_pos h0])
    clear h0
    go_enter Tryd.func9, Tryd.ntmps9
    go_wp2_with fail
    refine HC.out.mono ?_
    rintro e w1 ⟨rfl, hb1⟩
    go_wp2
    go_ret2
    exact ⟨by rw [HR.out]; rfl, hb1⟩
  · have HC := hid (Check_any (t := t) (ao := none) (l := []) (n := 0) (cap := 0) (w := w) rfl (by omega) (Or.inl rfl) (by simp))
    rw [chkE_nil, if_neg h0] at HC
    obtain ⟨m, rfl⟩ : ∃ m : Nat, t = (m : Int) := ⟨t.toNat, by omega⟩
    have hm : m ≤ 62 := by omega
    have HR := hid (show ofP (m : Int) l = if l = [] then (0, 80) else if l.all (fun n => decide (0 ≤ n)) then (ofL m l, 0) else (0, 5) by unfold ofP; rw [if_neg h0]; rfl)
    clear h0
    by_cases hz : n = 0
    · subst hz
      have hl0 : l = [] := List.eq_nil_of_length_eq_zero HL.out
      rw [if_pos hl0] at HR
      clear hl0
      go_enter Tryd.func9, Tryd.ntmps9
      go_wp2_with fail
      refine HC.out.mono ?_
      rintro e w1 ⟨rfl, hb1⟩
      go_wp2
      go_ret2
      exact ⟨by rw [HR.out]; rfl, hb1⟩
    · have hl0 : l ≠ [] := fun e => hz (by rw [← HL.out, e]; rfl)
      rw [if_neg hl0] at HR
      clear hl0
      have hz' : ((n : Int) == 0) = false := by simpa using hz
      go_enter Tryd.func9, Tryd.ntmps9
      go_wp2_with fail
      refine HC.out.mono ?_
      rintro e w1 ⟨rfl, hb1⟩
      have HB := hid hb1
      clear hb1
      go_wp2_with fail
      go_loopw [20, 7] (fun i c wr => ∃ j : Nat, j ≤ n ∧ i = .int .i64 (j : Int) ∧ c = .int .u64 ((ofL m (l.take j) : Nat) : Int) ∧ wr = w1 ∧ Hid (∀ x ∈ l.take j, 0 ≤ x)) (fun i _ _ => n - (intOf i).toNat)
      case atStart => exact ⟨0, Nat.zero_le _, rfl, rfl, rfl, fun c hc => by simp at hc⟩
      case round =>
        obtain ⟨j, hj, rfl, rfl, hwr, HJ⟩ := hrel
        subst hwr
        by_cases hlt : j < n
        · have hjl : j < l.length := by rw [HL.out]; exact hlt
          obtain ⟨g, o, rfl, hg, hc⟩ : ∃ g o, ao = some ⟨g, o, none⟩ ∧ g < wr.heap.size ∧ wr.cell? ⟨g, o + j, none⟩ = some (.int .i64 (l.getD j 0)) := by
            rcases HIN.out.below HB.out with h | ⟨g, o, e, hg, hc⟩
            · rw [h] at hjl; simp at hjl
            · exact ⟨g, o, e, hg, hc j hjl⟩
          obtain ⟨x, hcv⟩ : ∃ x, l.getD j 0 = x := ⟨_, rfl⟩
          have hcm : l[j]? = some x := by rw [← hcv, List.getD_eq_getElem?_getD, List.getElem?_eq_getElem hjl]; rfl
          rw [hcv] at hc
          have h64x := h64 x (List.mem_of_getElem? hcm)
          have HTK := hid (show l.take (j + 1) = l.take j ++ [x] by rw [List.take_add_one, hcm]; rfl)
          have HM := hid (List.mem_of_getElem? hcm)
          have hkI : (j : Int) < (n : Int) := by omega
          have hk0 : (0 : Int) ≤ (j : Int) := by omega
          have hjN : (j : Int) < 9223372036854775807 := by omega
          clear hcm hjl hcv
          by_cases hx : x < 0
          · go_wp2
            go_ret2
            refine ⟨?_, HB.out⟩
            rw [HR.out, if_neg (by
              intro h
              have := List.all_eq_true.1 h x HM.out
              simp at this
              omega)]
            rfl
          · obtain ⟨y, rfl⟩ : ∃ y : Nat, x = (y : Int) := ⟨x.toNat, by omega⟩
            have HC1 := hid (cut_any (n := y) hm wr)
            have HC2 := hid (alone_any (i := min y (m + 1)) (by omega) wr)
            have HO := hid (or_pow (ofL m (l.take j)) (min y (m + 1)) (two_64 (ofL_lt m _) hm) (by omega))
            obtain ⟨C, hC⟩ : ∃ C, C = ofL m (l.take j) := ⟨_, rfl⟩
            obtain ⟨q, hq⟩ : ∃ q, q = min y (m + 1) := ⟨_, rfl⟩
            rw [← hC, ← hq] at HO
            rw [← hq] at HC1 HC2
            rw [← hC]
            have HCq := hid hC
            have HQ := hid hq
            clear hC hq
            go_wp2_with fail
            refine HC1.out.mono ?_
            rintro e w' ⟨rfl, e'⟩
            have ew := e'.symm
            clear e'
            subst ew
            go_wp2_with fail
            refine HC2.out.mono ?_
            rintro e w' ⟨rfl, e'⟩
            have ew := e'.symm
            clear e'
            subst ew
            go_wp2
            go_roundw
            case rel =>
              refine ⟨j + 1, by omega, by simp, ?_, trivial, fun z hz => ?_⟩
              · rw [HTK.out, ofL_snoc, ← HCq.out, show min (y : Int).toNat (m + 1) = q from HQ.out.symm, ← HO.out]
              · rw [HTK.out] at hz
                rcases List.mem_append.1 hz with hz | hz
                · exact HJ.out z hz
                · rw [List.mem_singleton.1 hz]; omega
            case measure => simp [intOf]; omega
        · have hje : j = n := by omega
          have hkI : ¬ (j : Int) < (n : Int) := by omega
          have HT := hid (show l.take j = l by rw [hje, ← HL.out]; exact List.take_length)
          clear hje
          go_wp2
          go_ret2
          refine ⟨?_, HB.out⟩
          rw [HR.out, if_pos (List.all_eq_true.2 (by have := HJ.out; rw [HT.out] at this; intro x hx; simpa using this x hx)), HT.out]
          rfl
end Go.Proofs.YteadddocmmkbgaaDoor.Co
