/-
  Counts: the document's own begins.
-/
import Derived.Test.YteadddocmmkbgaaDoorKRefD
import Derived.Test.YteadddocmmkbgaaDoorKRdB
import Derived.Test.YteadddocmmkbgaaDoorKMathB
namespace Go.Proofs.YteadddocmmkbgaaDoor.Co
open Go.RowKit Go.Shelf

/-- Does a rest go on with an element of these? rec: what comes behind an element. -/
def goB (t : Nat) (rec : Nat → List UInt8 → Bool) (s : List UInt8) (i : Nat) : Bool :=
  (decide (s.length ≤ (wordT t i).length) && decide ((wordT t i).take s.length = s)) || (decide ((wordT t i).length < s.length) && (decide (s.take (wordT t i).length = wordT t i) && rec i (s.drop (wordT t i).length)))
/-- The document's begins, as a function (fuel: more than the text is long). -/
def begB (t : Nat) : Nat → Option Nat → List UInt8 → Bool
  | 0, _, _ => false
  | k + 1, last, s => if s = [] then true else match last with
    | none => (List.range (t + 2)).any (goB t (fun i r => begB t k (some i) r) s)
    | some l => if s = [125] then true else if s.head? = some 44 then (if s.tail = [] then decide (l ≤ t) else (List.range (t + 2)).any (fun i => decide (l < i) && goB t (fun i r => begB t k (some i) r) s.tail i)) else false
def lastI : Option Nat → Int
  | none => -1
  | some l => (l : Int)
theorem take_txt (W : List UInt8) (n : Nat) : ((tx W).extract 0 n).toList = W.take n := by
  rw [ByteArray.toList_eq, Lib.extract_eq]
  simp
theorem word_pos {t i : Nat} (ht : t ≤ 62) (hi : i ≤ t + 1) : 0 < (wordT t i).length := List.length_pos_iff.2 (word_ne ht hi)
set_option maxRecDepth 100000 in
set_option maxHeartbeats 4000000 in
theorem begins_any {w0 : World} {t : Nat} (ht : t ≤ 62) (hP : PowTab w0) : ∀ (k : Nat) (s : List UInt8) (last : Option Nat) (w : World), s.length < k → (∀ l, last = some l → l ≤ t + 1) → Below w0.heap.size w0 w →
    Calls Tryd.prog 59 #[.int .i64 (t : Int), .string (tx s), .int .i64 (lastI last)] w fun e w' => e = .returned (.bool (begB t k last s)) ∧ Below w.heap.size w w' := by
  intro k
  induction k with
  | zero => intro s last w h; omega
  | succ k ih =>
    intro s last w hk hl hB
    by_cases h0 : s = []
    · subst h0
      have e0 : begB t (k + 1) last [] = true := by unfold begB; rw [if_pos rfl]
      rw [e0]
      go_enter Tryd.func59, Tryd.ntmps59
      go_wp2
      go_ret
      exact ⟨rfl, Below.refl _ _⟩
    · obtain ⟨a, r, rfl⟩ := List.exists_cons_of_ne_nil h0
      cases last with
      | none =>
        obtain ⟨q, hq⟩ : ∃ q, q = a :: r := ⟨_, rfl⟩
        rw [← hq] at hk ⊢
        have hq0 : q ≠ [] := by rw [hq]; simp
        have HBE := hid (show begB t (k + 1) none q = (List.range (t + 2)).any (goB t (fun i r => begB t k (some i) r) q) by rw [begB, if_neg hq0])
        have HT := hid (show ∀ j, 0 ≤ j → j ≤ t + 1 → goB t (fun i r => begB t k (some i) r) q j = true → begB t (k + 1) none q = true by
          intro j _ h1 h2
          rw [HBE.out, List.any_eq_true]
          exact ⟨j, List.mem_range.2 (by omega), h2⟩)
        have HN := hid (show (∀ x, 0 ≤ x → x < t + 2 → goB t (fun i r => begB t k (some i) r) q x = false) → begB t (k + 1) none q = false by
          intro h
          rw [HBE.out, List.any_eq_false]
          intro x hx
          rw [h x (by omega) (List.mem_range.1 hx)]
          simp)
        have hql : 0 < q.length := List.length_pos_iff.2 hq0
        clear hq h0 hl HBE
        simp only [lastI]
        have hE : q.isEmpty = false := by cases q <;> simp_all
        cases hF : (q == [125]) with
        | true =>
          have hd : q = [125] := eq_of_beq hF
          clear hd
          go_enter Tryd.func59, Tryd.ntmps59
          go_wp2_with fail
          go_loopw [7] (fun i wr => ∃ j : Nat, 0 ≤ j ∧ j ≤ t + 2 ∧ i = .int .i64 (j : Int) ∧ Hid ((∀ x, 0 ≤ x → x < j → goB t (fun i r => begB t k (some i) r) q x = false) ∧ Below w.heap.size w wr)) (fun i _ => t + 2 - (intOf i).toNat)
          case atStart => exact ⟨0, by omega, by omega, rfl, fun x hx hy => by omega, Below.refl _ _⟩
          case round =>
            obtain ⟨j, hs, hj, rfl, HJ⟩ := hrel
            have HS := hid hs
            clear hs
            by_cases hlt : j < t + 2
            · have HW := hid (Rword_any (i := j) ht (by omega) (hP.below (below_tr hB HJ.out.2)))
              obtain ⟨W, hW⟩ : ∃ W, W = wordT t j := ⟨_, rfl⟩
              rw [← hW] at HW
              have hjI : (j : Int) ≤ (t : Int) + 1 := by omega
              have hjN : j ≤ t + 1 := by omega
              have HWP := hid (show 0 < W.length by rw [hW]; exact word_pos ht hjN)
              have HGO := hid (show goB t (fun i r => begB t k (some i) r) q j = ((decide (q.length ≤ W.length) && decide (W.take q.length = q)) || (decide (W.length < q.length) && (decide (q.take W.length = W) && begB t k (some j) (q.drop W.length)))) by rw [hW]; rfl)
              by_cases hc : q.length ≤ W.length
              · have hcI : (q.length : Int) ≤ (W.length : Int) := by omega
                clear hW
                go_wp2_with fail
                refine HW.out.mono ?_
                rintro e w2 ⟨rfl, hb2⟩
                go_wp2_with fail
                · rename_i hx
                  rw [take_txt] at hx
                  have hg : goB t (fun i r => begB t k (some i) r) q j = true := by
                    rw [HGO.out]; simp [hc, eq_of_beq hx]
                  go_ret
                  exact ⟨by rw [HT.out j HS.out hjN hg]; rfl, below_tr HJ.out.2 hb2⟩
                · rename_i hx hy
                  rw [take_txt] at hx
                  have hx' : ¬ W.take q.length = q := by simpa using hx
                  have hg : goB t (fun i r => begB t k (some i) r) q j = false := by
                    rw [HGO.out]; simp [hx', hy]
                  have hsj := HS.out
                  refine ⟨⟨j + 1, by omega, by omega, by rw [Int.natCast_add]; rfl, ?_, below_tr HJ.out.2 hb2⟩, by simp only [intOf]; omega⟩
                  intro x h1 h2
                  by_cases h3 : x = j
                  · rw [h3]; exact hg
                  · exact HJ.out.1 x h1 (by omega)
              · have hcI : ¬ (q.length : Int) ≤ (W.length : Int) := by omega
                have hcJ : (W.length : Int) < (q.length : Int) := by omega
                have hcN : W.length < q.length := by omega
                clear hW
                go_wp2_with fail
                refine HW.out.mono ?_
                rintro e w2 ⟨rfl, hb2⟩
                go_wp2_with fail
                · rename_i hx _ _
                  rw [take_txt] at hx
                  have hwp := HWP.out
                  rw [extract_drop]
                  refine (ih (q.drop W.length) (some j) w2 (by rw [List.length_drop]; omega) (fun l h => by cases h; omega) (below_tr hB (below_tr HJ.out.2 hb2))).mono ?_
                  rintro e w3 ⟨rfl, hb3⟩
                  have HHX := hid hx
                  clear hx
                  obtain ⟨bb, hbb⟩ : ∃ bb, bb = begB t k (some j) (q.drop W.length) := ⟨_, rfl⟩
                  rw [← hbb]
                  have HG := hid (show goB t (fun i r => begB t k (some i) r) q j = bb by
                    rw [HGO.out, HHX.out, ← hbb]; simp [hc, hcN])
                  clear hbb
                  cases bb with
                  | true =>
                    go_wp2_with fail
                    go_ret
                    exact ⟨by rw [HT.out j HS.out hjN HG.out]; rfl, below_tr HJ.out.2 (below_tr hb2 hb3)⟩
                  | false =>
                    go_wp2_with fail
                    have hsj := HS.out
                    refine ⟨⟨j + 1, by omega, by omega, by rw [Int.natCast_add]; rfl, ?_, below_tr HJ.out.2 (below_tr hb2 hb3)⟩, by simp only [intOf]; omega⟩
                    intro x h1 h2
                    by_cases h3 : x = j
                    · rw [h3]; exact HG.out
                    · exact HJ.out.1 x h1 (by omega)
                · rename_i hx
                  rw [take_txt] at hx
                  have hg : goB t (fun i r => begB t k (some i) r) q j = false := by
                    rw [HGO.out]; simp [hx, hc]
                  have hsj := HS.out
                  refine ⟨⟨j + 1, by omega, by omega, by rw [Int.natCast_add]; rfl, ?_, below_tr HJ.out.2 hb2⟩, by simp only [intOf]; omega⟩
                  intro x h1 h2
                  by_cases h3 : x = j
                  · rw [h3]; exact hg
                  · exact HJ.out.1 x h1 (by omega)
            · have hjj : j = t + 2 := by omega
              have HFA := hid (HN.out (fun x h1 h2 => HJ.out.1 x h1 (by omega)))
              have hjI : ¬ (j : Int) ≤ (t : Int) + 1 := by omega
              go_wp2_with fail
              go_ret
              exact ⟨by rw [HFA.out]; rfl, HJ.out.2⟩
        | false =>
          have hd : ¬ q = [125] := by simpa using hF
          go_enter Tryd.func59, Tryd.ntmps59
          go_wp2_with fail
          go_loopw [7] (fun i wr => ∃ j : Nat, 0 ≤ j ∧ j ≤ t + 2 ∧ i = .int .i64 (j : Int) ∧ Hid ((∀ x, 0 ≤ x → x < j → goB t (fun i r => begB t k (some i) r) q x = false) ∧ Below w.heap.size w wr)) (fun i _ => t + 2 - (intOf i).toNat)
          case atStart => exact ⟨0, by omega, by omega, rfl, fun x hx hy => by omega, Below.refl _ _⟩
          case round =>
            obtain ⟨j, hs, hj, rfl, HJ⟩ := hrel
            have HS := hid hs
            clear hs
            by_cases hlt : j < t + 2
            · have HW := hid (Rword_any (i := j) ht (by omega) (hP.below (below_tr hB HJ.out.2)))
              obtain ⟨W, hW⟩ : ∃ W, W = wordT t j := ⟨_, rfl⟩
              rw [← hW] at HW
              have hjI : (j : Int) ≤ (t : Int) + 1 := by omega
              have hjN : j ≤ t + 1 := by omega
              have HWP := hid (show 0 < W.length by rw [hW]; exact word_pos ht hjN)
              have HGO := hid (show goB t (fun i r => begB t k (some i) r) q j = ((decide (q.length ≤ W.length) && decide (W.take q.length = q)) || (decide (W.length < q.length) && (decide (q.take W.length = W) && begB t k (some j) (q.drop W.length)))) by rw [hW]; rfl)
              by_cases hc : q.length ≤ W.length
              · have hcI : (q.length : Int) ≤ (W.length : Int) := by omega
                clear hW
                go_wp2_with fail
                refine HW.out.mono ?_
                rintro e w2 ⟨rfl, hb2⟩
                go_wp2_with fail
                · rename_i hx
                  rw [take_txt] at hx
                  have hg : goB t (fun i r => begB t k (some i) r) q j = true := by
                    rw [HGO.out]; simp [hc, eq_of_beq hx]
                  go_ret
                  exact ⟨by rw [HT.out j HS.out hjN hg]; rfl, below_tr HJ.out.2 hb2⟩
                · rename_i hx hy
                  rw [take_txt] at hx
                  have hx' : ¬ W.take q.length = q := by simpa using hx
                  have hg : goB t (fun i r => begB t k (some i) r) q j = false := by
                    rw [HGO.out]; simp [hx', hy]
                  have hsj := HS.out
                  refine ⟨⟨j + 1, by omega, by omega, by rw [Int.natCast_add]; rfl, ?_, below_tr HJ.out.2 hb2⟩, by simp only [intOf]; omega⟩
                  intro x h1 h2
                  by_cases h3 : x = j
                  · rw [h3]; exact hg
                  · exact HJ.out.1 x h1 (by omega)
              · have hcI : ¬ (q.length : Int) ≤ (W.length : Int) := by omega
                have hcJ : (W.length : Int) < (q.length : Int) := by omega
                have hcN : W.length < q.length := by omega
                clear hW
                go_wp2_with fail
                refine HW.out.mono ?_
                rintro e w2 ⟨rfl, hb2⟩
                go_wp2_with fail
                · rename_i hx _ _
                  rw [take_txt] at hx
                  have hwp := HWP.out
                  rw [extract_drop]
                  refine (ih (q.drop W.length) (some j) w2 (by rw [List.length_drop]; omega) (fun l h => by cases h; omega) (below_tr hB (below_tr HJ.out.2 hb2))).mono ?_
                  rintro e w3 ⟨rfl, hb3⟩
                  have HHX := hid hx
                  clear hx
                  obtain ⟨bb, hbb⟩ : ∃ bb, bb = begB t k (some j) (q.drop W.length) := ⟨_, rfl⟩
                  rw [← hbb]
                  have HG := hid (show goB t (fun i r => begB t k (some i) r) q j = bb by
                    rw [HGO.out, HHX.out, ← hbb]; simp [hc, hcN])
                  clear hbb
                  cases bb with
                  | true =>
                    go_wp2_with fail
                    go_ret
                    exact ⟨by rw [HT.out j HS.out hjN HG.out]; rfl, below_tr HJ.out.2 (below_tr hb2 hb3)⟩
                  | false =>
                    go_wp2_with fail
                    have hsj := HS.out
                    refine ⟨⟨j + 1, by omega, by omega, by rw [Int.natCast_add]; rfl, ?_, below_tr HJ.out.2 (below_tr hb2 hb3)⟩, by simp only [intOf]; omega⟩
                    intro x h1 h2
                    by_cases h3 : x = j
                    · rw [h3]; exact HG.out
                    · exact HJ.out.1 x h1 (by omega)
                · rename_i hx
                  rw [take_txt] at hx
                  have hg : goB t (fun i r => begB t k (some i) r) q j = false := by
                    rw [HGO.out]; simp [hx, hc]
                  have hsj := HS.out
                  refine ⟨⟨j + 1, by omega, by omega, by rw [Int.natCast_add]; rfl, ?_, below_tr HJ.out.2 hb2⟩, by simp only [intOf]; omega⟩
                  intro x h1 h2
                  by_cases h3 : x = j
                  · rw [h3]; exact hg
                  · exact HJ.out.1 x h1 (by omega)
            · have hjj : j = t + 2 := by omega
              have HFA := hid (HN.out (fun x h1 h2 => HJ.out.1 x h1 (by omega)))
              have hjI : ¬ (j : Int) ≤ (t : Int) + 1 := by omega
              go_wp2_with fail
              go_ret
              exact ⟨by rw [HFA.out]; rfl, HJ.out.2⟩
      | some l =>
        have hll := hl l rfl
        clear hl
        simp only [lastI]
        have hE1 : (tx (a :: r)).extract 1 (r.length + 1) = tx r := extract_drop (a :: r) 1
        have HE1 := hid hE1
        clear hE1
        cases hF : ((a :: r) == [125]) with
        | true =>
          have hd : a :: r = [125] := eq_of_beq hF
          have HR := hid (show begB t (k + 1) (some l) (a :: r) = true by rw [begB, if_neg h0, if_pos hd])
          clear hd
          go_enter Tryd.func59, Tryd.ntmps59
          go_wp2_with fail
          go_ret
          exact ⟨by rw [HR.out]; rfl, Below.refl _ _⟩
        | false =>
          have hd : ¬ a :: r = [125] := by simpa using hF
          have HR := hid (show begB t (k + 1) (some l) (a :: r) = if a = 44 then (if r = [] then decide (l ≤ t) else (List.range (t + 2)).any (fun i => decide (l < i) && goB t (fun i r => begB t k (some i) r) r i)) else false by
            rw [begB, if_neg h0, if_neg hd]
            by_cases ha : a = 44
            · rw [if_pos ha, if_pos (by rw [ha]; rfl)]; rfl
            · rw [if_neg ha, if_neg (by simpa using ha)])
          clear hd
          go_enter Tryd.func59, Tryd.ntmps59
          go_wp2_with fail
          · rename_i hx
            have ha : a ≠ 44 := fun h => by subst h; have hx' : (((44 : UInt8).toNat : Int) != 44) = true := hx; exact absurd hx' (by decide)
            go_ret
            exact ⟨by rw [HR.out, if_neg ha]; rfl, Below.refl _ _⟩
          · rename_i hx hy
            have ha : a = 44 := by
              have hx' : ¬ ((a.toNat : Int) != 44) = true := by intro h; exact absurd (h.symm.trans hx) (by decide)
              have hx2 : (a.toNat : Int) = 44 := by simpa using hx'
              exact UInt8.toNat_inj.1 (by show a.toNat = 44; omega)
            rw [HE1.out, ByteArray.toList_eq] at hy
            have hr : r = [] := List.isEmpty_iff.1 hy
            go_ret
            exact ⟨by rw [HR.out, if_pos ha, if_pos hr]; rfl, Below.refl _ _⟩
          · rename_i hx hy _ _
            have ha : a = 44 := by
              have hx' : ¬ ((a.toNat : Int) != 44) = true := by intro h; exact absurd (h.symm.trans hx) (by decide)
              have hx2 : (a.toNat : Int) = 44 := by simpa using hx'
              exact UInt8.toNat_inj.1 (by show a.toNat = 44; omega)
            rw [HE1.out] at hy
            have hy2 := hy
            rw [ByteArray.toList_eq] at hy
            have hr : r ≠ [] := fun h => by rw [h] at hy; cases hy
            have HT := hid (show ∀ j, l + 1 ≤ j → j ≤ t + 1 → goB t (fun i r => begB t k (some i) r) r j = true → begB t (k + 1) (some l) (a :: r) = true by
              intro j h3 h1 h2
              rw [HR.out, if_pos ha, if_neg hr, List.any_eq_true]
              exact ⟨j, List.mem_range.2 (by omega), by rw [h2]; simp; omega⟩)
            have HN := hid (show (∀ x, l + 1 ≤ x → x < t + 2 → goB t (fun i r => begB t k (some i) r) r x = false) → begB t (k + 1) (some l) (a :: r) = false by
              intro h
              rw [HR.out, if_pos ha, if_neg hr, List.any_eq_false]
              intro x hx
              by_cases hlx : l < x
              · rw [h x (by omega) (List.mem_range.1 hx)]; simp
              · simp [hlx])
            rw [HE1.out]
            have hz : ∀ h, (tx (a :: r))[0]'h = a := fun _ => rfl
            have hx3 : ((a.toNat : Int) != 44) = false := hx
            simp only [hz, hx3, hy2]
            clear hz hx3 hy2
            have hrk : r.length + 1 < k + 1 := hk
            clear hx hy ha hF h0 hr HR hk HE1
            go_loopw [7] (fun i wr => ∃ j : Nat, (l + 1) ≤ j ∧ j ≤ t + 2 ∧ i = .int .i64 (j : Int) ∧ Hid ((∀ x, (l + 1) ≤ x → x < j → goB t (fun i r => begB t k (some i) r) r x = false) ∧ Below w.heap.size w wr)) (fun i _ => t + 2 - (intOf i).toNat)
            case atStart => exact ⟨(l + 1), by omega, by omega, by rw [Int.natCast_add]; rfl, fun x hx hy => by omega, Below.refl _ _⟩
            case round =>
              obtain ⟨j, hs, hj, rfl, HJ⟩ := hrel
              have HS := hid hs
              clear hs
              by_cases hlt : j < t + 2
              · have HW := hid (Rword_any (i := j) ht (by omega) (hP.below (below_tr hB HJ.out.2)))
                obtain ⟨W, hW⟩ : ∃ W, W = wordT t j := ⟨_, rfl⟩
                rw [← hW] at HW
                have hjI : (j : Int) ≤ (t : Int) + 1 := by omega
                have hjN : j ≤ t + 1 := by omega
                have HWP := hid (show 0 < W.length by rw [hW]; exact word_pos ht hjN)
                have HGO := hid (show goB t (fun i r => begB t k (some i) r) r j = ((decide (r.length ≤ W.length) && decide (W.take r.length = r)) || (decide (W.length < r.length) && (decide (r.take W.length = W) && begB t k (some j) (r.drop W.length)))) by rw [hW]; rfl)
                by_cases hc : r.length ≤ W.length
                · have hcI : (r.length : Int) ≤ (W.length : Int) := by omega
                  clear hW
                  go_wp2_with fail
                  refine HW.out.mono ?_
                  rintro e w2 ⟨rfl, hb2⟩
                  go_wp2_with fail
                  · rename_i hx
                    rw [take_txt] at hx
                    have hg : goB t (fun i r => begB t k (some i) r) r j = true := by
                      rw [HGO.out]; simp [hc, eq_of_beq hx]
                    go_ret
                    exact ⟨by rw [HT.out j HS.out hjN hg]; rfl, below_tr HJ.out.2 hb2⟩
                  · rename_i hx hy
                    rw [take_txt] at hx
                    have hx' : ¬ W.take r.length = r := by simpa using hx
                    have hg : goB t (fun i r => begB t k (some i) r) r j = false := by
                      rw [HGO.out]; simp [hx', hy]
                    have hsj := HS.out
                    refine ⟨⟨j + 1, by omega, by omega, by rw [Int.natCast_add]; rfl, ?_, below_tr HJ.out.2 hb2⟩, by simp only [intOf]; omega⟩
                    intro x h1 h2
                    by_cases h3 : x = j
                    · rw [h3]; exact hg
                    · exact HJ.out.1 x h1 (by omega)
                · have hcI : ¬ (r.length : Int) ≤ (W.length : Int) := by omega
                  have hcJ : (W.length : Int) < (r.length : Int) := by omega
                  have hcN : W.length < r.length := by omega
                  clear hW
                  go_wp2_with fail
                  refine HW.out.mono ?_
                  rintro e w2 ⟨rfl, hb2⟩
                  go_wp2_with fail
                  · rename_i hx _ _
                    rw [take_txt] at hx
                    have hwp := HWP.out
                    rw [extract_drop]
                    refine (ih (r.drop W.length) (some j) w2 (by rw [List.length_drop]; omega) (fun l h => by cases h; omega) (below_tr hB (below_tr HJ.out.2 hb2))).mono ?_
                    rintro e w3 ⟨rfl, hb3⟩
                    have HHX := hid hx
                    clear hx
                    obtain ⟨bb, hbb⟩ : ∃ bb, bb = begB t k (some j) (r.drop W.length) := ⟨_, rfl⟩
                    rw [← hbb]
                    have HG := hid (show goB t (fun i r => begB t k (some i) r) r j = bb by
                      rw [HGO.out, HHX.out, ← hbb]; simp [hc, hcN])
                    clear hbb
                    cases bb with
                    | true =>
                      go_wp2_with fail
                      go_ret
                      exact ⟨by rw [HT.out j HS.out hjN HG.out]; rfl, below_tr HJ.out.2 (below_tr hb2 hb3)⟩
                    | false =>
                      go_wp2_with fail
                      have hsj := HS.out
                      refine ⟨⟨j + 1, by omega, by omega, by rw [Int.natCast_add]; rfl, ?_, below_tr HJ.out.2 (below_tr hb2 hb3)⟩, by simp only [intOf]; omega⟩
                      intro x h1 h2
                      by_cases h3 : x = j
                      · rw [h3]; exact HG.out
                      · exact HJ.out.1 x h1 (by omega)
                  · rename_i hx
                    rw [take_txt] at hx
                    have hg : goB t (fun i r => begB t k (some i) r) r j = false := by
                      rw [HGO.out]; simp [hx, hc]
                    have hsj := HS.out
                    refine ⟨⟨j + 1, by omega, by omega, by rw [Int.natCast_add]; rfl, ?_, below_tr HJ.out.2 hb2⟩, by simp only [intOf]; omega⟩
                    intro x h1 h2
                    by_cases h3 : x = j
                    · rw [h3]; exact hg
                    · exact HJ.out.1 x h1 (by omega)
              · have hjj : j = t + 2 := by omega
                have HFA := hid (HN.out (fun x h1 h2 => HJ.out.1 x h1 (by omega)))
                have hjI : ¬ (j : Int) ≤ (t : Int) + 1 := by omega
                go_wp2_with fail
                go_ret
                exact ⟨by rw [HFA.out]; rfl, HJ.out.2⟩
end Go.Proofs.YteadddocmmkbgaaDoor.Co
