/-
  Counts: the document's Read.
-/
import Derived.Test.YteadddocmmkbgaaDoorKRefF
namespace Go.Proofs.YteadddocmmkbgaaDoor.Co
open Go.RowKit Go.Shelf

theorem extract_take (W : List UInt8) (n : Nat) : (tx W).extract 0 n = tx (W.take n) := by
  rw [Lib.extract_eq]
  simp
theorem mid_txt (s : List UInt8) (a b : Nat) : ((tx s).extract a b).toList = (s.take b).drop a := by
  rw [ByteArray.toList_eq, Lib.extract_eq, List.drop_take]
theorem below_drew (w : World) : Below w.heap.size w w.drew := by
  first
  | exact Below.refl _ _
  | exact (Below.refl _ _).drew
  | exact (Below.refl _ _).drewN 1
/-- The elements of this word, put to a set: by how many have been looked at. -/
def addW (t : Nat) (x : List UInt8) (c : Nat) : Nat → Nat
  | 0 => c
  | k + 1 => if wordT t k = x then addW t x c k ||| 2 ^ k else addW t x c k
/-- The set and where the next word begins, behind i signs (from 1 on). -/
def rdC (t : Nat) (s : List UInt8) : Nat → Nat × Nat
  | 0 => (0, 1)
  | i + 1 => if s[i + 1]? = some 44 ∨ s[i + 1]? = some 125 then (addW t ((s.take (i + 1)).drop (rdC t s i).2) (rdC t s i).1 (t + 2), i + 2) else rdC t s i
/-- What the document's Read answers. -/
def rdP (t : Nat) (s : List UInt8) (e : Ending) : Prop := ∃ n : Nat, n ≤ s.length ∧ (∀ m, m ≤ n → BegB t (s.take m) = true) ∧ (n < s.length → BegB t (s.take (n + 1)) = false) ∧
  ((n = s.length ∧ s.getLast? = some 125 ∧ e = .returned (.tuple #[.int .u64 ((rdC t s (s.length - 1)).1 : Int), .int .i64 0, .int .i64 0])) ∨
   (¬ (n = s.length ∧ s.getLast? = some 125) ∧ e = .returned (.tuple #[.int .u64 0, .int .i64 (n : Int), .int .i64 21])))
set_option maxRecDepth 100000 in
set_option maxHeartbeats 4000000 in
theorem RRead_any {t : Nat} (ht : t ≤ 62) (s : List UInt8) (hs : s.length ≤ 9223372036854775807) {w : World} (hP : PowTab w) :
    Calls Tryd.prog 28 #[.int .i64 (t : Int), .string (tx s)] w fun e w' => rdP t s e ∧ Below w.heap.size w w' := by
  have HP := hid hP
  have htI : (t : Int) ≤ 62 := by omega
  have HBo := hid (fun w => RBound_any (t := (t : Int)) w)
  go_enter Tryd.func28, Tryd.ntmps28
  go_wp2_with fail
  refine (HBo.out w).mono ?_
  rintro e w1 ⟨rfl, rfl⟩
  rw [show decide ((0 : Int) ≤ (t : Int) ∧ (t : Int) ≤ 62) = true by simp; omega]
  go_wp2_with fail
  go_loopw [7] (fun i wr => ∃ n : Nat, n ≤ s.length ∧ i = .int .i64 (n : Int) ∧ Hid ((∀ m, m ≤ n → BegB t (s.take m) = true) ∧ Below w1.heap.size w1 wr)) (fun i _ => s.length - (intOf i).toNat)
  case atStart => exact ⟨0, by omega, rfl, fun m hm => by rw [show m = 0 by omega]; rfl, Below.refl _ _⟩
  case round =>
    obtain ⟨n, hn, rfl, HI⟩ := hrel
    by_cases hlt : n < s.length
    · have hltI : (n : Int) < (s.length : Int) := by omega
      have HBg := hid (Begins_any ht (s.take (n + 1)) (HP.out.below HI.out.2))
      go_wp2_with fail
      rw [extract_take]
      refine HBg.out.mono ?_
      rintro e w2 ⟨rfl, hb2⟩
      obtain ⟨bb, hbb⟩ : ∃ bb, bb = BegB t (s.take (n + 1)) := ⟨_, rfl⟩
      rw [← hbb]
      have HBB := hid hbb
      clear hbb HBg
      cases bb with
      | true =>
        go_wp2_with fail
        refine ⟨⟨n + 1, by omega, by rw [Int.natCast_add]; rfl, ?_, below_tr HI.out.2 hb2⟩, by simp only [intOf]; omega⟩
        intro m hm
        by_cases h3 : m = n + 1
        · rw [h3]; exact HBB.out.symm
        · exact HI.out.1 m (by omega)
      | false =>
        go_wp2_with fail
        go_ret3
        exact ⟨⟨n, hn, HI.out.1, fun _ => HBB.out.symm, Or.inr ⟨fun h => by omega, rfl⟩⟩, below_tr HI.out.2 hb2⟩
    · have hltI : ¬ (n : Int) < (s.length : Int) := by omega
      have hnl : n = s.length := by omega
      have HNL := hid hnl
      clear hnl
      go_wp2_with fail
      · rename_i hx
        have hnl := HNL.out
        subst hx
        go_ret3
        refine ⟨⟨0, hn, HI.out.1, fun h => by omega, Or.inr ⟨fun h => ?_, rfl⟩⟩, HI.out.2⟩
        have h0 : s = [] := List.length_eq_zero_iff.1 (by omega)
        rw [h0] at h
        cases h.2
      · rename_i hz _ h1 hx
        have hnl := HNL.out
        have hl : n - 1 < s.length := by omega
        have hx' : ¬ s[n - 1]? = some 125 := by
          intro h
          rcases hx with hx | hx
          · have : (n : Int) = 0 := by simpa using hx
            omega
          · rw [List.getElem?_eq_getElem hl] at h
            have h3 : (tx s)[n - 1]'(by exact hl) = 125 := Option.some.inj h
            rw [h3] at hx
            exact absurd hx (by decide)
        go_ret3
        refine ⟨⟨n, hn, HI.out.1, fun h => by omega, Or.inr ⟨fun h => hx' ?_, rfl⟩⟩, HI.out.2⟩
        rw [hnl, ← List.getLast?_eq_getElem?]
        exact h.2
      · rename_i hz _ h1 hx _ _
        have hnl := HNL.out
        have hl : n - 1 < s.length := by omega
        have HLA := hid (show s.getLast? = some 125 by
          have hx2 : ((s[n - 1].toNat : Int) != 125) = false := hx.2
          have hx3 : (s[n - 1].toNat : Int) = 125 := by simpa using hx2
          rw [List.getLast?_eq_getElem?, ← hnl, List.getElem?_eq_getElem hl]
          congr 1
          exact UInt8.toNat_inj.1 (by show s[n - 1].toNat = 125; omega))
        have hz2 : (tx s)[n - 1]'(by exact hl) = s[n - 1] := rfl
        obtain ⟨g, hg⟩ : ∃ g, g = s[n - 1] := ⟨_, rfl⟩
        have hx1 := hx.1
        have hx2 := hx.2
        simp only [hz2, ← hg] at hx2 ⊢
        simp only [hx1, hx2, Bool.or_self]
        clear hx1 hx2 hx hg hz2 hnl hl
        go_loopw [10, 8, 9] (fun i c f wr => ∃ j cc ff : Nat, j + 1 ≤ s.length ∧ ff ≤ j + 1 ∧ cc < 18446744073709551616 ∧ i = .int .i64 (j + 1 : Int) ∧ c = .int .u64 (cc : Int) ∧ f = .int .i64 (ff : Int) ∧ Hid ((cc, ff) = rdC t s j ∧ Below w1.heap.size w1 wr)) (fun i _ _ _ => s.length - (intOf i).toNat)
        case atStart => exact ⟨0, 0, 1, by omega, by omega, by omega, rfl, rfl, rfl, rfl, HI.out.2⟩
        case round =>
          obtain ⟨j, cc, ff, hj, hff, hcc, rfl, rfl, rfl, HJ⟩ := hrel
          by_cases hlt2 : j + 1 < s.length
          · have hlt2I : (j : Int) + 1 < (s.length : Int) := by omega
            go_wp2_with fail
            · rename_i hx _ _
              have hg2l : j + 1 < s.length := hlt2
              have hz3 : ∀ h, (tx s)[j + 1]'h = s[j + 1] := fun _ => rfl
              have HCH := hid (show s[j + 1]? = some 44 ∨ s[j + 1]? = some 125 by
                rw [List.getElem?_eq_getElem hg2l]
                left
                congr 1
                have hx' : (s[j + 1].toNat : Int) = 44 := hx
                exact UInt8.toNat_inj.1 (by show s[j + 1].toNat = 44; omega))
              obtain ⟨g2, hg2⟩ : ∃ g2, g2 = s[j + 1] := ⟨_, rfl⟩
              simp only [hz3, ← hg2] at hx ⊢
              obtain ⟨b1, hb1⟩ : ∃ b1, b1 = ((g2.toNat : Int) == 44) := ⟨_, rfl⟩
              obtain ⟨b2, hb2⟩ : ∃ b2, b2 = ((g2.toNat : Int) == 125) := ⟨_, rfl⟩
              try rw [← hb1]
              try rw [← hb2]
              clear hb1 hb2 hg2 hz3 hx hg2l 
              obtain ⟨X, hX⟩ : ∃ X, X = (s.take (j + 1)).drop ff := ⟨_, rfl⟩
              have HX := hid hX
              clear hX
              go_loopw [11, 8] (fun k c wr2 => ∃ kk ck : Nat, kk ≤ t + 2 ∧ ck < 18446744073709551616 ∧ k = .int .i64 (kk : Int) ∧ c = .int .u64 (ck : Int) ∧ Hid (ck = addW t X cc kk ∧ Below w1.heap.size w1 wr2)) (fun k _ _ => t + 2 - (intOf k).toNat)
              case atStart => exact ⟨0, cc, by omega, hcc, rfl, rfl, rfl, HJ.out.2⟩
              case round =>
                obtain ⟨kk, ck, hkk, hck, rfl, rfl, HK⟩ := hrel
                by_cases hk3 : kk < t + 2
                · have hk3I : (kk : Int) ≤ (t : Int) + 1 := by omega
                  have hk3N : kk ≤ t + 1 := by omega
                  have HW := hid (Rword_any (i := kk) (w := wr.drew) ht (by omega) (HP.out.below (below_tr HK.out.2 (below_drew wr))))
                  obtain ⟨W, hW⟩ : ∃ W, W = wordT t kk := ⟨_, rfl⟩
                  rw [← hW] at HW
                  have HWQ := hid hW
                  clear hW
                  have HO := hid (Rone_any (i := kk) (by omega))
                  have hffI : (ff : Int) ≤ (j : Int) + 1 := by omega
                  have hjsI : (j : Int) + 1 ≤ (s.length : Int) := by omega
                  go_wp2_with fail
                  go_region_held2 (fun w' => True) (first | (go_keep; done) | trivial) (first | (go_at_call 43; refine HW.out.mono ?_; rintro e w2 ⟨rfl, hb2⟩))
                  have HOR := hid (or_pow ck kk hck (by omega))
                  go_wp2_with fail
                  · rename_i hx _ _
                    rw [mid_txt, ← HX.out] at hx
                    have HWX := hid (eq_of_beq hx)
                    clear hx
                    refine (HO.out _).mono ?_
                    rintro e w3 ⟨rfl, e'⟩
                    have ew := e'.symm
                    clear e'
                    subst ew
                    go_wp2_with fail
                    refine ⟨⟨kk + 1, ck ||| 2 ^ kk, by omega, ?_, by rw [Int.natCast_add]; rfl, ?_, ?_, below_tr HK.out.2 (below_tr (below_drew wr) hb2)⟩, by simp only [intOf]; omega⟩
                    · exact Nat.or_lt_two_pow (n := 64) hck (Nat.pow_lt_pow_right (by omega) (by omega))
                    · rw [← HOR.out]
                    · rw [addW, if_pos (by rw [← HWQ.out]; exact HWX.out), HK.out.1]
                  · rename_i hx
                    rw [mid_txt, ← HX.out] at hx
                    have hx' : ¬ W = X := by simpa using hx
                    refine ⟨⟨kk + 1, ck, by omega, hck, by rw [Int.natCast_add]; rfl, rfl, ?_, below_tr HK.out.2 (below_tr (below_drew wr) hb2)⟩, by simp only [intOf]; omega⟩
                    rw [addW, if_neg (by rw [← HWQ.out]; exact hx'), HK.out.1]
                · have hk3I : ¬ (kk : Int) ≤ (t : Int) + 1 := by omega
                  go_wp2_with fail
                  refine ⟨⟨j + 1, ck, j + 2, by omega, by omega, hck, by rw [Int.natCast_add]; rfl, rfl, by rw [Int.natCast_add, Int.add_assoc]; rfl, ?_, HK.out.2⟩, by simp only [intOf]; omega⟩
                  rw [rdC, if_pos HCH.out, ← HJ.out.1, HK.out.1, HX.out, show kk = t + 2 by omega]
            · rename_i hy hx _ _
              have hg2l : j + 1 < s.length := hlt2
              have hz3 : ∀ h, (tx s)[j + 1]'h = s[j + 1] := fun _ => rfl
              have HCH := hid (show s[j + 1]? = some 44 ∨ s[j + 1]? = some 125 by
                rw [List.getElem?_eq_getElem hg2l]
                right
                congr 1
                have hx' : (s[j + 1].toNat : Int) = 125 := by
                  rcases hx with hx | hx
                  · exact absurd (eq_of_beq hx) hy
                  · exact eq_of_beq hx
                exact UInt8.toNat_inj.1 (by show s[j + 1].toNat = 125; omega))
              obtain ⟨g2, hg2⟩ : ∃ g2, g2 = s[j + 1] := ⟨_, rfl⟩
              simp only [hz3, ← hg2] at hx hy ⊢
              obtain ⟨b1, hb1⟩ : ∃ b1, b1 = ((g2.toNat : Int) == 44) := ⟨_, rfl⟩
              obtain ⟨b2, hb2⟩ : ∃ b2, b2 = ((g2.toNat : Int) == 125) := ⟨_, rfl⟩
              try rw [← hb1]
              try rw [← hb2]
              clear hb1 hb2 hg2 hz3 hx hg2l hy
              obtain ⟨X, hX⟩ : ∃ X, X = (s.take (j + 1)).drop ff := ⟨_, rfl⟩
              have HX := hid hX
              clear hX
              go_loopw [11, 8] (fun k c wr2 => ∃ kk ck : Nat, kk ≤ t + 2 ∧ ck < 18446744073709551616 ∧ k = .int .i64 (kk : Int) ∧ c = .int .u64 (ck : Int) ∧ Hid (ck = addW t X cc kk ∧ Below w1.heap.size w1 wr2)) (fun k _ _ => t + 2 - (intOf k).toNat)
              case atStart => exact ⟨0, cc, by omega, hcc, rfl, rfl, rfl, HJ.out.2⟩
              case round =>
                obtain ⟨kk, ck, hkk, hck, rfl, rfl, HK⟩ := hrel
                by_cases hk3 : kk < t + 2
                · have hk3I : (kk : Int) ≤ (t : Int) + 1 := by omega
                  have hk3N : kk ≤ t + 1 := by omega
                  have HW := hid (Rword_any (i := kk) (w := wr.drew) ht (by omega) (HP.out.below (below_tr HK.out.2 (below_drew wr))))
                  obtain ⟨W, hW⟩ : ∃ W, W = wordT t kk := ⟨_, rfl⟩
                  rw [← hW] at HW
                  have HWQ := hid hW
                  clear hW
                  have HO := hid (Rone_any (i := kk) (by omega))
                  have hffI : (ff : Int) ≤ (j : Int) + 1 := by omega
                  have hjsI : (j : Int) + 1 ≤ (s.length : Int) := by omega
                  go_wp2_with fail
                  go_region_held2 (fun w' => True) (first | (go_keep; done) | trivial) (first | (go_at_call 43; refine HW.out.mono ?_; rintro e w2 ⟨rfl, hb2⟩))
                  have HOR := hid (or_pow ck kk hck (by omega))
                  go_wp2_with fail
                  · rename_i hx _ _
                    rw [mid_txt, ← HX.out] at hx
                    have HWX := hid (eq_of_beq hx)
                    clear hx
                    refine (HO.out _).mono ?_
                    rintro e w3 ⟨rfl, e'⟩
                    have ew := e'.symm
                    clear e'
                    subst ew
                    go_wp2_with fail
                    refine ⟨⟨kk + 1, ck ||| 2 ^ kk, by omega, ?_, by rw [Int.natCast_add]; rfl, ?_, ?_, below_tr HK.out.2 (below_tr (below_drew wr) hb2)⟩, by simp only [intOf]; omega⟩
                    · exact Nat.or_lt_two_pow (n := 64) hck (Nat.pow_lt_pow_right (by omega) (by omega))
                    · rw [← HOR.out]
                    · rw [addW, if_pos (by rw [← HWQ.out]; exact HWX.out), HK.out.1]
                  · rename_i hx
                    rw [mid_txt, ← HX.out] at hx
                    have hx' : ¬ W = X := by simpa using hx
                    refine ⟨⟨kk + 1, ck, by omega, hck, by rw [Int.natCast_add]; rfl, rfl, ?_, below_tr HK.out.2 (below_tr (below_drew wr) hb2)⟩, by simp only [intOf]; omega⟩
                    rw [addW, if_neg (by rw [← HWQ.out]; exact hx'), HK.out.1]
                · have hk3I : ¬ (kk : Int) ≤ (t : Int) + 1 := by omega
                  go_wp2_with fail
                  refine ⟨⟨j + 1, ck, j + 2, by omega, by omega, hck, by rw [Int.natCast_add]; rfl, rfl, by rw [Int.natCast_add, Int.add_assoc]; rfl, ?_, HK.out.2⟩, by simp only [intOf]; omega⟩
                  rw [rdC, if_pos HCH.out, ← HJ.out.1, HK.out.1, HX.out, show kk = t + 2 by omega]
            · rename_i hx
              have hno : ¬ (s[j + 1]? = some 44 ∨ s[j + 1]? = some 125) := by
                have q1 : ((s[j + 1].toNat : Int) == 44) = false := hx.1
                have q2 : ((s[j + 1].toNat : Int) == 125) = false := hx.2
                rw [List.getElem?_eq_getElem hlt2]
                rintro (h | h)
                · rw [Option.some.inj h] at q1; exact absurd q1 (by decide)
                · rw [Option.some.inj h] at q2; exact absurd q2 (by decide)
              refine ⟨⟨j + 1, cc, ff, by omega, by omega, hcc, by rw [Int.natCast_add]; rfl, rfl, rfl, ?_, HJ.out.2⟩, by simp only [intOf]; omega⟩
              rw [rdC, if_neg hno]
              exact HJ.out.1
          · have hlt2I : ¬ (j : Int) + 1 < (s.length : Int) := by omega
            go_wp2_with fail
            go_ret3
            refine ⟨⟨n, hn, HI.out.1, fun h => by have := HNL.out; omega, Or.inl ⟨HNL.out, HLA.out, ?_⟩⟩, HJ.out.2⟩
            rw [show s.length - 1 = j by omega, ← HJ.out.1]
            rfl
end Go.Proofs.YteadddocmmkbgaaDoor.Co
