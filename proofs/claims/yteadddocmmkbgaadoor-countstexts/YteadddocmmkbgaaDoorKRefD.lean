/-
  Counts: the document's own word, Text.
-/
import Derived.Test.YteadddocmmkbgaaDoorKRefC
import Derived.Test.YteadddocmmkbgaaDoorKText
namespace Go.Proofs.YteadddocmmkbgaaDoor.Co
open Go.RowKit Go.Shelf

set_option maxRecDepth 20000 in
set_option maxHeartbeats 1000000 in
theorem Rword_any {t i : Nat} (ht : t ≤ 62) (hi : i ≤ t + 1) {w : World} (h : PowTab w) : Calls Tryd.prog 43 #[.int .i64 (t : Int), .int .i64 (i : Int)] w fun e w' => e = .returned (.string (tx (wordT t i))) ∧ Below w.heap.size w w' := by
  have HP := hid h
  clear h
  by_cases he : i = t + 1
  · have HI := hid (Itoa_any t (by omega) HP.out)
    have HW := hid (show wordT t i = 62 :: Lib.decDigits t by unfold wordT; rw [if_pos he])
    have heI : (t : Int) < (i : Int) := by omega
    have hlen : ¬ 9223372036854775807 < 1 + (Lib.decDigits t).length := by have := dec_len (n := t) (by omega); omega
    clear he
    go_enter Tryd.func43, Tryd.ntmps43
    go_wp2_with fail
    refine HI.out.mono ?_
    rintro e w1 ⟨rfl, hb1⟩
    go_wp2
    go_ret
    refine ⟨?_, hb1⟩
    rw [HW.out]
    rfl
  · have HI := hid (Itoa_any i (by omega) HP.out)
    have HW := hid (show wordT t i = Lib.decDigits i by unfold wordT; rw [if_neg he])
    have heI : ¬ (t : Int) < (i : Int) := by omega
    clear he
    go_enter Tryd.func43, Tryd.ntmps43
    go_wp2_with fail
    refine HI.out.mono ?_
    rintro e w1 ⟨rfl, hb1⟩
    go_wp2
    go_ret
    exact ⟨by rw [HW.out]; rfl, hb1⟩
/-- The text so far. -/
def tSoFar (t : Nat) (l : List Nat) : List UInt8 := 123 :: Lib.join (l.map (wordT t)) [44]
theorem join_snoc (l : List (List UInt8)) (x sep : List UInt8) (h : l ≠ []) : Lib.join (l ++ [x]) sep = Lib.join l sep ++ sep ++ x := by
  obtain ⟨y, l, rfl⟩ := List.exists_cons_of_ne_nil h
  rw [List.cons_append, Lib.join_cons, Lib.join_cons]
  simp [Lib.joinTail]
theorem tx_app (a b : List UInt8) : tx a ++ tx b = tx (a ++ b) := by
  apply ByteArray.ext
  show _ = (a ++ b).toArray
  simp
theorem get_nat' {l : List Int} {ls : List Nat} {j : Nat} {x : Int} (h : l = ls.map fun (n : Nat) => (n : Int)) (hx : l[j]? = some x) : ∃ y : Nat, x = (y : Int) ∧ ls[j]? = some y := by
  subst h
  rw [List.getElem?_map] at hx
  cases hy : ls[j]? with
  | none => rw [hy] at hx; cases hx
  | some y => rw [hy] at hx; cases hx; exact ⟨y, rfl, rfl⟩
theorem tSoFar_len {t : Nat} (ht : t ≤ 62) {l : List Nat} (h : ∀ x ∈ l, x ≤ t + 1) : (tSoFar t l).length ≤ 4 * l.length + 1 := by
  obtain ⟨ys, hy⟩ : ∃ ys : List (El t), ys.map Subtype.val = l := by
    refine ⟨l.attach.map fun x => ⟨x.1, h x.1 x.2⟩, ?_⟩
    rw [List.map_map]
    exact List.attach_map_subtype_val _
  have hw : l.map (wordT t) = wordsOf ys := by rw [← hy, List.map_map]; rfl
  have hl := join_len ht ys
  have hn : ys.length = l.length := by rw [← hy, List.length_map]
  unfold tSoFar
  rw [hw, List.length_cons]
  omega
theorem tSoFar_one (t x : Nat) : tSoFar t [x] = 123 :: wordT t x := by
  unfold tSoFar
  rw [List.map_cons, List.map_nil, Lib.join_one]
theorem tSoFar_snoc {t : Nat} {l : List Nat} (x : Nat) (h : l ≠ []) : tSoFar t (l ++ [x]) = tSoFar t l ++ [44] ++ wordT t x := by
  unfold tSoFar
  rw [List.map_append, List.map_cons, List.map_nil, join_snoc _ _ _ (by simpa using h)]
  simp
set_option maxRecDepth 100000 in
set_option maxHeartbeats 2000000 in
theorem RText_any {t : Int} {c : Nat} {w : World} (h64 : c < 18446744073709551616) (hP : PowTab w) :
    Calls Tryd.prog 26 #[.int .i64 t, .int .u64 (c : Int)] w fun e w' => e = .returned (.tuple #[.string (tx (textP t c).1), .int .i64 (textP t c).2]) ∧ Below w.heap.size w w' := by
  have HP := hid hP
  have HL := hid (RList_any (t := t) (c := c) (w := w) h64)
  by_cases h0 : chkE t [c] = 0
  · have hr := chk_range h0
    obtain ⟨m, rfl⟩ : ∃ m : Nat, t = (m : Int) := ⟨t.toNat, by omega⟩
    have hm : m ≤ 62 := by omega
    have HR := hid (show textP (m : Int) c = (txtL m c, 0) by unfold textP; rw [if_pos h0]; rfl)
    have e1 : listP (m : Int) c = ((els m c).map (fun (n : Nat) => (n : Int)), 0) := by unfold listP; rw [if_pos h0]; rfl
    rw [e1] at HL
    clear h0 hr e1
    go_enter Tryd.func26, Tryd.ntmps26
    go_wp2_with fail
    refine HL.out.mono ?_
    rintro e w1 ⟨v, rfl, ⟨ao, cap, rfl, hi⟩, hb1⟩
    have HI := hid hi
    have HB := hid hb1
    clear hi hb1
    obtain ⟨E, hE⟩ : ∃ E, E = els m c := ⟨_, rfl⟩
    obtain ⟨n, hn⟩ : ∃ n, n = ((els m c).map (fun (n : Nat) => (n : Int))).length := ⟨_, rfl⟩
    have hnE : E.length = n := by rw [hn, hE, List.length_map]
    have hE64 : n ≤ 64 := by
      have h1 := upTo_len c (m + 2)
      have e2 : els m c = upTo c (m + 2) := rfl
      rw [← hnE, hE, e2]
      omega
    have hEle : ∀ x ∈ E, x ≤ m + 1 := fun x hx => by rw [hE] at hx; have := (mem_els.1 hx).1; omega
    have HLN := hid (show ((E.map (fun (n : Nat) => (n : Int))).length = n) by rw [hE, hn])
    have HEE := hid hE
    have HNE := hid hnE
    rw [← hn]
    rw [← hE] at HI
    clear hn hE hnE HL
    go_wp2_with fail
    go_loopw [9, 8] (fun i s wr => ∃ j : Nat, j ≤ n ∧ i = .int .i64 (j : Int) ∧ s = .string (tx (tSoFar m (E.take j))) ∧ Hid (Below w.heap.size w wr ∧ Below w1.heap.size w1 wr)) (fun i _ _ => n - (intOf i).toNat)
    case atStart => exact ⟨0, Nat.zero_le _, rfl, rfl, HB.out, Below.refl _ _⟩
    case round =>
      obtain ⟨j, hj, rfl, rfl, HJ⟩ := hrel
      obtain ⟨T, hT⟩ : ∃ T, T = tSoFar m (E.take j) := ⟨_, rfl⟩
      have hTl : T.length ≤ 300 := by
        rw [hT]
        have := tSoFar_len hm (l := E.take j) (fun x hx => hEle x (List.mem_of_mem_take hx))
        rw [List.length_take] at this
        omega
      rw [← hT]
      have HT := hid hT
      clear hT
      by_cases hlt : j < n
      · obtain ⟨g, o, x0, rfl, hg, hc, HCX⟩ := (HI.out.below HJ.out.2).at HLN.out hlt
        obtain ⟨x, rfl, hx⟩ := get_nat' rfl HCX.out.1
        have hxm := hEle x (List.mem_of_getElem? hx)
        have HW := hid (Rword_any hm hxm (HP.out.below HJ.out.1))
        have hwl := word_len hm hxm
        have HTK := hid (show E.take (j + 1) = E.take j ++ [x] by rw [List.take_add_one, hx]; rfl)
        have hkI : (j : Int) < (n : Int) := by omega
        have hk0 : (0 : Int) ≤ (j : Int) := by omega
        have hjN : (j : Int) < 9223372036854775807 := by omega
        have HEle := hid hEle
        clear hx hxm hEle 
        by_cases hj0 : j = 0
        · have HNX := hid (show tSoFar m (E.take (j + 1)) = T ++ wordT m x by
            rw [HTK.out, HT.out, hj0]
            simp [tSoFar, Lib.join_nil, Lib.join_one])
          have hjI : decide (0 < j) = false := by simp; omega
          have hl2 : ¬ 9223372036854775807 < T.length + (wordT m x).length := by omega
          clear hj0
          go_wp2_with fail
          refine HW.out.mono ?_
          rintro e w2 ⟨rfl, hb2⟩
          go_wp2
          go_roundw
          case rel => exact ⟨j + 1, by omega, by simp, by rw [HNX.out]; exact congrArg _ (tx_app _ _), below_tr HJ.out.1 hb2, below_tr HJ.out.2 hb2⟩
          case measure => simp [intOf]; omega
        · have HNX := hid (show tSoFar m (E.take (j + 1)) = T ++ [44] ++ wordT m x by
            rw [HTK.out, tSoFar_snoc x (by
              intro e
              have := congrArg List.length e
              rw [List.length_take, HNE.out] at this
              simp at this
              omega), HT.out])
          have hjI : decide (0 < j) = true := by simp; omega
          have hl1 : ¬ 9223372036854775807 < T.length + 1 := by omega
          have hl2 : ¬ 9223372036854775807 < T.length + 1 + (wordT m x).length := by omega
          clear hj0
          go_wp2_with fail
          refine HW.out.mono ?_
          rintro e w2 ⟨rfl, hb2⟩
          go_wp2
          go_roundw
          case rel => exact ⟨j + 1, by omega, by simp, by rw [HNX.out]; exact congrArg _ ((congrArg (· ++ _) (tx_app _ _)).trans (tx_app _ _)), below_tr HJ.out.1 hb2, below_tr HJ.out.2 hb2⟩
          case measure => simp [intOf]; omega
      · have hkI : ¬ (j : Int) < (n : Int) := by omega
        have hl1 : ¬ 9223372036854775807 < T.length + 1 := by omega
        have HTK := hid (show E.take j = E by rw [show j = E.length by rw [HNE.out]; omega]; exact List.take_length)
        go_wp2
        go_ret2
        refine ⟨?_, HJ.out.1⟩
        rw [HR.out]
        have e9 : txtL m c = T ++ [125] := by
          rw [HT.out, HTK.out, HEE.out]
          rfl
        show Ending.returned (Value.tuple #[Value.string (tx T ++ ⟨#[125]⟩), Value.int .i64 0]) = Ending.returned (Value.tuple #[Value.string (tx (txtL m c)), Value.int .i64 0])
        rw [e9, ← tx_app]
  · have h0' : (chkE t [c] == 0) = false := by simpa using h0
    have HR := hid (show textP t c = ([], chkE t [c]) by unfold textP; rw [if_neg h0])
    have e1 : listP t c = ([], chkE t [c]) := by unfold listP; rw [if_neg h0]
    rw [e1] at HL
    obtain ⟨q, hq⟩ : ∃ q, q = chkE t [c] := ⟨_, rfl⟩
    rw [← hq] at HL HR h0'
    clear hq h0 e1
    go_enter Tryd.func26, Tryd.ntmps26
    go_wp2_with fail
    refine HL.out.mono ?_
    rintro e w1 ⟨v, rfl, ⟨ao, cap, rfl, hi⟩, hb1⟩
    go_wp2
    go_ret2
    exact ⟨by rw [HR.out]; rfl, hb1⟩
end Go.Proofs.YteadddocmmkbgaaDoor.Co
