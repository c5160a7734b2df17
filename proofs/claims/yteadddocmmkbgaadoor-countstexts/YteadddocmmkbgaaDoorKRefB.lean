/-
  Counts: the document's own Of, add, Sum, Union.
-/
import Derived.Test.YteadddocmmkbgaaDoorKRef
namespace Go.Proofs.YteadddocmmkbgaaDoor.Co
open Go.RowKit Go.Shelf

theorem run_min_n1 {P : Program} {w : World} (ts : Array TypeId) (t : TypeId) (k k' : IntKind) (p q : Nat) : (Builtin.min_ ts t #[.int k (p : Int), .int k' ((q : Int) + 1)]).run P w = .ok (.int k ((min p (q + 1) : Nat) : Int)) w := by
  have := run_min_nat (P := P) (w := w) ts t k k' p (q + 1)
  rw [Int.natCast_add] at this
  exact this
attribute [local go_sem ↓] run_min_n1
theorem or_ne {x : Nat} {l : List Nat} (h : x ≠ 0) : orL (x :: l) ≠ 0 := by
  obtain ⟨k, hk⟩ := bit_of_ne h
  have key : ∀ (l : List Nat) (a : Nat), a.testBit k = true → (l.foldl (fun a b => a ||| b) a).testBit k = true := by
    intro l
    induction l with
    | nil => intro a ha; exact ha
    | cons y l ih => intro a ha; exact ih _ (by rw [Nat.testBit_or, ha, Bool.true_or])
  exact ne_zero_bit (key l (0 ||| x) (by rw [Nat.zero_or]; exact hk))

set_option maxRecDepth 100000 in
set_option maxHeartbeats 1000000 in
theorem ROf_any {t : Int} {ao : Option Addr} {l : List Int} {n cap : Nat} {w : World} (hl : l.length = n) (hN : n ≤ 9223372036854775807) (hin : IsIn w ao l) (h64 : ∀ x ∈ l, x < 9223372036854775808) :
    Calls Tryd.prog 10 #[.int .i64 t, .slice ao n cap] w fun e w' => e = .returned (.tuple #[.int .u64 ((ofP t l).1 : Nat), .int .i64 (ofP t l).2]) ∧ Below w.heap.size w w' := by
  have HL := hid hl
  have HIN := hid hin
  have HBd := hid (RBound_any t w)
  clear hl hin
  by_cases h0 : 0 ≤ t ∧ t ≤ 62
  · rw [decide_eq_true h0] at HBd
    obtain ⟨m, rfl⟩ : ∃ m : Nat, t = (m : Int) := ⟨t.toNat, by omega⟩
    have hm : m ≤ 62 := by omega
    have HR := hid (show ofP (m : Int) l = if l = [] then (0, 80) else if l.all (fun n => decide (0 ≤ n)) then (ofL m l, 0) else (0, 5) by unfold ofP; rw [if_neg (by omega)]; rfl)
    clear h0
    go_enter Tryd.func10, Tryd.ntmps10
    go_wp2_with fail
    refine HBd.out.mono ?_
    rintro e w' ⟨rfl, e'⟩
    have ew := e'.symm
    clear e'
    subst ew
    go_wp2_with fail
    go_loopw [7, 6] (fun i c wr => ∃ j : Nat, j ≤ n ∧ i = .int .i64 (j : Int) ∧ c = .int .u64 ((ofL m (l.take j) : Nat) : Int) ∧ wr = w ∧ Hid (∀ x ∈ l.take j, 0 ≤ x)) (fun i _ _ => n - (intOf i).toNat)
    case atStart => exact ⟨0, Nat.zero_le _, rfl, rfl, rfl, fun c hc => by simp at hc⟩
    case round =>
      obtain ⟨j, hj, rfl, rfl, hwr, HJ⟩ := hrel
      subst hwr
      by_cases hlt : j < n
      · obtain ⟨g, o, x, rfl, hg, hc, HCX⟩ := HIN.out.at HL.out hlt
        have h64x := h64 x HCX.out.2.2
        have hkI : (j : Int) < (n : Int) := by omega
        have hk0 : (0 : Int) ≤ (j : Int) := by omega
        have hjN : (j : Int) < 9223372036854775807 := by omega
        by_cases hx : x < 0
        · go_wp2
          go_ret2
          refine ⟨?_, Below.refl _ _⟩
          have hne : l ≠ [] := fun e => by rw [e] at HCX; cases HCX.out.2.2
          rw [HR.out, if_neg hne, if_neg (by
            intro h
            have := List.all_eq_true.1 h x HCX.out.2.2
            simp at this
            omega)]
          rfl
        · obtain ⟨y, rfl⟩ : ∃ y : Nat, x = (y : Int) := ⟨x.toNat, by omega⟩
          have HC2 := hid (fun w' => Rone_any (i := min y (m + 1)) (by omega) w')
          have HO := hid (or_pow (ofL m (l.take j)) (min y (m + 1)) (two_64 (ofL_lt m _) hm) (by omega))
          obtain ⟨C, hC⟩ : ∃ C, C = ofL m (l.take j) := ⟨_, rfl⟩
          rw [← hC] at HO
          rw [← hC]
          have HCq := hid hC
          clear hC
          go_wp2_with fail
          refine (HC2.out _).mono ?_
          rintro e w' ⟨rfl, e'⟩
          have ew := e'.symm
          clear e'
          subst ew
          go_wp2
          go_roundw
          case rel =>
            refine ⟨j + 1, by omega, by simp, ?_, trivial, fun z hz => ?_⟩
            · rw [HCX.out.2.1, ofL_snoc, ← HCq.out, Int.toNat_natCast, ← HO.out]
            · rw [HCX.out.2.1] at hz
              rcases List.mem_append.1 hz with hz | hz
              · exact HJ.out z hz
              · rw [List.mem_singleton.1 hz]; omega
          case measure => simp [intOf]; omega
      · have hje : j = n := by omega
        have hkI : ¬ (j : Int) < (n : Int) := by omega
        have HT := hid (show l.take j = l by rw [hje, ← HL.out]; exact List.take_length)
        clear hje
        by_cases hz : n = 0
        · have hl0 : l = [] := List.eq_nil_of_length_eq_zero (by rw [HL.out]; exact hz)
          rw [if_pos hl0] at HR
          clear hl0
          have hz' : ((n : Int) == 0) = true := by simpa using hz
          go_wp2
          go_ret2
          exact ⟨by rw [HR.out]; rfl, Below.refl _ _⟩
        · have hl0 : l ≠ [] := fun e => hz (by rw [← HL.out, e]; rfl)
          rw [if_neg hl0] at HR
          clear hl0
          have hz' : ((n : Int) == 0) = false := by simpa using hz
          go_wp2
          go_ret2
          refine ⟨?_, Below.refl _ _⟩
          rw [HR.out, if_pos (List.all_eq_true.2 (by have := HJ.out; rw [HT.out] at this; intro x hx; simpa using this x hx)), HT.out]
          rfl
  · rw [decide_eq_false h0] at HBd
    have HR := hid (show ofP t l = (0, 1) by unfold ofP; rw [if_pos (by omega)])
    clear h0
    go_enter Tryd.func10, Tryd.ntmps10
    go_wp2_with fail
    refine HBd.out.mono ?_
    rintro e w' ⟨rfl, e'⟩
    have ew := e'.symm
    clear e'
    subst ew
    go_wp2
    go_ret2
    exact ⟨by rw [HR.out]; rfl, Below.refl _ _⟩
/-- The sums so far: of i's whole rows, and of k elements of the next. -/
def padd (t a b i k : Nat) : List Nat := ((upTo a i).flatMap fun x => (els t b).map fun y => min (x + y) (t + 1)) ++ (if a.testBit i then (upTo b k).map (fun y => min (i + y) (t + 1)) else [])
theorem padd_row (t a b i : Nat) : padd t a b i (t + 2) = padd t a b (i + 1) 0 := by
  unfold padd
  have e : upTo b (t + 2) = els t b := rfl
  have e0 : upTo b 0 = [] := rfl
  rw [e, e0, upTo_succ]
  by_cases h : a.testBit i
  · simp [h]
  · simp [h]
theorem padd_yes {t a b i k : Nat} (ha : a.testBit i = true) (hb : b.testBit k = true) : padd t a b i (k + 1) = padd t a b i k ++ [min (i + k) (t + 1)] := by
  unfold padd
  rw [upTo_succ, if_pos hb, if_pos ha, if_pos ha]
  simp
theorem padd_no {t a b i k : Nat} (h : (a.testBit i && b.testBit k) = false) : padd t a b i (k + 1) = padd t a b i k := by
  unfold padd
  by_cases ha : a.testBit i
  · have hb : ¬ b.testBit k = true := by simp [ha] at h; simp [h]
    rw [upTo_succ, if_neg hb]
  · rw [if_neg ha, if_neg ha]
theorem padd_lt {t a b i k : Nat} : ∀ x ∈ padd t a b i k, x < t + 2 := by
  intro x hx
  unfold padd at hx
  rcases List.mem_append.1 hx with h | h
  · obtain ⟨_, _, h⟩ := List.mem_flatMap.1 h
    obtain ⟨_, _, rfl⟩ := List.mem_map.1 h
    omega
  · split at h
    · obtain ⟨_, _, rfl⟩ := List.mem_map.1 h
      omega
    · cases h
theorem padd_all (t a b : Nat) : setN (padd t a b (t + 2) 0) = sumN t a b := by
  unfold padd sumN
  have e0 : upTo b 0 = [] := rfl
  have e : upTo a (t + 2) = els t a := rfl
  rw [e0, e]
  simp
theorem run_min_sum {P : Program} {w : World} (ts : Array TypeId) (t : TypeId) (k k' : IntKind) (p p' q : Nat) : (Builtin.min_ ts t #[.int k ((p : Int) + (p' : Int)), .int k' ((q : Int) + 1)]).run P w = .ok (.int k ((min (p + p') (q + 1) : Nat) : Int)) w := by
  have := run_min_nat (P := P) (w := w) ts t k k' (p + p') (q + 1)
  rw [Int.natCast_add, Int.natCast_add] at this
  exact this
attribute [local go_sem ↓] run_min_sum
set_option maxRecDepth 100000 in
set_option maxHeartbeats 2000000 in
theorem Radd_any {t a b : Nat} (ht : t ≤ 62) (ha : a < 2 ^ (t + 2)) (hb : b < 2 ^ (t + 2)) (w : World) :
    Calls Tryd.prog 36 #[.int .i64 (t : Int), .int .u64 (a : Int), .int .u64 (b : Int)] w fun e w' => e = .returned (.int .u64 (sumN t a b : Nat)) ∧ Below w.heap.size w w' := by
  have HA := hid (fun (i : Nat) (hi : i < 64) w' => RIn_any (c := a) hi (two_64 ha ht) w')
  have HB := hid (fun (i : Nat) (hi : i < 64) w' => RIn_any (c := b) hi (two_64 hb ht) w')
  have HO := hid (fun (i : Nat) (hi : i < 64) w' => Rone_any hi w')
  go_enter Tryd.func36, Tryd.ntmps36
  go_wp2_with fail
  go_loopw [8, 7] (fun i c wr => ∃ j : Nat, j ≤ t + 2 ∧ i = .int .i64 (j : Int) ∧ c = .int .u64 ((setN (padd t a b j 0) : Nat) : Int) ∧ wr = w) (fun i _ _ => t + 2 - (intOf i).toNat)
  case atStart => exact ⟨0, Nat.zero_le _, rfl, by simp [padd, upTo, setN], rfl⟩
  case round =>
    obtain ⟨i, hi, rfl, rfl, hwr⟩ := hrel
    subst hwr
    rename World => wo
    by_cases hlt : i < t + 2
    · have hiI : (i : Int) ≤ (t : Int) + 1 := by omega
      have hiN : i ≤ t + 1 := by omega
      go_wp2_with fail
      go_loopw [9, 7] (fun k c wr => ∃ j : Nat, j ≤ t + 2 ∧ k = .int .i64 (j : Int) ∧ c = .int .u64 ((setN (padd t a b i j) : Nat) : Int) ∧ wr = wo) (fun i _ _ => t + 2 - (intOf i).toNat)
      case atStart => exact ⟨0, Nat.zero_le _, rfl, rfl, rfl⟩
      case round =>
        obtain ⟨k, hk, rfl, rfl, hwr⟩ := hrel
        subst hwr
        by_cases hkt : k < t + 2
        · have hkI : (k : Int) ≤ (t : Int) + 1 := by omega
          have hkN : k ≤ t + 1 := by omega
          have HAi := hid (HA.out i (by omega) wr)
          have HBk := hid (HB.out k (by omega) wr)
          have HO1 := hid (HO.out (min (i + k) (t + 1)) (by omega) wr)
          have HOR := hid (or_pow (setN (padd t a b i k)) (min (i + k) (t + 1)) (two_64 (setN_lt padd_lt) ht) (by omega))
          rcases bool_two (a.testBit i) with hai | hai
          · rw [hai] at HAi
            have HNX := hid (padd_no (t := t) (a := a) (b := b) (i := i) (k := k) (by rw [hai]; rfl))
            go_wp2_with fail
            refine HAi.out.mono ?_
            rintro e w' ⟨rfl, e'⟩
            have ew := e'.symm
            clear e'
            subst ew
            go_wp2
            go_roundw
            case rel => exact ⟨k + 1, by omega, by simp, by rw [HNX.out], trivial⟩
            case measure => simp [intOf]; omega
          · rw [hai] at HAi
            rcases bool_two (b.testBit k) with hbk | hbk
            · rw [hbk] at HBk
              have HNX := hid (padd_no (t := t) (a := a) (b := b) (i := i) (k := k) (by rw [hbk, Bool.and_false]))
              go_wp2_with fail
              refine HAi.out.mono ?_
              rintro e w' ⟨rfl, e'⟩
              have ew := e'.symm
              clear e'
              subst ew
              go_wp2_with fail
              refine HBk.out.mono ?_
              rintro e w' ⟨rfl, e'⟩
              have ew := e'.symm
              clear e'
              subst ew
              go_wp2
              go_roundw
              case rel => exact ⟨k + 1, by omega, by simp, by rw [HNX.out], trivial⟩
              case measure => simp [intOf]; omega
            · rw [hbk] at HBk
              have HNX := hid (padd_yes (t := t) hai hbk)
              go_wp2_with fail
              refine HAi.out.mono ?_
              rintro e w' ⟨rfl, e'⟩
              have ew := e'.symm
              clear e'
              subst ew
              go_wp2_with fail
              refine HBk.out.mono ?_
              rintro e w' ⟨rfl, e'⟩
              have ew := e'.symm
              clear e'
              subst ew
              go_wp2_with fail
              refine HO1.out.mono ?_
              rintro e w' ⟨rfl, e'⟩
              have ew := e'.symm
              clear e'
              subst ew
              go_wp2
              go_roundw
              case rel => exact ⟨k + 1, by omega, by simp, by rw [HNX.out, setN_snoc, ← HOR.out], trivial⟩
              case measure => simp [intOf]; omega
        · have hke : k = t + 2 := by omega
          have hkI : ¬ (k : Int) ≤ (t : Int) + 1 := by omega
          have hkN : ¬ k ≤ t + 1 := by omega
          have HNX := hid (show padd t a b i k = padd t a b (i + 1) 0 by rw [hke]; exact padd_row t a b i)
          clear hke
          go_wp2
          go_roundw
          case rel => exact ⟨i + 1, by omega, by simp, by rw [HNX.out], trivial⟩
          case measure => simp [intOf]; omega
    · have hie : i = t + 2 := by omega
      have hiI : ¬ (i : Int) ≤ (t : Int) + 1 := by omega
      have hiN : ¬ i ≤ t + 1 := by omega
      have HNX := hid (show setN (padd t a b i 0) = sumN t a b by rw [hie]; exact padd_all t a b)
      clear hie
      go_wp2
      go_ret
      exact ⟨by rw [← HNX.out]; rfl, Below.refl _ _⟩
set_option maxRecDepth 100000 in
set_option maxHeartbeats 1000000 in
theorem RSum_any {t : Int} {ao : Option Addr} {l : List Nat} {n cap : Nat} {w : World} (hl : l.length = n) (hN : n ≤ 9223372036854775807) (hin : CsIn w ao l) (h64 : ∀ c ∈ l, c < 18446744073709551616) :
    Calls Tryd.prog 16 #[.int .i64 t, .slice ao n cap] w fun e w' => e = .returned (.tuple #[.int .u64 ((sumP t l).1 : Nat), .int .i64 (sumP t l).2]) ∧ Below w.heap.size w w' := by
  have HC := hid (RCheck_any (t := t) (cap := cap) hl hN hin h64)
  have HL := hid hl
  have HIN := hid hin
  clear hl hin
  by_cases h0 : chkE t l = 0
  · have HR := hid (show sumP t l = (l.foldl (sumN t.toNat) 1, 0) by unfold sumP; rw [if_pos h0])
    have HM := hid (chk_may h0)
    have hr := chk_range h0
    rw [h0] at HC
    obtain ⟨m, rfl⟩ : ∃ m : Nat, t = (m : Int) := ⟨t.toNat, by omega⟩
    have hm : m ≤ 62 := by omega
    clear h0 hr
    go_enter Tryd.func16, Tryd.ntmps16
    go_wp2_with fail
    refine HC.out.mono ?_
    rintro e w' ⟨rfl, e'⟩
    have ew := e'.symm
    clear e'
    subst ew
    go_wp2_with fail
    go_loopw [8, 7] (fun i c wr => ∃ j : Nat, j ≤ n ∧ i = .int .i64 (j : Int) ∧ c = .int .u64 (((l.take j).foldl (sumN m) 1 : Nat) : Int) ∧ Hid (Below w.heap.size w wr)) (fun i _ _ => n - (intOf i).toNat)
    case atStart => exact ⟨0, Nat.zero_le _, rfl, rfl, Below.refl _ _⟩
    case round =>
      obtain ⟨j, hj, rfl, rfl, HJ⟩ := hrel
      by_cases hlt : j < n
      · obtain ⟨g, o, c, rfl, hg, hc, HCX⟩ := (HIN.out.below HJ.out).at HL.out hlt
        have hmay := HM.out c HCX.out.2.2
        have HS := hid (Radd_any (t := m) (a := (l.take j).foldl (sumN m) 1) (b := c) hm (sum_lt _) (may_lt hmay) wr)
        obtain ⟨C, hC⟩ : ∃ C, C = (l.take j).foldl (sumN m) 1 := ⟨_, rfl⟩
        rw [← hC] at HS
        rw [← hC]
        have HCq := hid hC
        have hkI : (j : Int) < (n : Int) := by omega
        have hk0 : (0 : Int) ≤ (j : Int) := by omega
        have hjN : (j : Int) < 9223372036854775807 := by omega
        clear hC
        go_wp2_with fail
        refine HS.out.mono ?_
        rintro e w2 ⟨rfl, hb2⟩
        have HB2 := hid (below_tr HJ.out hb2)
        clear hb2
        go_wp2
        go_roundw
        case rel =>
          refine ⟨j + 1, by omega, by simp, ?_, HB2.out⟩
          rw [HCX.out.2.1, List.foldl_append, ← HCq.out]
          rfl
        case measure => simp [intOf]; omega
      · have hje : j = n := by omega
        have hkI : ¬ (j : Int) < (n : Int) := by omega
        have HT := hid (show l.take j = l by rw [hje, ← HL.out]; exact List.take_length)
        clear hje
        go_wp2
        go_ret2
        refine ⟨?_, HJ.out⟩
        rw [HR.out, HT.out]
        rfl
  · have h0' : (chkE t l == 0) = false := by simpa using h0
    have HR := hid (show sumP t l = (0, chkE t l) by unfold sumP; rw [if_neg h0])
    obtain ⟨q, hq⟩ : ∃ q, q = chkE t l := ⟨_, rfl⟩
    rw [← hq] at HR HC h0'
    clear hq h0
    go_enter Tryd.func16, Tryd.ntmps16
    go_wp2_with fail
    refine HC.out.mono ?_
    rintro e w' ⟨rfl, e'⟩
    have ew := e'.symm
    clear e'
    subst ew
    go_wp2
    go_ret2
    exact ⟨by rw [HR.out]; rfl, Below.refl _ _⟩
set_option maxRecDepth 100000 in
set_option maxHeartbeats 1000000 in
theorem RUnion_any {t : Int} {ao : Option Addr} {l : List Nat} {n cap : Nat} {w : World} (hl : l.length = n) (hN : n ≤ 9223372036854775807) (hin : CsIn w ao l) (h64 : ∀ c ∈ l, c < 18446744073709551616) :
    Calls Tryd.prog 18 #[.int .i64 t, .slice ao n cap] w fun e w' => e = .returned (.tuple #[.int .u64 ((unionP t l).1 : Nat), .int .i64 (unionP t l).2]) ∧ Below w.heap.size w w' := by
  have HC := hid (RCheck_any (t := t) (cap := cap) hl hN hin h64)
  have HL := hid hl
  have HIN := hid hin
  clear hl hin
  by_cases h0 : chkE t l = 0
  · have HR := hid (show unionP t l = if l = [] then (0, 80) else (orL l, 0) by unfold unionP; rw [if_pos h0])
    have HM := hid (chk_may h0)
    have hr := chk_range h0
    rw [h0] at HC
    obtain ⟨m, rfl⟩ : ∃ m : Nat, t = (m : Int) := ⟨t.toNat, by omega⟩
    have hm : m ≤ 62 := by omega
    clear h0 hr
    go_enter Tryd.func18, Tryd.ntmps18
    go_wp2_with fail
    refine HC.out.mono ?_
    rintro e w' ⟨rfl, e'⟩
    have ew := e'.symm
    clear e'
    subst ew
    go_wp2_with fail
    go_loopw [8, 7] (fun i c wr => ∃ j : Nat, j ≤ n ∧ i = .int .i64 (j : Int) ∧ c = .int .u64 ((orL (l.take j) : Nat) : Int) ∧ wr = w) (fun i _ _ => n - (intOf i).toNat)
    case atStart => exact ⟨0, Nat.zero_le _, rfl, rfl, rfl⟩
    case round =>
      obtain ⟨j, hj, rfl, rfl, hwr⟩ := hrel
      subst hwr
      by_cases hlt : j < n
      · obtain ⟨g, o, c, rfl, hg, hc, HCX⟩ := HIN.out.at HL.out hlt
        have hmay := HM.out c HCX.out.2.2
        have HLT := hid (or_lt (t := m) (l := l.take j) (fun c hc => may_lt (HM.out c (List.mem_of_mem_take hc))))
        have HS := hid (u64_or_nat _ _ (two_64 HLT.out hm) (two_64 (may_lt hmay) hm))
        obtain ⟨C, hC⟩ : ∃ C, C = orL (l.take j) := ⟨_, rfl⟩
        rw [← hC] at HS
        rw [← hC]
        have HCq := hid hC
        have hkI : (j : Int) < (n : Int) := by omega
        have hk0 : (0 : Int) ≤ (j : Int) := by omega
        have hjN : (j : Int) < 9223372036854775807 := by omega
        clear hC
        go_wp2
        go_roundw
        case rel =>
          refine ⟨j + 1, by omega, by simp, ?_, trivial⟩
          rw [HCX.out.2.1, orL_snoc, ← HCq.out, HS.out]
        case measure => simp [intOf]; omega
      · have hje : j = n := by omega
        have hkI : ¬ (j : Int) < (n : Int) := by omega
        have HT := hid (show l.take j = l by rw [hje, ← HL.out]; exact List.take_length)
        clear hje
        by_cases hz : orL l = 0
        · have hl0 : l = [] := by
            cases l with
            | nil => rfl
            | cons x l' => exact (or_ne (may_ne (HM.out x (by simp))) hz).elim
          rw [if_pos hl0] at HR
          clear hl0
          have hz' : (((orL (l.take j) : Nat) : Int) == 0) = true := by rw [HT.out, hz]; rfl
          go_wp2
          go_ret2
          exact ⟨by rw [HR.out]; rfl, Below.refl _ _⟩
        · have hl0 : l ≠ [] := fun e => hz (by rw [e]; rfl)
          rw [if_neg hl0] at HR
          clear hl0
          have hz' : (((orL (l.take j) : Nat) : Int) == 0) = false := by rw [HT.out]; simpa using hz
          go_wp2
          go_ret2
          refine ⟨?_, Below.refl _ _⟩
          rw [HR.out, HT.out]
          rfl
  · have h0' : (chkE t l == 0) = false := by simpa using h0
    have HR := hid (show unionP t l = (0, chkE t l) by unfold unionP; rw [if_neg h0])
    obtain ⟨q, hq⟩ : ∃ q, q = chkE t l := ⟨_, rfl⟩
    rw [← hq] at HR HC h0'
    clear hq h0
    go_enter Tryd.func18, Tryd.ntmps18
    go_wp2_with fail
    refine HC.out.mono ?_
    rintro e w' ⟨rfl, e'⟩
    have ew := e'.symm
    clear e'
    subst ew
    go_wp2
    go_ret2
    exact ⟨by rw [HR.out]; rfl, Below.refl _ _⟩
end Go.Proofs.YteadddocmmkbgaaDoor.Co
