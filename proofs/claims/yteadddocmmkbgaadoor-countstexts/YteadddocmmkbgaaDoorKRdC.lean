/-
  Package counts: the reader's set.
-/
import Derived.Test.YteadddocmmkbgaaDoorKRdB
import Derived.Test.YteadddocmmkbgaaDoorKChk
namespace Go.Proofs.YteadddocmmkbgaaDoor.Co
open Go.RowKit Go.Shelf

theorem elem_mem {t c i far : Nat} {s : List UInt8} (h : (some i, far) = elem t c s) : i < t + 2 ∧ c.testBit i = true := by
  have key : ∀ (l : List Nat) (q : Option Nat × Nat), (∀ j, q.1 = some j → j ∈ els t c) → (∀ j ∈ l, j ∈ els t c) → ∀ j, (l.foldl (elStep t s) q).1 = some j → j ∈ els t c := by
    intro l
    induction l with
    | nil => intro q h _; exact h
    | cons x l ih =>
      intro q hq hl
      refine ih _ ?_ (fun j hj => hl j (List.mem_cons_of_mem _ hj))
      intro j hj
      unfold elStep at hj
      simp only at hj
      split at hj <;> split at hj
      · cases hj; exact hl x (by simp)
      · cases hj
      · cases hj; exact hl x (by simp)
      · exact hq j hj
  exact mem_els.1 (key (els t c) (none, 0) (fun j hj => by cases hj) (fun j hj => hj) i (by rw [show (els t c).foldl (elStep t s) (none, 0) = elem t c s from rfl, ← h]))
/-- What is left behind an element. -/
def leftN (l i : Nat) : Nat := l &&& (2 ^ 64 - 2 ^ (i + 1))
theorem leftN_bit {l i j : Nat} (hl : l < 2 ^ 64) (hi : i < 64) : (leftN l i).testBit j = (l.testBit j && decide (i < j)) := by
  unfold leftN
  have hp : 2 ^ (i + 1) ≤ 2 ^ 64 := Nat.pow_le_pow_right (by omega) (by omega)
  have h0 : 0 < 2 ^ (i + 1) := Nat.pow_pos (by omega)
  rw [Nat.testBit_and, show 2 ^ 64 - 2 ^ (i + 1) = 2 ^ 64 - ((2 ^ (i + 1) - 1) + 1) by omega, Nat.testBit_two_pow_sub_succ (by omega), Nat.testBit_two_pow_sub_one]
  cases hb : l.testBit j with
  | false => simp
  | true =>
    have h64 : j < 64 := bit_lt (t := 62) hl hb
    simp only [h64, decide_true, Bool.true_and]
    rw [Bool.eq_iff_iff]
    simp
    omega
theorem leftN_andNot {l i : Nat} (hl : l < 18446744073709551616) (hi : i < 64) : bits .andNot .u64 (l : Int) ((2 ^ (i + 1) - 1 : Nat) : Int) = ((leftN l i : Nat) : Int) := by
  have hp : 2 ^ (i + 1) ≤ 2 ^ 64 := Nat.pow_le_pow_right (by omega) (by omega)
  have h0 : 0 < 2 ^ (i + 1) := Nat.pow_pos (by omega)
  have e64 : (2 : Nat) ^ 64 = 18446744073709551616 := by decide
  rw [u64_andNot_nat _ _ hl (by omega)]
  unfold leftN
  rw [show 18446744073709551615 - (2 ^ (i + 1) - 1) = 2 ^ 64 - 2 ^ (i + 1) by rw [e64]; omega]
theorem leftN_lt {l i : Nat} (hl : l < 2 ^ 64) (hi : i < 64) (hb : l.testBit i = true) : leftN l i < l := by
  have hle : leftN l i ≤ l := Nat.and_le_left
  have hne : leftN l i ≠ l := by
    intro e
    have := leftN_bit (j := i) hl hi
    rw [e, hb] at this
    simp at this
  omega
theorem elemsR_succ (t k left c p : Nat) (s : List UInt8) : elemsR t (k + 1) left c p s = match elem t left s with
    | (none, far) => .error (p + far)
    | (some i, far) => if leftN left i ≠ 0 ∧ (s.drop far).head? = some 44 then elemsR t k (leftN left i) (c ||| 2 ^ i) (p + far + 1) (s.drop far).tail else .ok (c ||| 2 ^ i, p + far, s.drop far) := rfl
/-- The loop's state: what is still to come is what the whole comes to. -/
structure ElSt (t : Nat) (s : List UInt8) (R : Except Nat (Nat × Nat × List UInt8)) (k left c p : Nat) : Prop where
  eq : R = elemsR t (k + 1) left c p (s.drop p)
  lt : left < 2 ^ (t + 2)
  low : ∀ j, left.testBit j = true → 63 - k ≤ j
  kk : k ≤ 63
  clt : c < 2 ^ (t + 2)
  ple : p ≤ s.length
theorem ElSt.err {t : Nat} {s : List UInt8} {R : Except Nat (Nat × Nat × List UInt8)} {k left c p far : Nat} (h : ElSt t s R k left c p) (he : (none, far) = elem t left (s.drop p)) : R = .error (p + far) := by
  rw [h.eq, elemsR_succ, ← he]
theorem ElSt.step {t : Nat} {s : List UInt8} {R : Except Nat (Nat × Nat × List UInt8)} {k left c p i far : Nat} (h : ElSt t s R k left c p) (ht : t ≤ 62) (he : (some i, far) = elem t left (s.drop p)) :
    i < t + 2 ∧ left.testBit i = true ∧ leftN left i < left ∧ leftN left i < 2 ^ (t + 2) ∧ c ||| 2 ^ i < 2 ^ (t + 2) ∧ p + far ≤ s.length ∧
    ((leftN left i ≠ 0 ∧ (s.drop (p + far)).head? = some 44 ∧ ∃ k', k = k' + 1 ∧ ElSt t s R k' (leftN left i) (c ||| 2 ^ i) (p + far + 1)) ∨ (¬ (leftN left i ≠ 0 ∧ (s.drop (p + far)).head? = some 44) ∧ R = .ok (c ||| 2 ^ i, p + far, s.drop (p + far)))) := by
  obtain ⟨h1, h2⟩ := elem_mem he
  have h64 : left < 2 ^ 64 := Nat.lt_of_lt_of_le h.lt (Nat.pow_le_pow_right (by omega) (by omega))
  have hfar := elem_far t left (s.drop p)
  rw [← he, List.length_drop] at hfar
  simp only at hfar
  have hll := leftN_lt h64 (by omega) h2
  have hcl : c ||| 2 ^ i < 2 ^ (t + 2) := Nat.or_lt_two_pow h.clt (Nat.pow_lt_pow_right (by omega) (by omega))
  have hdd : (s.drop p).drop far = s.drop (p + far) := by rw [List.drop_drop]
  have hle : p + far ≤ s.length := by have := h.ple; omega
  refine ⟨h1, h2, hll, by have := h.lt; omega, hcl, hle, ?_⟩
  have heq := h.eq
  rw [elemsR_succ, ← he] at heq
  simp only at heq
  rw [hdd] at heq
  by_cases hc : leftN left i ≠ 0 ∧ (s.drop (p + far)).head? = some 44
  · rw [if_pos hc] at heq
    left
    refine ⟨hc.1, hc.2, ?_⟩
    have hk1 : 1 ≤ k := by
      obtain ⟨j, hj⟩ := bit_of_ne hc.1
      have hjb := leftN_bit (j := j) h64 (show i < 64 by omega)
      rw [hj] at hjb
      simp at hjb
      have h3 := h.low i h2
      have : j < 64 := bit_lt (t := 62) h64 hjb.1
      omega
    obtain ⟨k', rfl⟩ : ∃ k', k = k' + 1 := ⟨k - 1, by omega⟩
    refine ⟨k', rfl, ?_, by have := h.lt; omega, ?_, by have := h.kk; omega, hcl, ?_⟩
    · rw [heq, List.tail_drop]
    · intro j hj
      have hjb := leftN_bit (j := j) h64 (show i < 64 by omega)
      rw [hj] at hjb
      simp at hjb
      have := h.low i h2
      omega
    · have : (s.drop (p + far)) ≠ [] := by intro e; rw [e] at hc; simp at hc
      have := List.length_pos_iff.2 this
      rw [List.length_drop] at this
      omega
  · rw [if_neg hc] at heq
    exact Or.inr ⟨hc, heq⟩

/-- What set comes to, as a call on a reader: the set, or the fault's place. -/
def setX (t : Nat) (s : List UInt8) (w' : World) (rb : Nat) (e : Ending) : Prop :=
  (∃ c p, setR t s = .ok c ∧ c < 2 ^ (t + 2) ∧ e = .returned (.int .u64 (c : Int)) ∧ RdAt w' rb t s p) ∨ (∃ p, setR t s = .error p ∧ e = .panicked panT ∧ RdAt w' rb t s p)
def moreN : Value → Nat → Nat
  | .bool true, n => n + 1
  | _, _ => 0
theorem full_low (t j : Nat) (_ : (2 ^ (t + 2) - 1).testBit j = true) : 63 - 63 ≤ j := by omega

set_option maxRecDepth 100000 in
set_option maxHeartbeats 4000000 in
theorem set_any {w0 w : World} {rb t : Nat} {s : List UInt8} (hP : PowTab w0) (hB : Below w0.heap.size w0 w) (hrb : w0.heap.size ≤ rb) (h : RdAt w rb t s 0) (hs : s.length ≤ 9223372036854775807) (ht : t ≤ 62) :
    Calls Tryd.prog 45 #[.pointer (some ⟨rb, 0, none⟩)] w fun e w' => w.grownBy w' (some rb) ∧ setX t s w' rb e := by
  have HM := hid (must_any 123 (by omega) h (by omega) hs)
  rw [List.drop_zero] at HM
  by_cases h0 : s.head? = some (UInt8.ofNat 123)
  · rw [if_pos h0] at HM
    have hpos : 1 ≤ s.length := by
      cases s with
      | nil => cases h0
      | cons a r => simp
    obtain ⟨R, hR⟩ : ∃ R, R = elemsR t 64 (2 ^ (t + 2) - 1) 0 1 s.tail := ⟨_, rfl⟩
    have HS := hid (show setR t s = endR R by unfold setR; rw [if_pos (show s.head? = some 123 from h0), ← hR])
    have hp2 : 0 < 2 ^ (t + 2) := Nat.pow_pos (by omega)
    have HST := hid (show ElSt t s R 63 (2 ^ (t + 2) - 1) 0 1 from ⟨by rw [hR, List.drop_one], by omega, full_low t, by omega, hp2, hpos⟩)
    have HA := hid (fun w' => all_any ht w')
    clear h0 hR
    go_enter Tryd.func45, Tryd.ntmps45
    go_wp2_with fail
    refine HM.out.mono ?_
    rintro e w1 ⟨hg1, ⟨v, p, hv, rfl, hr1⟩ | ⟨p, hv, _⟩⟩
    rotate_left
    · cases hv
    cases hv
    obtain ⟨c0, c1, c2, f2⟩ := hr1.cells
    have HG1 := hid hg1
    have HR1 := hid hr1
    clear hg1 hr1 hp2
    go_wp2_with fail
    refine (HA.out _).mono ?_
    rintro e w' ⟨rfl, e'⟩
    have ew := e'.symm
    clear e'
    subst ew
    go_wp2_with fail
    go_loopw [3, 4, 5] (fun c left more wr => Hid (w.grownBy wr (some rb)) ∧ ((more = .bool true ∧ ∃ k l cc p : Nat, left = .int .u64 (l : Int) ∧ c = .int .u64 (cc : Int) ∧ Hid (ElSt t s R k l cc p) ∧ Hid (RdAt wr rb t s p)) ∨ (more = .bool false ∧ ∃ l cc p : Nat, left = .int .u64 (l : Int) ∧ c = .int .u64 (cc : Int) ∧ Hid (R = .ok (cc, p, s.drop p) ∧ p ≤ s.length ∧ cc < 2 ^ (t + 2)) ∧ Hid (RdAt wr rb t s p)))) (fun _ left more _ => moreN more (intOf left).toNat)
    case atStart => exact ⟨HG1.out, Or.inl ⟨rfl, 63, 2 ^ (t + 2) - 1, 0, 1, rfl, rfl, HST.out, HR1.out⟩⟩
    case round =>
      obtain ⟨HG, ⟨rfl, k, l, cc, p, rfl, rfl, HE, HRd⟩ | ⟨rfl, l, cc, p, rfl, rfl, HE, HRd⟩⟩ := hrel
      · have hl64 : l < 18446744073709551616 := two_64 HE.out.lt ht
        have HEL := hid (element_any (c := l) hP (below_grown hB (Nat.le_refl _) HG.out hrb) HRd.out HE.out.ple hs ht hl64)
        go_wp2_with fail
        refine HEL.out.mono ?_
        rintro e w2 ⟨hg2, ⟨v, q, hv, rfl, hr2⟩ | ⟨q, hv, rfl, hr2⟩⟩
        · obtain ⟨i, far, he, rfl, rfl⟩ : ∃ i far, (some i, far) = elem t l (s.drop p) ∧ v = .int .i64 (i : Int) ∧ q = p + far := by
            unfold elR at hv
            split at hv
            · cases hv
            · rename_i i far hh
              cases hv
              exact ⟨i, far, hh.symm, rfl, rfl⟩
          obtain ⟨hi, hbit, hll, hl2, hcl, hple, hcase⟩ := HE.out.step ht he
          have HCA := hid hcase
          have HG2 := hid (grown_two HG.out hg2)
          have HR2 := hid hr2
          have H1 := hid (fun w' => alone_any (i := i) (by omega) w')
          have H2 := hid (fun w' => below_any (i := i + 1) (by omega) w')
          have HO := hid (or_pow cc i (two_64 HE.out.clt ht) (by omega))
          have HN := hid (leftN_andNot (i := i) hl64 (by omega))
          have HTK := hid (takes_any 44 (by omega) hr2 hple hs)
          have hi63 : (i : Int) ≤ 63 := by omega
          obtain ⟨C, hC⟩ : ∃ C, C = cc ||| 2 ^ i := ⟨_, rfl⟩
          obtain ⟨L, hL⟩ : ∃ L, L = leftN l i := ⟨_, rfl⟩
          rw [← hC] at HO hcl HCA
          rw [← hL] at HN hll hl2 HCA
          have hO := HO.out
          have hNo := HN.out
          have hN2 : bits .andNot .u64 (l : Int) ((2 : Int) ^ (i + 1) - 1) = (L : Int) := by
            rw [← hNo]
            congr 1
            have : 0 < 2 ^ (i + 1) := Nat.pow_pos (by omega)
            rw [Int.natCast_sub (by omega)]
            simp
          clear hcase hg2 hr2 hv he hC hL
          go_wp2_with fail
          refine (H1.out _).mono ?_
          rintro e w' ⟨rfl, e'⟩
          have ew := e'.symm
          clear e'
          subst ew
          go_wp2_with fail
          refine (H2.out _).mono ?_
          rintro e w' ⟨rfl, e'⟩
          have ew := e'.symm
          clear e'
          subst ew
          by_cases hL0 : L = 0
          · have hL0' : ((L : Int) != 0) = false := by simpa using hL0
            have HFin := hid (show R = .ok (C, p + far, s.drop (p + far)) by
              rcases HCA.out with h | h
              · exact absurd hL0 h.1
              · exact h.2)
            clear hL0
            go_wp2
            go_roundw
            case rel => exact ⟨HG2.out, Or.inr ⟨rfl, L, C, p + far, rfl, rfl, ⟨HFin.out, hple, hcl⟩, HR2.out⟩⟩
            case measure => simp [moreN]
          · have hL0' : ((L : Int) != 0) = true := by simpa using hL0
            by_cases hcm : (s.drop (p + far)).head? = some (UInt8.ofNat 44)
            · rw [decide_eq_true hcm, if_pos hcm] at HTK
              have HFin := hid (show ∃ k', k = k' + 1 ∧ ElSt t s R k' L C (p + far + 1) by
                rcases HCA.out with h | h
                · exact h.2.2
                · exact absurd ⟨hL0, hcm⟩ h.1)
              go_wp2_with fail
              refine HTK.out.mono ?_
              rintro e w3 ⟨rfl, hr3, hg3⟩
              go_wp2
              go_roundw
              case rel =>
                obtain ⟨k', _, hE⟩ := HFin.out
                exact ⟨grown_two HG2.out hg3, Or.inl ⟨rfl, k', L, C, p + far + 1, rfl, rfl, hE, hr3⟩⟩
              case measure => simp [moreN, intOf]; omega
            · rw [decide_eq_false hcm, if_neg hcm] at HTK
              have HFin := hid (show R = .ok (C, p + far, s.drop (p + far)) by
                rcases HCA.out with h | h
                · exact absurd h.2.1 hcm
                · exact h.2)
              go_wp2_with fail
              refine HTK.out.mono ?_
              rintro e w3 ⟨rfl, hr3, hg3⟩
              go_wp2
              go_roundw
              case rel => exact ⟨grown_two HG2.out hg3, Or.inr ⟨rfl, L, C, p + far, rfl, rfl, ⟨HFin.out, hple, hcl⟩, hr3⟩⟩
              case measure => simp [moreN]
        · obtain ⟨far, he, rfl⟩ : ∃ far, (none, far) = elem t l (s.drop p) ∧ q = p + far := by
            unfold elR at hv
            split at hv
            · rename_i far hh
              cases hv
              exact ⟨far, hh.symm, rfl⟩
            · cases hv
          have hRe := HE.out.err he
          exact ⟨rfl, grown_two HG.out hg2, Or.inr ⟨p + far, by rw [HS.out, hRe]; rfl, rfl, hr2⟩⟩
      · have HMM := hid (must_any 125 (by omega) HRd.out HE.out.2.1 hs)
        by_cases h1 : (s.drop p).head? = some (UInt8.ofNat 125)
        · rw [if_pos h1] at HMM
          have hp1 : p + 1 ≤ s.length := by
            have : (s.drop p) ≠ [] := by intro e; rw [e] at h1; cases h1
            have := List.length_pos_iff.2 this
            rw [List.length_drop] at this
            omega
          go_wp2_with fail
          refine HMM.out.mono ?_
          rintro e w2 ⟨hg2, ⟨v, q, hv, rfl, hr2⟩ | ⟨q, hv, _⟩⟩
          rotate_left
          · cases hv
          cases hv
          have HEN := hid (end_any hr2 hp1)
          have HG2 := hid (grown_two HG.out hg2)
          by_cases h2 : s.drop (p + 1) = []
          · rw [if_pos h2] at HEN
            have HFin := hid (show setR t s = .ok cc by
              rw [HS.out, HE.out.1]
              unfold endR
              simp only
              rw [if_pos (show (s.drop p).head? = some 125 from h1), if_pos (by rw [List.tail_drop]; exact h2)])
            go_wp2_with fail
            refine HEN.out.mono ?_
            rintro e w3 ⟨hg3, ⟨v, q, hv, rfl, hr3⟩ | ⟨q, hv, _⟩⟩
            rotate_left
            · cases hv
            cases hv
            go_wp2
            go_ret
            exact ⟨grown_two HG2.out hg3, Or.inl ⟨cc, p + 1, HFin.out, HE.out.2.2, rfl, hr3⟩⟩
          · rw [if_neg h2] at HEN
            have HFin := hid (show setR t s = .error (p + 1) by
              rw [HS.out, HE.out.1]
              unfold endR
              simp only
              rw [if_pos (show (s.drop p).head? = some 125 from h1), if_neg (by rw [List.tail_drop]; exact h2)])
            go_wp2_with fail
            refine HEN.out.mono ?_
            rintro e w3 ⟨hg3, ⟨v, q, hv, _⟩ | ⟨q, hv, rfl, hr3⟩⟩
            · cases hv
            · exact ⟨rfl, grown_two HG2.out hg3, Or.inr ⟨p + 1, HFin.out, rfl, by cases hv; exact hr3⟩⟩
        · rw [if_neg h1] at HMM
          have HFin := hid (show setR t s = .error p by
            rw [HS.out, HE.out.1]
            unfold endR
            simp only
            rw [if_neg (show ¬ (s.drop p).head? = some 125 from h1)])
          go_wp2_with fail
          refine HMM.out.mono ?_
          rintro e w2 ⟨hg2, ⟨v, q, hv, _⟩ | ⟨q, hv, rfl, hr2⟩⟩
          · cases hv
          · exact ⟨rfl, grown_two HG.out hg2, Or.inr ⟨p, HFin.out, rfl, by cases hv; exact hr2⟩⟩
  · rw [if_neg h0] at HM
    have HS := hid (show setR t s = .error 0 by unfold setR; rw [if_neg (show ¬ s.head? = some 123 from h0)])
    clear h0
    go_enter Tryd.func45, Tryd.ntmps45
    go_wp2_with fail
    refine HM.out.mono ?_
    rintro e w1 ⟨hg1, ⟨v, p, hv, _⟩ | ⟨p, hv, rfl, hr1⟩⟩
    · cases hv
    · exact ⟨rfl, hg1, Or.inr ⟨0, HS.out, rfl, by cases hv; exact hr1⟩⟩
end Go.Proofs.YteadddocmmkbgaaDoor.Co
