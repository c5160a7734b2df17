/-
  Below: the document's.
-/
import Derived.Test.YtibbbjikehkbmaaDoorGFind
import Derived.Test.YtibbbjikehkbmaaDoorGRChk
import Derived.Test.YtibbbjikehkbmaaDoorGBel
namespace Go.Proofs.YtibbbjikehkbmaaDoor.Ve
open Go.RowKit

/-- Is the row up to a place below? -/
def belK (a b : List St) (k : Nat) : Prop := ∀ s ∈ a.take k, ∃ n, getV b s.1 = some n ∧ s.2 ≤ n
theorem belK_zero (a b : List St) : belK a b 0 := fun s hs => by simp at hs
theorem belK_succ {a b : List St} {k : Nat} {s : St} (hs : a[k]? = some s) : belK a b (k + 1) ↔ belK a b k ∧ (fndP b s.1).2 = true ∧ s.2 ≤ (fndP b s.1).1 := by
  have e : a.take (k + 1) = a.take k ++ [s] := by rw [List.take_add_one, hs]; rfl
  have hf : ((fndP b s.1).2 = true ∧ s.2 ≤ (fndP b s.1).1) ↔ ∃ n, getV b s.1 = some n ∧ s.2 ≤ n := by
    unfold fndP
    cases getV b s.1 with
    | none => simp
    | some n => simp
  unfold belK
  rw [e, hf]
  constructor
  · intro h
    exact ⟨fun t ht => h t (by simp [ht]), h s (by simp)⟩
  · rintro ⟨h1, h2⟩ t ht
    rcases List.mem_append.1 ht with ht | ht
    · exact h1 t ht
    · rw [List.mem_singleton.1 ht]; exact h2
theorem belK_all {a b : List St} {k : Nat} (hk : k = a.length) (ra : Right a) (rb : Right b) (h : belK a b k) : (stepsV a b).all belB = true := (bel_spec a b ra rb).2 (by
  unfold belK at h
  rw [hk, List.take_length] at h
  exact h)
theorem belK_no {a b : List St} {k : Nat} (ra : Right a) (rb : Right b) (h : ¬ belK a b k) : (stepsV a b).all belB = false := by
  rw [Bool.eq_false_iff]
  intro e
  exact h fun s hs => (bel_spec a b ra rb).1 e s (List.mem_of_mem_take hs)
set_option maxRecDepth 20000 in
set_option maxHeartbeats 2000000 in
theorem RBelow_any {w : World} {va vb : Value} {a b : List St} (ha : VecV w va a) (hb : VecV w vb b) (la : a.length ≤ maxLen) (lb : b.length ≤ maxLen) :
    Calls Tryd.prog 22 #[va, vb] w fun e w' => e = .returned (.tuple #[.bool (belP a b).1, .int .i64 (belP a b).2]) ∧ Below w.heap.size w w' := by
  have HA := hid ha
  have HB := hid hb
  have HC := hid (fun W v (h : VecsV W v [a, b]) => RCheck_any h (by simp [maxLen]) (fun l hl => by simp at hl; rcases hl with rfl | rfl <;> assumption))
  obtain ⟨ao, ca, rfl, -, -, -⟩ := ha
  obtain ⟨bo, cb, rfl, -, -, -⟩ := hb
  have HF := hid (fun W (h : VecV W (.slice bo b.length cb) b) d => RFind_any h lb d)
  obtain ⟨n, hn⟩ : ∃ n, n = a.length := ⟨_, rfl⟩
  obtain ⟨m, hm⟩ : ∃ m, m = b.length := ⟨_, rfl⟩
  rw [← hn] at HA la ⊢
  rw [← hm] at HB lb HF ⊢
  have HN := hid hn
  unfold maxLen at la lb
  clear hn hm
  have hv := vecs_two (t := 23) (n := w.heap.size) rfl HA.out HB.out
  have hB0 := below_al w (.cells #[.slice ao n ca, .slice bo m cb] 23)
  have HV := hid hv
  have HB0 := hid hB0
  clear hv hB0
  rcases chkN_two [a, b] with h0 | h0
  · obtain ⟨ra, rb⟩ := right_two h0
    have HR := hid (show belP a b = ((stepsV a b).all belB, 0) by unfold belP; rw [if_pos h0])
    have HRR := hid (And.intro ra rb)
    rw [h0] at HC
    clear ra rb h0
    go_enter Tryd.func22, Tryd.ntmps22
    go_wp2_with fail
    refine (HC.out _ _ HV.out).mono ?_
    rintro e W1 ⟨rfl, hd⟩
    have hb1 := below_tr HB0.out (drew_below hd)
    have HB1 := hid hb1
    have HAW := hid (HA.out.below hb1)
    have HBW := hid (HB.out.below hb1)
    clear hd hb1
    go_wp2_with fail
    go_loopw [7] (fun i wr => ∃ k : Nat, k ≤ n ∧ i = .int .i64 k ∧ wr = W1 ∧ Hid (belK a b k)) (fun i _ => n - (intOf i).toNat)
    case atStart => exact ⟨0, Nat.zero_le _, rfl, rfl, belK_zero _ _⟩
    case round =>
      obtain ⟨k, hk, rfl, hwr, HA2⟩ := hrel
      subst hwr
      by_cases hlt : k < n
      · obtain ⟨⟨d, u⟩, hs⟩ : ∃ x, a[k]? = some x := ⟨_, List.getElem?_eq_getElem (by have := HN.out; omega)⟩
        obtain ⟨ao', c', e, -, -, hrow⟩ := HAW.out
        injection e with e1 e2 e3
        clear e2 e3
        subst e1
        obtain ⟨g, o, rfl, hg, hc⟩ := hrow.resolve_left (fun e => by rw [e] at hs; simp at hs)
        obtain ⟨c0, c1⟩ := hc k _ hs
        simp only at c0 c1
        have kI : (k : Int) < (n : Int) := by omega
        have k0 : (0 : Int) ≤ (k : Int) := by omega
        have HS := hid (belK_succ (b := b) hs)
        have HFD := hid (HF.out wr HBW.out d)
        obtain ⟨⟨q, ok⟩, hq⟩ : ∃ q, q = fndP b d := ⟨_, rfl⟩
        rw [← hq] at HFD
        have HQ := hid hq
        simp only at HFD
        clear hs hc hrow hq
        rcases bool_two ok with hok | hok
        · subst hok
          have HE := hid (belK_no HRR.out.1 HRR.out.2 (fun h => by
            have := (HS.out.1 h).2.1
            rw [← HQ.out] at this
            cases this))
          go_wp2_with (first | (go_at_call 25; refine HFD.out.mono ?_; rintro e w' ⟨rfl, e'⟩; have ew := e'.symm; clear e'; subst ew))
          go_ret2
          exact ⟨by rw [HR.out, HE.out]; rfl, HB1.out⟩
        · subst hok
          by_cases hle : q < u
          · have hleI : (q : Int) < (u : Int) := by omega
            have HE := hid (belK_no HRR.out.1 HRR.out.2 (fun h => by
              have := (HS.out.1 h).2.2
              rw [← HQ.out] at this
              simp only at this
              omega))
            clear hle
            go_wp2_with (first | (go_at_call 25; refine HFD.out.mono ?_; rintro e w' ⟨rfl, e'⟩; have ew := e'.symm; clear e'; subst ew))
            go_ret2
            exact ⟨by rw [HR.out, HE.out]; rfl, HB1.out⟩
          · have hleI : ¬ (q : Int) < (u : Int) := by omega
            have HA3 := hid (show belK a b (k + 1) from HS.out.2 ⟨HA2.out, by rw [← HQ.out], by rw [← HQ.out]; simp only; omega⟩)
            clear hle
            go_wp2_with (first | (go_at_call 25; refine HFD.out.mono ?_; rintro e w' ⟨rfl, e'⟩; have ew := e'.symm; clear e'; subst ew))
            go_roundw
            case rel => exact ⟨k + 1, by omega, by go_num, trivial, HA3⟩
            case measure => simp [intOf]; omega
      · have hkn : k = n := by omega
        have kI : ¬ (k : Int) < (n : Int) := by omega
        have HE := hid (belK_all (hkn.trans HN.out) HRR.out.1 HRR.out.2 HA2.out)
        clear hkn
        go_wp2
        go_ret2
        exact ⟨by rw [HR.out, HE.out]; rfl, HB1.out⟩
  · have HR := hid (show belP a b = (false, 160) by unfold belP; rw [if_neg (by rw [h0]; decide), h0])
    rw [h0] at HC
    clear h0
    go_enter Tryd.func22, Tryd.ntmps22
    go_wp2_with fail
    refine (HC.out _ _ HV.out).mono ?_
    rintro e W1 ⟨rfl, hd⟩
    have hb1 := below_tr HB0.out (drew_below hd)
    clear hd
    go_wp2
    go_ret2
    exact ⟨by rw [HR.out]; rfl, hb1⟩
end Go.Proofs.YtibbbjikehkbmaaDoor.Ve
