/-
  Get: the program's and the document's.
-/
import Derived.Test.YtibbbjikehkbmaaDoorGWith
import Derived.Test.YtibbbjikehkbmaaDoorGRChk
namespace Go.Proofs.YtibbbjikehkbmaaDoor.Ve
open Go.RowKit

/-- What Get comes to. -/
def getP (v : List St) (d : Int) : Nat × Bool × Int := if Right v then ((fndP v d).1, (fndP v d).2, 0) else (0, false, 160)
theorem fndP_zero {v : List St} {d : Int} (h : (fndP v d).2 = false) : (fndP v d).1 = 0 := by
  unfold fndP at h ⊢
  cases hg : getV v d with
  | none => rfl
  | some n => rw [hg] at h; simp at h
theorem fndP_old {v : List St} {d : Int} (h : (fndP v d).2 = true) : fndP v d = ((fndP v d).1, true) := by rw [← h]
theorem fndP_new {v : List St} {d : Int} (h : (fndP v d).2 = false) : fndP v d = (0, false) := by rw [← h, ← fndP_zero h]
set_option maxRecDepth 20000 in
set_option maxHeartbeats 4000000 in
theorem Get_any {w : World} {v : Value} {a : List St} (d : Int) (ha : VecV w v a) (la : a.length ≤ maxLen) :
    Calls Tryd.prog 9 #[v, .int .i64 d] w fun e w' => e = .returned (.tuple #[.int .u64 ((getP a d).1 : Nat), .bool (getP a d).2.1, .int .i64 (getP a d).2.2]) ∧ Below w.heap.size w w' := by
  have HA := hid ha
  have HC := hid (Check_any (vecs_one (t := 23) (n := w.heap.size) rfl ha) (by simp [maxLen]) (fun x hx => by simp at hx; subst hx; exact la))
  obtain ⟨ao, ca, rfl, -, -, hrow⟩ := ha
  obtain ⟨m, hm⟩ : ∃ m, m = a.length := ⟨_, rfl⟩
  rw [← hm] at HA HC la ⊢
  have HM := hid hm
  have HROW := hid hrow
  unfold maxLen at la
  clear hm hrow
  by_cases hr : Right a
  · rw [chk_one, if_pos hr] at HC
    have HR := hid hr
    have HF := hid (fun W (hb : Below w.heap.size w W) => find_any (w := W) (HA.out.below hb) hr d)
    have HE := hid (show getP a d = ((fndP a d).1, (fndP a d).2, 0) by unfold getP; rw [if_pos hr])
    obtain ⟨⟨q1, ok⟩, hq⟩ : ∃ q, q = fndP a d := ⟨_, rfl⟩
    rw [← hq] at HF HE
    have HQ := hid hq
    obtain ⟨p, hp⟩ : ∃ p, p = lowI a d := ⟨_, rfl⟩
    rw [← hp] at HF
    have HPP := hid hp
    clear hr hq hp
    rcases bool_two ok with hok | hok
    · subst hok
      have HZ := hid (show getP a d = (0, false, 0) by rw [HE.out, show q1 = 0 by have := fndP_zero (v := a) (d := d) (by rw [← HQ.out]); rw [← HQ.out] at this; exact this])
      go_enter Tryd.func9, Tryd.ntmps9
      go_wp2_with fail
      refine HC.out.mono ?_
      rintro e w1 ⟨rfl, hb1⟩
      have HB1 := hid (below_tr (below_al _ _) hb1)
      clear hb1
      go_wp2_with fail
      refine (HF.out w1 HB1.out).mono ?_
      rintro e w2 ⟨rfl, hb2⟩
      have HB2 := hid (below_tr HB1.out hb2)
      clear hb2
      go_wp2
      refine bodyPost_ret (results_tmp3 (fn := Tryd.f9) rfl _ _ _) rfl ?_
      exact ⟨by rw [HZ.out]; rfl, HB2.out⟩
    · subst hok
      have hat := low_at HR.out (show (fndP a d).2 = true by rw [← HQ.out])
      rw [← HPP.out, ← HQ.out] at hat
      have hpl := (List.getElem?_eq_some_iff.1 hat).1
      have pI : (p : Int) < (m : Int) := by have := HM.out; omega
      have p0 : (0 : Int) ≤ (p : Int) := by omega
      have HAT := hid hat
      clear hat hpl
      go_enter Tryd.func9, Tryd.ntmps9
      go_wp2_with fail
      refine HC.out.mono ?_
      rintro e w1 ⟨rfl, hb1⟩
      have HB1 := hid (below_tr (below_al _ _) hb1)
      clear hb1
      go_wp2_with fail
      refine (HF.out w1 HB1.out).mono ?_
      rintro e w2 ⟨rfl, hb2⟩
      have HB2 := hid (below_tr HB1.out hb2)
      clear hb2
      obtain ⟨g, o, rfl, hg, hc⟩ := (HROW.out.below HB2.out).resolve_left (fun e => by have := HAT.out; rw [e] at this; simp at this)
      obtain ⟨c0, c1⟩ := hc p _ HAT.out
      simp only at c0 c1
      clear hc
      go_wp2_with fail
      refine bodyPost_ret (results_tmp3 (fn := Tryd.f9) rfl _ _ _) rfl ?_
      exact ⟨by rw [HE.out]; rfl, HB2.out⟩
  · rw [chk_one, if_neg hr] at HC
    have HE := hid (show getP a d = (0, false, 160) by unfold getP; rw [if_neg hr])
    clear hr
    go_enter Tryd.func9, Tryd.ntmps9
    go_wp2_with fail
    refine HC.out.mono ?_
    rintro e w1 ⟨rfl, hb1⟩
    have HB1 := hid (below_tr (below_al _ _) hb1)
    clear hb1
    go_wp2
    refine bodyPost_ret (results_tmp3 (fn := Tryd.f9) rfl _ _ _) rfl ?_
    exact ⟨by rw [HE.out]; rfl, HB1.out⟩
set_option maxRecDepth 20000 in
set_option maxHeartbeats 4000000 in
theorem RGet_any {w : World} {v : Value} {a : List St} (d : Int) (ha : VecV w v a) (la : a.length ≤ maxLen) :
    Calls Tryd.prog 10 #[v, .int .i64 d] w fun e w' => e = .returned (.tuple #[.int .u64 ((getP a d).1 : Nat), .bool (getP a d).2.1, .int .i64 (getP a d).2.2]) ∧ Below w.heap.size w w' := by
  have HA := hid ha
  have HC := hid (RCheck_any (vecs_one (t := 23) (n := w.heap.size) rfl ha) (by simp [maxLen]) (fun x hx => by simp at hx; subst hx; exact la))
  have HF := hid (fun W (hb : Below w.heap.size w W) => RFind_any (w := W) (HA.out.below hb) la d)
  obtain ⟨ao, ca, rfl, -, -, hrow⟩ := ha
  obtain ⟨m, hm⟩ : ∃ m, m = a.length := ⟨_, rfl⟩
  rw [← hm] at HA HC HF la ⊢
  clear hm hrow
  by_cases hr : Right a
  · rw [chk_one, if_pos hr] at HC
    have HE := hid (show getP a d = ((fndP a d).1, (fndP a d).2, 0) by unfold getP; rw [if_pos hr])
    obtain ⟨⟨q1, ok⟩, hq⟩ : ∃ q, q = fndP a d := ⟨_, rfl⟩
    rw [← hq] at HF HE
    clear hr hq
    go_enter Tryd.func10, Tryd.ntmps10
    go_wp2_with fail
    refine HC.out.mono ?_
    rintro e w1 ⟨rfl, hd⟩
    have HB1 := hid (below_tr (below_al _ _) (drew_below hd))
    clear hd
    go_wp2_with fail
    refine (HF.out w1 HB1.out).mono ?_
    rintro e w' ⟨rfl, e'⟩
    subst e'
    go_wp2
    refine bodyPost_ret (results_tmp3 (fn := Tryd.f10) rfl _ _ _) rfl ?_
    exact ⟨by rw [HE.out]; rfl, HB1.out⟩
  · rw [chk_one, if_neg hr] at HC
    have HE := hid (show getP a d = (0, false, 160) by unfold getP; rw [if_neg hr])
    clear hr
    go_enter Tryd.func10, Tryd.ntmps10
    go_wp2_with fail
    refine HC.out.mono ?_
    rintro e w1 ⟨rfl, hd⟩
    have HB1 := hid (below_tr (below_al _ _) (drew_below hd))
    clear hd
    go_wp2
    refine bodyPost_ret (results_tmp3 (fn := Tryd.f10) rfl _ _ _) rfl ?_
    exact ⟨by rw [HE.out]; rfl, HB1.out⟩
end Go.Proofs.YtibbbjikehkbmaaDoor.Ve
