/-
  VectorOrders' law.
-/
import Derived.Test.YtibbbjikehkbmaaDoorGRBel
import Derived.Test.YtibbbjikehkbmaaDoorGSame
import Derived.Test.YtibbbjikehkbmaaDoorGAwake
namespace Go.Proofs.YtibbbjikehkbmaaDoor.Ve
open Go.RowKit

set_option maxRecDepth 20000 in
set_option maxHeartbeats 4000000 in
theorem vorders_any {w : World} {va vb : Value} {a b : List St} (ha : VecV w va a) (hb : VecV w vb b) (la : a.length ≤ maxLen) (lb : b.length ≤ maxLen) :
    Calls Tryd.prog 5 #[va, vb] w fun e w' => e = .returned (.bool true) ∧ Below w.heap.size w w' := by
  have HA := hid ha
  have HB := hid hb
  have B1 := hid (fun W (hb : Below w.heap.size w W) => Below_any (HA.out.below hb) (HB.out.below hb) la lb)
  have B2 := hid (fun W (hb : Below w.heap.size w W) => RBelow_any (HA.out.below hb) (HB.out.below hb) la lb)
  have S1 := hid (fun W (hb : Below w.heap.size w W) => Same_any (HA.out.below hb) (HB.out.below hb) la lb)
  have S2 := hid (fun W (hb : Below w.heap.size w W) => RSame_any (HA.out.below hb) (HB.out.below hb) la lb)
  have S3 := hid (fun W (hb : Below w.heap.size w W) => Same_any (HA.out.below hb) (HA.out.below hb) la la)
  rw [show decide (a = a) = true from decide_eq_true rfl] at S3
  obtain ⟨ao, ca, rfl, -, -, -⟩ := ha
  obtain ⟨bo, cb, rfl, -, -, -⟩ := hb
  obtain ⟨n, hn⟩ : ∃ n, n = a.length := ⟨_, rfl⟩
  obtain ⟨m, hm⟩ : ∃ m, m = b.length := ⟨_, rfl⟩
  obtain ⟨⟨x, y⟩, hp⟩ : ∃ p, p = belP a b := ⟨_, rfl⟩
  obtain ⟨z, hz⟩ : ∃ z, z = decide (a = b) := ⟨_, rfl⟩
  rw [← hp, ← hn, ← hm] at B1 B2
  rw [← hz, ← hn, ← hm] at S1 S2
  rw [← hn] at S3
  rw [← hn, ← hm]
  clear hn hm la lb HA HB hp hz
  simp only at B1 B2
  have HW := hid awake_any
  have H0 := hid (Below.refl w.heap.size w)
  have hy : (y == y) = true := beq_self_eq_true y
  rcases bool_two x with e1 | e1 <;> rcases bool_two z with e2 | e2 <;> subst e1 <;> subst e2
  all_goals
    go_enter Tryd.func5, Tryd.ntmps5
    go_wp2_with fail
    refine (B1.out _ H0.out).mono ?_
    rintro e w1 ⟨rfl, hb⟩
    have H1 := hid hb
    clear hb
    go_wp2_with fail
    refine (B2.out _ H1.out).mono ?_
    rintro e w2 ⟨rfl, hb⟩
    have H2 := hid (below_tr H1.out hb)
    clear hb
    go_wp2_with fail
    refine (S1.out _ H2.out).mono ?_
    rintro e w3 ⟨rfl, hd⟩
    have H3 := hid (below_tr H2.out (drew_below hd))
    clear hd
    go_wp2_with fail
    refine (S2.out _ H3.out).mono ?_
    rintro e w4 ⟨rfl, hd⟩
    have H4 := hid (below_tr H3.out (drew_below hd))
    clear hd
    go_wp2_with fail
    refine (S3.out _ H4.out).mono ?_
    rintro e w5 ⟨rfl, hd⟩
    have H5 := hid (below_tr H4.out (drew_below hd))
    clear hd
    go_wp2_with fail
    refine (HW.out w5).mono ?_
    rintro e w6 ⟨rfl, hb⟩
    have H6 := hid (below_tr H5.out hb)
    clear hb
    go_wp2
    go_ret
    exact ⟨by rfl, H6.out⟩
end Go.Proofs.YtibbbjikehkbmaaDoor.Ve
