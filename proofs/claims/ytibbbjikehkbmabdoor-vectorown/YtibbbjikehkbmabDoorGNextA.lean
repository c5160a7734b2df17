/-
  next: what stands ahead of all others.
-/
import Derived.Test.YtibbbjikehkbmabDoorGNext
namespace Go.Proofs.YtibbbjikehkbmabDoor.Ve
open Go.RowKit

theorem Tryd.entBy : ∀ args w, (callFunc 33 args).run Tryd.prog w = .ok (.enter 33 args) w := fun _ _ => by kernel_rfl

set_option maxRecDepth 20000 in
set_option maxHeartbeats 4000000 in
theorem next_any {w : World} {va vb : Value} {a b : List St} (ha : VecV w va a) (hb : VecV w vb b) (hna : a.length ≤ 256) (hnb : b.length ≤ 256) :
    Calls Tryd.prog 62 #[va, vb, .func (.func 33) #[] #[]] w fun e w' => e = .returned (.tuple #[.int .i64 ((nxt a b).1 : Nat), .int .i64 ((nxt a b).2 : Nat)]) ∧ Below w.heap.size w w' := by
  obtain ⟨ao, ca, rfl, hca, -, ra⟩ := ha
  obtain ⟨bo, cb, rfl, hcb, -, rb⟩ := hb
  have hent := Tryd.entBy
  cases a with
  | nil =>
    go_enter Tryd.func62, Tryd.ntmps62
    go_wp2
    go_ret2
    exact ⟨rfl, Below.refl _ _⟩
  | cons s a =>
    obtain ⟨n, hn⟩ : ∃ n, n = (s :: a).length := ⟨_, rfl⟩
    have hn1 : 1 ≤ n := by rw [hn]; simp
    have hna' : ((n : Int) == 0) = false := by rw [beq_eq_false_iff_ne]; omega
    have hna2 : (n == 0) = false := by rw [beq_eq_false_iff_ne]; omega
    have hnI : (0 : Int) < (n : Int) := by omega
    have hn0 : 0 < n := hn1
    cases b with
    | nil =>
      rw [← hn]
      clear hn
      go_enter Tryd.func62, Tryd.ntmps62
      go_wp2
      go_ret2
      exact ⟨rfl, Below.refl _ _⟩
    | cons t b =>
      obtain ⟨m, hm⟩ : ∃ m, m = (t :: b).length := ⟨_, rfl⟩
      have hm1 : 1 ≤ m := by rw [hm]; simp
      have hmb' : ((m : Int) == 0) = false := by rw [beq_eq_false_iff_ne]; omega
      have hmb2 : (m == 0) = false := by rw [beq_eq_false_iff_ne]; omega
      have hmI : (0 : Int) < (m : Int) := by omega
      have hm0 : 0 < m := hm1
      rw [← hn, ← hm]
      obtain ⟨g, o, rfl, hg, hc⟩ := ra.resolve_left (by simp)
      obtain ⟨g', o', rfl, hg', hc'⟩ := rb.resolve_left (by simp)
      obtain ⟨c0, c1⟩ := hc 0 s rfl
      obtain ⟨d0, d1⟩ := hc' 0 t rfl
      rw [Nat.zero_mul, Nat.add_zero] at c0 c1 d0 d1
      have HN := hid (show nxt (s :: a) (t :: b) = (if s.1 ≤ t.1 then 1 else 0, if t.1 ≤ s.1 then 1 else 0) from rfl)
      obtain ⟨d, u⟩ := s
      obtain ⟨d', u'⟩ := t
      simp only at c0 c1 d0 d1 HN
      have HC := hid (byDev_any d d' (u : Int) (u' : Int))
      obtain ⟨r, hr⟩ : ∃ r, r = cmpD d d' := ⟨_, rfl⟩
      rw [← hr] at HC
      have HCD := hid hr
      clear hn hm hc hc' hr
      go_enter Tryd.func62, Tryd.ntmps62
      go_wp2_with fail
      go_region_held2 (fun W => W.cell? ⟨g, o, none⟩ = some (.int .i64 d) ∧ W.cell? ⟨g, o + 1, none⟩ = some (.int .u64 (u : Int)) ∧ W.cell? ⟨g', o', none⟩ = some (.int .i64 d') ∧ W.cell? ⟨g', o' + 1, none⟩ = some (.int .u64 (u' : Int))) (first | exact ⟨c0, c1, d0, d1⟩ | exact hS2) (first | (go_at_call 33; refine (HC.out _).mono ?_; rintro en w2 ⟨rfl, hb2⟩; have B2 := hid hb2; have hS2 := And.intro ((hb2.cell (block_oldS c0)).trans c0) (And.intro ((hb2.cell (block_oldS c1)).trans c1) (And.intro ((hb2.cell (block_oldS d0)).trans d0) ((hb2.cell (block_oldS d1)).trans d1))); clear hb2))
      rcases Int.lt_trichotomy d d' with h | h | h
      · have hr : r = -1 := by rw [HCD.out]; unfold cmpD; rw [if_pos h]
        subst hr
        have HE := hid (show nxt ((d, u) :: a) ((d', u') :: b) = (1, 0) by rw [HN.out, if_pos (by omega), if_neg (by omega)])
        go_wp2
        go_ret2
        exact ⟨by rw [HE.out]; rfl, (Below.refl w.heap.size w).drew.trans (show Below w.heap.size w.drew w2 from B2.out)⟩
      · have hr : r = 0 := by rw [HCD.out]; unfold cmpD; rw [if_neg (by omega), if_neg (by omega)]
        subst hr
        have HE := hid (show nxt ((d, u) :: a) ((d', u') :: b) = (1, 1) by rw [HN.out, if_pos (by omega), if_pos (by omega)])
        go_wp2
        go_ret2
        exact ⟨by rw [HE.out]; rfl, (Below.refl w.heap.size w).drew.trans (show Below w.heap.size w.drew w2 from B2.out)⟩
      · have hr : r = 1 := by rw [HCD.out]; unfold cmpD; rw [if_neg (by omega), if_pos h]
        subst hr
        have HE := hid (show nxt ((d, u) :: a) ((d', u') :: b) = (0, 1) by rw [HN.out, if_neg (by omega), if_pos (by omega)])
        go_wp2
        go_ret2
        exact ⟨by rw [HE.out]; rfl, (Below.refl w.heap.size w).drew.trans (show Below w.heap.size w.drew w2 from B2.out)⟩
end Go.Proofs.YtibbbjikehkbmabDoor.Ve
