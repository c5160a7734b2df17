/-
  And of two.
-/
import Derived.Test.YtffngpdngjfcfaaBFold
namespace Go.Proofs.Ytffngpdngjfcfaa
open Go.RowKit Go.Maps
open Bd (Nd)

theorem enter_And : ∀ args w, (callFunc 49 args).run Try.prog w = .ok (.enter 49 args) w := fun args w => by kernel_rfl

set_option maxHeartbeats 1000000 in
theorem and_how {M : Nat} {w : World} {y : Lay} {s : St} (A : Bd.Fam s.bits M) (hT : Tab w y s) (hW : Bd.Within A s.L) (hlim : s.bits * M ≤ s.limit) (B n0 n1 g : Nat) (h0 : w.heap[B]? = some (.cells #[.pointer (some ⟨y.tb, 0, none⟩)] 23 (0, 0))) (hNA : NodesAt w g [n0, n1])
    (h1 : n0 < s.L.length + 2) (h2 : n1 < s.L.length + 2) (hF : A.F 0 (Bd.iteF (Bd.den s.L n0) (Bd.den s.L n1) Bd.ff)) :
    Calls Try.prog 49 #[.slice (some ⟨g, 0, none⟩) 2 2, .pointer (some ⟨B, 0, none⟩)] w fun e w' => ∃ r, e = .returned (i6 r) ∧ Grew noX A w y s w' r (Bd.iteF (Bd.den s.L n0) (Bd.den s.L n1) Bd.ff) := by
  have c0 : w.cell? ⟨B, 0, none⟩ = some (.pointer (some ⟨y.tb, 0, none⟩)) := by rw [cell_at h0]; rfl
  have h := fold_two A hT hW hlim 50 (fun a b => (a, b, 0)) and_joins 1 n0 n1 g hNA (fun W p => ite_one W p n0 0) h1 h2 (by show 0 < _; omega) (by show A.F 0 (Bd.iteF (Bd.den s.L n0) (Bd.den s.L n1) (Bd.den s.L 0)); rw [Bd.den_zero]; exact hF)
  have e : Bd.iteF (Bd.den s.L ((fun a b => ((a, b, 0) : Nat × Nat × Nat)) n0 n1).1) (Bd.den s.L ((fun a b => ((a, b, 0) : Nat × Nat × Nat)) n0 n1).2.1) (Bd.den s.L ((fun a b => ((a, b, 0) : Nat × Nat × Nat)) n0 n1).2.2) = Bd.iteF (Bd.den s.L n0) (Bd.den s.L n1) Bd.ff := by
    show Bd.iteF (Bd.den s.L n0) (Bd.den s.L n1) (Bd.den s.L 0) = _
    rw [Bd.den_zero]
  rw [e] at h
  have HF := keep h
  clear h e hT hW hF hNA h0
  go_enter Try.func49, Try.ntmps49
  go_wp2_with fail
  refine HF.out.mono ?_
  rintro e w' ⟨r, rfl, hG⟩
  have HG := keep hG
  clear hG
  go_wp2_with fail
  go_ret
  exact ⟨r, rfl, HG.out⟩

set_option maxHeartbeats 1000000 in
theorem And_two {M : Nat} {w : World} {y : Lay} {s : St} (A : Bd.Fam s.bits M) (hT : Tab w y s) (hW : Bd.Within A s.L) (h2 : 2 ≤ s.first) (hsm : s.roots.length + 1 ≤ 1073741824) (hlim : s.bits * M ≤ s.limit) (v : Value) (r0 r1 n0 n1 : Nat) (hR : RefsAt w v [r0, r1]) (hn0 : s.node? r0 = some n0) (hn1 : s.node? r1 = some n1)
    (l0 : n0 < s.L.length + 2) (l1 : n1 < s.L.length + 2) (hF : A.F 0 (Bd.iteF (Bd.den s.L n0) (Bd.den s.L n1) Bd.ff)) :
    Calls Try.prog 21 #[.pointer (some ⟨y.tb, 0, none⟩), v] w fun e w' => ∃ r, e = .returned (.tuple #[i6 r, .int .i64 0]) ∧ Told A w y s w' r (Bd.iteF (Bd.den s.L n0) (Bd.den s.L n1) Bd.ff) := by
  have hmf : ∀ (fn : Fn) (first cap : Array Value) (w : World), (Instr.makeFunc fn first cap).run Try.prog w = .ok (.func fn first cap) w := fun _ _ _ _ => rfl
  have hb : Below w.heap.size w (w.alloc (.cells #[.pointer (some ⟨y.tb, 0, none⟩)] 23)) := (Below.refl _ _).alloc (Nat.le_refl _) _
  have x0 := heap_alloc_new w (.cells #[.pointer (some ⟨y.tb, 0, none⟩)] 23)
  have hT1 := hT.below hb
  have hN : NodesOf s [r0, r1] [n0, n1] := by
    refine ⟨rfl, fun i r hi => ?_⟩
    match i, hi with
    | 0, hi => simp at hi; subst hi; exact ⟨n0, rfl, hn0⟩
    | 1, hi => simp at hi; subst hi; exact ⟨n1, rfl, hn1⟩
    | (i + 2), hi => simp at hi
  have h := answer_ok A hT1 h2 hsm hlim v [r0, r1] [n0, n1] (hR.below hb) (by simp) hN 49 enter_And #[.pointer (some ⟨w.heap.size, 0, none⟩)] (Bd.iteF (Bd.den s.L n0) (Bd.den s.L n1) Bd.ff) (fun w2 g hb2 hNA hg => and_how A (hT1.below hb2) hW hlim w.heap.size n0 n1 g ((hb2.block _ (block_lt x0)).trans x0) hNA l0 l1 hF)
  have HA := keep h
  have HB := keep hb
  clear h hT hT1 hW hR hN hF x0 hb
  go_enter Try.func21, Try.ntmps21
  go_wp2_with fail
  refine HA.out.mono ?_
  rintro e w' ⟨r, rfl, ⟨N, t, y', m, q1, q2, q3, q4, q5, q6, q7⟩⟩
  have HG : Hid (Told A w y s w' r (Bd.iteF (Bd.den s.L n0) (Bd.den s.L n1) Bd.ff)) := ⟨N, t, y', m, q1, q2, q3, q4, q5, (moves_below y HB.out).trans q6, q7⟩
  clear q1 q2 q3 q4 q5 q6 q7
  go_wp2_with fail
  go_ret2
  exact ⟨r, rfl, HG.out⟩
end Go.Proofs.Ytffngpdngjfcfaa
