/-
  The table of the example: two cubes, and what they have in common.
  A ref that was never told: find, answer, root, Keep.
  answer, And, Or, Not, Diff, Ite where answer fails.
  A table that New did not make: each method answers ErrNil.
  And of some; Not, Diff; two refs of one function are one.
  And, Or of some; Ite, Not, Diff.
-/
import Derived.Test.YtffngpdngjfcfaaBWayFAnd
import Derived.Test.YtffngpdngjfcfaaBFindAnd
import Derived.Test.YtffngpdngjfcfaaBIteAnd
namespace Go.Proofs.Ytffngpdngjfcfaa
open Go.RowKit Go.Maps
open Bd (Nd)

theorem or_join (w : World) (a b : Nat) : Calls Try.prog 48 #[i6 a, i6 b] w fun e w' => e = .returned (.agg #[i6 a, i6 1, i6 b]) ∧ Below w.heap.size w w' := by
  go_enter Try.func48, Try.ntmps48
  go_wp2
  refine bodyPost_ret (v := .agg #[i6 a, i6 1, i6 b]) (by simp [results, Try.results48, go_sem]) rfl ⟨rfl, (Below.refl _ _).alloc (Nat.le_refl _) _⟩
theorem or_joins : Joins 48 (fun a b => (a, 1, b)) := ⟨fun args w => by kernel_rfl, fun w a b => or_join w a b⟩
theorem means_or : Means (fun a b => (a, 1, b)) (fun f g => Bd.iteF f Bd.tt g) := ⟨fun L a b ha hb => ⟨ha, by show 1 < _; omega, hb⟩, fun L a b => by show Bd.iteF _ (Bd.den L 1) _ = _; rw [Bd.den_one]⟩
theorem means_and : Means (fun a b => (a, b, 0)) (fun f g => Bd.iteF f g Bd.ff) := ⟨fun L a b ha hb => ⟨ha, hb, by show 0 < _; omega⟩, fun L a b => by show Bd.iteF _ _ (Bd.den L 0) = _; rw [Bd.den_zero]⟩
theorem enter_Or : ∀ args w, (callFunc 46 args).run Try.prog w = .ok (.enter 46 args) w := fun args w => by kernel_rfl
theorem enter_Ite : ∀ args w, (callFunc 51 args).run Try.prog w = .ok (.enter 51 args) w := fun args w => by kernel_rfl

set_option maxHeartbeats 1000000 in
theorem or_how {M : Nat} {w : World} {y : Lay} {s : St} (A : Bd.Fam s.bits M) (hT : Tab w y s) (hW : Bd.Within A s.L) (hlim : s.bits * M ≤ s.limit) (B g : Nat) (ns : List Nat) (hn : ns.length ≤ 1000000) (h0 : w.heap[B]? = some (.cells #[.pointer (some ⟨y.tb, 0, none⟩)] 23 (0, 0))) (hNA : NodesAt w g ns) (hg : ¬ y.own g)
    (hns : ∀ m, m ∈ ns → m < s.L.length + 2) (F : Nat → Bd.Fn) (hz : Bd.ff = F 0) (hF : ∀ k m, ns[k]? = some m → F (k + 1) = Bd.iteF (F k) Bd.tt (Bd.den s.L m) ∧ A.F 0 (F (k + 1))) :
    Calls Try.prog 46 #[.slice (some ⟨g, 0, none⟩) ns.length ns.length, .pointer (some ⟨B, 0, none⟩)] w fun e w' => ∃ r, e = .returned (i6 r) ∧ Grew noX A w y s w' r (F ns.length) := by
  have c0 : w.cell? ⟨B, 0, none⟩ = some (.pointer (some ⟨y.tb, 0, none⟩)) := by rw [cell_at h0]; rfl
  have HF := keep (fold_any A hT hW hlim 48 (fun a b => (a, 1, b)) or_joins _ means_or 0 g (by omega) ns hn hNA hg hns F (by rw [Bd.den_zero]; exact hz) hF)
  obtain ⟨n, hnn⟩ : ∃ n, n = ns.length := ⟨_, rfl⟩
  rw [← hnn] at HF ⊢
  clear hT hW hF hNA h0 hlim hns hg hn hz hnn
  go_enter Try.func46, Try.ntmps46
  go_wp2_with fail
  refine HF.out.mono ?_
  rintro e w' ⟨r, rfl, hG⟩
  have HG := keep hG
  clear hG
  go_wp2_with fail
  go_ret
  exact ⟨r, rfl, HG.out⟩
set_option maxHeartbeats 1000000 in
theorem and_hows {M : Nat} {w : World} {y : Lay} {s : St} (A : Bd.Fam s.bits M) (hT : Tab w y s) (hW : Bd.Within A s.L) (hlim : s.bits * M ≤ s.limit) (B g : Nat) (ns : List Nat) (hn : ns.length ≤ 1000000) (h0 : w.heap[B]? = some (.cells #[.pointer (some ⟨y.tb, 0, none⟩)] 23 (0, 0))) (hNA : NodesAt w g ns) (hg : ¬ y.own g)
    (hns : ∀ m, m ∈ ns → m < s.L.length + 2) (F : Nat → Bd.Fn) (hz : Bd.tt = F 0) (hF : ∀ k m, ns[k]? = some m → F (k + 1) = Bd.iteF (F k) (Bd.den s.L m) Bd.ff ∧ A.F 0 (F (k + 1))) :
    Calls Try.prog 49 #[.slice (some ⟨g, 0, none⟩) ns.length ns.length, .pointer (some ⟨B, 0, none⟩)] w fun e w' => ∃ r, e = .returned (i6 r) ∧ Grew noX A w y s w' r (F ns.length) := by
  have c0 : w.cell? ⟨B, 0, none⟩ = some (.pointer (some ⟨y.tb, 0, none⟩)) := by rw [cell_at h0]; rfl
  have HF := keep (fold_any A hT hW hlim 50 (fun a b => (a, b, 0)) and_joins _ means_and 1 g (by omega) ns hn hNA hg hns F (by rw [Bd.den_one]; exact hz) hF)
  obtain ⟨n, hnn⟩ : ∃ n, n = ns.length := ⟨_, rfl⟩
  rw [← hnn] at HF ⊢
  clear hT hW hF hNA h0 hlim hns hg hn hz hnn
  go_enter Try.func49, Try.ntmps49
  go_wp2_with fail
  refine HF.out.mono ?_
  rintro e w' ⟨r, rfl, hG⟩
  have HG := keep hG
  clear hG
  go_wp2_with fail
  go_ret
  exact ⟨r, rfl, HG.out⟩

set_option maxHeartbeats 1000000 in
theorem Or_many {M : Nat} {w : World} {y : Lay} {s : St} (A : Bd.Fam s.bits M) (hT : Tab w y s) (hW : Bd.Within A s.L) (h2 : 2 ≤ s.first) (hsm : s.roots.length + 1 ≤ 1073741824) (hlim : s.bits * M ≤ s.limit) (v : Value) (ls ns : List Nat) (hR : RefsAt w v ls) (hl : ls.length ≤ 1000000) (hN : NodesOf s ls ns)
    (hns : ∀ m, m ∈ ns → m < s.L.length + 2) (F : Nat → Bd.Fn) (hz : Bd.ff = F 0) (hF : ∀ k m, ns[k]? = some m → F (k + 1) = Bd.iteF (F k) Bd.tt (Bd.den s.L m) ∧ A.F 0 (F (k + 1))) :
    Calls Try.prog 19 #[.pointer (some ⟨y.tb, 0, none⟩), v] w fun e w' => ∃ r, e = .returned (.tuple #[i6 r, .int .i64 0]) ∧ Told A w y s w' r (F ns.length) := by
  have hmf : ∀ (fn : Fn) (first cap : Array Value) (w : World), (Instr.makeFunc fn first cap).run Try.prog w = .ok (.func fn first cap) w := fun _ _ _ _ => rfl
  have hb : Below w.heap.size w (w.alloc (.cells #[.pointer (some ⟨y.tb, 0, none⟩)] 23)) := (Below.refl _ _).alloc (Nat.le_refl _) _
  have x0 := heap_alloc_new w (.cells #[.pointer (some ⟨y.tb, 0, none⟩)] 23)
  have hT1 := hT.below hb
  have hnl := hN.1
  have h := answer_ok A hT1 h2 hsm hlim v ls ns (hR.below hb) hl hN 46 enter_Or #[.pointer (some ⟨w.heap.size, 0, none⟩)] (F ns.length) (fun w2 g hb2 hNA hg => by
    rw [← hnl]
    exact or_how A (hT1.below hb2) hW hlim w.heap.size g ns (by omega) ((hb2.block _ (block_lt x0)).trans x0) hNA (fun ho => by have := hT1.lt ho; omega) hns F hz hF)
  have HA := keep h
  have HB := keep hb
  clear h hT hT1 hW hR hN hF x0 hb hnl hns hz hl
  go_enter Try.func19, Try.ntmps19
  go_wp2_with fail
  refine HA.out.mono ?_
  rintro e w' ⟨r, rfl, ⟨N, t, y', m, q1, q2, q3, q4, q5, q6, q7⟩⟩
  have HG : Hid (Told A w y s w' r (F ns.length)) := ⟨N, t, y', m, q1, q2, q3, q4, q5, (moves_below y HB.out).trans q6, q7⟩
  clear q1 q2 q3 q4 q5 q6 q7
  go_wp2_with fail
  go_ret2
  exact ⟨r, rfl, HG.out⟩

set_option maxHeartbeats 4000000 in
theorem ite_how {M : Nat} {w : World} {y : Lay} {s : St} (A : Bd.Fam s.bits M) (hT : Tab w y s) (hW : Bd.Within A s.L) (hlim : s.bits * M ≤ s.limit) (B n0 n1 n2 g : Nat) (h0 : w.heap[B]? = some (.cells #[.pointer (some ⟨y.tb, 0, none⟩)] 23 (0, 0))) (hNA : NodesAt w g [n0, n1, n2]) (hg : ¬ y.own g) (hyB : ¬ y.own B)
    (l0 : n0 < s.L.length + 2) (l1 : n1 < s.L.length + 2) (l2 : n2 < s.L.length + 2) (hF : A.F 0 (Bd.iteF (Bd.den s.L n0) (Bd.den s.L n1) (Bd.den s.L n2))) :
    Calls Try.prog 51 #[.slice (some ⟨g, 0, none⟩) 3 3, .pointer (some ⟨B, 0, none⟩)] w fun e w' => ∃ r, e = .returned (i6 r) ∧ Grew noX A w y s w' r (Bd.iteF (Bd.den s.L n0) (Bd.den s.L n1) (Bd.den s.L n2)) := by
  obtain ⟨cs, g0, gs, gc⟩ := hNA
  have lB := block_lt h0
  have lg := block_lt g0
  have ltb := hT.lt y.own_tb
  have hsl := hT.small
  obtain ⟨f, hf⟩ : ∃ f, f = Bd.iteF (Bd.den s.L n0) (Bd.den s.L n1) (Bd.den s.L n2) := ⟨_, rfl⟩
  have five : ∀ w' : World, w'.heap[B]? = w.heap[B]? → w'.heap[g]? = w.heap[g]? → w'.cell? ⟨y.tb, 6, none⟩ = some (.int .i64 s.limit) → w'.cell? ⟨B, 0, none⟩ = some (.pointer (some ⟨y.tb, 0, none⟩)) ∧ w'.cell? ⟨y.tb, 6, none⟩ = some (.int .i64 s.limit) ∧ w'.cell? ⟨g, 0, none⟩ = some (.int .i64 n0) ∧ w'.cell? ⟨g, 1, none⟩ = some (.int .i64 n1) ∧ w'.cell? ⟨g, 2, none⟩ = some (.int .i64 n2) := by
    intro w' e1 e2 e3
    refine ⟨?_, e3, ?_, ?_, ?_⟩
    · rw [World.cell?_of_block e1, cell_at h0]; rfl
    · rw [World.cell?_of_block e2, cell_at g0]; exact gc 0 n0 rfl
    · rw [World.cell?_of_block e2, cell_at g0]; exact gc 1 n1 rfl
    · rw [World.cell?_of_block e2, cell_at g0]; exact gc 2 n2 rfl
  have c6 : w.cell? ⟨y.tb, 6, none⟩ = some (.int .i64 s.limit) := by rw [cell_at hT.cells]; rfl
  obtain ⟨k1, k2, k3, k4, k5⟩ := five w rfl rfl c6
  have HC : Hid (Calls Try.prog 52 #[.pointer (some ⟨y.tb, 3, none⟩), .int .i64 s.limit] w.drew fun e w1 => e = .returned (.pointer (some ⟨w.heap.size + 1, 0, none⟩)) ∧ (w1.cell? ⟨B, 0, none⟩ = some (.pointer (some ⟨y.tb, 0, none⟩)) ∧ w1.cell? ⟨y.tb, 6, none⟩ = some (.int .i64 s.limit) ∧ w1.cell? ⟨g, 0, none⟩ = some (.int .i64 n0) ∧ w1.cell? ⟨g, 1, none⟩ = some (.int .i64 n1) ∧ w1.cell? ⟨g, 2, none⟩ = some (.int .i64 n2)) ∧
      Hid (Calls Try.prog 53 #[.pointer (some ⟨w.heap.size + 1, 0, none⟩), .agg #[.int .i64 n0, .int .i64 n1, .int .i64 n2]] w1 fun e w2 => ∃ r, e = .returned (i6 r) ∧ (w2.cell? ⟨B, 0, none⟩ = some (.pointer (some ⟨y.tb, 0, none⟩)) ∧ w2.cell? ⟨y.tb, 6, none⟩ = some (.int .i64 s.limit) ∧ w2.cell? ⟨g, 0, none⟩ = some (.int .i64 n0) ∧ w2.cell? ⟨g, 1, none⟩ = some (.int .i64 n1) ∧ w2.cell? ⟨g, 2, none⟩ = some (.int .i64 n2)) ∧ Hid (Grew noX A w y s w2 r f))) := by
    refine (step_any w.drew y.tb s.limit).mono ?_
    rintro e w1 ⟨rfl, rfl⟩
    obtain ⟨s1, s2, s3⟩ := step_new w.drew y.tb s.limit
    have s3' : Below w.heap.size w _ := (Below.refl w.heap.size w).drew.trans s3
    have hT1 := hT.below s3'
    refine ⟨rfl, five _ (s3'.block _ lB) (s3'.block _ lg) (by rw [cell_at hT1.cells]; rfl), ?_⟩
    have hns : ¬ y.own (w.heap.size + 1) := fun ho => by have := hT.lt ho; omega
    have hnk : ¬ y.own w.heap.size := fun ho => by have := hT.lt ho; omega
    refine (ite_all 128 s A _ y (w.heap.size + 1) s.limit w.heap.size 0 (fun _ => none) n0 n1 n2 0 hT1 hW s1 hns hnk hlim (by omega) (by omega) s2 (known_none _) l0 l1 l2 (Nat.zero_le _) (Nat.zero_le _) (Nat.zero_le _) hF (by omega)).mono ?_
    rintro e w2 ⟨r, rfl, ⟨N, y3, t3, wi3, hr, d3, m3, _⟩⟩
    have z := s3'.size
    have bB := m3.block B (by omega) hyB (fun e => by omega)
    have bg := m3.block g (by omega) hg (fun e => by omega)
    refine ⟨r, rfl, five w2 (bB.trans (s3'.block _ lB)) (bg.trans (s3'.block _ lg)) (by rw [← m3.tb, cell_at t3.cells]; rfl), N, y3, t3, wi3, hr, by rw [hf]; exact d3, ?_⟩
    have mA := (moves_below (X := fun k => k = w.heap.size) y s3').trans m3
    exact ⟨mA.tb, mA.own, mA.os, mA.tape, mA.output, mA.size, fun k hk hn _ => mA.block k hk hn (fun e => by omega)⟩
  rw [← hf]
  clear hT hW hlim h0 hF g0 gs gc five hsl hf hg hyB c6 l0 l1 l2
  go_enter Try.func51, Try.ntmps51
  go_wp2_with fail
  go_region_held3 (fun w' => w'.cell? ⟨B, 0, none⟩ = some (.pointer (some ⟨y.tb, 0, none⟩)) ∧ w'.cell? ⟨y.tb, 6, none⟩ = some (.int .i64 s.limit) ∧ w'.cell? ⟨g, 0, none⟩ = some (.int .i64 n0) ∧ w'.cell? ⟨g, 1, none⟩ = some (.int .i64 n1) ∧ w'.cell? ⟨g, 2, none⟩ = some (.int .i64 n2)) (first | (go_keep; done) | exact S2 | exact S1) (first | (go_at_call 53; refine HC2.out.mono ?_; rintro e w2 ⟨r, rfl, S2, HG⟩) | (go_at_call 52; refine HC.out.mono ?_; rintro e w1 ⟨rfl, S1, HC2⟩))
  go_wp2_with fail
  go_ret
  exact ⟨r, rfl, HG.out⟩

set_option maxHeartbeats 1000000 in
theorem Ite_ok {M : Nat} {w : World} {y : Lay} {s : St} (A : Bd.Fam s.bits M) (hT : Tab w y s) (hW : Bd.Within A s.L) (h2 : 2 ≤ s.first) (hsm : s.roots.length + 1 ≤ 1073741824) (hlim : s.bits * M ≤ s.limit) (r0 r1 r2 n0 n1 n2 : Nat) (hn0 : s.node? r0 = some n0) (hn1 : s.node? r1 = some n1) (hn2 : s.node? r2 = some n2)
    (l0 : n0 < s.L.length + 2) (l1 : n1 < s.L.length + 2) (l2 : n2 < s.L.length + 2) (hF : A.F 0 (Bd.iteF (Bd.den s.L n0) (Bd.den s.L n1) (Bd.den s.L n2))) :
    Calls Try.prog 23 #[.pointer (some ⟨y.tb, 0, none⟩), i6 r0, i6 r1, i6 r2] w fun e w' => ∃ r, e = .returned (.tuple #[i6 r, .int .i64 0]) ∧ Told A w y s w' r (Bd.iteF (Bd.den s.L n0) (Bd.den s.L n1) (Bd.den s.L n2)) := by
  have hmf : ∀ (fn : Fn) (first cap : Array Value) (w : World), (Instr.makeFunc fn first cap).run Try.prog w = .ok (.func fn first cap) w := fun _ _ _ _ => rfl
  obtain ⟨x0, x1, hb, xs⟩ := box2 w (.cells #[.pointer (some ⟨y.tb, 0, none⟩)] 23) (.cells #[i6 r0, i6 r1, i6 r2] 25)
  have hT1 := hT.below hb
  have hR : RefsAt ((w.alloc (.cells #[.pointer (some ⟨y.tb, 0, none⟩)] 23)).alloc (.cells #[i6 r0, i6 r1, i6 r2] 25)) (.slice (some ⟨w.heap.size + 1, 0, none⟩) 3 3) [r0, r1, r2] := by
    refine ⟨_, 3, rfl, fun i q hi => ?_⟩
    match i, hi with
    | 0, hi => simp at hi; subst hi; exact ⟨_, 0, rfl, by omega, by rw [cell_at x1]; rfl⟩
    | 1, hi => simp at hi; subst hi; exact ⟨_, 0, rfl, by omega, by rw [cell_at x1]; rfl⟩
    | 2, hi => simp at hi; subst hi; exact ⟨_, 0, rfl, by omega, by rw [cell_at x1]; rfl⟩
    | (i + 3), hi => simp at hi
  have hN : NodesOf s [r0, r1, r2] [n0, n1, n2] := by
    refine ⟨rfl, fun i r hi => ?_⟩
    match i, hi with
    | 0, hi => simp at hi; subst hi; exact ⟨n0, rfl, hn0⟩
    | 1, hi => simp at hi; subst hi; exact ⟨n1, rfl, hn1⟩
    | 2, hi => simp at hi; subst hi; exact ⟨n2, rfl, hn2⟩
    | (i + 3), hi => simp at hi
  have h := answer_ok A hT1 h2 hsm hlim _ [r0, r1, r2] [n0, n1, n2] hR (by simp) hN 51 enter_Ite #[.pointer (some ⟨w.heap.size, 0, none⟩)] (Bd.iteF (Bd.den s.L n0) (Bd.den s.L n1) (Bd.den s.L n2)) (fun w2 g hb2 hNA hg => ite_how A (hT1.below hb2) hW hlim w.heap.size n0 n1 n2 g ((hb2.block _ (block_lt x0)).trans x0) hNA (fun ho => by have := hT.lt ho; omega) (fun ho => by have := hT.lt ho; omega) l0 l1 l2 hF)
  obtain ⟨f, hf⟩ : ∃ f, f = Bd.iteF (Bd.den s.L n0) (Bd.den s.L n1) (Bd.den s.L n2) := ⟨_, rfl⟩
  rw [← hf] at h ⊢
  have HA := keep h
  have HB := keep hb
  clear h hT hT1 hW hR hN hF x0 x1 xs hb hf hn0 hn1 hn2
  go_enter Try.func23, Try.ntmps23
  go_wp2_with fail
  refine HA.out.mono ?_
  rintro e w' ⟨r, rfl, ⟨N, t, y', m, q1, q2, q3, q4, q5, q6, q7⟩⟩
  have HG : Hid (Told A w y s w' r f) := ⟨N, t, y', m, q1, q2, q3, q4, q5, (moves_below y HB.out).trans q6, q7⟩
  clear q1 q2 q3 q4 q5 q6 q7
  go_wp2_with fail
  go_ret2
  exact ⟨r, rfl, HG.out⟩
end Go.Proofs.Ytffngpdngjfcfaa
namespace Go.Proofs.Ytffngpdngjfcfaa
open Go.RowKit Go.Maps
open Bd (Nd)

set_option maxHeartbeats 1000000 in
theorem And_many {M : Nat} {w : World} {y : Lay} {s : St} (A : Bd.Fam s.bits M) (hT : Tab w y s) (hW : Bd.Within A s.L) (h2 : 2 ≤ s.first) (hsm : s.roots.length + 1 ≤ 1073741824) (hlim : s.bits * M ≤ s.limit) (v : Value) (ls ns : List Nat) (hR : RefsAt w v ls) (hl : ls.length ≤ 1000000) (hN : NodesOf s ls ns)
    (hns : ∀ m, m ∈ ns → m < s.L.length + 2) (F : Nat → Bd.Fn) (hz : Bd.tt = F 0) (hF : ∀ k m, ns[k]? = some m → F (k + 1) = Bd.iteF (F k) (Bd.den s.L m) Bd.ff ∧ A.F 0 (F (k + 1))) :
    Calls Try.prog 21 #[.pointer (some ⟨y.tb, 0, none⟩), v] w fun e w' => ∃ r, e = .returned (.tuple #[i6 r, .int .i64 0]) ∧ Told A w y s w' r (F ns.length) := by
  have hmf : ∀ (fn : Fn) (first cap : Array Value) (w : World), (Instr.makeFunc fn first cap).run Try.prog w = .ok (.func fn first cap) w := fun _ _ _ _ => rfl
  have hb : Below w.heap.size w (w.alloc (.cells #[.pointer (some ⟨y.tb, 0, none⟩)] 23)) := (Below.refl _ _).alloc (Nat.le_refl _) _
  have x0 := heap_alloc_new w (.cells #[.pointer (some ⟨y.tb, 0, none⟩)] 23)
  have hT1 := hT.below hb
  have hnl := hN.1
  have h := answer_ok A hT1 h2 hsm hlim v ls ns (hR.below hb) hl hN 49 enter_And #[.pointer (some ⟨w.heap.size, 0, none⟩)] (F ns.length) (fun w2 g hb2 hNA hg => by
    rw [← hnl]
    exact and_hows A (hT1.below hb2) hW hlim w.heap.size g ns (by omega) ((hb2.block _ (block_lt x0)).trans x0) hNA (fun ho => by have := hT1.lt ho; omega) hns F hz hF)
  have HA := keep h
  have HB := keep hb
  clear h hT hT1 hW hR hN hF x0 hb hnl hns hz hl
  go_enter Try.func21, Try.ntmps21
  go_wp2_with fail
  refine HA.out.mono ?_
  rintro e w' ⟨r, rfl, ⟨N, t, y', m, q1, q2, q3, q4, q5, q6, q7⟩⟩
  have HG : Hid (Told A w y s w' r (F ns.length)) := ⟨N, t, y', m, q1, q2, q3, q4, q5, (moves_below y HB.out).trans q6, q7⟩
  clear q1 q2 q3 q4 q5 q6 q7
  go_wp2_with fail
  go_ret2
  exact ⟨r, rfl, HG.out⟩

theorem node_no (s : St) : s.node? 0 = some 0 := rfl
theorem node_yes (s : St) : s.node? 1 = some 1 := rfl

set_option maxHeartbeats 400000 in
theorem Not_ok {M : Nat} {w : World} {y : Lay} {s : St} (A : Bd.Fam s.bits M) (hT : Tab w y s) (hW : Bd.Within A s.L) (h2 : 2 ≤ s.first) (hsm : s.roots.length + 1 ≤ 1073741824) (hlim : s.bits * M ≤ s.limit) (r0 n0 : Nat) (hn0 : s.node? r0 = some n0) (l0 : n0 < s.L.length + 2) (hF : A.F 0 (Bd.iteF (Bd.den s.L n0) Bd.ff Bd.tt)) :
    Calls Try.prog 20 #[.pointer (some ⟨y.tb, 0, none⟩), i6 r0] w fun e w' => ∃ r, e = .returned (.tuple #[i6 r, .int .i64 0]) ∧ Told A w y s w' r (Bd.iteF (Bd.den s.L n0) Bd.ff Bd.tt) := by
  have h := Ite_ok A hT hW h2 hsm hlim r0 0 1 n0 0 1 hn0 (node_no s) (node_yes s) l0 (by omega) (by omega) (by rw [Bd.den_zero, Bd.den_one]; exact hF)
  rw [Bd.den_zero, Bd.den_one] at h
  obtain ⟨f, hf⟩ : ∃ f, f = Bd.iteF (Bd.den s.L n0) Bd.ff Bd.tt := ⟨_, rfl⟩
  rw [← hf] at h ⊢
  have H := keep h
  clear h hT hW hF hn0 hf
  go_enter Try.func20, Try.ntmps20
  go_wp2_with fail
  refine H.out.mono ?_
  rintro e w' ⟨r, rfl, ht⟩
  have HT := keep ht
  clear ht
  go_wp2
  go_ret2
  exact ⟨r, rfl, HT.out⟩
set_option maxHeartbeats 400000 in
theorem Diff_ok {M : Nat} {w : World} {y : Lay} {s : St} (A : Bd.Fam s.bits M) (hT : Tab w y s) (hW : Bd.Within A s.L) (h2 : 2 ≤ s.first) (hsm : s.roots.length + 1 ≤ 1073741824) (hlim : s.bits * M ≤ s.limit) (r0 n0 r1 n1 : Nat) (hn0 : s.node? r0 = some n0) (hn1 : s.node? r1 = some n1) (l0 : n0 < s.L.length + 2) (l1 : n1 < s.L.length + 2) (hF : A.F 0 (Bd.iteF (Bd.den s.L n1) Bd.ff (Bd.den s.L n0))) :
    Calls Try.prog 22 #[.pointer (some ⟨y.tb, 0, none⟩), i6 r0, i6 r1] w fun e w' => ∃ r, e = .returned (.tuple #[i6 r, .int .i64 0]) ∧ Told A w y s w' r (Bd.iteF (Bd.den s.L n1) Bd.ff (Bd.den s.L n0)) := by
  have h := Ite_ok A hT hW h2 hsm hlim r1 0 r0 n1 0 n0 hn1 (node_no s) hn0 l1 (by omega) l0 (by rw [Bd.den_zero]; exact hF)
  rw [Bd.den_zero] at h
  obtain ⟨f, hf⟩ : ∃ f, f = Bd.iteF (Bd.den s.L n1) Bd.ff (Bd.den s.L n0) := ⟨_, rfl⟩
  rw [← hf] at h ⊢
  have H := keep h
  clear h hT hW hF hn0 hn1 hf
  go_enter Try.func22, Try.ntmps22
  go_wp2_with fail
  refine H.out.mono ?_
  rintro e w' ⟨r, rfl, ht⟩
  have HT := keep ht
  clear ht
  go_wp2
  go_ret2
  exact ⟨r, rfl, HT.out⟩

/-- Two refs of one node are one. -/
theorem node_inj {w : World} {y : Lay} {s : St} (hT : Tab w y s) {r r' m : Nat} (h : s.node? r = some m) (h' : s.node? r' = some m) : r = r' := by
  have root : ∀ q, ¬ q < 2 → s.node? q = some m → s.first ≤ q ∧ s.roots[q - s.first]? = some m := by
    intro q hq hn
    unfold St.node? at hn
    rw [if_neg hq] at hn
    by_cases h2 : s.first ≤ q
    · rw [if_pos h2] at hn; exact ⟨h2, hn⟩
    · rw [if_neg h2] at hn; cases hn
  have small : ∀ q, q < 2 → s.node? q = some m → q = m := by
    intro q hq hn
    unfold St.node? at hn
    rw [if_pos hq] at hn
    exact Option.some.inj hn
  have big : ∀ q, s.roots[q]? = some m → 2 ≤ m := fun q hq => (hT.valid.2 m (List.mem_of_getElem? hq)).1
  by_cases h1 : r < 2
  · have e1 := small r h1 h
    by_cases h3 : r' < 2
    · exact e1.trans (small r' h3 h').symm
    · have := big _ (root r' h3 h').2
      omega
  · obtain ⟨a1, a2⟩ := root r h1 h
    by_cases h3 : r' < 2
    · have := small r' h3 h'
      have := big _ a2
      omega
    · obtain ⟨b1, b2⟩ := root r' h3 h'
      have i1 := Bd.getElem?_lt a2
      have i2 := Bd.getElem?_lt b2
      rw [List.getElem?_eq_getElem i1] at a2
      rw [List.getElem?_eq_getElem i2] at b2
      have e : s.roots[r - s.first] = s.roots[r' - s.first] := by rw [Option.some.inj a2, Option.some.inj b2]
      have := (List.getElem_inj (h₀ := i1) (h₁ := i2) hT.valid.1).1 e
      omega
end Go.Proofs.Ytffngpdngjfcfaa
namespace Go.Proofs.Ytffngpdngjfcfaa
open Go.RowKit Go.Maps

/-- No table, or one that New did not make. -/
def Nobody (w : World) (p : Value) : Prop := p = .pointer none ∨ ∃ g, p = .pointer (some ⟨g, 0, none⟩) ∧ w.cell? ⟨g, 7, none⟩ = some (.pointer none)
theorem Nobody.below {w w' : World} {p : Value} (h : Nobody w p) (hb : Below w.heap.size w w') : Nobody w' p := by
  rcases h with h | ⟨g, h, hc⟩
  · exact Or.inl h
  · exact Or.inr ⟨g, h, by rw [hb.cell (World.block_lt_of_cell? w _ hc)]; exact hc⟩
theorem eql_none (w : World) (a : Addr) : (binOp .eql 23 (.pointer none) (.pointer (some a))).run Try.prog w = .ok (.bool false) w := by
  have h : ∀ d : Nat, (Op.equalIn (d + 1) 23 (.pointer none) (.pointer (some a))).run Try.prog w = .ok false w := fun d => by
    simp [Op.equalIn, run_underlying Try.underlying23, sizeOf, typeInfo]
  simp only [binOp]
  simp [Op.equal, Op.maxDepth, h 9999]
theorem made_no {w : World} {p : Value} (h : Nobody w p) : Calls Try.prog 57 #[p] w fun e w' => e = .returned (.bool false) ∧ w' = w := by
  rcases h with rfl | ⟨g, rfl, c7⟩
  · go_enter Try.func57, Try.ntmps57
    go_wp2
    go_ret
    exact ⟨rfl, rfl⟩
  · have hq := eql_none w
    go_enter Try.func57, Try.ntmps57
    go_wp2
    go_ret
    exact ⟨rfl, rfl⟩

theorem Nobody.pointer {w : World} {p : Value} (h : Nobody w p) : ∃ a, p = .pointer a := by
  rcases h with h | ⟨g, h, _⟩
  · exact ⟨_, h⟩
  · exact ⟨_, h⟩

set_option maxHeartbeats 400000 in
theorem Bits_no {w : World} {p : Value} (h : Nobody w p) : Calls Try.prog 35 #[p] w fun e w' => e = .returned (.int .i64 0) ∧ w' = w := by
  have q := made_no h
  obtain ⟨a, rfl⟩ := h.pointer
  clear h
  go_enter Try.func35, Try.ntmps35
  go_wp2_with fail
  refine q.mono ?_
  rintro e w' ⟨rfl, rfl⟩
  go_wp2
  go_ret
  exact ⟨rfl, rfl⟩
set_option maxHeartbeats 400000 in
theorem Size_no {w : World} {p : Value} (h : Nobody w p) : Calls Try.prog 30 #[p] w fun e w' => e = .returned (.int .i64 0) ∧ w' = w := by
  have q := made_no h
  obtain ⟨a, rfl⟩ := h.pointer
  clear h
  go_enter Try.func30, Try.ntmps30
  go_wp2_with fail
  refine q.mono ?_
  rintro e w' ⟨rfl, rfl⟩
  go_wp2
  go_ret
  exact ⟨rfl, rfl⟩

set_option maxHeartbeats 400000 in
theorem Cube_no {w : World} {p : Value} (h : Nobody w p) (t : ByteArray) : Calls Try.prog 25 #[p, .string t] w fun e w' => ∃ r, e = .returned (.tuple #[r, .int .i64 4]) ∧ Below w.heap.size w w' := by
  have hb : Below w.heap.size w ((w.alloc (.cells #[p] 23)).alloc (.cells #[.string t] 9)) := ((Below.refl _ _).alloc (Nat.le_refl _) _).alloc (by simp) _
  have q := made_no (h.below hb)
  have HB := keep hb
  obtain ⟨a, rfl⟩ := h.pointer
  clear h hb
  go_enter Try.func25, Try.ntmps25
  go_wp2_with fail
  refine q.mono ?_
  rintro e w' ⟨rfl, rfl⟩
  go_wp2
  go_ret2
  exact ⟨_, rfl, HB.out⟩
set_option maxHeartbeats 400000 in
theorem Make_no {w : World} {p : Value} (h : Nobody w p) (ao : Option Addr) (len cap : Nat) : Calls Try.prog 28 #[p, .slice ao len cap] w fun e w' => ∃ r n, e = .returned (.tuple #[r, n, .int .i64 4]) ∧ Below w.heap.size w w' := by
  have hb : Below w.heap.size w ((w.alloc (.cells #[p] 23)).alloc (.cells #[.slice ao len cap] 46)) := ((Below.refl _ _).alloc (Nat.le_refl _) _).alloc (by simp) _
  have q := made_no (h.below hb)
  have HB := keep hb
  obtain ⟨a, rfl⟩ := h.pointer
  clear h hb
  go_enter Try.func28, Try.ntmps28
  go_wp2_with fail
  refine q.mono ?_
  rintro e w' ⟨rfl, rfl⟩
  go_wp2
  go_ret3
  exact ⟨_, _, rfl, HB.out⟩
set_option maxHeartbeats 400000 in
theorem root_no {w : World} {p : Value} (h : Nobody w p) (v : Value) : Calls Try.prog 41 #[p, v] w fun e w' => e = .returned (.tuple #[.int .i64 0, .int .i64 4]) ∧ w' = w := by
  have q := made_no h
  obtain ⟨a, rfl⟩ := h.pointer
  clear h
  go_enter Try.func41, Try.ntmps41
  go_wp2_with fail
  refine q.mono ?_
  rintro e w' ⟨rfl, rfl⟩
  go_wp2
  go_ret2
  exact ⟨rfl, rfl⟩

/-- What follows a root that none has. -/
def RootErr (w : World) (p v : Value) (err : Int) : Prop := Calls Try.prog 41 #[p, v] w fun e w' => e = .returned (.tuple #[.int .i64 0, .int .i64 err]) ∧ Below w.heap.size w w'
theorem root_err_no {w : World} {p : Value} (h : Nobody w p) (v : Value) : RootErr w p v 4 := (root_no h v).mono fun e w' ⟨h1, h2⟩ => ⟨h1, by rw [h2]; exact Below.refl _ _⟩

set_option maxHeartbeats 400000 in
theorem Has_err {w : World} {p : Value} {err : Int} (he : err = 4 ∨ err = 22) (r : Int) (h : RootErr w p (.int .i64 r) err) (t : ByteArray) : Calls Try.prog 14 #[p, .int .i64 r, .string t] w fun e w' => ∃ r, e = .returned (.tuple #[r, .int .i64 err]) ∧ Below w.heap.size w w' := by
  have hn : (err != 0) = true := by rcases he with rfl | rfl <;> rfl
  have H := keep h
  clear h
  go_enter Try.func14, Try.ntmps14
  go_wp2_with fail
  refine H.out.mono ?_
  rintro e w' ⟨rfl, hb⟩
  go_wp2
  go_ret2
  exact ⟨_, rfl, hb⟩
set_option maxHeartbeats 400000 in
theorem Any_err {w : World} {p : Value} {err : Int} (he : err = 4 ∨ err = 22) (r : Int) (h : RootErr w p (.int .i64 r) err) : Calls Try.prog 26 #[p, .int .i64 r] w fun e w' => ∃ r s, e = .returned (.tuple #[r, s, .int .i64 err]) ∧ Below w.heap.size w w' := by
  have hn : (err != 0) = true := by rcases he with rfl | rfl <;> rfl
  have H := keep h
  clear h
  go_enter Try.func26, Try.ntmps26
  go_wp2_with fail
  refine H.out.mono ?_
  rintro e w' ⟨rfl, hb⟩
  go_wp2
  go_ret3
  exact ⟨_, _, rfl, hb⟩
set_option maxHeartbeats 400000 in
theorem Cubes_err {w : World} {p : Value} {err : Int} (he : err = 4 ∨ err = 22) (r m : Int) (h : RootErr w p (.int .i64 r) err) : Calls Try.prog 24 #[p, .int .i64 r, .int .i64 m] w fun e w' => ∃ r, e = .returned (.tuple #[r, .int .i64 err]) ∧ Below w.heap.size w w' := by
  have hn : (err != 0) = true := by rcases he with rfl | rfl <;> rfl
  have H := keep h
  clear h
  go_enter Try.func24, Try.ntmps24
  go_wp2_with fail
  refine H.out.mono ?_
  rintro e w' ⟨rfl, hb⟩
  go_wp2
  go_ret2
  exact ⟨_, rfl, hb⟩
set_option maxHeartbeats 400000 in
theorem List_err {w : World} {p : Value} {err : Int} (he : err = 4 ∨ err = 22) (r : Int) (h : RootErr w p (.int .i64 r) err) : Calls Try.prog 27 #[p, .int .i64 r] w fun e w' => ∃ r, e = .returned (.tuple #[r, .int .i64 err]) ∧ Below w.heap.size w w' := by
  have hn : (err != 0) = true := by rcases he with rfl | rfl <;> rfl
  have H := keep h
  clear h
  go_enter Try.func27, Try.ntmps27
  go_wp2_with fail
  refine H.out.mono ?_
  rintro e w' ⟨rfl, hb⟩
  go_wp2
  go_ret2
  exact ⟨_, rfl, hb⟩
end Go.Proofs.Ytffngpdngjfcfaa
namespace Go.Proofs.Ytffngpdngjfcfaa
open Go.RowKit Go.Maps

/-- answer fails. -/
def AnsErr (w : World) (p v : Value) (err : Int) : Prop := ∀ f, Calls Try.prog 45 #[p, v, f] w fun e w' => e = .returned (.tuple #[.int .i64 0, .int .i64 err]) ∧ Below w.heap.size w w'

set_option maxHeartbeats 1000000 in
theorem answer_no {w : World} {p : Value} (h : Nobody w p) (v : Value) : AnsErr w p v 4 := by
  intro f
  have hb : Below w.heap.size w (((w.alloc (.cells #[p] 23)).alloc (.cells #[.int .i64 0] 25)).alloc (.cells #[.int .i64 0] 30)) := (((Below.refl _ _).alloc (Nat.le_refl _) _).alloc (by simp) _).alloc (by simp <;> omega) _
  have q := made_no (h.below hb)
  obtain ⟨a, rfl⟩ := h.pointer
  clear h hb
  go_enter_defers Try.func45, Try.ntmps45
  go_wp2_with (refine q.mono ?_; rintro e w' ⟨rfl, rfl⟩)
  refine ⟨.tuple #[.int .i64 0, .int .i64 4], ?_, rfl, (((Below.refl _ _).alloc (Nat.le_refl _) _).alloc (by simp) _).alloc (by simp <;> omega) _⟩
  simp [results, Try.results45, go_sem]

set_option maxHeartbeats 1000000 in
theorem And_err {w : World} {a : Option Addr} {err : Int} (v : Value) (h : ∀ w1, Below w.heap.size w w1 → AnsErr w1 (.pointer a) v err) : Calls Try.prog 21 #[.pointer a, v] w fun e w' => ∃ r, e = .returned (.tuple #[r, .int .i64 err]) ∧ Below w.heap.size w w' := by
  have hmf : ∀ (fn : Fn) (first cap : Array Value) (w : World), (Instr.makeFunc fn first cap).run Try.prog w = .ok (.func fn first cap) w := fun _ _ _ _ => rfl
  have hb : Below w.heap.size w (w.alloc (.cells #[.pointer a] 23)) := (Below.refl _ _).alloc (Nat.le_refl _) _
  have H := keep (h _ hb)
  have HB := keep hb
  clear h hb
  go_enter Try.func21, Try.ntmps21
  go_wp2_with fail
  refine (H.out _).mono ?_
  rintro e w' ⟨rfl, hb⟩
  have HB2 := keep (HB.out.trans (hb.mono HB.out.size))
  clear hb
  go_wp2
  go_ret2
  exact ⟨_, rfl, HB2.out⟩
set_option maxHeartbeats 1000000 in
theorem Or_err {w : World} {a : Option Addr} {err : Int} (v : Value) (h : ∀ w1, Below w.heap.size w w1 → AnsErr w1 (.pointer a) v err) : Calls Try.prog 19 #[.pointer a, v] w fun e w' => ∃ r, e = .returned (.tuple #[r, .int .i64 err]) ∧ Below w.heap.size w w' := by
  have hmf : ∀ (fn : Fn) (first cap : Array Value) (w : World), (Instr.makeFunc fn first cap).run Try.prog w = .ok (.func fn first cap) w := fun _ _ _ _ => rfl
  have hb : Below w.heap.size w (w.alloc (.cells #[.pointer a] 23)) := (Below.refl _ _).alloc (Nat.le_refl _) _
  have H := keep (h _ hb)
  have HB := keep hb
  clear h hb
  go_enter Try.func19, Try.ntmps19
  go_wp2_with fail
  refine (H.out _).mono ?_
  rintro e w' ⟨rfl, hb⟩
  have HB2 := keep (HB.out.trans (hb.mono HB.out.size))
  clear hb
  go_wp2
  go_ret2
  exact ⟨_, rfl, HB2.out⟩

/-- Of these three refs there is no answer. -/
def IteErr (w : World) (a : Option Addr) (x y z : Int) (err : Int) : Prop := ∀ w1, Below w.heap.size w w1 → AnsErr (w1.alloc (.cells #[.int .i64 x, .int .i64 y, .int .i64 z] 25)) (.pointer a) (.slice (some ⟨w1.heap.size, 0, none⟩) 3 3) err

set_option maxHeartbeats 1000000 in
theorem Ite_err {w : World} {a : Option Addr} {err : Int} {x y z : Int} (h : IteErr w a x y z err) :
    Calls Try.prog 23 #[.pointer a, .int .i64 x, .int .i64 y, .int .i64 z] w fun e w' => e = .returned (.tuple #[.int .i64 0, .int .i64 err]) ∧ Below w.heap.size w w' := by
  have hmf : ∀ (fn : Fn) (first cap : Array Value) (w : World), (Instr.makeFunc fn first cap).run Try.prog w = .ok (.func fn first cap) w := fun _ _ _ _ => rfl
  have hb : Below w.heap.size w (w.alloc (.cells #[.pointer a] 23)) := (Below.refl _ _).alloc (Nat.le_refl _) _
  have hb2 : Below w.heap.size w ((w.alloc (.cells #[.pointer a] 23)).alloc (.cells #[.int .i64 x, .int .i64 y, .int .i64 z] 25)) := hb.alloc hb.size _
  have hs : (w.alloc (.cells #[.pointer a] 23)).heap.size = w.heap.size + 1 := by simp
  have h1 := h _ hb
  rw [hs] at h1
  have H := keep h1
  have HB := keep hb2
  clear h h1 hb hb2 hs
  go_enter Try.func23, Try.ntmps23
  go_wp2_with fail
  refine (H.out _).mono ?_
  rintro e w' ⟨rfl, hb⟩
  have HB2 := keep (HB.out.trans (hb.mono HB.out.size))
  clear hb
  go_wp2
  go_ret2
  exact ⟨rfl, HB2.out⟩
set_option maxHeartbeats 400000 in
theorem Not_err {w : World} {a : Option Addr} {err : Int} {x : Int} (h : IteErr w a x 0 1 err) :
    Calls Try.prog 20 #[.pointer a, .int .i64 x] w fun e w' => ∃ r, e = .returned (.tuple #[r, .int .i64 err]) ∧ Below w.heap.size w w' := by
  have H := keep (Ite_err h)
  clear h
  go_enter Try.func20, Try.ntmps20
  go_wp2_with fail
  refine H.out.mono ?_
  rintro e w' ⟨rfl, hb⟩
  go_wp2
  go_ret2
  exact ⟨_, rfl, hb⟩
set_option maxHeartbeats 400000 in
theorem Diff_err {w : World} {a : Option Addr} {err : Int} {x y : Int} (h : IteErr w a y 0 x err) :
    Calls Try.prog 22 #[.pointer a, .int .i64 x, .int .i64 y] w fun e w' => ∃ r, e = .returned (.tuple #[r, .int .i64 err]) ∧ Below w.heap.size w w' := by
  have H := keep (Ite_err h)
  clear h
  go_enter Try.func22, Try.ntmps22
  go_wp2_with fail
  refine H.out.mono ?_
  rintro e w' ⟨rfl, hb⟩
  go_wp2
  go_ret2
  exact ⟨_, rfl, hb⟩
theorem ite_err_no {w : World} {a : Option Addr} (h : Nobody w (.pointer a)) (x y z : Int) : IteErr w a x y z 4 := fun _ hb => answer_no ((h.below hb).below ((Below.refl _ _).alloc (Nat.le_refl _) _)) _
end Go.Proofs.Ytffngpdngjfcfaa
namespace Go.Proofs.Ytffngpdngjfcfaa
open Go.RowKit Go.Maps

/-- No ref that the table told. -/
structure Bad (s : St) (bad : Int) : Prop where
  not0 : bad ≠ 0
  not1 : bad ≠ 1
  out : bad < (s.first : Int) ∨ (s.first : Int) + (s.roots.length : Int) ≤ bad
  hi : bad ≤ 9223372036854775807

/-- Numbers one behind the other, as a call is handed them. -/
def IntsAt (w : World) (v : Value) (xs : List Int) : Prop := ∃ b cap, v = .slice (some ⟨b, 0, none⟩) xs.length cap ∧ b < w.heap.size ∧ ∀ (i : Nat) (x : Int), xs[i]? = some x → w.cell? ⟨b, i, none⟩ = some (.int .i64 x)
theorem IntsAt.below {w w' : World} {v : Value} {xs : List Int} (h : IntsAt w v xs) (hb : Below w.heap.size w w') : IntsAt w' v xs := by
  obtain ⟨b, cap, hv, hl, hc⟩ := h
  exact ⟨b, cap, hv, Nat.lt_of_lt_of_le hl hb.size, fun i x hi => by rw [hb.cell hl]; exact hc i x hi⟩

/-- A list whose first number that is neither 0 nor 1 is bad. -/
def FirstBad (xs : List Int) (p : Nat) (bad : Int) : Prop := xs.length ≤ 3 ∧ xs[p]? = some bad ∧ ∀ (i : Nat) (x : Int), i < p → xs[i]? = some x → x = 0 ∨ x = 1

set_option maxHeartbeats 4000000 in
theorem find_bad {w : World} {y : Lay} {s : St} (hT : Tab w y s) (v : Value) (xs : List Int) (p : Nat) (bad : Int) (hI : IntsAt w v xs) (hF : FirstBad xs p bad) (hB : Bad s bad) :
    Calls Try.prog 77 #[.pointer (some ⟨y.tb, 0, none⟩), v] w fun e w' => e = .returned (.tuple #[.slice none 0 0, .bool false]) ∧ Below w.heap.size w w' := by
  obtain ⟨b, cap, rfl, hbl, hc⟩ := hI
  obtain ⟨hn3, hp, hpre⟩ := hF
  have HC := keep hc
  have HT := keep hT
  have HP := keep hp
  have HPRE := keep hpre
  have HBAD := keep hB
  have hsl := hT.small
  have hpn : p < xs.length := by
    rcases Nat.lt_or_ge p xs.length with h | h
    · exact h
    · rw [List.getElem?_eq_none h] at hp; cases hp
  obtain ⟨n, hnn⟩ : ∃ n, n = xs.length := ⟨_, rfl⟩
  have HNN := keep hnn
  have ltb := hT.lt y.own_tb
  rw [← hnn] at hn3 hpn ⊢
  have hfs : (s.first : Int) ≤ 1099511627776 := by omega
  have hrl : (s.roots.length : Int) ≤ 1073741824 := by omega
  clear hc hT hnn hp hpre hB hsl
  have hmk := run_zeros n (by omega)
  go_enter Try.func77, Try.ntmps77
  go_wp2
  go_loopw [14] (fun i wr => ∃ k : Nat, k ≤ p ∧ i = .int .i64 k ∧ (∃ cs, wr.heap[w.heap.size]? = some (.cells cs 3 (0, 0)) ∧ cs.size = n) ∧ Below w.heap.size w wr) (fun i _ => n - (intOf i).toNat)
  case atStart => exact ⟨0, Nat.zero_le _, rfl, ⟨zeros n, heap_alloc_new w _, zeros_size n⟩, (Below.refl _ _).alloc (Nat.le_refl _) _⟩
  case round =>
    obtain ⟨k, hk, rfl, ⟨cs, hcs, hsz⟩, hB⟩ := hrel
    have hkI : (k : Int) < (n : Int) := by omega
    have hk0 : (0 : Int) ≤ (k : Int) := by omega
    have hnI : (n : Int) ≤ 3 := by omega
    have HBW := keep hB
    by_cases hlt : k < p
    · obtain ⟨x, hx⟩ : ∃ x, xs[k]? = some x := ⟨xs[k]'(by have := HNN.out; omega), List.getElem?_eq_getElem _⟩
      have hcr : wr.cell? ⟨b, k, none⟩ = some (.int .i64 x) := by rw [hB.cell (by exact hbl)]; exact HC.out k x hx
      have e0 : wr.cell? ⟨w.heap.size, k, none⟩ = some (cs.getD k undef) := by
        rw [cell_at hcs, Array.getElem?_eq_getElem (by omega)]
        simp [Array.getD, show k < cs.size by omega]
      have ez : wr.frozen? ⟨w.heap.size, k, none⟩ = false := not_frozen hcs
      have HSTEP : Hid (∀ m : Int, (∃ cs', (wr.setCell ⟨w.heap.size, k, none⟩ (.int .i64 m)).heap[w.heap.size]? = some (.cells cs' 3 (0, 0)) ∧ cs'.size = n) ∧ Below w.heap.size w (wr.setCell ⟨w.heap.size, k, none⟩ (.int .i64 m))) := by
        intro m
        exact ⟨⟨cs.setIfInBounds k (.int .i64 m), set_block _ hcs, by simpa using hsz⟩, HBW.out.setCell (Nat.le_refl _) _⟩
      rcases HPRE.out k x hlt hx with rfl | rfl
      · clear hcs hx hB
        go_wp2
        go_roundw
        case rel =>
          obtain ⟨h1, h2⟩ := HSTEP.out 0
          exact ⟨k + 1, by omega, by go_num, h1, h2⟩
        case measure => simp [intOf]; omega
      · clear hcs hx hB
        go_wp2
        go_roundw
        case rel =>
          obtain ⟨h1, h2⟩ := HSTEP.out 1
          exact ⟨k + 1, by omega, by go_num, h1, h2⟩
        case measure => simp [intOf]; omega
    · have hkp : k = p := by omega
      subst hkp
      have hcr : wr.cell? ⟨b, k, none⟩ = some (.int .i64 bad) := by rw [hB.cell (by exact hbl)]; exact HC.out k bad HP.out
      obtain ⟨ao, rcap, hrs⟩ := HT.out.roots_slice
      have q0 : wr.cell? ⟨y.tb, 0, none⟩ = some (.int .i64 s.first) := by rw [hB.cell (by exact ltb)]; exact HT.out.cell0
      have q1 : wr.cell? ⟨y.tb, 1, none⟩ = some (.slice ao s.roots.length rcap) := by rw [hB.cell (by exact ltb), ← hrs]; exact HT.out.cell1
      have r0 : (bad == 0) = false := by rw [beq_eq_false_iff_ne]; exact HBAD.out.not0
      have r1 : (bad == 1) = false := by rw [beq_eq_false_iff_ne]; exact HBAD.out.not1
      obtain ⟨rl, hrl0⟩ : ∃ rl, rl = s.roots.length := ⟨_, rfl⟩
      have HRL := keep hrl0
      rw [← hrl0] at q1 hrl
      clear hrl0 hrs hcs hB
      rcases HBAD.out.out with ho | ho
      · have hnf : ¬ ((s.first : Int) ≤ bad) := by omega
        have hnd : decide ((s.first : Int) ≤ bad) = false := by simp; omega
        go_wp2
        go_quiet (fail)
        go_wp2
        go_ret2
        exact ⟨rfl, belowN HBW.out _⟩
      · have hf : (s.first : Int) ≤ bad := by omega
        have hw : IntKind.i64.wrap (bad - (s.first : Int)) = bad - (s.first : Int) := by have := HBAD.out.hi; rw [IntKind.wrap_i64]; omega
        have hw2 : wrap64 (bad - (s.first : Int)) = bad - (s.first : Int) := by have := HBAD.out.hi; unfold wrap64; omega
        have hn1 : ¬ (bad - (s.first : Int) < (rl : Int)) := by have := HRL.out; omega
        have hn2 : ¬ (bad < (rl : Int) + (s.first : Int)) := by omega
        clear ho
        go_wp2
        go_quiet (fail)
        go_wp2
        go_ret2
        exact ⟨rfl, belowN HBW.out _⟩

set_option maxHeartbeats 1000000 in
theorem answer_bad {w : World} {y : Lay} {s : St} (hT : Tab w y s) (v : Value) (xs : List Int) (p : Nat) (bad : Int) (hI : IntsAt w v xs) (hF : FirstBad xs p bad) (hB : Bad s bad) : AnsErr w (.pointer (some ⟨y.tb, 0, none⟩)) v 22 := by
  intro f
  have hb : Below w.heap.size w (((w.alloc (.cells #[.pointer (some ⟨y.tb, 0, none⟩)] 23)).alloc (.cells #[.int .i64 0] 25)).alloc (.cells #[.int .i64 0] 30)) := (((Below.refl _ _).alloc (Nat.le_refl _) _).alloc (by simp) _).alloc (by simp <;> omega) _
  have e1 : (w.alloc (.cells #[.pointer (some ⟨y.tb, 0, none⟩)] 23)).heap.size = w.heap.size + 1 := by simp
  have e2 : ((w.alloc (.cells #[.pointer (some ⟨y.tb, 0, none⟩)] 23)).alloc (.cells #[.int .i64 0] 25)).heap.size = w.heap.size + 1 + 1 := by simp
  have b1 : (((w.alloc (.cells #[.pointer (some ⟨y.tb, 0, none⟩)] 23)).alloc (.cells #[.int .i64 0] 25)).alloc (.cells #[.int .i64 0] 30)).heap[w.heap.size + 1]? = some (.cells #[.int .i64 0] 25 (0, 0)) := by
    rw [heap_alloc_old _ _ (by omega), ← e1]; exact heap_alloc_new _ _
  have b2 : (((w.alloc (.cells #[.pointer (some ⟨y.tb, 0, none⟩)] 23)).alloc (.cells #[.int .i64 0] 25)).alloc (.cells #[.int .i64 0] 30)).heap[w.heap.size + 1 + 1]? = some (.cells #[.int .i64 0] 30 (0, 0)) := by
    rw [← e2]; exact heap_alloc_new _ _
  have Q1 := keep (made_ok (hT.below hb))
  have e3 : (((w.alloc (.cells #[.pointer (some ⟨y.tb, 0, none⟩)] 23)).alloc (.cells #[.int .i64 0] 25)).alloc (.cells #[.int .i64 0] 30)).heap.size = w.heap.size + 1 + 1 + 1 := by simp
  have Q2 : Hid (Calls Try.prog 77 #[.pointer (some ⟨y.tb, 0, none⟩), v] (((w.alloc (.cells #[.pointer (some ⟨y.tb, 0, none⟩)] 23)).alloc (.cells #[.int .i64 0] 25)).alloc (.cells #[.int .i64 0] 30)) fun e w1 => e = .returned (.tuple #[.slice none 0 0, .bool false]) ∧
      w1.cell? ⟨w.heap.size + 1, 0, none⟩ = some (.int .i64 0) ∧ w1.frozen? ⟨w.heap.size + 1, 0, none⟩ = false ∧ w1.cell? ⟨w.heap.size + 1 + 1, 0, none⟩ = some (.int .i64 0) ∧ w1.frozen? ⟨w.heap.size + 1 + 1, 0, none⟩ = false ∧ Hid (Below w.heap.size w w1)) := by
    refine (find_bad (hT.below hb) v xs p bad (hI.below hb) hF hB).mono ?_
    rintro e w1 ⟨rfl, h1⟩
    have c1 : w1.heap[w.heap.size + 1]? = _ := (h1.block _ (by rw [e3]; omega)).trans b1
    have c2 : w1.heap[w.heap.size + 1 + 1]? = _ := (h1.block _ (by rw [e3]; omega)).trans b2
    exact ⟨rfl, by rw [cell_at c1]; rfl, not_frozen c1, by rw [cell_at c2]; rfl, not_frozen c2, hb.trans (h1.mono hb.size)⟩
  clear hT hI hF hB hb e1 e2 e3 b1 b2
  go_enter_defers Try.func45, Try.ntmps45
  go_wp2_with (first | (go_at_call 57; refine Q1.out.mono ?_; rintro e w' ⟨rfl, rfl⟩) | (go_at_call 77; refine Q2.out.mono ?_; rintro e w1 ⟨rfl, c1, f1, c2, f2, HB⟩))
  refine ⟨.tuple #[.int .i64 0, .int .i64 22], ?_, rfl, (HB.out.setCell (by show w.heap.size ≤ w.heap.size + 1; omega) _).setCell (by show w.heap.size ≤ w.heap.size + 1 + 1; omega) _⟩
  simp [results, Try.results45, go_sem, c1, c2]

theorem ints_new (w : World) (xs : List Int) : IntsAt (w.alloc (.cells (xs.map fun x => Value.int .i64 x).toArray 25)) (.slice (some ⟨w.heap.size, 0, none⟩) xs.length xs.length) xs := by
  refine ⟨w.heap.size, xs.length, rfl, by simp, fun i x hi => ?_⟩
  rw [cell_at (heap_alloc_new w _)]
  simp [hi]

set_option maxHeartbeats 1000000 in
theorem root_bad {w : World} {y : Lay} {s : St} (hT : Tab w y s) (bad : Int) (hB : Bad s bad) : RootErr w (.pointer (some ⟨y.tb, 0, none⟩)) (.int .i64 bad) 22 := by
  have q1 := made_ok hT
  have hb : Below w.heap.size w (w.alloc (.cells #[.int .i64 bad] 25)) := (Below.refl _ _).alloc (Nat.le_refl _) _
  have Q2 := keep (find_bad (hT.below hb) (.slice (some ⟨w.heap.size, 0, none⟩) 1 1) [bad] 0 bad (ints_new w [bad]) ⟨by simp, rfl, fun i x hi => by omega⟩ hB)
  have HB := keep hb
  clear hT hB hb
  unfold RootErr
  go_enter Try.func41, Try.ntmps41
  go_wp2_with (go_at_call 57; refine q1.mono ?_; rintro e w' ⟨rfl, rfl⟩)
  refine Q2.out.mono ?_
  rintro e w1 ⟨rfl, h1⟩
  have HB1 := keep (HB.out.trans (h1.mono HB.out.size))
  clear h1 q1
  go_wp2
  go_ret2
  exact ⟨rfl, HB1.out⟩

end Go.Proofs.Ytffngpdngjfcfaa
namespace Go.Proofs.Ytffngpdngjfcfaa
namespace Bd

def pr (k : Nat) : Fn := fun h => h k
def p01 : Fn := fun h => h 0 && h 1

theorem few_of {bits : Nat} {L : List Nd} (hL : Okay bits L) (D : List Fn) (h : ∀ i, i < L.length → den L (i + 2) ∈ D) : L.length ≤ D.length := by
  have hn : ((List.range L.length).map fun i => den L (i + 2)).Nodup := by
    unfold List.Nodup
    rw [List.pairwise_map]
    refine List.Pairwise.imp_of_mem ?_ (List.nodup_range (n := L.length))
    intro a b ha hb hab he
    rw [List.mem_range] at ha hb
    have := canon hL (by omega) (by omega) he
    omega
  have := List.Nodup.length_le_of_subset (l₂ := D) hn (fun f hf => by
    rw [List.mem_map] at hf
    obtain ⟨i, hi, rfl⟩ := hf
    exact h i (List.mem_range.1 hi))
  simpa using this

/-- A node's function hangs on its bit. -/
theorem hangs {bits : Nat} {L : List Nd} (hL : Okay bits L) {i : Nat} {x : Nd} (hx : L[i]? = some x) : cof (den L (i + 2)) x.1 false ≠ cof (den L (i + 2)) x.1 true := by
  have hi := getElem?_lt hx
  obtain ⟨a, b, c, d, e, f⟩ := hL.fit i x hx
  have fl := (from_den hL _ (by omega : x.2.1 < L.length + 2)).mono e
  have fh := (from_den hL _ (by omega : x.2.2 < L.length + 2)).mono f
  rw [den_at hL hx, cof_mux fl fh false, cof_mux fl fh true]
  exact fun he => c (canon hL (by omega) (by omega) he)

/-- Functions of two bits. -/
def twoFam (S0 S1 : List Fn) (h1 : ∀ f, f ∈ S1 → From 1 f) (g0 : ∀ f, f ∈ S0 → ∀ b, cof f 0 b ∈ S1) (g1 : ∀ f, f ∈ S1 → ∀ b, cof f 1 b = ff ∨ cof f 1 b = tt) (l0 : S0.length ≤ 5) (l1 : S1.length ≤ 5) : Fam 2 5 where
  F k f := (k = 0 ∧ f ∈ S0) ∨ (k = 1 ∧ f ∈ S1) ∨ (2 ≤ k ∧ (f = ff ∨ f = tt))
  dep k f h := by
    rcases h with ⟨rfl, _⟩ | ⟨rfl, h⟩ | ⟨_, rfl | rfl⟩
    · intro a b hab
      rw [show a = b from funext fun j => hab j (Nat.zero_le _)]
    · exact h1 f h
    · exact from_ff _
    · exact from_tt _
  go k f b hk h := by
    rcases h with ⟨rfl, h⟩ | ⟨rfl, h⟩ | ⟨h, _⟩
    · exact Or.inr (Or.inl ⟨rfl, g0 f h b⟩)
    · exact Or.inr (Or.inr ⟨Nat.le_refl _, g1 f h b⟩)
    · omega
  en k j := if k = 0 then S0.getD j ff else S1.getD j ff
  all k f hk h := by
    have key : ∀ S : List Fn, S.length ≤ 5 → f ∈ S → ∃ j, j < 5 ∧ f = S.getD j ff := by
      intro S hS hf
      obtain ⟨j, hj, e⟩ := List.mem_iff_getElem.1 hf
      refine ⟨j, by omega, ?_⟩
      rw [List.getD_eq_getElem?_getD, List.getElem?_eq_getElem hj, e]; rfl
    rcases h with ⟨rfl, h⟩ | ⟨rfl, h⟩ | ⟨h, _⟩
    · exact key S0 l0 h
    · exact key S1 l1 h
    · omega

theorem cof_const (f : Fn) (k : Nat) (h : f = ff ∨ f = tt) : cof f k false = cof f k true := by rcases h with rfl | rfl <;> rfl
theorem from_pr : From 1 (pr 1) := fun _ _ h => h 1 (Nat.le_refl _)

def A1 : Fam 2 5 := twoFam [pr 0] [ff, tt] (fun f h => by simp at h; rcases h with rfl | rfl; exact from_ff _; exact from_tt _)
  (fun f h b => by simp at h; subst h; cases b; exact List.mem_cons_self; exact List.mem_cons_of_mem _ List.mem_cons_self)
  (fun f h b => by simp at h; rcases h with rfl | rfl; exact Or.inl rfl; exact Or.inr rfl) (by simp) (by simp)
def A2 : Fam 2 5 := twoFam [pr 0, pr 1] [pr 1, ff, tt] (fun f h => by simp at h; rcases h with rfl | rfl | rfl; exact from_pr; exact from_ff _; exact from_tt _)
  (fun f h b => by
    simp at h
    rcases h with rfl | rfl
    · cases b
      · exact List.mem_cons_of_mem _ List.mem_cons_self
      · exact List.mem_cons_of_mem _ (List.mem_cons_of_mem _ List.mem_cons_self)
    · rw [show cof (pr 1) 0 b = pr 1 by funext h; unfold cof pr; exact setb_other _ _ _ (by omega)]; exact List.mem_cons_self)
  (fun f h b => by simp at h; rcases h with rfl | rfl | rfl; cases b; exact Or.inl rfl; exact Or.inr rfl; exact Or.inl rfl; exact Or.inr rfl) (by simp) (by simp)
def A3 : Fam 2 5 := twoFam [pr 0, p01] [pr 1, ff, tt] (fun f h => by simp at h; rcases h with rfl | rfl | rfl; exact from_pr; exact from_ff _; exact from_tt _)
  (fun f h b => by
    simp at h
    rcases h with rfl | rfl
    · cases b
      · exact List.mem_cons_of_mem _ List.mem_cons_self
      · exact List.mem_cons_of_mem _ (List.mem_cons_of_mem _ List.mem_cons_self)
    · cases b
      · exact List.mem_cons_of_mem _ List.mem_cons_self
      · rw [show cof p01 0 true = pr 1 by funext h; simp [cof, p01, pr, setb]]; exact List.mem_cons_self)
  (fun f h b => by simp at h; rcases h with rfl | rfl | rfl; cases b; exact Or.inl rfl; exact Or.inr rfl; exact Or.inl rfl; exact Or.inr rfl) (by simp) (by simp)

/-- The functions of the nodes of a table of two bits. -/
theorem two_in {L : List Nd} (hL : Okay 2 L) {S0 S1 : List Fn} {h1 g0 g1 l0 l1} (hW : Within (twoFam S0 S1 h1 g0 g1 l0 l1) L) {i : Nat} (hi : i < L.length) :
    (den L (i + 2) ∈ S0 ∧ cof (den L (i + 2)) 0 false ≠ cof (den L (i + 2)) 0 true) ∨ (den L (i + 2) ∈ S1 ∧ cof (den L (i + 2)) 1 false ≠ cof (den L (i + 2)) 1 true) := by
  have hx : L[i]? = some L[i] := List.getElem?_eq_getElem hi
  have hh := hangs hL hx
  rcases hW i _ hx with ⟨e, h⟩ | ⟨e, h⟩ | ⟨e, h⟩
  · rw [e] at hh; exact Or.inl ⟨h, hh⟩
  · rw [e] at hh; exact Or.inr ⟨h, hh⟩
  · exact absurd (cof_const _ _ h) hh

def v2 (a b : Bool) : Nat → Bool := fun k => if k = 0 then a else b

theorem one_node {L : List Nd} (hL : Okay 2 L) (hW : Within A1 L) {m : Nat} (hm : m < L.length + 2) (hd : den L m = pr 0) : L = [(0, 0, 1)] ∧ m = 2 := by
  have hle : L.length ≤ 1 := few_of hL [pr 0] fun i hi => by
    rcases two_in hL hW hi with ⟨h, _⟩ | ⟨h, h2⟩
    · exact h
    · simp at h; exact absurd (cof_const _ _ h) h2
  have e1 := congrFun hd (v2 true false)
  have e2 := congrFun hd (v2 false true)
  have e3 := congrFun hd (v2 false false)
  have hm2 : 2 ≤ m := by
    rcases Nat.lt_or_ge m 2 with h | h
    · have : m = 0 ∨ m = 1 := by omega
      rcases this with rfl | rfl
      · rw [den_zero] at e1; cases e1
      · rw [den_one] at e2; cases e2
    · exact h
  have hme : m = 2 := by omega
  subst hme
  match L, hL, hd, e1, e2, e3, hm, hle with
  | [], _, _, _, _, _, hm, _ => simp at hm
  | [(b, lo, hi)], hL, hd, e1, e2, e3, _, _ =>
    obtain ⟨a1, a2, a3, a4, _, _⟩ := hL.fit 0 (b, lo, hi) rfl
    simp only at a1 a2 a3 a4
    have hb : b = 0 ∨ b = 1 := by omega
    have hl : lo = 0 ∨ lo = 1 := by omega
    have hh : hi = 0 ∨ hi = 1 := by omega
    clear hd hL
    rcases hb with rfl | rfl <;> rcases hl with rfl | rfl <;> rcases hh with rfl | rfl <;> first | exact ⟨rfl, rfl⟩ | (exfalso; revert e1 e2 e3 a3; decide)
  | _ :: _ :: _, _, _, _, _, _, _, hle => simp at hle

theorem two_nodes {N : List Nd} (hL : Okay 2 ([(0, 0, 1)] ++ N)) (hW : Within A2 ([(0, 0, 1)] ++ N)) {m : Nat} (hm : m < ([(0, 0, 1)] ++ N).length + 2) (hd : den ([(0, 0, 1)] ++ N) m = pr 1) : N = [(1, 0, 1)] ∧ m = 3 := by
  have hle : ([(0, 0, 1)] ++ N).length ≤ 2 := few_of hL [pr 0, pr 1] fun i hi => by
    rcases two_in hL hW hi with ⟨h, _⟩ | ⟨h, h2⟩
    · exact h
    · simp only [List.mem_cons, List.not_mem_nil, or_false] at h
      rcases h with h | h
      · rw [h]; exact List.mem_cons_of_mem _ List.mem_cons_self
      · exact absurd (cof_const _ _ h) h2
  have e1 := congrFun hd (v2 true false)
  have e2 := congrFun hd (v2 false true)
  have e3 := congrFun hd (v2 false false)
  have e4 := congrFun hd (v2 true true)
  have hm2 : 3 ≤ m := by
    rcases Nat.lt_or_ge m 3 with h | h
    · rw [den_append_old _ _ (by simpa using h)] at e1 e2 e3
      have : m = 0 ∨ m = 1 ∨ m = 2 := by omega
      rcases this with rfl | rfl | rfl <;> (exfalso; revert e1 e2 e3; decide)
    · exact h
  simp only [List.length_append, List.length_cons, List.length_nil] at hm hle
  have hme : m = 3 := by omega
  subst hme
  match N, hL, hd, e1, e2, e3, e4, hm, hle with
  | [], _, _, _, _, _, _, hm, _ => simp at hm
  | [(b, lo, hi)], hL, hd, e1, e2, e3, e4, _, _ =>
    obtain ⟨a1, a2, a3, a4, a5, a6⟩ := hL.fit 1 (b, lo, hi) rfl
    simp only at a1 a2 a3 a4 a5 a6
    have hb : b = 0 ∨ b = 1 := by omega
    have hl : lo = 0 ∨ lo = 1 ∨ lo = 2 := by omega
    have hh : hi = 0 ∨ hi = 1 ∨ hi = 2 := by omega
    clear hd hL
    rcases hb with rfl | rfl <;> rcases hl with rfl | rfl | rfl <;> rcases hh with rfl | rfl | rfl <;> first | exact ⟨rfl, rfl⟩ | (exfalso; revert e1 e2 e3 e4 a3 a5 a6; decide)
  | _ :: _ :: _, _, _, _, _, _, _, _, hle => simp at hle; omega

theorem three_nodes {N : List Nd} (hL : Okay 2 ([(0, 0, 1), (1, 0, 1)] ++ N)) (hW : Within A3 ([(0, 0, 1), (1, 0, 1)] ++ N)) {m : Nat} (hm : m < ([(0, 0, 1), (1, 0, 1)] ++ N).length + 2) (hd : den ([(0, 0, 1), (1, 0, 1)] ++ N) m = p01) : N = [(0, 0, 3)] ∧ m = 4 := by
  have hle : ([(0, 0, 1), (1, 0, 1)] ++ N).length ≤ 3 := few_of hL [pr 0, p01, pr 1] fun i hi => by
    rcases two_in hL hW hi with ⟨h, _⟩ | ⟨h, h2⟩
    · simp only [List.mem_cons, List.not_mem_nil, or_false] at h
      rcases h with h | h
      · rw [h]; exact List.mem_cons_self
      · rw [h]; exact List.mem_cons_of_mem _ List.mem_cons_self
    · simp only [List.mem_cons, List.not_mem_nil, or_false] at h
      rcases h with h | h
      · rw [h]; exact List.mem_cons_of_mem _ (List.mem_cons_of_mem _ List.mem_cons_self)
      · exact absurd (cof_const _ _ h) h2
  have e1 := congrFun hd (v2 true false)
  have e2 := congrFun hd (v2 false true)
  have e3 := congrFun hd (v2 false false)
  have e4 := congrFun hd (v2 true true)
  have hm2 : 4 ≤ m := by
    rcases Nat.lt_or_ge m 4 with h | h
    · rw [den_append_old _ _ (by simpa using h)] at e1 e2 e3 e4
      have : m = 0 ∨ m = 1 ∨ m = 2 ∨ m = 3 := by omega
      rcases this with rfl | rfl | rfl | rfl <;> (exfalso; revert e1 e2 e3 e4; decide)
    · exact h
  simp only [List.length_append, List.length_cons, List.length_nil] at hm hle
  have hme : m = 4 := by omega
  subst hme
  match N, hL, hd, e1, e2, e3, e4, hm, hle with
  | [], _, _, _, _, _, _, hm, _ => simp at hm
  | [(b, lo, hi)], hL, hd, e1, e2, e3, e4, _, _ =>
    obtain ⟨a1, a2, a3, a4, a5, a6⟩ := hL.fit 2 (b, lo, hi) rfl
    simp only at a1 a2 a3 a4 a5 a6
    have hb : b = 0 ∨ b = 1 := by omega
    have hl : lo = 0 ∨ lo = 1 ∨ lo = 2 ∨ lo = 3 := by omega
    have hh : hi = 0 ∨ hi = 1 ∨ hi = 2 ∨ hi = 3 := by omega
    clear hd hL
    rcases hb with rfl | rfl <;> rcases hl with rfl | rfl | rfl | rfl <;> rcases hh with rfl | rfl | rfl | rfl <;> first | exact ⟨rfl, rfl⟩ | (exfalso; revert e1 e2 e3 e4 a3 a5 a6; decide)
  | _ :: _ :: _, _, _, _, _, _, _, _, hle => simp at hle; omega
end Bd

theorem suf_1x : suf ⟨#[49, 120]⟩ 0 = Bd.pr 0 := by
  funext h
  unfold suf Bd.pr
  show (List.range 2).all _ = _
  simp [List.range_succ]
theorem suf_x1 : suf ⟨#[120, 49]⟩ 0 = Bd.pr 1 := by
  funext h
  unfold suf Bd.pr
  show (List.range 2).all _ = _
  simp [List.range_succ]
theorem and_p01 : Bd.iteF (Bd.pr 0) (Bd.pr 1) Bd.ff = Bd.p01 := by
  funext h
  unfold Bd.iteF Bd.pr Bd.p01 Bd.ff
  cases h 0 <;> rfl
end Go.Proofs.Ytffngpdngjfcfaa
