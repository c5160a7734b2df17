/-
  And, Or of some; Ite, Not, Diff.
-/
import Derived.Test.YtffngpdngjfcfaaBFoldA
namespace Go.Proofs.Ytffngpdngjfcfaa
open Go.RowKit Go.Maps
open Bd (Nd)

theorem or_join (w : World) (a b : Nat) : Calls Try.prog 48 #[i6 a, i6 b] w fun e w' => e = .returned (.agg #[i6 a, i6 1, i6 b]) ∧ Below w.heap.size w w' := by
  go_enter Try.func48, Try.ntmps48
  go_wp2
  refine bodyPost_ret (v := .agg #[i6 a, i6 1, i6 b]) (by simp [results, Try.results48, go_sem]) rfl ⟨rfl, (Below.refl _ _).alloc (Nat.le_refl _) _⟩
theorem or_joins : Joins 48 (fun a b => (a, 1, b)) := ⟨fun args w => by kernel_rfl, fun w a b => or_join w a b⟩
theorem means_or : Means (fun a b => (a, 1, b)) (fun f g => Bd.iteF f Bd.tt g) := ⟨fun L a b ha hb => ⟨ha, by show 1 < _; omega, hb⟩, fun L a b => by show Bd.iteF _ (Bd.den L 1) _ = _; rw [Bd.den_one]⟩
theorem means_and : Means (fun a b => (a, b, 0)) (fun f g => Bd.iteF f g Bd.ff) := ⟨fun L a b ha hb => ⟨ha, hb, by show 0 < _; omega⟩, fun L a b => by show Bd.iteF _ _ (Bd.den L 0) = _; rw [Bd.den_zero]⟩
theorem enter_Or : ∀ args w, (callFunc 46 args).run Try.prog w = .ok (.enter 46 args) w := fun args w => by kernel_rfl
theorem enter_Ite : ∀ args w, (callFunc 51 args).run Try.prog w = .ok (.enter 51 args) w := fun args w => by kernel_rfl

set_option maxHeartbeats 1000000 in
theorem or_how {M : Nat} {w : World} {y : Lay} {s : St} (A : Bd.Fam s.bits M) (hT : Tab w y s) (hW : Bd.Within A s.L) (hlim : s.bits * M ≤ s.limit) (B g : Nat) (ns : List Nat) (hn : ns.length ≤ 1000000) (h0 : w.heap[B]? = some (.cells #[.pointer (some ⟨y.tb, 0, none⟩)] 23 (0, 0))) (hNA : NodesAt w g ns) (hg : ¬ y.own g)
    (hns : ∀ m, m ∈ ns → m < s.L.length + 2) (F : Nat → Bd.Fn) (hz : Bd.ff = F 0) (hF : ∀ k m, ns[k]? = some m → F (k + 1) = Bd.iteF (F k) Bd.tt (Bd.den s.L m) ∧ A.F 0 (F (k + 1))) :
    Calls Try.prog 46 #[.slice (some ⟨g, 0, none⟩) ns.length ns.length, .pointer (some ⟨B, 0, none⟩)] w fun e w' => ∃ r, e = .returned (i6 r) ∧ Grew noX A w y s w' r (F ns.length) := by
  have c0 : w.cell? ⟨B, 0, none⟩ = some (.pointer (some ⟨y.tb, 0, none⟩)) := by rw [cell_at h0]; rfl
  have HF := keep (fold_any A hT hW hlim 48 (fun a b => (a, 1, b)) or_joins _ means_or 0 g (by omega) ns hn hNA hg hns F (by rw [Bd.den_zero]; exact hz) hF)
  obtain ⟨n, hnn⟩ : ∃ n, n = ns.length := ⟨_, rfl⟩
  rw [← hnn] at HF ⊢
  clear hT hW hF hNA h0 hlim hns hg hn hz hnn
  go_enter Try.func46, Try.ntmps46
  go_wp2_with fail
  refine HF.out.mono ?_
  rintro e w' ⟨r, rfl, hG⟩
  have HG := keep hG
  clear hG
  go_wp2_with fail
  go_ret
  exact ⟨r, rfl, HG.out⟩
set_option maxHeartbeats 1000000 in
theorem and_hows {M : Nat} {w : World} {y : Lay} {s : St} (A : Bd.Fam s.bits M) (hT : Tab w y s) (hW : Bd.Within A s.L) (hlim : s.bits * M ≤ s.limit) (B g : Nat) (ns : List Nat) (hn : ns.length ≤ 1000000) (h0 : w.heap[B]? = some (.cells #[.pointer (some ⟨y.tb, 0, none⟩)] 23 (0, 0))) (hNA : NodesAt w g ns) (hg : ¬ y.own g)
    (hns : ∀ m, m ∈ ns → m < s.L.length + 2) (F : Nat → Bd.Fn) (hz : Bd.tt = F 0) (hF : ∀ k m, ns[k]? = some m → F (k + 1) = Bd.iteF (F k) (Bd.den s.L m) Bd.ff ∧ A.F 0 (F (k + 1))) :
    Calls Try.prog 49 #[.slice (some ⟨g, 0, none⟩) ns.length ns.length, .pointer (some ⟨B, 0, none⟩)] w fun e w' => ∃ r, e = .returned (i6 r) ∧ Grew noX A w y s w' r (F ns.length) := by
  have c0 : w.cell? ⟨B, 0, none⟩ = some (.pointer (some ⟨y.tb, 0, none⟩)) := by rw [cell_at h0]; rfl
  have HF := keep (fold_any A hT hW hlim 50 (fun a b => (a, b, 0)) and_joins _ means_and 1 g (by omega) ns hn hNA hg hns F (by rw [Bd.den_one]; exact hz) hF)
  obtain ⟨n, hnn⟩ : ∃ n, n = ns.length := ⟨_, rfl⟩
  rw [← hnn] at HF ⊢
  clear hT hW hF hNA h0 hlim hns hg hn hz hnn
  go_enter Try.func49, Try.ntmps49
  go_wp2_with fail
  refine HF.out.mono ?_
  rintro e w' ⟨r, rfl, hG⟩
  have HG := keep hG
  clear hG
  go_wp2_with fail
  go_ret
  exact ⟨r, rfl, HG.out⟩

set_option maxHeartbeats 1000000 in
theorem Or_many {M : Nat} {w : World} {y : Lay} {s : St} (A : Bd.Fam s.bits M) (hT : Tab w y s) (hW : Bd.Within A s.L) (h2 : 2 ≤ s.first) (hsm : s.roots.length + 1 ≤ 1073741824) (hlim : s.bits * M ≤ s.limit) (v : Value) (ls ns : List Nat) (hR : RefsAt w v ls) (hl : ls.length ≤ 1000000) (hN : NodesOf s ls ns)
    (hns : ∀ m, m ∈ ns → m < s.L.length + 2) (F : Nat → Bd.Fn) (hz : Bd.ff = F 0) (hF : ∀ k m, ns[k]? = some m → F (k + 1) = Bd.iteF (F k) Bd.tt (Bd.den s.L m) ∧ A.F 0 (F (k + 1))) :
    Calls Try.prog 19 #[.pointer (some ⟨y.tb, 0, none⟩), v] w fun e w' => ∃ r, e = .returned (.tuple #[i6 r, .int .i64 0]) ∧ Told A w y s w' r (F ns.length) := by
  have hmf : ∀ (fn : Fn) (first cap : Array Value) (w : World), (Instr.makeFunc fn first cap).run Try.prog w = .ok (.func fn first cap) w := fun _ _ _ _ => rfl
  have hb : Below w.heap.size w (w.alloc (.cells #[.pointer (some ⟨y.tb, 0, none⟩)] 23)) := (Below.refl _ _).alloc (Nat.le_refl _) _
  have x0 := heap_alloc_new w (.cells #[.pointer (some ⟨y.tb, 0, none⟩)] 23)
  have hT1 := hT.below hb
  have hnl := hN.1
  have h := answer_ok A hT1 h2 hsm hlim v ls ns (hR.below hb) hl hN 46 enter_Or #[.pointer (some ⟨w.heap.size, 0, none⟩)] (F ns.length) (fun w2 g hb2 hNA hg => by
    rw [← hnl]
    exact or_how A (hT1.below hb2) hW hlim w.heap.size g ns (by omega) ((hb2.block _ (block_lt x0)).trans x0) hNA (fun ho => by have := hT1.lt ho; omega) hns F hz hF)
  have HA := keep h
  have HB := keep hb
  clear h hT hT1 hW hR hN hF x0 hb hnl hns hz hl
  go_enter Try.func19, Try.ntmps19
  go_wp2_with fail
  refine HA.out.mono ?_
  rintro e w' ⟨r, rfl, ⟨N, t, y', m, q1, q2, q3, q4, q5, q6, q7⟩⟩
  have HG : Hid (Told A w y s w' r (F ns.length)) := ⟨N, t, y', m, q1, q2, q3, q4, q5, (moves_below y HB.out).trans q6, q7⟩
  clear q1 q2 q3 q4 q5 q6 q7
  go_wp2_with fail
  go_ret2
  exact ⟨r, rfl, HG.out⟩

set_option maxHeartbeats 4000000 in
theorem ite_how {M : Nat} {w : World} {y : Lay} {s : St} (A : Bd.Fam s.bits M) (hT : Tab w y s) (hW : Bd.Within A s.L) (hlim : s.bits * M ≤ s.limit) (B n0 n1 n2 g : Nat) (h0 : w.heap[B]? = some (.cells #[.pointer (some ⟨y.tb, 0, none⟩)] 23 (0, 0))) (hNA : NodesAt w g [n0, n1, n2]) (hg : ¬ y.own g) (hyB : ¬ y.own B)
    (l0 : n0 < s.L.length + 2) (l1 : n1 < s.L.length + 2) (l2 : n2 < s.L.length + 2) (hF : A.F 0 (Bd.iteF (Bd.den s.L n0) (Bd.den s.L n1) (Bd.den s.L n2))) :
    Calls Try.prog 51 #[.slice (some ⟨g, 0, none⟩) 3 3, .pointer (some ⟨B, 0, none⟩)] w fun e w' => ∃ r, e = .returned (i6 r) ∧ Grew noX A w y s w' r (Bd.iteF (Bd.den s.L n0) (Bd.den s.L n1) (Bd.den s.L n2)) := by
  obtain ⟨cs, g0, gs, gc⟩ := hNA
  have lB := block_lt h0
  have lg := block_lt g0
  have ltb := hT.lt y.own_tb
  have hsl := hT.small
  obtain ⟨f, hf⟩ : ∃ f, f = Bd.iteF (Bd.den s.L n0) (Bd.den s.L n1) (Bd.den s.L n2) := ⟨_, rfl⟩
  have five : ∀ w' : World, w'.heap[B]? = w.heap[B]? → w'.heap[g]? = w.heap[g]? → w'.cell? ⟨y.tb, 6, none⟩ = some (.int .i64 s.limit) → w'.cell? ⟨B, 0, none⟩ = some (.pointer (some ⟨y.tb, 0, none⟩)) ∧ w'.cell? ⟨y.tb, 6, none⟩ = some (.int .i64 s.limit) ∧ w'.cell? ⟨g, 0, none⟩ = some (.int .i64 n0) ∧ w'.cell? ⟨g, 1, none⟩ = some (.int .i64 n1) ∧ w'.cell? ⟨g, 2, none⟩ = some (.int .i64 n2) := by
    intro w' e1 e2 e3
    refine ⟨?_, e3, ?_, ?_, ?_⟩
    · rw [World.cell?_of_block e1, cell_at h0]; rfl
    · rw [World.cell?_of_block e2, cell_at g0]; exact gc 0 n0 rfl
    · rw [World.cell?_of_block e2, cell_at g0]; exact gc 1 n1 rfl
    · rw [World.cell?_of_block e2, cell_at g0]; exact gc 2 n2 rfl
  have c6 : w.cell? ⟨y.tb, 6, none⟩ = some (.int .i64 s.limit) := by rw [cell_at hT.cells]; rfl
  obtain ⟨k1, k2, k3, k4, k5⟩ := five w rfl rfl c6
  have HC : Hid (Calls Try.prog 52 #[.pointer (some ⟨y.tb, 3, none⟩), .int .i64 s.limit] w.drew fun e w1 => e = .returned (.pointer (some ⟨w.heap.size + 1, 0, none⟩)) ∧ (w1.cell? ⟨B, 0, none⟩ = some (.pointer (some ⟨y.tb, 0, none⟩)) ∧ w1.cell? ⟨y.tb, 6, none⟩ = some (.int .i64 s.limit) ∧ w1.cell? ⟨g, 0, none⟩ = some (.int .i64 n0) ∧ w1.cell? ⟨g, 1, none⟩ = some (.int .i64 n1) ∧ w1.cell? ⟨g, 2, none⟩ = some (.int .i64 n2)) ∧
      Hid (Calls Try.prog 53 #[.pointer (some ⟨w.heap.size + 1, 0, none⟩), .agg #[.int .i64 n0, .int .i64 n1, .int .i64 n2]] w1 fun e w2 => ∃ r, e = .returned (i6 r) ∧ (w2.cell? ⟨B, 0, none⟩ = some (.pointer (some ⟨y.tb, 0, none⟩)) ∧ w2.cell? ⟨y.tb, 6, none⟩ = some (.int .i64 s.limit) ∧ w2.cell? ⟨g, 0, none⟩ = some (.int .i64 n0) ∧ w2.cell? ⟨g, 1, none⟩ = some (.int .i64 n1) ∧ w2.cell? ⟨g, 2, none⟩ = some (.int .i64 n2)) ∧ Hid (Grew noX A w y s w2 r f))) := by
    refine (step_any w.drew y.tb s.limit).mono ?_
    rintro e w1 ⟨rfl, rfl⟩
    obtain ⟨s1, s2, s3⟩ := step_new w.drew y.tb s.limit
    have s3' : Below w.heap.size w _ := (Below.refl w.heap.size w).drew.trans s3
    have hT1 := hT.below s3'
    refine ⟨rfl, five _ (s3'.block _ lB) (s3'.block _ lg) (by rw [cell_at hT1.cells]; rfl), ?_⟩
    have hns : ¬ y.own (w.heap.size + 1) := fun ho => by have := hT.lt ho; omega
    have hnk : ¬ y.own w.heap.size := fun ho => by have := hT.lt ho; omega
    refine (ite_all 128 s A _ y (w.heap.size + 1) s.limit w.heap.size 0 (fun _ => none) n0 n1 n2 0 hT1 hW s1 hns hnk hlim (by omega) (by omega) s2 (known_none _) l0 l1 l2 (Nat.zero_le _) (Nat.zero_le _) (Nat.zero_le _) hF (by omega)).mono ?_
    rintro e w2 ⟨r, rfl, ⟨N, y3, t3, wi3, hr, d3, m3, _⟩⟩
    have z := s3'.size
    have bB := m3.block B (by omega) hyB (fun e => by omega)
    have bg := m3.block g (by omega) hg (fun e => by omega)
    refine ⟨r, rfl, five w2 (bB.trans (s3'.block _ lB)) (bg.trans (s3'.block _ lg)) (by rw [← m3.tb, cell_at t3.cells]; rfl), N, y3, t3, wi3, hr, by rw [hf]; exact d3, ?_⟩
    have mA := (moves_below (X := fun k => k = w.heap.size) y s3').trans m3
    exact ⟨mA.tb, mA.own, mA.os, mA.tape, mA.output, mA.size, fun k hk hn _ => mA.block k hk hn (fun e => by omega)⟩
  rw [← hf]
  clear hT hW hlim h0 hF g0 gs gc five hsl hf hg hyB c6 l0 l1 l2
  go_enter Try.func51, Try.ntmps51
  go_wp2_with fail
  go_region_held3 (fun w' => w'.cell? ⟨B, 0, none⟩ = some (.pointer (some ⟨y.tb, 0, none⟩)) ∧ w'.cell? ⟨y.tb, 6, none⟩ = some (.int .i64 s.limit) ∧ w'.cell? ⟨g, 0, none⟩ = some (.int .i64 n0) ∧ w'.cell? ⟨g, 1, none⟩ = some (.int .i64 n1) ∧ w'.cell? ⟨g, 2, none⟩ = some (.int .i64 n2)) (first | (go_keep; done) | exact S2 | exact S1) (first | (go_at_call 53; refine HC2.out.mono ?_; rintro e w2 ⟨r, rfl, S2, HG⟩) | (go_at_call 52; refine HC.out.mono ?_; rintro e w1 ⟨rfl, S1, HC2⟩))
  go_wp2_with fail
  go_ret
  exact ⟨r, rfl, HG.out⟩

set_option maxHeartbeats 1000000 in
theorem Ite_ok {M : Nat} {w : World} {y : Lay} {s : St} (A : Bd.Fam s.bits M) (hT : Tab w y s) (hW : Bd.Within A s.L) (h2 : 2 ≤ s.first) (hsm : s.roots.length + 1 ≤ 1073741824) (hlim : s.bits * M ≤ s.limit) (r0 r1 r2 n0 n1 n2 : Nat) (hn0 : s.node? r0 = some n0) (hn1 : s.node? r1 = some n1) (hn2 : s.node? r2 = some n2)
    (l0 : n0 < s.L.length + 2) (l1 : n1 < s.L.length + 2) (l2 : n2 < s.L.length + 2) (hF : A.F 0 (Bd.iteF (Bd.den s.L n0) (Bd.den s.L n1) (Bd.den s.L n2))) :
    Calls Try.prog 23 #[.pointer (some ⟨y.tb, 0, none⟩), i6 r0, i6 r1, i6 r2] w fun e w' => ∃ r, e = .returned (.tuple #[i6 r, .int .i64 0]) ∧ Told A w y s w' r (Bd.iteF (Bd.den s.L n0) (Bd.den s.L n1) (Bd.den s.L n2)) := by
  have hmf : ∀ (fn : Fn) (first cap : Array Value) (w : World), (Instr.makeFunc fn first cap).run Try.prog w = .ok (.func fn first cap) w := fun _ _ _ _ => rfl
  obtain ⟨x0, x1, hb, xs⟩ := box2 w (.cells #[.pointer (some ⟨y.tb, 0, none⟩)] 23) (.cells #[i6 r0, i6 r1, i6 r2] 25)
  have hT1 := hT.below hb
  have hR : RefsAt ((w.alloc (.cells #[.pointer (some ⟨y.tb, 0, none⟩)] 23)).alloc (.cells #[i6 r0, i6 r1, i6 r2] 25)) (.slice (some ⟨w.heap.size + 1, 0, none⟩) 3 3) [r0, r1, r2] := by
    refine ⟨_, 3, rfl, fun i q hi => ?_⟩
    match i, hi with
    | 0, hi => simp at hi; subst hi; exact ⟨_, 0, rfl, by omega, by rw [cell_at x1]; rfl⟩
    | 1, hi => simp at hi; subst hi; exact ⟨_, 0, rfl, by omega, by rw [cell_at x1]; rfl⟩
    | 2, hi => simp at hi; subst hi; exact ⟨_, 0, rfl, by omega, by rw [cell_at x1]; rfl⟩
    | (i + 3), hi => simp at hi
  have hN : NodesOf s [r0, r1, r2] [n0, n1, n2] := by
    refine ⟨rfl, fun i r hi => ?_⟩
    match i, hi with
    | 0, hi => simp at hi; subst hi; exact ⟨n0, rfl, hn0⟩
    | 1, hi => simp at hi; subst hi; exact ⟨n1, rfl, hn1⟩
    | 2, hi => simp at hi; subst hi; exact ⟨n2, rfl, hn2⟩
    | (i + 3), hi => simp at hi
  have h := answer_ok A hT1 h2 hsm hlim _ [r0, r1, r2] [n0, n1, n2] hR (by simp) hN 51 enter_Ite #[.pointer (some ⟨w.heap.size, 0, none⟩)] (Bd.iteF (Bd.den s.L n0) (Bd.den s.L n1) (Bd.den s.L n2)) (fun w2 g hb2 hNA hg => ite_how A (hT1.below hb2) hW hlim w.heap.size n0 n1 n2 g ((hb2.block _ (block_lt x0)).trans x0) hNA (fun ho => by have := hT.lt ho; omega) (fun ho => by have := hT.lt ho; omega) l0 l1 l2 hF)
  obtain ⟨f, hf⟩ : ∃ f, f = Bd.iteF (Bd.den s.L n0) (Bd.den s.L n1) (Bd.den s.L n2) := ⟨_, rfl⟩
  rw [← hf] at h ⊢
  have HA := keep h
  have HB := keep hb
  clear h hT hT1 hW hR hN hF x0 x1 xs hb hf hn0 hn1 hn2
  go_enter Try.func23, Try.ntmps23
  go_wp2_with fail
  refine HA.out.mono ?_
  rintro e w' ⟨r, rfl, ⟨N, t, y', m, q1, q2, q3, q4, q5, q6, q7⟩⟩
  have HG : Hid (Told A w y s w' r f) := ⟨N, t, y', m, q1, q2, q3, q4, q5, (moves_below y HB.out).trans q6, q7⟩
  clear q1 q2 q3 q4 q5 q6 q7
  go_wp2_with fail
  go_ret2
  exact ⟨r, rfl, HG.out⟩
end Go.Proofs.Ytffngpdngjfcfaa
