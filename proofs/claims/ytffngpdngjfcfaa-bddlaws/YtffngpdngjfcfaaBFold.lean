/-
  fold of two: And, Or.
-/
import Derived.Test.YtffngpdngjfcfaaBTCubeA
namespace Go.Proofs.Ytffngpdngjfcfaa
open Go.RowKit Go.Maps
open Bd (Nd)

theorem step_any' (w : World) (tb : Nat) (room : Int) :
    Calls Try.prog 52 #[.pointer (some ⟨tb, 3, none⟩), .int .i64 room] w fun e w' => e = .returned (.pointer (some ⟨w.heap.size + 1, 0, none⟩)) ∧ w' = (w.alloc (.map #[] 0)).alloc (.cells #[.pointer (some ⟨tb, 3, none⟩), .int .i64 room, .map (some w.heap.size)] 142) := by
  have hmm := @run_makeMap Try.prog
  go_enter Try.func52, Try.ntmps52
  go_wp2
  go_ret
  exact ⟨rfl, rfl⟩

theorem and_join (w : World) (a b : Nat) : Calls Try.prog 50 #[i6 a, i6 b] w fun e w' => e = .returned (.agg #[i6 a, i6 b, i6 0]) ∧ Below w.heap.size w w' := by
  go_enter Try.func50, Try.ntmps50
  go_wp2
  refine bodyPost_ret (v := .agg #[i6 a, i6 b, i6 0]) (by simp [results, Try.results50, go_sem]) rfl ⟨rfl, (Below.refl _ _).alloc (Nat.le_refl _) _⟩

/-- What fold is handed to join with: three numbers for two. -/
structure Joins (fj : FuncId) (jn : Nat → Nat → Nat × Nat × Nat) : Prop where
  enter : ∀ args w, (callFunc fj args).run Try.prog w = .ok (.enter fj args) w
  calls : ∀ (w : World) (a b : Nat), Calls Try.prog fj #[i6 a, i6 b] w fun e w' => e = .returned (.agg #[i6 (jn a b).1, i6 (jn a b).2.1, i6 (jn a b).2.2]) ∧ Below w.heap.size w w'

theorem and_joins : Joins 50 (fun a b => (a, b, 0)) := ⟨fun args w => by kernel_rfl, fun w a b => and_join w a b⟩

/-- A step of fold, where its first number makes no node. -/
theorem fold_first {w : World} {y : Lay} {s : St} (_hT : Tab w y s) (fj : FuncId) (jn : Nat → Nat → Nat × Nat × Nat) (hJ : Joins fj jn) (e0 n0 : Nat) (room : Int)
    (hq : ∀ (W : World) (p : Value), Calls Try.prog 53 #[p, .agg #[i6 (jn e0 n0).1, i6 (jn e0 n0).2.1, i6 (jn e0 n0).2.2]] W fun e w' => e = .returned (i6 n0) ∧ Below W.heap.size W w') (W : World) (hB : Below w.heap.size w W) :
    Calls Try.prog 52 #[.pointer (some ⟨y.tb, 3, none⟩), .int .i64 room] W fun e w1 => ∃ p, e = .returned p ∧ Hid (Calls Try.prog fj #[i6 e0, i6 n0] w1 fun e w2 => ∃ v, e = .returned v ∧ Hid (Calls Try.prog 53 #[p, v] w2 fun e w3 => e = .returned (i6 n0) ∧ Below w.heap.size w w3)) := by
  refine (step_any' W y.tb room).mono ?_
  rintro e w1 ⟨rfl, rfl⟩
  refine ⟨_, rfl, ?_⟩
  have h1 : Below W.heap.size W ((W.alloc (.map #[] 0)).alloc (.cells #[.pointer (some ⟨y.tb, 3, none⟩), .int .i64 room, .map (some W.heap.size)] 142)) := ((Below.refl _ _).alloc (Nat.le_refl _) _).alloc (by simp) _
  refine (hJ.calls _ e0 n0).mono ?_
  rintro e w2 ⟨rfl, hb2⟩
  refine ⟨_, rfl, ?_⟩
  refine (hq w2 _).mono ?_
  rintro e w3 ⟨rfl, hb3⟩
  exact ⟨rfl, (hB.trans ((h1.trans (hb2.mono h1.size)).mono hB.size)).trans (hb3.mono (by have := hB.size; have := h1.size; have := hb2.size; omega))⟩

/-- A step of fold. -/
theorem fold_step {M : Nat} {w : World} {y : Lay} {s : St} (A : Bd.Fam s.bits M) (hT : Tab w y s) (hW : Bd.Within A s.L) (hbM : s.bits * M ≤ 1048576) (fj : FuncId) (jn : Nat → Nat → Nat × Nat × Nat) (hJ : Joins fj jn) (a b : Nat) (room : Nat) (hroom : s.bits * M ≤ room) (hr3 : room ≤ 1073741824)
    (h1 : (jn a b).1 < s.L.length + 2) (h2 : (jn a b).2.1 < s.L.length + 2) (h3 : (jn a b).2.2 < s.L.length + 2) (hF : A.F 0 (Bd.iteF (Bd.den s.L (jn a b).1) (Bd.den s.L (jn a b).2.1) (Bd.den s.L (jn a b).2.2))) (W : World) (hB : Below w.heap.size w W) :
    Calls Try.prog 52 #[.pointer (some ⟨y.tb, 3, none⟩), .int .i64 room] W fun e w1 => ∃ p, e = .returned p ∧ Hid (Calls Try.prog fj #[i6 a, i6 b] w1 fun e w2 => ∃ v, e = .returned v ∧ Hid (Calls Try.prog 53 #[p, v] w2 fun e w3 => ∃ r, e = .returned (i6 r) ∧
      Hid (Grew noX A w y s w3 r (Bd.iteF (Bd.den s.L (jn a b).1) (Bd.den s.L (jn a b).2.1) (Bd.den s.L (jn a b).2.2))))) := by
  refine (step_any' W y.tb room).mono ?_
  rintro e w1 ⟨rfl, rfl⟩
  refine ⟨_, rfl, ?_⟩
  obtain ⟨s1, s2, s3⟩ := step_new W y.tb room
  have hbw := hB.trans (s3.mono hB.size)
  refine (hJ.calls _ a b).mono ?_
  rintro e w2 ⟨rfl, hb2⟩
  refine ⟨_, rfl, ?_⟩
  have hb2' : Below W.heap.size W w2 := s3.trans (hb2.mono s3.size)
  have hbw2 : Below w.heap.size w w2 := hB.trans (hb2'.mono hB.size)
  have l1 := block_lt s1
  have l2 := s2.lt
  have hzW := hB.size
  have hns : ¬ y.own (W.heap.size + 1) := fun ho => by have := hT.lt ho; omega
  have hnk : ¬ y.own W.heap.size := fun ho => by have := hT.lt ho; omega
  refine (ite_all 128 s A w2 y (W.heap.size + 1) room W.heap.size 0 (fun _ => none) _ _ _ 0 (hT.below hbw2) hW ((hb2.block _ l1).trans s1) hns hnk hroom hr3 hbM (s2.same (hb2.block _ l2)) (known_none _) h1 h2 h3 (Nat.zero_le _) (Nat.zero_le _) (Nat.zero_le _) hF (by omega)).mono ?_
  rintro e w3 ⟨r, rfl, ⟨N, y3, t3, wi3, hr, d3, m3, _⟩⟩
  refine ⟨r, rfl, N, y3, t3, wi3, hr, d3, ?_⟩
  have z := hbw2.size
  have mA := (moves_below (X := fun k => k = W.heap.size) y hbw2).trans m3
  exact ⟨mA.tb, mA.own, mA.os, mA.tape, mA.output, mA.size, fun k hk hn _ => mA.block k hk hn (fun e => by omega)⟩

set_option maxRecDepth 3000 in
set_option maxHeartbeats 4000000 in
theorem fold_two {M : Nat} {w : World} {y : Lay} {s : St} (A : Bd.Fam s.bits M) (hT : Tab w y s) (hW : Bd.Within A s.L) (hlim : s.bits * M ≤ s.limit) (fj : FuncId) (jn : Nat → Nat → Nat × Nat × Nat) (hJ : Joins fj jn) (e0 n0 n1 g : Nat) (hNA : NodesAt w g [n0, n1])
    (hq : ∀ (W : World) (p : Value), Calls Try.prog 53 #[p, .agg #[i6 (jn e0 n0).1, i6 (jn e0 n0).2.1, i6 (jn e0 n0).2.2]] W fun e w' => e = .returned (i6 n0) ∧ Below W.heap.size W w')
    (h1 : (jn n0 n1).1 < s.L.length + 2) (h2 : (jn n0 n1).2.1 < s.L.length + 2) (h3 : (jn n0 n1).2.2 < s.L.length + 2) (hF : A.F 0 (Bd.iteF (Bd.den s.L (jn n0 n1).1) (Bd.den s.L (jn n0 n1).2.1) (Bd.den s.L (jn n0 n1).2.2))) :
    Calls Try.prog 47 #[.pointer (some ⟨y.tb, 0, none⟩), .slice (some ⟨g, 0, none⟩) 2 2, i6 e0, .func (.func fj) #[] #[]] w fun e w' => ∃ r, e = .returned (i6 r) ∧ Grew noX A w y s w' r (Bd.iteF (Bd.den s.L (jn n0 n1).1) (Bd.den s.L (jn n0 n1).2.1) (Bd.den s.L (jn n0 n1).2.2)) := by
  obtain ⟨cs, g0, gs, gc⟩ := hNA
  have k0 : w.cell? ⟨g, 0, none⟩ = some (.int .i64 n0) := by rw [cell_at g0]; exact gc 0 n0 rfl
  have k1 : w.cell? ⟨g, 1, none⟩ = some (.int .i64 n1) := by rw [cell_at g0]; exact gc 1 n1 rfl
  have lg := block_lt g0
  have ltb := hT.lt y.own_tb
  obtain ⟨ao, cap, hls⟩ := hT.list_slice
  have c3 := hT.cell3
  rw [hls] at c3
  have c6 : w.cell? ⟨y.tb, 6, none⟩ = some (.int .i64 s.limit) := by rw [cell_at hT.cells]; rfl
  have hsl := hT.small
  have HF1 := keep (fun (W : World) (hB : Below w.heap.size w W) (room : Int) => fold_first hT fj jn hJ e0 n0 room hq W hB)
  have HF2 := keep (fun (W : World) (hB : Below w.heap.size w W) => fold_step A hT hW (by omega) fj jn hJ n0 n1 s.limit hlim (by omega) h1 h2 h3 hF W hB)
  have hent := hJ.enter
  obtain ⟨f, hf⟩ : ∃ f, f = Bd.iteF (Bd.den s.L (jn n0 n1).1) (Bd.den s.L (jn n0 n1).2.1) (Bd.den s.L (jn n0 n1).2.2) := ⟨_, rfl⟩
  rw [← hf] at HF2 ⊢
  obtain ⟨len, hlen⟩ : ∃ len, len = s.L.length := ⟨_, rfl⟩
  rw [← hlen] at c3
  have hlen2 : len ≤ 1073741824 := by omega
  have eroom : (len : Int) + (s.limit : Int) - (len : Int) = (s.limit : Int) := by omega
  have HF2 : Hid (∀ W, Below w.heap.size w W → Calls Try.prog 52 #[.pointer (some ⟨y.tb, 3, none⟩), .int .i64 ((len : Int) + (s.limit : Int) - (len : Int))] W fun e w1 => ∃ p, e = .returned p ∧ Hid (Calls Try.prog fj #[i6 n0, i6 n1] w1 fun e w2 => ∃ v, e = .returned v ∧ Hid (Calls Try.prog 53 #[p, v] w2 fun e w3 => ∃ r, e = .returned (i6 r) ∧ Hid (Grew noX A w y s w3 r f)))) := by
    rw [eroom]; exact HF2.out
  clear eroom
  have hlimI : (s.limit : Int) ≤ 1048576 := by omega
  have hlenI : (len : Int) ≤ 1073741824 := by omega
  clear hT hW hlim hJ hq h1 h2 h3 hF g0 gs gc hls hsl hf hlen
  go_enter Try.func47, Try.ntmps47
  go_wp2_with fail
  go_loopw [2, 24] (fun u i wr => (i = .int .i64 0 ∧ u = .int .i64 e0 ∧ Below w.heap.size w wr) ∨ (i = .int .i64 1 ∧ u = .int .i64 n0 ∧ Below w.heap.size w wr) ∨ (i = .int .i64 2 ∧ ∃ r : Nat, u = .int .i64 r ∧ Hid (Grew noX A w y s wr r f))) (fun _ i _ => 2 - (intOf i).toNat)
  case atStart => exact Or.inl ⟨rfl, rfl, Below.refl _ _⟩
  case round =>
    rcases hrel with ⟨rfl, rfl, hB⟩ | ⟨rfl, rfl, hB⟩ | ⟨rfl, r, rfl, HG⟩
    · have j0 : wr.cell? ⟨g, 0, none⟩ = some (.int .i64 n0) := by rw [hB.cell (by exact lg)]; exact k0
      have j3 : wr.cell? ⟨y.tb, 3, none⟩ = some (.slice ao len cap) := by rw [hB.cell (by exact ltb)]; exact c3
      have HB := keep hB
      clear hB
      go_wp2_with fail
      go_quiet (fail)
      go_wp2_with fail
      refine (HF1.out _ (belowN HB.out _) _).mono ?_
      rintro e w1 ⟨p, rfl, HJ1⟩
      go_wp2_with fail
      refine HJ1.out.mono ?_
      rintro e w2 ⟨v, rfl, HI1⟩
      go_wp2_with fail
      refine HI1.out.mono ?_
      rintro e w3 ⟨rfl, hb3⟩
      go_wp2_with fail
      go_roundw
      case rel => exact Or.inr (Or.inl ⟨rfl, rfl, hb3⟩)
      case measure => simp [intOf]
    · have j1 : wr.cell? ⟨g, 1, none⟩ = some (.int .i64 n1) := by rw [hB.cell (by exact lg)]; exact k1
      have j3 : wr.cell? ⟨y.tb, 3, none⟩ = some (.slice ao len cap) := by rw [hB.cell (by exact ltb)]; exact c3
      have j6 : wr.cell? ⟨y.tb, 6, none⟩ = some (.int .i64 s.limit) := by rw [hB.cell (by exact ltb)]; exact c6
      have HB := keep hB
      clear hB
      go_wp2_with fail
      go_quiet (fail)
      go_wp2_with fail
      refine (HF2.out _ (belowN HB.out _)).mono ?_
      rintro e w1 ⟨p, rfl, HJ1⟩
      go_wp2_with fail
      refine HJ1.out.mono ?_
      rintro e w2 ⟨v, rfl, HI1⟩
      go_wp2_with fail
      refine HI1.out.mono ?_
      rintro e w3 ⟨r, rfl, HG⟩
      go_wp2_with fail
      go_roundw
      case rel => exact Or.inr (Or.inr ⟨rfl, r, rfl, HG⟩)
      case measure => simp [intOf]
    · go_wp2_with fail
      go_ret
      exact ⟨r, rfl, HG.out⟩
end Go.Proofs.Ytffngpdngjfcfaa
