/-
  ite: the ways that make no node, and what is known already.
-/
import Derived.Test.YtffngpdngjfcfaaBIteM
namespace Go.Proofs.Ytffngpdngjfcfaa
open Go.RowKit Go.Maps
open Bd (Nd)

theorem boxed (w : World) (o : Obj) : Below w.heap.size w (w.alloc o).drew := ((Below.refl _ _).alloc (Nat.le_refl _) _).drew
theorem boxedN (w : World) (o : Obj) (n : Nat) : Below w.heap.size w ((w.alloc o).drewN n) := by
  have h := (Below.refl w.heap.size w).alloc (Nat.le_refl _) o
  exact ⟨h.os, h.tape, h.output, h.size, h.block⟩
theorem boxed2 (w : World) (o : Obj) : Below w.heap.size w (w.alloc o).drew.drew := ((Below.refl _ _).alloc (Nat.le_refl _) _).drew.drew
theorem int_ne {a b : Nat} (h : a ≠ b) : ((a : Int) == (b : Int)) = false := by rw [beq_eq_false_iff_ne]; omega
theorem int_eq {a b : Nat} (h : a = b) : ((a : Int) == (b : Int)) = true := by rw [h]; simp

set_option maxHeartbeats 1000000 in
theorem ite_one (w : World) (p : Value) (b c : Nat) :
    Calls Try.prog 53 #[p, .agg #[i6 1, i6 b, i6 c]] w fun e w' => e = .returned (i6 b) ∧ Below w.heap.size w w' := by
  go_enter Try.func53, Try.ntmps53
  go_wp2_with fail
  go_quiet (fail)
  go_wp2_with fail
  go_ret
  exact ⟨rfl, boxedN _ _ _⟩

set_option maxHeartbeats 1000000 in
theorem ite_same (w : World) (p : Value) (a b : Nat) (ha : a ≠ 1) :
    Calls Try.prog 53 #[p, .agg #[i6 a, i6 b, i6 b]] w fun e w' => e = .returned (i6 b) ∧ Below w.heap.size w w' := by
  have h1 : ((a : Int) == 1) = false := int_ne ha
  go_enter Try.func53, Try.ntmps53
  go_wp2_with fail
  go_quiet (fail)
  go_wp2_with fail
  go_ret
  exact ⟨rfl, boxedN _ _ _⟩

set_option maxHeartbeats 1000000 in
theorem ite_zero (w : World) (p : Value) (b c : Nat) (hbc : b ≠ c) :
    Calls Try.prog 53 #[p, .agg #[i6 0, i6 b, i6 c]] w fun e w' => e = .returned (i6 c) ∧ Below w.heap.size w w' := by
  have h1 := int_ne hbc
  go_enter Try.func53, Try.ntmps53
  go_wp2_with fail
  go_quiet (fail)
  go_wp2_with fail
  go_ret
  exact ⟨rfl, boxedN _ _ _⟩

set_option maxHeartbeats 1000000 in
theorem ite_self (w : World) (p : Value) (a : Nat) (ha : a ≠ 1) (ha0 : a ≠ 0) :
    Calls Try.prog 53 #[p, .agg #[i6 a, i6 1, i6 0]] w fun e w' => e = .returned (i6 a) ∧ Below w.heap.size w w' := by
  have h1 : ((a : Int) == 1) = false := int_ne ha
  have h0 : ((a : Int) == 0) = false := int_ne ha0
  go_enter Try.func53, Try.ntmps53
  go_wp2_with fail
  go_quiet (fail)
  go_wp2_with fail
  go_ret
  exact ⟨rfl, boxedN _ _ _⟩

/-- What ite leaves. -/
structure IteGot {bits M : Nat} (A : Bd.Fam bits M) (w : World) (y : Lay) (s : St) (kb : Nat) (w' : World) (r : Nat) (f : Bd.Fn) : Prop where
  ex : ∃ N y', Tab w' y' { s with L := s.L ++ N } ∧ Bd.Within A (s.L ++ N) ∧ r < (s.L ++ N).length + 2 ∧ Bd.den (s.L ++ N) r = f ∧ Moves (fun k => k = kb) w y w' y' ∧
    ∃ sz kf, MapOf Try.prog 91 3 w' kb sz kf ∧ KnownOk (s.L ++ N) kf

theorem IteGot.same {bits M : Nat} {A : Bd.Fam bits M} {w w' : World} {y : Lay} {s : St} {kb r : Nat} {f : Bd.Fn} (hT : Tab w y s) (hW : Bd.Within A s.L) {sz : Nat} {kf : Value → Option Int} (hM : MapOf Try.prog 91 3 w kb sz kf) (hK : KnownOk s.L kf)
    (hr : r < s.L.length + 2) (hf : Bd.den s.L r = f) (hb : Below w.heap.size w w') : IteGot A w y s kb w' r f := by
  refine ⟨[], y, ?_, ?_, ?_, ?_, moves_below y hb, sz, kf, hM.same (hb.block _ hM.lt), ?_⟩
  · rw [List.append_nil]; exact hT.below hb
  · rw [List.append_nil]; exact hW
  · rw [List.append_nil]; exact hr
  · rw [List.append_nil]; exact hf
  · rw [List.append_nil]; exact hK

set_option maxHeartbeats 2000000 in
theorem ite_hit {M : Nat} {w : World} {y : Lay} {s : St} (A : Bd.Fam s.bits M) (hT : Tab w y s) (hW : Bd.Within A s.L) (sb room kb : Nat) (hS : StepAt w sb y.tb room kb) (sz : Nat) (kf : Value → Option Int) (hM : MapOf Try.prog 91 3 w kb sz kf) (hK : KnownOk s.L kf)
    (a b c : Nat) (ha : a < s.L.length + 2) (hb : b < s.L.length + 2) (hc : c < s.L.length + 2) (ha2 : 2 ≤ a) (hbc : b ≠ c) (hq : ¬ (b = 1 ∧ c = 0)) (v : Int) (hv : kf (arV a b c) = some v) :
    Calls Try.prog 53 #[.pointer (some ⟨sb, 0, none⟩), .agg #[i6 a, i6 b, i6 c]] w fun e w' => ∃ r, e = .returned (i6 r) ∧ IteGot A w y s kb w' r (Bd.iteF (Bd.den s.L a) (Bd.den s.L b) (Bd.den s.L c)) := by
  have hsm := hT.small.1
  obtain ⟨kl, hkl⟩ := key_arr (a := a) (b := b) (c := c) (by omega) (by omega) (by omega)
  obtain ⟨a', b', c', r, e1, rfl, h1, h2, h3, h4, h5⟩ := hK _ kl v hkl hv
  obtain ⟨rfl, rfl, rfl⟩ := arV_inj e1
  have HR : Hid (∀ w', Below w.heap.size w w' → IteGot A w y s kb w' r (Bd.iteF (Bd.den s.L a) (Bd.den s.L b) (Bd.den s.L c))) := fun w' hb => IteGot.same hT hW hM hK h4 h5 hb
  have hlook : ∀ n o, (Instr.lookup 140 (.map (some kb)) (.agg #[.int .i64 a, .int .i64 b, .int .i64 c]) true).run Try.prog ((w.alloc o).drewN n) = .ok (.tuple #[.int .i64 r, .bool true]) ((w.alloc o).drewN n) := by
    intro n o
    have := MapOf.look (w := (w.alloc o).drewN n) (hM.same ((boxedN w o n).block _ hM.lt)) kArr Try.underlying140 Try.underlying3 (zero_int _) hkl
    have hv' : kf (.agg #[i6 a, i6 b, i6 c]) = some (r : Int) := hv
    rw [hv'] at this
    exact this
  have s2 : ∀ n o, ((w.alloc o).drewN n).cell? ⟨sb, 2, none⟩ = some (.map (some kb)) := by
    intro n o
    have h1 : ((w.alloc o).drewN n).heap[sb]? = w.heap[sb]? := (boxedN w o n).block sb (block_lt hS)
    rw [World.cell?_of_block h1, cell_at hS]; rfl
  have a1 : ((a : Int) == 1) = false := int_ne (b := 1) (by omega)
  have a0 : ((a : Int) == 0) = false := int_ne (b := 0) (by omega)
  have bc := int_ne hbc
  clear hT hW hM hK hS hv h1 h2 h3 h4 h5 e1 hkl ha hb hc
  by_cases hb1 : b = 1
  · have hc0 : ((c : Int) == 0) = false := int_ne (b := 0) (fun e => hq ⟨hb1, e⟩)
    have hb1' : ((b : Int) == 1) = true := int_eq (b := 1) hb1
    clear hq hb1 hbc
    go_enter Try.func53, Try.ntmps53
    go_wp2_with fail
    go_quiet (fail)
    go_wp2_with fail
    go_quiet (fail)
    go_wp2_with fail
    go_ret
    exact ⟨r, rfl, HR.out _ (by first | exact boxedN _ _ _ | (rw [World.drewN_drewN]; exact boxedN _ _ _))⟩
  · have hb1' : ((b : Int) == 1) = false := int_ne (b := 1) hb1
    clear hq hb1 hbc
    go_enter Try.func53, Try.ntmps53
    go_wp2_with fail
    go_quiet (fail)
    go_wp2_with fail
    go_quiet (fail)
    go_wp2_with fail
    go_ret
    exact ⟨r, rfl, HR.out _ (by first | exact boxedN _ _ _ | (rw [World.drewN_drewN]; exact boxedN _ _ _))⟩
end Go.Proofs.Ytffngpdngjfcfaa
