/-
  answer, And, Or, Not, Diff, Ite where answer fails.
-/
import Derived.Test.YtffngpdngjfcfaaBNobody
namespace Go.Proofs.Ytffngpdngjfcfaa
open Go.RowKit Go.Maps

/-- answer fails. -/
def AnsErr (w : World) (p v : Value) (err : Int) : Prop := ∀ f, Calls Try.prog 45 #[p, v, f] w fun e w' => e = .returned (.tuple #[.int .i64 0, .int .i64 err]) ∧ Below w.heap.size w w'

set_option maxHeartbeats 1000000 in
theorem answer_no {w : World} {p : Value} (h : Nobody w p) (v : Value) : AnsErr w p v 4 := by
  intro f
  have hb : Below w.heap.size w (((w.alloc (.cells #[p] 23)).alloc (.cells #[.int .i64 0] 25)).alloc (.cells #[.int .i64 0] 30)) := (((Below.refl _ _).alloc (Nat.le_refl _) _).alloc (by simp) _).alloc (by simp <;> omega) _
  have q := made_no (h.below hb)
  obtain ⟨a, rfl⟩ := h.pointer
  clear h hb
  go_enter_defers Try.func45, Try.ntmps45
  go_wp2_with (refine q.mono ?_; rintro e w' ⟨rfl, rfl⟩)
  refine ⟨.tuple #[.int .i64 0, .int .i64 4], ?_, rfl, (((Below.refl _ _).alloc (Nat.le_refl _) _).alloc (by simp) _).alloc (by simp <;> omega) _⟩
  simp [results, Try.results45, go_sem]

set_option maxHeartbeats 1000000 in
theorem And_err {w : World} {a : Option Addr} {err : Int} (v : Value) (h : ∀ w1, Below w.heap.size w w1 → AnsErr w1 (.pointer a) v err) : Calls Try.prog 21 #[.pointer a, v] w fun e w' => ∃ r, e = .returned (.tuple #[r, .int .i64 err]) ∧ Below w.heap.size w w' := by
  have hmf : ∀ (fn : Fn) (first cap : Array Value) (w : World), (Instr.makeFunc fn first cap).run Try.prog w = .ok (.func fn first cap) w := fun _ _ _ _ => rfl
  have hb : Below w.heap.size w (w.alloc (.cells #[.pointer a] 23)) := (Below.refl _ _).alloc (Nat.le_refl _) _
  have H := keep (h _ hb)
  have HB := keep hb
  clear h hb
  go_enter Try.func21, Try.ntmps21
  go_wp2_with fail
  refine (H.out _).mono ?_
  rintro e w' ⟨rfl, hb⟩
  have HB2 := keep (HB.out.trans (hb.mono HB.out.size))
  clear hb
  go_wp2
  go_ret2
  exact ⟨_, rfl, HB2.out⟩
set_option maxHeartbeats 1000000 in
theorem Or_err {w : World} {a : Option Addr} {err : Int} (v : Value) (h : ∀ w1, Below w.heap.size w w1 → AnsErr w1 (.pointer a) v err) : Calls Try.prog 19 #[.pointer a, v] w fun e w' => ∃ r, e = .returned (.tuple #[r, .int .i64 err]) ∧ Below w.heap.size w w' := by
  have hmf : ∀ (fn : Fn) (first cap : Array Value) (w : World), (Instr.makeFunc fn first cap).run Try.prog w = .ok (.func fn first cap) w := fun _ _ _ _ => rfl
  have hb : Below w.heap.size w (w.alloc (.cells #[.pointer a] 23)) := (Below.refl _ _).alloc (Nat.le_refl _) _
  have H := keep (h _ hb)
  have HB := keep hb
  clear h hb
  go_enter Try.func19, Try.ntmps19
  go_wp2_with fail
  refine (H.out _).mono ?_
  rintro e w' ⟨rfl, hb⟩
  have HB2 := keep (HB.out.trans (hb.mono HB.out.size))
  clear hb
  go_wp2
  go_ret2
  exact ⟨_, rfl, HB2.out⟩

/-- Of these three refs there is no answer. -/
def IteErr (w : World) (a : Option Addr) (x y z : Int) (err : Int) : Prop := ∀ w1, Below w.heap.size w w1 → AnsErr (w1.alloc (.cells #[.int .i64 x, .int .i64 y, .int .i64 z] 25)) (.pointer a) (.slice (some ⟨w1.heap.size, 0, none⟩) 3 3) err

set_option maxHeartbeats 1000000 in
theorem Ite_err {w : World} {a : Option Addr} {err : Int} {x y z : Int} (h : IteErr w a x y z err) :
    Calls Try.prog 23 #[.pointer a, .int .i64 x, .int .i64 y, .int .i64 z] w fun e w' => e = .returned (.tuple #[.int .i64 0, .int .i64 err]) ∧ Below w.heap.size w w' := by
  have hmf : ∀ (fn : Fn) (first cap : Array Value) (w : World), (Instr.makeFunc fn first cap).run Try.prog w = .ok (.func fn first cap) w := fun _ _ _ _ => rfl
  have hb : Below w.heap.size w (w.alloc (.cells #[.pointer a] 23)) := (Below.refl _ _).alloc (Nat.le_refl _) _
  have hb2 : Below w.heap.size w ((w.alloc (.cells #[.pointer a] 23)).alloc (.cells #[.int .i64 x, .int .i64 y, .int .i64 z] 25)) := hb.alloc hb.size _
  have hs : (w.alloc (.cells #[.pointer a] 23)).heap.size = w.heap.size + 1 := by simp
  have h1 := h _ hb
  rw [hs] at h1
  have H := keep h1
  have HB := keep hb2
  clear h h1 hb hb2 hs
  go_enter Try.func23, Try.ntmps23
  go_wp2_with fail
  refine (H.out _).mono ?_
  rintro e w' ⟨rfl, hb⟩
  have HB2 := keep (HB.out.trans (hb.mono HB.out.size))
  clear hb
  go_wp2
  go_ret2
  exact ⟨rfl, HB2.out⟩
set_option maxHeartbeats 400000 in
theorem Not_err {w : World} {a : Option Addr} {err : Int} {x : Int} (h : IteErr w a x 0 1 err) :
    Calls Try.prog 20 #[.pointer a, .int .i64 x] w fun e w' => ∃ r, e = .returned (.tuple #[r, .int .i64 err]) ∧ Below w.heap.size w w' := by
  have H := keep (Ite_err h)
  clear h
  go_enter Try.func20, Try.ntmps20
  go_wp2_with fail
  refine H.out.mono ?_
  rintro e w' ⟨rfl, hb⟩
  go_wp2
  go_ret2
  exact ⟨_, rfl, hb⟩
set_option maxHeartbeats 400000 in
theorem Diff_err {w : World} {a : Option Addr} {err : Int} {x y : Int} (h : IteErr w a y 0 x err) :
    Calls Try.prog 22 #[.pointer a, .int .i64 x, .int .i64 y] w fun e w' => ∃ r, e = .returned (.tuple #[r, .int .i64 err]) ∧ Below w.heap.size w w' := by
  have H := keep (Ite_err h)
  clear h
  go_enter Try.func22, Try.ntmps22
  go_wp2_with fail
  refine H.out.mono ?_
  rintro e w' ⟨rfl, hb⟩
  go_wp2
  go_ret2
  exact ⟨_, rfl, hb⟩
theorem ite_err_no {w : World} {a : Option Addr} (h : Nobody w (.pointer a)) (x y z : Int) : IteErr w a x y z 4 := fun _ hb => answer_no ((h.below hb).below ((Below.refl _ _).alloc (Nat.le_refl _) _)) _
end Go.Proofs.Ytffngpdngjfcfaa
