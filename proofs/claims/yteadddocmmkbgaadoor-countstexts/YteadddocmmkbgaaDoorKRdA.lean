/-
  Package counts: the reader's small calls.
-/
import Derived.Test.YteadddocmmkbgaaDoorKRead
import Derived.Deep.RegionHeld2
namespace Go.Proofs.YteadddocmmkbgaaDoor.Co
open Go.RowKit Go.Shelf

/-- A reader in memory. -/
def RdAt (w : World) (rb t : Nat) (s : List UInt8) (p : Nat) : Prop := w.heap[rb]? = some (.cells #[.int .i64 (t : Int), .string (tx s), .int .i64 (p : Int)] 71 (0, 0))
theorem RdAt.cells {w : World} {rb t p : Nat} {s : List UInt8} (h : RdAt w rb t s p) : w.cell? ⟨rb, 0, none⟩ = some (.int .i64 (t : Int)) ∧ w.cell? ⟨rb, 1, none⟩ = some (.string (tx s)) ∧ w.cell? ⟨rb, 2, none⟩ = some (.int .i64 (p : Int)) ∧ w.frozen? ⟨rb, 2, none⟩ = false := by
  have h' : w.heap[rb]? = _ := h
  refine ⟨?_, ?_, ?_, ?_⟩
  · unfold World.cell?; rw [h']; rfl
  · unfold World.cell?; rw [h']; rfl
  · unfold World.cell?; rw [h']; rfl
  · unfold World.frozen?; rw [h']; rfl
theorem RdAt.lt {w : World} {rb t p : Nat} {s : List UInt8} (h : RdAt w rb t s p) : rb < w.heap.size := (Array.getElem?_eq_some_iff.1 (show w.heap[rb]? = _ from h)).1
theorem RdAt.set {w : World} {rb t p : Nat} {s : List UInt8} (h : RdAt w rb t s p) (q : Nat) : RdAt (w.setCell ⟨rb, 2, none⟩ (.int .i64 (q : Int))) rb t s q := by
  obtain ⟨hlt, hk⟩ := Array.getElem?_eq_some_iff.1 (show w.heap[rb]? = _ from h)
  show (w.heap.modify rb _)[rb]? = _
  rw [Array.getElem?_eq_getElem (by rw [Array.size_modify]; exact hlt), Array.getElem_modify_self, hk]
  rfl
theorem grown_set2 (w : World) (b o : Nat) (v : Value) : w.grownBy (w.setCell ⟨b, o, none⟩ v) (some b) :=
  ⟨rfl, rfl, rfl, (KeepsWalks.setCell w _ v).size, fun k _ hk => Below.heap_setCell _ _ _ k (fun e => hk (by rw [e]))⟩
theorem grown_two {a b c : World} {r : Option Nat} (h : a.grownBy b r) (k : b.grownBy c r) : a.grownBy c r :=
  ⟨k.os.trans h.os, k.tape.trans h.tape, k.output.trans h.output, Nat.le_trans h.size k.size, fun i hi hne => (k.block i (Nat.lt_of_lt_of_le hi h.size) hne).trans (h.block i hi hne)⟩
theorem grown_refl (a : World) (r : Option Nat) : a.grownBy a r := ⟨rfl, rfl, rfl, Nat.le_refl _, fun _ _ _ => rfl⟩
theorem grown_drewN (a : World) (n : Nat) (r : Option Nat) : a.grownBy (a.drewN n) r := ⟨rfl, rfl, rfl, Nat.le_refl _, fun _ _ _ => rfl⟩
theorem grown_of_below {a b : World} (r : Option Nat) (h : Below a.heap.size a b) : a.grownBy b r := ⟨h.os, h.tape, h.output, h.size, fun i hi _ => h.block i hi⟩
theorem below_grown {n₀ : Nat} {w0 a b : World} {r : Nat} (h : Below n₀ w0 a) (hn : n₀ ≤ w0.heap.size) (k : a.grownBy b (some r)) (hr : n₀ ≤ r) : Below n₀ w0 b :=
  h.grown k (Nat.le_trans hn h.size) (fun j e => by cases e; exact hr)
/-- The panic of a reader. -/
abbrev panT : List PanicEntry := [{ v := .iface 25 (.int .i64 21), recovered := false }]

theorem al_le : ∀ (a b : List UInt8), al a b ≤ a.length ∧ al a b ≤ b.length
  | [], b => by simp [al]
  | _ :: _, [] => by simp [al]
  | a :: s, b :: r => by
    have := al_le s r
    unfold al
    split
    · simp only [List.length_cons]; omega
    · simp
theorem al_get : ∀ (a b : List UInt8) (j : Nat), j < al a b → a[j]? = b[j]?
  | [], b, j, h => by simp [al] at h
  | _ :: _, [], j, h => by simp [al] at h
  | a :: s, b :: r, j, h => by
    unfold al at h
    split at h
    · rename_i e
      subst e
      cases j with
      | zero => rfl
      | succ j =>
        simp only [List.getElem?_cons_succ]
        exact al_get s r j (by omega)
    · omega
theorem al_stop : ∀ (a b : List UInt8) (x y : UInt8), a[al a b]? = some x → b[al a b]? = some y → x ≠ y
  | [], b, x, y, h, _ => by simp at h
  | _ :: _, [], x, y, _, h => by simp at h
  | a :: s, b :: r, x, y, h, k => by
    unfold al at h k
    split at h
    · rename_i e
      rw [if_pos e] at k
      simp only [List.getElem?_cons_succ] at h k
      exact al_stop s r x y h k
    · rename_i e
      rw [if_neg e] at k
      simp at h k
      rw [← h, ← k]
      exact e

theorem byte_at {a : List UInt8} {j : Nat} {x : UInt8} (h : a[j]? = some x) (hj : j < (tx a).size) : (tx a)[j]'hj = x := by
  have h' : j < a.length := hj
  rw [List.getElem?_eq_getElem h'] at h
  injection h
attribute [local go_sem ↓] run_min_nat
set_option maxRecDepth 100000 in
set_option maxHeartbeats 1000000 in
theorem alike_any (a b : List UInt8) (w : World) (ha : a.length ≤ 64) : Calls Tryd.prog 63 #[.string (tx a), .string (tx b)] w fun e w' => e = .returned (.int .i64 (al a b : Nat)) ∧ ∃ m, w' = w.drewN m := by
  go_enter Tryd.func63, Tryd.ntmps63
  go_wp2_with fail
  go_loopw [5] (fun i wr => ∃ j : Nat, j ≤ al a b ∧ i = .int .i64 (j : Int) ∧ Hid (∃ m, wr = w.drewN m)) (fun i _ => al a b - (intOf i).toNat)
  case atStart => exact ⟨0, Nat.zero_le _, rfl, 0, rfl⟩
  case round =>
    obtain ⟨j, hj, rfl, HJ⟩ := hrel
    have hle := al_le a b
    by_cases hlt : j < al a b
    · obtain ⟨x, hx⟩ : ∃ x, a[j]? = some x := ⟨a[j]'(by omega), List.getElem?_eq_getElem _⟩
      have hy : b[j]? = some x := by rw [← al_get a b j hlt]; exact hx
      have h1 : (j : Int) < ((min a.length b.length : Nat) : Int) := by omega
      have h2 : j < min a.length b.length := by omega
      have h3 : j < a.length := by omega
      have h4 : j < b.length := by omega
      go_wp2_with fail
      go_quiet (fail)
      have heq : ((((tx a)[j]'h3).toNat : Int) == (((tx b)[j]'h4).toNat : Int)) = true := by rw [byte_at hx h3, byte_at hy h4]; simp
      go_wp2
      go_roundw
      case rel => exact ⟨j + 1, by omega, by simp, by obtain ⟨m, hm⟩ := HJ.out; exact ⟨m + nq, by rw [hm, World.drewN_drewN]⟩⟩
      case measure => simp [intOf]; omega
    · have hje : j = al a b := by omega
      have HJE := hid hje
      by_cases hm : j < min a.length b.length
      · obtain ⟨x, hx⟩ : ∃ x, a[j]? = some x := ⟨a[j]'(by omega), List.getElem?_eq_getElem _⟩
        obtain ⟨y, hy⟩ : ∃ y, b[j]? = some y := ⟨b[j]'(by omega), List.getElem?_eq_getElem _⟩
        have hne : x ≠ y := al_stop a b x y (by rw [← hje]; exact hx) (by rw [← hje]; exact hy)
        have hneI : ((x.toNat : Int) == (y.toNat : Int)) = false := by
          rw [beq_eq_false_iff_ne]
          intro h
          exact hne (UInt8.toNat.inj (by omega))
        have h1 : (j : Int) < ((min a.length b.length : Nat) : Int) := by omega
        have h3 : j < a.length := by omega
        have h4 : j < b.length := by omega
        clear hje hj hlt
        go_wp2_with fail
        go_quiet (fail)
        have heq : ((((tx a)[j]'h3).toNat : Int) == (((tx b)[j]'h4).toNat : Int)) = false := by rw [byte_at hx h3, byte_at hy h4]; exact hneI
        go_wp2
        go_ret
        exact ⟨by rw [← HJE.out]; rfl, by obtain ⟨m, hm⟩ := HJ.out; exact ⟨m + nq, by rw [hm, World.drewN_drewN]⟩⟩
      · have h1 : ¬ (j : Int) < ((min a.length b.length : Nat) : Int) := by omega
        clear hje hj hlt
        go_wp2_with fail
        go_quiet (fail)
        go_wp2
        go_ret
        exact ⟨by rw [← HJE.out]; rfl, by obtain ⟨m, hm⟩ := HJ.out; exact ⟨m + nq, by rw [hm, World.drewN_drewN]⟩⟩
set_option maxRecDepth 100000 in
set_option maxHeartbeats 1000000 in
theorem takes_any {w : World} {rb t p : Nat} {s : List UInt8} (c : Nat) (hc : c < 256) (h : RdAt w rb t s p) (hp : p ≤ s.length) (hs : s.length ≤ 9223372036854775807) :
    Calls Tryd.prog 56 #[.pointer (some ⟨rb, 0, none⟩), .int .u8 (c : Int)] w fun e w' =>
      (e = .returned (.bool (decide ((s.drop p).head? = some (UInt8.ofNat c)))) ∧ RdAt w' rb t s (if (s.drop p).head? = some (UInt8.ofNat c) then p + 1 else p) ∧ w.grownBy w' (some rb)) := by
  obtain ⟨c0, c1, c2, f2⟩ := h.cells
  have H := hid h
  by_cases hl : p = s.length
  · have e0 : (s.drop p).head? = none := by rw [hl, List.drop_length]; rfl
    rw [e0]
    subst hl
    have ed : decide ((none : Option UInt8) = some (UInt8.ofNat c)) = false := by simp
    rw [ed, if_neg (by simp)]
    go_enter Tryd.func56, Tryd.ntmps56
    go_wp2_with fail
    go_quiet (fail)
    go_wp2
    go_ret
    exact ⟨rfl, H.out, grown_drewN _ _ _⟩
  · have hlt : p < s.length := by omega
    obtain ⟨x, hx⟩ : ∃ x, s[p]? = some x := ⟨s[p], List.getElem?_eq_getElem _⟩
    have e0 : (s.drop p).head? = some x := by rw [List.head?_drop]; exact hx
    rw [e0]
    have hlI : ((p : Int) == (s.length : Int)) = false := by simp; omega
    by_cases hxc : x = UInt8.ofNat c
    · have ed : decide (some x = some (UInt8.ofNat c)) = true := by simp [hxc]
      rw [ed, if_pos (by rw [hxc])]
      have hxn : (x.toNat : Int) = (c : Int) := by rw [hxc]; simp; omega
      go_enter Tryd.func56, Tryd.ntmps56
      go_wp2_with fail
      go_quiet (fail)
      have heq : ((((tx s)[p]'hlt).toNat : Int) != (c : Int)) = false := by rw [byte_at hx hlt, hxn]; simp
      go_wp2
      go_ret
      refine ⟨rfl, ?_, ?_⟩
      · exact (show RdAt (w.drewN nq) rb t s p from H.out).set (p + 1)
      · exact grown_two (grown_drewN _ _ _) (grown_set2 _ _ _ _)
    · have ed : decide (some x = some (UInt8.ofNat c)) = false := by simp [hxc]
      rw [ed, if_neg (by simpa using hxc)]
      have hxn : (x.toNat : Int) ≠ (c : Int) := by
        intro h
        apply hxc
        apply UInt8.toNat.inj
        simp
        omega
      go_enter Tryd.func56, Tryd.ntmps56
      go_wp2_with fail
      go_quiet (fail)
      have heq : ((((tx s)[p]'hlt).toNat : Int) != (c : Int)) = true := by rw [byte_at hx hlt]; simpa using hxn
      go_wp2
      go_ret
      exact ⟨rfl, H.out, grown_drewN _ _ _⟩
/-- What a call on a reader comes to: it goes on behind a place, or it panics there. -/
def RdPost (w : World) (rb t : Nat) (s : List UInt8) (r : Except Nat (Value × Nat)) (e : Ending) (w' : World) : Prop :=
  w.grownBy w' (some rb) ∧ ((∃ v p, r = .ok (v, p) ∧ e = .returned v ∧ RdAt w' rb t s p) ∨ (∃ p, r = .error p ∧ e = .panicked panT ∧ RdAt w' rb t s p))
set_option maxRecDepth 100000 in
set_option maxHeartbeats 1000000 in
theorem must_any {w : World} {rb t p : Nat} {s : List UInt8} (c : Nat) (hc : c < 256) (h : RdAt w rb t s p) (hp : p ≤ s.length) (hs : s.length ≤ 9223372036854775807) :
    Calls Tryd.prog 55 #[.pointer (some ⟨rb, 0, none⟩), .int .u8 (c : Int)] w (RdPost w rb t s (if (s.drop p).head? = some (UInt8.ofNat c) then .ok (.tuple #[], p + 1) else .error p)) := by
  have HT := hid (takes_any c hc h hp hs)
  by_cases hd : (s.drop p).head? = some (UInt8.ofNat c)
  · rw [decide_eq_true hd, if_pos hd] at HT
    rw [if_pos hd]
    clear hd
    go_enter Tryd.func55, Tryd.ntmps55
    go_wp2_with fail
    refine HT.out.mono ?_
    rintro e w1 ⟨rfl, hr, hg⟩
    go_wp2
    go_end0
    exact ⟨hg, Or.inl ⟨_, _, rfl, rfl, hr⟩⟩
  · rw [decide_eq_false hd, if_neg hd] at HT
    rw [if_neg hd]
    clear hd
    go_enter Tryd.func55, Tryd.ntmps55
    go_wp2_with fail
    refine HT.out.mono ?_
    rintro e w1 ⟨rfl, hr, hg⟩
    go_wp2
    exact ⟨rfl, hg, Or.inr ⟨_, rfl, rfl, hr⟩⟩
set_option maxRecDepth 100000 in
set_option maxHeartbeats 1000000 in
theorem end_any {w : World} {rb t p : Nat} {s : List UInt8} (h : RdAt w rb t s p) (hp : p ≤ s.length) :
    Calls Tryd.prog 58 #[.pointer (some ⟨rb, 0, none⟩)] w (RdPost w rb t s (if s.drop p = [] then .ok (.tuple #[], p) else .error p)) := by
  obtain ⟨c0, c1, c2, f2⟩ := h.cells
  have H := hid h
  by_cases hl : p < s.length
  · rw [if_neg (by simpa using hl)]
    have hlI : (p : Int) < (s.length : Int) := by omega
    go_enter Tryd.func58, Tryd.ntmps58
    go_wp2_with fail
    go_quiet (fail)
    go_wp2
    exact ⟨rfl, grown_drewN _ _ _, Or.inr ⟨_, rfl, rfl, H.out⟩⟩
  · rw [if_pos (by simp; omega)]
    have hlI : ¬ (p : Int) < (s.length : Int) := by omega
    go_enter Tryd.func58, Tryd.ntmps58
    go_wp2_with fail
    go_quiet (fail)
    go_wp2
    go_end0
    exact ⟨grown_drewN _ _ _, Or.inl ⟨_, _, rfl, rfl, H.out⟩⟩
end Go.Proofs.YteadddocmmkbgaaDoor.Co
