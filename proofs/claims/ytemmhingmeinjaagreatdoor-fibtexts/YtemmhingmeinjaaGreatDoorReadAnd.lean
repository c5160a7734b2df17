/-
  The reader of rules: a priority, a match, a port.
-/
import Derived.Test.YtemmhingmeinjaaGreatDoorWRefSAnd
import Derived.Defers
import Derived.Recover
import Derived.Deep.RegionHeld3
import Derived.Deep.RegionWith
import Derived.Deep.DrawnRows
import Derived.Test.YtemmhingmeinjaaGreatDoorWBuildAnd
namespace Go.Proofs.YtemmhingmeinjaaGreatDoor.Cub
open Go.RowKit

def zero4 : Array Value := #[.int .u64 0, .int .u64 0, .int .u64 0, .int .u64 0]
def made (n : Nat) : Array Value := madeCells zero4 (n * 4)
theorem Tryz.infoTern : (Tryz.prog.info? 197).map (fun i => (i.zero, i.size, i.bytes)) = some (some (.agg zero4), 4, 32) := by kernel_rfl

theorem run_made (n : Nat) (hn : n ≤ 1000000) (w : World) :
    (Instr.makeSlice 167 (.int .i64 (n : Int)) (.int .i64 (n : Int))).run Tryz.prog w = .ok (.slice (some ⟨w.heap.size, 0, none⟩) n n) (w.alloc (.cells (made n) 197)) := by
  obtain ⟨i, hi, hz0, hz1, hz2⟩ := info_parts Tryz.infoTern
  have := run_make (P := Tryz.prog) w 167 197 i (.agg zero4) Tryz.underlying167 hi hz0 .i64 .i64 n n (by omega) (by omega) (by rw [hz2]; omega) (by omega)
  rw [this, hz1]
  rfl

theorem catch_panicking (p q : Addr) (x y : Value) (pv : Value) (older : List PanicEntry) (w : World) (hc : w.cell? p = some x) (hz : w.frozen? p = false) (hc2 : w.cell? q = some y) (hz2 : w.frozen? q = false) (hpq : p ≠ q) :
    CallsD Tryz.prog 128 #[.pointer (some p), .pointer (some q)] (.panicking ({ v := .iface 28 pv, recovered := false } :: older)) w fun e u' w' =>
      e = .returned (.tuple #[]) ∧ u' = .panicking ({ v := .iface 28 pv, recovered := true } :: older) ∧ w' = (w.setCell p (.slice none 0 0)).setCell q (.int .i64 10) := by
  have hc2' : (w.setCell p (.slice none 0 0)).cell? q = some y := by rw [World.cell?_setCell_other _ _ _ _ hpq]; exact hc2
  refine callsD_of_wpS Tryz.func128 rfl fun c₀ cs hu => ?_
  apply wpS_seq
  apply wpS_region
  simp [wpOpsS, go_sem, recoverD, hu, Tryz.ntmps128, Exit.thenS]
  refine wpS_cond (t := true) (by simp [Act.eval, Array.replicate]) ?_
  simp only [if_true]
  apply wpS_region
  simp [wpOpsS, go_sem, hc, hz, hc2', hz2, bodyPostS, results, Tryz.results128]

theorem catch_idle (p q : Addr) (w : World) :
    CallsD Tryz.prog 128 #[.pointer (some p), .pointer (some q)] .returning w fun e u' w' => e = .returned (.tuple #[]) ∧ u' = .returning ∧ w' = w := by
  refine callsD_of_wpS Tryz.func128 rfl fun c₀ cs hu => ?_
  apply wpS_seq
  apply wpS_region
  simp [wpOpsS, go_sem, recoverD, hu, Tryz.ntmps128, Exit.thenS]
  refine wpS_cond (t := false) (by simp [Act.eval, Array.replicate]) ?_
  simp only [Bool.false_eq_true, if_false]
  refine wpS_of_wp (wp_skip ?_)
  cases c₀
  simp_all [bodyPostS, results, Tryz.results128]

def lie (cs : Array Value) (k : Nat) (L : Nat → List UInt8) : Prop :=
  ∀ i, i < k → ∀ j, j < 4 → cs[i * 4 + j]? = (tc (L i))[j]?

theorem made_size (n : Nat) : (made n).size = n * 4 := size_madeCells _ _

abbrev by_ (S : Nat → ByteArray) (i : Nat) : List UInt8 := (S i).data.toList

theorem cells_some {w : World} {g : Nat} {cs : Array Value} {t : TypeId} (h : w.heap[g]? = some (.cells cs t (0, 0))) {x : Nat} (hx : x < cs.size) : ∃ v, w.cell? ⟨g, x, none⟩ = some v := by
  exact ⟨cs[x], by simp [World.cell?, h, hx]⟩
theorem four_at {w : World} {g : Nat} {cs : Array Value} {t : TypeId} (h : w.heap[g]? = some (.cells cs t (0, 0))) {x : Nat} (hx : x + 3 < cs.size) :
    (∃ v, w.cell? ⟨g, x, none⟩ = some v) ∧ (∃ v, w.cell? ⟨g, x + 1, none⟩ = some v) ∧ (∃ v, w.cell? ⟨g, x + 2, none⟩ = some v) ∧ (∃ v, w.cell? ⟨g, x + 3, none⟩ = some v) ∧
      w.frozen? ⟨g, x, none⟩ = false ∧ w.frozen? ⟨g, x + 1, none⟩ = false ∧ w.frozen? ⟨g, x + 2, none⟩ = false ∧ w.frozen? ⟨g, x + 3, none⟩ = false :=
  ⟨cells_some h (by omega), cells_some h (by omega), cells_some h (by omega), cells_some h hx, free_of h, free_of h, free_of h, free_of h⟩
theorem below_block {B k : Nat} {w w' : World} (h : Below B w w') {x : Obj} (hx : w.heap[k]? = some x) (hk : k < B) : w'.heap[k]? = some x := (h.block k hk).trans hx

def set4 (cs : Array Value) (x : Nat) (a b c d : Value) : Array Value := (((cs.setIfInBounds x a).setIfInBounds (x + 1) b).setIfInBounds (x + 2) c).setIfInBounds (x + 3) d
theorem set4_size (cs : Array Value) (x : Nat) (a b c d : Value) : (set4 cs x a b c d).size = cs.size := by simp [set4]
theorem set4_get (cs : Array Value) (x : Nat) (a b c d : Value) (hx : x + 3 < cs.size) (y : Nat) :
    (set4 cs x a b c d)[y]? = if y = x then some a else if y = x + 1 then some b else if y = x + 2 then some c else if y = x + 3 then some d else cs[y]? := by
  simp only [set4, Array.getElem?_setIfInBounds, Array.size_setIfInBounds]
  by_cases h0 : y = x
  · subst h0
    rw [if_neg (by omega), if_neg (by omega), if_neg (by omega), if_pos rfl, if_pos (by omega), if_pos rfl]
  · by_cases h1 : y = x + 1
    · subst h1
      rw [if_neg (by omega), if_neg (by omega), if_pos rfl, if_pos (by omega), if_neg (by omega), if_pos rfl]
    · by_cases h2 : y = x + 2
      · subst h2
        rw [if_neg (by omega), if_pos rfl, if_pos (by omega), if_neg (by omega), if_neg (by omega), if_pos rfl]
      · by_cases h3 : y = x + 3
        · subst h3
          rw [if_pos rfl, if_pos (by omega), if_neg (by omega), if_neg (by omega), if_neg (by omega), if_pos rfl]
        · rw [if_neg (by omega), if_neg (by omega), if_neg (by omega), if_neg (by omega), if_neg h0, if_neg h1, if_neg h2, if_neg h3]
theorem store4 {w : World} {g x : Nat} {cs : Array Value} {t : TypeId} (h : w.heap[g]? = some (.cells cs t (0, 0))) (a b c d : Value) :
    ((((w.setCell ⟨g, x, none⟩ a).setCell ⟨g, x + 1, none⟩ b).setCell ⟨g, x + 2, none⟩ c).setCell ⟨g, x + 3, none⟩ d).heap[g]? = some (.cells (set4 cs x a b c d) t (0, 0)) :=
  block_set _ (block_set _ (block_set _ (block_set _ h)))
theorem store4_other {w : World} {g x k : Nat} (a b c d : Value) (hk : k ≠ g) :
    ((((w.setCell ⟨g, x, none⟩ a).setCell ⟨g, x + 1, none⟩ b).setCell ⟨g, x + 2, none⟩ c).setCell ⟨g, x + 3, none⟩ d).heap[k]? = w.heap[k]? := by
  rw [Below.heap_setCell _ _ _ _ hk, Below.heap_setCell _ _ _ _ hk, Below.heap_setCell _ _ _ _ hk, Below.heap_setCell _ _ _ _ hk]
theorem lie_set {cs : Array Value} {k n : Nat} {L : Nat → List UInt8} (h : lie cs k L) (hs : cs.size = n * 4) (hk : k < n) (l : List UInt8) (hl : l = L k) :
    lie (set4 cs (k * 4) (.int .u64 (Cu.wd (Cu.fixAt l) 0 : Int)) (.int .u64 (Cu.wd (Cu.fixAt l) 1 : Int)) (.int .u64 (Cu.wd (Cu.oneAt l) 0 : Int)) (.int .u64 (Cu.wd (Cu.oneAt l) 1 : Int))) (k + 1) L := by
  subst hl
  intro i hi j hj
  rw [set4_get _ _ _ _ _ _ (by omega)]
  by_cases e : i = k
  · subst e
    have : j = 0 ∨ j = 1 ∨ j = 2 ∨ j = 3 := by omega
    rcases this with rfl | rfl | rfl | rfl <;> simp [c4]
  · rw [if_neg (by omega), if_neg (by omega), if_neg (by omega), if_neg (by omega)]
    exact h i (by omega) j hj
theorem lie_zero (cs : Array Value) (L : Nat → List UInt8) : lie cs 0 L := fun i hi => absurd hi (Nat.not_lt_zero i)

abbrev st4 (w : World) (g x : Nat) (l : List UInt8) : World :=
  (((w.setCell ⟨g, x, none⟩ (.int .u64 (Cu.wd (Cu.fixAt l) 0 : Int))).setCell ⟨g, x + 1, none⟩ (.int .u64 (Cu.wd (Cu.fixAt l) 1 : Int))).setCell ⟨g, x + 2, none⟩ (.int .u64 (Cu.wd (Cu.oneAt l) 0 : Int))).setCell ⟨g, x + 3, none⟩ (.int .u64 (Cu.wd (Cu.oneAt l) 1 : Int))

theorem undrew {w w1 : World} (h : Below w.drew.heap.size w.drew w1) : Below w.heap.size w w1 := ⟨h.os, h.tape, h.output, h.size, h.block⟩

theorem rel_step (S : Nat → ByteArray) {w wr w1 : World} {cs : Array Value} {n k : Nat} {o0 o1 : Obj}
    (h0 : wr.heap[w.heap.size]? = some o0) (h1 : wr.heap[w.heap.size + 1]? = some o1) (h2 : wr.heap[w.heap.size + 2]? = some (.cells cs 197 (0, 0)))
    (hsz : cs.size = n * 4) (hlie : lie cs k (by_ S)) (hlt : k < n) (hbl : Below w.heap.size w wr) (hb1 : Below wr.heap.size wr w1) :
    (st4 w1 (w.heap.size + 2) (k * 4) (S k).data.toList).heap[w.heap.size]? = some o0 ∧ (st4 w1 (w.heap.size + 2) (k * 4) (S k).data.toList).heap[w.heap.size + 1]? = some o1 ∧
      (∃ cs, (st4 w1 (w.heap.size + 2) (k * 4) (S k).data.toList).heap[w.heap.size + 2]? = some (.cells cs 197 (0, 0)) ∧ cs.size = n * 4 ∧ lie cs (k + 1) (by_ S)) ∧
      Below w.heap.size w (st4 w1 (w.heap.size + 2) (k * 4) (S k).data.toList) := by
  have hs := hbl.size
  refine ⟨?_, ?_, ⟨_, store4 (below_block hb1 h2 (lt_of_block h2)) _ _ _ _, ?_, ?_⟩, ?_⟩
  · rw [store4_other _ _ _ _ (by omega)]; exact below_block hb1 h0 (lt_of_block h0)
  · rw [store4_other _ _ _ _ (by omega)]; exact below_block hb1 h1 (lt_of_block h1)
  · rw [set4_size]; exact hsz
  · exact lie_set hlie hsz hlt (S k).data.toList rfl
  · exact ((((hbl.trans (hb1.mono hs)).setCell (by simp) _).setCell (by simp) _).setCell (by simp) _).setCell (by simp) _

theorem start_three (w : World) (o0 o1 o2 : Obj) : (((w.alloc o0).alloc o1).alloc o2).heap[w.heap.size]? = some o0 ∧ (((w.alloc o0).alloc o1).alloc o2).heap[w.heap.size + 1]? = some o1 ∧
    (((w.alloc o0).alloc o1).alloc o2).heap[w.heap.size + 2]? = some o2 ∧ Below w.heap.size w (((w.alloc o0).alloc o1).alloc o2) := by
  refine ⟨new_old _ _ (new_old _ _ (new_0 _ _)), new_old _ _ (new_1 _ _ _), ?_, (((Below.refl _ _).alloc (Nat.le_refl _) _).alloc (by simp) _).alloc (by simp; omega) _⟩
  have := new_0 ((w.alloc o0).alloc o1) o2
  simpa using this

set_option maxHeartbeats 1000000 in
theorem read_right (S : Nat → ByteArray) (n b o cap : Nat) (w : World) (hb : b < w.heap.size) (hc : ∀ i, i < n → w.cell? ⟨b, o + i, none⟩ = some (.string (S i)))
    (hn0 : 0 < n) (hn : n ≤ 1000000) (hr : ∀ i, i < n → Cu.right (by_ S i) = true) (hw : ∀ i, i < n → (S i).size = (S 0).size) :
    Calls Tryz.prog 92 #[.slice (some ⟨b, o, none⟩) n cap] w fun e w' =>
      e = .returned (.tuple #[.slice (some ⟨w.heap.size + 2, 0, none⟩) n n, .int .i64 0]) ∧ (∃ cs, w'.heap[w.heap.size + 2]? = some (.cells cs 197 (0, 0)) ∧ cs.size = n * 4 ∧ lie cs n (by_ S)) ∧ Below w.heap.size w w' := by
  have HC : Hid (∀ i, i < n → w.cell? ⟨b, o + i, none⟩ = some (.string (S i))) := hc
  have HR : Hid (∀ i, i < n → Cu.right (by_ S i) = true) := hr
  have HW : Hid (∀ i, i < n → (S i).size = (S 0).size) := hw
  clear hc hr hw
  have hmf : ∀ (fn : Fn) (first cap : Array Value) (w : World), (Instr.makeFunc fn first cap).run Tryz.prog w = .ok (.func fn first cap) w := fun _ _ _ _ => rfl
  have hmk := run_made n hn
  go_enter_defers Tryz.func92, Tryz.ntmps92
  go_wp2
  go_loopw [14] (fun i wr => ∃ k : Nat, k ≤ n ∧ i = .int .i64 k ∧ wr.heap[w.heap.size]? = some (.cells #[.slice (some ⟨w.heap.size + 2, 0, none⟩) n n] 167 (0, 0)) ∧
      wr.heap[w.heap.size + 1]? = some (.cells #[.int .i64 0] 28 (0, 0)) ∧
      (∃ cs, wr.heap[w.heap.size + 2]? = some (.cells cs 197 (0, 0)) ∧ cs.size = n * 4 ∧ lie cs k (by_ S)) ∧ Below w.heap.size w wr)
    (fun i _ => n - (intOf i).toNat)
  case atStart =>
    have R := start_three w (.cells #[.slice (some ⟨w.heap.size + 2, 0, none⟩) n n] 167 (0, 0)) (.cells #[.int .i64 0] 28 (0, 0)) (.cells (made n) 197 (0, 0))
    exact ⟨0, Nat.zero_le _, rfl, R.1, R.2.1, ⟨made n, R.2.2.1, made_size n, lie_zero _ _⟩, R.2.2.2⟩
  case round =>
    obtain ⟨k, hk, rfl, h0, h1, ⟨cs, h2, hsz, hlie⟩, hbl⟩ := hrel
    have H1 : Hid _ := h1
    have H2 : Hid _ := h2
    have H0 : Hid _ := h0
    have hs1 := hbl.size
    have c0 := cell_of_one h0
    have hlt0 := lt_of_block h2
    by_cases hlt : k < n
    · have hck : wr.cell? ⟨b, o + k, none⟩ = some (.string (S k)) := by rw [hbl.cell (by exact hb)]; exact HC.out k hlt
      have hkI : (0 : Int) ≤ (k : Int) := by omega
      have hkI2 : (k : Int) < (n : Int) := by omega
      clear h0 h1 h2
      go_wp2_with fail
      go_region_held3 (fun w' => w'.cell? ⟨w.heap.size, 0, none⟩ = some (.slice (some ⟨w.heap.size + 2, 0, none⟩) n n)) (first | (go_keep; done) | exact hc1) (first | (go_at_call 129; refine (must_right' (S k) _ (HR.out k hlt)).mono ?_; rintro e w1 ⟨rfl, hb1⟩; have hc1 : w1.cell? ⟨w.heap.size, 0, none⟩ = some (.slice (some ⟨w.heap.size + 2, 0, none⟩) n n) := (by rw [hb1.cell (by show w.heap.size < wr.heap.size; omega)]; exact c0); obtain ⟨⟨v0, q0⟩, ⟨v1, q1⟩, ⟨v2, q2⟩, ⟨v3, q3⟩, f0, f1, f2, f3⟩ := four_at (below_block hb1 (k := w.heap.size + 2) H2.out (by show w.heap.size + 2 < wr.heap.size; omega)) (x := k * 4) (by omega)))
      go_wp2
      go_roundw
      case rel =>
        have R := rel_step S H0.out H1.out H2.out hsz hlie hlt hbl (undrew hb1)
        exact ⟨k + 1, by omega, by go_num, R.1, R.2.1, R.2.2.1, R.2.2.2⟩
      case measure => simp [intOf]; omega
    · have hkn : k = n := by omega
      subst hkn
      have f0 : wr.frozen? ⟨w.heap.size, 0, none⟩ = false := free_of h0
      have f1 : wr.frozen? ⟨w.heap.size + 1, 0, none⟩ = false := free_of h1
      have c1 := cell_of_one h1
      have hc0 : wr.cell? ⟨b, o, none⟩ = some (.string (S 0)) := by rw [hbl.cell (by exact hb)]; exact HC.out 0 hn0
      clear h0 h1 h2
      go_wp2
      go_loop [27] (fun i => ∃ j : Nat, j ≤ k ∧ i = .int .i64 j) (fun i => k - (intOf i).toNat)
      case atStart => exact ⟨0, Nat.zero_le _, rfl⟩
      case round =>
        obtain ⟨j, hj, rfl⟩ := hrel
        by_cases hjn : j < k
        · have hck : wr.cell? ⟨b, o + j, none⟩ = some (.string (S j)) := by rw [hbl.cell (by exact hb)]; exact HC.out j hjn
          have hne : (((S j).size : Int) != ((S 0).size : Int)) = false := by rw [HW.out j hjn]; simp
          go_wp2
          go_round
          case rel => exact ⟨j + 1, by omega, by go_num⟩
          case measure => simp [intOf]; omega
        · go_wp2
          refine leaves_cons (f := 128) (args := #[.pointer (some ⟨w.heap.size, 0, none⟩), .pointer (some ⟨w.heap.size + 1, 0, none⟩)]) (by simp) (by simp [go_sem]) ?_
          refine (catch_idle _ _ _).mono ?_
          rintro e u' w'' ⟨rfl, rfl, rfl⟩
          refine ⟨.tuple #[.slice (some ⟨w.heap.size + 2, 0, none⟩) k k, .int .i64 0], ?_, rfl, ⟨cs, ?_, hsz, hlie⟩, ?_⟩
          · simp [results, Tryz.results92, go_sem, c0, c1]
          · rw [Below.heap_setCell _ _ _ _ (by simp), Below.heap_setCell _ _ _ _ (by simp)]; exact H2.out
          · exact (hbl.setCell (by simp) _).setCell (by simp) _

set_option maxHeartbeats 1000000 in
theorem read_width (S : Nat → ByteArray) (n b o cap : Nat) (w : World) (hb : b < w.heap.size) (hc : ∀ i, i < n → w.cell? ⟨b, o + i, none⟩ = some (.string (S i)))
    (hn0 : 0 < n) (hn : n ≤ 1000000) (hr : ∀ i, i < n → Cu.right (by_ S i) = true) (m : Nat) (hm : m < n) (hw : (S m).size ≠ (S 0).size) :
    Calls Tryz.prog 92 #[.slice (some ⟨b, o, none⟩) n cap] w fun e w' =>
      e = .returned (.tuple #[.slice none 0 0, .int .i64 11]) ∧ Below w.heap.size w w' := by
  have HC : Hid (∀ i, i < n → w.cell? ⟨b, o + i, none⟩ = some (.string (S i))) := hc
  have HR : Hid (∀ i, i < n → Cu.right (by_ S i) = true) := hr
  have HW : Hid ((S m).size ≠ (S 0).size) := hw
  clear hc hr hw
  have hmf : ∀ (fn : Fn) (first cap : Array Value) (w : World), (Instr.makeFunc fn first cap).run Tryz.prog w = .ok (.func fn first cap) w := fun _ _ _ _ => rfl
  have hmk := run_made n hn
  go_enter_defers Tryz.func92, Tryz.ntmps92
  go_wp2
  go_loopw [14] (fun i wr => ∃ k : Nat, k ≤ n ∧ i = .int .i64 k ∧ wr.heap[w.heap.size]? = some (.cells #[.slice (some ⟨w.heap.size + 2, 0, none⟩) n n] 167 (0, 0)) ∧
      wr.heap[w.heap.size + 1]? = some (.cells #[.int .i64 0] 28 (0, 0)) ∧
      (∃ cs, wr.heap[w.heap.size + 2]? = some (.cells cs 197 (0, 0)) ∧ cs.size = n * 4 ∧ lie cs k (by_ S)) ∧ Below w.heap.size w wr)
    (fun i _ => n - (intOf i).toNat)
  case atStart =>
    have R := start_three w (.cells #[.slice (some ⟨w.heap.size + 2, 0, none⟩) n n] 167 (0, 0)) (.cells #[.int .i64 0] 28 (0, 0)) (.cells (made n) 197 (0, 0))
    exact ⟨0, Nat.zero_le _, rfl, R.1, R.2.1, ⟨made n, R.2.2.1, made_size n, lie_zero _ _⟩, R.2.2.2⟩
  case round =>
    obtain ⟨k, hk, rfl, h0, h1, ⟨cs, h2, hsz, hlie⟩, hbl⟩ := hrel
    have H1 : Hid _ := h1
    have H2 : Hid _ := h2
    have H0 : Hid _ := h0
    have hs1 := hbl.size
    have c0 := cell_of_one h0
    have hlt0 := lt_of_block h2
    by_cases hlt : k < n
    · have hck : wr.cell? ⟨b, o + k, none⟩ = some (.string (S k)) := by rw [hbl.cell (by exact hb)]; exact HC.out k hlt
      have hkI : (0 : Int) ≤ (k : Int) := by omega
      have hkI2 : (k : Int) < (n : Int) := by omega
      clear h0 h1 h2
      go_wp2_with fail
      go_region_held3 (fun w' => w'.cell? ⟨w.heap.size, 0, none⟩ = some (.slice (some ⟨w.heap.size + 2, 0, none⟩) n n)) (first | (go_keep; done) | exact hc1) (first | (go_at_call 129; refine (must_right' (S k) _ (HR.out k hlt)).mono ?_; rintro e w1 ⟨rfl, hb1⟩; have hc1 : w1.cell? ⟨w.heap.size, 0, none⟩ = some (.slice (some ⟨w.heap.size + 2, 0, none⟩) n n) := (by rw [hb1.cell (by show w.heap.size < wr.heap.size; omega)]; exact c0); obtain ⟨⟨v0, q0⟩, ⟨v1, q1⟩, ⟨v2, q2⟩, ⟨v3, q3⟩, f0, f1, f2, f3⟩ := four_at (below_block hb1 (k := w.heap.size + 2) H2.out (by show w.heap.size + 2 < wr.heap.size; omega)) (x := k * 4) (by omega)))
      go_wp2
      go_roundw
      case rel =>
        have R := rel_step S H0.out H1.out H2.out hsz hlie hlt hbl (undrew hb1)
        exact ⟨k + 1, by omega, by go_num, R.1, R.2.1, R.2.2.1, R.2.2.2⟩
      case measure => simp [intOf]; omega
    · have hkn : k = n := by omega
      subst hkn
      have f0 : wr.frozen? ⟨w.heap.size, 0, none⟩ = false := free_of h0
      have f1 : wr.frozen? ⟨w.heap.size + 1, 0, none⟩ = false := free_of h1
      have c1 := cell_of_one h1
      have hc0 : wr.cell? ⟨b, o, none⟩ = some (.string (S 0)) := by rw [hbl.cell (by exact hb)]; exact HC.out 0 hn0
      clear h0 h1 h2
      go_wp2
      go_loop [27] (fun i => ∃ j : Nat, j ≤ k ∧ i = .int .i64 j ∧ j ≤ m) (fun i => k - (intOf i).toNat)
      case atStart => exact ⟨0, Nat.zero_le _, rfl, Nat.zero_le _⟩
      case round =>
        obtain ⟨j, hj, rfl, hjm⟩ := hrel
        have hjn : j < k := by omega
        have hck : wr.cell? ⟨b, o + j, none⟩ = some (.string (S j)) := by rw [hbl.cell (by exact hb)]; exact HC.out j hjn
        by_cases hsame : (S j).size = (S 0).size
        · have hne : (((S j).size : Int) != ((S 0).size : Int)) = false := by rw [hsame]; simp
          have hjm2 : j < m := by
            have : j ≠ m := fun e => HW.out (by rw [← e]; exact hsame)
            omega
          clear hsame
          go_wp2
          go_round
          case rel => exact ⟨j + 1, by omega, by go_num, by omega⟩
          case measure => simp [intOf]; omega
        · have hne : (((S j).size : Int) != ((S 0).size : Int)) = true := by rw [bne_iff_ne]; omega
          clear hsame
          go_wp2
          refine leaves_cons (f := 128) (args := #[.pointer (some ⟨w.heap.size, 0, none⟩), .pointer (some ⟨w.heap.size + 1, 0, none⟩)]) (by simp) (by simp [go_sem]) ?_
          refine (catch_idle _ _ _).mono ?_
          rintro e u' w'' ⟨rfl, rfl, rfl⟩
          refine ⟨.tuple #[.slice none 0 0, .int .i64 11], ?_, rfl, ?_⟩
          · simp [results, Tryz.results92, go_sem, c0, c1]
          · exact (hbl.setCell (by simp) _).setCell (by simp) _
end Go.Proofs.YtemmhingmeinjaaGreatDoor.Cub
namespace Go.Proofs.YtemmhingmeinjaaGreatDoor.Cub
open Go.RowKit

def PanicOnly (D : List Deferred) (p2 p3 : Value) (wr : World) : Exit → Act → World → Prop
  | .panic c, a, w => c = noCube ∧ a.defers = D ∧ a.tmps[2]? = some p2 ∧ a.tmps[3]? = some p3 ∧ Below wr.heap.size wr w
  | _, _, _ => False
theorem PanicOnly.stable (D : List Deferred) (p2 p3 : Value) (wr : World) (d : Tmp) (v : Value) (h2 : d ≠ 2) (h3 : d ≠ 3) (c : List PanicEntry) (a : Act) (w : World)
    (h : PanicOnly D p2 p3 wr (.panic c) (a.put (some d) v) w) : PanicOnly D p2 p3 wr (.panic c) a w := by
  obtain ⟨e1, e2, e3, e4, e5⟩ := h
  refine ⟨e1, e2, ?_, ?_, e5⟩
  · simpa [Act.put, Array.getElem?_setIfInBounds_ne h2] using e3
  · simpa [Act.put, Array.getElem?_setIfInBounds_ne h3] using e4

set_option maxHeartbeats 1000000 in
theorem read_wrong (S : Nat → ByteArray) (n b o cap : Nat) (w : World) (hb : b < w.heap.size) (hc : ∀ i, i < n → w.cell? ⟨b, o + i, none⟩ = some (.string (S i)))
    (hn0 : 0 < n) (hn : n ≤ 1000000) (m : Nat) (hm : m < n) (hr : ∀ i, i < m → Cu.right (by_ S i) = true) (hw : Cu.right (by_ S m) = false) :
    Calls Tryz.prog 92 #[.slice (some ⟨b, o, none⟩) n cap] w fun e w' =>
      e = .returned (.tuple #[.slice none 0 0, .int .i64 10]) ∧ Below w.heap.size w w' := by
  have HC : Hid (∀ i, i < n → w.cell? ⟨b, o + i, none⟩ = some (.string (S i))) := hc
  have HR : Hid (∀ i, i < m → Cu.right (by_ S i) = true) := hr
  have HW : Hid (Cu.right (by_ S m) = false) := hw
  clear hc hr hw
  have hmf : ∀ (fn : Fn) (first cap : Array Value) (w : World), (Instr.makeFunc fn first cap).run Tryz.prog w = .ok (.func fn first cap) w := fun _ _ _ _ => rfl
  have hmk := run_made n hn
  go_enter_defers Tryz.func92, Tryz.ntmps92
  go_wp2
  go_loopw [14] (fun i wr => ∃ k : Nat, k ≤ m ∧ i = .int .i64 k ∧ wr.heap[w.heap.size]? = some (.cells #[.slice (some ⟨w.heap.size + 2, 0, none⟩) n n] 167 (0, 0)) ∧
      wr.heap[w.heap.size + 1]? = some (.cells #[.int .i64 0] 28 (0, 0)) ∧
      (∃ cs, wr.heap[w.heap.size + 2]? = some (.cells cs 197 (0, 0)) ∧ cs.size = n * 4 ∧ lie cs k (by_ S)) ∧ Below w.heap.size w wr)
    (fun i _ => n - (intOf i).toNat)
  case atStart =>
    have R := start_three w (.cells #[.slice (some ⟨w.heap.size + 2, 0, none⟩) n n] 167 (0, 0)) (.cells #[.int .i64 0] 28 (0, 0)) (.cells (made n) 197 (0, 0))
    exact ⟨0, Nat.zero_le _, rfl, R.1, R.2.1, ⟨made n, R.2.2.1, made_size n, lie_zero _ _⟩, R.2.2.2⟩
  case round =>
    obtain ⟨k, hk, rfl, h0, h1, ⟨cs, h2, hsz, hlie⟩, hbl⟩ := hrel
    have H1 : Hid _ := h1
    have H2 : Hid _ := h2
    have H0 : Hid _ := h0
    have hs1 := hbl.size
    have c0 := cell_of_one h0
    have hlt0 := lt_of_block h2
    have hlt : k < n := by omega
    by_cases hkm : k < m
    · have hck : wr.cell? ⟨b, o + k, none⟩ = some (.string (S k)) := by rw [hbl.cell (by exact hb)]; exact HC.out k hlt
      have hkI : (0 : Int) ≤ (k : Int) := by omega
      have hkI2 : (k : Int) < (n : Int) := by omega
      clear h0 h1 h2
      go_wp2_with fail
      go_region_held3 (fun w' => w'.cell? ⟨w.heap.size, 0, none⟩ = some (.slice (some ⟨w.heap.size + 2, 0, none⟩) n n)) (first | (go_keep; done) | exact hc1) (first | (go_at_call 129; refine (must_right' (S k) _ (HR.out k hkm)).mono ?_; rintro e w1 ⟨rfl, hb1⟩; have hc1 : w1.cell? ⟨w.heap.size, 0, none⟩ = some (.slice (some ⟨w.heap.size + 2, 0, none⟩) n n) := (by rw [hb1.cell (by show w.heap.size < wr.heap.size; omega)]; exact c0); obtain ⟨⟨v0, q0⟩, ⟨v1, q1⟩, ⟨v2, q2⟩, ⟨v3, q3⟩, f0, f1, f2, f3⟩ := four_at (below_block hb1 (k := w.heap.size + 2) H2.out (by show w.heap.size + 2 < wr.heap.size; omega)) (x := k * 4) (by omega)))
      go_wp2
      go_roundw
      case rel =>
        have R := rel_step S H0.out H1.out H2.out hsz hlie hlt hbl (undrew hb1)
        exact ⟨k + 1, by omega, by go_num, R.1, R.2.1, R.2.2.1, R.2.2.2⟩
      case measure => simp [intOf]; omega
    · have hkn : k = m := by omega
      subst hkn
      have f0 : wr.frozen? ⟨w.heap.size, 0, none⟩ = false := free_of h0
      have f1 : wr.frozen? ⟨w.heap.size + 1, 0, none⟩ = false := free_of h1
      have c1 := cell_of_one h1
      have hck : wr.cell? ⟨b, o + k, none⟩ = some (.string (S k)) := by rw [hbl.cell (by exact hb)]; exact HC.out k hlt
      have hkI : (0 : Int) ≤ (k : Int) := by omega
      have hkI2 : (k : Int) < (n : Int) := by omega
      clear h0 h1 h2
      go_wp2_with fail
      refine Code.wp_mono (Q := PanicOnly [{ target := Target.fn (Fn.func 128) #[.pointer (some ⟨w.heap.size, 0, none⟩), .pointer (some ⟨w.heap.size + 1, 0, none⟩)], args := #[] }] (.pointer (some ⟨w.heap.size, 0, none⟩)) (.pointer (some ⟨w.heap.size + 1, 0, none⟩)) wr) ?_ ?_
      · intro e a w2 hq
        cases e with
        | panic c =>
          obtain ⟨rfl, hd, hp2, hp3, hbw⟩ := hq
          show Leaves Tryz.prog Tryz.f92 a.tmps _ a.defers (.panicking noCube) w2
          rw [hd]
          have g0 := below_block hbw H0.out (lt_of_block H0.out)
          have g1 := below_block hbw H1.out (lt_of_block H1.out)
          refine leaves_cons (f := 128) (args := #[.pointer (some ⟨w.heap.size, 0, none⟩), .pointer (some ⟨w.heap.size + 1, 0, none⟩)]) (by simp) (by simp [go_sem]) ?_
          refine (catch_panicking ⟨w.heap.size, 0, none⟩ ⟨w.heap.size + 1, 0, none⟩ _ _ (.int .i64 10) [] w2 (cell_of_one g0) (free_of g0) (cell_of_one g1) (free_of g1) (by simp)).mono ?_
          rintro e u' w3 ⟨rfl, rfl, rfl⟩
          refine ⟨.tuple #[.slice none 0 0, .int .i64 10], ?_, rfl, ?_⟩
          · have k0 : ((w2.setCell ⟨w.heap.size, 0, none⟩ (.slice none 0 0)).setCell ⟨w.heap.size + 1, 0, none⟩ (.int .i64 10)).cell? ⟨w.heap.size, 0, none⟩ = some (.slice none 0 0) := by
              rw [World.cell?_setCell_other _ _ _ _ (by simp)]; exact World.cell?_setCell_same _ _ _ (cell_of_one g0)
            have k1 : ((w2.setCell ⟨w.heap.size, 0, none⟩ (.slice none 0 0)).setCell ⟨w.heap.size + 1, 0, none⟩ (.int .i64 10)).cell? ⟨w.heap.size + 1, 0, none⟩ = some (.int .i64 10) := by
              refine World.cell?_setCell_same _ _ _ (u := .int .i64 0) ?_
              rw [World.cell?_setCell_other _ _ _ _ (by simp)]; exact cell_of_one g1
            simp [results, Tryz.results92, go_sem, hp2, hp3, k0, k1]
          · exact ((hbl.trans (hbw.mono hs1)).setCell (by simp) _).setCell (by simp) _
        | normal => exact hq.elim
        | ret => exact hq.elim
        | exit _ => exact hq.elim
        | goto _ => exact hq.elim
        | outgrown => exact hq.elim
      · refine wp_region_any (by kernel_rfl) ?_
        change wpAny _ _ _ _ _ _ _ (World.drew _)
        refine wpAny_take (i := 1) (v := .int .i64 (k : Int)) rfl (by kernel_rfl) (by kernel_rfl) (by kernel_rfl) (fun c a w h => PanicOnly.stable _ _ _ _ 20 _ (by decide) (by decide) c a w h) (Or.inl ⟨by rfl, fun w => by go_simp⟩) ?_
        refine wpAny_take (i := 2) (v := .string (S k)) rfl (by kernel_rfl) (by kernel_rfl) (by kernel_rfl) (fun c a w h => PanicOnly.stable _ _ _ _ 21 _ (by decide) (by decide) c a w h) (Or.inl ⟨by rfl, fun w => by go_simp⟩) ?_
        refine wpAny_ready (rs := [0, 3]) (by kernel_rfl) (by simp) ?_
        refine AllReady.cons rfl (fun K hK => ?_) ?_
        · go_simp
          refine hK _ _ ?_
          clear hK K
          refine wpAny_ready (rs := [3]) (by kernel_rfl) (by simp) ?_
          refine AllReady.cons rfl (fun K hK => ?_) AllReady.nil
          go_simp
          refine (must_wrong (S k) _ HW.out).mono ?_
          rintro e w1 ⟨rfl, hb1⟩
          exact ⟨rfl, rfl, rfl, rfl, undrew hb1⟩
        · refine AllReady.cons rfl (fun K hK => ?_) AllReady.nil
          go_simp
          refine (must_wrong (S k) _ HW.out).mono ?_
          rintro e w1 ⟨rfl, hb1⟩
          exact ⟨rfl, rfl, rfl, rfl, undrew hb1⟩
end Go.Proofs.YtemmhingmeinjaaGreatDoor.Cub
namespace Go.Proofs.YtemmhingmeinjaaGreatDoor.Cub
open Go.RowKit

def chkE (c : ByteArray) : Int := if Cu.right c.data.toList = true then 0 else 10
theorem chk_cell (w : World) (c : ByteArray) : ∀ i, i < 1 → (w.alloc (.cells #[.string c] 9)).cell? ⟨w.heap.size, 0 + i, none⟩ = some (.string ((fun _ => c) i)) := by
  intro i hi
  have h := new_0 w (.cells #[.string c] 9)
  have : i = 0 := by omega
  subst this
  unfold World.cell?
  rw [h]; rfl

set_option maxHeartbeats 400000 in
theorem check_any (c : ByteArray) (w : World) : Calls Tryz.prog 57 #[.string c] w fun e w' => e = .returned (.int .i64 (chkE c)) ∧ Below w.heap.size w w' := by
  cases h : Cu.right c.data.toList
  · have e0 : chkE c = 10 := if_neg (by rw [h]; simp)
    rw [e0]
    have H : Hid (Cu.right c.data.toList = false) := h
    clear h e0
    go_enter Tryz.func57, Tryz.ntmps57
    go_wp2_with fail
    refine (read_wrong (fun _ => c) 1 w.heap.size 0 1 (w.alloc (.cells #[.string c] 9)) (by simp) (chk_cell w c) (by omega) (by omega) 0 (by omega) (fun i hi => absurd hi (Nat.not_lt_zero i)) H.out).mono ?_
    rintro e w1 ⟨rfl, hb1⟩
    go_wp2
    go_ret
    exact ⟨rfl, ((Below.refl _ _).alloc (Nat.le_refl _) _).trans (hb1.mono (by simp))⟩
  · have e0 : chkE c = 0 := if_pos h
    rw [e0]
    have H : Hid (Cu.right c.data.toList = true) := h
    clear h e0
    go_enter Tryz.func57, Tryz.ntmps57
    go_wp2_with fail
    refine (read_right (fun _ => c) 1 w.heap.size 0 1 (w.alloc (.cells #[.string c] 9)) (by simp) (chk_cell w c) (by omega) (by omega) (fun _ _ => H.out) (fun _ _ => rfl)).mono ?_
    rintro e w1 ⟨rfl, _, hb1⟩
    go_wp2
    go_ret
    exact ⟨rfl, ((Below.refl _ _).alloc (Nat.le_refl _) _).trans (hb1.mono (by simp))⟩
end Go.Proofs.YtemmhingmeinjaaGreatDoor.Cub
namespace Go.Proofs.YtemmhingmeinjaaGreatDoor
open Go.RowKit
open Wo (Wd)

theorem tx_list (l : List UInt8) : (tx l).data.toList = l := by simp
theorem uNumber (l : List UInt8) (w : World) (h : l.length ≤ 1048576) : Calls Tryz.prog 143 #[.string (tx l)] w fun e w' => e = .returned (.tuple #[.int .i64 (Wo.numV l), .int .i64 (Wo.numE l)]) ∧ w' = w := by
  have := Number_any (tx l) w (by rw [tx_size]; unfold maxLen; omega)
  rw [tx_list] at this
  exact this
theorem uName (l : List UInt8) (w : World) (h : l.length ≤ 1048576) : Calls Tryz.prog 94 #[.string (tx l)] w fun e w' => e = .returned (.bool (Wo.nameB l)) ∧ w' = w := by
  have := Name_any (tx l) w (by rw [tx_size]; unfold maxLen; omega)
  rw [tx_list] at this
  exact this
theorem uCheck (l : List UInt8) (w : World) : Calls Tryz.prog 57 #[.string (tx l)] w fun e w' => e = .returned (.int .i64 (if Cub.Cu.right l = true then 0 else 10)) ∧ Below w.heap.size w w' := by
  have := Cub.check_any (tx l) w
  unfold Cub.chkE at this
  rw [tx_list] at this
  exact this
theorem numE_ok {l : List UInt8} (h : Wo.numB l = true) : Wo.numE l = 0 := if_pos h
theorem numE_no {l : List UInt8} (h : Wo.numB l = false) : Wo.numE l = 32 := if_neg (by rw [h]; simp)

theorem numE_two (l : List UInt8) : (Wo.numE l = 0 ∧ Wo.numB l = true) ∨ (Wo.numE l = 32 ∧ Wo.numB l = false) := by
  rcases bool_two (Wo.numB l) with h | h
  · exact Or.inr ⟨numE_no h, h⟩
  · exact Or.inl ⟨numE_ok h, h⟩
theorem word_kept {w1 w2 : World} {x : Wd} (hb : Below (w1.alloc (wob x)).drew.heap.size (w1.alloc (wob x)).drew w2) : w2.cell? ⟨w1.heap.size, 0, none⟩ = some (.string (tx x.1)) ∧ w2.cell? ⟨w1.heap.size, 1, none⟩ = some (.int .i64 x.2.1) ∧ w2.cell? ⟨w1.heap.size, 2, none⟩ = some (.int .i64 x.2.2) := by
  have h0 : (w1.alloc (wob x)).drew.heap[w1.heap.size]? = some (wob x) := new_0 w1 (wob x)
  have h1 := below_block hb h0 (lt_of_block h0)
  exact ⟨by rw [cell_at h1]; rfl, by rw [cell_at h1]; rfl, by rw [cell_at h1]; rfl⟩
structure RdOn (w0 w : World) (rb g width : Nat) (l : List Wd) (e : Wd) : Prop where
  rd : RdAt w rb g width l e
  on : w0.grownBy w (some rb)
theorem RdOn.alloc {w0 w : World} {rb g width : Nat} {l : List Wd} {e : Wd} (h : RdOn w0 w rb g width l e) (o : Obj) : RdOn w0 (w.alloc o) rb g width l e := ⟨h.rd.alloc o, grown_two h.on (grown_alloc _ _ _)⟩
theorem RdOn.below {w0 w w' : World} {rb g width : Nat} {l : List Wd} {e : Wd} (h : RdOn w0 w rb g width l e) (hb : Below w.heap.size w w') : RdOn w0 w' rb g width l e := ⟨h.rd.grown hb, grown_two h.on (grown_of_below _ hb)⟩
theorem RdOn.drew {w0 w : World} {rb g width : Nat} {l : List Wd} {e : Wd} (h : RdOn w0 w rb g width l e) : RdOn w0 w.drew rb g width l e := h.below (Below.refl _ _).drew
theorem RdOn.start {w : World} {rb g width : Nat} {l : List Wd} {e : Wd} (h : RdAt w rb g width l e) : RdOn w w rb g width l e := ⟨h, grown_refl _ _⟩
theorem RdAt.width {w : World} {rb g width : Nat} {l : List Wd} {e : Wd} (h : RdAt w rb g width l e) : w.cell? ⟨rb, 0, none⟩ = some (.int .i64 width) := by
  obtain ⟨o, cap, f0, f1, f2, hc, _⟩ := h.ex
  rw [cell_at hc]; rfl
theorem by_true {p : Prop} {b : Bool} (hq : Hid (b = true ↔ p)) (hb : Hid (b = true)) : p := hq.out.1 hb.out
theorem by_false {q b : Bool} (hq : Hid (b = true ↔ q = true)) (hb : Hid (b = false)) : q = false := by
  cases q with
  | false => rfl
  | true => exact absurd (hq.out.2 rfl) (by rw [hb.out]; simp)
theorem len_eq {a b : Nat} (h : Hid (((a : Int) == (b : Int)) = true)) : a = b := by have := h.out; simp at this; omega
theorem len_ne {a b : Nat} (h : Hid (((a : Int) == (b : Int)) = false)) : a ≠ b := by have := h.out; simp at this; omega
theorem umust_on {w0 w : World} {rb g width : Nat} {l : List Wd} {e0 : Wd} (hR : RdOn w0 w rb g width l e0) (b : Bool) (x : Wd) (e : Nat) :
    Calls Tryz.prog 72 #[.pointer (some ⟨rb, 0, none⟩), .bool b, wv x, .int .i64 e] w fun en w' => (Hid (b = true) ∧ en = .returned (.tuple #[]) ∧ w' = w.alloc (wob x)) ∨ (Hid (b = false) ∧ Gave w0 rb (Ru.ft x e) en w') :=
  (umust_two hR.rd b x e).mono fun _ _ h => h.elim (fun h => Or.inl h) (fun h => Or.inr ⟨h.1, h.2.after hR.on⟩)
theorem unext_on {w0 w : World} {rb g width : Nat} {l : List Wd} {e : Wd} (hR : RdOn w0 w rb g width l e) :
    Calls Tryz.prog 142 #[.pointer (some ⟨rb, 0, none⟩)] w fun en w' => en = .returned (wv (Ru.nx e l)) ∧ Hid (RdOn w0 w' rb g width l.tail e) :=
  (unext_any hR.rd).mono fun _ _ h => ⟨h.1, h.2.1, grown_two hR.on h.2.2⟩

set_option maxHeartbeats 1000000 in
theorem upriority {w : World} {rb g width : Nat} {l : List Wd} {e : Wd} (hR : RdAt w rb g width l e) (hx : (Ru.nx e l).1.length ≤ 1048576) :
    Calls Tryz.prog 108 #[.pointer (some ⟨rb, 0, none⟩)] w fun en w' =>
      (Wo.numB (Ru.nx e l).1 = true ∧ en = .returned (.int .i64 (Wo.numV (Ru.nx e l).1)) ∧ RdOn w w' rb g width l.tail e) ∨ (Wo.numB (Ru.nx e l).1 = false ∧ Gave w rb (Ru.ft (Ru.nx e l) 32) en w') := by
  have HN := hid (unext_on (RdOn.start hR))
  obtain ⟨x, hx0⟩ : ∃ x, x = Ru.nx e l := ⟨_, rfl⟩
  rw [← hx0] at HN hx ⊢
  clear hx0 hR
  have HU := hid (fun w => uNumber x.1 w hx)
  rcases numE_two x.1 with ⟨he, hb⟩ | ⟨he, hb⟩
  · rw [he] at HU
    have HB := hid hb
    clear he hb
    go_enter Tryz.func108, Tryz.ntmps108
    go_wp2_with fail
    refine HN.out.mono ?_
    rintro en w1 ⟨rfl, H⟩
    go_wp2_with fail
    refine (HU.out _).mono ?_
    rintro en w2 ⟨rfl, rfl⟩
    go_wp2_with fail
    refine (umust_yes _ _ _ _).mono ?_
    rintro en w2 ⟨rfl, rfl⟩
    go_wp2
    go_ret
    exact Or.inl ⟨HB.out, rfl, (H.out.alloc _).alloc _⟩
  · rw [he] at HU
    have HB := hid hb
    clear he hb
    go_enter Tryz.func108, Tryz.ntmps108
    go_wp2_with fail
    refine HN.out.mono ?_
    rintro en w1 ⟨rfl, H⟩
    go_wp2_with fail
    refine (HU.out _).mono ?_
    rintro en w2 ⟨rfl, rfl⟩
    go_wp2_with fail
    refine (umust_no (H.out.alloc _).rd x 32).mono ?_
    rintro en w2 ⟨q, rfl, hf, hg⟩
    exact ⟨rfl, Or.inr ⟨HB.out, q, rfl, hf, grown_two (H.out.alloc _).on hg⟩⟩

set_option maxHeartbeats 1000000 in
theorem uport {w : World} {rb g width : Nat} {l : List Wd} {e : Wd} (hR : RdAt w rb g width l e) (hx : (Ru.nx e l).1.length ≤ 1048576) :
    Calls Tryz.prog 170 #[.pointer (some ⟨rb, 0, none⟩)] w fun en w' =>
      (Wo.nameB (Ru.nx e l).1 = true ∧ en = .returned (.string (tx (Ru.nx e l).1)) ∧ RdOn w w' rb g width l.tail e) ∨ (Wo.nameB (Ru.nx e l).1 = false ∧ Gave w rb (Ru.ft (Ru.nx e l) 31) en w') := by
  have HN := hid (unext_on (RdOn.start hR))
  obtain ⟨x, hx0⟩ : ∃ x, x = Ru.nx e l := ⟨_, rfl⟩
  rw [← hx0] at HN hx ⊢
  clear hx0 hR
  have HU := hid (fun w => uName x.1 w hx)
  obtain ⟨b, hb⟩ : ∃ b, b = Wo.nameB x.1 := ⟨_, rfl⟩
  rw [← hb] at HU ⊢
  clear hb
  go_enter Tryz.func170, Tryz.ntmps170
  go_wp2_with fail
  refine HN.out.mono ?_
  rintro en w1 ⟨rfl, H⟩
  go_wp2_with fail
  go_region_held2 (fun w' => w'.cell? ⟨w1.heap.size, 0, none⟩ = some (.string (tx x.1)) ∧ w'.cell? ⟨w1.heap.size, 1, none⟩ = some (.int .i64 x.2.1) ∧ w'.cell? ⟨w1.heap.size, 2, none⟩ = some (.int .i64 x.2.2)) (go_keep) (first | (go_at_call 72; refine (umust_on (H.out.alloc _).drew b x 31).mono ?_; rintro en w2 (⟨HB, rfl, rfl⟩ | ⟨HB, q, rfl, hf, hg⟩); rotate_left; (exact ⟨rfl, Or.inr ⟨HB.out, q, rfl, hf, hg⟩⟩)) | (go_at_call 94; refine (HU.out _).mono ?_; rintro en w2 ⟨rfl, rfl⟩))
  go_wp2
  go_ret
  exact Or.inl ⟨HB.out, rfl, (H.out.alloc _).drew.alloc _⟩

theorem chk_two (l : List UInt8) : (if Cub.Cu.right l = true then (0 : Int) else 10) = 0 ∧ Cub.Cu.right l = true ∨ (if Cub.Cu.right l = true then (0 : Int) else 10) = 10 ∧ Cub.Cu.right l = false := by
  rcases bool_two (Cub.Cu.right l) with h | h
  · exact Or.inr ⟨if_neg (by rw [h]; simp), h⟩
  · exact Or.inl ⟨if_pos h, h⟩

set_option maxHeartbeats 1000000 in
theorem umatch {w : World} {rb g width : Nat} {l : List Wd} {e : Wd} (hR : RdAt w rb g width l e) :
    Calls Tryz.prog 109 #[.pointer (some ⟨rb, 0, none⟩)] w fun en w' =>
      (Cub.Cu.right (Ru.nx e l).1 = true ∧ (Ru.nx e l).1.length = width ∧ en = .returned (.string (tx (Ru.nx e l).1)) ∧ RdOn w w' rb g width l.tail e) ∨
      (Cub.Cu.right (Ru.nx e l).1 = false ∧ Gave w rb (Ru.ft (Ru.nx e l) 10) en w') ∨
      (Cub.Cu.right (Ru.nx e l).1 = true ∧ (Ru.nx e l).1.length ≠ width ∧ Gave w rb (Ru.ft (Ru.nx e l) 11) en w') := by
  have HN := hid (unext_on (RdOn.start hR))
  obtain ⟨x, hx0⟩ : ∃ x, x = Ru.nx e l := ⟨_, rfl⟩
  rw [← hx0] at HN ⊢
  clear hx0 hR
  have HU := hid (fun w => uCheck x.1 w)
  have HQ : Hid (((if Cub.Cu.right x.1 = true then (0 : Int) else 10) == 0) = true ↔ Cub.Cu.right x.1 = true) := by
    show _ ↔ _
    rcases chk_two x.1 with ⟨h1, h2⟩ | ⟨h1, h2⟩ <;> rw [h1, h2] <;> decide
  obtain ⟨c, hc⟩ : ∃ c, c = (if Cub.Cu.right x.1 = true then (0 : Int) else 10) := ⟨_, rfl⟩
  rw [← hc] at HU HQ
  clear hc
  go_enter Tryz.func109, Tryz.ntmps109
  go_wp2_with fail
  refine HN.out.mono ?_
  rintro en w1 ⟨rfl, H⟩
  go_wp2_with fail
  go_region_held2 (fun w' => w'.cell? ⟨w1.heap.size, 0, none⟩ = some (.string (tx x.1)) ∧ w'.cell? ⟨w1.heap.size, 1, none⟩ = some (.int .i64 x.2.1) ∧ w'.cell? ⟨w1.heap.size, 2, none⟩ = some (.int .i64 x.2.2)) (first | (go_keep; done) | exact hS) (first | (go_at_call 72; refine (umust_on H2.out _ x 10).mono ?_; rintro en w3 (⟨HB, rfl, rfl⟩ | ⟨HB, q, rfl, hf, hg⟩); rotate_left; (exact ⟨rfl, Or.inr (Or.inl ⟨by_false HQ HB, q, rfl, hf, hg⟩)⟩)) | (go_at_call 57; refine (HU.out _).mono ?_; rintro en w2 ⟨rfl, hb2⟩; have hS := word_kept hb2; have H2 := hid ((H.out.alloc (wob x)).drew.below hb2)))
  have H3 := hid (H2.out.alloc (wob x))
  have cw := H3.out.rd.width
  have hS3 : Hid ((w2.alloc (wob x)).cell? ⟨w1.heap.size, 0, none⟩ = some (.string (tx x.1)) ∧ (w2.alloc (wob x)).cell? ⟨w1.heap.size, 1, none⟩ = some (.int .i64 x.2.1) ∧ (w2.alloc (wob x)).cell? ⟨w1.heap.size, 2, none⟩ = some (.int .i64 x.2.2)) := by
    have hlt : w1.heap.size < w2.heap.size := by have := hb2.size; simp at this; omega
    exact ⟨alloc_cell hS.1 hlt _, alloc_cell hS.2.1 hlt _, alloc_cell hS.2.2 hlt _⟩
  obtain ⟨s0, s1, s2⟩ := hS3.out
  clear hS3 hS hb2
  go_wp2_with fail
  go_region_held2 (fun w' => w'.cell? ⟨w1.heap.size, 0, none⟩ = some (.string (tx x.1)) ∧ w'.cell? ⟨w1.heap.size, 1, none⟩ = some (.int .i64 x.2.1) ∧ w'.cell? ⟨w1.heap.size, 2, none⟩ = some (.int .i64 x.2.2) ∧ w'.cell? ⟨rb, 0, none⟩ = some (.int .i64 width)) (first | (go_keep; done)) (first | (go_at_call 72; refine (umust_on H3.out.drew _ x 11).mono ?_; rintro en w3 (⟨HL, rfl, rfl⟩ | ⟨HL, q, rfl, hf, hg⟩); rotate_left; (exact ⟨rfl, Or.inr (Or.inr ⟨by_true HQ HB, len_ne HL, q, rfl, hf, hg⟩)⟩)))
  go_wp2
  go_ret
  exact Or.inl ⟨by_true HQ HB, len_eq HL, rfl, H3.out.drew.alloc _⟩
end Go.Proofs.YtemmhingmeinjaaGreatDoor
