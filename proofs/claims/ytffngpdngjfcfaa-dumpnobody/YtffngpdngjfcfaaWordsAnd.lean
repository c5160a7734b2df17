/-
  tell: the ref of a node; find: the nodes of refs.
  New: an empty table.
  Check of package cube, as a table calls it.
  read: a text that is no cube: the panic of mustBeCube, caught.
  read: texts into ternaries.
  mustBeCube: the ternary of a cube; a panic with ErrCube at a text that is none.
-/
import Derived.Test.YtffngpdngjfcfaaBIteAnd
import Derived.Defers
import Derived.Recover
import Derived.Deep.RegionHeld3
import Derived.Deep.RegionWith
import Derived.Deep.DrawnRows
namespace Go.Proofs.Ytffngpdngjfcfaa
open Go.RowKit

/-- The cells of a cube's ternary. -/
abbrev tc (l : List UInt8) : Array Value := c4 (Cu.fixAt l) (Cu.oneAt l)

theorem take_snoc (s : ByteArray) (k : Nat) (h : k < s.size) : s.data.toList.take (k + 1) = s.data.toList.take k ++ [s[k]] := by
  rw [List.take_succ_eq_append_getElem (by simpa using h)]; rfl
theorem take_len (s : ByteArray) (k : Nat) (h : k ≤ s.size) : (s.data.toList.take k).length = k := by
  rw [List.length_take]; simp; exact Nat.min_eq_left h
theorem grown_block {w w' : World} {r : Nat} (g : w.grownBy w' (some r)) {k : Nat} {o : Obj} (h : w.heap[k]? = some o) (hne : k ≠ r) : w'.heap[k]? = some o :=
  (g.block k (lt_of_block h) (by simp [hne])).trans h
theorem below_grown {B r : Nat} {w w1 w2 : World} (h : Below B w w1) (g : w1.grownBy w2 (some r)) (h1 : B ≤ w1.heap.size) (h2 : B ≤ r) : Below B w w2 :=
  h.grown g h1 (fun k hk => by simp at hk; omega)

theorem tc_snoc_fix (l : List UInt8) (c : UInt8) (h : c = 48 ∨ c = 49) : tc (l ++ [c]) = c4 (Cu.updw (Cu.fixAt l) l.length) (Cu.setOne (Cu.oneAt l) l.length (c == 49)) := by
  rw [tc, Cu.fixAt_snoc l c h, Cu.oneAt_snoc]
theorem tc_snoc_x (l : List UInt8) : tc (l ++ [120]) = tc l := by
  rw [tc, Cu.fixAt_snoc_x, Cu.oneAt_snoc_x]
theorem tc_nil : tc [] = #[.int .u64 0, .int .u64 0, .int .u64 0, .int .u64 0] := by
  have e : Cu.wd (Cu.fixAt []) = fun _ => 0 := by
    funext k
    symm
    exact Cu.wd_eq (by omega) (fun i _ => by simp [Cu.fixAt])
  have e2 : Cu.wd (Cu.oneAt []) = fun _ => 0 := by
    funext k
    symm
    exact Cu.wd_eq (by omega) (fun i _ => by simp [Cu.oneAt])
  simp [tc, c4, e, e2]

set_option maxHeartbeats 400000 in
theorem must_right (s : ByteArray) (w : World) (hs : Cu.right s.data.toList = true) :
    Calls Try.prog 103 #[.string s] w fun e w' =>
      e = .returned (.agg (tc s.data.toList)) ∧ Below w.heap.size w w' := by
  have hr := hs
  simp only [Cu.right, Bool.and_eq_true, decide_eq_true_eq, Array.length_toList] at hr
  obtain ⟨⟨hall, h1⟩, h2⟩ := hr
  have h1' : 1 ≤ s.size := h1
  have h2' : s.size ≤ 128 := h2
  have hd1 : decide ((s.size : Int) < 1) = false := by simp; omega
  have hd2 : decide (128 < (s.size : Int)) = false := by simp; omega
  clear h1 h2 hs
  have HA : Hid (s.data.toList.all Cu.sym = true) := hall
  clear hall
  go_enter Try.func103, Try.ntmps103
  go_wp2
  go_loopw [16] (fun i wr => ∃ k : Nat, k ≤ s.size ∧ i = .int .i64 k ∧ wr.heap[w.heap.size + 1]? = some (.cells (tc (s.data.toList.take k)) 169 (0, 0)) ∧
      wr.heap[w.heap.size]? = some (.cells #[.int .u64 0, .int .u64 0, .int .u64 0, .int .u64 0] 169 (0, 0)) ∧ Below w.heap.size w wr)
    (fun i _ => s.size - (intOf i).toNat)
  case atStart =>
    refine ⟨0, Nat.zero_le _, rfl, ?_, ?_, ((Below.refl _ _).alloc (Nat.le_refl _) _).alloc (by simp) _⟩
    · rw [List.take_zero, tc_nil]
      exact new_1 _ _ _
    · exact new_old _ _ (new_0 _ _)
  case round =>
    obtain ⟨k, hk, rfl, ht, hz, hb⟩ := hrel
    have HT : Hid _ := ht
    have HZ : Hid _ := hz
    by_cases hlt : k < s.size
    · clear ht hz
      have hsym : Cu.sym s[k] = true := by
        have := HA.out
        rw [List.all_eq_true] at this
        refine this _ ?_
        show s.data[k] ∈ s.data.toList
        simp
      have HS : Hid (s.data.toList.take (k + 1) = s.data.toList.take k ++ [s[k]]) := take_snoc s k hlt
      have HL : Hid ((s.data.toList.take k).length = k) := take_len s k hk
      have hs1 := hb.size
      rcases Cu.sym_cases hsym with hc | hc | hc
      · have hcn : (s[k].toNat : Int) = 48 := by rw [hc]; rfl
        have HC : Hid (s[k] = 48) := hc
        clear hc hsym
        go_wp2_with fail
        refine (fix_any _ _ k _ false wr (by omega) HT.out).mono ?_
        rintro e w1 ⟨rfl, hn, g1⟩
        have HN : Hid _ := hn
        clear hn
        go_wp2
        go_roundw
        case rel =>
          refine ⟨k + 1, by omega, by go_num, ?_, grown_block g1 HZ.out (by omega), below_grown hb g1 hs1 (by omega)⟩
          rw [HS.out, HC.out, tc_snoc_fix _ _ (Or.inl rfl), HL.out]
          exact HN.out
        case measure => simp [intOf]; omega
      · have hcn : (s[k].toNat : Int) = 49 := by rw [hc]; rfl
        have HC : Hid (s[k] = 49) := hc
        clear hc hsym
        go_wp2_with fail
        refine (fix_any _ _ k _ true wr (by omega) HT.out).mono ?_
        rintro e w1 ⟨rfl, hn, g1⟩
        have HN : Hid _ := hn
        clear hn
        go_wp2
        go_roundw
        case rel =>
          refine ⟨k + 1, by omega, by go_num, ?_, grown_block g1 HZ.out (by omega), below_grown hb g1 hs1 (by omega)⟩
          rw [HS.out, HC.out, tc_snoc_fix _ _ (Or.inr rfl), HL.out]
          exact HN.out
        case measure => simp [intOf]; omega
      · have hcn : (s[k].toNat : Int) = 120 := by rw [hc]; rfl
        have HC : Hid (s[k] = 120) := hc
        clear hc hsym
        go_wp2
        go_roundw
        case rel =>
          refine ⟨k + 1, by omega, by go_num, ?_, HZ.out, hb⟩
          rw [HS.out, HC.out, tc_snoc_x]
          exact HT.out
        case measure => simp [intOf]; omega
    · have hkk : k = s.size := by omega
      subst hkk
      have HE : Hid (s.data.toList.take s.size = s.data.toList) := by
        show _ = _
        rw [List.take_of_length_le (by simp)]
      obtain ⟨t0, t1, t2, t3⟩ := four_cell ht
      obtain ⟨z0, z1, z2, z3⟩ := four_cell hz
      have f0 : wr.frozen? ⟨w.heap.size, 0, none⟩ = false := free_of hz
      have f1 : wr.frozen? ⟨w.heap.size, 1, none⟩ = false := free_of hz
      have f2 : wr.frozen? ⟨w.heap.size, 2, none⟩ = false := free_of hz
      have f3 : wr.frozen? ⟨w.heap.size, 3, none⟩ = false := free_of hz
      clear ht hz
      go_wp2
      refine bodyPost_ret (v := .agg (tc (s.data.toList.take s.size))) ?_ rfl ⟨by rw [HE.out], ?_⟩
      · simp [results, Try.results103, go_sem, z0, z1, z2, z3, c4]
      · exact (((hb.setCell (by simp) _).setCell (by simp) _).setCell (by simp) _).setCell (by simp) _

/-- A ternary's value, written out. -/
abbrev tv (l : List UInt8) : Value := .agg #[.int .u64 (Cu.wd (Cu.fixAt l) 0 : Int), .int .u64 (Cu.wd (Cu.fixAt l) 1 : Int), .int .u64 (Cu.wd (Cu.oneAt l) 0 : Int), .int .u64 (Cu.wd (Cu.oneAt l) 1 : Int)]

theorem must_right' (s : ByteArray) (w : World) (hs : Cu.right s.data.toList = true) :
    Calls Try.prog 103 #[.string s] w fun e w' => e = .returned (tv s.data.toList) ∧ Below w.heap.size w w' := must_right s w hs

/-- The panic of a text that is no cube. -/
abbrev noCube : List PanicEntry := [{ v := .iface 30 (.int .i64 10), recovered := false }]

set_option maxHeartbeats 400000 in
theorem must_size (s : ByteArray) (w : World) (hs : s.size < 1 ∨ 128 < s.size) :
    Calls Try.prog 103 #[.string s] w fun e w' => e = .panicked noCube ∧ Below w.heap.size w w' := by
  rcases hs with hs | hs
  · have hd1 : decide ((s.size : Int) < 1) = true := by simp; omega
    go_enter Try.func103, Try.ntmps103
    go_wp2
    exact ⟨rfl, rfl, (Below.refl _ _).alloc (Nat.le_refl _) _⟩
  · have hd1 : decide ((s.size : Int) < 1) = false := by simp; omega
    have hd2 : decide (128 < (s.size : Int)) = true := by simp; omega
    go_enter Try.func103, Try.ntmps103
    go_wp2
    exact ⟨rfl, rfl, (Below.refl _ _).alloc (Nat.le_refl _) _⟩

set_option maxHeartbeats 400000 in
theorem must_sym (s : ByteArray) (w : World) (h1' : 1 ≤ s.size) (h2' : s.size ≤ 128) (hall : s.data.toList.all Cu.sym = false) :
    Calls Try.prog 103 #[.string s] w fun e w' => e = .panicked noCube ∧ Below w.heap.size w w' := by
  have hd1 : decide ((s.size : Int) < 1) = false := by simp; omega
  have hd2 : decide (128 < (s.size : Int)) = false := by simp; omega
  have HA : Hid (s.data.toList.all Cu.sym = false) := hall
  clear hall
  go_enter Try.func103, Try.ntmps103
  go_wp2
  go_loopw [16] (fun i wr => ∃ k : Nat, k ≤ s.size ∧ i = .int .i64 k ∧ (∃ p q, wr.heap[w.heap.size + 1]? = some (.cells (c4 p q) 169 (0, 0))) ∧
      Hid ((s.data.toList.take k).all Cu.sym = true) ∧ Below w.heap.size w wr)
    (fun i _ => s.size - (intOf i).toNat)
  case atStart =>
    refine ⟨0, Nat.zero_le _, rfl, ⟨Cu.fixAt [], Cu.oneAt [], ?_⟩, ?_, ((Below.refl _ _).alloc (Nat.le_refl _) _).alloc (by simp) _⟩
    · have := tc_nil
      rw [tc] at this
      rw [this]
      exact new_1 _ _ _
    · show _ = _
      simp
  case round =>
    obtain ⟨k, hk, rfl, ⟨p, q, ht⟩, hpre, hb⟩ := hrel
    have HT : Hid _ := ht
    clear ht
    have hs1 := hb.size
    by_cases hlt : k < s.size
    · have HS : Hid (s.data.toList.take (k + 1) = s.data.toList.take k ++ [s[k]]) := take_snoc s k hlt
      by_cases hsym : Cu.sym s[k] = true
      · have HP : Hid ((s.data.toList.take (k + 1)).all Cu.sym = true) := by
          show _ = _
          rw [HS.out, List.all_append, hpre.out]; simp [hsym]
        rcases Cu.sym_cases hsym with hc | hc | hc
        · have hcn : (s[k].toNat : Int) = 48 := by rw [hc]; rfl
          clear hc hsym
          go_wp2_with fail
          refine (fix_any _ _ k _ false wr (by omega) HT.out).mono ?_
          rintro e w1 ⟨rfl, hn, g1⟩
          have HN : Hid _ := hn
          clear hn
          go_wp2
          go_roundw
          case rel => exact ⟨k + 1, by omega, by go_num, ⟨_, _, HN.out⟩, HP, below_grown hb g1 hs1 (by omega)⟩
          case measure => simp [intOf]; omega
        · have hcn : (s[k].toNat : Int) = 49 := by rw [hc]; rfl
          clear hc hsym
          go_wp2_with fail
          refine (fix_any _ _ k _ true wr (by omega) HT.out).mono ?_
          rintro e w1 ⟨rfl, hn, g1⟩
          have HN : Hid _ := hn
          clear hn
          go_wp2
          go_roundw
          case rel => exact ⟨k + 1, by omega, by go_num, ⟨_, _, HN.out⟩, HP, below_grown hb g1 hs1 (by omega)⟩
          case measure => simp [intOf]; omega
        · have hcn : (s[k].toNat : Int) = 120 := by rw [hc]; rfl
          clear hc hsym
          go_wp2
          go_roundw
          case rel => exact ⟨k + 1, by omega, by go_num, ⟨_, _, HT.out⟩, HP, hb⟩
          case measure => simp [intOf]; omega
      · have n1 : ((s[k].toNat : Int) == 48) = false := by
          rw [beq_eq_false_iff_ne]; intro h; exact hsym (by have : s[k] = 48 := UInt8.toNat.inj (by simp; omega); simp [Cu.sym, this])
        have n2 : ((s[k].toNat : Int) == 49) = false := by
          rw [beq_eq_false_iff_ne]; intro h; exact hsym (by have : s[k] = 49 := UInt8.toNat.inj (by simp; omega); simp [Cu.sym, this])
        have n3 : ((s[k].toNat : Int) == 120) = false := by
          rw [beq_eq_false_iff_ne]; intro h; exact hsym (by have : s[k] = 120 := UInt8.toNat.inj (by simp; omega); simp [Cu.sym, this])
        clear hsym
        go_wp2
        exact ⟨rfl, rfl, hb⟩
    · exfalso
      have hkk : k = s.size := by omega
      have h1 := hpre.out
      rw [hkk, List.take_of_length_le (by simp)] at h1
      have h2 := HA.out
      rw [h1] at h2
      cases h2

theorem must_wrong (s : ByteArray) (w : World) (hs : Cu.right s.data.toList = false) :
    Calls Try.prog 103 #[.string s] w fun e w' => e = .panicked noCube ∧ Below w.heap.size w w' := by
  by_cases h : s.size < 1 ∨ 128 < s.size
  · exact must_size s w h
  · refine must_sym s w (by omega) (by omega) ?_
    have h1 : 1 ≤ s.data.toList.length := by simp; show 1 ≤ s.size; omega
    have h2 : s.data.toList.length ≤ 128 := by simp; show s.size ≤ 128; omega
    simpa only [Cu.right, h1, h2, decide_true, Bool.and_true] using hs
end Go.Proofs.Ytffngpdngjfcfaa
namespace Go.Proofs.Ytffngpdngjfcfaa
open Go.RowKit

def zero4 : Array Value := #[.int .u64 0, .int .u64 0, .int .u64 0, .int .u64 0]
def made (n : Nat) : Array Value := madeCells zero4 (n * 4)
theorem Try.infoTern : (Try.prog.info? 169).map (fun i => (i.zero, i.size, i.bytes)) = some (some (.agg zero4), 4, 32) := by kernel_rfl

theorem run_made (n : Nat) (hn : n ≤ 1000000) (w : World) :
    (Instr.makeSlice 148 (.int .i64 (n : Int)) (.int .i64 (n : Int))).run Try.prog w = .ok (.slice (some ⟨w.heap.size, 0, none⟩) n n) (w.alloc (.cells (made n) 169)) := by
  obtain ⟨i, hi, hz0, hz1, hz2⟩ := info_parts Try.infoTern
  have := run_make (P := Try.prog) w 148 169 i (.agg zero4) Try.underlying148 hi hz0 .i64 .i64 n n (by omega) (by omega) (by rw [hz2]; omega) (by omega)
  rw [this, hz1]
  rfl

theorem catch_panicking (p q : Addr) (x y : Value) (pv : Value) (older : List PanicEntry) (w : World) (hc : w.cell? p = some x) (hz : w.frozen? p = false) (hc2 : w.cell? q = some y) (hz2 : w.frozen? q = false) (hpq : p ≠ q) :
    CallsD Try.prog 102 #[.pointer (some p), .pointer (some q)] (.panicking ({ v := .iface 30 pv, recovered := false } :: older)) w fun e u' w' =>
      e = .returned (.tuple #[]) ∧ u' = .panicking ({ v := .iface 30 pv, recovered := true } :: older) ∧ w' = (w.setCell p (.slice none 0 0)).setCell q (.int .i64 10) := by
  have hc2' : (w.setCell p (.slice none 0 0)).cell? q = some y := by rw [World.cell?_setCell_other _ _ _ _ hpq]; exact hc2
  refine callsD_of_wpS Try.func102 rfl fun c₀ cs hu => ?_
  apply wpS_seq
  apply wpS_region
  simp [wpOpsS, go_sem, recoverD, hu, Try.ntmps102, Exit.thenS]
  refine wpS_cond (t := true) (by simp [Act.eval, Array.replicate]) ?_
  simp only [if_true]
  apply wpS_region
  simp [wpOpsS, go_sem, hc, hz, hc2', hz2, bodyPostS, results, Try.results102]

theorem catch_idle (p q : Addr) (w : World) :
    CallsD Try.prog 102 #[.pointer (some p), .pointer (some q)] .returning w fun e u' w' => e = .returned (.tuple #[]) ∧ u' = .returning ∧ w' = w := by
  refine callsD_of_wpS Try.func102 rfl fun c₀ cs hu => ?_
  apply wpS_seq
  apply wpS_region
  simp [wpOpsS, go_sem, recoverD, hu, Try.ntmps102, Exit.thenS]
  refine wpS_cond (t := false) (by simp [Act.eval, Array.replicate]) ?_
  simp only [Bool.false_eq_true, if_false]
  refine wpS_of_wp (wp_skip ?_)
  cases c₀
  simp_all [bodyPostS, results, Try.results102]

/-- Cells in which k ternaries lie one behind the other. -/
def lie (cs : Array Value) (k : Nat) (L : Nat → List UInt8) : Prop :=
  ∀ i, i < k → ∀ j, j < 4 → cs[i * 4 + j]? = (tc (L i))[j]?

theorem made_size (n : Nat) : (made n).size = n * 4 := size_madeCells _ _

/-- The bytes of the i-th text. -/
abbrev by_ (S : Nat → ByteArray) (i : Nat) : List UInt8 := (S i).data.toList

theorem cells_some {w : World} {g : Nat} {cs : Array Value} {t : TypeId} (h : w.heap[g]? = some (.cells cs t (0, 0))) {x : Nat} (hx : x < cs.size) : ∃ v, w.cell? ⟨g, x, none⟩ = some v := by
  exact ⟨cs[x], by simp [World.cell?, h, hx]⟩
theorem four_at {w : World} {g : Nat} {cs : Array Value} {t : TypeId} (h : w.heap[g]? = some (.cells cs t (0, 0))) {x : Nat} (hx : x + 3 < cs.size) :
    (∃ v, w.cell? ⟨g, x, none⟩ = some v) ∧ (∃ v, w.cell? ⟨g, x + 1, none⟩ = some v) ∧ (∃ v, w.cell? ⟨g, x + 2, none⟩ = some v) ∧ (∃ v, w.cell? ⟨g, x + 3, none⟩ = some v) ∧
      w.frozen? ⟨g, x, none⟩ = false ∧ w.frozen? ⟨g, x + 1, none⟩ = false ∧ w.frozen? ⟨g, x + 2, none⟩ = false ∧ w.frozen? ⟨g, x + 3, none⟩ = false :=
  ⟨cells_some h (by omega), cells_some h (by omega), cells_some h (by omega), cells_some h hx, free_of h, free_of h, free_of h, free_of h⟩
theorem below_block {B k : Nat} {w w' : World} (h : Below B w w') {x : Obj} (hx : w.heap[k]? = some x) (hk : k < B) : w'.heap[k]? = some x := (h.block k hk).trans hx

/-- Four cells stored one behind the other. -/
def set4 (cs : Array Value) (x : Nat) (a b c d : Value) : Array Value := (((cs.setIfInBounds x a).setIfInBounds (x + 1) b).setIfInBounds (x + 2) c).setIfInBounds (x + 3) d
theorem set4_size (cs : Array Value) (x : Nat) (a b c d : Value) : (set4 cs x a b c d).size = cs.size := by simp [set4]
theorem set4_get (cs : Array Value) (x : Nat) (a b c d : Value) (hx : x + 3 < cs.size) (y : Nat) :
    (set4 cs x a b c d)[y]? = if y = x then some a else if y = x + 1 then some b else if y = x + 2 then some c else if y = x + 3 then some d else cs[y]? := by
  simp only [set4, Array.getElem?_setIfInBounds, Array.size_setIfInBounds]
  by_cases h0 : y = x
  · subst h0
    rw [if_neg (by omega), if_neg (by omega), if_neg (by omega), if_pos rfl, if_pos (by omega), if_pos rfl]
  · by_cases h1 : y = x + 1
    · subst h1
      rw [if_neg (by omega), if_neg (by omega), if_pos rfl, if_pos (by omega), if_neg (by omega), if_pos rfl]
    · by_cases h2 : y = x + 2
      · subst h2
        rw [if_neg (by omega), if_pos rfl, if_pos (by omega), if_neg (by omega), if_neg (by omega), if_pos rfl]
      · by_cases h3 : y = x + 3
        · subst h3
          rw [if_pos rfl, if_pos (by omega), if_neg (by omega), if_neg (by omega), if_neg (by omega), if_pos rfl]
        · rw [if_neg (by omega), if_neg (by omega), if_neg (by omega), if_neg (by omega), if_neg h0, if_neg h1, if_neg h2, if_neg h3]
theorem store4 {w : World} {g x : Nat} {cs : Array Value} {t : TypeId} (h : w.heap[g]? = some (.cells cs t (0, 0))) (a b c d : Value) :
    ((((w.setCell ⟨g, x, none⟩ a).setCell ⟨g, x + 1, none⟩ b).setCell ⟨g, x + 2, none⟩ c).setCell ⟨g, x + 3, none⟩ d).heap[g]? = some (.cells (set4 cs x a b c d) t (0, 0)) :=
  block_set _ (block_set _ (block_set _ (block_set _ h)))
theorem store4_other {w : World} {g x k : Nat} (a b c d : Value) (hk : k ≠ g) :
    ((((w.setCell ⟨g, x, none⟩ a).setCell ⟨g, x + 1, none⟩ b).setCell ⟨g, x + 2, none⟩ c).setCell ⟨g, x + 3, none⟩ d).heap[k]? = w.heap[k]? := by
  rw [Below.heap_setCell _ _ _ _ hk, Below.heap_setCell _ _ _ _ hk, Below.heap_setCell _ _ _ _ hk, Below.heap_setCell _ _ _ _ hk]
theorem lie_set {cs : Array Value} {k n : Nat} {L : Nat → List UInt8} (h : lie cs k L) (hs : cs.size = n * 4) (hk : k < n) (l : List UInt8) (hl : l = L k) :
    lie (set4 cs (k * 4) (.int .u64 (Cu.wd (Cu.fixAt l) 0 : Int)) (.int .u64 (Cu.wd (Cu.fixAt l) 1 : Int)) (.int .u64 (Cu.wd (Cu.oneAt l) 0 : Int)) (.int .u64 (Cu.wd (Cu.oneAt l) 1 : Int))) (k + 1) L := by
  subst hl
  intro i hi j hj
  rw [set4_get _ _ _ _ _ _ (by omega)]
  by_cases e : i = k
  · subst e
    have : j = 0 ∨ j = 1 ∨ j = 2 ∨ j = 3 := by omega
    rcases this with rfl | rfl | rfl | rfl <;> simp [c4]
  · rw [if_neg (by omega), if_neg (by omega), if_neg (by omega), if_neg (by omega)]
    exact h i (by omega) j hj
theorem lie_zero (cs : Array Value) (L : Nat → List UInt8) : lie cs 0 L := fun i hi => absurd hi (Nat.not_lt_zero i)

/-- The world behind the store of a ternary. -/
abbrev st4 (w : World) (g x : Nat) (l : List UInt8) : World :=
  (((w.setCell ⟨g, x, none⟩ (.int .u64 (Cu.wd (Cu.fixAt l) 0 : Int))).setCell ⟨g, x + 1, none⟩ (.int .u64 (Cu.wd (Cu.fixAt l) 1 : Int))).setCell ⟨g, x + 2, none⟩ (.int .u64 (Cu.wd (Cu.oneAt l) 0 : Int))).setCell ⟨g, x + 3, none⟩ (.int .u64 (Cu.wd (Cu.oneAt l) 1 : Int))

theorem undrew {w w1 : World} (h : Below w.drew.heap.size w.drew w1) : Below w.heap.size w w1 := ⟨h.os, h.tape, h.output, h.size, h.block⟩

theorem rel_step (S : Nat → ByteArray) {w wr w1 : World} {cs : Array Value} {n k : Nat} {o0 o1 : Obj}
    (h0 : wr.heap[w.heap.size]? = some o0) (h1 : wr.heap[w.heap.size + 1]? = some o1) (h2 : wr.heap[w.heap.size + 2]? = some (.cells cs 169 (0, 0)))
    (hsz : cs.size = n * 4) (hlie : lie cs k (by_ S)) (hlt : k < n) (hbl : Below w.heap.size w wr) (hb1 : Below wr.heap.size wr w1) :
    (st4 w1 (w.heap.size + 2) (k * 4) (S k).data.toList).heap[w.heap.size]? = some o0 ∧ (st4 w1 (w.heap.size + 2) (k * 4) (S k).data.toList).heap[w.heap.size + 1]? = some o1 ∧
      (∃ cs, (st4 w1 (w.heap.size + 2) (k * 4) (S k).data.toList).heap[w.heap.size + 2]? = some (.cells cs 169 (0, 0)) ∧ cs.size = n * 4 ∧ lie cs (k + 1) (by_ S)) ∧
      Below w.heap.size w (st4 w1 (w.heap.size + 2) (k * 4) (S k).data.toList) := by
  have hs := hbl.size
  refine ⟨?_, ?_, ⟨_, store4 (below_block hb1 h2 (lt_of_block h2)) _ _ _ _, ?_, ?_⟩, ?_⟩
  · rw [store4_other _ _ _ _ (by omega)]; exact below_block hb1 h0 (lt_of_block h0)
  · rw [store4_other _ _ _ _ (by omega)]; exact below_block hb1 h1 (lt_of_block h1)
  · rw [set4_size]; exact hsz
  · exact lie_set hlie hsz hlt (S k).data.toList rfl
  · exact ((((hbl.trans (hb1.mono hs)).setCell (by simp) _).setCell (by simp) _).setCell (by simp) _).setCell (by simp) _

theorem start_three (w : World) (o0 o1 o2 : Obj) : (((w.alloc o0).alloc o1).alloc o2).heap[w.heap.size]? = some o0 ∧ (((w.alloc o0).alloc o1).alloc o2).heap[w.heap.size + 1]? = some o1 ∧
    (((w.alloc o0).alloc o1).alloc o2).heap[w.heap.size + 2]? = some o2 ∧ Below w.heap.size w (((w.alloc o0).alloc o1).alloc o2) := by
  refine ⟨new_old _ _ (new_old _ _ (new_0 _ _)), new_old _ _ (new_1 _ _ _), ?_, (((Below.refl _ _).alloc (Nat.le_refl _) _).alloc (by simp) _).alloc (by simp; omega) _⟩
  have := new_0 ((w.alloc o0).alloc o1) o2
  simpa using this

set_option maxHeartbeats 1000000 in
theorem read_right (S : Nat → ByteArray) (n b o cap : Nat) (w : World) (hb : b < w.heap.size) (hc : ∀ i, i < n → w.cell? ⟨b, o + i, none⟩ = some (.string (S i)))
    (hn0 : 0 < n) (hn : n ≤ 1000000) (hr : ∀ i, i < n → Cu.right (by_ S i) = true) (hw : ∀ i, i < n → (S i).size = (S 0).size) :
    Calls Try.prog 88 #[.slice (some ⟨b, o, none⟩) n cap] w fun e w' =>
      e = .returned (.tuple #[.slice (some ⟨w.heap.size + 2, 0, none⟩) n n, .int .i64 0]) ∧ (∃ cs, w'.heap[w.heap.size + 2]? = some (.cells cs 169 (0, 0)) ∧ cs.size = n * 4 ∧ lie cs n (by_ S)) ∧ Below w.heap.size w w' := by
  have HC : Hid (∀ i, i < n → w.cell? ⟨b, o + i, none⟩ = some (.string (S i))) := hc
  have HR : Hid (∀ i, i < n → Cu.right (by_ S i) = true) := hr
  have HW : Hid (∀ i, i < n → (S i).size = (S 0).size) := hw
  clear hc hr hw
  have hmf : ∀ (fn : Fn) (first cap : Array Value) (w : World), (Instr.makeFunc fn first cap).run Try.prog w = .ok (.func fn first cap) w := fun _ _ _ _ => rfl
  have hmk := run_made n hn
  go_enter_defers Try.func88, Try.ntmps88
  go_wp2
  go_loopw [14] (fun i wr => ∃ k : Nat, k ≤ n ∧ i = .int .i64 k ∧ wr.heap[w.heap.size]? = some (.cells #[.slice (some ⟨w.heap.size + 2, 0, none⟩) n n] 148 (0, 0)) ∧
      wr.heap[w.heap.size + 1]? = some (.cells #[.int .i64 0] 30 (0, 0)) ∧
      (∃ cs, wr.heap[w.heap.size + 2]? = some (.cells cs 169 (0, 0)) ∧ cs.size = n * 4 ∧ lie cs k (by_ S)) ∧ Below w.heap.size w wr)
    (fun i _ => n - (intOf i).toNat)
  case atStart =>
    have R := start_three w (.cells #[.slice (some ⟨w.heap.size + 2, 0, none⟩) n n] 148 (0, 0)) (.cells #[.int .i64 0] 30 (0, 0)) (.cells (made n) 169 (0, 0))
    exact ⟨0, Nat.zero_le _, rfl, R.1, R.2.1, ⟨made n, R.2.2.1, made_size n, lie_zero _ _⟩, R.2.2.2⟩
  case round =>
    obtain ⟨k, hk, rfl, h0, h1, ⟨cs, h2, hsz, hlie⟩, hbl⟩ := hrel
    have H1 : Hid _ := h1
    have H2 : Hid _ := h2
    have H0 : Hid _ := h0
    have hs1 := hbl.size
    have c0 := cell_of_one h0
    have hlt0 := lt_of_block h2
    by_cases hlt : k < n
    · have hck : wr.cell? ⟨b, o + k, none⟩ = some (.string (S k)) := by rw [hbl.cell (by exact hb)]; exact HC.out k hlt
      have hkI : (0 : Int) ≤ (k : Int) := by omega
      have hkI2 : (k : Int) < (n : Int) := by omega
      clear h0 h1 h2
      go_wp2_with fail
      go_region_held3 (fun w' => w'.cell? ⟨w.heap.size, 0, none⟩ = some (.slice (some ⟨w.heap.size + 2, 0, none⟩) n n)) (first | (go_keep; done) | exact hc1) (first | (go_at_call 103; refine (must_right' (S k) _ (HR.out k hlt)).mono ?_; rintro e w1 ⟨rfl, hb1⟩; have hc1 : w1.cell? ⟨w.heap.size, 0, none⟩ = some (.slice (some ⟨w.heap.size + 2, 0, none⟩) n n) := (by rw [hb1.cell (by show w.heap.size < wr.heap.size; omega)]; exact c0); obtain ⟨⟨v0, q0⟩, ⟨v1, q1⟩, ⟨v2, q2⟩, ⟨v3, q3⟩, f0, f1, f2, f3⟩ := four_at (below_block hb1 (k := w.heap.size + 2) H2.out (by show w.heap.size + 2 < wr.heap.size; omega)) (x := k * 4) (by omega)))
      go_wp2
      go_roundw
      case rel =>
        have R := rel_step S H0.out H1.out H2.out hsz hlie hlt hbl (undrew hb1)
        exact ⟨k + 1, by omega, by go_num, R.1, R.2.1, R.2.2.1, R.2.2.2⟩
      case measure => simp [intOf]; omega
    · have hkn : k = n := by omega
      subst hkn
      have f0 : wr.frozen? ⟨w.heap.size, 0, none⟩ = false := free_of h0
      have f1 : wr.frozen? ⟨w.heap.size + 1, 0, none⟩ = false := free_of h1
      have c1 := cell_of_one h1
      have hc0 : wr.cell? ⟨b, o, none⟩ = some (.string (S 0)) := by rw [hbl.cell (by exact hb)]; exact HC.out 0 hn0
      clear h0 h1 h2
      go_wp2
      go_loop [27] (fun i => ∃ j : Nat, j ≤ k ∧ i = .int .i64 j) (fun i => k - (intOf i).toNat)
      case atStart => exact ⟨0, Nat.zero_le _, rfl⟩
      case round =>
        obtain ⟨j, hj, rfl⟩ := hrel
        by_cases hjn : j < k
        · have hck : wr.cell? ⟨b, o + j, none⟩ = some (.string (S j)) := by rw [hbl.cell (by exact hb)]; exact HC.out j hjn
          have hne : (((S j).size : Int) != ((S 0).size : Int)) = false := by rw [HW.out j hjn]; simp
          go_wp2
          go_round
          case rel => exact ⟨j + 1, by omega, by go_num⟩
          case measure => simp [intOf]; omega
        · go_wp2
          refine leaves_cons (f := 102) (args := #[.pointer (some ⟨w.heap.size, 0, none⟩), .pointer (some ⟨w.heap.size + 1, 0, none⟩)]) (by simp) (by simp [go_sem]) ?_
          refine (catch_idle _ _ _).mono ?_
          rintro e u' w'' ⟨rfl, rfl, rfl⟩
          refine ⟨.tuple #[.slice (some ⟨w.heap.size + 2, 0, none⟩) k k, .int .i64 0], ?_, rfl, ⟨cs, ?_, hsz, hlie⟩, ?_⟩
          · simp [results, Try.results88, go_sem, c0, c1]
          · rw [Below.heap_setCell _ _ _ _ (by simp), Below.heap_setCell _ _ _ _ (by simp)]; exact H2.out
          · exact (hbl.setCell (by simp) _).setCell (by simp) _

set_option maxHeartbeats 1000000 in
theorem read_width (S : Nat → ByteArray) (n b o cap : Nat) (w : World) (hb : b < w.heap.size) (hc : ∀ i, i < n → w.cell? ⟨b, o + i, none⟩ = some (.string (S i)))
    (hn0 : 0 < n) (hn : n ≤ 1000000) (hr : ∀ i, i < n → Cu.right (by_ S i) = true) (m : Nat) (hm : m < n) (hw : (S m).size ≠ (S 0).size) :
    Calls Try.prog 88 #[.slice (some ⟨b, o, none⟩) n cap] w fun e w' =>
      e = .returned (.tuple #[.slice none 0 0, .int .i64 11]) ∧ Below w.heap.size w w' := by
  have HC : Hid (∀ i, i < n → w.cell? ⟨b, o + i, none⟩ = some (.string (S i))) := hc
  have HR : Hid (∀ i, i < n → Cu.right (by_ S i) = true) := hr
  have HW : Hid ((S m).size ≠ (S 0).size) := hw
  clear hc hr hw
  have hmf : ∀ (fn : Fn) (first cap : Array Value) (w : World), (Instr.makeFunc fn first cap).run Try.prog w = .ok (.func fn first cap) w := fun _ _ _ _ => rfl
  have hmk := run_made n hn
  go_enter_defers Try.func88, Try.ntmps88
  go_wp2
  go_loopw [14] (fun i wr => ∃ k : Nat, k ≤ n ∧ i = .int .i64 k ∧ wr.heap[w.heap.size]? = some (.cells #[.slice (some ⟨w.heap.size + 2, 0, none⟩) n n] 148 (0, 0)) ∧
      wr.heap[w.heap.size + 1]? = some (.cells #[.int .i64 0] 30 (0, 0)) ∧
      (∃ cs, wr.heap[w.heap.size + 2]? = some (.cells cs 169 (0, 0)) ∧ cs.size = n * 4 ∧ lie cs k (by_ S)) ∧ Below w.heap.size w wr)
    (fun i _ => n - (intOf i).toNat)
  case atStart =>
    have R := start_three w (.cells #[.slice (some ⟨w.heap.size + 2, 0, none⟩) n n] 148 (0, 0)) (.cells #[.int .i64 0] 30 (0, 0)) (.cells (made n) 169 (0, 0))
    exact ⟨0, Nat.zero_le _, rfl, R.1, R.2.1, ⟨made n, R.2.2.1, made_size n, lie_zero _ _⟩, R.2.2.2⟩
  case round =>
    obtain ⟨k, hk, rfl, h0, h1, ⟨cs, h2, hsz, hlie⟩, hbl⟩ := hrel
    have H1 : Hid _ := h1
    have H2 : Hid _ := h2
    have H0 : Hid _ := h0
    have hs1 := hbl.size
    have c0 := cell_of_one h0
    have hlt0 := lt_of_block h2
    by_cases hlt : k < n
    · have hck : wr.cell? ⟨b, o + k, none⟩ = some (.string (S k)) := by rw [hbl.cell (by exact hb)]; exact HC.out k hlt
      have hkI : (0 : Int) ≤ (k : Int) := by omega
      have hkI2 : (k : Int) < (n : Int) := by omega
      clear h0 h1 h2
      go_wp2_with fail
      go_region_held3 (fun w' => w'.cell? ⟨w.heap.size, 0, none⟩ = some (.slice (some ⟨w.heap.size + 2, 0, none⟩) n n)) (first | (go_keep; done) | exact hc1) (first | (go_at_call 103; refine (must_right' (S k) _ (HR.out k hlt)).mono ?_; rintro e w1 ⟨rfl, hb1⟩; have hc1 : w1.cell? ⟨w.heap.size, 0, none⟩ = some (.slice (some ⟨w.heap.size + 2, 0, none⟩) n n) := (by rw [hb1.cell (by show w.heap.size < wr.heap.size; omega)]; exact c0); obtain ⟨⟨v0, q0⟩, ⟨v1, q1⟩, ⟨v2, q2⟩, ⟨v3, q3⟩, f0, f1, f2, f3⟩ := four_at (below_block hb1 (k := w.heap.size + 2) H2.out (by show w.heap.size + 2 < wr.heap.size; omega)) (x := k * 4) (by omega)))
      go_wp2
      go_roundw
      case rel =>
        have R := rel_step S H0.out H1.out H2.out hsz hlie hlt hbl (undrew hb1)
        exact ⟨k + 1, by omega, by go_num, R.1, R.2.1, R.2.2.1, R.2.2.2⟩
      case measure => simp [intOf]; omega
    · have hkn : k = n := by omega
      subst hkn
      have f0 : wr.frozen? ⟨w.heap.size, 0, none⟩ = false := free_of h0
      have f1 : wr.frozen? ⟨w.heap.size + 1, 0, none⟩ = false := free_of h1
      have c1 := cell_of_one h1
      have hc0 : wr.cell? ⟨b, o, none⟩ = some (.string (S 0)) := by rw [hbl.cell (by exact hb)]; exact HC.out 0 hn0
      clear h0 h1 h2
      go_wp2
      go_loop [27] (fun i => ∃ j : Nat, j ≤ k ∧ i = .int .i64 j ∧ j ≤ m) (fun i => k - (intOf i).toNat)
      case atStart => exact ⟨0, Nat.zero_le _, rfl, Nat.zero_le _⟩
      case round =>
        obtain ⟨j, hj, rfl, hjm⟩ := hrel
        have hjn : j < k := by omega
        have hck : wr.cell? ⟨b, o + j, none⟩ = some (.string (S j)) := by rw [hbl.cell (by exact hb)]; exact HC.out j hjn
        by_cases hsame : (S j).size = (S 0).size
        · have hne : (((S j).size : Int) != ((S 0).size : Int)) = false := by rw [hsame]; simp
          have hjm2 : j < m := by
            have : j ≠ m := fun e => HW.out (by rw [← e]; exact hsame)
            omega
          clear hsame
          go_wp2
          go_round
          case rel => exact ⟨j + 1, by omega, by go_num, by omega⟩
          case measure => simp [intOf]; omega
        · have hne : (((S j).size : Int) != ((S 0).size : Int)) = true := by rw [bne_iff_ne]; omega
          clear hsame
          go_wp2
          refine leaves_cons (f := 102) (args := #[.pointer (some ⟨w.heap.size, 0, none⟩), .pointer (some ⟨w.heap.size + 1, 0, none⟩)]) (by simp) (by simp [go_sem]) ?_
          refine (catch_idle _ _ _).mono ?_
          rintro e u' w'' ⟨rfl, rfl, rfl⟩
          refine ⟨.tuple #[.slice none 0 0, .int .i64 11], ?_, rfl, ?_⟩
          · simp [results, Try.results88, go_sem, c0, c1]
          · exact (hbl.setCell (by simp) _).setCell (by simp) _
end Go.Proofs.Ytffngpdngjfcfaa
namespace Go.Proofs.Ytffngpdngjfcfaa
open Go.RowKit

/-- What is left of a region that can only panic: the panic, the deferred call, the two slots that are read behind it, and the world. -/
def PanicOnly (D : List Deferred) (p2 p3 : Value) (wr : World) : Exit → Act → World → Prop
  | .panic c, a, w => c = noCube ∧ a.defers = D ∧ a.tmps[2]? = some p2 ∧ a.tmps[3]? = some p3 ∧ Below wr.heap.size wr w
  | _, _, _ => False
theorem PanicOnly.stable (D : List Deferred) (p2 p3 : Value) (wr : World) (d : Tmp) (v : Value) (h2 : d ≠ 2) (h3 : d ≠ 3) (c : List PanicEntry) (a : Act) (w : World)
    (h : PanicOnly D p2 p3 wr (.panic c) (a.put (some d) v) w) : PanicOnly D p2 p3 wr (.panic c) a w := by
  obtain ⟨e1, e2, e3, e4, e5⟩ := h
  refine ⟨e1, e2, ?_, ?_, e5⟩
  · simpa [Act.put, Array.getElem?_setIfInBounds_ne h2] using e3
  · simpa [Act.put, Array.getElem?_setIfInBounds_ne h3] using e4

set_option maxHeartbeats 1000000 in
theorem read_wrong (S : Nat → ByteArray) (n b o cap : Nat) (w : World) (hb : b < w.heap.size) (hc : ∀ i, i < n → w.cell? ⟨b, o + i, none⟩ = some (.string (S i)))
    (hn0 : 0 < n) (hn : n ≤ 1000000) (m : Nat) (hm : m < n) (hr : ∀ i, i < m → Cu.right (by_ S i) = true) (hw : Cu.right (by_ S m) = false) :
    Calls Try.prog 88 #[.slice (some ⟨b, o, none⟩) n cap] w fun e w' =>
      e = .returned (.tuple #[.slice none 0 0, .int .i64 10]) ∧ Below w.heap.size w w' := by
  have HC : Hid (∀ i, i < n → w.cell? ⟨b, o + i, none⟩ = some (.string (S i))) := hc
  have HR : Hid (∀ i, i < m → Cu.right (by_ S i) = true) := hr
  have HW : Hid (Cu.right (by_ S m) = false) := hw
  clear hc hr hw
  have hmf : ∀ (fn : Fn) (first cap : Array Value) (w : World), (Instr.makeFunc fn first cap).run Try.prog w = .ok (.func fn first cap) w := fun _ _ _ _ => rfl
  have hmk := run_made n hn
  go_enter_defers Try.func88, Try.ntmps88
  go_wp2
  go_loopw [14] (fun i wr => ∃ k : Nat, k ≤ m ∧ i = .int .i64 k ∧ wr.heap[w.heap.size]? = some (.cells #[.slice (some ⟨w.heap.size + 2, 0, none⟩) n n] 148 (0, 0)) ∧
      wr.heap[w.heap.size + 1]? = some (.cells #[.int .i64 0] 30 (0, 0)) ∧
      (∃ cs, wr.heap[w.heap.size + 2]? = some (.cells cs 169 (0, 0)) ∧ cs.size = n * 4 ∧ lie cs k (by_ S)) ∧ Below w.heap.size w wr)
    (fun i _ => n - (intOf i).toNat)
  case atStart =>
    have R := start_three w (.cells #[.slice (some ⟨w.heap.size + 2, 0, none⟩) n n] 148 (0, 0)) (.cells #[.int .i64 0] 30 (0, 0)) (.cells (made n) 169 (0, 0))
    exact ⟨0, Nat.zero_le _, rfl, R.1, R.2.1, ⟨made n, R.2.2.1, made_size n, lie_zero _ _⟩, R.2.2.2⟩
  case round =>
    obtain ⟨k, hk, rfl, h0, h1, ⟨cs, h2, hsz, hlie⟩, hbl⟩ := hrel
    have H1 : Hid _ := h1
    have H2 : Hid _ := h2
    have H0 : Hid _ := h0
    have hs1 := hbl.size
    have c0 := cell_of_one h0
    have hlt0 := lt_of_block h2
    have hlt : k < n := by omega
    by_cases hkm : k < m
    · have hck : wr.cell? ⟨b, o + k, none⟩ = some (.string (S k)) := by rw [hbl.cell (by exact hb)]; exact HC.out k hlt
      have hkI : (0 : Int) ≤ (k : Int) := by omega
      have hkI2 : (k : Int) < (n : Int) := by omega
      clear h0 h1 h2
      go_wp2_with fail
      go_region_held3 (fun w' => w'.cell? ⟨w.heap.size, 0, none⟩ = some (.slice (some ⟨w.heap.size + 2, 0, none⟩) n n)) (first | (go_keep; done) | exact hc1) (first | (go_at_call 103; refine (must_right' (S k) _ (HR.out k hkm)).mono ?_; rintro e w1 ⟨rfl, hb1⟩; have hc1 : w1.cell? ⟨w.heap.size, 0, none⟩ = some (.slice (some ⟨w.heap.size + 2, 0, none⟩) n n) := (by rw [hb1.cell (by show w.heap.size < wr.heap.size; omega)]; exact c0); obtain ⟨⟨v0, q0⟩, ⟨v1, q1⟩, ⟨v2, q2⟩, ⟨v3, q3⟩, f0, f1, f2, f3⟩ := four_at (below_block hb1 (k := w.heap.size + 2) H2.out (by show w.heap.size + 2 < wr.heap.size; omega)) (x := k * 4) (by omega)))
      go_wp2
      go_roundw
      case rel =>
        have R := rel_step S H0.out H1.out H2.out hsz hlie hlt hbl (undrew hb1)
        exact ⟨k + 1, by omega, by go_num, R.1, R.2.1, R.2.2.1, R.2.2.2⟩
      case measure => simp [intOf]; omega
    · have hkn : k = m := by omega
      subst hkn
      have f0 : wr.frozen? ⟨w.heap.size, 0, none⟩ = false := free_of h0
      have f1 : wr.frozen? ⟨w.heap.size + 1, 0, none⟩ = false := free_of h1
      have c1 := cell_of_one h1
      have hck : wr.cell? ⟨b, o + k, none⟩ = some (.string (S k)) := by rw [hbl.cell (by exact hb)]; exact HC.out k hlt
      have hkI : (0 : Int) ≤ (k : Int) := by omega
      have hkI2 : (k : Int) < (n : Int) := by omega
      clear h0 h1 h2
      go_wp2_with fail
      refine Code.wp_mono (Q := PanicOnly [{ target := Target.fn (Fn.func 102) #[.pointer (some ⟨w.heap.size, 0, none⟩), .pointer (some ⟨w.heap.size + 1, 0, none⟩)], args := #[] }] (.pointer (some ⟨w.heap.size, 0, none⟩)) (.pointer (some ⟨w.heap.size + 1, 0, none⟩)) wr) ?_ ?_
      · intro e a w2 hq
        cases e with
        | panic c =>
          obtain ⟨rfl, hd, hp2, hp3, hbw⟩ := hq
          show Leaves Try.prog Try.f88 a.tmps _ a.defers (.panicking noCube) w2
          rw [hd]
          have g0 := below_block hbw H0.out (lt_of_block H0.out)
          have g1 := below_block hbw H1.out (lt_of_block H1.out)
          refine leaves_cons (f := 102) (args := #[.pointer (some ⟨w.heap.size, 0, none⟩), .pointer (some ⟨w.heap.size + 1, 0, none⟩)]) (by simp) (by simp [go_sem]) ?_
          refine (catch_panicking ⟨w.heap.size, 0, none⟩ ⟨w.heap.size + 1, 0, none⟩ _ _ (.int .i64 10) [] w2 (cell_of_one g0) (free_of g0) (cell_of_one g1) (free_of g1) (by simp)).mono ?_
          rintro e u' w3 ⟨rfl, rfl, rfl⟩
          refine ⟨.tuple #[.slice none 0 0, .int .i64 10], ?_, rfl, ?_⟩
          · have k0 : ((w2.setCell ⟨w.heap.size, 0, none⟩ (.slice none 0 0)).setCell ⟨w.heap.size + 1, 0, none⟩ (.int .i64 10)).cell? ⟨w.heap.size, 0, none⟩ = some (.slice none 0 0) := by
              rw [World.cell?_setCell_other _ _ _ _ (by simp)]; exact World.cell?_setCell_same _ _ _ (cell_of_one g0)
            have k1 : ((w2.setCell ⟨w.heap.size, 0, none⟩ (.slice none 0 0)).setCell ⟨w.heap.size + 1, 0, none⟩ (.int .i64 10)).cell? ⟨w.heap.size + 1, 0, none⟩ = some (.int .i64 10) := by
              refine World.cell?_setCell_same _ _ _ (u := .int .i64 0) ?_
              rw [World.cell?_setCell_other _ _ _ _ (by simp)]; exact cell_of_one g1
            simp [results, Try.results88, go_sem, hp2, hp3, k0, k1]
          · exact ((hbl.trans (hbw.mono hs1)).setCell (by simp) _).setCell (by simp) _
        | normal => exact hq.elim
        | ret => exact hq.elim
        | exit _ => exact hq.elim
        | goto _ => exact hq.elim
        | outgrown => exact hq.elim
      · refine wp_region_any (by kernel_rfl) ?_
        change wpAny _ _ _ _ _ _ _ (World.drew _)
        refine wpAny_take (i := 1) (v := .int .i64 (k : Int)) rfl (by kernel_rfl) (by kernel_rfl) (by kernel_rfl) (fun c a w h => PanicOnly.stable _ _ _ _ 20 _ (by decide) (by decide) c a w h) (Or.inl ⟨by rfl, fun w => by go_simp⟩) ?_
        refine wpAny_take (i := 2) (v := .string (S k)) rfl (by kernel_rfl) (by kernel_rfl) (by kernel_rfl) (fun c a w h => PanicOnly.stable _ _ _ _ 21 _ (by decide) (by decide) c a w h) (Or.inl ⟨by rfl, fun w => by go_simp⟩) ?_
        refine wpAny_ready (rs := [0, 3]) (by kernel_rfl) (by simp) ?_
        refine AllReady.cons rfl (fun K hK => ?_) ?_
        · go_simp
          refine hK _ _ ?_
          clear hK K
          refine wpAny_ready (rs := [3]) (by kernel_rfl) (by simp) ?_
          refine AllReady.cons rfl (fun K hK => ?_) AllReady.nil
          go_simp
          refine (must_wrong (S k) _ HW.out).mono ?_
          rintro e w1 ⟨rfl, hb1⟩
          exact ⟨rfl, rfl, rfl, rfl, undrew hb1⟩
        · refine AllReady.cons rfl (fun K hK => ?_) AllReady.nil
          go_simp
          refine (must_wrong (S k) _ HW.out).mono ?_
          rintro e w1 ⟨rfl, hb1⟩
          exact ⟨rfl, rfl, rfl, rfl, undrew hb1⟩
end Go.Proofs.Ytffngpdngjfcfaa
namespace Go.Proofs.Ytffngpdngjfcfaa
open Go.RowKit

def chkE (c : ByteArray) : Int := if Cu.right c.data.toList = true then 0 else 10
theorem chk_cell (w : World) (c : ByteArray) : ∀ i, i < 1 → (w.alloc (.cells #[.string c] 9)).cell? ⟨w.heap.size, 0 + i, none⟩ = some (.string ((fun _ => c) i)) := by
  intro i hi
  have h := new_0 w (.cells #[.string c] 9)
  have : i = 0 := by omega
  subst this
  unfold World.cell?
  rw [h]; rfl

set_option maxHeartbeats 400000 in
theorem check_any (c : ByteArray) (w : World) : Calls Try.prog 58 #[.string c] w fun e w' => e = .returned (.int .i64 (chkE c)) ∧ Below w.heap.size w w' := by
  cases h : Cu.right c.data.toList
  · have e0 : chkE c = 10 := if_neg (by rw [h]; simp)
    rw [e0]
    have H : Hid (Cu.right c.data.toList = false) := h
    clear h e0
    go_enter Try.func58, Try.ntmps58
    go_wp2_with fail
    refine (read_wrong (fun _ => c) 1 w.heap.size 0 1 (w.alloc (.cells #[.string c] 9)) (by simp) (chk_cell w c) (by omega) (by omega) 0 (by omega) (fun i hi => absurd hi (Nat.not_lt_zero i)) H.out).mono ?_
    rintro e w1 ⟨rfl, hb1⟩
    go_wp2
    go_ret
    exact ⟨rfl, ((Below.refl _ _).alloc (Nat.le_refl _) _).trans (hb1.mono (by simp))⟩
  · have e0 : chkE c = 0 := if_pos h
    rw [e0]
    have H : Hid (Cu.right c.data.toList = true) := h
    clear h e0
    go_enter Try.func58, Try.ntmps58
    go_wp2_with fail
    refine (read_right (fun _ => c) 1 w.heap.size 0 1 (w.alloc (.cells #[.string c] 9)) (by simp) (chk_cell w c) (by omega) (by omega) (fun _ _ => H.out) (fun _ _ => rfl)).mono ?_
    rintro e w1 ⟨rfl, _, hb1⟩
    go_wp2
    go_ret
    exact ⟨rfl, ((Below.refl _ _).alloc (Nat.le_refl _) _).trans (hb1.mono (by simp))⟩
end Go.Proofs.Ytffngpdngjfcfaa
namespace Go.Proofs.Ytffngpdngjfcfaa
open Go.RowKit Go.Maps
open Bd (Nd)

theorem make_zero (w : World) : (Instr.makeMap 47 (some (.int .i64 0))).run Try.prog w = .ok (.map (some w.heap.size)) (w.alloc (.map #[] 0)) := by kernel_rfl

set_option maxHeartbeats 1000000 in
/-- put of nothing, where there is no map yet. -/
theorem put_nil (w : World) (tb : Nat) (c4 : w.cell? ⟨tb, 4, none⟩ = some (.map none)) (fz : w.frozen? ⟨tb, 4, none⟩ = false) :
    Calls Try.prog 40 #[.pointer (some ⟨tb, 3, none⟩), .slice none 0 0] w fun e w' => e = .returned (.tuple #[]) ∧ w' = (w.alloc (.map #[] 0)).setCell ⟨tb, 4, none⟩ (.map (some w.heap.size)) := by
  have qT : ∀ (w : World) (r : Option Nat), (binOp .eql 47 (.map r) (.map none)).run Try.prog w = .ok (.bool r.isNone) w := fun w r => run_eql_map_nil w _ _ _ r Try.underlying47
  have hmz := make_zero
  have ltb : tb < w.heap.size := World.block_lt_of_cell? w _ c4
  have c4a : ∀ o, (w.alloc o).cell? ⟨tb, 4, none⟩ = some (.map none) := fun o => by rw [World.cell?_of_block (heap_alloc_old w o ltb)]; exact c4
  have fza : ∀ o, (w.alloc o).frozen? ⟨tb, 4, none⟩ = false := fun o => by rw [World.frozen?_of_block (heap_alloc_old w o ltb)]; exact fz
  go_enter Try.func40, Try.ntmps40
  go_wp2
  go_loop [19] (fun i => i = .int .i64 0) (fun _ => 0)
  case atStart => rfl
  case round =>
    subst hrel
    go_wp2
    go_end0
    exact ⟨rfl, rfl⟩

theorem new_tab (w : World) (bits limit : Nat) (hb : 1 ≤ bits) (hb2 : bits ≤ 128) (hl : limit ≤ 1048576) :
    Tab (((w.alloc (.cells #[.int .i64 2, .slice none 0 0, .map (some (w.heap.size + 1)), .slice none 0 0, .map (some (w.heap.size + 1 + 1)), i6 bits, i6 limit, .pointer (some ⟨w.heap.size, 0, none⟩)] 51)).alloc (.map #[] 0)).alloc (.map #[] 0)).drew
      ⟨w.heap.size, w.heap.size + 1 + 1, w.heap.size + 1, .slice none 0 0, .slice none 0 0⟩ ⟨[], [], 2, bits, limit⟩ := by
  generalize ho : Obj.cells #[.int .i64 2, .slice none 0 0, .map (some (w.heap.size + 1)), .slice none 0 0, .map (some (w.heap.size + 1 + 1)), i6 bits, i6 limit, .pointer (some ⟨w.heap.size, 0, none⟩)] 51 = o
  have e1 : (w.alloc o).heap.size = w.heap.size + 1 := by simp
  have e2 : ((w.alloc o).alloc (.map #[] 0)).heap.size = w.heap.size + 1 + 1 := by simp
  have m1 := MapOf.new Try.prog 3 25 (w.alloc o)
  rw [e1] at m1
  have m2 := MapOf.new Try.prog 82 3 ((w.alloc o).alloc (.map #[] 0))
  rw [e2] at m2
  refine { cells := ?_, list := World.ownsRow_nil _ _ _ _, roots := World.ownsRow_nil _ _ _ _, nodes := ⟨fun _ => none, m2.same rfl, ?_⟩, refs := ⟨fun _ => none, m1.same ?_, ?_⟩, two := ?_, okay := Bd.Okay.nil hb2, small := ?_, valid := ?_ }
  · show (((w.alloc o).alloc (.map #[] 0)).alloc (.map #[] 0)).heap[w.heap.size]? = _
    rw [heap_alloc_old _ _ (by omega), heap_alloc_old _ _ (by omega), heap_alloc_new, ← ho]
    rfl
  · exact fun x => ⟨fun i h => by simp at h, fun _ => rfl⟩
  · show (((w.alloc o).alloc (.map #[] 0)).alloc (.map #[] 0)).heap[w.heap.size + 1]? = _
    rw [heap_alloc_old _ _ (by omega)]
  · exact fun x => ⟨fun i h => by simp at h, fun _ => rfl⟩
  · show w.heap.size + 1 + 1 ≠ w.heap.size + 1; omega
  · refine ⟨?_, ?_, ?_, hl, hb⟩
    · show 0 ≤ _; omega
    · show 0 ≤ _; omega
    · show 2 ≤ 1099511627776; omega
  · exact ⟨List.nodup_nil, fun n hn => by simp at hn⟩

set_option maxHeartbeats 2000000 in
theorem New_ok (w : World) (bits limit : Nat) (hb : 1 ≤ bits) (hb2 : bits ≤ 128) (hl : limit ≤ 1048576) :
    Calls Try.prog 13 #[i6 bits, i6 limit] w fun e w' => ∃ y, e = .returned (.tuple #[.pointer (some ⟨y.tb, 0, none⟩), .int .i64 0]) ∧ Tab w' y ⟨[], [], 2, bits, limit⟩ ∧ Below w.heap.size w w' ∧ (∀ k, y.own k → w.heap.size ≤ k) := by
  have h1 : ¬ ((bits : Int) < 1) := by omega
  have h2 : ¬ ((128 : Int) < (bits : Int)) := by omega
  have h3 : ¬ ((limit : Int) < 0) := by omega
  have h4 : ¬ ((1048576 : Int) < (limit : Int)) := by omega
  have hmm := @run_makeMap Try.prog
  have qT : ∀ (w : World) (r : Option Nat), (binOp .eql 47 (.map r) (.map none)).run Try.prog w = .ok (.bool r.isNone) w := fun w r => run_eql_map_nil w _ _ _ r Try.underlying47
  go_enter Try.func13, Try.ntmps13
  go_wp2
  go_region
  go_wp2
  go_end0
  go_wp2_with (first | (go_at_call 40; refine (put_nil _ w.heap.size (by go_simp) (by go_simp)).mono ?_; rintro e w1 ⟨rfl, rfl⟩))
  go_ret2
  refine ⟨⟨w.heap.size, w.heap.size + 1 + 1, w.heap.size + 1, .slice none 0 0, .slice none 0 0⟩, rfl, ?_, ?_, ?_⟩
  · exact new_tab w bits limit hb hb2 hl
  · exact ((((Below.refl _ _).alloc (Nat.le_refl _) _).alloc (by simp) _).alloc (by simp <;> omega) _).drew
  · intro k hk
    rcases hk with rfl | rfl | rfl | hk | hk
    · exact Nat.le_refl _
    · show w.heap.size ≤ w.heap.size + 1 + 1; omega
    · show w.heap.size ≤ w.heap.size + 1; omega
    · simp [Value.ownBlock] at hk
    · simp [Value.ownBlock] at hk
end Go.Proofs.Ytffngpdngjfcfaa
namespace Go.Proofs.Ytffngpdngjfcfaa
open Go.RowKit Go.Maps
open Bd (Nd)

/-- The node of a ref. -/
def St.node? (s : St) (r : Nat) : Option Nat := if r < 2 then some r else if s.first ≤ r then s.roots[r - s.first]? else none

theorem Try.infoInt : (Try.prog.info? 3).map (fun i => (i.zero, i.size, i.bytes)) = some (some (.int .i64 0), 1, 8) := by kernel_rfl
theorem nums_snoc (l : List Nat) (x : Nat) : nums (l ++ [x]) = nums l ++ [i6 x] := by simp [nums]
theorem Tab.cell0 {w : World} {y : Lay} {s : St} (h : Tab w y s) : w.cell? ⟨y.tb, 0, none⟩ = some (i6 s.first) := by rw [cell_at h.cells]; rfl
theorem Tab.cell1 {w : World} {y : Lay} {s : St} (h : Tab w y s) : w.cell? ⟨y.tb, 1, none⟩ = some y.rs := by rw [cell_at h.cells]; rfl
theorem Tab.cell2 {w : World} {y : Lay} {s : St} (h : Tab w y s) : w.cell? ⟨y.tb, 2, none⟩ = some (.map (some y.rm)) := by rw [cell_at h.cells]; rfl
theorem Tab.roots_slice {w : World} {y : Lay} {s : St} (h : Tab w y s) : ∃ ao cap, y.rs = .slice ao s.roots.length cap := by
  rcases h.roots.2 with ⟨e, e2⟩ | ⟨g, c, _, e, _⟩
  · exact ⟨none, 0, by rw [e]; rw [e2]⟩
  · exact ⟨_, _, e⟩
theorem Tab.list_slice {w : World} {y : Lay} {s : St} (h : Tab w y s) : ∃ ao cap, y.ls = .slice ao s.L.length cap := by
  rcases h.list.2 with ⟨e, e2⟩ | ⟨g, c, _, e, _⟩
  · exact ⟨none, 0, by rw [e]; rw [e2]⟩
  · exact ⟨_, _, e⟩

/-- Behind a new ref. -/
theorem tell_tab {w w1 w2 : World} {y : Lay} {s : St} {x : Nat} (hT : Tab w y s) (hx : x ∉ s.roots) (hx2 : 2 ≤ x) (hxl : x < s.L.length + 2) (hsm : s.roots.length + 1 ≤ 1073741824) {g cap : Nat} {v : Value} {o : Obj} (hv : v = .slice (some ⟨g, 0, none⟩) (s.roots.length + 1) cap)
    (hown : w1.ownsRow 0 3 1 v (s.roots.length + 1) (nums s.roots ++ [i6 x])) (hg1 : (w.drew.alloc o).grownBy w1 y.rs.ownBlock) (hat : y.rs.ownBlock = some g ∨ g = w.heap.size + 1) {f : Value → Option Int} (hf : RefMap s.first s.roots f)
    (hput : ∀ f', Upd f (i6 x) (some ((s.first + s.roots.length : Nat) : Int)) f' → MapOf Try.prog 3 25 w2 y.rm (if (f (i6 x)).isSome then s.roots.length else s.roots.length + 1) f')
    (hg2 : (w1.setCell ⟨y.tb, 1, none⟩ v).grownBy w2 (some y.rm)) :
    Tab w2 { y with rs := v } { s with roots := s.roots ++ [x] } ∧ Moves noX w y w2 { y with rs := v } := by
  obtain ⟨a1, a2, a3, a4, a5, a6, a7, a8, a9⟩ := hT.apart
  have z1 : w.heap.size + 1 ≤ w1.heap.size := by have := hg1.size; simpa using this
  have z2 : w1.heap.size ≤ w2.heap.size := by have := hg2.size; simpa using this
  have ltb := hT.lt y.own_tb
  have lrm := hT.lt y.own_rm
  have old1 : ∀ k, k < w.heap.size → y.rs.ownBlock ≠ some k → w1.heap[k]? = w.heap[k]? := by
    intro k hk h2
    rw [hg1.block k (by simp; omega) (fun e => h2 e.symm)]
    exact heap_alloc_old w.drew o hk
  have old2 : ∀ k, k < w1.heap.size → k ≠ y.tb → k ≠ y.rm → w2.heap[k]? = w1.heap[k]? := by
    intro k hk h1 h2
    rw [hg2.block k (by simpa using hk) (fun e => h2 (by cases e; rfl))]
    exact set_other v h1
  have hgown : v.ownBlock = some g := by rw [hv]; rfl
  have hgt : g ≠ y.tb ∧ g ≠ y.rm := by
    rcases hat with h | h
    · exact ⟨fun e => by rw [e] at h; exact a4 h, fun e => by rw [e] at h; exact a8 h⟩
    · exact ⟨by omega, by omega⟩
  obtain ⟨f', hf'⟩ := upd_exists f (i6 x) (some ((s.first + s.roots.length : Nat) : Int))
  have hnone : f (i6 x) = none := (hf x).2 hx
  have hm2 := hput f' hf'
  rw [hnone] at hm2
  obtain ⟨fn, hfn, han⟩ := hT.nodes
  have hcells : w1.heap[y.tb]? = _ := (old1 y.tb ltb a4).trans hT.cells
  have hset := set_block (o := 1) v hcells
  refine ⟨{ cells := ?_, list := ?_, roots := ?_, nodes := ⟨fn, ?_, han⟩, refs := ⟨f', ?_, hf.snoc hx hf'⟩, two := hT.two, okay := hT.okay, small := ?_, valid := ?_ }, ?_⟩
  · rw [hg2.block y.tb (by simp; omega) (by simpa using fun e => a2 e.symm), hset]; rfl
  · refine row_same hT.list fun g' hg' => ?_
    have hl := hT.lt (y.own_ls hg')
    rw [old2 g' (by omega) (fun e => a3 (by rw [← e]; exact hg')) (fun e => a7 (by rw [← e]; exact hg')), old1 g' hl (a9 g' hg')]
  · have e : (s.roots ++ [x]).length = s.roots.length + 1 := by simp
    show World.ownsRow _ 0 3 1 v (s.roots ++ [x]).length (nums (s.roots ++ [x]))
    rw [e, nums_snoc]
    refine row_same hown fun g' hg' => ?_
    rw [hgown] at hg'
    cases hg'
    exact old2 g (hown.lt g hgown).2 hgt.1 hgt.2
  · refine hfn.same ?_
    have hl := hT.lt y.own_mb
    show w2.heap[y.mb]? = w.heap[y.mb]?
    rw [old2 y.mb (by omega) a1 hT.two, old1 y.mb hl a6]
  · have e : (s.roots ++ [x]).length = s.roots.length + 1 := by simp
    show MapOf _ _ _ _ y.rm (s.roots ++ [x]).length f'
    rw [e]
    simpa using hm2
  · have := hT.small
    have e : (s.roots ++ [x]).length = s.roots.length + 1 := by simp
    refine ⟨this.1, ?_, this.2.2.1, this.2.2.2.1, this.2.2.2.2⟩
    show (s.roots ++ [x]).length ≤ _
    omega
  · refine ⟨?_, ?_⟩
    · show (s.roots ++ [x]).Nodup
      rw [List.nodup_append]
      refine ⟨hT.valid.1, by simp, ?_⟩
      intro p hp q hq e
      simp at hq
      subst hq
      subst e
      exact hx hp
    · intro n hn
      have hn' : n ∈ s.roots ++ [x] := hn
      rw [List.mem_append] at hn'
      rcases hn' with h | h
      · exact hT.valid.2 n h
      · simp at h
        subst h
        exact ⟨hx2, hxl⟩
  · refine ⟨rfl, ?_, ?_, ?_, ?_, by omega, ?_⟩
    · intro k hk
      rcases hk with h | h | h | h | h
      · exact Or.inl (Or.inl h)
      · exact Or.inl (Or.inr (Or.inl h))
      · exact Or.inl (Or.inr (Or.inr (Or.inl h)))
      · exact Or.inl (y.own_ls h)
      · have : v.ownBlock = some k := h
        rw [hgown] at this
        cases this
        rcases hat with h | h
        · exact Or.inl (y.own_rs h)
        · exact Or.inr (by omega)
    · exact hg2.os.trans hg1.os
    · exact hg2.tape.trans hg1.tape
    · exact hg2.output.trans hg1.output
    · intro k hk hn _
      rw [old2 k (by omega) (fun e => hn (Or.inl e)) (fun e => hn (Or.inr (Or.inr (Or.inl e)))), old1 k hk (fun e => hn (y.own_rs e))]
end Go.Proofs.Ytffngpdngjfcfaa
