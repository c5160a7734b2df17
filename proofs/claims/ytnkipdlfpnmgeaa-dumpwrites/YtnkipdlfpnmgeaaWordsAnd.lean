/-
  Cube: of any text.
  Cube: the headers that a text fits.
  Check of package cube, as a table calls it.
  read: a text that is no cube: the panic of mustBeCube, caught.
  read: texts into ternaries.
  mustBeCube: the ternary of a cube; a panic with ErrCube at a text that is none.
-/
import Derived.Test.YtnkipdlfpnmgeaaBTellAnd
import Derived.Defers
import Derived.Recover
import Derived.Deep.RegionHeld3
import Derived.Deep.RegionWith
import Derived.Deep.DrawnRows
namespace Go.Proofs.Ytnkipdlfpnmgeaa
open Go.RowKit

/-- The cells of a cube's ternary. -/
abbrev tc (l : List UInt8) : Array Value := c4 (Cu.fixAt l) (Cu.oneAt l)

theorem take_snoc (s : ByteArray) (k : Nat) (h : k < s.size) : s.data.toList.take (k + 1) = s.data.toList.take k ++ [s[k]] := by
  rw [List.take_succ_eq_append_getElem (by simpa using h)]; rfl
theorem take_len (s : ByteArray) (k : Nat) (h : k ≤ s.size) : (s.data.toList.take k).length = k := by
  rw [List.length_take]; simp; exact Nat.min_eq_left h
theorem grown_block {w w' : World} {r : Nat} (g : w.grownBy w' (some r)) {k : Nat} {o : Obj} (h : w.heap[k]? = some o) (hne : k ≠ r) : w'.heap[k]? = some o :=
  (g.block k (lt_of_block h) (by simp [hne])).trans h
theorem below_grown {B r : Nat} {w w1 w2 : World} (h : Below B w w1) (g : w1.grownBy w2 (some r)) (h1 : B ≤ w1.heap.size) (h2 : B ≤ r) : Below B w w2 :=
  h.grown g h1 (fun k hk => by simp at hk; omega)

theorem tc_snoc_fix (l : List UInt8) (c : UInt8) (h : c = 48 ∨ c = 49) : tc (l ++ [c]) = c4 (Cu.updw (Cu.fixAt l) l.length) (Cu.setOne (Cu.oneAt l) l.length (c == 49)) := by
  rw [tc, Cu.fixAt_snoc l c h, Cu.oneAt_snoc]
theorem tc_snoc_x (l : List UInt8) : tc (l ++ [120]) = tc l := by
  rw [tc, Cu.fixAt_snoc_x, Cu.oneAt_snoc_x]
theorem tc_nil : tc [] = #[.int .u64 0, .int .u64 0, .int .u64 0, .int .u64 0] := by
  have e : Cu.wd (Cu.fixAt []) = fun _ => 0 := by
    funext k
    symm
    exact Cu.wd_eq (by omega) (fun i _ => by simp [Cu.fixAt])
  have e2 : Cu.wd (Cu.oneAt []) = fun _ => 0 := by
    funext k
    symm
    exact Cu.wd_eq (by omega) (fun i _ => by simp [Cu.oneAt])
  simp [tc, c4, e, e2]

set_option maxHeartbeats 400000 in
theorem must_right (s : ByteArray) (w : World) (hs : Cu.right s.data.toList = true) :
    Calls Try.prog 87 #[.string s] w fun e w' =>
      e = .returned (.agg (tc s.data.toList)) ∧ Below w.heap.size w w' := by
  have hr := hs
  simp only [Cu.right, Bool.and_eq_true, decide_eq_true_eq, Array.length_toList] at hr
  obtain ⟨⟨hall, h1⟩, h2⟩ := hr
  have h1' : 1 ≤ s.size := h1
  have h2' : s.size ≤ 128 := h2
  have hd1 : decide ((s.size : Int) < 1) = false := by simp; omega
  have hd2 : decide (128 < (s.size : Int)) = false := by simp; omega
  clear h1 h2 hs
  have HA : Hid (s.data.toList.all Cu.sym = true) := hall
  clear hall
  go_enter Try.func87, Try.ntmps87
  go_wp2
  go_loopw [16] (fun i wr => ∃ k : Nat, k ≤ s.size ∧ i = .int .i64 k ∧ wr.heap[w.heap.size + 1]? = some (.cells (tc (s.data.toList.take k)) 152 (0, 0)) ∧
      wr.heap[w.heap.size]? = some (.cells #[.int .u64 0, .int .u64 0, .int .u64 0, .int .u64 0] 152 (0, 0)) ∧ Below w.heap.size w wr)
    (fun i _ => s.size - (intOf i).toNat)
  case atStart =>
    refine ⟨0, Nat.zero_le _, rfl, ?_, ?_, ((Below.refl _ _).alloc (Nat.le_refl _) _).alloc (by simp) _⟩
    · rw [List.take_zero, tc_nil]
      exact new_1 _ _ _
    · exact new_old _ _ (new_0 _ _)
  case round =>
    obtain ⟨k, hk, rfl, ht, hz, hb⟩ := hrel
    have HT : Hid _ := ht
    have HZ : Hid _ := hz
    by_cases hlt : k < s.size
    · clear ht hz
      have hsym : Cu.sym s[k] = true := by
        have := HA.out
        rw [List.all_eq_true] at this
        refine this _ ?_
        show s.data[k] ∈ s.data.toList
        simp
      have HS : Hid (s.data.toList.take (k + 1) = s.data.toList.take k ++ [s[k]]) := take_snoc s k hlt
      have HL : Hid ((s.data.toList.take k).length = k) := take_len s k hk
      have hs1 := hb.size
      rcases Cu.sym_cases hsym with hc | hc | hc
      · have hcn : (s[k].toNat : Int) = 48 := by rw [hc]; rfl
        have HC : Hid (s[k] = 48) := hc
        clear hc hsym
        go_wp2_with fail
        refine (fix_any _ _ k _ false wr (by omega) HT.out).mono ?_
        rintro e w1 ⟨rfl, hn, g1⟩
        have HN : Hid _ := hn
        clear hn
        go_wp2
        go_roundw
        case rel =>
          refine ⟨k + 1, by omega, by go_num, ?_, grown_block g1 HZ.out (by omega), below_grown hb g1 hs1 (by omega)⟩
          rw [HS.out, HC.out, tc_snoc_fix _ _ (Or.inl rfl), HL.out]
          exact HN.out
        case measure => simp [intOf]; omega
      · have hcn : (s[k].toNat : Int) = 49 := by rw [hc]; rfl
        have HC : Hid (s[k] = 49) := hc
        clear hc hsym
        go_wp2_with fail
        refine (fix_any _ _ k _ true wr (by omega) HT.out).mono ?_
        rintro e w1 ⟨rfl, hn, g1⟩
        have HN : Hid _ := hn
        clear hn
        go_wp2
        go_roundw
        case rel =>
          refine ⟨k + 1, by omega, by go_num, ?_, grown_block g1 HZ.out (by omega), below_grown hb g1 hs1 (by omega)⟩
          rw [HS.out, HC.out, tc_snoc_fix _ _ (Or.inr rfl), HL.out]
          exact HN.out
        case measure => simp [intOf]; omega
      · have hcn : (s[k].toNat : Int) = 120 := by rw [hc]; rfl
        have HC : Hid (s[k] = 120) := hc
        clear hc hsym
        go_wp2
        go_roundw
        case rel =>
          refine ⟨k + 1, by omega, by go_num, ?_, HZ.out, hb⟩
          rw [HS.out, HC.out, tc_snoc_x]
          exact HT.out
        case measure => simp [intOf]; omega
    · have hkk : k = s.size := by omega
      subst hkk
      have HE : Hid (s.data.toList.take s.size = s.data.toList) := by
        show _ = _
        rw [List.take_of_length_le (by simp)]
      obtain ⟨t0, t1, t2, t3⟩ := four_cell ht
      obtain ⟨z0, z1, z2, z3⟩ := four_cell hz
      have f0 : wr.frozen? ⟨w.heap.size, 0, none⟩ = false := free_of hz
      have f1 : wr.frozen? ⟨w.heap.size, 1, none⟩ = false := free_of hz
      have f2 : wr.frozen? ⟨w.heap.size, 2, none⟩ = false := free_of hz
      have f3 : wr.frozen? ⟨w.heap.size, 3, none⟩ = false := free_of hz
      clear ht hz
      go_wp2
      refine bodyPost_ret (v := .agg (tc (s.data.toList.take s.size))) ?_ rfl ⟨by rw [HE.out], ?_⟩
      · simp [results, Try.results87, go_sem, z0, z1, z2, z3, c4]
      · exact (((hb.setCell (by simp) _).setCell (by simp) _).setCell (by simp) _).setCell (by simp) _

/-- A ternary's value, written out. -/
abbrev tv (l : List UInt8) : Value := .agg #[.int .u64 (Cu.wd (Cu.fixAt l) 0 : Int), .int .u64 (Cu.wd (Cu.fixAt l) 1 : Int), .int .u64 (Cu.wd (Cu.oneAt l) 0 : Int), .int .u64 (Cu.wd (Cu.oneAt l) 1 : Int)]

theorem must_right' (s : ByteArray) (w : World) (hs : Cu.right s.data.toList = true) :
    Calls Try.prog 87 #[.string s] w fun e w' => e = .returned (tv s.data.toList) ∧ Below w.heap.size w w' := must_right s w hs

/-- The panic of a text that is no cube. -/
abbrev noCube : List PanicEntry := [{ v := .iface 30 (.int .i64 10), recovered := false }]

set_option maxHeartbeats 400000 in
theorem must_size (s : ByteArray) (w : World) (hs : s.size < 1 ∨ 128 < s.size) :
    Calls Try.prog 87 #[.string s] w fun e w' => e = .panicked noCube ∧ Below w.heap.size w w' := by
  rcases hs with hs | hs
  · have hd1 : decide ((s.size : Int) < 1) = true := by simp; omega
    go_enter Try.func87, Try.ntmps87
    go_wp2
    exact ⟨rfl, rfl, (Below.refl _ _).alloc (Nat.le_refl _) _⟩
  · have hd1 : decide ((s.size : Int) < 1) = false := by simp; omega
    have hd2 : decide (128 < (s.size : Int)) = true := by simp; omega
    go_enter Try.func87, Try.ntmps87
    go_wp2
    exact ⟨rfl, rfl, (Below.refl _ _).alloc (Nat.le_refl _) _⟩

set_option maxHeartbeats 400000 in
theorem must_sym (s : ByteArray) (w : World) (h1' : 1 ≤ s.size) (h2' : s.size ≤ 128) (hall : s.data.toList.all Cu.sym = false) :
    Calls Try.prog 87 #[.string s] w fun e w' => e = .panicked noCube ∧ Below w.heap.size w w' := by
  have hd1 : decide ((s.size : Int) < 1) = false := by simp; omega
  have hd2 : decide (128 < (s.size : Int)) = false := by simp; omega
  have HA : Hid (s.data.toList.all Cu.sym = false) := hall
  clear hall
  go_enter Try.func87, Try.ntmps87
  go_wp2
  go_loopw [16] (fun i wr => ∃ k : Nat, k ≤ s.size ∧ i = .int .i64 k ∧ (∃ p q, wr.heap[w.heap.size + 1]? = some (.cells (c4 p q) 152 (0, 0))) ∧
      Hid ((s.data.toList.take k).all Cu.sym = true) ∧ Below w.heap.size w wr)
    (fun i _ => s.size - (intOf i).toNat)
  case atStart =>
    refine ⟨0, Nat.zero_le _, rfl, ⟨Cu.fixAt [], Cu.oneAt [], ?_⟩, ?_, ((Below.refl _ _).alloc (Nat.le_refl _) _).alloc (by simp) _⟩
    · have := tc_nil
      rw [tc] at this
      rw [this]
      exact new_1 _ _ _
    · show _ = _
      simp
  case round =>
    obtain ⟨k, hk, rfl, ⟨p, q, ht⟩, hpre, hb⟩ := hrel
    have HT : Hid _ := ht
    clear ht
    have hs1 := hb.size
    by_cases hlt : k < s.size
    · have HS : Hid (s.data.toList.take (k + 1) = s.data.toList.take k ++ [s[k]]) := take_snoc s k hlt
      by_cases hsym : Cu.sym s[k] = true
      · have HP : Hid ((s.data.toList.take (k + 1)).all Cu.sym = true) := by
          show _ = _
          rw [HS.out, List.all_append, hpre.out]; simp [hsym]
        rcases Cu.sym_cases hsym with hc | hc | hc
        · have hcn : (s[k].toNat : Int) = 48 := by rw [hc]; rfl
          clear hc hsym
          go_wp2_with fail
          refine (fix_any _ _ k _ false wr (by omega) HT.out).mono ?_
          rintro e w1 ⟨rfl, hn, g1⟩
          have HN : Hid _ := hn
          clear hn
          go_wp2
          go_roundw
          case rel => exact ⟨k + 1, by omega, by go_num, ⟨_, _, HN.out⟩, HP, below_grown hb g1 hs1 (by omega)⟩
          case measure => simp [intOf]; omega
        · have hcn : (s[k].toNat : Int) = 49 := by rw [hc]; rfl
          clear hc hsym
          go_wp2_with fail
          refine (fix_any _ _ k _ true wr (by omega) HT.out).mono ?_
          rintro e w1 ⟨rfl, hn, g1⟩
          have HN : Hid _ := hn
          clear hn
          go_wp2
          go_roundw
          case rel => exact ⟨k + 1, by omega, by go_num, ⟨_, _, HN.out⟩, HP, below_grown hb g1 hs1 (by omega)⟩
          case measure => simp [intOf]; omega
        · have hcn : (s[k].toNat : Int) = 120 := by rw [hc]; rfl
          clear hc hsym
          go_wp2
          go_roundw
          case rel => exact ⟨k + 1, by omega, by go_num, ⟨_, _, HT.out⟩, HP, hb⟩
          case measure => simp [intOf]; omega
      · have n1 : ((s[k].toNat : Int) == 48) = false := by
          rw [beq_eq_false_iff_ne]; intro h; exact hsym (by have : s[k] = 48 := UInt8.toNat.inj (by simp; omega); simp [Cu.sym, this])
        have n2 : ((s[k].toNat : Int) == 49) = false := by
          rw [beq_eq_false_iff_ne]; intro h; exact hsym (by have : s[k] = 49 := UInt8.toNat.inj (by simp; omega); simp [Cu.sym, this])
        have n3 : ((s[k].toNat : Int) == 120) = false := by
          rw [beq_eq_false_iff_ne]; intro h; exact hsym (by have : s[k] = 120 := UInt8.toNat.inj (by simp; omega); simp [Cu.sym, this])
        clear hsym
        go_wp2
        exact ⟨rfl, rfl, hb⟩
    · exfalso
      have hkk : k = s.size := by omega
      have h1 := hpre.out
      rw [hkk, List.take_of_length_le (by simp)] at h1
      have h2 := HA.out
      rw [h1] at h2
      cases h2

theorem must_wrong (s : ByteArray) (w : World) (hs : Cu.right s.data.toList = false) :
    Calls Try.prog 87 #[.string s] w fun e w' => e = .panicked noCube ∧ Below w.heap.size w w' := by
  by_cases h : s.size < 1 ∨ 128 < s.size
  · exact must_size s w h
  · refine must_sym s w (by omega) (by omega) ?_
    have h1 : 1 ≤ s.data.toList.length := by simp; show 1 ≤ s.size; omega
    have h2 : s.data.toList.length ≤ 128 := by simp; show s.size ≤ 128; omega
    simpa only [Cu.right, h1, h2, decide_true, Bool.and_true] using hs
end Go.Proofs.Ytnkipdlfpnmgeaa
namespace Go.Proofs.Ytnkipdlfpnmgeaa
open Go.RowKit

def zero4 : Array Value := #[.int .u64 0, .int .u64 0, .int .u64 0, .int .u64 0]
def made (n : Nat) : Array Value := madeCells zero4 (n * 4)
theorem Try.infoTern : (Try.prog.info? 152).map (fun i => (i.zero, i.size, i.bytes)) = some (some (.agg zero4), 4, 32) := by kernel_rfl

theorem run_made (n : Nat) (hn : n ≤ 1000000) (w : World) :
    (Instr.makeSlice 127 (.int .i64 (n : Int)) (.int .i64 (n : Int))).run Try.prog w = .ok (.slice (some ⟨w.heap.size, 0, none⟩) n n) (w.alloc (.cells (made n) 152)) := by
  obtain ⟨i, hi, hz0, hz1, hz2⟩ := info_parts Try.infoTern
  have := run_make (P := Try.prog) w 127 152 i (.agg zero4) Try.underlying127 hi hz0 .i64 .i64 n n (by omega) (by omega) (by rw [hz2]; omega) (by omega)
  rw [this, hz1]
  rfl

theorem catch_panicking (p q : Addr) (x y : Value) (pv : Value) (older : List PanicEntry) (w : World) (hc : w.cell? p = some x) (hz : w.frozen? p = false) (hc2 : w.cell? q = some y) (hz2 : w.frozen? q = false) (hpq : p ≠ q) :
    CallsD Try.prog 86 #[.pointer (some p), .pointer (some q)] (.panicking ({ v := .iface 30 pv, recovered := false } :: older)) w fun e u' w' =>
      e = .returned (.tuple #[]) ∧ u' = .panicking ({ v := .iface 30 pv, recovered := true } :: older) ∧ w' = (w.setCell p (.slice none 0 0)).setCell q (.int .i64 10) := by
  have hc2' : (w.setCell p (.slice none 0 0)).cell? q = some y := by rw [World.cell?_setCell_other _ _ _ _ hpq]; exact hc2
  refine callsD_of_wpS Try.func86 rfl fun c₀ cs hu => ?_
  apply wpS_seq
  apply wpS_region
  simp [wpOpsS, go_sem, recoverD, hu, Try.ntmps86, Exit.thenS]
  refine wpS_cond (t := true) (by simp [Act.eval, Array.replicate]) ?_
  simp only [if_true]
  apply wpS_region
  simp [wpOpsS, go_sem, hc, hz, hc2', hz2, bodyPostS, results, Try.results86]

theorem catch_idle (p q : Addr) (w : World) :
    CallsD Try.prog 86 #[.pointer (some p), .pointer (some q)] .returning w fun e u' w' => e = .returned (.tuple #[]) ∧ u' = .returning ∧ w' = w := by
  refine callsD_of_wpS Try.func86 rfl fun c₀ cs hu => ?_
  apply wpS_seq
  apply wpS_region
  simp [wpOpsS, go_sem, recoverD, hu, Try.ntmps86, Exit.thenS]
  refine wpS_cond (t := false) (by simp [Act.eval, Array.replicate]) ?_
  simp only [Bool.false_eq_true, if_false]
  refine wpS_of_wp (wp_skip ?_)
  cases c₀
  simp_all [bodyPostS, results, Try.results86]

/-- Cells in which k ternaries lie one behind the other. -/
def lie (cs : Array Value) (k : Nat) (L : Nat → List UInt8) : Prop :=
  ∀ i, i < k → ∀ j, j < 4 → cs[i * 4 + j]? = (tc (L i))[j]?

theorem made_size (n : Nat) : (made n).size = n * 4 := size_madeCells _ _

/-- The bytes of the i-th text. -/
abbrev by_ (S : Nat → ByteArray) (i : Nat) : List UInt8 := (S i).data.toList

theorem cells_some {w : World} {g : Nat} {cs : Array Value} {t : TypeId} (h : w.heap[g]? = some (.cells cs t (0, 0))) {x : Nat} (hx : x < cs.size) : ∃ v, w.cell? ⟨g, x, none⟩ = some v := by
  exact ⟨cs[x], by simp [World.cell?, h, hx]⟩
theorem four_at {w : World} {g : Nat} {cs : Array Value} {t : TypeId} (h : w.heap[g]? = some (.cells cs t (0, 0))) {x : Nat} (hx : x + 3 < cs.size) :
    (∃ v, w.cell? ⟨g, x, none⟩ = some v) ∧ (∃ v, w.cell? ⟨g, x + 1, none⟩ = some v) ∧ (∃ v, w.cell? ⟨g, x + 2, none⟩ = some v) ∧ (∃ v, w.cell? ⟨g, x + 3, none⟩ = some v) ∧
      w.frozen? ⟨g, x, none⟩ = false ∧ w.frozen? ⟨g, x + 1, none⟩ = false ∧ w.frozen? ⟨g, x + 2, none⟩ = false ∧ w.frozen? ⟨g, x + 3, none⟩ = false :=
  ⟨cells_some h (by omega), cells_some h (by omega), cells_some h (by omega), cells_some h hx, free_of h, free_of h, free_of h, free_of h⟩
theorem below_block {B k : Nat} {w w' : World} (h : Below B w w') {x : Obj} (hx : w.heap[k]? = some x) (hk : k < B) : w'.heap[k]? = some x := (h.block k hk).trans hx

/-- Four cells stored one behind the other. -/
def set4 (cs : Array Value) (x : Nat) (a b c d : Value) : Array Value := (((cs.setIfInBounds x a).setIfInBounds (x + 1) b).setIfInBounds (x + 2) c).setIfInBounds (x + 3) d
theorem set4_size (cs : Array Value) (x : Nat) (a b c d : Value) : (set4 cs x a b c d).size = cs.size := by simp [set4]
theorem set4_get (cs : Array Value) (x : Nat) (a b c d : Value) (hx : x + 3 < cs.size) (y : Nat) :
    (set4 cs x a b c d)[y]? = if y = x then some a else if y = x + 1 then some b else if y = x + 2 then some c else if y = x + 3 then some d else cs[y]? := by
  simp only [set4, Array.getElem?_setIfInBounds, Array.size_setIfInBounds]
  by_cases h0 : y = x
  · subst h0
    rw [if_neg (by omega), if_neg (by omega), if_neg (by omega), if_pos rfl, if_pos (by omega), if_pos rfl]
  · by_cases h1 : y = x + 1
    · subst h1
      rw [if_neg (by omega), if_neg (by omega), if_pos rfl, if_pos (by omega), if_neg (by omega), if_pos rfl]
    · by_cases h2 : y = x + 2
      · subst h2
        rw [if_neg (by omega), if_pos rfl, if_pos (by omega), if_neg (by omega), if_neg (by omega), if_pos rfl]
      · by_cases h3 : y = x + 3
        · subst h3
          rw [if_pos rfl, if_pos (by omega), if_neg (by omega), if_neg (by omega), if_neg (by omega), if_pos rfl]
        · rw [if_neg (by omega), if_neg (by omega), if_neg (by omega), if_neg (by omega), if_neg h0, if_neg h1, if_neg h2, if_neg h3]
theorem store4 {w : World} {g x : Nat} {cs : Array Value} {t : TypeId} (h : w.heap[g]? = some (.cells cs t (0, 0))) (a b c d : Value) :
    ((((w.setCell ⟨g, x, none⟩ a).setCell ⟨g, x + 1, none⟩ b).setCell ⟨g, x + 2, none⟩ c).setCell ⟨g, x + 3, none⟩ d).heap[g]? = some (.cells (set4 cs x a b c d) t (0, 0)) :=
  block_set _ (block_set _ (block_set _ (block_set _ h)))
theorem store4_other {w : World} {g x k : Nat} (a b c d : Value) (hk : k ≠ g) :
    ((((w.setCell ⟨g, x, none⟩ a).setCell ⟨g, x + 1, none⟩ b).setCell ⟨g, x + 2, none⟩ c).setCell ⟨g, x + 3, none⟩ d).heap[k]? = w.heap[k]? := by
  rw [Below.heap_setCell _ _ _ _ hk, Below.heap_setCell _ _ _ _ hk, Below.heap_setCell _ _ _ _ hk, Below.heap_setCell _ _ _ _ hk]
theorem lie_set {cs : Array Value} {k n : Nat} {L : Nat → List UInt8} (h : lie cs k L) (hs : cs.size = n * 4) (hk : k < n) (l : List UInt8) (hl : l = L k) :
    lie (set4 cs (k * 4) (.int .u64 (Cu.wd (Cu.fixAt l) 0 : Int)) (.int .u64 (Cu.wd (Cu.fixAt l) 1 : Int)) (.int .u64 (Cu.wd (Cu.oneAt l) 0 : Int)) (.int .u64 (Cu.wd (Cu.oneAt l) 1 : Int))) (k + 1) L := by
  subst hl
  intro i hi j hj
  rw [set4_get _ _ _ _ _ _ (by omega)]
  by_cases e : i = k
  · subst e
    have : j = 0 ∨ j = 1 ∨ j = 2 ∨ j = 3 := by omega
    rcases this with rfl | rfl | rfl | rfl <;> simp [c4]
  · rw [if_neg (by omega), if_neg (by omega), if_neg (by omega), if_neg (by omega)]
    exact h i (by omega) j hj
theorem lie_zero (cs : Array Value) (L : Nat → List UInt8) : lie cs 0 L := fun i hi => absurd hi (Nat.not_lt_zero i)

/-- The world behind the store of a ternary. -/
abbrev st4 (w : World) (g x : Nat) (l : List UInt8) : World :=
  (((w.setCell ⟨g, x, none⟩ (.int .u64 (Cu.wd (Cu.fixAt l) 0 : Int))).setCell ⟨g, x + 1, none⟩ (.int .u64 (Cu.wd (Cu.fixAt l) 1 : Int))).setCell ⟨g, x + 2, none⟩ (.int .u64 (Cu.wd (Cu.oneAt l) 0 : Int))).setCell ⟨g, x + 3, none⟩ (.int .u64 (Cu.wd (Cu.oneAt l) 1 : Int))

theorem undrew {w w1 : World} (h : Below w.drew.heap.size w.drew w1) : Below w.heap.size w w1 := ⟨h.os, h.tape, h.output, h.size, h.block⟩

theorem rel_step (S : Nat → ByteArray) {w wr w1 : World} {cs : Array Value} {n k : Nat} {o0 o1 : Obj}
    (h0 : wr.heap[w.heap.size]? = some o0) (h1 : wr.heap[w.heap.size + 1]? = some o1) (h2 : wr.heap[w.heap.size + 2]? = some (.cells cs 152 (0, 0)))
    (hsz : cs.size = n * 4) (hlie : lie cs k (by_ S)) (hlt : k < n) (hbl : Below w.heap.size w wr) (hb1 : Below wr.heap.size wr w1) :
    (st4 w1 (w.heap.size + 2) (k * 4) (S k).data.toList).heap[w.heap.size]? = some o0 ∧ (st4 w1 (w.heap.size + 2) (k * 4) (S k).data.toList).heap[w.heap.size + 1]? = some o1 ∧
      (∃ cs, (st4 w1 (w.heap.size + 2) (k * 4) (S k).data.toList).heap[w.heap.size + 2]? = some (.cells cs 152 (0, 0)) ∧ cs.size = n * 4 ∧ lie cs (k + 1) (by_ S)) ∧
      Below w.heap.size w (st4 w1 (w.heap.size + 2) (k * 4) (S k).data.toList) := by
  have hs := hbl.size
  refine ⟨?_, ?_, ⟨_, store4 (below_block hb1 h2 (lt_of_block h2)) _ _ _ _, ?_, ?_⟩, ?_⟩
  · rw [store4_other _ _ _ _ (by omega)]; exact below_block hb1 h0 (lt_of_block h0)
  · rw [store4_other _ _ _ _ (by omega)]; exact below_block hb1 h1 (lt_of_block h1)
  · rw [set4_size]; exact hsz
  · exact lie_set hlie hsz hlt (S k).data.toList rfl
  · exact ((((hbl.trans (hb1.mono hs)).setCell (by simp) _).setCell (by simp) _).setCell (by simp) _).setCell (by simp) _

theorem start_three (w : World) (o0 o1 o2 : Obj) : (((w.alloc o0).alloc o1).alloc o2).heap[w.heap.size]? = some o0 ∧ (((w.alloc o0).alloc o1).alloc o2).heap[w.heap.size + 1]? = some o1 ∧
    (((w.alloc o0).alloc o1).alloc o2).heap[w.heap.size + 2]? = some o2 ∧ Below w.heap.size w (((w.alloc o0).alloc o1).alloc o2) := by
  refine ⟨new_old _ _ (new_old _ _ (new_0 _ _)), new_old _ _ (new_1 _ _ _), ?_, (((Below.refl _ _).alloc (Nat.le_refl _) _).alloc (by simp) _).alloc (by simp; omega) _⟩
  have := new_0 ((w.alloc o0).alloc o1) o2
  simpa using this

set_option maxHeartbeats 1000000 in
theorem read_right (S : Nat → ByteArray) (n b o cap : Nat) (w : World) (hb : b < w.heap.size) (hc : ∀ i, i < n → w.cell? ⟨b, o + i, none⟩ = some (.string (S i)))
    (hn0 : 0 < n) (hn : n ≤ 1000000) (hr : ∀ i, i < n → Cu.right (by_ S i) = true) (hw : ∀ i, i < n → (S i).size = (S 0).size) :
    Calls Try.prog 70 #[.slice (some ⟨b, o, none⟩) n cap] w fun e w' =>
      e = .returned (.tuple #[.slice (some ⟨w.heap.size + 2, 0, none⟩) n n, .int .i64 0]) ∧ (∃ cs, w'.heap[w.heap.size + 2]? = some (.cells cs 152 (0, 0)) ∧ cs.size = n * 4 ∧ lie cs n (by_ S)) ∧ Below w.heap.size w w' := by
  have HC : Hid (∀ i, i < n → w.cell? ⟨b, o + i, none⟩ = some (.string (S i))) := hc
  have HR : Hid (∀ i, i < n → Cu.right (by_ S i) = true) := hr
  have HW : Hid (∀ i, i < n → (S i).size = (S 0).size) := hw
  clear hc hr hw
  have hmf : ∀ (fn : Fn) (first cap : Array Value) (w : World), (Instr.makeFunc fn first cap).run Try.prog w = .ok (.func fn first cap) w := fun _ _ _ _ => rfl
  have hmk := run_made n hn
  go_enter_defers Try.func70, Try.ntmps70
  go_wp2
  go_loopw [14] (fun i wr => ∃ k : Nat, k ≤ n ∧ i = .int .i64 k ∧ wr.heap[w.heap.size]? = some (.cells #[.slice (some ⟨w.heap.size + 2, 0, none⟩) n n] 127 (0, 0)) ∧
      wr.heap[w.heap.size + 1]? = some (.cells #[.int .i64 0] 30 (0, 0)) ∧
      (∃ cs, wr.heap[w.heap.size + 2]? = some (.cells cs 152 (0, 0)) ∧ cs.size = n * 4 ∧ lie cs k (by_ S)) ∧ Below w.heap.size w wr)
    (fun i _ => n - (intOf i).toNat)
  case atStart =>
    have R := start_three w (.cells #[.slice (some ⟨w.heap.size + 2, 0, none⟩) n n] 127 (0, 0)) (.cells #[.int .i64 0] 30 (0, 0)) (.cells (made n) 152 (0, 0))
    exact ⟨0, Nat.zero_le _, rfl, R.1, R.2.1, ⟨made n, R.2.2.1, made_size n, lie_zero _ _⟩, R.2.2.2⟩
  case round =>
    obtain ⟨k, hk, rfl, h0, h1, ⟨cs, h2, hsz, hlie⟩, hbl⟩ := hrel
    have H1 : Hid _ := h1
    have H2 : Hid _ := h2
    have H0 : Hid _ := h0
    have hs1 := hbl.size
    have c0 := cell_of_one h0
    have hlt0 := lt_of_block h2
    by_cases hlt : k < n
    · have hck : wr.cell? ⟨b, o + k, none⟩ = some (.string (S k)) := by rw [hbl.cell (by exact hb)]; exact HC.out k hlt
      have hkI : (0 : Int) ≤ (k : Int) := by omega
      have hkI2 : (k : Int) < (n : Int) := by omega
      clear h0 h1 h2
      go_wp2_with fail
      go_region_held3 (fun w' => w'.cell? ⟨w.heap.size, 0, none⟩ = some (.slice (some ⟨w.heap.size + 2, 0, none⟩) n n)) (first | (go_keep; done) | exact hc1) (first | (go_at_call 87; refine (must_right' (S k) _ (HR.out k hlt)).mono ?_; rintro e w1 ⟨rfl, hb1⟩; have hc1 : w1.cell? ⟨w.heap.size, 0, none⟩ = some (.slice (some ⟨w.heap.size + 2, 0, none⟩) n n) := (by rw [hb1.cell (by show w.heap.size < wr.heap.size; omega)]; exact c0); obtain ⟨⟨v0, q0⟩, ⟨v1, q1⟩, ⟨v2, q2⟩, ⟨v3, q3⟩, f0, f1, f2, f3⟩ := four_at (below_block hb1 (k := w.heap.size + 2) H2.out (by show w.heap.size + 2 < wr.heap.size; omega)) (x := k * 4) (by omega)))
      go_wp2
      go_roundw
      case rel =>
        have R := rel_step S H0.out H1.out H2.out hsz hlie hlt hbl (undrew hb1)
        exact ⟨k + 1, by omega, by go_num, R.1, R.2.1, R.2.2.1, R.2.2.2⟩
      case measure => simp [intOf]; omega
    · have hkn : k = n := by omega
      subst hkn
      have f0 : wr.frozen? ⟨w.heap.size, 0, none⟩ = false := free_of h0
      have f1 : wr.frozen? ⟨w.heap.size + 1, 0, none⟩ = false := free_of h1
      have c1 := cell_of_one h1
      have hc0 : wr.cell? ⟨b, o, none⟩ = some (.string (S 0)) := by rw [hbl.cell (by exact hb)]; exact HC.out 0 hn0
      clear h0 h1 h2
      go_wp2
      go_loop [27] (fun i => ∃ j : Nat, j ≤ k ∧ i = .int .i64 j) (fun i => k - (intOf i).toNat)
      case atStart => exact ⟨0, Nat.zero_le _, rfl⟩
      case round =>
        obtain ⟨j, hj, rfl⟩ := hrel
        by_cases hjn : j < k
        · have hck : wr.cell? ⟨b, o + j, none⟩ = some (.string (S j)) := by rw [hbl.cell (by exact hb)]; exact HC.out j hjn
          have hne : (((S j).size : Int) != ((S 0).size : Int)) = false := by rw [HW.out j hjn]; simp
          go_wp2
          go_round
          case rel => exact ⟨j + 1, by omega, by go_num⟩
          case measure => simp [intOf]; omega
        · go_wp2
          refine leaves_cons (f := 86) (args := #[.pointer (some ⟨w.heap.size, 0, none⟩), .pointer (some ⟨w.heap.size + 1, 0, none⟩)]) (by simp) (by simp [go_sem]) ?_
          refine (catch_idle _ _ _).mono ?_
          rintro e u' w'' ⟨rfl, rfl, rfl⟩
          refine ⟨.tuple #[.slice (some ⟨w.heap.size + 2, 0, none⟩) k k, .int .i64 0], ?_, rfl, ⟨cs, ?_, hsz, hlie⟩, ?_⟩
          · simp [results, Try.results70, go_sem, c0, c1]
          · rw [Below.heap_setCell _ _ _ _ (by simp), Below.heap_setCell _ _ _ _ (by simp)]; exact H2.out
          · exact (hbl.setCell (by simp) _).setCell (by simp) _

set_option maxHeartbeats 1000000 in
theorem read_width (S : Nat → ByteArray) (n b o cap : Nat) (w : World) (hb : b < w.heap.size) (hc : ∀ i, i < n → w.cell? ⟨b, o + i, none⟩ = some (.string (S i)))
    (hn0 : 0 < n) (hn : n ≤ 1000000) (hr : ∀ i, i < n → Cu.right (by_ S i) = true) (m : Nat) (hm : m < n) (hw : (S m).size ≠ (S 0).size) :
    Calls Try.prog 70 #[.slice (some ⟨b, o, none⟩) n cap] w fun e w' =>
      e = .returned (.tuple #[.slice none 0 0, .int .i64 11]) ∧ Below w.heap.size w w' := by
  have HC : Hid (∀ i, i < n → w.cell? ⟨b, o + i, none⟩ = some (.string (S i))) := hc
  have HR : Hid (∀ i, i < n → Cu.right (by_ S i) = true) := hr
  have HW : Hid ((S m).size ≠ (S 0).size) := hw
  clear hc hr hw
  have hmf : ∀ (fn : Fn) (first cap : Array Value) (w : World), (Instr.makeFunc fn first cap).run Try.prog w = .ok (.func fn first cap) w := fun _ _ _ _ => rfl
  have hmk := run_made n hn
  go_enter_defers Try.func70, Try.ntmps70
  go_wp2
  go_loopw [14] (fun i wr => ∃ k : Nat, k ≤ n ∧ i = .int .i64 k ∧ wr.heap[w.heap.size]? = some (.cells #[.slice (some ⟨w.heap.size + 2, 0, none⟩) n n] 127 (0, 0)) ∧
      wr.heap[w.heap.size + 1]? = some (.cells #[.int .i64 0] 30 (0, 0)) ∧
      (∃ cs, wr.heap[w.heap.size + 2]? = some (.cells cs 152 (0, 0)) ∧ cs.size = n * 4 ∧ lie cs k (by_ S)) ∧ Below w.heap.size w wr)
    (fun i _ => n - (intOf i).toNat)
  case atStart =>
    have R := start_three w (.cells #[.slice (some ⟨w.heap.size + 2, 0, none⟩) n n] 127 (0, 0)) (.cells #[.int .i64 0] 30 (0, 0)) (.cells (made n) 152 (0, 0))
    exact ⟨0, Nat.zero_le _, rfl, R.1, R.2.1, ⟨made n, R.2.2.1, made_size n, lie_zero _ _⟩, R.2.2.2⟩
  case round =>
    obtain ⟨k, hk, rfl, h0, h1, ⟨cs, h2, hsz, hlie⟩, hbl⟩ := hrel
    have H1 : Hid _ := h1
    have H2 : Hid _ := h2
    have H0 : Hid _ := h0
    have hs1 := hbl.size
    have c0 := cell_of_one h0
    have hlt0 := lt_of_block h2
    by_cases hlt : k < n
    · have hck : wr.cell? ⟨b, o + k, none⟩ = some (.string (S k)) := by rw [hbl.cell (by exact hb)]; exact HC.out k hlt
      have hkI : (0 : Int) ≤ (k : Int) := by omega
      have hkI2 : (k : Int) < (n : Int) := by omega
      clear h0 h1 h2
      go_wp2_with fail
      go_region_held3 (fun w' => w'.cell? ⟨w.heap.size, 0, none⟩ = some (.slice (some ⟨w.heap.size + 2, 0, none⟩) n n)) (first | (go_keep; done) | exact hc1) (first | (go_at_call 87; refine (must_right' (S k) _ (HR.out k hlt)).mono ?_; rintro e w1 ⟨rfl, hb1⟩; have hc1 : w1.cell? ⟨w.heap.size, 0, none⟩ = some (.slice (some ⟨w.heap.size + 2, 0, none⟩) n n) := (by rw [hb1.cell (by show w.heap.size < wr.heap.size; omega)]; exact c0); obtain ⟨⟨v0, q0⟩, ⟨v1, q1⟩, ⟨v2, q2⟩, ⟨v3, q3⟩, f0, f1, f2, f3⟩ := four_at (below_block hb1 (k := w.heap.size + 2) H2.out (by show w.heap.size + 2 < wr.heap.size; omega)) (x := k * 4) (by omega)))
      go_wp2
      go_roundw
      case rel =>
        have R := rel_step S H0.out H1.out H2.out hsz hlie hlt hbl (undrew hb1)
        exact ⟨k + 1, by omega, by go_num, R.1, R.2.1, R.2.2.1, R.2.2.2⟩
      case measure => simp [intOf]; omega
    · have hkn : k = n := by omega
      subst hkn
      have f0 : wr.frozen? ⟨w.heap.size, 0, none⟩ = false := free_of h0
      have f1 : wr.frozen? ⟨w.heap.size + 1, 0, none⟩ = false := free_of h1
      have c1 := cell_of_one h1
      have hc0 : wr.cell? ⟨b, o, none⟩ = some (.string (S 0)) := by rw [hbl.cell (by exact hb)]; exact HC.out 0 hn0
      clear h0 h1 h2
      go_wp2
      go_loop [27] (fun i => ∃ j : Nat, j ≤ k ∧ i = .int .i64 j ∧ j ≤ m) (fun i => k - (intOf i).toNat)
      case atStart => exact ⟨0, Nat.zero_le _, rfl, Nat.zero_le _⟩
      case round =>
        obtain ⟨j, hj, rfl, hjm⟩ := hrel
        have hjn : j < k := by omega
        have hck : wr.cell? ⟨b, o + j, none⟩ = some (.string (S j)) := by rw [hbl.cell (by exact hb)]; exact HC.out j hjn
        by_cases hsame : (S j).size = (S 0).size
        · have hne : (((S j).size : Int) != ((S 0).size : Int)) = false := by rw [hsame]; simp
          have hjm2 : j < m := by
            have : j ≠ m := fun e => HW.out (by rw [← e]; exact hsame)
            omega
          clear hsame
          go_wp2
          go_round
          case rel => exact ⟨j + 1, by omega, by go_num, by omega⟩
          case measure => simp [intOf]; omega
        · have hne : (((S j).size : Int) != ((S 0).size : Int)) = true := by rw [bne_iff_ne]; omega
          clear hsame
          go_wp2
          refine leaves_cons (f := 86) (args := #[.pointer (some ⟨w.heap.size, 0, none⟩), .pointer (some ⟨w.heap.size + 1, 0, none⟩)]) (by simp) (by simp [go_sem]) ?_
          refine (catch_idle _ _ _).mono ?_
          rintro e u' w'' ⟨rfl, rfl, rfl⟩
          refine ⟨.tuple #[.slice none 0 0, .int .i64 11], ?_, rfl, ?_⟩
          · simp [results, Try.results70, go_sem, c0, c1]
          · exact (hbl.setCell (by simp) _).setCell (by simp) _
end Go.Proofs.Ytnkipdlfpnmgeaa
namespace Go.Proofs.Ytnkipdlfpnmgeaa
open Go.RowKit

/-- What is left of a region that can only panic: the panic, the deferred call, the two slots that are read behind it, and the world. -/
def PanicOnly (D : List Deferred) (p2 p3 : Value) (wr : World) : Exit → Act → World → Prop
  | .panic c, a, w => c = noCube ∧ a.defers = D ∧ a.tmps[2]? = some p2 ∧ a.tmps[3]? = some p3 ∧ Below wr.heap.size wr w
  | _, _, _ => False
theorem PanicOnly.stable (D : List Deferred) (p2 p3 : Value) (wr : World) (d : Tmp) (v : Value) (h2 : d ≠ 2) (h3 : d ≠ 3) (c : List PanicEntry) (a : Act) (w : World)
    (h : PanicOnly D p2 p3 wr (.panic c) (a.put (some d) v) w) : PanicOnly D p2 p3 wr (.panic c) a w := by
  obtain ⟨e1, e2, e3, e4, e5⟩ := h
  refine ⟨e1, e2, ?_, ?_, e5⟩
  · simpa [Act.put, Array.getElem?_setIfInBounds_ne h2] using e3
  · simpa [Act.put, Array.getElem?_setIfInBounds_ne h3] using e4

set_option maxHeartbeats 1000000 in
theorem read_wrong (S : Nat → ByteArray) (n b o cap : Nat) (w : World) (hb : b < w.heap.size) (hc : ∀ i, i < n → w.cell? ⟨b, o + i, none⟩ = some (.string (S i)))
    (hn0 : 0 < n) (hn : n ≤ 1000000) (m : Nat) (hm : m < n) (hr : ∀ i, i < m → Cu.right (by_ S i) = true) (hw : Cu.right (by_ S m) = false) :
    Calls Try.prog 70 #[.slice (some ⟨b, o, none⟩) n cap] w fun e w' =>
      e = .returned (.tuple #[.slice none 0 0, .int .i64 10]) ∧ Below w.heap.size w w' := by
  have HC : Hid (∀ i, i < n → w.cell? ⟨b, o + i, none⟩ = some (.string (S i))) := hc
  have HR : Hid (∀ i, i < m → Cu.right (by_ S i) = true) := hr
  have HW : Hid (Cu.right (by_ S m) = false) := hw
  clear hc hr hw
  have hmf : ∀ (fn : Fn) (first cap : Array Value) (w : World), (Instr.makeFunc fn first cap).run Try.prog w = .ok (.func fn first cap) w := fun _ _ _ _ => rfl
  have hmk := run_made n hn
  go_enter_defers Try.func70, Try.ntmps70
  go_wp2
  go_loopw [14] (fun i wr => ∃ k : Nat, k ≤ m ∧ i = .int .i64 k ∧ wr.heap[w.heap.size]? = some (.cells #[.slice (some ⟨w.heap.size + 2, 0, none⟩) n n] 127 (0, 0)) ∧
      wr.heap[w.heap.size + 1]? = some (.cells #[.int .i64 0] 30 (0, 0)) ∧
      (∃ cs, wr.heap[w.heap.size + 2]? = some (.cells cs 152 (0, 0)) ∧ cs.size = n * 4 ∧ lie cs k (by_ S)) ∧ Below w.heap.size w wr)
    (fun i _ => n - (intOf i).toNat)
  case atStart =>
    have R := start_three w (.cells #[.slice (some ⟨w.heap.size + 2, 0, none⟩) n n] 127 (0, 0)) (.cells #[.int .i64 0] 30 (0, 0)) (.cells (made n) 152 (0, 0))
    exact ⟨0, Nat.zero_le _, rfl, R.1, R.2.1, ⟨made n, R.2.2.1, made_size n, lie_zero _ _⟩, R.2.2.2⟩
  case round =>
    obtain ⟨k, hk, rfl, h0, h1, ⟨cs, h2, hsz, hlie⟩, hbl⟩ := hrel
    have H1 : Hid _ := h1
    have H2 : Hid _ := h2
    have H0 : Hid _ := h0
    have hs1 := hbl.size
    have c0 := cell_of_one h0
    have hlt0 := lt_of_block h2
    have hlt : k < n := by omega
    by_cases hkm : k < m
    · have hck : wr.cell? ⟨b, o + k, none⟩ = some (.string (S k)) := by rw [hbl.cell (by exact hb)]; exact HC.out k hlt
      have hkI : (0 : Int) ≤ (k : Int) := by omega
      have hkI2 : (k : Int) < (n : Int) := by omega
      clear h0 h1 h2
      go_wp2_with fail
      go_region_held3 (fun w' => w'.cell? ⟨w.heap.size, 0, none⟩ = some (.slice (some ⟨w.heap.size + 2, 0, none⟩) n n)) (first | (go_keep; done) | exact hc1) (first | (go_at_call 87; refine (must_right' (S k) _ (HR.out k hkm)).mono ?_; rintro e w1 ⟨rfl, hb1⟩; have hc1 : w1.cell? ⟨w.heap.size, 0, none⟩ = some (.slice (some ⟨w.heap.size + 2, 0, none⟩) n n) := (by rw [hb1.cell (by show w.heap.size < wr.heap.size; omega)]; exact c0); obtain ⟨⟨v0, q0⟩, ⟨v1, q1⟩, ⟨v2, q2⟩, ⟨v3, q3⟩, f0, f1, f2, f3⟩ := four_at (below_block hb1 (k := w.heap.size + 2) H2.out (by show w.heap.size + 2 < wr.heap.size; omega)) (x := k * 4) (by omega)))
      go_wp2
      go_roundw
      case rel =>
        have R := rel_step S H0.out H1.out H2.out hsz hlie hlt hbl (undrew hb1)
        exact ⟨k + 1, by omega, by go_num, R.1, R.2.1, R.2.2.1, R.2.2.2⟩
      case measure => simp [intOf]; omega
    · have hkn : k = m := by omega
      subst hkn
      have f0 : wr.frozen? ⟨w.heap.size, 0, none⟩ = false := free_of h0
      have f1 : wr.frozen? ⟨w.heap.size + 1, 0, none⟩ = false := free_of h1
      have c1 := cell_of_one h1
      have hck : wr.cell? ⟨b, o + k, none⟩ = some (.string (S k)) := by rw [hbl.cell (by exact hb)]; exact HC.out k hlt
      have hkI : (0 : Int) ≤ (k : Int) := by omega
      have hkI2 : (k : Int) < (n : Int) := by omega
      clear h0 h1 h2
      go_wp2_with fail
      refine Code.wp_mono (Q := PanicOnly [{ target := Target.fn (Fn.func 86) #[.pointer (some ⟨w.heap.size, 0, none⟩), .pointer (some ⟨w.heap.size + 1, 0, none⟩)], args := #[] }] (.pointer (some ⟨w.heap.size, 0, none⟩)) (.pointer (some ⟨w.heap.size + 1, 0, none⟩)) wr) ?_ ?_
      · intro e a w2 hq
        cases e with
        | panic c =>
          obtain ⟨rfl, hd, hp2, hp3, hbw⟩ := hq
          show Leaves Try.prog Try.f70 a.tmps _ a.defers (.panicking noCube) w2
          rw [hd]
          have g0 := below_block hbw H0.out (lt_of_block H0.out)
          have g1 := below_block hbw H1.out (lt_of_block H1.out)
          refine leaves_cons (f := 86) (args := #[.pointer (some ⟨w.heap.size, 0, none⟩), .pointer (some ⟨w.heap.size + 1, 0, none⟩)]) (by simp) (by simp [go_sem]) ?_
          refine (catch_panicking ⟨w.heap.size, 0, none⟩ ⟨w.heap.size + 1, 0, none⟩ _ _ (.int .i64 10) [] w2 (cell_of_one g0) (free_of g0) (cell_of_one g1) (free_of g1) (by simp)).mono ?_
          rintro e u' w3 ⟨rfl, rfl, rfl⟩
          refine ⟨.tuple #[.slice none 0 0, .int .i64 10], ?_, rfl, ?_⟩
          · have k0 : ((w2.setCell ⟨w.heap.size, 0, none⟩ (.slice none 0 0)).setCell ⟨w.heap.size + 1, 0, none⟩ (.int .i64 10)).cell? ⟨w.heap.size, 0, none⟩ = some (.slice none 0 0) := by
              rw [World.cell?_setCell_other _ _ _ _ (by simp)]; exact World.cell?_setCell_same _ _ _ (cell_of_one g0)
            have k1 : ((w2.setCell ⟨w.heap.size, 0, none⟩ (.slice none 0 0)).setCell ⟨w.heap.size + 1, 0, none⟩ (.int .i64 10)).cell? ⟨w.heap.size + 1, 0, none⟩ = some (.int .i64 10) := by
              refine World.cell?_setCell_same _ _ _ (u := .int .i64 0) ?_
              rw [World.cell?_setCell_other _ _ _ _ (by simp)]; exact cell_of_one g1
            simp [results, Try.results70, go_sem, hp2, hp3, k0, k1]
          · exact ((hbl.trans (hbw.mono hs1)).setCell (by simp) _).setCell (by simp) _
        | normal => exact hq.elim
        | ret => exact hq.elim
        | exit _ => exact hq.elim
        | goto _ => exact hq.elim
        | outgrown => exact hq.elim
      · refine wp_region_any (by kernel_rfl) ?_
        change wpAny _ _ _ _ _ _ _ (World.drew _)
        refine wpAny_take (i := 1) (v := .int .i64 (k : Int)) rfl (by kernel_rfl) (by kernel_rfl) (by kernel_rfl) (fun c a w h => PanicOnly.stable _ _ _ _ 20 _ (by decide) (by decide) c a w h) (Or.inl ⟨by rfl, fun w => by go_simp⟩) ?_
        refine wpAny_take (i := 2) (v := .string (S k)) rfl (by kernel_rfl) (by kernel_rfl) (by kernel_rfl) (fun c a w h => PanicOnly.stable _ _ _ _ 21 _ (by decide) (by decide) c a w h) (Or.inl ⟨by rfl, fun w => by go_simp⟩) ?_
        refine wpAny_ready (rs := [0, 3]) (by kernel_rfl) (by simp) ?_
        refine AllReady.cons rfl (fun K hK => ?_) ?_
        · go_simp
          refine hK _ _ ?_
          clear hK K
          refine wpAny_ready (rs := [3]) (by kernel_rfl) (by simp) ?_
          refine AllReady.cons rfl (fun K hK => ?_) AllReady.nil
          go_simp
          refine (must_wrong (S k) _ HW.out).mono ?_
          rintro e w1 ⟨rfl, hb1⟩
          exact ⟨rfl, rfl, rfl, rfl, undrew hb1⟩
        · refine AllReady.cons rfl (fun K hK => ?_) AllReady.nil
          go_simp
          refine (must_wrong (S k) _ HW.out).mono ?_
          rintro e w1 ⟨rfl, hb1⟩
          exact ⟨rfl, rfl, rfl, rfl, undrew hb1⟩
end Go.Proofs.Ytnkipdlfpnmgeaa
namespace Go.Proofs.Ytnkipdlfpnmgeaa
open Go.RowKit

def chkE (c : ByteArray) : Int := if Cu.right c.data.toList = true then 0 else 10
theorem chk_cell (w : World) (c : ByteArray) : ∀ i, i < 1 → (w.alloc (.cells #[.string c] 9)).cell? ⟨w.heap.size, 0 + i, none⟩ = some (.string ((fun _ => c) i)) := by
  intro i hi
  have h := new_0 w (.cells #[.string c] 9)
  have : i = 0 := by omega
  subst this
  unfold World.cell?
  rw [h]; rfl

set_option maxHeartbeats 400000 in
theorem check_any (c : ByteArray) (w : World) : Calls Try.prog 44 #[.string c] w fun e w' => e = .returned (.int .i64 (chkE c)) ∧ Below w.heap.size w w' := by
  cases h : Cu.right c.data.toList
  · have e0 : chkE c = 10 := if_neg (by rw [h]; simp)
    rw [e0]
    have H : Hid (Cu.right c.data.toList = false) := h
    clear h e0
    go_enter Try.func44, Try.ntmps44
    go_wp2_with fail
    refine (read_wrong (fun _ => c) 1 w.heap.size 0 1 (w.alloc (.cells #[.string c] 9)) (by simp) (chk_cell w c) (by omega) (by omega) 0 (by omega) (fun i hi => absurd hi (Nat.not_lt_zero i)) H.out).mono ?_
    rintro e w1 ⟨rfl, hb1⟩
    go_wp2
    go_ret
    exact ⟨rfl, ((Below.refl _ _).alloc (Nat.le_refl _) _).trans (hb1.mono (by simp))⟩
  · have e0 : chkE c = 0 := if_pos h
    rw [e0]
    have H : Hid (Cu.right c.data.toList = true) := h
    clear h e0
    go_enter Try.func44, Try.ntmps44
    go_wp2_with fail
    refine (read_right (fun _ => c) 1 w.heap.size 0 1 (w.alloc (.cells #[.string c] 9)) (by simp) (chk_cell w c) (by omega) (by omega) (fun _ _ => H.out) (fun _ _ => rfl)).mono ?_
    rintro e w1 ⟨rfl, _, hb1⟩
    go_wp2
    go_ret
    exact ⟨rfl, ((Below.refl _ _).alloc (Nat.le_refl _) _).trans (hb1.mono (by simp))⟩
end Go.Proofs.Ytnkipdlfpnmgeaa
namespace Go.Proofs.Ytnkipdlfpnmgeaa
open Go.RowKit Go.Maps
open Bd (Nd)

set_option maxHeartbeats 4000000 in
theorem cube_how {M : Nat} {w : World} {y : Lay} {s : St} (A : Bd.Fam s.bits M) (hT : Tab w y s) (hW : Bd.Within A s.L) (hlim : s.bits * M ≤ s.limit) (B : Nat) (t : ByteArray) (h0 : w.heap[B]? = some (.cells #[.pointer (some ⟨y.tb, 0, none⟩)] 23 (0, 0))) (h1 : w.heap[B + 1]? = some (.cells #[.string t] 9 (0, 0)))
    (hy : ¬ y.own B ∧ ¬ y.own (B + 1)) (ht : t.size = s.bits) (hF : A.F 0 (suf t 0)) (nv : Value) :
    Calls Try.prog 46 #[nv, .pointer (some ⟨B, 0, none⟩), .pointer (some ⟨B + 1, 0, none⟩)] w fun e w' => ∃ r, e = .returned (i6 r) ∧ Grew noX A w y s w' r (suf t 0) := by
  have c0 : w.cell? ⟨B, 0, none⟩ = some (.pointer (some ⟨y.tb, 0, none⟩)) := by rw [cell_at h0]; rfl
  have c1 : w.cell? ⟨B + 1, 0, none⟩ = some (.string t) := by rw [cell_at h1]; rfl
  have c6 : w.cell? ⟨y.tb, 6, none⟩ = some (.int .i64 s.limit) := by rw [cell_at hT.cells]; rfl
  have hsl := hT.small
  have HC : Hid (Calls Try.prog 47 #[.pointer (some ⟨y.tb, 3, none⟩), .int .i64 s.limit] w.drew fun e w1 => e = .returned (.pointer (some ⟨w.heap.size + 1, 0, none⟩)) ∧ w1.cell? ⟨B, 0, none⟩ = some (.pointer (some ⟨y.tb, 0, none⟩)) ∧ w1.cell? ⟨B + 1, 0, none⟩ = some (.string t) ∧ w1.cell? ⟨y.tb, 6, none⟩ = some (.int .i64 s.limit) ∧
      Hid (Calls Try.prog 48 #[.pointer (some ⟨w.heap.size + 1, 0, none⟩), .string t] w1 fun e w2 => ∃ r, e = .returned (i6 r) ∧ w2.cell? ⟨B, 0, none⟩ = some (.pointer (some ⟨y.tb, 0, none⟩)) ∧ w2.cell? ⟨B + 1, 0, none⟩ = some (.string t) ∧ w2.cell? ⟨y.tb, 6, none⟩ = some (.int .i64 s.limit) ∧ Hid (Grew noX A w y s w2 r (suf t 0)))) := by
    refine (step_any w.drew y.tb s.limit).mono ?_
    rintro e w1 ⟨rfl, rfl⟩
    obtain ⟨s1, s2, s3⟩ := step_new w.drew y.tb s.limit
    have s3' : Below w.heap.size w _ := (Below.refl w.heap.size w).drew.trans s3
    have lB := block_lt h0
    have lB1 := block_lt h1
    have ltb := hT.lt y.own_tb
    refine ⟨rfl, by rw [s3'.cell (by exact lB)]; exact c0, by rw [s3'.cell (by exact lB1)]; exact c1, by rw [s3'.cell (by exact ltb)]; exact c6, ?_⟩
    have hT1 := hT.below s3'
    have hns : ¬ y.own (w.heap.size + 1) := fun ho => by have := hT.lt ho; omega
    refine (cube_any A hT1 hW (w.heap.size + 1) s.limit w.heap.size s1 hns hlim (by omega) t ht hF).mono ?_
    rintro e w2 ⟨r, rfl, hG⟩
    obtain ⟨N, y2, t2, wi2, hr2, d2, m2⟩ := hG.ex
    have z := s3'.size
    have b0 := m2.block B (by omega) hy.1 (fun h => h)
    have b1 := m2.block (B + 1) (by omega) hy.2 (fun h => h)
    refine ⟨r, rfl, ?_, ?_, ?_, N, y2, t2, wi2, hr2, d2, (moves_below y s3').trans m2⟩
    · rw [World.cell?_of_block b0, s3'.cell (by exact lB)]; exact c0
    · rw [World.cell?_of_block b1, s3'.cell (by exact lB1)]; exact c1
    · rw [← m2.tb, cell_at t2.cells]; rfl
  clear hT hW hlim h0 h1 hy ht hF
  go_enter Try.func46, Try.ntmps46
  go_wp2_with fail
  go_region_held3 (fun w' => w'.cell? ⟨B, 0, none⟩ = some (.pointer (some ⟨y.tb, 0, none⟩)) ∧ w'.cell? ⟨B + 1, 0, none⟩ = some (.string t) ∧ w'.cell? ⟨y.tb, 6, none⟩ = some (.int .i64 s.limit)) (first | (go_keep; done) | exact ⟨q1, q2, q3⟩ | exact ⟨p1, p2, p3⟩) (first | (go_at_call 48; refine HC2.out.mono ?_; rintro e w2 ⟨r, rfl, q1, q2, q3, HG⟩) | (go_at_call 47; refine HC.out.mono ?_; rintro e w1 ⟨rfl, p1, p2, p3, HC2⟩))
  go_wp2_with fail
  go_ret
  exact ⟨r, rfl, HG.out⟩
end Go.Proofs.Ytnkipdlfpnmgeaa
namespace Go.Proofs.Ytnkipdlfpnmgeaa
open Go.RowKit Go.Maps
open Bd (Nd)

theorem enter_Cube : ∀ args w, (callFunc 46 args).run Try.prog w = .ok (.enter 46 args) w := fun args w => by kernel_rfl

theorem box2 (w : World) (a b : Obj) : ((w.alloc a).alloc b).heap[w.heap.size]? = some a ∧ ((w.alloc a).alloc b).heap[w.heap.size + 1]? = some b ∧ Below w.heap.size w ((w.alloc a).alloc b) ∧ ((w.alloc a).alloc b).heap.size = w.heap.size + 2 := by
  have e : (w.alloc a).heap.size = w.heap.size + 1 := by simp
  refine ⟨?_, ?_, ((Below.refl _ _).alloc (Nat.le_refl _) _).alloc (by simp) _, by simp⟩
  · rw [heap_alloc_old _ _ (by omega)]; exact heap_alloc_new w _
  · rw [← e]; exact heap_alloc_new _ _

set_option maxHeartbeats 4000000 in
theorem Cube_ok {M : Nat} {w : World} {y : Lay} {s : St} (A : Bd.Fam s.bits M) (hT : Tab w y s) (hW : Bd.Within A s.L) (h2 : 2 ≤ s.first) (hsm : s.roots.length + 1 ≤ 1073741824) (hlim : s.bits * M ≤ s.limit) (t : ByteArray) (ht : t.size = s.bits) (hr : Cu.right t.data.toList = true) (hF : A.F 0 (suf t 0)) :
    Calls Try.prog 22 #[.pointer (some ⟨y.tb, 0, none⟩), .string t] w fun e w' => ∃ r, e = .returned (.tuple #[i6 r, .int .i64 0]) ∧ Told A w y s w' r (suf t 0) := by
  have hmf : ∀ (fn : Fn) (first cap : Array Value) (w : World), (Instr.makeFunc fn first cap).run Try.prog w = .ok (.func fn first cap) w := fun _ _ _ _ => rfl
  have ltb := hT.lt y.own_tb
  obtain ⟨x0, x1, xb, xs⟩ := box2 w (.cells #[.pointer (some ⟨y.tb, 0, none⟩)] 23) (.cells #[.string t] 9)
  have hTa := hT.below xb
  have hck := check_any t ((w.alloc (.cells #[.pointer (some ⟨y.tb, 0, none⟩)] 23)).alloc (.cells #[.string t] 9)).drew
  have e0 : chkE t = 0 := if_pos hr
  rw [e0] at hck
  have HCK : Hid (Calls Try.prog 44 #[.string t] ((w.alloc (.cells #[.pointer (some ⟨y.tb, 0, none⟩)] 23)).alloc (.cells #[.string t] 9)).drew fun e w1 => e = .returned (.int .i64 0) ∧ w1.cell? ⟨w.heap.size, 0, none⟩ = some (.pointer (some ⟨y.tb, 0, none⟩)) ∧ w1.cell? ⟨w.heap.size + 1, 0, none⟩ = some (.string t) ∧ w1.cell? ⟨y.tb, 5, none⟩ = some (.int .i64 s.bits) ∧
      Hid (Calls Try.prog 45 #[.pointer (some ⟨y.tb, 0, none⟩), .slice none 0 0, .func (.func 46) #[] #[.pointer (some ⟨w.heap.size, 0, none⟩), .pointer (some ⟨w.heap.size + 1, 0, none⟩)]] w1 fun e w' => ∃ r, e = .returned (.tuple #[i6 r, .int .i64 0]) ∧ Hid (Told A w y s w' r (suf t 0)))) := by
    refine hck.mono ?_
    rintro e w1 ⟨rfl, hb1⟩
    have hb1' : Below (w.heap.size + 2) ((w.alloc (.cells #[.pointer (some ⟨y.tb, 0, none⟩)] 23)).alloc (.cells #[.string t] 9)) w1 := by
      rw [← xs]; exact ⟨hb1.os, hb1.tape, hb1.output, hb1.size, hb1.block⟩
    have y0 : w1.heap[w.heap.size]? = _ := (hb1'.block _ (by omega)).trans x0
    have y1 : w1.heap[w.heap.size + 1]? = _ := (hb1'.block _ (by omega)).trans x1
    have hbw : Below w.heap.size w w1 := xb.trans (hb1'.mono (by omega))
    have hT1 := hT.below hbw
    refine ⟨rfl, by rw [cell_at y0]; rfl, by rw [cell_at y1]; rfl, by rw [cell_at hT1.cells]; rfl, ?_⟩
    refine (answer_ok A hT1 h2 hsm hlim (.slice none 0 0) [] [] ⟨none, 0, rfl, fun i r h => by simp at h⟩ (by simp) ⟨rfl, fun i r h => by simp at h⟩ 46 enter_Cube #[.pointer (some ⟨w.heap.size, 0, none⟩), .pointer (some ⟨w.heap.size + 1, 0, none⟩)] (suf t 0) ?_).mono ?_
    · intro w2 g hb2 _ _
      have hb2' : Below w1.heap.size w1 w2 := hb2
      have z1 := block_lt y0
      have z2 := block_lt y1
      exact cube_how A (hT1.below hb2') hW hlim w.heap.size t ((hb2'.block _ z1).trans y0) ((hb2'.block _ z2).trans y1) ⟨fun ho => by have := hT.lt ho; omega, fun ho => by have := hT.lt ho; omega⟩ ht hF _
    · rintro e w' ⟨r, rfl, ⟨N, tt, y', m, q1, q2, q3, q4, q5, q6, q7⟩⟩
      exact ⟨r, rfl, N, tt, y', m, q1, q2, q3, q4, q5, (moves_below y hbw).trans q6, q7⟩
  have c5 : ((w.alloc (.cells #[.pointer (some ⟨y.tb, 0, none⟩)] 23)).alloc (.cells #[.string t] 9)).cell? ⟨y.tb, 5, none⟩ = some (.int .i64 s.bits) := by rw [cell_at hTa.cells]; rfl
  have HTA := keep hTa
  have hne : ((t.size : Int) != (s.bits : Int)) = false := by rw [ht]; simp
  clear hT hW h2 hsm hlim hF hr hck hTa x0 x1 xb xs e0 ht
  go_enter Try.func22, Try.ntmps22
  go_wp2_with (first | (go_at_call 34; refine (made_ok HTA.out).mono ?_; rintro e w' ⟨rfl, rfl⟩))
  go_region_held3 (fun w' => w'.cell? ⟨w.heap.size, 0, none⟩ = some (.pointer (some ⟨y.tb, 0, none⟩)) ∧ w'.cell? ⟨w.heap.size + 1, 0, none⟩ = some (.string t) ∧ w'.cell? ⟨y.tb, 5, none⟩ = some (.int .i64 s.bits)) (first | (go_keep; done) | exact ⟨q1, q2, q3⟩) (first | (go_at_call 44; refine HCK.out.mono ?_; rintro e w1 ⟨rfl, q1, q2, q3, HANS⟩))
  go_wp2_with (first | (go_at_call 45; refine HANS.out.mono ?_; rintro e w' ⟨r, rfl, HT⟩))
  go_ret2
  exact ⟨r, rfl, HT.out⟩
end Go.Proofs.Ytnkipdlfpnmgeaa
