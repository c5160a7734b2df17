/-
  mustBeCube: the ternary of a cube; a panic with ErrCube at a text that is none.
  What the calls on a set of places do: has, add; and fix on a ternary.
  The reader of rules in memory: what of a line is left, the line's end; begin, next, must, text.
  Words by the document's own reckoning: word, glued.
-/
import Derived.Test.YtipmlcdnfaobiaaGreatWRefLAnd
import Derived.Test.YtipmlcdnfaobiaaGreatUMathAnd
import Derived.Test.YtipmlcdnfaobiaaGreatWSkipAnd
import Derived.Deep.RegionHeld2
import Derived.Test.YtipmlcdnfaobiaaGreatRows
import Derived.Test.YtipmlcdnfaobiaaGreatWMathAnd
import Derived.WalkKit
import Derived.WalkSpells
import Derived.WalkLawsBesides
import Derived.RegionTactic
import Derived.ChangeAlike
namespace Go.Proofs.YtipmlcdnfaobiaaGreat
open Go.RowKit

end Go.Proofs.YtipmlcdnfaobiaaGreat
namespace Go.Proofs.YtipmlcdnfaobiaaGreat
open Go.RowKit
open Wo (Wd)

/-- A word as a value. -/
abbrev wv (x : Wd) : Value := .agg #[.string (tx x.1), .int .i64 x.2.1, .int .i64 x.2.2]
theorem heap_old (w : World) (o : Obj) {k : Nat} (hk : k < w.heap.size) : (w.alloc o).heap[k]? = w.heap[k]? := by
  show (w.heap.push o)[k]? = _
  rw [Array.getElem?_push, if_neg (by omega)]
theorem grown_refl (w : World) (r : Option Nat) : w.grownBy w r := ⟨rfl, rfl, rfl, Nat.le_refl _, fun _ _ _ => rfl⟩
theorem grown_set (w : World) (b o : Nat) (v : Value) : w.grownBy (w.setCell ⟨b, o, none⟩ v) (some b) := grown_cell _ _ _ _
theorem alloc_cell {w : World} {b o : Nat} {v : Value} (h : w.cell? ⟨b, o, none⟩ = some v) (hb : b < w.heap.size) (ob : Obj) : (w.alloc ob).cell? ⟨b, o, none⟩ = some v := by
  rw [World.cell?_of_block (heap_old w ob hb)]; exact h
end Go.Proofs.YtipmlcdnfaobiaaGreat
namespace Go.Proofs.YtipmlcdnfaobiaaGreat.Cub
open Go.RowKit

theorem has_bit (x j : Nat) (hx : x < 18446744073709551616) : (bits .and .u64 ((x : Int) / 2 ^ j) 1 == 1) = x.testBit j := by
  have e : ((x : Int) / 2 ^ j) = ((x / 2 ^ j : Nat) : Int) := by simp
  rw [e]
  have := u64_and_nat (x / 2 ^ j) 1 (Nat.lt_of_le_of_lt (Nat.div_le_self _ _) hx) (by omega)
  rw [show (1 : Int) = ((1 : Nat) : Int) from rfl, this, nat_mask1, Nat.testBit_eq_decide_div_mod_eq]
  rw [Bool.eq_iff_iff]
  simp only [beq_iff_eq, decide_eq_true_eq]
  omega

set_option maxHeartbeats 400000 in
theorem has_lo (a b i : Nat) (w : World) (hi : i < 64) (ha : a < 18446744073709551616) :
    Calls Tryz.prog 108 #[.agg #[.int .u64 (a : Int), .int .u64 (b : Int)], .int .i64 (i : Int)] w fun e w' =>
      e = .returned (.bool (a.testBit i)) ∧ w' = w.alloc (.cells #[.int .u64 (a : Int), .int .u64 (b : Int)] 106) := by
  have hq : ((i : Int) / 64) = 0 := by omega
  go_enter Tryz.func108, Tryz.ntmps108
  go_wp2
  go_ret
  refine ⟨?_, rfl⟩
  rw [has_bit a (i % 64) ha, Nat.mod_eq_of_lt hi]
  rfl

set_option maxHeartbeats 400000 in
theorem has_hi (a b i : Nat) (w : World) (hi : ¬ i < 64) (h2 : i < 128) (hb : b < 18446744073709551616) :
    Calls Tryz.prog 108 #[.agg #[.int .u64 (a : Int), .int .u64 (b : Int)], .int .i64 (i : Int)] w fun e w' =>
      e = .returned (.bool (b.testBit (i - 64))) ∧ w' = w.alloc (.cells #[.int .u64 (a : Int), .int .u64 (b : Int)] 106) := by
  have hq : ((i : Int) / 64) = 1 := by omega
  go_enter Tryz.func108, Tryz.ntmps108
  go_wp2
  go_ret
  refine ⟨?_, rfl⟩
  rw [has_bit b (i % 64) hb, show i % 64 = i - 64 from by omega]
  rfl

def c4 (p q : Nat → Bool) : Array Value := #[.int .u64 (Cu.wd p 0 : Int), .int .u64 (Cu.wd p 1 : Int), .int .u64 (Cu.wd q 0 : Int), .int .u64 (Cu.wd q 1 : Int)]

theorem has_any (p : Nat → Bool) (i : Nat) (w : World) (h2 : i < 128) :
    Calls Tryz.prog 108 #[.agg #[.int .u64 (Cu.wd p 0 : Int), .int .u64 (Cu.wd p 1 : Int)], .int .i64 (i : Int)] w fun e w' =>
      e = .returned (.bool (p i)) ∧ Below w.heap.size w w' := by
  by_cases hi : i < 64
  · refine (has_lo _ _ i w hi (Cu.wd_lt _ _)).mono ?_
    rintro e w' ⟨rfl, rfl⟩
    refine ⟨?_, (Below.refl _ _).alloc (Nat.le_refl _) _⟩
    rw [Cu.testBit_wd]; simp [hi]
  · refine (has_hi _ _ i w hi h2 (Cu.wd_lt _ _)).mono ?_
    rintro e w' ⟨rfl, rfl⟩
    refine ⟨?_, (Below.refl _ _).alloc (Nat.le_refl _) _⟩
    rw [Cu.testBit_wd]
    have : i - 64 < 64 := by omega
    have e2 : 64 * 1 + (i - 64) = i := by omega
    simp only [this, decide_true, Bool.true_and, e2]

theorem or_bit (x j : Nat) (hx : x < 18446744073709551616) (hj : j < 64) : bits .or .u64 (x : Int) (IntKind.u64.wrap (2 ^ j)) = ((x ||| 2 ^ j : Nat) : Int) := by
  have e : IntKind.u64.wrap (2 ^ j) = ((2 ^ j : Nat) : Int) := by
    have := Cu.pow_lt hj
    rw [IntKind.wrap_u64, show ((2 : Int) ^ j) = ((2 ^ j : Nat) : Int) from by simp]
    generalize 2 ^ j = y at *
    omega
  rw [e, u64_or_nat _ _ hx (Cu.pow_lt hj)]

set_option maxHeartbeats 400000 in
theorem add_lo (x i b o : Nat) (w : World) (hi : i < 64) (hx : x < 18446744073709551616) (hc : w.cell? ⟨b, o, none⟩ = some (.int .u64 (x : Int))) (hf : w.frozen? ⟨b, o, none⟩ = false) :
    Calls Tryz.prog 128 #[.pointer (some ⟨b, o, none⟩), .int .i64 (i : Int)] w fun e w' =>
      e = .returned (.tuple #[]) ∧ w' = (w.setCell ⟨b, o, none⟩ (.int .u64 ((x ||| 2 ^ i : Nat) : Int))).drew := by
  have hq : ((i : Int) / 64) = 0 := by omega
  go_enter Tryz.func128, Tryz.ntmps128
  go_wp2
  go_region
  go_end0
  refine ⟨rfl, ?_⟩
  rw [Nat.mod_eq_of_lt hi, or_bit x i hx hi]

set_option maxHeartbeats 400000 in
theorem add_hi (x i b o : Nat) (w : World) (hi : ¬ i < 64) (h2 : i < 128) (hx : x < 18446744073709551616) (hc : w.cell? ⟨b, o + 1, none⟩ = some (.int .u64 (x : Int))) (hf : w.frozen? ⟨b, o + 1, none⟩ = false) :
    Calls Tryz.prog 128 #[.pointer (some ⟨b, o, none⟩), .int .i64 (i : Int)] w fun e w' =>
      e = .returned (.tuple #[]) ∧ w' = (w.setCell ⟨b, o + 1, none⟩ (.int .u64 ((x ||| 2 ^ (i - 64) : Nat) : Int))).drew := by
  have hq : ((i : Int) / 64) = 1 := by omega
  go_enter Tryz.func128, Tryz.ntmps128
  go_wp2
  go_region
  go_end0
  refine ⟨rfl, ?_⟩
  rw [show i % 64 = i - 64 from by omega, or_bit x (i - 64) hx (by omega)]

/-- A block of four cells: its cells, and that they may be written; the block behind a store. -/
theorem four_cell {w : World} {b : Nat} {c0 c1 c2 c3 : Value} {t : TypeId} (h : w.heap[b]? = some (.cells #[c0, c1, c2, c3] t (0, 0))) :
    w.cell? ⟨b, 0, none⟩ = some c0 ∧ w.cell? ⟨b, 1, none⟩ = some c1 ∧ w.cell? ⟨b, 2, none⟩ = some c2 ∧ w.cell? ⟨b, 3, none⟩ = some c3 := by
  simp [World.cell?, h]
theorem free_of {w : World} {b o : Nat} {cs : Array Value} {t : TypeId} (h : w.heap[b]? = some (.cells cs t (0, 0))) : w.frozen? ⟨b, o, none⟩ = false := by
  simp [World.frozen?, h]
theorem block_set {w : World} {b o : Nat} {cs : Array Value} {t : TypeId} (u : Value) (h : w.heap[b]? = some (.cells cs t (0, 0))) :
    (w.setCell ⟨b, o, none⟩ u).heap[b]? = some (.cells (cs.setIfInBounds o u) t (0, 0)) := by
  have hlt := lt_of_block h
  have h' : w.heap[b] = .cells cs t (0, 0) := by simpa [Array.getElem?_eq_getElem hlt] using h
  show (w.heap.modify b _)[b]? = _
  rw [Array.getElem?_eq_getElem (by simpa using hlt), Array.getElem_modify_self, h']
  rfl
theorem new_0 (w : World) (o : Obj) : (w.alloc o).heap[w.heap.size]? = some o := by
  show (w.heap.push o)[w.heap.size]? = _
  rw [Array.getElem?_push, if_pos rfl]
theorem new_1 (w : World) (o o' : Obj) : ((w.alloc o).alloc o').heap[w.heap.size + 1]? = some o' := by
  show ((w.heap.push o).push o')[w.heap.size + 1]? = _
  rw [Array.getElem?_push, if_pos (by simp)]
theorem new_old (w : World) (o : Obj) {k : Nat} {x : Obj} (h : w.heap[k]? = some x) : (w.alloc o).heap[k]? = some x := by
  have := lt_of_block h
  show (w.heap.push o)[k]? = _
  rw [Array.getElem?_push, if_neg (by omega), h]
theorem grown_set (w : World) (b o : Nat) (u : Value) : w.grownBy (w.setCell ⟨b, o, none⟩ u).drew (some b) :=
  ⟨rfl, rfl, rfl, by simp, fun k _ hne => Below.heap_setCell _ _ _ _ (fun e => hne (by simp [e]))⟩
theorem grown_trans {a b c : World} {r : Option Nat} (h : a.grownBy b r) (k : b.grownBy c r) : a.grownBy c r :=
  ⟨k.os.trans h.os, k.tape.trans h.tape, k.output.trans h.output, Nat.le_trans h.size k.size, fun i hi hne => (k.block i (Nat.lt_of_lt_of_le hi h.size) hne).trans (h.block i hi hne)⟩
theorem grown_of_below {a b : World} (r : Option Nat) (h : Below a.heap.size a b) : a.grownBy b r := ⟨h.os, h.tape, h.output, h.size, fun i hi _ => h.block i hi⟩
theorem grown_refl (a : World) (r : Option Nat) : a.grownBy a r := ⟨rfl, rfl, rfl, Nat.le_refl _, fun _ _ _ => rfl⟩

theorem add_fixed (p q : Nat → Bool) (i b : Nat) (w : World) (h2 : i < 128) (hb : w.heap[b]? = some (.cells (c4 p q) 108 (0, 0))) :
    Calls Tryz.prog 128 #[.pointer (some ⟨b, 0, none⟩), .int .i64 (i : Int)] w fun e w' =>
      e = .returned (.tuple #[]) ∧ w'.heap[b]? = some (.cells (c4 (Cu.updw p i) q) 108 (0, 0)) ∧ w.grownBy w' (some b) := by
  have hc := four_cell hb
  by_cases hi : i < 64
  · refine (add_lo _ i b 0 w hi (Cu.wd_lt _ _) hc.1 (free_of hb)).mono ?_
    rintro e w' ⟨rfl, rfl⟩
    refine ⟨rfl, ?_, grown_set _ _ _ _⟩
    show (w.setCell _ _).heap[b]? = _
    rw [block_set _ hb]
    have e0 := Cu.wd_upd_same p i
    have e1 := Cu.wd_upd_other p i 1 (by omega)
    rw [show i / 64 = 0 from by omega, Nat.mod_eq_of_lt hi] at e0
    simp [c4, e0, e1]
  · refine (add_hi _ i b 0 w hi h2 (Cu.wd_lt _ _) hc.2.1 (free_of hb)).mono ?_
    rintro e w' ⟨rfl, rfl⟩
    refine ⟨rfl, ?_, grown_set _ _ _ _⟩
    show (w.setCell _ _).heap[b]? = _
    rw [block_set _ hb]
    have e0 := Cu.wd_upd_same p i
    have e1 := Cu.wd_upd_other p i 0 (by omega)
    rw [show i / 64 = 1 from by omega, show i % 64 = i - 64 from by omega] at e0
    simp [c4, e0, e1]

theorem add_ones (p q : Nat → Bool) (i b : Nat) (w : World) (h2 : i < 128) (hb : w.heap[b]? = some (.cells (c4 p q) 108 (0, 0))) :
    Calls Tryz.prog 128 #[.pointer (some ⟨b, 2, none⟩), .int .i64 (i : Int)] w fun e w' =>
      e = .returned (.tuple #[]) ∧ w'.heap[b]? = some (.cells (c4 p (Cu.updw q i)) 108 (0, 0)) ∧ w.grownBy w' (some b) := by
  have hc := four_cell hb
  by_cases hi : i < 64
  · refine (add_lo _ i b 2 w hi (Cu.wd_lt _ _) hc.2.2.1 (free_of hb)).mono ?_
    rintro e w' ⟨rfl, rfl⟩
    refine ⟨rfl, ?_, grown_set _ _ _ _⟩
    show (w.setCell _ _).heap[b]? = _
    rw [block_set _ hb]
    have e0 := Cu.wd_upd_same q i
    have e1 := Cu.wd_upd_other q i 1 (by omega)
    rw [show i / 64 = 0 from by omega, Nat.mod_eq_of_lt hi] at e0
    simp [c4, e0, e1]
  · refine (add_hi _ i b 2 w hi h2 (Cu.wd_lt _ _) hc.2.2.2 (free_of hb)).mono ?_
    rintro e w' ⟨rfl, rfl⟩
    refine ⟨rfl, ?_, grown_set _ _ _ _⟩
    show (w.setCell _ _).heap[b]? = _
    rw [block_set _ hb]
    have e0 := Cu.wd_upd_same q i
    have e1 := Cu.wd_upd_other q i 0 (by omega)
    rw [show i / 64 = 1 from by omega, show i % 64 = i - 64 from by omega] at e0
    simp [c4, e0, e1]

set_option maxHeartbeats 400000 in
theorem fix_any (p q : Nat → Bool) (i b : Nat) (one : Bool) (w : World) (h2 : i < 128) (hb : w.heap[b]? = some (.cells (c4 p q) 108 (0, 0))) :
    Calls Tryz.prog 106 #[.pointer (some ⟨b, 0, none⟩), .int .i64 (i : Int), .bool one] w fun e w' =>
      e = .returned (.tuple #[]) ∧ w'.heap[b]? = some (.cells (c4 (Cu.updw p i) (Cu.setOne q i one)) 108 (0, 0)) ∧ w.grownBy w' (some b) := by
  have HB : Hid (w.heap[b]? = some (.cells (c4 p q) 108 (0, 0))) := hb
  clear hb
  cases one with
  | false =>
    have e : Cu.setOne q i false = q := by funext j; simp [Cu.setOne]
    rw [e]
    go_enter Tryz.func106, Tryz.ntmps106
    go_wp2_with fail
    refine (add_fixed p q i b w h2 HB.out).mono ?_
    rintro e w1 ⟨rfl, h1, g1⟩
    have H1 : Hid _ := h1
    clear h1
    go_wp2_with fail
    go_end0
    exact ⟨rfl, H1.out, g1⟩
  | true =>
    have e : Cu.setOne q i true = Cu.updw q i := by funext j; simp [Cu.setOne, Cu.updw]
    rw [e]
    go_enter Tryz.func106, Tryz.ntmps106
    go_wp2_with fail
    refine (add_fixed p q i b w h2 HB.out).mono ?_
    rintro e w1 ⟨rfl, h1, g1⟩
    have H1 : Hid _ := h1
    clear h1
    go_wp2_with fail
    refine (add_ones _ q i b w1 h2 H1.out).mono ?_
    rintro e w2 ⟨rfl, h2', g2⟩
    go_wp2_with fail
    go_end0
    exact ⟨rfl, h2', grown_trans g1 g2⟩
end Go.Proofs.YtipmlcdnfaobiaaGreat.Cub
namespace Go.Proofs.YtipmlcdnfaobiaaGreat.Cub
open Go.RowKit

/-- The cells of a cube's ternary. -/
abbrev tc (l : List UInt8) : Array Value := c4 (Cu.fixAt l) (Cu.oneAt l)

theorem take_snoc (s : ByteArray) (k : Nat) (h : k < s.size) : s.data.toList.take (k + 1) = s.data.toList.take k ++ [s[k]] := by
  rw [List.take_succ_eq_append_getElem (by simpa using h)]; rfl
theorem take_len (s : ByteArray) (k : Nat) (h : k ≤ s.size) : (s.data.toList.take k).length = k := by
  rw [List.length_take]; simp; exact Nat.min_eq_left h
theorem grown_block {w w' : World} {r : Nat} (g : w.grownBy w' (some r)) {k : Nat} {o : Obj} (h : w.heap[k]? = some o) (hne : k ≠ r) : w'.heap[k]? = some o :=
  (g.block k (lt_of_block h) (by simp [hne])).trans h
theorem below_grown {B r : Nat} {w w1 w2 : World} (h : Below B w w1) (g : w1.grownBy w2 (some r)) (h1 : B ≤ w1.heap.size) (h2 : B ≤ r) : Below B w w2 :=
  h.grown g h1 (fun k hk => by simp at hk; omega)

theorem tc_snoc_fix (l : List UInt8) (c : UInt8) (h : c = 48 ∨ c = 49) : tc (l ++ [c]) = c4 (Cu.updw (Cu.fixAt l) l.length) (Cu.setOne (Cu.oneAt l) l.length (c == 49)) := by
  rw [tc, Cu.fixAt_snoc l c h, Cu.oneAt_snoc]
theorem tc_snoc_x (l : List UInt8) : tc (l ++ [120]) = tc l := by
  rw [tc, Cu.fixAt_snoc_x, Cu.oneAt_snoc_x]
theorem tc_nil : tc [] = #[.int .u64 0, .int .u64 0, .int .u64 0, .int .u64 0] := by
  have e : Cu.wd (Cu.fixAt []) = fun _ => 0 := by
    funext k
    symm
    exact Cu.wd_eq (by omega) (fun i _ => by simp [Cu.fixAt])
  have e2 : Cu.wd (Cu.oneAt []) = fun _ => 0 := by
    funext k
    symm
    exact Cu.wd_eq (by omega) (fun i _ => by simp [Cu.oneAt])
  simp [tc, c4, e, e2]

set_option maxHeartbeats 400000 in
theorem must_right (s : ByteArray) (w : World) (hs : Cu.right s.data.toList = true) :
    Calls Tryz.prog 79 #[.string s] w fun e w' =>
      e = .returned (.agg (tc s.data.toList)) ∧ Below w.heap.size w w' := by
  have hr := hs
  simp only [Cu.right, Bool.and_eq_true, decide_eq_true_eq, Array.length_toList] at hr
  obtain ⟨⟨hall, h1⟩, h2⟩ := hr
  have h1' : 1 ≤ s.size := h1
  have h2' : s.size ≤ 128 := h2
  have hd1 : decide ((s.size : Int) < 1) = false := by simp; omega
  have hd2 : decide (128 < (s.size : Int)) = false := by simp; omega
  clear h1 h2 hs
  have HA : Hid (s.data.toList.all Cu.sym = true) := hall
  clear hall
  go_enter Tryz.func79, Tryz.ntmps79
  go_wp2
  go_loopw [16] (fun i wr => ∃ k : Nat, k ≤ s.size ∧ i = .int .i64 k ∧ wr.heap[w.heap.size + 1]? = some (.cells (tc (s.data.toList.take k)) 108 (0, 0)) ∧
      wr.heap[w.heap.size]? = some (.cells #[.int .u64 0, .int .u64 0, .int .u64 0, .int .u64 0] 108 (0, 0)) ∧ Below w.heap.size w wr)
    (fun i _ => s.size - (intOf i).toNat)
  case atStart =>
    refine ⟨0, Nat.zero_le _, rfl, ?_, ?_, ((Below.refl _ _).alloc (Nat.le_refl _) _).alloc (by simp) _⟩
    · rw [List.take_zero, tc_nil]
      exact new_1 _ _ _
    · exact new_old _ _ (new_0 _ _)
  case round =>
    obtain ⟨k, hk, rfl, ht, hz, hb⟩ := hrel
    have HT : Hid _ := ht
    have HZ : Hid _ := hz
    by_cases hlt : k < s.size
    · clear ht hz
      have hsym : Cu.sym s[k] = true := by
        have := HA.out
        rw [List.all_eq_true] at this
        refine this _ ?_
        show s.data[k] ∈ s.data.toList
        simp
      have HS : Hid (s.data.toList.take (k + 1) = s.data.toList.take k ++ [s[k]]) := take_snoc s k hlt
      have HL : Hid ((s.data.toList.take k).length = k) := take_len s k hk
      have hs1 := hb.size
      rcases Cu.sym_cases hsym with hc | hc | hc
      · have hcn : (s[k].toNat : Int) = 48 := by rw [hc]; rfl
        have HC : Hid (s[k] = 48) := hc
        clear hc hsym
        go_wp2_with fail
        refine (fix_any _ _ k _ false wr (by omega) HT.out).mono ?_
        rintro e w1 ⟨rfl, hn, g1⟩
        have HN : Hid _ := hn
        clear hn
        go_wp2
        go_roundw
        case rel =>
          refine ⟨k + 1, by omega, by go_num, ?_, grown_block g1 HZ.out (by omega), below_grown hb g1 hs1 (by omega)⟩
          rw [HS.out, HC.out, tc_snoc_fix _ _ (Or.inl rfl), HL.out]
          exact HN.out
        case measure => simp [intOf]; omega
      · have hcn : (s[k].toNat : Int) = 49 := by rw [hc]; rfl
        have HC : Hid (s[k] = 49) := hc
        clear hc hsym
        go_wp2_with fail
        refine (fix_any _ _ k _ true wr (by omega) HT.out).mono ?_
        rintro e w1 ⟨rfl, hn, g1⟩
        have HN : Hid _ := hn
        clear hn
        go_wp2
        go_roundw
        case rel =>
          refine ⟨k + 1, by omega, by go_num, ?_, grown_block g1 HZ.out (by omega), below_grown hb g1 hs1 (by omega)⟩
          rw [HS.out, HC.out, tc_snoc_fix _ _ (Or.inr rfl), HL.out]
          exact HN.out
        case measure => simp [intOf]; omega
      · have hcn : (s[k].toNat : Int) = 120 := by rw [hc]; rfl
        have HC : Hid (s[k] = 120) := hc
        clear hc hsym
        go_wp2
        go_roundw
        case rel =>
          refine ⟨k + 1, by omega, by go_num, ?_, HZ.out, hb⟩
          rw [HS.out, HC.out, tc_snoc_x]
          exact HT.out
        case measure => simp [intOf]; omega
    · have hkk : k = s.size := by omega
      subst hkk
      have HE : Hid (s.data.toList.take s.size = s.data.toList) := by
        show _ = _
        rw [List.take_of_length_le (by simp)]
      obtain ⟨t0, t1, t2, t3⟩ := four_cell ht
      obtain ⟨z0, z1, z2, z3⟩ := four_cell hz
      have f0 : wr.frozen? ⟨w.heap.size, 0, none⟩ = false := free_of hz
      have f1 : wr.frozen? ⟨w.heap.size, 1, none⟩ = false := free_of hz
      have f2 : wr.frozen? ⟨w.heap.size, 2, none⟩ = false := free_of hz
      have f3 : wr.frozen? ⟨w.heap.size, 3, none⟩ = false := free_of hz
      clear ht hz
      go_wp2
      refine bodyPost_ret (v := .agg (tc (s.data.toList.take s.size))) ?_ rfl ⟨by rw [HE.out], ?_⟩
      · simp [results, Tryz.results79, go_sem, z0, z1, z2, z3, c4]
      · exact (((hb.setCell (by simp) _).setCell (by simp) _).setCell (by simp) _).setCell (by simp) _

/-- A ternary's value, written out. -/
abbrev tv (l : List UInt8) : Value := .agg #[.int .u64 (Cu.wd (Cu.fixAt l) 0 : Int), .int .u64 (Cu.wd (Cu.fixAt l) 1 : Int), .int .u64 (Cu.wd (Cu.oneAt l) 0 : Int), .int .u64 (Cu.wd (Cu.oneAt l) 1 : Int)]

theorem must_right' (s : ByteArray) (w : World) (hs : Cu.right s.data.toList = true) :
    Calls Tryz.prog 79 #[.string s] w fun e w' => e = .returned (tv s.data.toList) ∧ Below w.heap.size w w' := must_right s w hs

/-- The panic of a text that is no cube. -/
abbrev noCube : List PanicEntry := [{ v := .iface 33 (.int .i64 10), recovered := false }]

set_option maxHeartbeats 400000 in
theorem must_size (s : ByteArray) (w : World) (hs : s.size < 1 ∨ 128 < s.size) :
    Calls Tryz.prog 79 #[.string s] w fun e w' => e = .panicked noCube ∧ Below w.heap.size w w' := by
  rcases hs with hs | hs
  · have hd1 : decide ((s.size : Int) < 1) = true := by simp; omega
    go_enter Tryz.func79, Tryz.ntmps79
    go_wp2
    exact ⟨rfl, rfl, (Below.refl _ _).alloc (Nat.le_refl _) _⟩
  · have hd1 : decide ((s.size : Int) < 1) = false := by simp; omega
    have hd2 : decide (128 < (s.size : Int)) = true := by simp; omega
    go_enter Tryz.func79, Tryz.ntmps79
    go_wp2
    exact ⟨rfl, rfl, (Below.refl _ _).alloc (Nat.le_refl _) _⟩

set_option maxHeartbeats 400000 in
theorem must_sym (s : ByteArray) (w : World) (h1' : 1 ≤ s.size) (h2' : s.size ≤ 128) (hall : s.data.toList.all Cu.sym = false) :
    Calls Tryz.prog 79 #[.string s] w fun e w' => e = .panicked noCube ∧ Below w.heap.size w w' := by
  have hd1 : decide ((s.size : Int) < 1) = false := by simp; omega
  have hd2 : decide (128 < (s.size : Int)) = false := by simp; omega
  have HA : Hid (s.data.toList.all Cu.sym = false) := hall
  clear hall
  go_enter Tryz.func79, Tryz.ntmps79
  go_wp2
  go_loopw [16] (fun i wr => ∃ k : Nat, k ≤ s.size ∧ i = .int .i64 k ∧ (∃ p q, wr.heap[w.heap.size + 1]? = some (.cells (c4 p q) 108 (0, 0))) ∧
      Hid ((s.data.toList.take k).all Cu.sym = true) ∧ Below w.heap.size w wr)
    (fun i _ => s.size - (intOf i).toNat)
  case atStart =>
    refine ⟨0, Nat.zero_le _, rfl, ⟨Cu.fixAt [], Cu.oneAt [], ?_⟩, ?_, ((Below.refl _ _).alloc (Nat.le_refl _) _).alloc (by simp) _⟩
    · have := tc_nil
      rw [tc] at this
      rw [this]
      exact new_1 _ _ _
    · show _ = _
      simp
  case round =>
    obtain ⟨k, hk, rfl, ⟨p, q, ht⟩, hpre, hb⟩ := hrel
    have HT : Hid _ := ht
    clear ht
    have hs1 := hb.size
    by_cases hlt : k < s.size
    · have HS : Hid (s.data.toList.take (k + 1) = s.data.toList.take k ++ [s[k]]) := take_snoc s k hlt
      by_cases hsym : Cu.sym s[k] = true
      · have HP : Hid ((s.data.toList.take (k + 1)).all Cu.sym = true) := by
          show _ = _
          rw [HS.out, List.all_append, hpre.out]; simp [hsym]
        rcases Cu.sym_cases hsym with hc | hc | hc
        · have hcn : (s[k].toNat : Int) = 48 := by rw [hc]; rfl
          clear hc hsym
          go_wp2_with fail
          refine (fix_any _ _ k _ false wr (by omega) HT.out).mono ?_
          rintro e w1 ⟨rfl, hn, g1⟩
          have HN : Hid _ := hn
          clear hn
          go_wp2
          go_roundw
          case rel => exact ⟨k + 1, by omega, by go_num, ⟨_, _, HN.out⟩, HP, below_grown hb g1 hs1 (by omega)⟩
          case measure => simp [intOf]; omega
        · have hcn : (s[k].toNat : Int) = 49 := by rw [hc]; rfl
          clear hc hsym
          go_wp2_with fail
          refine (fix_any _ _ k _ true wr (by omega) HT.out).mono ?_
          rintro e w1 ⟨rfl, hn, g1⟩
          have HN : Hid _ := hn
          clear hn
          go_wp2
          go_roundw
          case rel => exact ⟨k + 1, by omega, by go_num, ⟨_, _, HN.out⟩, HP, below_grown hb g1 hs1 (by omega)⟩
          case measure => simp [intOf]; omega
        · have hcn : (s[k].toNat : Int) = 120 := by rw [hc]; rfl
          clear hc hsym
          go_wp2
          go_roundw
          case rel => exact ⟨k + 1, by omega, by go_num, ⟨_, _, HT.out⟩, HP, hb⟩
          case measure => simp [intOf]; omega
      · have n1 : ((s[k].toNat : Int) == 48) = false := by
          rw [beq_eq_false_iff_ne]; intro h; exact hsym (by have : s[k] = 48 := UInt8.toNat.inj (by simp; omega); simp [Cu.sym, this])
        have n2 : ((s[k].toNat : Int) == 49) = false := by
          rw [beq_eq_false_iff_ne]; intro h; exact hsym (by have : s[k] = 49 := UInt8.toNat.inj (by simp; omega); simp [Cu.sym, this])
        have n3 : ((s[k].toNat : Int) == 120) = false := by
          rw [beq_eq_false_iff_ne]; intro h; exact hsym (by have : s[k] = 120 := UInt8.toNat.inj (by simp; omega); simp [Cu.sym, this])
        clear hsym
        go_wp2
        exact ⟨rfl, rfl, hb⟩
    · exfalso
      have hkk : k = s.size := by omega
      have h1 := hpre.out
      rw [hkk, List.take_of_length_le (by simp)] at h1
      have h2 := HA.out
      rw [h1] at h2
      cases h2

theorem must_wrong (s : ByteArray) (w : World) (hs : Cu.right s.data.toList = false) :
    Calls Tryz.prog 79 #[.string s] w fun e w' => e = .panicked noCube ∧ Below w.heap.size w w' := by
  by_cases h : s.size < 1 ∨ 128 < s.size
  · exact must_size s w h
  · refine must_sym s w (by omega) (by omega) ?_
    have h1 : 1 ≤ s.data.toList.length := by simp; show 1 ≤ s.size; omega
    have h2 : s.data.toList.length ≤ 128 := by simp; show s.size ≤ 128; omega
    simpa only [Cu.right, h1, h2, decide_true, Bool.and_true] using hs
end Go.Proofs.YtipmlcdnfaobiaaGreat.Cub
