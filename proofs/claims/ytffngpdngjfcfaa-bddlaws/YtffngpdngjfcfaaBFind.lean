/-
  find: the nodes of refs.
-/
import Derived.Test.YtffngpdngjfcfaaBTell
namespace Go.Proofs.Ytffngpdngjfcfaa
open Go.RowKit Go.Maps
open Bd (Nd)

/-- Refs one behind the other, as a call is handed them. -/
def RefsAt (w : World) (v : Value) (ls : List Nat) : Prop := ∃ ao cap, v = .slice ao ls.length cap ∧ ∀ (i r : Nat), ls[i]? = some r → ∃ b o, ao = some ⟨b, o, none⟩ ∧ b < w.heap.size ∧ w.cell? ⟨b, o + i, none⟩ = some (i6 r)
theorem RefsAt.below {w w' : World} {v : Value} {ls : List Nat} (h : RefsAt w v ls) (hb : Below w.heap.size w w') : RefsAt w' v ls := by
  obtain ⟨ao, cap, hv, hc⟩ := h
  refine ⟨ao, cap, hv, fun i r hi => ?_⟩
  obtain ⟨b, o, h1, h2, h3⟩ := hc i r hi
  exact ⟨b, o, h1, Nat.lt_of_lt_of_le h2 hb.size, by rw [hb.cell (by exact h2)]; exact h3⟩

def zeros (n : Nat) : Array Value := madeCells #[.int .i64 0] n
theorem zeros_size (n : Nat) : (zeros n).size = n := size_madeCells _ _
theorem run_zeros (n : Nat) (hn : n ≤ 1000000) (w : World) :
    (Instr.makeSlice 42 (.int .i64 (n : Int)) (.int .i64 (n : Int))).run Try.prog w = .ok (.slice (some ⟨w.heap.size, 0, none⟩) n n) (w.alloc (.cells (zeros n) 3)) := by
  obtain ⟨i, hi, hz0, hz1, hz2⟩ := info_parts Try.infoInt
  have := run_make (P := Try.prog) w 42 3 i (.int .i64 0) Try.underlying42 hi hz0 .i64 .i64 n n (by omega) (by omega) (by rw [hz2]; omega) (by omega)
  rw [this, hz1, Nat.mul_one]
  rfl

/-- The nodes of some refs. -/
def NodesOf (s : St) (ls ns : List Nat) : Prop := ns.length = ls.length ∧ ∀ (i : Nat) (r : Nat), ls[i]? = some r → ∃ m, ns[i]? = some m ∧ s.node? r = some m

set_option maxHeartbeats 4000000 in
theorem find_ok {w : World} {y : Lay} {s : St} (hT : Tab w y s) (h2 : 2 ≤ s.first) (v : Value) (ls ns : List Nat) (hR : RefsAt w v ls) (hn : ls.length ≤ 1000000) (hN : NodesOf s ls ns) :
    Calls Try.prog 77 #[.pointer (some ⟨y.tb, 0, none⟩), v] w fun e w' => e = .returned (.tuple #[.slice (some ⟨w.heap.size, 0, none⟩) ls.length ls.length, .bool true]) ∧
      (∃ cs, w'.heap[w.heap.size]? = some (.cells cs 3 (0, 0)) ∧ cs.size = ls.length ∧ ∀ (i m : Nat), ns[i]? = some m → cs[i]? = some (i6 m)) ∧ Below w.heap.size w w' := by
  obtain ⟨ao, cap, rfl, hc⟩ := hR
  have HC := keep hc
  have HN := keep hN
  have HT := keep hT
  have hsl := hT.small
  obtain ⟨n, hnn⟩ : ∃ n, n = ls.length := ⟨_, rfl⟩
  have HNN := keep hnn
  have ltb := hT.lt y.own_tb
  rw [← hnn] at hn ⊢
  clear hc hN hT hnn
  have hmk := run_zeros n hn
  go_enter Try.func77, Try.ntmps77
  go_wp2
  go_loopw [14] (fun i wr => ∃ k : Nat, k ≤ n ∧ i = .int .i64 k ∧ (∃ cs, wr.heap[w.heap.size]? = some (.cells cs 3 (0, 0)) ∧ cs.size = n ∧ ∀ (i m : Nat), i < k → ns[i]? = some m → cs[i]? = some (i6 m)) ∧ Below w.heap.size w wr) (fun i _ => n - (intOf i).toNat)
  case atStart => exact ⟨0, Nat.zero_le _, rfl, ⟨zeros n, heap_alloc_new w _, zeros_size n, fun i m h => absurd h (Nat.not_lt_zero i)⟩, (Below.refl _ _).alloc (Nat.le_refl _) _⟩
  case round =>
    obtain ⟨k, hk, rfl, ⟨cs, hcs, hsz, hup⟩, hB⟩ := hrel
    by_cases hlt : k < n
    · obtain ⟨r, hr⟩ : ∃ r, ls[k]? = some r := ⟨ls[k]'(by have := HNN.out; omega), List.getElem?_eq_getElem _⟩
      obtain ⟨b, o, rfl, hbl, hcr⟩ := HC.out k r hr
      obtain ⟨m, hm, hnode⟩ := HN.out.2 k r hr
      have hcr' : wr.cell? ⟨b, o + k, none⟩ = some (.int .i64 r) := by rw [hB.cell (by exact hbl)]; exact hcr
      have hkI : (k : Int) < (n : Int) := by omega
      have hnI : (n : Int) ≤ 1000000 := by omega
      have e0 : wr.cell? ⟨w.heap.size, k, none⟩ = some (cs.getD k undef) := by
        rw [cell_at hcs, Array.getElem?_eq_getElem (by omega)]
        simp [Array.getD, show k < cs.size by omega]
      have ez : wr.frozen? ⟨w.heap.size, k, none⟩ = false := not_frozen hcs
      have HSTEP : Hid (∀ w1, Below wr.heap.size wr w1 → ∃ cs', ((w1.setCell ⟨w.heap.size, k, none⟩ (i6 m)).heap[w.heap.size]? = some (.cells cs' 3 (0, 0)) ∧ cs'.size = n ∧ ∀ (i m : Nat), i < k + 1 → ns[i]? = some m → cs'[i]? = some (i6 m)) ∧ Below w.heap.size w (w1.setCell ⟨w.heap.size, k, none⟩ (i6 m))) := by
        intro w1 hb1
        have h1 : w1.heap[w.heap.size]? = _ := (hb1.block _ (block_lt hcs)).trans hcs
        refine ⟨cs.setIfInBounds k (i6 m), ⟨set_block (i6 m) h1, by simpa using hsz, ?_⟩, (hB.trans (hb1.mono hB.size)).setCell (Nat.le_refl _) _⟩
        intro i m' hi him
        rw [Array.getElem?_setIfInBounds]
        by_cases e : k = i
        · subst e
          rw [hm] at him
          cases him
          rw [if_pos rfl, if_pos (by omega)]
        · rw [if_neg e]
          exact hup i m' (by omega) him
      clear hcs hup hcr hr hm
      rcases Nat.lt_or_ge r 2 with hr2 | hr2
      · have hmr : m = r := by
          unfold St.node? at hnode
          rw [if_pos hr2] at hnode
          cases hnode
          rfl
        subst hmr
        have h01 : m = 0 ∨ m = 1 := by omega
        rcases h01 with rfl | rfl
        · go_wp2
          go_roundw
          case rel =>
            obtain ⟨cs', h1, h2⟩ := HSTEP.out wr (Below.refl _ _)
            exact ⟨k + 1, by omega, by go_num, ⟨cs', h1⟩, h2⟩
          case measure => simp [intOf]; omega
        · go_wp2
          go_roundw
          case rel =>
            obtain ⟨cs', h1, h2⟩ := HSTEP.out wr (Below.refl _ _)
            exact ⟨k + 1, by omega, by go_num, ⟨cs', h1⟩, h2⟩
          case measure => simp [intOf]; omega
      · have hge : s.first ≤ r := by
          unfold St.node? at hnode
          rw [if_neg (by omega)] at hnode
          rcases Nat.lt_or_ge r s.first with h | h
          · rw [if_neg (by omega)] at hnode; cases hnode
          · exact h
        obtain ⟨j, rfl⟩ : ∃ j, r = s.first + j := ⟨r - s.first, by omega⟩
        have hj : s.roots[j]? = some m := by
          unfold St.node? at hnode
          rw [if_neg (by omega), if_pos hge, Nat.add_sub_cancel_left] at hnode
          exact hnode
        have hjl := Bd.getElem?_lt hj
        obtain ⟨rg, rcap, hrs, _, hrgl⟩ := HT.out.roots.form (by omega)
        have hrl : (s.roots.length : Int) ≤ 1073741824 := by omega
        have hfs : (s.first : Int) ≤ 1099511627776 := by omega
        have hadd : ∀ j, (⟨rg, 0, none⟩ : Addr).add j = ⟨rg, j, none⟩ := by intro j; unfold Addr.add; split <;> simp_all
        have hcm := HT.out.roots.cells (g := rg) (by rw [hrs]; rfl) j (i6 m) (by unfold nums; rw [List.getElem?_map, hj]; rfl)
        rw [hadd] at hcm
        have q0 : wr.cell? ⟨y.tb, 0, none⟩ = some (.int .i64 s.first) := by rw [hB.cell (by exact ltb)]; exact HT.out.cell0
        have q1 : wr.cell? ⟨y.tb, 1, none⟩ = some (.slice (some ⟨rg, 0, none⟩) s.roots.length rcap) := by rw [hB.cell (by exact ltb), ← hrs]; exact HT.out.cell1
        have qm : wr.cell? ⟨rg, j, none⟩ = some (.int .i64 m) := by rw [hB.cell (by exact hrgl)]; exact hcm
        have ej : ((s.first + j : Nat) : Int) = (s.first : Int) + (j : Int) := by omega
        rw [ej] at hcr'
        have r0 : (((s.first : Int) + (j : Int)) == 0) = false := by rw [beq_eq_false_iff_ne]; omega
        have r1 : (((s.first : Int) + (j : Int)) == 1) = false := by rw [beq_eq_false_iff_ne]; omega
        have hjI : (j : Int) < (s.roots.length : Int) := by omega
        have hle : (s.first : Int) ≤ (s.first : Int) + (j : Int) := by omega
        clear hnode hge hj hjl hcm hrs hadd ej hr2
        obtain ⟨rl, hrl0⟩ : ∃ rl, rl = s.roots.length := ⟨_, rfl⟩
        rw [← hrl0] at q1 hjI hrl
        clear hrl0 hsl
        go_wp2
        go_quiet (fail)
        go_wp2
        go_region
        go_wp2
        go_roundw
        case rel =>
          obtain ⟨cs', h1, h2⟩ := HSTEP.out (wr.drewN nq).drew (belowN (Below.refl _ _) nq).drew
          exact ⟨k + 1, by omega, by go_num, ⟨cs', h1⟩, ⟨h2.os, h2.tape, h2.output, h2.size, h2.block⟩⟩
        case measure => simp [intOf]; omega
    · have hkn : k = n := by omega
      subst hkn
      have HR := keep (And.intro (⟨cs, hcs, hsz, fun i m him => hup i m (by have := Bd.getElem?_lt him; have := HN.out.1; have := HNN.out; omega) him⟩ : ∃ cs, wr.heap[w.heap.size]? = some (.cells cs 3 (0, 0)) ∧ cs.size = k ∧ ∀ (i m : Nat), ns[i]? = some m → cs[i]? = some (i6 m)) hB)
      clear hcs hup hB
      go_wp2
      go_ret2
      exact ⟨rfl, HR.out⟩
end Go.Proofs.Ytffngpdngjfcfaa
