/-
  What the calls on a set of places do: has, add; and fix on a ternary.
  Plain mathematics of ternary headers as lists of bytes, and of the two words in which the program keeps a set of places. No program is named here.
  answer: a function of others, told.
  find: the nodes of refs.
  tell: the ref of a node, a new one if it has none.
-/
import Derived.Test.YtnkipdlfpnmgeaaBIteAnd
import Derived.LaidEqlPtr
import Derived.Test.YtnkipdlfpnmgeaaRows
import Derived.WalkKit
import Derived.WalkSpells
import Derived.WalkLawsBesides
import Derived.RegionTactic
import Derived.ChangeAlike
namespace Go.Proofs.Ytnkipdlfpnmgeaa
open Go.RowKit Go.Maps
open Bd (Nd)

/-- What a call adds to the refs: none, or r, the next. -/
def Adds (s : St) (t : List Nat) (r : Nat) : Prop := t = [] ∨ (t.length = 1 ∧ r = s.first + s.roots.length)
theorem Adds.few {s : St} {t : List Nat} {r : Nat} (h : Adds s t r) : t.length ≤ 1 := by
  rcases h with h | h
  · rw [h]; simp
  · omega

/-- What tell leaves: the table with the ref told. -/
structure Tells (w : World) (y : Lay) (s : St) (w' : World) (r n : Nat) : Prop where
  ex : ∃ y' t, Tab w' y' { s with roots := s.roots ++ t } ∧ Moves noX w y w' y' ∧ ({ s with roots := s.roots ++ t } : St).node? r = some n ∧ Adds s t r

set_option maxHeartbeats 2000000 in
theorem tell_any {w : World} {y : Lay} {s : St} (hT : Tab w y s) (h2 : 2 ≤ s.first) (n : Nat) (hn : n < s.L.length + 2) (hsm : s.roots.length + 1 ≤ 1073741824) :
    Calls Try.prog 73 #[.pointer (some ⟨y.tb, 0, none⟩), i6 n] w fun e w' => ∃ r, e = .returned (i6 r) ∧ Tells w y s w' r n := by
  rcases Nat.lt_or_ge n 2 with hn2 | hn2
  · have hnI : (n : Int) < 2 := by omega
    have HR : Hid (Tells w y s w n n) := ⟨y, [], by rw [List.append_nil]; exact hT, Moves.refl _ _ _, by unfold St.node?; rw [if_pos hn2], Or.inl rfl⟩
    clear hT
    go_enter Try.func73, Try.ntmps73
    go_wp2
    go_ret
    exact ⟨n, rfl, HR.out⟩
  · have hnI : ¬ ((n : Int) < 2) := by omega
    have c2 := hT.cell2
    have hsl := hT.small
    obtain ⟨f, hf, hr⟩ := hT.refs
    obtain ⟨kl, hkl⟩ := key_int (a := n) (by omega)
    have hlook := MapOf.look hf kInt Try.underlying71 Try.underlying25 (zero_ref _) hkl
    by_cases hin : n ∈ s.roots
    · obtain ⟨i, hi, hx⟩ := List.getElem_of_mem hin
      have hx' : s.roots[i]? = some n := by rw [List.getElem?_eq_getElem hi, hx]
      have hfx : f (i6 n) = some ((s.first + i : Nat) : Int) := (hr n).1 i hx'
      rw [hfx] at hlook
      simp only [Option.getD_some, Option.isSome_some, i6] at hlook
      have HR : Hid (Tells w y s w (s.first + i) n) := ⟨y, [], by rw [List.append_nil]; exact hT, Moves.refl _ _ _, by
        unfold St.node?
        rw [if_neg (by omega), if_pos (by show s.first ≤ _; omega)]
        show (s.roots ++ [])[s.first + i - s.first]? = _
        rw [List.append_nil, Nat.add_sub_cancel_left]; exact hx', Or.inl rfl⟩
      obtain ⟨q, hq⟩ : ∃ q, q = s.first + i := ⟨_, rfl⟩
      rw [← hq] at hlook HR
      clear hT hf hr hfx hx hx' hin hkl hi hq
      go_enter Try.func73, Try.ntmps73
      go_wp2
      go_ret
      exact ⟨q, rfl, HR.out⟩
    · have hfx : f (i6 n) = none := (hr n).2 hin
      rw [hfx] at hlook
      simp only [Option.getD_none, Option.isSome_none, i6] at hlook
      obtain ⟨ao, cap, hrs⟩ := hT.roots_slice
      have c0 := hT.cell0
      have c1 := hT.cell1
      rw [hrs] at c1
      obtain ⟨i0, hi, hz0, hz1, hz2⟩ := info_parts Try.infoInt
      have HI := keep hi
      have HZ0 := keep hz0
      have HZ1 := keep hz1
      have HZ2 := keep hz2
      have hfs : (s.first : Int) ≤ 1099511627776 := by omega
      have hrl : (s.roots.length : Int) ≤ 1073741824 := by omega
      have HOWN : Hid (∀ o, (w.alloc o).drew.ownsRow 0 3 1 (.slice ao s.roots.length cap) s.roots.length (nums s.roots)) := by
        intro o
        have h := hT.roots
        rw [hrs] at h
        exact row_same (h.alloc o) fun _ _ => rfl
      have HT := keep hT
      have HF := keep hf
      have HRM := keep hr
      have HKL := keep hkl
      have HNIN := keep hin
      have HRS := keep hrs
      have HNL := keep hn
      obtain ⟨rl, hrl0⟩ : ∃ rl, rl = s.roots.length := ⟨_, rfl⟩
      have HRL := keep hrl0
      rw [← hrl0] at c1 HOWN hrl hsm
      have KT : Hid (∀ w1 o, (w.alloc o).drew.grownBy w1 (Value.slice ao rl cap).ownBlock → w1.cell? ⟨y.tb, 1, none⟩ = some (.slice ao rl cap) ∧ w1.frozen? ⟨y.tb, 1, none⟩ = false ∧ w1.cell? ⟨y.tb, 2, none⟩ = some (.map (some y.rm)) ∧
          ∀ v, MapOf Try.prog 3 25 (w1.setCell ⟨y.tb, 1, none⟩ v) y.rm rl f) := by
        intro w1 o hg
        have hlsb : (Value.slice ao rl cap).ownBlock = y.rs.ownBlock := by rw [hrs, hrl0]
        rw [hlsb] at hg
        have hap := hT.apart
        have ltb := hT.lt y.own_tb
        have lrm := hT.lt y.own_rm
        have g1 : w1.heap[y.tb]? = w.heap[y.tb]? := by
          rw [hg.block y.tb (by show y.tb < (w.alloc _).heap.size; simp; omega) (fun e => hap.2.2.2.1 e.symm)]
          exact heap_alloc_old w _ ltb
        have g2 : w1.heap[y.rm]? = w.heap[y.rm]? := by
          rw [hg.block y.rm (by show y.rm < (w.alloc _).heap.size; simp; omega) (fun e => hap.2.2.2.2.2.2.2.1 e.symm)]
          exact heap_alloc_old w _ lrm
        refine ⟨by rw [World.cell?_of_block g1]; exact c1, by rw [World.frozen?_of_block g1]; exact not_frozen hT.cells, by rw [World.cell?_of_block g1]; exact c2, fun v => ?_⟩
        rw [hrl0]
        exact hf.same ((set_other v hap.2.1).trans g2)
      clear hT hf hr hfx hin hkl hi hz0 hz1 hz2 hrs hrl0 hn hsl
      have hwf : (Lit.int .i64 ((s.first : Int) + (rl : Int))).wf = true := WalkArith.wf_i64 (by omega)
      go_enter Try.func73, Try.ntmps73
      go_wp2
      go_region
      go_wp2_with (first | (at_builtin; refine wpList_append_lies _ rfl (.tmp 36) (.tmp 38) 70 rfl 0 3 i0 (.int .i64 0) 1 8 Try.underlying70 HI.out HZ0.out HZ1.out HZ2.out rfl (by decide) (.slice ao rl cap) rl (nums s.roots) rfl (HOWN.out _) ⟨w.heap.size, 0, none⟩ 1 1 [.int .i64 n] rfl rfl (World.news_of_block (heap_alloc_new w _)) (by simp [Value.oneCell']) (by decide) (by unfold maxLen; omega) (by omega) (Nat.zero_le _) (w.heap.size + 1) (by simp) ?_; intro g1 cap1 w1 hown1 hgrow1 hat1 hlt1; obtain ⟨q1, qf, q2, qm⟩ := KT.out w1 _ hgrow1) | (at_mapUpdate; refine wpList_store_of _ rfl (.tmp 45) (.tmp 46) (.tmp 47) 71 rfl 3 25 kInt Try.underlying71 Try.underlying25 y.rm rl f rfl (qm _) (by unfold maxLen; omega) (.int .i64 n) ((s.first : Int) + (rl : Int)) kl rfl rfl HKL.out hwf ?_; intro w2 hput2 hgrow2) | go_in)
      go_ret
      refine ⟨s.first + rl, by simp, ?_⟩
      have e : ((s.first + rl : Nat) : Int) = (s.first : Int) + (rl : Int) := by omega
      rw [← e] at hput2
      have hlsb : (Value.slice ao rl cap).ownBlock = y.rs.ownBlock := by rw [HRS.out, HRL.out]
      rw [hlsb] at hgrow1 hat1
      have R := tell_tab HT.out HNIN.out hn2 HNL.out (by rw [← HRL.out]; exact hsm) (v := .slice (some ⟨g1, 0, none⟩) (rl + 1) cap1) (by rw [HRL.out]) (by have := hown1; rw [HRL.out] at this ⊢; exact this) hgrow1 hat1 HRM.out (by have := hput2; rw [HRL.out] at this; exact this) hgrow2
      refine ⟨_, [n], R.1, R.2, ?_, Or.inr ⟨rfl, by rw [HRL.out]⟩⟩
      unfold St.node?
      rw [if_neg (by omega), if_pos (by show s.first ≤ _; omega)]
      show (s.roots ++ [n])[s.first + rl - s.first]? = _
      rw [Nat.add_sub_cancel_left, HRL.out, List.getElem?_append_right (Nat.le_refl _)]
      simp
end Go.Proofs.Ytnkipdlfpnmgeaa
namespace Go.Proofs.Ytnkipdlfpnmgeaa
open Go.RowKit Go.Maps
open Bd (Nd)

/-- Refs one behind the other, as a call is handed them. -/
def RefsAt (w : World) (v : Value) (ls : List Nat) : Prop := ∃ ao cap, v = .slice ao ls.length cap ∧ ∀ (i r : Nat), ls[i]? = some r → ∃ b o, ao = some ⟨b, o, none⟩ ∧ b < w.heap.size ∧ w.cell? ⟨b, o + i, none⟩ = some (i6 r)
theorem RefsAt.below {w w' : World} {v : Value} {ls : List Nat} (h : RefsAt w v ls) (hb : Below w.heap.size w w') : RefsAt w' v ls := by
  obtain ⟨ao, cap, hv, hc⟩ := h
  refine ⟨ao, cap, hv, fun i r hi => ?_⟩
  obtain ⟨b, o, h1, h2, h3⟩ := hc i r hi
  exact ⟨b, o, h1, Nat.lt_of_lt_of_le h2 hb.size, by rw [hb.cell (by exact h2)]; exact h3⟩

def zeros (n : Nat) : Array Value := madeCells #[.int .i64 0] n
theorem zeros_size (n : Nat) : (zeros n).size = n := size_madeCells _ _
theorem run_zeros (n : Nat) (hn : n ≤ 1000000) (w : World) :
    (Instr.makeSlice 70 (.int .i64 (n : Int)) (.int .i64 (n : Int))).run Try.prog w = .ok (.slice (some ⟨w.heap.size, 0, none⟩) n n) (w.alloc (.cells (zeros n) 3)) := by
  obtain ⟨i, hi, hz0, hz1, hz2⟩ := info_parts Try.infoInt
  have := run_make (P := Try.prog) w 70 3 i (.int .i64 0) Try.underlying70 hi hz0 .i64 .i64 n n (by omega) (by omega) (by rw [hz2]; omega) (by omega)
  rw [this, hz1, Nat.mul_one]
  rfl

/-- The nodes of some refs. -/
def NodesOf (s : St) (ls ns : List Nat) : Prop := ns.length = ls.length ∧ ∀ (i : Nat) (r : Nat), ls[i]? = some r → ∃ m, ns[i]? = some m ∧ s.node? r = some m

set_option maxHeartbeats 4000000 in
theorem find_ok {w : World} {y : Lay} {s : St} (hT : Tab w y s) (h2 : 2 ≤ s.first) (v : Value) (ls ns : List Nat) (hR : RefsAt w v ls) (hn : ls.length ≤ 1000000) (hN : NodesOf s ls ns) :
    Calls Try.prog 64 #[.pointer (some ⟨y.tb, 0, none⟩), v] w fun e w' => e = .returned (.tuple #[.slice (some ⟨w.heap.size, 0, none⟩) ls.length ls.length, .bool true]) ∧
      (∃ cs, w'.heap[w.heap.size]? = some (.cells cs 3 (0, 0)) ∧ cs.size = ls.length ∧ ∀ (i m : Nat), ns[i]? = some m → cs[i]? = some (i6 m)) ∧ Below w.heap.size w w' := by
  obtain ⟨ao, cap, rfl, hc⟩ := hR
  have HC := keep hc
  have HN := keep hN
  have HT := keep hT
  have hsl := hT.small
  obtain ⟨n, hnn⟩ : ∃ n, n = ls.length := ⟨_, rfl⟩
  have HNN := keep hnn
  have ltb := hT.lt y.own_tb
  rw [← hnn] at hn ⊢
  clear hc hN hT hnn
  have hmk := run_zeros n hn
  go_enter Try.func64, Try.ntmps64
  go_wp2
  go_loopw [14] (fun i wr => ∃ k : Nat, k ≤ n ∧ i = .int .i64 k ∧ (∃ cs, wr.heap[w.heap.size]? = some (.cells cs 3 (0, 0)) ∧ cs.size = n ∧ ∀ (i m : Nat), i < k → ns[i]? = some m → cs[i]? = some (i6 m)) ∧ Below w.heap.size w wr) (fun i _ => n - (intOf i).toNat)
  case atStart => exact ⟨0, Nat.zero_le _, rfl, ⟨zeros n, heap_alloc_new w _, zeros_size n, fun i m h => absurd h (Nat.not_lt_zero i)⟩, (Below.refl _ _).alloc (Nat.le_refl _) _⟩
  case round =>
    obtain ⟨k, hk, rfl, ⟨cs, hcs, hsz, hup⟩, hB⟩ := hrel
    by_cases hlt : k < n
    · obtain ⟨r, hr⟩ : ∃ r, ls[k]? = some r := ⟨ls[k]'(by have := HNN.out; omega), List.getElem?_eq_getElem _⟩
      obtain ⟨b, o, rfl, hbl, hcr⟩ := HC.out k r hr
      obtain ⟨m, hm, hnode⟩ := HN.out.2 k r hr
      have hcr' : wr.cell? ⟨b, o + k, none⟩ = some (.int .i64 r) := by rw [hB.cell (by exact hbl)]; exact hcr
      have hkI : (k : Int) < (n : Int) := by omega
      have hnI : (n : Int) ≤ 1000000 := by omega
      have e0 : wr.cell? ⟨w.heap.size, k, none⟩ = some (cs.getD k undef) := by
        rw [cell_at hcs, Array.getElem?_eq_getElem (by omega)]
        simp [Array.getD, show k < cs.size by omega]
      have ez : wr.frozen? ⟨w.heap.size, k, none⟩ = false := not_frozen hcs
      have HSTEP : Hid (∀ w1, Below wr.heap.size wr w1 → ∃ cs', ((w1.setCell ⟨w.heap.size, k, none⟩ (i6 m)).heap[w.heap.size]? = some (.cells cs' 3 (0, 0)) ∧ cs'.size = n ∧ ∀ (i m : Nat), i < k + 1 → ns[i]? = some m → cs'[i]? = some (i6 m)) ∧ Below w.heap.size w (w1.setCell ⟨w.heap.size, k, none⟩ (i6 m))) := by
        intro w1 hb1
        have h1 : w1.heap[w.heap.size]? = _ := (hb1.block _ (block_lt hcs)).trans hcs
        refine ⟨cs.setIfInBounds k (i6 m), ⟨set_block (i6 m) h1, by simpa using hsz, ?_⟩, (hB.trans (hb1.mono hB.size)).setCell (Nat.le_refl _) _⟩
        intro i m' hi him
        rw [Array.getElem?_setIfInBounds]
        by_cases e : k = i
        · subst e
          rw [hm] at him
          cases him
          rw [if_pos rfl, if_pos (by omega)]
        · rw [if_neg e]
          exact hup i m' (by omega) him
      clear hcs hup hcr hr hm
      rcases Nat.lt_or_ge r 2 with hr2 | hr2
      · have hmr : m = r := by
          unfold St.node? at hnode
          rw [if_pos hr2] at hnode
          cases hnode
          rfl
        subst hmr
        have h01 : m = 0 ∨ m = 1 := by omega
        rcases h01 with rfl | rfl
        · go_wp2
          go_roundw
          case rel =>
            obtain ⟨cs', h1, h2⟩ := HSTEP.out wr (Below.refl _ _)
            exact ⟨k + 1, by omega, by go_num, ⟨cs', h1⟩, h2⟩
          case measure => simp [intOf]; omega
        · go_wp2
          go_roundw
          case rel =>
            obtain ⟨cs', h1, h2⟩ := HSTEP.out wr (Below.refl _ _)
            exact ⟨k + 1, by omega, by go_num, ⟨cs', h1⟩, h2⟩
          case measure => simp [intOf]; omega
      · have hge : s.first ≤ r := by
          unfold St.node? at hnode
          rw [if_neg (by omega)] at hnode
          rcases Nat.lt_or_ge r s.first with h | h
          · rw [if_neg (by omega)] at hnode; cases hnode
          · exact h
        obtain ⟨j, rfl⟩ : ∃ j, r = s.first + j := ⟨r - s.first, by omega⟩
        have hj : s.roots[j]? = some m := by
          unfold St.node? at hnode
          rw [if_neg (by omega), if_pos hge, Nat.add_sub_cancel_left] at hnode
          exact hnode
        have hjl := Bd.getElem?_lt hj
        obtain ⟨rg, rcap, hrs, _, hrgl⟩ := HT.out.roots.form (by omega)
        have hrl : (s.roots.length : Int) ≤ 1073741824 := by omega
        have hfs : (s.first : Int) ≤ 1099511627776 := by omega
        have hadd : ∀ j, (⟨rg, 0, none⟩ : Addr).add j = ⟨rg, j, none⟩ := by intro j; unfold Addr.add; split <;> simp_all
        have hcm := HT.out.roots.cells (g := rg) (by rw [hrs]; rfl) j (i6 m) (by unfold nums; rw [List.getElem?_map, hj]; rfl)
        rw [hadd] at hcm
        have q0 : wr.cell? ⟨y.tb, 0, none⟩ = some (.int .i64 s.first) := by rw [hB.cell (by exact ltb)]; exact HT.out.cell0
        have q1 : wr.cell? ⟨y.tb, 1, none⟩ = some (.slice (some ⟨rg, 0, none⟩) s.roots.length rcap) := by rw [hB.cell (by exact ltb), ← hrs]; exact HT.out.cell1
        have qm : wr.cell? ⟨rg, j, none⟩ = some (.int .i64 m) := by rw [hB.cell (by exact hrgl)]; exact hcm
        have ej : ((s.first + j : Nat) : Int) = (s.first : Int) + (j : Int) := by omega
        rw [ej] at hcr'
        have r0 : (((s.first : Int) + (j : Int)) == 0) = false := by rw [beq_eq_false_iff_ne]; omega
        have r1 : (((s.first : Int) + (j : Int)) == 1) = false := by rw [beq_eq_false_iff_ne]; omega
        have hjI : (j : Int) < (s.roots.length : Int) := by omega
        have hle : (s.first : Int) ≤ (s.first : Int) + (j : Int) := by omega
        clear hnode hge hj hjl hcm hrs hadd ej hr2
        obtain ⟨rl, hrl0⟩ : ∃ rl, rl = s.roots.length := ⟨_, rfl⟩
        rw [← hrl0] at q1 hjI hrl
        clear hrl0 hsl
        go_wp2
        go_quiet (fail)
        go_wp2
        go_region
        go_wp2
        go_roundw
        case rel =>
          obtain ⟨cs', h1, h2⟩ := HSTEP.out (wr.drewN nq).drew (belowN (Below.refl _ _) nq).drew
          exact ⟨k + 1, by omega, by go_num, ⟨cs', h1⟩, ⟨h2.os, h2.tape, h2.output, h2.size, h2.block⟩⟩
        case measure => simp [intOf]; omega
    · have hkn : k = n := by omega
      subst hkn
      have HR := keep (And.intro (⟨cs, hcs, hsz, fun i m him => hup i m (by have := Bd.getElem?_lt him; have := HN.out.1; have := HNN.out; omega) him⟩ : ∃ cs, wr.heap[w.heap.size]? = some (.cells cs 3 (0, 0)) ∧ cs.size = k ∧ ∀ (i m : Nat), ns[i]? = some m → cs[i]? = some (i6 m)) hB)
      clear hcs hup hB
      go_wp2
      go_ret2
      exact ⟨rfl, HR.out⟩
end Go.Proofs.Ytnkipdlfpnmgeaa
namespace Go.Proofs.Ytnkipdlfpnmgeaa
open Go.RowKit Go.Maps
open Bd (Nd)

theorem Try.infoTable : ∃ j, Try.prog.info? 78 = some j := Option.isSome_iff_exists.1 (by kernel_rfl)
theorem made_ok {w : World} {y : Lay} {s : St} (hT : Tab w y s) : Calls Try.prog 34 #[.pointer (some ⟨y.tb, 0, none⟩)] w fun e w' => e = .returned (.bool true) ∧ w' = w := by
  have c7 : w.cell? ⟨y.tb, 7, none⟩ = some (.pointer (some ⟨y.tb, 0, none⟩)) := by rw [cell_at hT.cells]; rfl
  obtain ⟨j, hj⟩ := Try.infoTable
  have hsame : (binOp .eql 23 (.pointer (some ⟨y.tb, 0, none⟩)) (.pointer (some ⟨y.tb, 0, none⟩))).run Try.prog w = .ok (.bool true) w := run_eql_ptr_same w _ Try.underlying23 hj
  clear hj
  go_enter Try.func34, Try.ntmps34
  go_wp2
  go_ret
  exact ⟨rfl, rfl⟩

theorem ans_idle (p q r s : Value) (w : World) :
    CallsD Try.prog 71 #[p, q, r, s] .returning w fun e u' w' => e = .returned (.tuple #[]) ∧ u' = .returning ∧ w' = w := by
  refine callsD_of_wpS Try.func71 rfl fun c₀ cs hu => ?_
  apply wpS_seq
  apply wpS_region
  simp [wpOpsS, go_sem, recoverD, hu, Try.ntmps71, Exit.thenS]
  refine wpS_cond (t := false) (by simp [Act.eval, Array.replicate]) ?_
  simp only [Bool.false_eq_true, if_false]
  refine wpS_of_wp (wp_skip ?_)
  cases c₀
  simp_all [bodyPostS, results, Try.results71]

/-- What a call that tells a ref leaves: f is the function that it stands for. -/
structure Told {bits M : Nat} (A : Bd.Fam bits M) (w : World) (y : Lay) (s : St) (w' : World) (r : Nat) (f : Bd.Fn) : Prop where
  ex : ∃ N t y' m, Tab w' y' { s with L := s.L ++ N, roots := s.roots ++ t } ∧ Bd.Within A (s.L ++ N) ∧ ({ s with L := s.L ++ N, roots := s.roots ++ t } : St).node? r = some m ∧ m < (s.L ++ N).length + 2 ∧ Bd.den (s.L ++ N) m = f ∧ Moves noX w y w' y' ∧ Adds s t r

/-- The nodes' slice, as how is handed it. -/
def NodesAt (w : World) (g : Nat) (ns : List Nat) : Prop := ∃ cs, w.heap[g]? = some (.cells cs 3 (0, 0)) ∧ cs.size = ns.length ∧ ∀ (i m : Nat), ns[i]? = some m → cs[i]? = some (i6 m)

/-- The blocks that answer lays. -/
structure AnsAt (w : World) (B : Nat) (p : Value) : Prop where
  b0 : w.heap[B]? = some (.cells #[p] 23 (0, 0))
  b1 : w.heap[B + 1]? = some (.cells #[.int .i64 0] 25 (0, 0))
  b2 : w.heap[B + 1 + 1]? = some (.cells #[.int .i64 0] 30 (0, 0))

theorem AnsAt.moves {w w' : World} {B : Nat} {p : Value} (h : AnsAt w B p) {y y' : Lay} (hm : Moves noX w y w' y') (hy : ∀ k, y.own k → k < B ∨ B + 3 ≤ k) : AnsAt w' B p := by
  have l0 := block_lt h.b0
  have l1 := block_lt h.b1
  have l2 := block_lt h.b2
  refine ⟨(hm.block _ l0 (fun ho => ?_) (fun h => h)).trans h.b0, (hm.block _ l1 (fun ho => ?_) (fun h => h)).trans h.b1, (hm.block _ l2 (fun ho => ?_) (fun h => h)).trans h.b2⟩
  · rcases hy _ ho with h | h <;> omega
  · rcases hy _ ho with h | h <;> omega
  · rcases hy _ ho with h | h <;> omega

/-- What follows how. -/
theorem ans_rest {M : Nat} {w : World} {y : Lay} {s : St} (A : Bd.Fam s.bits M) (hT : Tab w y s) (h2 : 2 ≤ s.first) (hsm : s.roots.length + 1 ≤ 1073741824) (hlim : s.bits * M ≤ s.limit) {W w2 : World} (hBW : Below w.heap.size w W) (hA : AnsAt W w.heap.size (.pointer (some ⟨y.tb, 0, none⟩))) {r : Nat} {f : Bd.Fn} (hG : Grew noX A W y s w2 r f) :
    w2.cell? ⟨w.heap.size, 0, none⟩ = some (.pointer (some ⟨y.tb, 0, none⟩)) ∧ w2.cell? ⟨y.tb, 6, none⟩ = some (.int .i64 s.limit) ∧ (∃ ao len cap, w2.cell? ⟨y.tb, 3, none⟩ = some (.slice ao len cap) ∧ len ≤ s.limit) ∧
    Hid (∀ n, Calls Try.prog 73 #[.pointer (some ⟨y.tb, 0, none⟩), i6 r] (w2.drewN n) fun e w3 => ∃ ref, e = .returned (i6 ref) ∧ w3.cell? ⟨w.heap.size + 1, 0, none⟩ = some (.int .i64 0) ∧ w3.frozen? ⟨w.heap.size + 1, 0, none⟩ = false ∧ w3.cell? ⟨w.heap.size + 1 + 1, 0, none⟩ = some (.int .i64 0) ∧ w3.frozen? ⟨w.heap.size + 1 + 1, 0, none⟩ = false ∧
      Hid (Told A w y s ((w3.setCell ⟨w.heap.size + 1, 0, none⟩ (i6 ref)).setCell ⟨w.heap.size + 1 + 1, 0, none⟩ (.int .i64 0)) ref f)) := by
  obtain ⟨N, y2, t2, wi2, hr2, d2, m2⟩ := hG.ex
  have hy : ∀ k, y.own k → k < w.heap.size ∨ w.heap.size + 3 ≤ k := fun k hk => Or.inl (hT.lt hk)
  have l2 := block_lt hA.b2
  have hA2 := hA.moves m2 hy
  have hy2 := own_between (_w0 := w) m2 (by omega) hy
  have hfew := wi2.few t2.okay
  have hmt := m2.tb
  refine ⟨by rw [cell_at hA2.b0]; rfl, ?_, ?_, ?_⟩
  · rw [← hmt, cell_at t2.cells]; rfl
  · obtain ⟨ao, cap, hls⟩ := t2.list_slice
    refine ⟨ao, (s.L ++ N).length, cap, ?_, by omega⟩
    rw [← hmt, t2.cell3, hls]
  · intro n
    have hbn : Below w2.heap.size w2 (w2.drewN n) := belowN (Below.refl _ _) n
    rw [← hmt]
    refine (tell_any (t2.below hbn) h2 r hr2 hsm).mono ?_
    rintro e w3 ⟨ref, rfl, ⟨y3, t, t3, m3, hnd, htl⟩⟩
    have hA3 : AnsAt w3 w.heap.size (.pointer (some ⟨y.tb, 0, none⟩)) := AnsAt.moves (w := w2.drewN n) ⟨hA2.b0, hA2.b1, hA2.b2⟩ m3 hy2
    have hy3 := own_between (_w0 := w) m3 (by show w.heap.size + 3 ≤ w2.heap.size; have := m2.size; omega) hy2
    refine ⟨ref, rfl, by rw [cell_at hA3.b1]; rfl, not_frozen hA3.b1, by rw [cell_at hA3.b2]; rfl, not_frozen hA3.b2, ?_⟩
    have hset : ∀ k, k ≠ w.heap.size + 1 → k ≠ w.heap.size + 1 + 1 → ((w3.setCell ⟨w.heap.size + 1, 0, none⟩ (i6 ref)).setCell ⟨w.heap.size + 1 + 1, 0, none⟩ (.int .i64 0)).heap[k]? = w3.heap[k]? := by
      intro k h1 h2
      rw [set_other _ (show k ≠ w.heap.size + 1 + 1 from h2), set_other _ (show k ≠ w.heap.size + 1 from h1)]
    have t4 := t3.same (w' := (w3.setCell ⟨w.heap.size + 1, 0, none⟩ (i6 ref)).setCell ⟨w.heap.size + 1 + 1, 0, none⟩ (.int .i64 0)) fun k hk => by
      rcases hy3 k hk with h | h
      · exact hset k (by omega) (by omega)
      · exact hset k (by omega) (by omega)
    refine ⟨N, t, y3, r, t4, wi2, hnd, hr2, d2, ?_, htl⟩
    have mA := ((moves_below (X := noX) y hBW).trans m2).trans ((moves_below (X := noX) y2 hbn).trans m3)
    refine ⟨mA.tb, mA.own, mA.os, mA.tape, mA.output, by have := mA.size; simpa using this, ?_⟩
    intro k hk hn hx
    rw [hset k (by omega) (by omega)]
    exact mA.block k hk hn hx

set_option maxHeartbeats 4000000 in
theorem answer_ok {M : Nat} {w : World} {y : Lay} {s : St} (A : Bd.Fam s.bits M) (hT : Tab w y s) (h2 : 2 ≤ s.first) (hsm : s.roots.length + 1 ≤ 1073741824) (hlim : s.bits * M ≤ s.limit) (v : Value) (ls ns : List Nat) (hR : RefsAt w v ls) (hn : ls.length ≤ 1000000) (hN : NodesOf s ls ns)
    (fh : FuncId) (hent : ∀ args w, (callFunc fh args).run Try.prog w = .ok (.enter fh args) w) (caps : Array Value) (f : Bd.Fn)
    (hhow : ∀ w1 g, Below w.heap.size w w1 → NodesAt w1 g ns → w.heap.size ≤ g → Calls Try.prog fh (#[.slice (some ⟨g, 0, none⟩) ls.length ls.length] ++ caps) w1 fun e w2 => ∃ r, e = .returned (i6 r) ∧ Grew noX A w1 y s w2 r f) :
    Calls Try.prog 45 #[.pointer (some ⟨y.tb, 0, none⟩), v, .func (.func fh) #[] caps] w fun e w' => ∃ r, e = .returned (.tuple #[i6 r, .int .i64 0]) ∧ Told A w y s w' r f := by
  have hmf : ∀ (fn : Fn) (first cap : Array Value) (w : World), (Instr.makeFunc fn first cap).run Try.prog w = .ok (.func fn first cap) w := fun _ _ _ _ => rfl
  have HT := keep hT
  have HR := keep hR
  have HN := keep hN
  have HH := keep hhow
  have ltb := hT.lt y.own_tb
  clear hT hR hN hhow
  go_enter_defers Try.func45, Try.ntmps45
  have B0 : Hid (Below w.heap.size w (((w.alloc (.cells #[.pointer (some ⟨y.tb, 0, none⟩)] 23)).alloc (.cells #[.int .i64 0] 25)).alloc (.cells #[.int .i64 0] 30))) :=
    (((Below.refl _ _).alloc (Nat.le_refl _) _).alloc (by simp) _).alloc (by simp <;> omega) _
  obtain ⟨lao, lcap, hls⟩ := HT.out.list_slice
  have A0 : Hid (AnsAt (((w.alloc (.cells #[.pointer (some ⟨y.tb, 0, none⟩)] 23)).alloc (.cells #[.int .i64 0] 25)).alloc (.cells #[.int .i64 0] 30)) w.heap.size (.pointer (some ⟨y.tb, 0, none⟩))) := by
    have e1 : (w.alloc (.cells #[.pointer (some ⟨y.tb, 0, none⟩)] 23)).heap.size = w.heap.size + 1 := by simp
    have e2 : ((w.alloc (.cells #[.pointer (some ⟨y.tb, 0, none⟩)] 23)).alloc (.cells #[.int .i64 0] 25)).heap.size = w.heap.size + 1 + 1 := by simp
    refine ⟨?_, ?_, ?_⟩
    · rw [heap_alloc_old _ _ (by omega), heap_alloc_old _ _ (by omega)]; exact heap_alloc_new w _
    · rw [heap_alloc_old _ _ (by omega), ← e1]; exact heap_alloc_new _ _
    · rw [← e2]; exact heap_alloc_new _ _
  have LAY1 : Hid (∀ w1, Below (((w.alloc (.cells #[.pointer (some ⟨y.tb, 0, none⟩)] 23)).alloc (.cells #[.int .i64 0] 25)).alloc (.cells #[.int .i64 0] 30)).heap.size (((w.alloc (.cells #[.pointer (some ⟨y.tb, 0, none⟩)] 23)).alloc (.cells #[.int .i64 0] 25)).alloc (.cells #[.int .i64 0] 30)) w1 →
      w1.cell? ⟨w.heap.size, 0, none⟩ = some (.pointer (some ⟨y.tb, 0, none⟩)) ∧ w1.cell? ⟨y.tb, 3, none⟩ = some (.slice lao s.L.length lcap)) := by
    intro w1 hb1
    refine ⟨?_, ?_⟩
    · rw [hb1.cell (by show w.heap.size < _; simp <;> omega), cell_at A0.out.b0]; rfl
    · have h := (HT.out.below B0.out).below hb1
      rw [h.cell3, hls]
  have HF := keep (find_ok (HT.out.below B0.out) h2 v ls ns (HR.out.below B0.out) hn HN.out)
  have e0 : (((w.alloc (.cells #[.pointer (some ⟨y.tb, 0, none⟩)] 23)).alloc (.cells #[.int .i64 0] 25)).alloc (.cells #[.int .i64 0] 30)).heap.size = w.heap.size + 1 + 1 + 1 := by simp
  have HOW : Hid (∀ w1, Below (((w.alloc (.cells #[.pointer (some ⟨y.tb, 0, none⟩)] 23)).alloc (.cells #[.int .i64 0] 25)).alloc (.cells #[.int .i64 0] 30)).heap.size (((w.alloc (.cells #[.pointer (some ⟨y.tb, 0, none⟩)] 23)).alloc (.cells #[.int .i64 0] 25)).alloc (.cells #[.int .i64 0] 30)) w1 →
      (∃ cs, w1.heap[w.heap.size + 1 + 1 + 1]? = some (.cells cs 3 (0, 0)) ∧ cs.size = ls.length ∧ ∀ (i m : Nat), ns[i]? = some m → cs[i]? = some (i6 m)) → ∀ o, Calls Try.prog fh (#[.slice (some ⟨w.heap.size + 1 + 1 + 1, 0, none⟩) ls.length ls.length] ++ caps) (w1.alloc o) fun e w2 => ∃ r, e = .returned (i6 r) ∧
        w2.cell? ⟨w.heap.size, 0, none⟩ = some (.pointer (some ⟨y.tb, 0, none⟩)) ∧ w2.cell? ⟨y.tb, 6, none⟩ = some (.int .i64 s.limit) ∧ (∃ ao len cap, w2.cell? ⟨y.tb, 3, none⟩ = some (.slice ao len cap) ∧ len ≤ s.limit) ∧
    Hid (∀ n, Calls Try.prog 73 #[.pointer (some ⟨y.tb, 0, none⟩), i6 r] (w2.drewN n) fun e w3 => ∃ ref, e = .returned (i6 ref) ∧ w3.cell? ⟨w.heap.size + 1, 0, none⟩ = some (.int .i64 0) ∧ w3.frozen? ⟨w.heap.size + 1, 0, none⟩ = false ∧ w3.cell? ⟨w.heap.size + 1 + 1, 0, none⟩ = some (.int .i64 0) ∧ w3.frozen? ⟨w.heap.size + 1 + 1, 0, none⟩ = false ∧
      Hid (Told A w y s ((w3.setCell ⟨w.heap.size + 1, 0, none⟩ (i6 ref)).setCell ⟨w.heap.size + 1 + 1, 0, none⟩ (.int .i64 0)) ref f))) := by
    intro w1 hb1 hcs o
    have hb01 : Below w.heap.size w w1 := B0.out.trans (hb1.mono B0.out.size)
    have hbo : Below w.heap.size w (w1.alloc o) := hb01.alloc hb01.size o
    obtain ⟨cs, c1, c2, c3⟩ := hcs
    have hold : ∀ k, k < w1.heap.size → (w1.alloc o).heap[k]? = w1.heap[k]? := fun k hk => heap_alloc_old w1 o hk
    have hAA : AnsAt (w1.alloc o) w.heap.size (.pointer (some ⟨y.tb, 0, none⟩)) := by
      have z := hb1.size
      rw [e0] at z
      refine ⟨?_, ?_, ?_⟩
      · rw [hold _ (by omega), hb1.block _ (by rw [e0]; omega)]; exact A0.out.b0
      · rw [hold _ (by omega), hb1.block _ (by rw [e0]; omega)]; exact A0.out.b1
      · rw [hold _ (by omega), hb1.block _ (by rw [e0]; omega)]; exact A0.out.b2
    refine (HH.out (w1.alloc o) (w.heap.size + 1 + 1 + 1) hbo ⟨cs, (hold _ (block_lt c1)).trans c1, by rw [c2, HN.out.1], c3⟩ (by omega)).mono ?_
    rintro e w2 ⟨r, rfl, hG⟩
    exact ⟨r, rfl, ans_rest A HT.out h2 hsm hlim hbo hAA hG⟩
  go_wp2_with (first | (go_at_call 34; refine (made_ok (HT.out.below B0.out)).mono ?_; rintro e w' ⟨rfl, rfl⟩) | (go_at_call 64; refine HF.out.mono ?_; rintro e w1 ⟨rfl, hcs, hb1⟩; obtain ⟨k0, k3⟩ := LAY1.out w1 hb1; rw [e0] at hcs; have HW1 := keep (HOW.out w1 hb1 hcs); clear hcs hb1) | (refine (HW1.out _).mono ?_; rintro e w2 ⟨r, rfl, p0, p6, ⟨ao2, len2, cap2, p3, hll⟩, HTELL⟩))
  have hnd : decide (s.limit < len2) = false := by simp; omega
  have hndI : ¬ ((s.limit : Int) < (len2 : Int)) := by omega
  go_quiet (fail)
  go_wp2_with (first | (go_at_call 73; refine (HTELL.out _).mono ?_; rintro e w3 ⟨ref, rfl, u1, u2, u3, u4, HTOLD⟩))
  refine leaves_cons (f := 71) (args := #[.pointer (some ⟨w.heap.size, 0, none⟩), .pointer (some ⟨w1.heap.size, 0, none⟩), .pointer (some ⟨w.heap.size + 1, 0, none⟩), .pointer (some ⟨w.heap.size + 1 + 1, 0, none⟩)]) (by simp) (by simp [go_sem]) ?_
  refine (ans_idle _ _ _ _ _).mono ?_
  rintro e u' w'' ⟨rfl, rfl, rfl⟩
  refine ⟨.tuple #[i6 ref, .int .i64 0], ?_, ref, rfl, HTOLD.out⟩
  simp [results, Try.results45, go_sem, u1, u3]
end Go.Proofs.Ytnkipdlfpnmgeaa
namespace Go.Proofs.Ytnkipdlfpnmgeaa
namespace Cu

/-- The word whose bit i (i < n) is p i. -/
def word (p : Nat → Bool) : Nat → Nat
  | 0 => 0
  | n + 1 => word p n ||| (if p n then 2 ^ n else 0)

theorem testBit_word (p : Nat → Bool) (n i : Nat) : (word p n).testBit i = (decide (i < n) && p i) := by
  induction n with
  | zero => simp [word]
  | succ n ih =>
    rw [word, Nat.testBit_or, ih]
    by_cases hp : p n
    · rw [if_pos hp, Nat.testBit_two_pow]
      by_cases e : n = i
      · subst e; simp [hp]
      · have : (i < n + 1) ↔ i < n := by omega
        simp [e, this]
    · rw [if_neg hp]
      by_cases e : i = n
      · subst e; simp [hp]
      · have : (i < n + 1) ↔ i < n := by omega
        simp [this]

theorem word_lt (p : Nat → Bool) (n : Nat) : word p n < 2 ^ n := by
  refine Nat.lt_pow_two_of_testBit _ fun i hi => ?_
  rw [testBit_word]
  simp; omega

theorem word_eq {p : Nat → Bool} {x : Nat} (n : Nat) (hx : x < 2 ^ n) (h : ∀ i, i < n → x.testBit i = p i) : x = word p n := by
  refine Nat.eq_of_testBit_eq fun i => ?_
  rw [testBit_word]
  by_cases hi : i < n
  · simp [hi, h i hi]
  · have : x.testBit i = false := Nat.testBit_lt_two_pow (Nat.lt_of_lt_of_le hx (Nat.pow_le_pow_right (by omega) (by omega)))
    simp [hi, this]

/-- Word k of a set of places. -/
def wd (p : Nat → Bool) (k : Nat) : Nat := word (fun i => p (64 * k + i)) 64
theorem wd_lt (p : Nat → Bool) (k : Nat) : wd p k < 18446744073709551616 := word_lt _ 64
theorem testBit_wd (p : Nat → Bool) (k i : Nat) : (wd p k).testBit i = (decide (i < 64) && p (64 * k + i)) := testBit_word _ _ _
theorem wd_eq {p : Nat → Bool} {x k : Nat} (hx : x < 18446744073709551616) (h : ∀ i, i < 64 → x.testBit i = p (64 * k + i)) : x = wd p k :=
  word_eq 64 hx h
theorem wd_congr {p q : Nat → Bool} {k : Nat} (h : ∀ i, i < 64 → p (64 * k + i) = q (64 * k + i)) : wd p k = wd q k :=
  wd_eq (wd_lt _ _) fun i hi => by rw [testBit_wd]; simp [hi, h i hi]

theorem or_lt {a b : Nat} (ha : a < 18446744073709551616) (hb : b < 18446744073709551616) : a ||| b < 18446744073709551616 := Nat.or_lt_two_pow (n := 64) ha hb
theorem and_lt {a b : Nat} (ha : a < 18446744073709551616) : a &&& b < 18446744073709551616 := Nat.lt_of_le_of_lt Nat.and_le_left ha
theorem xor_lt {a b : Nat} (ha : a < 18446744073709551616) (hb : b < 18446744073709551616) : a ^^^ b < 18446744073709551616 := Nat.xor_lt_two_pow (n := 64) ha hb
theorem pow_lt {i : Nat} (hi : i < 64) : 2 ^ i < 18446744073709551616 := Nat.pow_lt_pow_right (a := 2) (by omega) hi

/-- Is the place fixed? is it 1? (behind the end: free) -/
def fixAt (l : List UInt8) (i : Nat) : Bool := l[i]? == some 48 || l[i]? == some 49
def oneAt (l : List UInt8) (i : Nat) : Bool := l[i]? == some 49

/-- A byte of a cube; a cube. -/
def sym (c : UInt8) : Bool := c == 48 || c == 49 || c == 120
def right (l : List UInt8) : Bool := l.all sym && decide (1 ≤ l.length) && decide (l.length ≤ 128)

/-- Two words, bit by bit: is the and of them nought? -/
theorem and_ne_zero {x y : Nat} : (x &&& y = 0) ↔ ∀ i, (x.testBit i && y.testBit i) = false := by
  constructor
  · intro h i
    have := congrArg (fun z => z.testBit i) h
    simpa [Nat.testBit_and] using this
  · intro h
    refine Nat.eq_of_testBit_eq fun i => ?_
    rw [Nat.testBit_and, h i]; simp

/-- One bit more of a word. -/
def updw (p : Nat → Bool) (j : Nat) : Nat → Bool := fun i => p i || decide (i = j)
theorem wd_upd_same (p : Nat → Bool) (j : Nat) : wd p (j / 64) ||| 2 ^ (j % 64) = wd (updw p j) (j / 64) := by
  refine wd_eq (or_lt (wd_lt _ _) (pow_lt (by omega))) fun i hi => ?_
  rw [Nat.testBit_or, testBit_wd, Nat.testBit_two_pow]
  simp only [hi, updw, decide_true, Bool.true_and]
  congr 1
  apply decide_eq_decide.2
  omega
theorem wd_upd_other (p : Nat → Bool) (j k : Nat) (h : k ≠ j / 64) : wd (updw p j) k = wd p k := by
  refine wd_congr fun i hi => ?_
  have : ¬ (64 * k + i = j) := by omega
  simp [updw, this]

/-- One bit more, if that is said. -/
def setOne (q : Nat → Bool) (j : Nat) (one : Bool) : Nat → Bool := fun i => q i || (one && decide (i = j))

theorem get_snoc (l : List UInt8) (c : UInt8) (i : Nat) : (l ++ [c])[i]? = if i = l.length then some c else l[i]? := by
  by_cases h : i < l.length
  · rw [List.getElem?_append_left h, if_neg (by omega)]
  · rw [List.getElem?_append_right (by omega)]
    by_cases e : i = l.length
    · subst e; simp
    · rw [if_neg e, List.getElem?_eq_none (by simp; omega), List.getElem?_eq_none (by omega)]

theorem fixAt_end (l : List UInt8) : fixAt l l.length = false := by simp [fixAt]
theorem oneAt_end (l : List UInt8) : oneAt l l.length = false := by simp [oneAt]
theorem fixAt_snoc (l : List UInt8) (c : UInt8) (h : c = 48 ∨ c = 49) : fixAt (l ++ [c]) = updw (fixAt l) l.length := by
  funext i
  simp only [fixAt, updw, get_snoc]
  by_cases e : i = l.length
  · rw [if_pos e]; rcases h with rfl | rfl <;> simp [e]
  · rw [if_neg e]; simp [e]
theorem oneAt_snoc (l : List UInt8) (c : UInt8) : oneAt (l ++ [c]) = setOne (oneAt l) l.length (c == 49) := by
  funext i
  simp only [oneAt, setOne, get_snoc]
  by_cases e : i = l.length
  · rw [if_pos e]; simp [e]
  · rw [if_neg e]; simp [e]
theorem fixAt_snoc_x (l : List UInt8) : fixAt (l ++ [120]) = fixAt l := by
  funext i
  simp only [fixAt, get_snoc]
  by_cases e : i = l.length
  · rw [if_pos e]; subst e; simp
  · rw [if_neg e]
theorem oneAt_snoc_x (l : List UInt8) : oneAt (l ++ [120]) = oneAt l := by
  rw [oneAt_snoc]; funext i; simp [setOne]
theorem sym_cases {c : UInt8} (h : sym c = true) : c = 48 ∨ c = 49 ∨ c = 120 := by
  simp only [sym, Bool.or_eq_true, beq_iff_eq] at h
  rcases h with (h | h) | h <;> simp [h]

/-- Do two cubes meet? what they have in common; does the one lie inside the other? -/
def meetsB (a b : List UInt8) : Bool := (List.zip a b).all fun x => x.1 == x.2 || x.1 == 120 || x.2 == 120
def meetL (a b : List UInt8) : List UInt8 := List.zipWith (fun x y => if x == 120 then y else x) a b
def insideB (a b : List UInt8) : Bool := (List.zip a b).all fun x => x.1 == x.2 || x.2 == 120

theorem zip_all {a b : List UInt8} (h : a.length = b.length) (f : UInt8 × UInt8 → Bool) : (List.zip a b).all f = true ↔ ∀ i (hi : i < a.length), f (a[i], b[i]'(h ▸ hi)) = true := by
  rw [List.all_eq_true]
  constructor
  · intro H i hi
    refine H _ ?_
    have hz : i < (List.zip a b).length := by simp [← h, hi]
    have := List.getElem_mem hz
    simpa using this
  · intro H x hx
    obtain ⟨i, hi, rfl⟩ := List.getElem_of_mem hx
    have hi' : i < a.length := by simp at hi; omega
    simpa using H i hi'

theorem right_all {l : List UInt8} (h : right l = true) : l.all sym = true ∧ 1 ≤ l.length ∧ l.length ≤ 128 := by
  simp only [right, Bool.and_eq_true, decide_eq_true_eq] at h
  exact ⟨h.1.1, h.1.2, h.2⟩
theorem sym_at {l : List UInt8} (h : l.all sym = true) (i : Nat) (hi : i < l.length) : l[i] = 48 ∨ l[i] = 49 ∨ l[i] = 120 :=
  sym_cases (List.all_eq_true.1 h _ (List.getElem_mem hi))

theorem fixAt_lt {l : List UInt8} {i : Nat} (hi : i < l.length) : fixAt l i = (l[i] == 48 || l[i] == 49) := by
  simp [fixAt, List.getElem?_eq_getElem hi]
theorem oneAt_lt {l : List UInt8} {i : Nat} (hi : i < l.length) : oneAt l i = (l[i] == 49) := by
  simp [oneAt, List.getElem?_eq_getElem hi]
theorem fixAt_ge {l : List UInt8} {i : Nat} (hi : l.length ≤ i) : fixAt l i = false := by
  simp [fixAt, List.getElem?_eq_none hi]
theorem oneAt_ge {l : List UInt8} {i : Nat} (hi : l.length ≤ i) : oneAt l i = false := by
  simp [oneAt, List.getElem?_eq_none hi]

/-- Two cubes part at place i. -/
def partAt (a b : List UInt8) (i : Nat) : Bool := (oneAt a i != oneAt b i) && fixAt a i && fixAt b i
theorem meetsB_iff {a b : List UInt8} (ha : a.all sym = true) (hb : b.all sym = true) (h : a.length = b.length) : meetsB a b = true ↔ ∀ i, partAt a b i = false := by
  unfold meetsB
  rw [zip_all h]
  constructor
  · intro H i
    by_cases hi : i < a.length
    · have h1 := H i hi
      have hi' : i < b.length := h ▸ hi
      unfold partAt
      rw [fixAt_lt hi, fixAt_lt hi', oneAt_lt hi, oneAt_lt hi']
      rcases sym_at ha i hi with e | e | e <;> rcases sym_at hb i hi' with f | f | f <;> simp [e, f] at h1 ⊢
    · unfold partAt; rw [fixAt_ge (by omega)]; simp
  · intro H i hi
    have h1 := H i
    have hi' : i < b.length := h ▸ hi
    unfold partAt at h1
    rw [fixAt_lt hi, fixAt_lt hi', oneAt_lt hi, oneAt_lt hi'] at h1
    rcases sym_at ha i hi with e | e | e <;> rcases sym_at hb i hi' with f | f | f <;> simp [e, f] at h1 ⊢

/-- The one lies outside of the other at place i. -/
def outAt (a b : List UInt8) (i : Nat) : Bool := fixAt b i && (!fixAt a i || (oneAt a i != oneAt b i))
theorem insideB_iff {a b : List UInt8} (ha : a.all sym = true) (hb : b.all sym = true) (h : a.length = b.length) : insideB a b = true ↔ ∀ i, outAt a b i = false := by
  unfold insideB
  rw [zip_all h]
  constructor
  · intro H i
    by_cases hi : i < a.length
    · have h1 := H i hi
      have hi' : i < b.length := h ▸ hi
      unfold outAt
      rw [fixAt_lt hi, fixAt_lt hi', oneAt_lt hi, oneAt_lt hi']
      rcases sym_at ha i hi with e | e | e <;> rcases sym_at hb i hi' with f | f | f <;> simp [e, f] at h1 ⊢
    · unfold outAt; rw [fixAt_ge (l := b) (by omega)]; simp
  · intro H i hi
    have h1 := H i
    have hi' : i < b.length := h ▸ hi
    unfold outAt at h1
    rw [fixAt_lt hi, fixAt_lt hi', oneAt_lt hi, oneAt_lt hi'] at h1
    rcases sym_at ha i hi with e | e | e <;> rcases sym_at hb i hi' with f | f | f <;> simp [e, f] at h1 ⊢

theorem meetL_length {a b : List UInt8} (h : a.length = b.length) : (meetL a b).length = a.length := by simp [meetL, h]
theorem meetL_at {a b : List UInt8} (h : a.length = b.length) (i : Nat) (hi : i < a.length) : (meetL a b)[i]'(by rw [meetL_length h]; exact hi) = if a[i] == 120 then b[i]'(h ▸ hi) else a[i] := by
  simp [meetL]
theorem meetL_sym {a b : List UInt8} (ha : a.all sym = true) (hb : b.all sym = true) (h : a.length = b.length) : (meetL a b).all sym = true := by
  rw [List.all_eq_true]
  intro x hx
  obtain ⟨i, hi, rfl⟩ := List.getElem_of_mem hx
  have hi' : i < a.length := by rw [meetL_length h] at hi; exact hi
  rw [meetL_at h i hi']
  split
  · exact List.all_eq_true.1 hb _ (List.getElem_mem _)
  · exact List.all_eq_true.1 ha _ (List.getElem_mem _)
theorem meetL_right {a b : List UInt8} (ha : right a = true) (hb : right b = true) (h : a.length = b.length) : right (meetL a b) = true := by
  obtain ⟨h1, h2, h3⟩ := right_all ha
  obtain ⟨k1, _, _⟩ := right_all hb
  simp only [right, Bool.and_eq_true, decide_eq_true_eq]
  exact ⟨⟨meetL_sym h1 k1 h, by rw [meetL_length h]; exact h2⟩, by rw [meetL_length h]; exact h3⟩
theorem fixAt_meetL {a b : List UInt8} (ha : a.all sym = true) (hb : b.all sym = true) (h : a.length = b.length) (i : Nat) : fixAt (meetL a b) i = (fixAt a i || fixAt b i) := by
  by_cases hi : i < a.length
  · have hi' : i < b.length := h ▸ hi
    rw [fixAt_lt (by rw [meetL_length h]; exact hi), fixAt_lt hi, fixAt_lt hi', meetL_at h i hi]
    rcases sym_at ha i hi with e | e | e <;> rcases sym_at hb i hi' with f | f | f <;> simp [e, f]
  · rw [fixAt_ge (by rw [meetL_length h]; omega), fixAt_ge (by omega), fixAt_ge (l := b) (by omega)]; rfl
theorem oneAt_meetL {a b : List UInt8} (ha : a.all sym = true) (hb : b.all sym = true) (h : a.length = b.length) (hm : meetsB a b = true) (i : Nat) : oneAt (meetL a b) i = (oneAt a i || oneAt b i) := by
  by_cases hi : i < a.length
  · have hi' : i < b.length := h ▸ hi
    have hp := (meetsB_iff ha hb h).1 hm i
    unfold partAt at hp
    rw [fixAt_lt hi, fixAt_lt hi', oneAt_lt hi, oneAt_lt hi'] at hp
    rw [oneAt_lt (by rw [meetL_length h]; exact hi), oneAt_lt hi, oneAt_lt hi', meetL_at h i hi]
    rcases sym_at ha i hi with e | e | e <;> rcases sym_at hb i hi' with f | f | f <;> simp [e, f] at hp ⊢
  · rw [oneAt_ge (by rw [meetL_length h]; omega), oneAt_ge (by omega), oneAt_ge (l := b) (by omega)]; rfl

end Cu
end Go.Proofs.Ytnkipdlfpnmgeaa
namespace Go.Proofs.Ytnkipdlfpnmgeaa
open Go.RowKit

theorem has_bit (x j : Nat) (hx : x < 18446744073709551616) : (bits .and .u64 ((x : Int) / 2 ^ j) 1 == 1) = x.testBit j := by
  have e : ((x : Int) / 2 ^ j) = ((x / 2 ^ j : Nat) : Int) := by simp
  rw [e]
  have := u64_and_nat (x / 2 ^ j) 1 (Nat.lt_of_le_of_lt (Nat.div_le_self _ _) hx) (by omega)
  rw [show (1 : Int) = ((1 : Nat) : Int) from rfl, this, nat_mask1, Nat.testBit_eq_decide_div_mod_eq]
  rw [Bool.eq_iff_iff]
  simp only [beq_iff_eq, decide_eq_true_eq]
  omega

/-- A set of places as a value; a ternary as a value. -/
def pl (p : Nat → Bool) : Value := .agg #[.int .u64 (Cu.wd p 0 : Int), .int .u64 (Cu.wd p 1 : Int)]
def c4 (p q : Nat → Bool) : Array Value := #[.int .u64 (Cu.wd p 0 : Int), .int .u64 (Cu.wd p 1 : Int), .int .u64 (Cu.wd q 0 : Int), .int .u64 (Cu.wd q 1 : Int)]

theorem or_bit (x j : Nat) (hx : x < 18446744073709551616) (hj : j < 64) : bits .or .u64 (x : Int) (IntKind.u64.wrap (2 ^ j)) = ((x ||| 2 ^ j : Nat) : Int) := by
  have e : IntKind.u64.wrap (2 ^ j) = ((2 ^ j : Nat) : Int) := by
    have := Cu.pow_lt hj
    rw [IntKind.wrap_u64, show ((2 : Int) ^ j) = ((2 ^ j : Nat) : Int) from by simp]
    generalize 2 ^ j = y at *
    omega
  rw [e, u64_or_nat _ _ hx (Cu.pow_lt hj)]

set_option maxHeartbeats 400000 in
theorem add_lo (x i b o : Nat) (w : World) (hi : i < 64) (hx : x < 18446744073709551616) (hc : w.cell? ⟨b, o, none⟩ = some (.int .u64 (x : Int))) (hf : w.frozen? ⟨b, o, none⟩ = false) :
    Calls Try.prog 100 #[.pointer (some ⟨b, o, none⟩), .int .i64 (i : Int)] w fun e w' =>
      e = .returned (.tuple #[]) ∧ w' = (w.setCell ⟨b, o, none⟩ (.int .u64 ((x ||| 2 ^ i : Nat) : Int))).drew := by
  have hq : ((i : Int) / 64) = 0 := by omega
  go_enter Try.func100, Try.ntmps100
  go_wp2
  go_region
  go_end0
  refine ⟨rfl, ?_⟩
  rw [Nat.mod_eq_of_lt hi, or_bit x i hx hi]

set_option maxHeartbeats 400000 in
theorem add_hi (x i b o : Nat) (w : World) (hi : ¬ i < 64) (h2 : i < 128) (hx : x < 18446744073709551616) (hc : w.cell? ⟨b, o + 1, none⟩ = some (.int .u64 (x : Int))) (hf : w.frozen? ⟨b, o + 1, none⟩ = false) :
    Calls Try.prog 100 #[.pointer (some ⟨b, o, none⟩), .int .i64 (i : Int)] w fun e w' =>
      e = .returned (.tuple #[]) ∧ w' = (w.setCell ⟨b, o + 1, none⟩ (.int .u64 ((x ||| 2 ^ (i - 64) : Nat) : Int))).drew := by
  have hq : ((i : Int) / 64) = 1 := by omega
  go_enter Try.func100, Try.ntmps100
  go_wp2
  go_region
  go_end0
  refine ⟨rfl, ?_⟩
  rw [show i % 64 = i - 64 from by omega, or_bit x (i - 64) hx (by omega)]

/-- A block of four cells: its cells, and that they may be written; the block behind a store. -/
theorem four_cell {w : World} {b : Nat} {c0 c1 c2 c3 : Value} {t : TypeId} (h : w.heap[b]? = some (.cells #[c0, c1, c2, c3] t (0, 0))) :
    w.cell? ⟨b, 0, none⟩ = some c0 ∧ w.cell? ⟨b, 1, none⟩ = some c1 ∧ w.cell? ⟨b, 2, none⟩ = some c2 ∧ w.cell? ⟨b, 3, none⟩ = some c3 := by
  simp [World.cell?, h]
theorem free_of {w : World} {b o : Nat} {cs : Array Value} {t : TypeId} (h : w.heap[b]? = some (.cells cs t (0, 0))) : w.frozen? ⟨b, o, none⟩ = false := by
  simp [World.frozen?, h]
theorem block_set {w : World} {b o : Nat} {cs : Array Value} {t : TypeId} (u : Value) (h : w.heap[b]? = some (.cells cs t (0, 0))) :
    (w.setCell ⟨b, o, none⟩ u).heap[b]? = some (.cells (cs.setIfInBounds o u) t (0, 0)) := by
  have hlt := lt_of_block h
  have h' : w.heap[b] = .cells cs t (0, 0) := by simpa [Array.getElem?_eq_getElem hlt] using h
  show (w.heap.modify b _)[b]? = _
  rw [Array.getElem?_eq_getElem (by simpa using hlt), Array.getElem_modify_self, h']
  rfl
theorem new_0 (w : World) (o : Obj) : (w.alloc o).heap[w.heap.size]? = some o := by
  show (w.heap.push o)[w.heap.size]? = _
  rw [Array.getElem?_push, if_pos rfl]
theorem new_1 (w : World) (o o' : Obj) : ((w.alloc o).alloc o').heap[w.heap.size + 1]? = some o' := by
  show ((w.heap.push o).push o')[w.heap.size + 1]? = _
  rw [Array.getElem?_push, if_pos (by simp)]
theorem new_old (w : World) (o : Obj) {k : Nat} {x : Obj} (h : w.heap[k]? = some x) : (w.alloc o).heap[k]? = some x := by
  have := lt_of_block h
  show (w.heap.push o)[k]? = _
  rw [Array.getElem?_push, if_neg (by omega), h]
theorem grown_set (w : World) (b o : Nat) (u : Value) : w.grownBy (w.setCell ⟨b, o, none⟩ u).drew (some b) :=
  ⟨rfl, rfl, rfl, by simp, fun k _ hne => Below.heap_setCell _ _ _ _ (fun e => hne (by simp [e]))⟩
theorem grown_trans {a b c : World} {r : Option Nat} (h : a.grownBy b r) (k : b.grownBy c r) : a.grownBy c r :=
  ⟨k.os.trans h.os, k.tape.trans h.tape, k.output.trans h.output, Nat.le_trans h.size k.size, fun i hi hne => (k.block i (Nat.lt_of_lt_of_le hi h.size) hne).trans (h.block i hi hne)⟩
theorem grown_of_below {a b : World} (r : Option Nat) (h : Below a.heap.size a b) : a.grownBy b r := ⟨h.os, h.tape, h.output, h.size, fun i hi _ => h.block i hi⟩
theorem grown_refl (a : World) (r : Option Nat) : a.grownBy a r := ⟨rfl, rfl, rfl, Nat.le_refl _, fun _ _ _ => rfl⟩

theorem add_fixed (p q : Nat → Bool) (i b : Nat) (w : World) (h2 : i < 128) (hb : w.heap[b]? = some (.cells (c4 p q) 152 (0, 0))) :
    Calls Try.prog 100 #[.pointer (some ⟨b, 0, none⟩), .int .i64 (i : Int)] w fun e w' =>
      e = .returned (.tuple #[]) ∧ w'.heap[b]? = some (.cells (c4 (Cu.updw p i) q) 152 (0, 0)) ∧ w.grownBy w' (some b) := by
  have hc := four_cell hb
  by_cases hi : i < 64
  · refine (add_lo _ i b 0 w hi (Cu.wd_lt _ _) hc.1 (free_of hb)).mono ?_
    rintro e w' ⟨rfl, rfl⟩
    refine ⟨rfl, ?_, grown_set _ _ _ _⟩
    show (w.setCell _ _).heap[b]? = _
    rw [block_set _ hb]
    have e0 := Cu.wd_upd_same p i
    have e1 := Cu.wd_upd_other p i 1 (by omega)
    rw [show i / 64 = 0 from by omega, Nat.mod_eq_of_lt hi] at e0
    simp [c4, e0, e1]
  · refine (add_hi _ i b 0 w hi h2 (Cu.wd_lt _ _) hc.2.1 (free_of hb)).mono ?_
    rintro e w' ⟨rfl, rfl⟩
    refine ⟨rfl, ?_, grown_set _ _ _ _⟩
    show (w.setCell _ _).heap[b]? = _
    rw [block_set _ hb]
    have e0 := Cu.wd_upd_same p i
    have e1 := Cu.wd_upd_other p i 0 (by omega)
    rw [show i / 64 = 1 from by omega, show i % 64 = i - 64 from by omega] at e0
    simp [c4, e0, e1]

theorem add_ones (p q : Nat → Bool) (i b : Nat) (w : World) (h2 : i < 128) (hb : w.heap[b]? = some (.cells (c4 p q) 152 (0, 0))) :
    Calls Try.prog 100 #[.pointer (some ⟨b, 2, none⟩), .int .i64 (i : Int)] w fun e w' =>
      e = .returned (.tuple #[]) ∧ w'.heap[b]? = some (.cells (c4 p (Cu.updw q i)) 152 (0, 0)) ∧ w.grownBy w' (some b) := by
  have hc := four_cell hb
  by_cases hi : i < 64
  · refine (add_lo _ i b 2 w hi (Cu.wd_lt _ _) hc.2.2.1 (free_of hb)).mono ?_
    rintro e w' ⟨rfl, rfl⟩
    refine ⟨rfl, ?_, grown_set _ _ _ _⟩
    show (w.setCell _ _).heap[b]? = _
    rw [block_set _ hb]
    have e0 := Cu.wd_upd_same q i
    have e1 := Cu.wd_upd_other q i 1 (by omega)
    rw [show i / 64 = 0 from by omega, Nat.mod_eq_of_lt hi] at e0
    simp [c4, e0, e1]
  · refine (add_hi _ i b 2 w hi h2 (Cu.wd_lt _ _) hc.2.2.2 (free_of hb)).mono ?_
    rintro e w' ⟨rfl, rfl⟩
    refine ⟨rfl, ?_, grown_set _ _ _ _⟩
    show (w.setCell _ _).heap[b]? = _
    rw [block_set _ hb]
    have e0 := Cu.wd_upd_same q i
    have e1 := Cu.wd_upd_other q i 0 (by omega)
    rw [show i / 64 = 1 from by omega, show i % 64 = i - 64 from by omega] at e0
    simp [c4, e0, e1]

set_option maxHeartbeats 400000 in
theorem fix_any (p q : Nat → Bool) (i b : Nat) (one : Bool) (w : World) (h2 : i < 128) (hb : w.heap[b]? = some (.cells (c4 p q) 152 (0, 0))) :
    Calls Try.prog 93 #[.pointer (some ⟨b, 0, none⟩), .int .i64 (i : Int), .bool one] w fun e w' =>
      e = .returned (.tuple #[]) ∧ w'.heap[b]? = some (.cells (c4 (Cu.updw p i) (Cu.setOne q i one)) 152 (0, 0)) ∧ w.grownBy w' (some b) := by
  have HB : Hid (w.heap[b]? = some (.cells (c4 p q) 152 (0, 0))) := hb
  clear hb
  cases one with
  | false =>
    have e : Cu.setOne q i false = q := by funext j; simp [Cu.setOne]
    rw [e]
    go_enter Try.func93, Try.ntmps93
    go_wp2_with fail
    refine (add_fixed p q i b w h2 HB.out).mono ?_
    rintro e w1 ⟨rfl, h1, g1⟩
    have H1 : Hid _ := h1
    clear h1
    go_wp2_with fail
    go_end0
    exact ⟨rfl, H1.out, g1⟩
  | true =>
    have e : Cu.setOne q i true = Cu.updw q i := by funext j; simp [Cu.setOne, Cu.updw]
    rw [e]
    go_enter Try.func93, Try.ntmps93
    go_wp2_with fail
    refine (add_fixed p q i b w h2 HB.out).mono ?_
    rintro e w1 ⟨rfl, h1, g1⟩
    have H1 : Hid _ := h1
    clear h1
    go_wp2_with fail
    refine (add_ones _ q i b w1 h2 H1.out).mono ?_
    rintro e w2 ⟨rfl, h2', g2⟩
    go_wp2_with fail
    go_end0
    exact ⟨rfl, h2', grown_trans g1 g2⟩
end Go.Proofs.Ytnkipdlfpnmgeaa
