/-
  And of two.
  fold of two: And, Or.
  Cube: of any text.
  Cube: the headers that a text fits.
  answer: a function of others, told.
  find: the nodes of refs.
  tell: the ref of a node, a new one if it has none.
-/
import Derived.Test.YtffngpdngjfcfaaWordsAnd
import Derived.LaidEqlPtr
namespace Go.Proofs.Ytffngpdngjfcfaa
open Go.RowKit Go.Maps
open Bd (Nd)

/-- What a call adds to the refs: none, or r, the next. -/
def Adds (s : St) (t : List Nat) (r : Nat) : Prop := t = [] ∨ (t.length = 1 ∧ r = s.first + s.roots.length)
theorem Adds.few {s : St} {t : List Nat} {r : Nat} (h : Adds s t r) : t.length ≤ 1 := by
  rcases h with h | h
  · rw [h]; simp
  · omega

/-- What tell leaves: the table with the ref told. -/
structure Tells (w : World) (y : Lay) (s : St) (w' : World) (r n : Nat) : Prop where
  ex : ∃ y' t, Tab w' y' { s with roots := s.roots ++ t } ∧ Moves noX w y w' y' ∧ ({ s with roots := s.roots ++ t } : St).node? r = some n ∧ Adds s t r

set_option maxHeartbeats 2000000 in
theorem tell_any {w : World} {y : Lay} {s : St} (hT : Tab w y s) (h2 : 2 ≤ s.first) (n : Nat) (hn : n < s.L.length + 2) (hsm : s.roots.length + 1 ≤ 1073741824) :
    Calls Try.prog 82 #[.pointer (some ⟨y.tb, 0, none⟩), i6 n] w fun e w' => ∃ r, e = .returned (i6 r) ∧ Tells w y s w' r n := by
  rcases Nat.lt_or_ge n 2 with hn2 | hn2
  · have hnI : (n : Int) < 2 := by omega
    have HR : Hid (Tells w y s w n n) := ⟨y, [], by rw [List.append_nil]; exact hT, Moves.refl _ _ _, by unfold St.node?; rw [if_pos hn2], Or.inl rfl⟩
    clear hT
    go_enter Try.func82, Try.ntmps82
    go_wp2
    go_ret
    exact ⟨n, rfl, HR.out⟩
  · have hnI : ¬ ((n : Int) < 2) := by omega
    have c2 := hT.cell2
    have hsl := hT.small
    obtain ⟨f, hf, hr⟩ := hT.refs
    obtain ⟨kl, hkl⟩ := key_int (a := n) (by omega)
    have hlook := MapOf.look hf kInt Try.underlying43 Try.underlying25 (zero_ref _) hkl
    by_cases hin : n ∈ s.roots
    · obtain ⟨i, hi, hx⟩ := List.getElem_of_mem hin
      have hx' : s.roots[i]? = some n := by rw [List.getElem?_eq_getElem hi, hx]
      have hfx : f (i6 n) = some ((s.first + i : Nat) : Int) := (hr n).1 i hx'
      rw [hfx] at hlook
      simp only [Option.getD_some, Option.isSome_some, i6] at hlook
      have HR : Hid (Tells w y s w (s.first + i) n) := ⟨y, [], by rw [List.append_nil]; exact hT, Moves.refl _ _ _, by
        unfold St.node?
        rw [if_neg (by omega), if_pos (by show s.first ≤ _; omega)]
        show (s.roots ++ [])[s.first + i - s.first]? = _
        rw [List.append_nil, Nat.add_sub_cancel_left]; exact hx', Or.inl rfl⟩
      obtain ⟨q, hq⟩ : ∃ q, q = s.first + i := ⟨_, rfl⟩
      rw [← hq] at hlook HR
      clear hT hf hr hfx hx hx' hin hkl hi hq
      go_enter Try.func82, Try.ntmps82
      go_wp2
      go_ret
      exact ⟨q, rfl, HR.out⟩
    · have hfx : f (i6 n) = none := (hr n).2 hin
      rw [hfx] at hlook
      simp only [Option.getD_none, Option.isSome_none, i6] at hlook
      obtain ⟨ao, cap, hrs⟩ := hT.roots_slice
      have c0 := hT.cell0
      have c1 := hT.cell1
      rw [hrs] at c1
      obtain ⟨i0, hi, hz0, hz1, hz2⟩ := info_parts Try.infoInt
      have HI := keep hi
      have HZ0 := keep hz0
      have HZ1 := keep hz1
      have HZ2 := keep hz2
      have hfs : (s.first : Int) ≤ 1099511627776 := by omega
      have hrl : (s.roots.length : Int) ≤ 1073741824 := by omega
      have HOWN : Hid (∀ o, (w.alloc o).drew.ownsRow 0 3 1 (.slice ao s.roots.length cap) s.roots.length (nums s.roots)) := by
        intro o
        have h := hT.roots
        rw [hrs] at h
        exact row_same (h.alloc o) fun _ _ => rfl
      have HT := keep hT
      have HF := keep hf
      have HRM := keep hr
      have HKL := keep hkl
      have HNIN := keep hin
      have HRS := keep hrs
      have HNL := keep hn
      obtain ⟨rl, hrl0⟩ : ∃ rl, rl = s.roots.length := ⟨_, rfl⟩
      have HRL := keep hrl0
      rw [← hrl0] at c1 HOWN hrl hsm
      have KT : Hid (∀ w1 o, (w.alloc o).drew.grownBy w1 (Value.slice ao rl cap).ownBlock → w1.cell? ⟨y.tb, 1, none⟩ = some (.slice ao rl cap) ∧ w1.frozen? ⟨y.tb, 1, none⟩ = false ∧ w1.cell? ⟨y.tb, 2, none⟩ = some (.map (some y.rm)) ∧
          ∀ v, MapOf Try.prog 3 25 (w1.setCell ⟨y.tb, 1, none⟩ v) y.rm rl f) := by
        intro w1 o hg
        have hlsb : (Value.slice ao rl cap).ownBlock = y.rs.ownBlock := by rw [hrs, hrl0]
        rw [hlsb] at hg
        have hap := hT.apart
        have ltb := hT.lt y.own_tb
        have lrm := hT.lt y.own_rm
        have g1 : w1.heap[y.tb]? = w.heap[y.tb]? := by
          rw [hg.block y.tb (by show y.tb < (w.alloc _).heap.size; simp; omega) (fun e => hap.2.2.2.1 e.symm)]
          exact heap_alloc_old w _ ltb
        have g2 : w1.heap[y.rm]? = w.heap[y.rm]? := by
          rw [hg.block y.rm (by show y.rm < (w.alloc _).heap.size; simp; omega) (fun e => hap.2.2.2.2.2.2.2.1 e.symm)]
          exact heap_alloc_old w _ lrm
        refine ⟨by rw [World.cell?_of_block g1]; exact c1, by rw [World.frozen?_of_block g1]; exact not_frozen hT.cells, by rw [World.cell?_of_block g1]; exact c2, fun v => ?_⟩
        rw [hrl0]
        exact hf.same ((set_other v hap.2.1).trans g2)
      clear hT hf hr hfx hin hkl hi hz0 hz1 hz2 hrs hrl0 hn hsl
      have hwf : (Lit.int .i64 ((s.first : Int) + (rl : Int))).wf = true := WalkArith.wf_i64 (by omega)
      go_enter Try.func82, Try.ntmps82
      go_wp2
      go_region
      go_wp2_with (first | (at_builtin; refine wpList_append_lies _ rfl (.tmp 36) (.tmp 38) 42 rfl 0 3 i0 (.int .i64 0) 1 8 Try.underlying42 HI.out HZ0.out HZ1.out HZ2.out rfl (by decide) (.slice ao rl cap) rl (nums s.roots) rfl (HOWN.out _) ⟨w.heap.size, 0, none⟩ 1 1 [.int .i64 n] rfl rfl (World.news_of_block (heap_alloc_new w _)) (by simp [Value.oneCell']) (by decide) (by unfold maxLen; omega) (by omega) (Nat.zero_le _) (w.heap.size + 1) (by simp) ?_; intro g1 cap1 w1 hown1 hgrow1 hat1 hlt1; obtain ⟨q1, qf, q2, qm⟩ := KT.out w1 _ hgrow1) | (at_mapUpdate; refine wpList_store_of _ rfl (.tmp 45) (.tmp 46) (.tmp 47) 43 rfl 3 25 kInt Try.underlying43 Try.underlying25 y.rm rl f rfl (qm _) (by unfold maxLen; omega) (.int .i64 n) ((s.first : Int) + (rl : Int)) kl rfl rfl HKL.out hwf ?_; intro w2 hput2 hgrow2) | go_in)
      go_ret
      refine ⟨s.first + rl, by simp, ?_⟩
      have e : ((s.first + rl : Nat) : Int) = (s.first : Int) + (rl : Int) := by omega
      rw [← e] at hput2
      have hlsb : (Value.slice ao rl cap).ownBlock = y.rs.ownBlock := by rw [HRS.out, HRL.out]
      rw [hlsb] at hgrow1 hat1
      have R := tell_tab HT.out HNIN.out hn2 HNL.out (by rw [← HRL.out]; exact hsm) (v := .slice (some ⟨g1, 0, none⟩) (rl + 1) cap1) (by rw [HRL.out]) (by have := hown1; rw [HRL.out] at this ⊢; exact this) hgrow1 hat1 HRM.out (by have := hput2; rw [HRL.out] at this; exact this) hgrow2
      refine ⟨_, [n], R.1, R.2, ?_, Or.inr ⟨rfl, by rw [HRL.out]⟩⟩
      unfold St.node?
      rw [if_neg (by omega), if_pos (by show s.first ≤ _; omega)]
      show (s.roots ++ [n])[s.first + rl - s.first]? = _
      rw [Nat.add_sub_cancel_left, HRL.out, List.getElem?_append_right (Nat.le_refl _)]
      simp
end Go.Proofs.Ytffngpdngjfcfaa
namespace Go.Proofs.Ytffngpdngjfcfaa
open Go.RowKit Go.Maps
open Bd (Nd)

/-- Refs one behind the other, as a call is handed them. -/
def RefsAt (w : World) (v : Value) (ls : List Nat) : Prop := ∃ ao cap, v = .slice ao ls.length cap ∧ ∀ (i r : Nat), ls[i]? = some r → ∃ b o, ao = some ⟨b, o, none⟩ ∧ b < w.heap.size ∧ w.cell? ⟨b, o + i, none⟩ = some (i6 r)
theorem RefsAt.below {w w' : World} {v : Value} {ls : List Nat} (h : RefsAt w v ls) (hb : Below w.heap.size w w') : RefsAt w' v ls := by
  obtain ⟨ao, cap, hv, hc⟩ := h
  refine ⟨ao, cap, hv, fun i r hi => ?_⟩
  obtain ⟨b, o, h1, h2, h3⟩ := hc i r hi
  exact ⟨b, o, h1, Nat.lt_of_lt_of_le h2 hb.size, by rw [hb.cell (by exact h2)]; exact h3⟩

def zeros (n : Nat) : Array Value := madeCells #[.int .i64 0] n
theorem zeros_size (n : Nat) : (zeros n).size = n := size_madeCells _ _
theorem run_zeros (n : Nat) (hn : n ≤ 1000000) (w : World) :
    (Instr.makeSlice 42 (.int .i64 (n : Int)) (.int .i64 (n : Int))).run Try.prog w = .ok (.slice (some ⟨w.heap.size, 0, none⟩) n n) (w.alloc (.cells (zeros n) 3)) := by
  obtain ⟨i, hi, hz0, hz1, hz2⟩ := info_parts Try.infoInt
  have := run_make (P := Try.prog) w 42 3 i (.int .i64 0) Try.underlying42 hi hz0 .i64 .i64 n n (by omega) (by omega) (by rw [hz2]; omega) (by omega)
  rw [this, hz1, Nat.mul_one]
  rfl

/-- The nodes of some refs. -/
def NodesOf (s : St) (ls ns : List Nat) : Prop := ns.length = ls.length ∧ ∀ (i : Nat) (r : Nat), ls[i]? = some r → ∃ m, ns[i]? = some m ∧ s.node? r = some m

set_option maxHeartbeats 4000000 in
theorem find_ok {w : World} {y : Lay} {s : St} (hT : Tab w y s) (h2 : 2 ≤ s.first) (v : Value) (ls ns : List Nat) (hR : RefsAt w v ls) (hn : ls.length ≤ 1000000) (hN : NodesOf s ls ns) :
    Calls Try.prog 77 #[.pointer (some ⟨y.tb, 0, none⟩), v] w fun e w' => e = .returned (.tuple #[.slice (some ⟨w.heap.size, 0, none⟩) ls.length ls.length, .bool true]) ∧
      (∃ cs, w'.heap[w.heap.size]? = some (.cells cs 3 (0, 0)) ∧ cs.size = ls.length ∧ ∀ (i m : Nat), ns[i]? = some m → cs[i]? = some (i6 m)) ∧ Below w.heap.size w w' := by
  obtain ⟨ao, cap, rfl, hc⟩ := hR
  have HC := keep hc
  have HN := keep hN
  have HT := keep hT
  have hsl := hT.small
  obtain ⟨n, hnn⟩ : ∃ n, n = ls.length := ⟨_, rfl⟩
  have HNN := keep hnn
  have ltb := hT.lt y.own_tb
  rw [← hnn] at hn ⊢
  clear hc hN hT hnn
  have hmk := run_zeros n hn
  go_enter Try.func77, Try.ntmps77
  go_wp2
  go_loopw [14] (fun i wr => ∃ k : Nat, k ≤ n ∧ i = .int .i64 k ∧ (∃ cs, wr.heap[w.heap.size]? = some (.cells cs 3 (0, 0)) ∧ cs.size = n ∧ ∀ (i m : Nat), i < k → ns[i]? = some m → cs[i]? = some (i6 m)) ∧ Below w.heap.size w wr) (fun i _ => n - (intOf i).toNat)
  case atStart => exact ⟨0, Nat.zero_le _, rfl, ⟨zeros n, heap_alloc_new w _, zeros_size n, fun i m h => absurd h (Nat.not_lt_zero i)⟩, (Below.refl _ _).alloc (Nat.le_refl _) _⟩
  case round =>
    obtain ⟨k, hk, rfl, ⟨cs, hcs, hsz, hup⟩, hB⟩ := hrel
    by_cases hlt : k < n
    · obtain ⟨r, hr⟩ : ∃ r, ls[k]? = some r := ⟨ls[k]'(by have := HNN.out; omega), List.getElem?_eq_getElem _⟩
      obtain ⟨b, o, rfl, hbl, hcr⟩ := HC.out k r hr
      obtain ⟨m, hm, hnode⟩ := HN.out.2 k r hr
      have hcr' : wr.cell? ⟨b, o + k, none⟩ = some (.int .i64 r) := by rw [hB.cell (by exact hbl)]; exact hcr
      have hkI : (k : Int) < (n : Int) := by omega
      have hnI : (n : Int) ≤ 1000000 := by omega
      have e0 : wr.cell? ⟨w.heap.size, k, none⟩ = some (cs.getD k undef) := by
        rw [cell_at hcs, Array.getElem?_eq_getElem (by omega)]
        simp [Array.getD, show k < cs.size by omega]
      have ez : wr.frozen? ⟨w.heap.size, k, none⟩ = false := not_frozen hcs
      have HSTEP : Hid (∀ w1, Below wr.heap.size wr w1 → ∃ cs', ((w1.setCell ⟨w.heap.size, k, none⟩ (i6 m)).heap[w.heap.size]? = some (.cells cs' 3 (0, 0)) ∧ cs'.size = n ∧ ∀ (i m : Nat), i < k + 1 → ns[i]? = some m → cs'[i]? = some (i6 m)) ∧ Below w.heap.size w (w1.setCell ⟨w.heap.size, k, none⟩ (i6 m))) := by
        intro w1 hb1
        have h1 : w1.heap[w.heap.size]? = _ := (hb1.block _ (block_lt hcs)).trans hcs
        refine ⟨cs.setIfInBounds k (i6 m), ⟨set_block (i6 m) h1, by simpa using hsz, ?_⟩, (hB.trans (hb1.mono hB.size)).setCell (Nat.le_refl _) _⟩
        intro i m' hi him
        rw [Array.getElem?_setIfInBounds]
        by_cases e : k = i
        · subst e
          rw [hm] at him
          cases him
          rw [if_pos rfl, if_pos (by omega)]
        · rw [if_neg e]
          exact hup i m' (by omega) him
      clear hcs hup hcr hr hm
      rcases Nat.lt_or_ge r 2 with hr2 | hr2
      · have hmr : m = r := by
          unfold St.node? at hnode
          rw [if_pos hr2] at hnode
          cases hnode
          rfl
        subst hmr
        have h01 : m = 0 ∨ m = 1 := by omega
        rcases h01 with rfl | rfl
        · go_wp2
          go_roundw
          case rel =>
            obtain ⟨cs', h1, h2⟩ := HSTEP.out wr (Below.refl _ _)
            exact ⟨k + 1, by omega, by go_num, ⟨cs', h1⟩, h2⟩
          case measure => simp [intOf]; omega
        · go_wp2
          go_roundw
          case rel =>
            obtain ⟨cs', h1, h2⟩ := HSTEP.out wr (Below.refl _ _)
            exact ⟨k + 1, by omega, by go_num, ⟨cs', h1⟩, h2⟩
          case measure => simp [intOf]; omega
      · have hge : s.first ≤ r := by
          unfold St.node? at hnode
          rw [if_neg (by omega)] at hnode
          rcases Nat.lt_or_ge r s.first with h | h
          · rw [if_neg (by omega)] at hnode; cases hnode
          · exact h
        obtain ⟨j, rfl⟩ : ∃ j, r = s.first + j := ⟨r - s.first, by omega⟩
        have hj : s.roots[j]? = some m := by
          unfold St.node? at hnode
          rw [if_neg (by omega), if_pos hge, Nat.add_sub_cancel_left] at hnode
          exact hnode
        have hjl := Bd.getElem?_lt hj
        obtain ⟨rg, rcap, hrs, _, hrgl⟩ := HT.out.roots.form (by omega)
        have hrl : (s.roots.length : Int) ≤ 1073741824 := by omega
        have hfs : (s.first : Int) ≤ 1099511627776 := by omega
        have hadd : ∀ j, (⟨rg, 0, none⟩ : Addr).add j = ⟨rg, j, none⟩ := by intro j; unfold Addr.add; split <;> simp_all
        have hcm := HT.out.roots.cells (g := rg) (by rw [hrs]; rfl) j (i6 m) (by unfold nums; rw [List.getElem?_map, hj]; rfl)
        rw [hadd] at hcm
        have q0 : wr.cell? ⟨y.tb, 0, none⟩ = some (.int .i64 s.first) := by rw [hB.cell (by exact ltb)]; exact HT.out.cell0
        have q1 : wr.cell? ⟨y.tb, 1, none⟩ = some (.slice (some ⟨rg, 0, none⟩) s.roots.length rcap) := by rw [hB.cell (by exact ltb), ← hrs]; exact HT.out.cell1
        have qm : wr.cell? ⟨rg, j, none⟩ = some (.int .i64 m) := by rw [hB.cell (by exact hrgl)]; exact hcm
        have ej : ((s.first + j : Nat) : Int) = (s.first : Int) + (j : Int) := by omega
        rw [ej] at hcr'
        have r0 : (((s.first : Int) + (j : Int)) == 0) = false := by rw [beq_eq_false_iff_ne]; omega
        have r1 : (((s.first : Int) + (j : Int)) == 1) = false := by rw [beq_eq_false_iff_ne]; omega
        have hjI : (j : Int) < (s.roots.length : Int) := by omega
        have hle : (s.first : Int) ≤ (s.first : Int) + (j : Int) := by omega
        clear hnode hge hj hjl hcm hrs hadd ej hr2
        obtain ⟨rl, hrl0⟩ : ∃ rl, rl = s.roots.length := ⟨_, rfl⟩
        rw [← hrl0] at q1 hjI hrl
        clear hrl0 hsl
        go_wp2
        go_quiet (fail)
        go_wp2
        go_region
        go_wp2
        go_roundw
        case rel =>
          obtain ⟨cs', h1, h2⟩ := HSTEP.out (wr.drewN nq).drew (belowN (Below.refl _ _) nq).drew
          exact ⟨k + 1, by omega, by go_num, ⟨cs', h1⟩, ⟨h2.os, h2.tape, h2.output, h2.size, h2.block⟩⟩
        case measure => simp [intOf]; omega
    · have hkn : k = n := by omega
      subst hkn
      have HR := keep (And.intro (⟨cs, hcs, hsz, fun i m him => hup i m (by have := Bd.getElem?_lt him; have := HN.out.1; have := HNN.out; omega) him⟩ : ∃ cs, wr.heap[w.heap.size]? = some (.cells cs 3 (0, 0)) ∧ cs.size = k ∧ ∀ (i m : Nat), ns[i]? = some m → cs[i]? = some (i6 m)) hB)
      clear hcs hup hB
      go_wp2
      go_ret2
      exact ⟨rfl, HR.out⟩
end Go.Proofs.Ytffngpdngjfcfaa
namespace Go.Proofs.Ytffngpdngjfcfaa
open Go.RowKit Go.Maps
open Bd (Nd)

theorem Try.infoTable : ∃ j, Try.prog.info? 51 = some j := Option.isSome_iff_exists.1 (by kernel_rfl)
theorem made_ok {w : World} {y : Lay} {s : St} (hT : Tab w y s) : Calls Try.prog 57 #[.pointer (some ⟨y.tb, 0, none⟩)] w fun e w' => e = .returned (.bool true) ∧ w' = w := by
  have c7 : w.cell? ⟨y.tb, 7, none⟩ = some (.pointer (some ⟨y.tb, 0, none⟩)) := by rw [cell_at hT.cells]; rfl
  obtain ⟨j, hj⟩ := Try.infoTable
  have hsame : (binOp .eql 23 (.pointer (some ⟨y.tb, 0, none⟩)) (.pointer (some ⟨y.tb, 0, none⟩))).run Try.prog w = .ok (.bool true) w := run_eql_ptr_same w _ Try.underlying23 hj
  clear hj
  go_enter Try.func57, Try.ntmps57
  go_wp2
  go_ret
  exact ⟨rfl, rfl⟩

theorem ans_idle (p q r s : Value) (w : World) :
    CallsD Try.prog 80 #[p, q, r, s] .returning w fun e u' w' => e = .returned (.tuple #[]) ∧ u' = .returning ∧ w' = w := by
  refine callsD_of_wpS Try.func80 rfl fun c₀ cs hu => ?_
  apply wpS_seq
  apply wpS_region
  simp [wpOpsS, go_sem, recoverD, hu, Try.ntmps80, Exit.thenS]
  refine wpS_cond (t := false) (by simp [Act.eval, Array.replicate]) ?_
  simp only [Bool.false_eq_true, if_false]
  refine wpS_of_wp (wp_skip ?_)
  cases c₀
  simp_all [bodyPostS, results, Try.results80]

/-- What a call that tells a ref leaves: f is the function that it stands for. -/
structure Told {bits M : Nat} (A : Bd.Fam bits M) (w : World) (y : Lay) (s : St) (w' : World) (r : Nat) (f : Bd.Fn) : Prop where
  ex : ∃ N t y' m, Tab w' y' { s with L := s.L ++ N, roots := s.roots ++ t } ∧ Bd.Within A (s.L ++ N) ∧ ({ s with L := s.L ++ N, roots := s.roots ++ t } : St).node? r = some m ∧ m < (s.L ++ N).length + 2 ∧ Bd.den (s.L ++ N) m = f ∧ Moves noX w y w' y' ∧ Adds s t r

/-- The nodes' slice, as how is handed it. -/
def NodesAt (w : World) (g : Nat) (ns : List Nat) : Prop := ∃ cs, w.heap[g]? = some (.cells cs 3 (0, 0)) ∧ cs.size = ns.length ∧ ∀ (i m : Nat), ns[i]? = some m → cs[i]? = some (i6 m)

/-- The blocks that answer lays. -/
structure AnsAt (w : World) (B : Nat) (p : Value) : Prop where
  b0 : w.heap[B]? = some (.cells #[p] 23 (0, 0))
  b1 : w.heap[B + 1]? = some (.cells #[.int .i64 0] 25 (0, 0))
  b2 : w.heap[B + 1 + 1]? = some (.cells #[.int .i64 0] 30 (0, 0))

theorem AnsAt.moves {w w' : World} {B : Nat} {p : Value} (h : AnsAt w B p) {y y' : Lay} (hm : Moves noX w y w' y') (hy : ∀ k, y.own k → k < B ∨ B + 3 ≤ k) : AnsAt w' B p := by
  have l0 := block_lt h.b0
  have l1 := block_lt h.b1
  have l2 := block_lt h.b2
  refine ⟨(hm.block _ l0 (fun ho => ?_) (fun h => h)).trans h.b0, (hm.block _ l1 (fun ho => ?_) (fun h => h)).trans h.b1, (hm.block _ l2 (fun ho => ?_) (fun h => h)).trans h.b2⟩
  · rcases hy _ ho with h | h <;> omega
  · rcases hy _ ho with h | h <;> omega
  · rcases hy _ ho with h | h <;> omega

/-- What follows how. -/
theorem ans_rest {M : Nat} {w : World} {y : Lay} {s : St} (A : Bd.Fam s.bits M) (hT : Tab w y s) (h2 : 2 ≤ s.first) (hsm : s.roots.length + 1 ≤ 1073741824) (hlim : s.bits * M ≤ s.limit) {W w2 : World} (hBW : Below w.heap.size w W) (hA : AnsAt W w.heap.size (.pointer (some ⟨y.tb, 0, none⟩))) {r : Nat} {f : Bd.Fn} (hG : Grew noX A W y s w2 r f) :
    w2.cell? ⟨w.heap.size, 0, none⟩ = some (.pointer (some ⟨y.tb, 0, none⟩)) ∧ w2.cell? ⟨y.tb, 6, none⟩ = some (.int .i64 s.limit) ∧ (∃ ao len cap, w2.cell? ⟨y.tb, 3, none⟩ = some (.slice ao len cap) ∧ len ≤ s.limit) ∧
    Hid (∀ n, Calls Try.prog 82 #[.pointer (some ⟨y.tb, 0, none⟩), i6 r] (w2.drewN n) fun e w3 => ∃ ref, e = .returned (i6 ref) ∧ w3.cell? ⟨w.heap.size + 1, 0, none⟩ = some (.int .i64 0) ∧ w3.frozen? ⟨w.heap.size + 1, 0, none⟩ = false ∧ w3.cell? ⟨w.heap.size + 1 + 1, 0, none⟩ = some (.int .i64 0) ∧ w3.frozen? ⟨w.heap.size + 1 + 1, 0, none⟩ = false ∧
      Hid (Told A w y s ((w3.setCell ⟨w.heap.size + 1, 0, none⟩ (i6 ref)).setCell ⟨w.heap.size + 1 + 1, 0, none⟩ (.int .i64 0)) ref f)) := by
  obtain ⟨N, y2, t2, wi2, hr2, d2, m2⟩ := hG.ex
  have hy : ∀ k, y.own k → k < w.heap.size ∨ w.heap.size + 3 ≤ k := fun k hk => Or.inl (hT.lt hk)
  have l2 := block_lt hA.b2
  have hA2 := hA.moves m2 hy
  have hy2 := own_between (_w0 := w) m2 (by omega) hy
  have hfew := wi2.few t2.okay
  have hmt := m2.tb
  refine ⟨by rw [cell_at hA2.b0]; rfl, ?_, ?_, ?_⟩
  · rw [← hmt, cell_at t2.cells]; rfl
  · obtain ⟨ao, cap, hls⟩ := t2.list_slice
    refine ⟨ao, (s.L ++ N).length, cap, ?_, by omega⟩
    rw [← hmt, t2.cell3, hls]
  · intro n
    have hbn : Below w2.heap.size w2 (w2.drewN n) := belowN (Below.refl _ _) n
    rw [← hmt]
    refine (tell_any (t2.below hbn) h2 r hr2 hsm).mono ?_
    rintro e w3 ⟨ref, rfl, ⟨y3, t, t3, m3, hnd, htl⟩⟩
    have hA3 : AnsAt w3 w.heap.size (.pointer (some ⟨y.tb, 0, none⟩)) := AnsAt.moves (w := w2.drewN n) ⟨hA2.b0, hA2.b1, hA2.b2⟩ m3 hy2
    have hy3 := own_between (_w0 := w) m3 (by show w.heap.size + 3 ≤ w2.heap.size; have := m2.size; omega) hy2
    refine ⟨ref, rfl, by rw [cell_at hA3.b1]; rfl, not_frozen hA3.b1, by rw [cell_at hA3.b2]; rfl, not_frozen hA3.b2, ?_⟩
    have hset : ∀ k, k ≠ w.heap.size + 1 → k ≠ w.heap.size + 1 + 1 → ((w3.setCell ⟨w.heap.size + 1, 0, none⟩ (i6 ref)).setCell ⟨w.heap.size + 1 + 1, 0, none⟩ (.int .i64 0)).heap[k]? = w3.heap[k]? := by
      intro k h1 h2
      rw [set_other _ (show k ≠ w.heap.size + 1 + 1 from h2), set_other _ (show k ≠ w.heap.size + 1 from h1)]
    have t4 := t3.same (w' := (w3.setCell ⟨w.heap.size + 1, 0, none⟩ (i6 ref)).setCell ⟨w.heap.size + 1 + 1, 0, none⟩ (.int .i64 0)) fun k hk => by
      rcases hy3 k hk with h | h
      · exact hset k (by omega) (by omega)
      · exact hset k (by omega) (by omega)
    refine ⟨N, t, y3, r, t4, wi2, hnd, hr2, d2, ?_, htl⟩
    have mA := ((moves_below (X := noX) y hBW).trans m2).trans ((moves_below (X := noX) y2 hbn).trans m3)
    refine ⟨mA.tb, mA.own, mA.os, mA.tape, mA.output, by have := mA.size; simpa using this, ?_⟩
    intro k hk hn hx
    rw [hset k (by omega) (by omega)]
    exact mA.block k hk hn hx

set_option maxHeartbeats 4000000 in
theorem answer_ok {M : Nat} {w : World} {y : Lay} {s : St} (A : Bd.Fam s.bits M) (hT : Tab w y s) (h2 : 2 ≤ s.first) (hsm : s.roots.length + 1 ≤ 1073741824) (hlim : s.bits * M ≤ s.limit) (v : Value) (ls ns : List Nat) (hR : RefsAt w v ls) (hn : ls.length ≤ 1000000) (hN : NodesOf s ls ns)
    (fh : FuncId) (hent : ∀ args w, (callFunc fh args).run Try.prog w = .ok (.enter fh args) w) (caps : Array Value) (f : Bd.Fn)
    (hhow : ∀ w1 g, Below w.heap.size w w1 → NodesAt w1 g ns → w.heap.size ≤ g → Calls Try.prog fh (#[.slice (some ⟨g, 0, none⟩) ls.length ls.length] ++ caps) w1 fun e w2 => ∃ r, e = .returned (i6 r) ∧ Grew noX A w1 y s w2 r f) :
    Calls Try.prog 45 #[.pointer (some ⟨y.tb, 0, none⟩), v, .func (.func fh) #[] caps] w fun e w' => ∃ r, e = .returned (.tuple #[i6 r, .int .i64 0]) ∧ Told A w y s w' r f := by
  have hmf : ∀ (fn : Fn) (first cap : Array Value) (w : World), (Instr.makeFunc fn first cap).run Try.prog w = .ok (.func fn first cap) w := fun _ _ _ _ => rfl
  have HT := keep hT
  have HR := keep hR
  have HN := keep hN
  have HH := keep hhow
  have ltb := hT.lt y.own_tb
  clear hT hR hN hhow
  go_enter_defers Try.func45, Try.ntmps45
  have B0 : Hid (Below w.heap.size w (((w.alloc (.cells #[.pointer (some ⟨y.tb, 0, none⟩)] 23)).alloc (.cells #[.int .i64 0] 25)).alloc (.cells #[.int .i64 0] 30))) :=
    (((Below.refl _ _).alloc (Nat.le_refl _) _).alloc (by simp) _).alloc (by simp <;> omega) _
  obtain ⟨lao, lcap, hls⟩ := HT.out.list_slice
  have A0 : Hid (AnsAt (((w.alloc (.cells #[.pointer (some ⟨y.tb, 0, none⟩)] 23)).alloc (.cells #[.int .i64 0] 25)).alloc (.cells #[.int .i64 0] 30)) w.heap.size (.pointer (some ⟨y.tb, 0, none⟩))) := by
    have e1 : (w.alloc (.cells #[.pointer (some ⟨y.tb, 0, none⟩)] 23)).heap.size = w.heap.size + 1 := by simp
    have e2 : ((w.alloc (.cells #[.pointer (some ⟨y.tb, 0, none⟩)] 23)).alloc (.cells #[.int .i64 0] 25)).heap.size = w.heap.size + 1 + 1 := by simp
    refine ⟨?_, ?_, ?_⟩
    · rw [heap_alloc_old _ _ (by omega), heap_alloc_old _ _ (by omega)]; exact heap_alloc_new w _
    · rw [heap_alloc_old _ _ (by omega), ← e1]; exact heap_alloc_new _ _
    · rw [← e2]; exact heap_alloc_new _ _
  have LAY1 : Hid (∀ w1, Below (((w.alloc (.cells #[.pointer (some ⟨y.tb, 0, none⟩)] 23)).alloc (.cells #[.int .i64 0] 25)).alloc (.cells #[.int .i64 0] 30)).heap.size (((w.alloc (.cells #[.pointer (some ⟨y.tb, 0, none⟩)] 23)).alloc (.cells #[.int .i64 0] 25)).alloc (.cells #[.int .i64 0] 30)) w1 →
      w1.cell? ⟨w.heap.size, 0, none⟩ = some (.pointer (some ⟨y.tb, 0, none⟩)) ∧ w1.cell? ⟨y.tb, 3, none⟩ = some (.slice lao s.L.length lcap)) := by
    intro w1 hb1
    refine ⟨?_, ?_⟩
    · rw [hb1.cell (by show w.heap.size < _; simp <;> omega), cell_at A0.out.b0]; rfl
    · have h := (HT.out.below B0.out).below hb1
      rw [h.cell3, hls]
  have HF := keep (find_ok (HT.out.below B0.out) h2 v ls ns (HR.out.below B0.out) hn HN.out)
  have e0 : (((w.alloc (.cells #[.pointer (some ⟨y.tb, 0, none⟩)] 23)).alloc (.cells #[.int .i64 0] 25)).alloc (.cells #[.int .i64 0] 30)).heap.size = w.heap.size + 1 + 1 + 1 := by simp
  have HOW : Hid (∀ w1, Below (((w.alloc (.cells #[.pointer (some ⟨y.tb, 0, none⟩)] 23)).alloc (.cells #[.int .i64 0] 25)).alloc (.cells #[.int .i64 0] 30)).heap.size (((w.alloc (.cells #[.pointer (some ⟨y.tb, 0, none⟩)] 23)).alloc (.cells #[.int .i64 0] 25)).alloc (.cells #[.int .i64 0] 30)) w1 →
      (∃ cs, w1.heap[w.heap.size + 1 + 1 + 1]? = some (.cells cs 3 (0, 0)) ∧ cs.size = ls.length ∧ ∀ (i m : Nat), ns[i]? = some m → cs[i]? = some (i6 m)) → ∀ o, Calls Try.prog fh (#[.slice (some ⟨w.heap.size + 1 + 1 + 1, 0, none⟩) ls.length ls.length] ++ caps) (w1.alloc o) fun e w2 => ∃ r, e = .returned (i6 r) ∧
        w2.cell? ⟨w.heap.size, 0, none⟩ = some (.pointer (some ⟨y.tb, 0, none⟩)) ∧ w2.cell? ⟨y.tb, 6, none⟩ = some (.int .i64 s.limit) ∧ (∃ ao len cap, w2.cell? ⟨y.tb, 3, none⟩ = some (.slice ao len cap) ∧ len ≤ s.limit) ∧
    Hid (∀ n, Calls Try.prog 82 #[.pointer (some ⟨y.tb, 0, none⟩), i6 r] (w2.drewN n) fun e w3 => ∃ ref, e = .returned (i6 ref) ∧ w3.cell? ⟨w.heap.size + 1, 0, none⟩ = some (.int .i64 0) ∧ w3.frozen? ⟨w.heap.size + 1, 0, none⟩ = false ∧ w3.cell? ⟨w.heap.size + 1 + 1, 0, none⟩ = some (.int .i64 0) ∧ w3.frozen? ⟨w.heap.size + 1 + 1, 0, none⟩ = false ∧
      Hid (Told A w y s ((w3.setCell ⟨w.heap.size + 1, 0, none⟩ (i6 ref)).setCell ⟨w.heap.size + 1 + 1, 0, none⟩ (.int .i64 0)) ref f))) := by
    intro w1 hb1 hcs o
    have hb01 : Below w.heap.size w w1 := B0.out.trans (hb1.mono B0.out.size)
    have hbo : Below w.heap.size w (w1.alloc o) := hb01.alloc hb01.size o
    obtain ⟨cs, c1, c2, c3⟩ := hcs
    have hold : ∀ k, k < w1.heap.size → (w1.alloc o).heap[k]? = w1.heap[k]? := fun k hk => heap_alloc_old w1 o hk
    have hAA : AnsAt (w1.alloc o) w.heap.size (.pointer (some ⟨y.tb, 0, none⟩)) := by
      have z := hb1.size
      rw [e0] at z
      refine ⟨?_, ?_, ?_⟩
      · rw [hold _ (by omega), hb1.block _ (by rw [e0]; omega)]; exact A0.out.b0
      · rw [hold _ (by omega), hb1.block _ (by rw [e0]; omega)]; exact A0.out.b1
      · rw [hold _ (by omega), hb1.block _ (by rw [e0]; omega)]; exact A0.out.b2
    refine (HH.out (w1.alloc o) (w.heap.size + 1 + 1 + 1) hbo ⟨cs, (hold _ (block_lt c1)).trans c1, by rw [c2, HN.out.1], c3⟩ (by omega)).mono ?_
    rintro e w2 ⟨r, rfl, hG⟩
    exact ⟨r, rfl, ans_rest A HT.out h2 hsm hlim hbo hAA hG⟩
  go_wp2_with (first | (go_at_call 57; refine (made_ok (HT.out.below B0.out)).mono ?_; rintro e w' ⟨rfl, rfl⟩) | (go_at_call 77; refine HF.out.mono ?_; rintro e w1 ⟨rfl, hcs, hb1⟩; obtain ⟨k0, k3⟩ := LAY1.out w1 hb1; rw [e0] at hcs; have HW1 := keep (HOW.out w1 hb1 hcs); clear hcs hb1) | (refine (HW1.out _).mono ?_; rintro e w2 ⟨r, rfl, p0, p6, ⟨ao2, len2, cap2, p3, hll⟩, HTELL⟩))
  have hnd : decide (s.limit < len2) = false := by simp; omega
  have hndI : ¬ ((s.limit : Int) < (len2 : Int)) := by omega
  go_quiet (fail)
  go_wp2_with (first | (go_at_call 82; refine (HTELL.out _).mono ?_; rintro e w3 ⟨ref, rfl, u1, u2, u3, u4, HTOLD⟩))
  refine leaves_cons (f := 80) (args := #[.pointer (some ⟨w.heap.size, 0, none⟩), .pointer (some ⟨w1.heap.size, 0, none⟩), .pointer (some ⟨w.heap.size + 1, 0, none⟩), .pointer (some ⟨w.heap.size + 1 + 1, 0, none⟩)]) (by simp) (by simp [go_sem]) ?_
  refine (ans_idle _ _ _ _ _).mono ?_
  rintro e u' w'' ⟨rfl, rfl, rfl⟩
  refine ⟨.tuple #[i6 ref, .int .i64 0], ?_, ref, rfl, HTOLD.out⟩
  simp [results, Try.results45, go_sem, u1, u3]
end Go.Proofs.Ytffngpdngjfcfaa
namespace Go.Proofs.Ytffngpdngjfcfaa
open Go.RowKit Go.Maps
open Bd (Nd)

set_option maxHeartbeats 4000000 in
theorem cube_how {M : Nat} {w : World} {y : Lay} {s : St} (A : Bd.Fam s.bits M) (hT : Tab w y s) (hW : Bd.Within A s.L) (hlim : s.bits * M ≤ s.limit) (B : Nat) (t : ByteArray) (h0 : w.heap[B]? = some (.cells #[.pointer (some ⟨y.tb, 0, none⟩)] 23 (0, 0))) (h1 : w.heap[B + 1]? = some (.cells #[.string t] 9 (0, 0)))
    (hy : ¬ y.own B ∧ ¬ y.own (B + 1)) (ht : t.size = s.bits) (hF : A.F 0 (suf t 0)) (nv : Value) :
    Calls Try.prog 59 #[nv, .pointer (some ⟨B, 0, none⟩), .pointer (some ⟨B + 1, 0, none⟩)] w fun e w' => ∃ r, e = .returned (i6 r) ∧ Grew noX A w y s w' r (suf t 0) := by
  have c0 : w.cell? ⟨B, 0, none⟩ = some (.pointer (some ⟨y.tb, 0, none⟩)) := by rw [cell_at h0]; rfl
  have c1 : w.cell? ⟨B + 1, 0, none⟩ = some (.string t) := by rw [cell_at h1]; rfl
  have c6 : w.cell? ⟨y.tb, 6, none⟩ = some (.int .i64 s.limit) := by rw [cell_at hT.cells]; rfl
  have hsl := hT.small
  have HC : Hid (Calls Try.prog 52 #[.pointer (some ⟨y.tb, 3, none⟩), .int .i64 s.limit] w.drew fun e w1 => e = .returned (.pointer (some ⟨w.heap.size + 1, 0, none⟩)) ∧ w1.cell? ⟨B, 0, none⟩ = some (.pointer (some ⟨y.tb, 0, none⟩)) ∧ w1.cell? ⟨B + 1, 0, none⟩ = some (.string t) ∧ w1.cell? ⟨y.tb, 6, none⟩ = some (.int .i64 s.limit) ∧
      Hid (Calls Try.prog 60 #[.pointer (some ⟨w.heap.size + 1, 0, none⟩), .string t] w1 fun e w2 => ∃ r, e = .returned (i6 r) ∧ w2.cell? ⟨B, 0, none⟩ = some (.pointer (some ⟨y.tb, 0, none⟩)) ∧ w2.cell? ⟨B + 1, 0, none⟩ = some (.string t) ∧ w2.cell? ⟨y.tb, 6, none⟩ = some (.int .i64 s.limit) ∧ Hid (Grew noX A w y s w2 r (suf t 0)))) := by
    refine (step_any w.drew y.tb s.limit).mono ?_
    rintro e w1 ⟨rfl, rfl⟩
    obtain ⟨s1, s2, s3⟩ := step_new w.drew y.tb s.limit
    have s3' : Below w.heap.size w _ := (Below.refl w.heap.size w).drew.trans s3
    have lB := block_lt h0
    have lB1 := block_lt h1
    have ltb := hT.lt y.own_tb
    refine ⟨rfl, by rw [s3'.cell (by exact lB)]; exact c0, by rw [s3'.cell (by exact lB1)]; exact c1, by rw [s3'.cell (by exact ltb)]; exact c6, ?_⟩
    have hT1 := hT.below s3'
    have hns : ¬ y.own (w.heap.size + 1) := fun ho => by have := hT.lt ho; omega
    refine (cube_any A hT1 hW (w.heap.size + 1) s.limit w.heap.size s1 hns hlim (by omega) t ht hF).mono ?_
    rintro e w2 ⟨r, rfl, hG⟩
    obtain ⟨N, y2, t2, wi2, hr2, d2, m2⟩ := hG.ex
    have z := s3'.size
    have b0 := m2.block B (by omega) hy.1 (fun h => h)
    have b1 := m2.block (B + 1) (by omega) hy.2 (fun h => h)
    refine ⟨r, rfl, ?_, ?_, ?_, N, y2, t2, wi2, hr2, d2, (moves_below y s3').trans m2⟩
    · rw [World.cell?_of_block b0, s3'.cell (by exact lB)]; exact c0
    · rw [World.cell?_of_block b1, s3'.cell (by exact lB1)]; exact c1
    · rw [← m2.tb, cell_at t2.cells]; rfl
  clear hT hW hlim h0 h1 hy ht hF
  go_enter Try.func59, Try.ntmps59
  go_wp2_with fail
  go_region_held3 (fun w' => w'.cell? ⟨B, 0, none⟩ = some (.pointer (some ⟨y.tb, 0, none⟩)) ∧ w'.cell? ⟨B + 1, 0, none⟩ = some (.string t) ∧ w'.cell? ⟨y.tb, 6, none⟩ = some (.int .i64 s.limit)) (first | (go_keep; done) | exact ⟨q1, q2, q3⟩ | exact ⟨p1, p2, p3⟩) (first | (go_at_call 60; refine HC2.out.mono ?_; rintro e w2 ⟨r, rfl, q1, q2, q3, HG⟩) | (go_at_call 52; refine HC.out.mono ?_; rintro e w1 ⟨rfl, p1, p2, p3, HC2⟩))
  go_wp2_with fail
  go_ret
  exact ⟨r, rfl, HG.out⟩
end Go.Proofs.Ytffngpdngjfcfaa
namespace Go.Proofs.Ytffngpdngjfcfaa
open Go.RowKit Go.Maps
open Bd (Nd)

theorem enter_Cube : ∀ args w, (callFunc 59 args).run Try.prog w = .ok (.enter 59 args) w := fun args w => by kernel_rfl

theorem box2 (w : World) (a b : Obj) : ((w.alloc a).alloc b).heap[w.heap.size]? = some a ∧ ((w.alloc a).alloc b).heap[w.heap.size + 1]? = some b ∧ Below w.heap.size w ((w.alloc a).alloc b) ∧ ((w.alloc a).alloc b).heap.size = w.heap.size + 2 := by
  have e : (w.alloc a).heap.size = w.heap.size + 1 := by simp
  refine ⟨?_, ?_, ((Below.refl _ _).alloc (Nat.le_refl _) _).alloc (by simp) _, by simp⟩
  · rw [heap_alloc_old _ _ (by omega)]; exact heap_alloc_new w _
  · rw [← e]; exact heap_alloc_new _ _

set_option maxHeartbeats 4000000 in
theorem Cube_ok {M : Nat} {w : World} {y : Lay} {s : St} (A : Bd.Fam s.bits M) (hT : Tab w y s) (hW : Bd.Within A s.L) (h2 : 2 ≤ s.first) (hsm : s.roots.length + 1 ≤ 1073741824) (hlim : s.bits * M ≤ s.limit) (t : ByteArray) (ht : t.size = s.bits) (hr : Cu.right t.data.toList = true) (hF : A.F 0 (suf t 0)) :
    Calls Try.prog 25 #[.pointer (some ⟨y.tb, 0, none⟩), .string t] w fun e w' => ∃ r, e = .returned (.tuple #[i6 r, .int .i64 0]) ∧ Told A w y s w' r (suf t 0) := by
  have hmf : ∀ (fn : Fn) (first cap : Array Value) (w : World), (Instr.makeFunc fn first cap).run Try.prog w = .ok (.func fn first cap) w := fun _ _ _ _ => rfl
  have ltb := hT.lt y.own_tb
  obtain ⟨x0, x1, xb, xs⟩ := box2 w (.cells #[.pointer (some ⟨y.tb, 0, none⟩)] 23) (.cells #[.string t] 9)
  have hTa := hT.below xb
  have hck := check_any t ((w.alloc (.cells #[.pointer (some ⟨y.tb, 0, none⟩)] 23)).alloc (.cells #[.string t] 9)).drew
  have e0 : chkE t = 0 := if_pos hr
  rw [e0] at hck
  have HCK : Hid (Calls Try.prog 58 #[.string t] ((w.alloc (.cells #[.pointer (some ⟨y.tb, 0, none⟩)] 23)).alloc (.cells #[.string t] 9)).drew fun e w1 => e = .returned (.int .i64 0) ∧ w1.cell? ⟨w.heap.size, 0, none⟩ = some (.pointer (some ⟨y.tb, 0, none⟩)) ∧ w1.cell? ⟨w.heap.size + 1, 0, none⟩ = some (.string t) ∧ w1.cell? ⟨y.tb, 5, none⟩ = some (.int .i64 s.bits) ∧
      Hid (Calls Try.prog 45 #[.pointer (some ⟨y.tb, 0, none⟩), .slice none 0 0, .func (.func 59) #[] #[.pointer (some ⟨w.heap.size, 0, none⟩), .pointer (some ⟨w.heap.size + 1, 0, none⟩)]] w1 fun e w' => ∃ r, e = .returned (.tuple #[i6 r, .int .i64 0]) ∧ Hid (Told A w y s w' r (suf t 0)))) := by
    refine hck.mono ?_
    rintro e w1 ⟨rfl, hb1⟩
    have hb1' : Below (w.heap.size + 2) ((w.alloc (.cells #[.pointer (some ⟨y.tb, 0, none⟩)] 23)).alloc (.cells #[.string t] 9)) w1 := by
      rw [← xs]; exact ⟨hb1.os, hb1.tape, hb1.output, hb1.size, hb1.block⟩
    have y0 : w1.heap[w.heap.size]? = _ := (hb1'.block _ (by omega)).trans x0
    have y1 : w1.heap[w.heap.size + 1]? = _ := (hb1'.block _ (by omega)).trans x1
    have hbw : Below w.heap.size w w1 := xb.trans (hb1'.mono (by omega))
    have hT1 := hT.below hbw
    refine ⟨rfl, by rw [cell_at y0]; rfl, by rw [cell_at y1]; rfl, by rw [cell_at hT1.cells]; rfl, ?_⟩
    refine (answer_ok A hT1 h2 hsm hlim (.slice none 0 0) [] [] ⟨none, 0, rfl, fun i r h => by simp at h⟩ (by simp) ⟨rfl, fun i r h => by simp at h⟩ 59 enter_Cube #[.pointer (some ⟨w.heap.size, 0, none⟩), .pointer (some ⟨w.heap.size + 1, 0, none⟩)] (suf t 0) ?_).mono ?_
    · intro w2 g hb2 _ _
      have hb2' : Below w1.heap.size w1 w2 := hb2
      have z1 := block_lt y0
      have z2 := block_lt y1
      exact cube_how A (hT1.below hb2') hW hlim w.heap.size t ((hb2'.block _ z1).trans y0) ((hb2'.block _ z2).trans y1) ⟨fun ho => by have := hT.lt ho; omega, fun ho => by have := hT.lt ho; omega⟩ ht hF _
    · rintro e w' ⟨r, rfl, ⟨N, tt, y', m, q1, q2, q3, q4, q5, q6, q7⟩⟩
      exact ⟨r, rfl, N, tt, y', m, q1, q2, q3, q4, q5, (moves_below y hbw).trans q6, q7⟩
  have c5 : ((w.alloc (.cells #[.pointer (some ⟨y.tb, 0, none⟩)] 23)).alloc (.cells #[.string t] 9)).cell? ⟨y.tb, 5, none⟩ = some (.int .i64 s.bits) := by rw [cell_at hTa.cells]; rfl
  have HTA := keep hTa
  have hne : ((t.size : Int) != (s.bits : Int)) = false := by rw [ht]; simp
  clear hT hW h2 hsm hlim hF hr hck hTa x0 x1 xb xs e0 ht
  go_enter Try.func25, Try.ntmps25
  go_wp2_with (first | (go_at_call 57; refine (made_ok HTA.out).mono ?_; rintro e w' ⟨rfl, rfl⟩))
  go_region_held3 (fun w' => w'.cell? ⟨w.heap.size, 0, none⟩ = some (.pointer (some ⟨y.tb, 0, none⟩)) ∧ w'.cell? ⟨w.heap.size + 1, 0, none⟩ = some (.string t) ∧ w'.cell? ⟨y.tb, 5, none⟩ = some (.int .i64 s.bits)) (first | (go_keep; done) | exact ⟨q1, q2, q3⟩) (first | (go_at_call 58; refine HCK.out.mono ?_; rintro e w1 ⟨rfl, q1, q2, q3, HANS⟩))
  go_wp2_with (first | (go_at_call 45; refine HANS.out.mono ?_; rintro e w' ⟨r, rfl, HT⟩))
  go_ret2
  exact ⟨r, rfl, HT.out⟩
end Go.Proofs.Ytffngpdngjfcfaa
namespace Go.Proofs.Ytffngpdngjfcfaa
open Go.RowKit Go.Maps
open Bd (Nd)

theorem step_any' (w : World) (tb : Nat) (room : Int) :
    Calls Try.prog 52 #[.pointer (some ⟨tb, 3, none⟩), .int .i64 room] w fun e w' => e = .returned (.pointer (some ⟨w.heap.size + 1, 0, none⟩)) ∧ w' = (w.alloc (.map #[] 0)).alloc (.cells #[.pointer (some ⟨tb, 3, none⟩), .int .i64 room, .map (some w.heap.size)] 142) := by
  have hmm := @run_makeMap Try.prog
  go_enter Try.func52, Try.ntmps52
  go_wp2
  go_ret
  exact ⟨rfl, rfl⟩

theorem and_join (w : World) (a b : Nat) : Calls Try.prog 50 #[i6 a, i6 b] w fun e w' => e = .returned (.agg #[i6 a, i6 b, i6 0]) ∧ Below w.heap.size w w' := by
  go_enter Try.func50, Try.ntmps50
  go_wp2
  refine bodyPost_ret (v := .agg #[i6 a, i6 b, i6 0]) (by simp [results, Try.results50, go_sem]) rfl ⟨rfl, (Below.refl _ _).alloc (Nat.le_refl _) _⟩

/-- What fold is handed to join with: three numbers for two. -/
structure Joins (fj : FuncId) (jn : Nat → Nat → Nat × Nat × Nat) : Prop where
  enter : ∀ args w, (callFunc fj args).run Try.prog w = .ok (.enter fj args) w
  calls : ∀ (w : World) (a b : Nat), Calls Try.prog fj #[i6 a, i6 b] w fun e w' => e = .returned (.agg #[i6 (jn a b).1, i6 (jn a b).2.1, i6 (jn a b).2.2]) ∧ Below w.heap.size w w'

theorem and_joins : Joins 50 (fun a b => (a, b, 0)) := ⟨fun args w => by kernel_rfl, fun w a b => and_join w a b⟩

/-- A step of fold, where its first number makes no node. -/
theorem fold_first {w : World} {y : Lay} {s : St} (_hT : Tab w y s) (fj : FuncId) (jn : Nat → Nat → Nat × Nat × Nat) (hJ : Joins fj jn) (e0 n0 : Nat) (room : Int)
    (hq : ∀ (W : World) (p : Value), Calls Try.prog 53 #[p, .agg #[i6 (jn e0 n0).1, i6 (jn e0 n0).2.1, i6 (jn e0 n0).2.2]] W fun e w' => e = .returned (i6 n0) ∧ Below W.heap.size W w') (W : World) (hB : Below w.heap.size w W) :
    Calls Try.prog 52 #[.pointer (some ⟨y.tb, 3, none⟩), .int .i64 room] W fun e w1 => ∃ p, e = .returned p ∧ Hid (Calls Try.prog fj #[i6 e0, i6 n0] w1 fun e w2 => ∃ v, e = .returned v ∧ Hid (Calls Try.prog 53 #[p, v] w2 fun e w3 => e = .returned (i6 n0) ∧ Below w.heap.size w w3)) := by
  refine (step_any' W y.tb room).mono ?_
  rintro e w1 ⟨rfl, rfl⟩
  refine ⟨_, rfl, ?_⟩
  have h1 : Below W.heap.size W ((W.alloc (.map #[] 0)).alloc (.cells #[.pointer (some ⟨y.tb, 3, none⟩), .int .i64 room, .map (some W.heap.size)] 142)) := ((Below.refl _ _).alloc (Nat.le_refl _) _).alloc (by simp) _
  refine (hJ.calls _ e0 n0).mono ?_
  rintro e w2 ⟨rfl, hb2⟩
  refine ⟨_, rfl, ?_⟩
  refine (hq w2 _).mono ?_
  rintro e w3 ⟨rfl, hb3⟩
  exact ⟨rfl, (hB.trans ((h1.trans (hb2.mono h1.size)).mono hB.size)).trans (hb3.mono (by have := hB.size; have := h1.size; have := hb2.size; omega))⟩

/-- A step of fold. -/
theorem fold_step {M : Nat} {w : World} {y : Lay} {s : St} (A : Bd.Fam s.bits M) (hT : Tab w y s) (hW : Bd.Within A s.L) (hbM : s.bits * M ≤ 1048576) (fj : FuncId) (jn : Nat → Nat → Nat × Nat × Nat) (hJ : Joins fj jn) (a b : Nat) (room : Nat) (hroom : s.bits * M ≤ room) (hr3 : room ≤ 1073741824)
    (h1 : (jn a b).1 < s.L.length + 2) (h2 : (jn a b).2.1 < s.L.length + 2) (h3 : (jn a b).2.2 < s.L.length + 2) (hF : A.F 0 (Bd.iteF (Bd.den s.L (jn a b).1) (Bd.den s.L (jn a b).2.1) (Bd.den s.L (jn a b).2.2))) (W : World) (hB : Below w.heap.size w W) :
    Calls Try.prog 52 #[.pointer (some ⟨y.tb, 3, none⟩), .int .i64 room] W fun e w1 => ∃ p, e = .returned p ∧ Hid (Calls Try.prog fj #[i6 a, i6 b] w1 fun e w2 => ∃ v, e = .returned v ∧ Hid (Calls Try.prog 53 #[p, v] w2 fun e w3 => ∃ r, e = .returned (i6 r) ∧
      Hid (Grew noX A w y s w3 r (Bd.iteF (Bd.den s.L (jn a b).1) (Bd.den s.L (jn a b).2.1) (Bd.den s.L (jn a b).2.2))))) := by
  refine (step_any' W y.tb room).mono ?_
  rintro e w1 ⟨rfl, rfl⟩
  refine ⟨_, rfl, ?_⟩
  obtain ⟨s1, s2, s3⟩ := step_new W y.tb room
  have hbw := hB.trans (s3.mono hB.size)
  refine (hJ.calls _ a b).mono ?_
  rintro e w2 ⟨rfl, hb2⟩
  refine ⟨_, rfl, ?_⟩
  have hb2' : Below W.heap.size W w2 := s3.trans (hb2.mono s3.size)
  have hbw2 : Below w.heap.size w w2 := hB.trans (hb2'.mono hB.size)
  have l1 := block_lt s1
  have l2 := s2.lt
  have hzW := hB.size
  have hns : ¬ y.own (W.heap.size + 1) := fun ho => by have := hT.lt ho; omega
  have hnk : ¬ y.own W.heap.size := fun ho => by have := hT.lt ho; omega
  refine (ite_all 128 s A w2 y (W.heap.size + 1) room W.heap.size 0 (fun _ => none) _ _ _ 0 (hT.below hbw2) hW ((hb2.block _ l1).trans s1) hns hnk hroom hr3 hbM (s2.same (hb2.block _ l2)) (known_none _) h1 h2 h3 (Nat.zero_le _) (Nat.zero_le _) (Nat.zero_le _) hF (by omega)).mono ?_
  rintro e w3 ⟨r, rfl, ⟨N, y3, t3, wi3, hr, d3, m3, _⟩⟩
  refine ⟨r, rfl, N, y3, t3, wi3, hr, d3, ?_⟩
  have z := hbw2.size
  have mA := (moves_below (X := fun k => k = W.heap.size) y hbw2).trans m3
  exact ⟨mA.tb, mA.own, mA.os, mA.tape, mA.output, mA.size, fun k hk hn _ => mA.block k hk hn (fun e => by omega)⟩

set_option maxRecDepth 3000 in
set_option maxHeartbeats 4000000 in
theorem fold_two {M : Nat} {w : World} {y : Lay} {s : St} (A : Bd.Fam s.bits M) (hT : Tab w y s) (hW : Bd.Within A s.L) (hlim : s.bits * M ≤ s.limit) (fj : FuncId) (jn : Nat → Nat → Nat × Nat × Nat) (hJ : Joins fj jn) (e0 n0 n1 g : Nat) (hNA : NodesAt w g [n0, n1])
    (hq : ∀ (W : World) (p : Value), Calls Try.prog 53 #[p, .agg #[i6 (jn e0 n0).1, i6 (jn e0 n0).2.1, i6 (jn e0 n0).2.2]] W fun e w' => e = .returned (i6 n0) ∧ Below W.heap.size W w')
    (h1 : (jn n0 n1).1 < s.L.length + 2) (h2 : (jn n0 n1).2.1 < s.L.length + 2) (h3 : (jn n0 n1).2.2 < s.L.length + 2) (hF : A.F 0 (Bd.iteF (Bd.den s.L (jn n0 n1).1) (Bd.den s.L (jn n0 n1).2.1) (Bd.den s.L (jn n0 n1).2.2))) :
    Calls Try.prog 47 #[.pointer (some ⟨y.tb, 0, none⟩), .slice (some ⟨g, 0, none⟩) 2 2, i6 e0, .func (.func fj) #[] #[]] w fun e w' => ∃ r, e = .returned (i6 r) ∧ Grew noX A w y s w' r (Bd.iteF (Bd.den s.L (jn n0 n1).1) (Bd.den s.L (jn n0 n1).2.1) (Bd.den s.L (jn n0 n1).2.2)) := by
  obtain ⟨cs, g0, gs, gc⟩ := hNA
  have k0 : w.cell? ⟨g, 0, none⟩ = some (.int .i64 n0) := by rw [cell_at g0]; exact gc 0 n0 rfl
  have k1 : w.cell? ⟨g, 1, none⟩ = some (.int .i64 n1) := by rw [cell_at g0]; exact gc 1 n1 rfl
  have lg := block_lt g0
  have ltb := hT.lt y.own_tb
  obtain ⟨ao, cap, hls⟩ := hT.list_slice
  have c3 := hT.cell3
  rw [hls] at c3
  have c6 : w.cell? ⟨y.tb, 6, none⟩ = some (.int .i64 s.limit) := by rw [cell_at hT.cells]; rfl
  have hsl := hT.small
  have HF1 := keep (fun (W : World) (hB : Below w.heap.size w W) (room : Int) => fold_first hT fj jn hJ e0 n0 room hq W hB)
  have HF2 := keep (fun (W : World) (hB : Below w.heap.size w W) => fold_step A hT hW (by omega) fj jn hJ n0 n1 s.limit hlim (by omega) h1 h2 h3 hF W hB)
  have hent := hJ.enter
  obtain ⟨f, hf⟩ : ∃ f, f = Bd.iteF (Bd.den s.L (jn n0 n1).1) (Bd.den s.L (jn n0 n1).2.1) (Bd.den s.L (jn n0 n1).2.2) := ⟨_, rfl⟩
  rw [← hf] at HF2 ⊢
  obtain ⟨len, hlen⟩ : ∃ len, len = s.L.length := ⟨_, rfl⟩
  rw [← hlen] at c3
  have hlen2 : len ≤ 1073741824 := by omega
  have eroom : (len : Int) + (s.limit : Int) - (len : Int) = (s.limit : Int) := by omega
  have HF2 : Hid (∀ W, Below w.heap.size w W → Calls Try.prog 52 #[.pointer (some ⟨y.tb, 3, none⟩), .int .i64 ((len : Int) + (s.limit : Int) - (len : Int))] W fun e w1 => ∃ p, e = .returned p ∧ Hid (Calls Try.prog fj #[i6 n0, i6 n1] w1 fun e w2 => ∃ v, e = .returned v ∧ Hid (Calls Try.prog 53 #[p, v] w2 fun e w3 => ∃ r, e = .returned (i6 r) ∧ Hid (Grew noX A w y s w3 r f)))) := by
    rw [eroom]; exact HF2.out
  clear eroom
  have hlimI : (s.limit : Int) ≤ 1048576 := by omega
  have hlenI : (len : Int) ≤ 1073741824 := by omega
  clear hT hW hlim hJ hq h1 h2 h3 hF g0 gs gc hls hsl hf hlen
  go_enter Try.func47, Try.ntmps47
  go_wp2_with fail
  go_loopw [2, 24] (fun u i wr => (i = .int .i64 0 ∧ u = .int .i64 e0 ∧ Below w.heap.size w wr) ∨ (i = .int .i64 1 ∧ u = .int .i64 n0 ∧ Below w.heap.size w wr) ∨ (i = .int .i64 2 ∧ ∃ r : Nat, u = .int .i64 r ∧ Hid (Grew noX A w y s wr r f))) (fun _ i _ => 2 - (intOf i).toNat)
  case atStart => exact Or.inl ⟨rfl, rfl, Below.refl _ _⟩
  case round =>
    rcases hrel with ⟨rfl, rfl, hB⟩ | ⟨rfl, rfl, hB⟩ | ⟨rfl, r, rfl, HG⟩
    · have j0 : wr.cell? ⟨g, 0, none⟩ = some (.int .i64 n0) := by rw [hB.cell (by exact lg)]; exact k0
      have j3 : wr.cell? ⟨y.tb, 3, none⟩ = some (.slice ao len cap) := by rw [hB.cell (by exact ltb)]; exact c3
      have HB := keep hB
      clear hB
      go_wp2_with fail
      go_quiet (fail)
      go_wp2_with fail
      refine (HF1.out _ (belowN HB.out _) _).mono ?_
      rintro e w1 ⟨p, rfl, HJ1⟩
      go_wp2_with fail
      refine HJ1.out.mono ?_
      rintro e w2 ⟨v, rfl, HI1⟩
      go_wp2_with fail
      refine HI1.out.mono ?_
      rintro e w3 ⟨rfl, hb3⟩
      go_wp2_with fail
      go_roundw
      case rel => exact Or.inr (Or.inl ⟨rfl, rfl, hb3⟩)
      case measure => simp [intOf]
    · have j1 : wr.cell? ⟨g, 1, none⟩ = some (.int .i64 n1) := by rw [hB.cell (by exact lg)]; exact k1
      have j3 : wr.cell? ⟨y.tb, 3, none⟩ = some (.slice ao len cap) := by rw [hB.cell (by exact ltb)]; exact c3
      have j6 : wr.cell? ⟨y.tb, 6, none⟩ = some (.int .i64 s.limit) := by rw [hB.cell (by exact ltb)]; exact c6
      have HB := keep hB
      clear hB
      go_wp2_with fail
      go_quiet (fail)
      go_wp2_with fail
      refine (HF2.out _ (belowN HB.out _)).mono ?_
      rintro e w1 ⟨p, rfl, HJ1⟩
      go_wp2_with fail
      refine HJ1.out.mono ?_
      rintro e w2 ⟨v, rfl, HI1⟩
      go_wp2_with fail
      refine HI1.out.mono ?_
      rintro e w3 ⟨r, rfl, HG⟩
      go_wp2_with fail
      go_roundw
      case rel => exact Or.inr (Or.inr ⟨rfl, r, rfl, HG⟩)
      case measure => simp [intOf]
    · go_wp2_with fail
      go_ret
      exact ⟨r, rfl, HG.out⟩
end Go.Proofs.Ytffngpdngjfcfaa
namespace Go.Proofs.Ytffngpdngjfcfaa
open Go.RowKit Go.Maps
open Bd (Nd)

theorem enter_And : ∀ args w, (callFunc 49 args).run Try.prog w = .ok (.enter 49 args) w := fun args w => by kernel_rfl

set_option maxHeartbeats 1000000 in
theorem and_how {M : Nat} {w : World} {y : Lay} {s : St} (A : Bd.Fam s.bits M) (hT : Tab w y s) (hW : Bd.Within A s.L) (hlim : s.bits * M ≤ s.limit) (B n0 n1 g : Nat) (h0 : w.heap[B]? = some (.cells #[.pointer (some ⟨y.tb, 0, none⟩)] 23 (0, 0))) (hNA : NodesAt w g [n0, n1])
    (h1 : n0 < s.L.length + 2) (h2 : n1 < s.L.length + 2) (hF : A.F 0 (Bd.iteF (Bd.den s.L n0) (Bd.den s.L n1) Bd.ff)) :
    Calls Try.prog 49 #[.slice (some ⟨g, 0, none⟩) 2 2, .pointer (some ⟨B, 0, none⟩)] w fun e w' => ∃ r, e = .returned (i6 r) ∧ Grew noX A w y s w' r (Bd.iteF (Bd.den s.L n0) (Bd.den s.L n1) Bd.ff) := by
  have c0 : w.cell? ⟨B, 0, none⟩ = some (.pointer (some ⟨y.tb, 0, none⟩)) := by rw [cell_at h0]; rfl
  have h := fold_two A hT hW hlim 50 (fun a b => (a, b, 0)) and_joins 1 n0 n1 g hNA (fun W p => ite_one W p n0 0) h1 h2 (by show 0 < _; omega) (by show A.F 0 (Bd.iteF (Bd.den s.L n0) (Bd.den s.L n1) (Bd.den s.L 0)); rw [Bd.den_zero]; exact hF)
  have e : Bd.iteF (Bd.den s.L ((fun a b => ((a, b, 0) : Nat × Nat × Nat)) n0 n1).1) (Bd.den s.L ((fun a b => ((a, b, 0) : Nat × Nat × Nat)) n0 n1).2.1) (Bd.den s.L ((fun a b => ((a, b, 0) : Nat × Nat × Nat)) n0 n1).2.2) = Bd.iteF (Bd.den s.L n0) (Bd.den s.L n1) Bd.ff := by
    show Bd.iteF (Bd.den s.L n0) (Bd.den s.L n1) (Bd.den s.L 0) = _
    rw [Bd.den_zero]
  rw [e] at h
  have HF := keep h
  clear h e hT hW hF hNA h0
  go_enter Try.func49, Try.ntmps49
  go_wp2_with fail
  refine HF.out.mono ?_
  rintro e w' ⟨r, rfl, hG⟩
  have HG := keep hG
  clear hG
  go_wp2_with fail
  go_ret
  exact ⟨r, rfl, HG.out⟩

set_option maxHeartbeats 1000000 in
theorem And_two {M : Nat} {w : World} {y : Lay} {s : St} (A : Bd.Fam s.bits M) (hT : Tab w y s) (hW : Bd.Within A s.L) (h2 : 2 ≤ s.first) (hsm : s.roots.length + 1 ≤ 1073741824) (hlim : s.bits * M ≤ s.limit) (v : Value) (r0 r1 n0 n1 : Nat) (hR : RefsAt w v [r0, r1]) (hn0 : s.node? r0 = some n0) (hn1 : s.node? r1 = some n1)
    (l0 : n0 < s.L.length + 2) (l1 : n1 < s.L.length + 2) (hF : A.F 0 (Bd.iteF (Bd.den s.L n0) (Bd.den s.L n1) Bd.ff)) :
    Calls Try.prog 21 #[.pointer (some ⟨y.tb, 0, none⟩), v] w fun e w' => ∃ r, e = .returned (.tuple #[i6 r, .int .i64 0]) ∧ Told A w y s w' r (Bd.iteF (Bd.den s.L n0) (Bd.den s.L n1) Bd.ff) := by
  have hmf : ∀ (fn : Fn) (first cap : Array Value) (w : World), (Instr.makeFunc fn first cap).run Try.prog w = .ok (.func fn first cap) w := fun _ _ _ _ => rfl
  have hb : Below w.heap.size w (w.alloc (.cells #[.pointer (some ⟨y.tb, 0, none⟩)] 23)) := (Below.refl _ _).alloc (Nat.le_refl _) _
  have x0 := heap_alloc_new w (.cells #[.pointer (some ⟨y.tb, 0, none⟩)] 23)
  have hT1 := hT.below hb
  have hN : NodesOf s [r0, r1] [n0, n1] := by
    refine ⟨rfl, fun i r hi => ?_⟩
    match i, hi with
    | 0, hi => simp at hi; subst hi; exact ⟨n0, rfl, hn0⟩
    | 1, hi => simp at hi; subst hi; exact ⟨n1, rfl, hn1⟩
    | (i + 2), hi => simp at hi
  have h := answer_ok A hT1 h2 hsm hlim v [r0, r1] [n0, n1] (hR.below hb) (by simp) hN 49 enter_And #[.pointer (some ⟨w.heap.size, 0, none⟩)] (Bd.iteF (Bd.den s.L n0) (Bd.den s.L n1) Bd.ff) (fun w2 g hb2 hNA hg => and_how A (hT1.below hb2) hW hlim w.heap.size n0 n1 g ((hb2.block _ (block_lt x0)).trans x0) hNA l0 l1 hF)
  have HA := keep h
  have HB := keep hb
  clear h hT hT1 hW hR hN hF x0 hb
  go_enter Try.func21, Try.ntmps21
  go_wp2_with fail
  refine HA.out.mono ?_
  rintro e w' ⟨r, rfl, ⟨N, t, y', m, q1, q2, q3, q4, q5, q6, q7⟩⟩
  have HG : Hid (Told A w y s w' r (Bd.iteF (Bd.den s.L n0) (Bd.den s.L n1) Bd.ff)) := ⟨N, t, y', m, q1, q2, q3, q4, q5, (moves_below y HB.out).trans q6, q7⟩
  clear q1 q2 q3 q4 q5 q6 q7
  go_wp2_with fail
  go_ret2
  exact ⟨r, rfl, HG.out⟩
end Go.Proofs.Ytffngpdngjfcfaa
