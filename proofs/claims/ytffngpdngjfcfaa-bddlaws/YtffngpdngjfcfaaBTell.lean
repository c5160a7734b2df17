/-
  tell: the ref of a node, a new one if it has none.
-/
import Derived.Test.YtffngpdngjfcfaaBTold
namespace Go.Proofs.Ytffngpdngjfcfaa
open Go.RowKit Go.Maps
open Bd (Nd)

/-- What a call adds to the refs: none, or r, the next. -/
def Adds (s : St) (t : List Nat) (r : Nat) : Prop := t = [] ∨ (t.length = 1 ∧ r = s.first + s.roots.length)
theorem Adds.few {s : St} {t : List Nat} {r : Nat} (h : Adds s t r) : t.length ≤ 1 := by
  rcases h with h | h
  · rw [h]; simp
  · omega

/-- What tell leaves: the table with the ref told. -/
structure Tells (w : World) (y : Lay) (s : St) (w' : World) (r n : Nat) : Prop where
  ex : ∃ y' t, Tab w' y' { s with roots := s.roots ++ t } ∧ Moves noX w y w' y' ∧ ({ s with roots := s.roots ++ t } : St).node? r = some n ∧ Adds s t r

set_option maxHeartbeats 2000000 in
theorem tell_any {w : World} {y : Lay} {s : St} (hT : Tab w y s) (h2 : 2 ≤ s.first) (n : Nat) (hn : n < s.L.length + 2) (hsm : s.roots.length + 1 ≤ 1073741824) :
    Calls Try.prog 82 #[.pointer (some ⟨y.tb, 0, none⟩), i6 n] w fun e w' => ∃ r, e = .returned (i6 r) ∧ Tells w y s w' r n := by
  rcases Nat.lt_or_ge n 2 with hn2 | hn2
  · have hnI : (n : Int) < 2 := by omega
    have HR : Hid (Tells w y s w n n) := ⟨y, [], by rw [List.append_nil]; exact hT, Moves.refl _ _ _, by unfold St.node?; rw [if_pos hn2], Or.inl rfl⟩
    clear hT
    go_enter Try.func82, Try.ntmps82
    go_wp2
    go_ret
    exact ⟨n, rfl, HR.out⟩
  · have hnI : ¬ ((n : Int) < 2) := by omega
    have c2 := hT.cell2
    have hsl := hT.small
    obtain ⟨f, hf, hr⟩ := hT.refs
    obtain ⟨kl, hkl⟩ := key_int (a := n) (by omega)
    have hlook := MapOf.look hf kInt Try.underlying43 Try.underlying25 (zero_ref _) hkl
    by_cases hin : n ∈ s.roots
    · obtain ⟨i, hi, hx⟩ := List.getElem_of_mem hin
      have hx' : s.roots[i]? = some n := by rw [List.getElem?_eq_getElem hi, hx]
      have hfx : f (i6 n) = some ((s.first + i : Nat) : Int) := (hr n).1 i hx'
      rw [hfx] at hlook
      simp only [Option.getD_some, Option.isSome_some, i6] at hlook
      have HR : Hid (Tells w y s w (s.first + i) n) := ⟨y, [], by rw [List.append_nil]; exact hT, Moves.refl _ _ _, by
        unfold St.node?
        rw [if_neg (by omega), if_pos (by show s.first ≤ _; omega)]
        show (s.roots ++ [])[s.first + i - s.first]? = _
        rw [List.append_nil, Nat.add_sub_cancel_left]; exact hx', Or.inl rfl⟩
      obtain ⟨q, hq⟩ : ∃ q, q = s.first + i := ⟨_, rfl⟩
      rw [← hq] at hlook HR
      clear hT hf hr hfx hx hx' hin hkl hi hq
      go_enter Try.func82, Try.ntmps82
      go_wp2
      go_ret
      exact ⟨q, rfl, HR.out⟩
    · have hfx : f (i6 n) = none := (hr n).2 hin
      rw [hfx] at hlook
      simp only [Option.getD_none, Option.isSome_none, i6] at hlook
      obtain ⟨ao, cap, hrs⟩ := hT.roots_slice
      have c0 := hT.cell0
      have c1 := hT.cell1
      rw [hrs] at c1
      obtain ⟨i0, hi, hz0, hz1, hz2⟩ := info_parts Try.infoInt
      have HI := keep hi
      have HZ0 := keep hz0
      have HZ1 := keep hz1
      have HZ2 := keep hz2
      have hfs : (s.first : Int) ≤ 1099511627776 := by omega
      have hrl : (s.roots.length : Int) ≤ 1073741824 := by omega
      have HOWN : Hid (∀ o, (w.alloc o).drew.ownsRow 0 3 1 (.slice ao s.roots.length cap) s.roots.length (nums s.roots)) := by
        intro o
        have h := hT.roots
        rw [hrs] at h
        exact row_same (h.alloc o) fun _ _ => rfl
      have HT := keep hT
      have HF := keep hf
      have HRM := keep hr
      have HKL := keep hkl
      have HNIN := keep hin
      have HRS := keep hrs
      have HNL := keep hn
      obtain ⟨rl, hrl0⟩ : ∃ rl, rl = s.roots.length := ⟨_, rfl⟩
      have HRL := keep hrl0
      rw [← hrl0] at c1 HOWN hrl hsm
      have KT : Hid (∀ w1 o, (w.alloc o).drew.grownBy w1 (Value.slice ao rl cap).ownBlock → w1.cell? ⟨y.tb, 1, none⟩ = some (.slice ao rl cap) ∧ w1.frozen? ⟨y.tb, 1, none⟩ = false ∧ w1.cell? ⟨y.tb, 2, none⟩ = some (.map (some y.rm)) ∧
          ∀ v, MapOf Try.prog 3 25 (w1.setCell ⟨y.tb, 1, none⟩ v) y.rm rl f) := by
        intro w1 o hg
        have hlsb : (Value.slice ao rl cap).ownBlock = y.rs.ownBlock := by rw [hrs, hrl0]
        rw [hlsb] at hg
        have hap := hT.apart
        have ltb := hT.lt y.own_tb
        have lrm := hT.lt y.own_rm
        have g1 : w1.heap[y.tb]? = w.heap[y.tb]? := by
          rw [hg.block y.tb (by show y.tb < (w.alloc _).heap.size; simp; omega) (fun e => hap.2.2.2.1 e.symm)]
          exact heap_alloc_old w _ ltb
        have g2 : w1.heap[y.rm]? = w.heap[y.rm]? := by
          rw [hg.block y.rm (by show y.rm < (w.alloc _).heap.size; simp; omega) (fun e => hap.2.2.2.2.2.2.2.1 e.symm)]
          exact heap_alloc_old w _ lrm
        refine ⟨by rw [World.cell?_of_block g1]; exact c1, by rw [World.frozen?_of_block g1]; exact not_frozen hT.cells, by rw [World.cell?_of_block g1]; exact c2, fun v => ?_⟩
        rw [hrl0]
        exact hf.same ((set_other v hap.2.1).trans g2)
      clear hT hf hr hfx hin hkl hi hz0 hz1 hz2 hrs hrl0 hn hsl
      have hwf : (Lit.int .i64 ((s.first : Int) + (rl : Int))).wf = true := WalkArith.wf_i64 (by omega)
      go_enter Try.func82, Try.ntmps82
      go_wp2
      go_region
      go_wp2_with (first | (at_builtin; refine wpList_append_lies _ rfl (.tmp 36) (.tmp 38) 42 rfl 0 3 i0 (.int .i64 0) 1 8 Try.underlying42 HI.out HZ0.out HZ1.out HZ2.out rfl (by decide) (.slice ao rl cap) rl (nums s.roots) rfl (HOWN.out _) ⟨w.heap.size, 0, none⟩ 1 1 [.int .i64 n] rfl rfl (World.news_of_block (heap_alloc_new w _)) (by simp [Value.oneCell']) (by decide) (by unfold maxLen; omega) (by omega) (Nat.zero_le _) (w.heap.size + 1) (by simp) ?_; intro g1 cap1 w1 hown1 hgrow1 hat1 hlt1; obtain ⟨q1, qf, q2, qm⟩ := KT.out w1 _ hgrow1) | (at_mapUpdate; refine wpList_store_of _ rfl (.tmp 45) (.tmp 46) (.tmp 47) 43 rfl 3 25 kInt Try.underlying43 Try.underlying25 y.rm rl f rfl (qm _) (by unfold maxLen; omega) (.int .i64 n) ((s.first : Int) + (rl : Int)) kl rfl rfl HKL.out hwf ?_; intro w2 hput2 hgrow2) | go_in)
      go_ret
      refine ⟨s.first + rl, by simp, ?_⟩
      have e : ((s.first + rl : Nat) : Int) = (s.first : Int) + (rl : Int) := by omega
      rw [← e] at hput2
      have hlsb : (Value.slice ao rl cap).ownBlock = y.rs.ownBlock := by rw [HRS.out, HRL.out]
      rw [hlsb] at hgrow1 hat1
      have R := tell_tab HT.out HNIN.out hn2 HNL.out (by rw [← HRL.out]; exact hsm) (v := .slice (some ⟨g1, 0, none⟩) (rl + 1) cap1) (by rw [HRL.out]) (by have := hown1; rw [HRL.out] at this ⊢; exact this) hgrow1 hat1 HRM.out (by have := hput2; rw [HRL.out] at this; exact this) hgrow2
      refine ⟨_, [n], R.1, R.2, ?_, Or.inr ⟨rfl, by rw [HRL.out]⟩⟩
      unfold St.node?
      rw [if_neg (by omega), if_pos (by show s.first ≤ _; omega)]
      show (s.roots ++ [n])[s.first + rl - s.first]? = _
      rw [Nat.add_sub_cancel_left, HRL.out, List.getElem?_append_right (Nat.le_refl _)]
      simp
end Go.Proofs.Ytffngpdngjfcfaa
