/-
  Whether a rule may be, of any rule: actionMayBe, Check.
-/
import Derived.Test.YtemmhingmeinjaaGreatDoorUDocFAnd
import Derived.Test.YtemmhingmeinjaaGreatDoorIULay
import Derived.Sort.Walk0
namespace Go.Proofs.YtemmhingmeinjaaGreatDoor
open Go.RowKit
open Wo (Wd)

def kwT (k : Nat) : List UInt8 := if k = 3 then [97, 108, 108] else [97, 110, 121]
theorem kindWord_k {k : Nat} (hk : k = 3 ∨ k = 4) (w : World) : Calls Tryz.prog 133 #[.int .i64 k] w fun e w' => e = .returned (.string (tx (kwT k))) ∧ w' = w := by
  rcases hk with rfl | rfl
  · exact kindWord_3 w
  · exact kindWord_4 w
def marks (ps : List (List UInt8)) : Nat → List (List UInt8)
  | 0 => []
  | j + 1 => marks ps j ++ [if j = 0 then [40] else [44], ps.getD j []]
theorem marks_len (ps : List (List UInt8)) (j : Nat) : (marks ps j).length = 2 * j := by
  induction j with
  | zero => rfl
  | succ j ih => simp only [marks, List.length_append, ih, List.length_cons, List.length_nil]; omega
theorem svs_app (a b : List (List UInt8)) : svs (a ++ b) = svs a ++ svs b := by simp [svs]

structure AwInv (w : World) (ps : List (List UInt8)) (kw : List UInt8) (j : Nat) (v : Value) (wr : World) : Prop where
  le : j ≤ ps.length
  own : wr.ownsRow w.heap.size 9 1 v (2 * j + 1) (svs (kw :: marks ps j))
  below : Below w.heap.size w wr

set_option maxRecDepth 20000 in
set_option maxHeartbeats 2000000 in
theorem actionWords_right {w : World} {g o cap k : Nat} {ps : List (List UInt8)} (hk : k = 3 ∨ k = 4) (h1 : 1 ≤ ps.length) (h2 : ps.length ≤ 64) (hg : g < w.heap.size) (hc : ∀ i, i < ps.length → w.cell? ⟨g, o + i, none⟩ = some (.string (tx (ps.getD i [])))) :
    Calls Tryz.prog 97 #[.agg #[.int .i64 k, .slice (some ⟨g, o, none⟩) ps.length cap]] w fun en w' => ∃ v, en = .returned v ∧ w'.ownsRow w.heap.size 9 1 v (2 * ps.length + 2) (svs (kwT k :: (marks ps ps.length ++ [[41]]))) ∧ Below w.heap.size w w' := by
  obtain ⟨i0, hi, hz0, hz1, hz2⟩ := info_parts Tryz.infoStr
  have HI := hid hi
  have HZ0 := hid hz0
  have HZ1 := hid hz1
  have HZ2 := hid hz2
  clear hi hz0 hz1 hz2
  have HC := hid hc
  have HKW := hid (kindWord_k hk)
  obtain ⟨kw, hkw⟩ : ∃ kw, kw = kwT k := ⟨_, rfl⟩
  rw [← hkw] at HKW ⊢
  clear hc hkw hk
  have hne0 : ((ps.length : Int) == 0) = false := by rw [beq_eq_false_iff_ne]; omega
  go_enter Tryz.func97, Tryz.ntmps97
  go_wp2_with fail
  refine (HKW.out _).mono ?_
  rintro en w1 ⟨rfl, rfl⟩
  go_wp2_with fail
  go_loopw [3, 19] (fun u i wr => ∃ (j : Nat) (v : Value), u = v ∧ i = .int .i64 j ∧ Hid (AwInv w ps kw j v wr)) (fun _ i _ => ps.length - (intOf i).toNat)
  case atStart =>
    refine ⟨0, _, rfl, rfl, Nat.zero_le _, ?_, ?_⟩
    · exact ⟨rfl, Or.inr ⟨w.heap.size + 1, 1, #[.string (tx kw)], rfl, by omega, new_1 _ _ _, Nat.le_refl _, by decide, rfl, rfl⟩⟩
    · exact ((Below.refl _ _).alloc (Nat.le_refl _) _).alloc (by simp) _
  case round =>
    obtain ⟨j, v, rfl, rfl, HJ⟩ := hrel
    have hj := HJ.out.le
    have HO := hid HJ.out.own
    have HB := hid HJ.out.below
    obtain ⟨ao, vc, rfl⟩ := own_form HO.out
    have hsz : w.heap.size ≤ wr.heap.size := HB.out.size
    by_cases hlt : j < ps.length
    · have c0 := (HB.out.cell (p := ⟨g, o + j, none⟩) (by exact hg)).trans (HC.out j hlt)
      obtain ⟨p, hp⟩ : ∃ p, p = ps.getD j [] := ⟨_, rfl⟩
      rw [← hp] at c0
      have hkI : (j : Int) < (ps.length : Int) := by omega
      have hk0 : (0 : Int) ≤ (j : Int) := by omega
      obtain ⟨mk, hmk⟩ : ∃ mk : List UInt8, mk = if j = 0 then [40] else [44] := ⟨_, rfl⟩
      have HNX := hid (fun (v' : Value) (w5 : World) (ho : w5.ownsRow w.heap.size 9 1 v' (2 * j + 1 + 2) (svs (kw :: marks ps j) ++ [.string (tx mk), .string (tx p)])) => (show w5.ownsRow w.heap.size 9 1 v' (2 * (j + 1) + 1) (svs (kw :: marks ps (j + 1))) from by
        have e : svs (kw :: marks ps (j + 1)) = svs (kw :: marks ps j) ++ [.string (tx mk), .string (tx p)] := by
          rw [hmk, hp]; simp [svs, marks]
        rw [e, show 2 * (j + 1) + 1 = 2 * j + 1 + 2 by omega]
        exact ho))
      clear hp
      cases j with
      | zero =>
        have hm0 : mk = [40] := hmk
        subst hm0
        rw [Nat.add_zero] at c0
        clear hmk
        go_wp2_with (first | (at_builtin; refine wpList_append_own_at _ rfl _ _ 47 rfl w.heap.size 9 i0 (.string ByteArray.empty) 1 16 Tryz.underlying47 HI.out HZ0.out HZ1.out HZ2.out rfl (by decide) (.slice ao (2 * 0 + 1) vc) (2 * 0 + 1) (svs (kw :: marks ps 0)) rfl (HO.out.alloc _) ⟨wr.heap.size, 0, none⟩ 2 2 [.string (tx [40]), .string (tx p)] rfl rfl (new_cells _ #[.string (tx [40]), .string (tx p)] _ _ rfl) ?c2 ?c3 ?c4 ?c5 ?_))
        case c2 => simp [Value.oneCell']
        case c3 => unfold maxLen; omega
        case c4 => omega
        case c5 => first | omega | (simp only [World.size_alloc]; omega)
        intro v' w5 hown5 hgrow5 _ _
        obtain ⟨a5, c5, rfl⟩ := own_form hown5
        have J5 := hid (HNX.out _ w5 hown5)
        have B5 := hid (show Below w.heap.size w w5 from (HB.out.alloc HB.out.size _).grown hgrow5 (by simp only [World.size_alloc]; omega) (fun q hq => (HO.out.lt q hq).1))
        clear hown5 hgrow5
        go_wp2
        go_roundw
        case rel => exact ⟨0 + 1, _, rfl, by go_num, ⟨by omega, J5.out, B5.out⟩⟩
        case measure => simp [intOf]; omega
      | succ i =>
        have hm0 : mk = [44] := hmk
        subst hm0
        have hi1 : ¬ ((i : Int) + 1 = 0) := by omega
        clear hmk
        go_wp2_with (first | (at_builtin; refine wpList_append_own_at _ rfl _ _ 47 rfl w.heap.size 9 i0 (.string ByteArray.empty) 1 16 Tryz.underlying47 HI.out HZ0.out HZ1.out HZ2.out rfl (by decide) (.slice ao (2 * (i + 1) + 1) vc) (2 * (i + 1) + 1) (svs (kw :: marks ps (i + 1))) rfl (HO.out.alloc _) ⟨wr.heap.size, 0, none⟩ 2 2 [.string (tx [44]), .string (tx p)] rfl rfl (new_cells _ #[.string (tx [44]), .string (tx p)] _ _ rfl) ?c2 ?c3 ?c4 ?c5 ?_))
        case c2 => simp [Value.oneCell']
        case c3 => unfold maxLen; omega
        case c4 => omega
        case c5 => first | omega | (simp only [World.size_alloc]; omega)
        intro v' w5 hown5 hgrow5 _ _
        obtain ⟨a5, c5, rfl⟩ := own_form hown5
        have J5 := hid (HNX.out _ w5 hown5)
        have B5 := hid (show Below w.heap.size w w5 from (HB.out.alloc HB.out.size _).grown hgrow5 (by simp only [World.size_alloc]; omega) (fun q hq => (HO.out.lt q hq).1))
        clear hown5 hgrow5
        go_wp2
        go_roundw
        case rel => exact ⟨i + 1 + 1, _, rfl, by go_num, ⟨by omega, J5.out, B5.out⟩⟩
        case measure => simp [intOf]; omega
    · have hjn : j = ps.length := by omega
      subst hjn
      have hkI : ¬ ((ps.length : Int) < (ps.length : Int)) := by omega
      clear hlt
      obtain ⟨n, hn⟩ : ∃ n, n = ps.length := ⟨_, rfl⟩
      rw [← hn] at HO hkI h1 h2 hne0 ⊢
      have HNN := hid hn
      clear hn
      go_wp2_with (first | (at_builtin; refine wpList_append_own_at _ rfl _ _ 47 rfl w.heap.size 9 i0 (.string ByteArray.empty) 1 16 Tryz.underlying47 HI.out HZ0.out HZ1.out HZ2.out rfl (by decide) (.slice ao (2 * n + 1) vc) (2 * n + 1) (svs (kw :: marks ps n)) rfl (HO.out.alloc _) ⟨wr.heap.size, 0, none⟩ 1 1 [.string (tx [41])] rfl rfl (new_cells _ #[.string (tx [41])] _ _ rfl) ?c2 ?c3 ?c4 ?c5 ?_))
      case c2 => simp [Value.oneCell']
      case c3 => unfold maxLen; omega
      case c4 => omega
      case c5 => first | omega | (simp only [World.size_alloc]; omega)
      intro v' w5 hown5 hgrow5 _ _
      obtain ⟨a5, c5, rfl⟩ := own_form hown5
      have J5 := hid (show w5.ownsRow w.heap.size 9 1 (.slice a5 (2 * n + 1 + 1) c5) (2 * n + 2) (svs (kw :: (marks ps n ++ [[41]]))) from by
        have e : svs (kw :: (marks ps n ++ [[41]])) = svs (kw :: marks ps n) ++ [.string (tx [41])] := by simp [svs]
        rw [e]; exact hown5)
      have B5 := hid (show Below w.heap.size w w5 from (HB.out.alloc HB.out.size _).grown hgrow5 (by simp only [World.size_alloc]; omega) (fun q hq => (HO.out.lt q hq).1))
      clear hown5 hgrow5
      go_wp2
      go_ret
      exact ⟨_, rfl, (by rw [← HNN.out]; exact J5.out), B5.out⟩
end Go.Proofs.YtemmhingmeinjaaGreatDoor
namespace Go.Proofs.YtemmhingmeinjaaGreatDoor
open Go.RowKit
open Wo (Wd)

theorem addr_plus (g j : Nat) : (⟨g, 0, none⟩ : Addr).add j = ⟨g, j, none⟩ := by unfold Addr.add; split <;> simp_all
theorem svs_one {zs : List (List UInt8)} : ∀ u ∈ svs zs, u.oneCell' = true := by
  intro u hu
  simp only [svs, List.mem_map] at hu
  obtain ⟨z, _, rfl⟩ := hu
  rfl

end Go.Proofs.YtemmhingmeinjaaGreatDoor
namespace Go.Proofs.YtemmhingmeinjaaGreatDoor
open Go.RowKit
open Wo (Wd)

end Go.Proofs.YtemmhingmeinjaaGreatDoor
namespace Go.Proofs.YtemmhingmeinjaaGreatDoor
open Go.RowKit
open Wo (Wd)

end Go.Proofs.YtemmhingmeinjaaGreatDoor
namespace Go.Proofs.YtemmhingmeinjaaGreatDoor
open Go.RowKit
open Wo (Wd)

set_option maxHeartbeats 1000000 in
theorem SameRules_none (a1 a2 : Option Addr) (c1 c2 : Nat) (w : World) :
    Calls Tryz.prog 10 #[.slice a1 0 c1, .slice a2 0 c2] w fun e w' => e = .returned (.bool true) ∧ Below w.heap.size w w' := by
  go_enter Tryz.func10, Tryz.ntmps10
  go_wp2_with fail
  refine wp_loop_rounds 1 ?_
  rw [rounds_succ]
  go_wp2
  go_ret
  exact ⟨rfl, Below.refl _ _⟩

end Go.Proofs.YtemmhingmeinjaaGreatDoor
namespace Go.Proofs.YtemmhingmeinjaaGreatDoor
open Go.RowKit
open Wo (Wd)

theorem prt_few {e : Wd} {l : List Wd} {ps : List (List UInt8)} {t : List Wd} (h : Ru.prt e l = .ok (ps, t)) : ps.length ≤ 64 := by
  unfold Ru.prt at h
  split at h
  · cases h
  · revert h
    cases Ru.pts e l.tail [] with
    | error f => intro h; cases h
    | ok r =>
      obtain ⟨v, acc, t'⟩ := r
      intro h
      simp only at h
      split at h
      · cases h
      · rename_i h64
        simp only [Except.ok.injEq, Prod.mk.injEq] at h
        rw [← h.1]; omega
theorem act_few {e : Wd} {l : List Wd} {k : Nat} {ps : List (List UInt8)} {t : List Wd} (h : Ru.act e l = .ok (k, ps, t)) : ps.length ≤ 64 := by
  unfold Ru.act at h
  split at h
  · cases h
  · split at h
    · simp only [Except.ok.injEq, Prod.mk.injEq] at h
      rw [← h.2.1]; simp
    · revert h
      cases hp : Ru.prt e l.tail with
      | error f => intro h; cases h
      | ok r =>
        obtain ⟨ps', t'⟩ := r
        intro h
        simp only [Except.ok.injEq, Prod.mk.injEq] at h
        rw [← h.2.1]; exact prt_few hp
theorem rul_few {width : Nat} {l : List Wd} {y : Ru.Rl} (h : Ru.rul width l = .ok y) : y.ports.length ≤ 64 := by
  unfold Ru.rul at h
  split at h
  · cases h
  · split at h
    · cases h
    · split at h
      · cases h
      · split at h
        · cases h
        · revert h
          cases ha : Ru.act (Ru.endW l) l.tail.tail.tail with
          | error f => intro h; cases h
          | ok r =>
            obtain ⟨k, ps, t⟩ := r
            intro h
            simp only at h
            split at h
            · cases h
            · injection h with h
              rw [← h]
              exact act_few ha
theorem rds_few {width : Nat} (ls : List (List Wd)) : ∀ (acc rs : List Ru.Rl), Ru.rds width ls acc = .ok rs → acc.length ≤ 4096 → (∀ y ∈ acc, y.ports.length ≤ 64) → rs.length ≤ 4096 ∧ ∀ y ∈ rs, y.ports.length ≤ 64 := by
  induction ls with
  | nil =>
    intro acc rs h h1 h2
    rw [Ru.rds] at h
    injection h with h
    rw [← h]; exact ⟨h1, h2⟩
  | cons l r ih =>
    intro acc rs h h1 h2
    rw [Ru.rds] at h
    cases hy : Ru.rul width l with
    | error f => rw [hy] at h; cases h
    | ok x =>
      rw [hy] at h
      simp only at h
      split at h
      · cases h
      · split at h
        · cases h
        · rename_i h4
          refine ih _ rs h (by simp only [List.length_append, List.length_singleton]; omega) (fun y hy' => ?_)
          rcases List.mem_append.1 hy' with hy' | hy'
          · exact h2 y hy'
          · rw [List.mem_singleton.1 hy']; exact rul_few hy
theorem prs_few {s : List UInt8} {width : Int} {rs : List Ru.Rl} (h : Ru.prs s width = .ok rs) : rs.length ≤ 4096 ∧ ∀ y ∈ rs, y.ports.length ≤ 64 := by
  unfold Ru.prs at h
  split at h
  · cases h
  · split at h
    · cases h
    · exact rds_few _ [] rs h (by simp) (fun y hy => absurd hy (by simp))

def prsA (s : List UInt8) (width : Int) : List Ru.Rl × Ru.Ft :=
  match Ru.prs s width with
  | .error f => ([], f)
  | .ok rs => (rs, (0, 0, 0))
theorem prsA_few (s : List UInt8) (width : Int) : (prsA s width).1.length ≤ 4096 ∧ ∀ y ∈ (prsA s width).1, y.ports.length ≤ 64 := by
  unfold prsA
  cases h : Ru.prs s width with
  | error f => exact ⟨by simp, fun y hy => absurd hy (by simp)⟩
  | ok rs => exact prs_few h
def OnePost (w : World) (s : List UInt8) (width : Int) (en : Ending) (w' : World) : Prop :=
  Below w.heap.size w w' ∧ ∃ v ps, ps.map Prod.fst = (prsA s width).1 ∧ en = .returned (.tuple #[v, .int .i64 (prsA s width).2.1, .int .i64 (prsA s width).2.2.1, .int .i64 (prsA s width).2.2.2]) ∧ RsAt w' 0 v ps
theorem ParsePost.one {w w' : World} {s : List UInt8} {width : Int} {en : Ending} (h : ParsePost w s width en w') : OnePost w s width en w' := by
  obtain ⟨hb, ⟨f, hf, rfl⟩ | ⟨v, ps, hr, rfl, hR⟩⟩ := h
  · have e : prsA s width = ([], f) := by unfold prsA; rw [hf]
    refine ⟨hb, .slice none 0 0, [], by rw [e]; rfl, by rw [e], RsAt.nil _ _⟩
  · have e : prsA s width = (ps.map Prod.fst, (0, 0, 0)) := by unfold prsA; rw [hr]
    exact ⟨hb, v, ps, by rw [e], by rw [e]; rfl, hR.d.at0⟩
theorem DParsePost.one {w w' : World} {s : List UInt8} {width : Int} {en : Ending} (h : DParsePost w s width en w') : OnePost w s width en w' := by
  obtain ⟨hb, ⟨f, hf, rfl⟩ | ⟨v, ps, hr, rfl, hR⟩⟩ := h
  · have e : prsA s width = ([], f) := by unfold prsA; rw [hf]
    refine ⟨hb, .slice none 0 0, [], by rw [e]; rfl, by rw [e], RsAt.nil _ _⟩
  · have e : prsA s width = (ps.map Prod.fst, (0, 0, 0)) := by unfold prsA; rw [hr]
    exact ⟨hb, v, ps, by rw [e], by rw [e]; rfl, hR.at0⟩

end Go.Proofs.YtemmhingmeinjaaGreatDoor
namespace Go.Proofs.YtemmhingmeinjaaGreatDoor
open Go.RowKit

abbrev PowTab (w : World) : Prop := Lib.TabIs Tryz.prog w "internal/strconv.uint64pow10" .u64 Lib.pow10Tab
theorem PowTab.below {w w' : World} (h : PowTab w) (hb : Below w.heap.size w w') : PowTab w' := by
  unfold PowTab Lib.TabIs World.var? at *
  cases hg : Tryz.prog.globalNamed "internal/strconv.uint64pow10" with
  | none => rw [hg] at h; cases h
  | some g =>
    rw [hg] at h
    simp only [Option.bind_some] at h ⊢
    have hlt : g < w.heap.size := by
      by_cases q : g < w.heap.size
      · exact q
      · rw [Array.getElem?_eq_none (by omega)] at h; cases h
    rw [hb.block g hlt]
    exact h
theorem below_grow_drewN (w : World) (k : Nat) (os : Array Obj) : Below w.heap.size w (Sort.grow (w.drewN k) os) := ⟨rfl, rfl, rfl, by simp [Sort.grow, World.drewN], fun _ hi => Sort.heap_grow_old (w.drewN k) os hi⟩
theorem Itoa_any (n : Nat) (hn : n ≤ 2147483647) {w : World} (h : PowTab w) : Calls Tryz.prog 67 #[.int .i64 n] w fun e w' => e = .returned (.string (tx (Lib.decDigits n))) ∧ Below w.heap.size w w' := by
  refine (Any.strconv_Itoa Tryz.laysItoa n (by omega) (by omega) w h).mono ?_
  rintro e w' ⟨rfl, k, os, rfl⟩
  refine ⟨?_, below_grow_drewN w k os⟩
  unfold Lib.itoa
  rw [if_neg (by omega)]
  rfl
end Go.Proofs.YtemmhingmeinjaaGreatDoor
namespace Go.Proofs.YtemmhingmeinjaaGreatDoor
open Go.RowKit
open Wo (Wd)

theorem rise_of_adj {ps : List (List UInt8)} (h : ∀ i, i + 1 < ps.length → ps.getD i [] < ps.getD (i + 1) []) : Ru.Rise ps := by
  refine List.pairwise_iff_getElem.2 ?_
  intro i j hi hj hij
  induction j with
  | zero => omega
  | succ j ih =>
    have hs : ps[j] < ps[j + 1] := by
      have := h j hj
      simpa [List.getD_eq_getElem?_getD, List.getElem?_eq_getElem hj, List.getElem?_eq_getElem (show j < ps.length by omega)] using this
    rcases Nat.lt_or_eq_of_le (Nat.le_of_lt_succ hij) with h1 | rfl
    · exact List.lt_trans (ih (by omega) h1) hs
    · exact hs
theorem getD_mem {ps : List (List UInt8)} {i : Nat} (h : i < ps.length) : ps.getD i [] ∈ ps := by
  have : ps.getD i [] = ps[i] := by simp [List.getD_eq_getElem?_getD, List.getElem?_eq_getElem h]
  rw [this]; exact List.getElem_mem _
theorem rise_getD {ps : List (List UInt8)} (h : Ru.Rise ps) {i : Nat} (hi : i + 1 < ps.length) : ps.getD i [] < ps.getD (i + 1) [] := by
  have := rise_at h hi
  simpa [List.getD_eq_getElem?_getD, List.getElem?_eq_getElem hi, List.getElem?_eq_getElem (show i < ps.length by omega)] using this
structure Good (ps : List (List UInt8)) (n : Nat) : Prop where
  names : ∀ i, i < n → Wo.nameB (ps.getD i []) = true
  rise : ∀ i, i + 1 < n → ps.getD i [] < ps.getD (i + 1) []
theorem Good.zero (ps : List (List UInt8)) : Good ps 0 := ⟨fun i h => by omega, fun i h => by omega⟩
theorem Good.ok {ps : List (List UInt8)} (h : Good ps ps.length) (h1 : 1 ≤ ps.length) (h2 : ps.length ≤ 64) : okPorts ps := by
  refine ⟨h1, h2, fun p hp => ?_, rise_of_adj h.rise⟩
  obtain ⟨i, hi, rfl⟩ := List.mem_iff_getElem.1 hp
  have := h.names i hi
  simpa [List.getD_eq_getElem?_getD, List.getElem?_eq_getElem hi] using this

def YesNo (ok : Prop) (w : World) (en : Ending) (w' : World) : Prop := ∃ b, en = .returned (.bool b) ∧ (b = true ↔ ok) ∧ Below w.heap.size w w'
theorem YesNo.no {ok : Prop} {w w' : World} (h : ¬ ok) (hb : Below w.heap.size w w') : YesNo ok w (.returned (.bool false)) w' := ⟨false, rfl, ⟨fun e => absurd e (by decide), fun q => absurd q h⟩, hb⟩
theorem YesNo.yes {ok : Prop} {w w' : World} (h : ok) (hb : Below w.heap.size w w') : YesNo ok w (.returned (.bool true)) w' := ⟨true, rfl, ⟨fun _ => h, fun _ => rfl⟩, hb⟩

set_option maxRecDepth 4000 in
set_option maxHeartbeats 2000000 in
theorem mayBe_high {w : World} {g o cap k : Nat} {ps : List (List UInt8)} (hk : k = 3 ∨ k = 4) (h1 : 1 ≤ ps.length) (h2 : ps.length ≤ 64) (hz : ∀ p ∈ ps, p.length ≤ maxLen) (hg : g < w.heap.size) (hc : ∀ i, i < ps.length → w.cell? ⟨g, o + i, none⟩ = some (.string (tx (ps.getD i [])))) :
    Calls Tryz.prog 58 #[.agg #[.int .i64 k, .slice (some ⟨g, o, none⟩) ps.length cap]] w fun en w' => YesNo (okPorts ps) w en w' := by
  have HC := hid hc
  have HZ := hid hz
  clear hc hz
  go_enter Tryz.func58, Tryz.ntmps58
  go_wp2_with fail
  refine (portsOf_high k hk _).mono ?_
  rintro en w1 ⟨rfl, rfl⟩
  go_wp2_with fail
  go_loopw [28] (fun i wr => ∃ j : Nat, j ≤ ps.length ∧ i = .int .i64 j ∧ Hid (Good ps j) ∧ (∀ a, wr.cell? a = (w.alloc (aob k (.slice (some ⟨g, o, none⟩) ps.length cap))).cell? a) ∧ Below w.heap.size w wr) (fun i _ => ps.length - (intOf i).toNat)
  case atStart => exact ⟨0, Nat.zero_le _, rfl, Good.zero ps, fun _ => rfl, (Below.refl _ _).alloc (Nat.le_refl _) _⟩
  case round =>
    obtain ⟨j, hj, rfl, HG, hcl, hbl⟩ := hrel
    by_cases hlt : j < ps.length
    · have c0 := (hcl _).trans (alloc_cell (HC.out j hlt) hg _)
      have d1 := (hcl ⟨w.heap.size, 1, none⟩).trans (show _ = some (.slice (some ⟨g, o, none⟩) ps.length cap) by rw [cell_at (new_0 w (aob k (.slice (some ⟨g, o, none⟩) ps.length cap)))]; rfl)
      have HCL := hid hcl
      obtain ⟨p, hpq⟩ : ∃ p, p = ps.getD j [] := ⟨_, rfl⟩
      have HPQ := hid hpq
      rw [← hpq] at c0
      have HU := hid (fun w' => Name_any (tx p) w' (by rw [tx_size, hpq]; exact HZ.out _ (getD_mem hlt)))
      rw [tx_list] at HU
      have hkI : (j : Int) < (ps.length : Int) := by omega
      have hk0 : (0 : Int) ≤ (j : Int) := by omega
      cases hnm : Wo.nameB p with
      | false =>
        have HN := hid hnm
        rw [hnm] at HU
        clear hcl hnm hpq
        go_wp2_with fail
        refine (HU.out _).mono ?_
        rintro en w2 ⟨rfl, rfl⟩
        go_wp2
        go_ret
        refine YesNo.no (fun h => ?_) hbl
        have := h.2.2.1 _ (getD_mem hlt)
        rw [← HPQ.out, HN.out] at this
        exact absurd this (by decide)
      | true =>
        have HN := hid hnm
        rw [hnm] at HU
        cases j with
        | zero =>
          clear hcl hnm hpq
          rw [Nat.add_zero] at c0
          go_wp2_with fail
          refine (HU.out _).mono ?_
          rintro en w2 ⟨rfl, rfl⟩
          go_wp2
          go_roundw
          case rel => exact ⟨1, by omega, by go_num, ⟨fun i hi => by rw [show i = 0 by omega, ← HPQ.out]; exact HN.out, fun i hi => by omega⟩, HCL.out, hbl⟩
          case measure => simp [intOf]; omega
        | succ i =>
          have c1 := (hcl _).trans (alloc_cell (HC.out i (by omega)) hg _)
          obtain ⟨q, hq⟩ : ∃ q, q = ps.getD i [] := ⟨_, rfl⟩
          have HQ := hid hq
          rw [← hq] at c1
          have hpos : (0 : Int) < (i : Int) + 1 := by omega
          have hneg : (0 : Int) ≤ (i : Int) := by omega
          have hilt : (i : Int) < (ps.length : Int) := by omega
          cases hless : Op.bytesLess q p with
          | true =>
            have HL := hid (show q < p by rw [bytesLess_eq] at hless; simpa using hless)
            clear hcl hnm hpq hq
            go_wp2_with fail
            refine (HU.out _).mono ?_
            rintro en w2 ⟨rfl, rfl⟩
            go_wp2
            go_roundw
            case rel =>
              refine ⟨i + 1 + 1, by omega, by go_num, ⟨fun a ha => ?_, fun a ha => ?_⟩, HCL.out, hbl⟩
              · by_cases e : a = i + 1
                · rw [e, ← HPQ.out]; exact HN.out
                · exact HG.out.names a (by omega)
              · by_cases e : a = i
                · rw [e, ← HPQ.out, ← HQ.out]; exact HL.out
                · exact HG.out.rise a (by omega)
            case measure => simp [intOf]; omega
          | false =>
            have HL := hid (show ¬ q < p by rw [bytesLess_eq] at hless; simpa using hless)
            clear hcl hnm hpq hq
            go_wp2_with fail
            refine (HU.out _).mono ?_
            rintro en w2 ⟨rfl, rfl⟩
            go_wp2
            go_ret
            refine YesNo.no (fun h => ?_) hbl
            refine absurd ?_ HL.out
            rw [HQ.out, HPQ.out]
            exact rise_getD h.2.2.2 hlt
    · have hkI : ¬ ((j : Int) < (ps.length : Int)) := by omega
      have HO := hid (show okPorts ps by
        have : j = ps.length := by omega
        subst this
        exact HG.out.ok h1 h2)
      clear hcl
      go_wp2
      go_ret
      exact YesNo.yes HO.out hbl
def okAct (k : Int) (ps : List (List UInt8)) : Prop := ((k = 1 ∨ k = 2) ∧ ps = []) ∨ ((k = 3 ∨ k = 4) ∧ okPorts ps)

set_option maxHeartbeats 400000 in
theorem portsOf_none (k : Int) (h : k ≠ 1 ∧ k ≠ 2 ∧ k ≠ 3 ∧ k ≠ 4) (w : World) : Calls Tryz.prog 93 #[.int .i64 k] w fun e w' => e = .returned (.tuple #[.int .i64 1, .int .i64 0]) ∧ w' = w := by
  obtain ⟨h1, h2, h3, h4⟩ := h
  go_enter Tryz.func93, Tryz.ntmps93
  go_wp2
  refine bodyPost_ret (v := .tuple #[.int .i64 1, .int .i64 0]) (by simp [results, Tryz.results93, go_sem]) rfl ⟨rfl, rfl⟩

set_option maxRecDepth 4000 in
set_option maxHeartbeats 2000000 in
theorem mayBe_count {w : World} {ao : Option Addr} {n cap a b : Nat} {k : Int} (hp : ∀ w', Calls Tryz.prog 93 #[.int .i64 k] w' fun e w'' => e = .returned (.tuple #[.int .i64 a, .int .i64 b]) ∧ w'' = w') (hn : n < a ∨ b < n) :
    Calls Tryz.prog 58 #[.agg #[.int .i64 k, .slice ao n cap]] w fun en w' => en = .returned (.bool false) ∧ Below w.heap.size w w' := by
  have HP := hid hp
  clear hp
  by_cases h1 : n < a
  · have hI : (n : Int) < (a : Int) := by omega
    go_enter Tryz.func58, Tryz.ntmps58
    go_wp2_with fail
    refine (HP.out _).mono ?_
    rintro en w1 ⟨rfl, rfl⟩
    go_wp2
    go_ret
    exact ⟨rfl, (Below.refl _ _).alloc (Nat.le_refl _) _⟩
  · have hI : ¬ (n : Int) < (a : Int) := by omega
    have hJ : (b : Int) < (n : Int) := by omega
    go_enter Tryz.func58, Tryz.ntmps58
    go_wp2_with fail
    refine (HP.out _).mono ?_
    rintro en w1 ⟨rfl, rfl⟩
    go_wp2
    go_ret
    exact ⟨rfl, (Below.refl _ _).alloc (Nat.le_refl _) _⟩

set_option maxRecDepth 4000 in
set_option maxHeartbeats 2000000 in
theorem mayBe_low {w : World} {ao : Option Addr} {cap k : Nat} (hk : k = 1 ∨ k = 2) :
    Calls Tryz.prog 58 #[.agg #[.int .i64 k, .slice ao 0 cap]] w fun en w' => en = .returned (.bool true) ∧ Below w.heap.size w w' := by
  go_enter Tryz.func58, Tryz.ntmps58
  go_wp2_with fail
  refine (portsOf_low k hk _).mono ?_
  rintro en w1 ⟨rfl, rfl⟩
  go_wp2_with fail
  refine wp_loop_rounds 1 ?_
  rw [rounds_succ]
  go_wp2
  go_ret
  exact ⟨rfl, (Below.refl _ _).alloc (Nat.le_refl _) _⟩

theorem mayBe_any {w : World} {v : Value} {k : Int} {ps : List (List UInt8)} (ht : Txs w v ps) (hz : ∀ p ∈ ps, p.length ≤ maxLen) :
    Calls Tryz.prog 58 #[.agg #[.int .i64 k, v]] w fun en w' => YesNo (okAct k ps) w en w' := by
  obtain ⟨ao, cap, rfl, hr⟩ := ht
  by_cases hk : k = 1 ∨ k = 2
  · obtain ⟨n, rfl, hn⟩ : ∃ n : Nat, k = n ∧ (n = 1 ∨ n = 2) := ⟨k.toNat, by omega, by omega⟩
    by_cases h0 : ps = []
    · subst h0
      exact (mayBe_low hn).mono fun _ _ ⟨e, hb⟩ => by rw [e]; exact YesNo.yes (Or.inl ⟨hk, rfl⟩) hb
    · have hl : 0 < ps.length := List.length_pos_iff.2 h0
      refine (mayBe_count (a := 0) (b := 0) (fun w' => portsOf_low n hn w') (Or.inr hl)).mono fun _ _ ⟨e, hb⟩ => ?_
      rw [e]
      exact YesNo.no (fun q => by rcases q with ⟨_, q⟩ | ⟨q, _⟩; exact h0 q; omega) hb
  · by_cases hh : k = 3 ∨ k = 4
    · obtain ⟨n, rfl, hn⟩ : ∃ n : Nat, k = n ∧ (n = 3 ∨ n = 4) := ⟨k.toNat, by omega, by omega⟩
      by_cases hl : 1 ≤ ps.length ∧ ps.length ≤ 64
      · rcases hr with rfl | ⟨g, o, rfl, hg, hc⟩
        · simp at hl
        · refine (mayBe_high (cap := cap) hn hl.1 hl.2 hz hg hc).mono fun _ _ ⟨b, e, hi, hb⟩ => ⟨b, e, hi.trans ⟨fun q => Or.inr ⟨hh, q⟩, fun q => ?_⟩, hb⟩
          rcases q with ⟨q, _⟩ | ⟨_, q⟩
          · exact absurd q hk
          · exact q
      · refine (mayBe_count (a := 1) (b := 64) (fun w' => portsOf_high n hn w') (by omega)).mono fun _ _ ⟨e, hb⟩ => ?_
        rw [e]
        exact YesNo.no (fun q => by rcases q with ⟨q, _⟩ | ⟨_, q⟩; exact hk q; exact hl ⟨q.1, q.2.1⟩) hb
    · refine (mayBe_count (a := 1) (b := 0) (fun w' => portsOf_none k (by omega) w') (by omega)).mono fun _ _ ⟨e, hb⟩ => ?_
      rw [e]
      exact YesNo.no (fun q => by rcases q with ⟨q, _⟩ | ⟨q, _⟩; exact hk q; exact hh q) hb
end Go.Proofs.YtemmhingmeinjaaGreatDoor
