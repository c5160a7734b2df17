/-
  Which rule stands ahead: compare, Ahead.
-/
import Derived.Test.YtemmhingmeinjaaGreatDoorUChkAAnd
import Derived.WalkKit
import Derived.ProofKit
import Derived.OpenShut
import Derived.ShutString
import Derived.Deep.Slices
import Derived.ChangeArms
import Derived.SliceStrings
namespace Go.Proofs.YtemmhingmeinjaaGreatDoor
open Go.RowKit
open Wo (Wd)

set_option maxRecDepth 20000 in
set_option maxHeartbeats 2000000 in
theorem Rwords_low {w : World} {ao : Option Addr} {cap k : Nat} (hk : k = 1 ∨ k = 2) :
    Calls Tryz.prog 68 #[.agg #[.int .i64 k, .slice ao 0 cap]] w fun en w' => ∃ v, en = .returned v ∧ w'.ownsRow w.heap.size 9 1 v 1 (svs [Ru.kwG k]) ∧ Below w.heap.size w w' := by
  rcases hk with rfl | rfl
  · go_enter Tryz.func68, Tryz.ntmps68
    go_wp2
    go_ret
    refine ⟨_, rfl, ⟨rfl, Or.inr ⟨w.heap.size + 1, 1, #[.string (tx (Ru.kwG 1))], rfl, by omega, new_1 _ _ _, Nat.le_refl _, by decide, rfl, rfl⟩⟩, ?_⟩
    exact ((Below.refl _ _).alloc (Nat.le_refl _) _).alloc (by simp) _
  · go_enter Tryz.func68, Tryz.ntmps68
    go_wp2
    go_ret
    refine ⟨_, rfl, ⟨rfl, Or.inr ⟨w.heap.size + 1, 1, #[.string (tx (Ru.kwG 2))], rfl, by omega, new_1 _ _ _, Nat.le_refl _, by decide, rfl, rfl⟩⟩, ?_⟩
    exact ((Below.refl _ _).alloc (Nat.le_refl _) _).alloc (by simp) _

def mk0 (ps : List (List UInt8)) (j : Nat) : List (List UInt8) := if j = 0 then [[40]] else marks ps j
theorem mk0_one (ps : List (List UInt8)) : mk0 ps 1 = mk0 ps 0 ++ [ps.getD 0 []] := rfl
theorem mk0_succ (ps : List (List UInt8)) (j : Nat) : mk0 ps (j + 1 + 1) = mk0 ps (j + 1) ++ [[44]] ++ [ps.getD (j + 1) []] := by
  unfold mk0
  rw [if_neg (by omega), if_neg (by omega), marks, if_neg (by omega)]
  simp
theorem mk0_len (ps : List (List UInt8)) (j : Nat) : (mk0 ps j).length ≤ 2 * j + 1 := by
  unfold mk0
  split
  · simp
  · rw [marks_len]; omega

structure DwInv (w : World) (k : Nat) (pv : Value) (ps : List (List UInt8)) (kw : List UInt8) (j : Nat) (v : Value) (wr : World) : Prop where
  le : j ≤ ps.length
  own : wr.ownsRow (w.heap.size + 1) 9 1 v (kw :: mk0 ps j).length (svs (kw :: mk0 ps j))
  blk : wr.heap[w.heap.size]? = some (aob k pv)
  below : Below w.heap.size w wr

theorem block_grow' {w w' : World} {b : Nat} {o : Obj} {r : Option Nat} (h : w.heap[b]? = some o) (hg : w.grownBy w' r) (hB : ∀ k, r = some k → b + 1 ≤ k) : w'.heap[b]? = some o :=
  (hg.block b (lt_of_block h) (fun e => by have := hB b e.symm; omega)).trans h

set_option maxRecDepth 20000 in
set_option maxHeartbeats 4000000 in
theorem Rwords_right {w : World} {g o cap k : Nat} {ps : List (List UInt8)} (hk : k = 3 ∨ k = 4) (h1 : 1 ≤ ps.length) (h2 : ps.length ≤ 64) (hg : g < w.heap.size) (hc : ∀ i, i < ps.length → w.cell? ⟨g, o + i, none⟩ = some (.string (tx (ps.getD i [])))) :
    Calls Tryz.prog 68 #[.agg #[.int .i64 k, .slice (some ⟨g, o, none⟩) ps.length cap]] w fun en w' => ∃ v, en = .returned v ∧ w'.ownsRow w.heap.size 9 1 v (2 * ps.length + 2) (svs (kwT k :: (marks ps ps.length ++ [[41]]))) ∧ Below w.heap.size w w' := by
  obtain ⟨i0, hi, hz0, hz1, hz2⟩ := info_parts Tryz.infoStr
  have HI := hid hi
  have HZ0 := hid hz0
  have HZ1 := hid hz1
  have HZ2 := hid hz2
  clear hi hz0 hz1 hz2
  have HC := hid hc
  obtain ⟨n, hn⟩ : ∃ n, n = ps.length := ⟨_, rfl⟩
  have HN := hid hn
  rw [← hn] at h1 h2 ⊢
  clear hc hn
  have HST := hid (show ∀ kw, DwInv w k (.slice (some ⟨g, o, none⟩) n cap) ps kw 0 (.slice (some ⟨w.heap.size + 1, 0, none⟩) 2 2) ((w.alloc (aob k (.slice (some ⟨g, o, none⟩) n cap))).alloc (.cells #[.string (tx kw), .string (tx [40])] 9)) from fun kw =>
    ⟨Nat.zero_le _, ⟨rfl, Or.inr ⟨w.heap.size + 1, 2, #[.string (tx kw), .string (tx [40])], rfl, Nat.le_refl _, new_1 _ _ _, Nat.le_refl _, by decide, rfl, rfl⟩⟩, new_old _ _ (new_0 _ _), ((Below.refl _ _).alloc (Nat.le_refl _) _).alloc (by simp) _⟩)
  have HL := hid (fun (kw : List UInt8) => show DwInv w k (.slice (some ⟨g, o, none⟩) n cap) ps kw 0 (.slice (some ⟨w.heap.size + 1, 0, none⟩) 2 2) ((w.alloc (aob k (.slice (some ⟨g, o, none⟩) n cap))).alloc (.cells #[.string (tx kw), .string (tx [40])] 9)) from HST.out kw)
  clear HST
  have b1 : ((k : Int) == 1) = false := by rcases hk with rfl | rfl <;> rfl
  have b2 : ((k : Int) == 2) = false := by rcases hk with rfl | rfl <;> rfl
  obtain ⟨kw, hkw, h3⟩ : ∃ kw : List UInt8, kw = kwT k ∧ ((kw = [97, 108, 108] ∧ ((k : Int) == 3) = true) ∨ (kw = [97, 110, 121] ∧ ((k : Int) == 3) = false)) := by
    rcases hk with rfl | rfl
    · exact ⟨_, rfl, Or.inl ⟨rfl, rfl⟩⟩
    · exact ⟨_, rfl, Or.inr ⟨rfl, rfl⟩⟩
  have HKW := hid hkw
  have H0 := hid (HL.out kw)
  clear hkw HL hk
  rcases h3 with ⟨e3, b3⟩ | ⟨e3, b3⟩
  all_goals (
    have HKE := hid e3
    clear e3
    go_enter Tryz.func68, Tryz.ntmps68
    go_wp2_with fail
    go_loopw [3, 4] (fun u i wr => ∃ (j : Nat) (v : Value), u = v ∧ i = .int .i64 j ∧ Hid (DwInv w k (.slice (some ⟨g, o, none⟩) n cap) ps kw j v wr)) (fun _ i _ => n - (intOf i).toNat)
    case atStart =>
      rw [HKE.out] at H0 ⊢
      exact ⟨0, _, rfl, rfl, H0⟩
    case round =>
      obtain ⟨j, v, rfl, rfl, HJ⟩ := hrel
      have hj := HJ.out.le
      rw [← HN.out] at hj
      have HO := hid HJ.out.own
      have HB := hid HJ.out.below
      have hblk := HJ.out.blk
      have HK := hid hblk
      have d1 : wr.cell? ⟨w.heap.size, 1, none⟩ = some (.slice (some ⟨g, o, none⟩) n cap) := by rw [cell_at hblk]; rfl
      have hlen := mk0_len ps j
      obtain ⟨X, hX⟩ : ∃ X, X = kw :: mk0 ps j := ⟨_, rfl⟩
      have hXl : X.length ≤ 2 * j + 2 := by rw [hX, List.length_cons]; omega
      rw [← hX] at HO
      have HX := hid hX
      obtain ⟨m, hm⟩ : ∃ m, m = X.length := ⟨_, rfl⟩
      rw [← hm] at HO hXl
      have HM := hid hm
      obtain ⟨ao, vc, rfl⟩ := own_form HO.out
      have hsz : w.heap.size + 1 ≤ wr.heap.size := lt_of_block hblk
      clear hX hm hlen hblk
      by_cases hlt : j < n
      · have c0 := (HB.out.cell (p := ⟨g, o + j, none⟩) (by exact hg)).trans (HC.out j (by rw [← HN.out]; exact hlt))
        obtain ⟨p, hp⟩ : ∃ p, p = ps.getD j [] := ⟨_, rfl⟩
        rw [← hp] at c0
        have HPP := hid hp
        have hkI : (j : Int) < (n : Int) := by omega
        have hk0 : (0 : Int) ≤ (j : Int) := by omega
        clear hp
        cases j with
        | zero =>
          rw [Nat.add_zero] at c0
          go_wp2_with (first | (at_builtin; refine wpList_append_own_at _ rfl _ _ 47 rfl (w.heap.size + 1) 9 i0 (.string ByteArray.empty) 1 16 Tryz.underlying47 HI.out HZ0.out HZ1.out HZ2.out rfl (by decide) (.slice ao m vc) m (svs X) rfl (HO.out.alloc _) ⟨wr.heap.size, 0, none⟩ 1 1 [.string (tx p)] rfl rfl (new_cells _ #[.string (tx p)] _ _ rfl) ?c2 ?c3 ?c4 ?c5 ?_))
          case c2 => simp [Value.oneCell']
          case c3 => unfold maxLen; omega
          case c4 => omega
          case c5 => first | omega | (simp only [World.size_alloc]; omega)
          intro v' w5 hown5 hgrow5 _ _
          obtain ⟨a5, c5, rfl⟩ := own_form hown5
          have J5 := hid (show DwInv w k (.slice (some ⟨g, o, none⟩) n cap) ps kw (0 + 1) (.slice a5 (m + 1) c5) w5 from by
            have e : kw :: mk0 ps (0 + 1) = X ++ [p] := by rw [HX.out, HPP.out, mk0_one]; rfl
            refine ⟨by rw [← HN.out]; omega, ?_, block_grow' (new_old wr _ HK.out) hgrow5 (fun q hq => (HO.out.lt q hq).1), (HB.out.alloc HB.out.size _).grown hgrow5 (by simp only [World.size_alloc]; omega) (fun q hq => Nat.le_of_succ_le (HO.out.lt q hq).1)⟩
            rw [e, List.length_append, ← HM.out, svs_app]
            exact hown5)
          clear hown5 hgrow5
          go_wp2
          go_roundw
          case rel => exact ⟨0 + 1, _, rfl, by go_num, J5⟩
          case measure => simp [intOf]; omega
        | succ i =>
          have hi1 : (0 : Int) < (i : Int) + 1 := by omega
          go_wp2_with (first | (at_builtin; refine wpList_append_own_at _ rfl _ _ 47 rfl (w.heap.size + 1) 9 i0 (.string ByteArray.empty) 1 16 Tryz.underlying47 HI.out HZ0.out HZ1.out HZ2.out rfl (by decide) (.slice ao m vc) m (svs X) rfl (HO.out.alloc _) ⟨wr.heap.size, 0, none⟩ 1 1 [.string (tx [44])] rfl rfl (new_cells _ #[.string (tx [44])] _ _ rfl) ?c2 ?c3 ?c4 ?c5 ?_))
          case c2 => simp [Value.oneCell']
          case c3 => unfold maxLen; omega
          case c4 => omega
          case c5 => first | omega | (simp only [World.size_alloc]; omega)
          intro v' w5 hown5 hgrow5 _ _
          obtain ⟨a5, c5, rfl⟩ := own_form hown5
          have O5 := hid hown5
          have hK5 := block_grow' (new_old wr _ HK.out) hgrow5 (fun q hq => (HO.out.lt q hq).1)
          have K5 := hid hK5
          have B5 := hid (show Below w.heap.size w w5 from (HB.out.alloc HB.out.size _).grown hgrow5 (by simp only [World.size_alloc]; omega) (fun q hq => Nat.le_of_succ_le (HO.out.lt q hq).1))
          have d5 : w5.cell? ⟨w.heap.size, 1, none⟩ = some (.slice (some ⟨g, o, none⟩) n cap) := by rw [cell_at hK5]; rfl
          have c5' := (B5.out.cell (p := ⟨g, o + (i + 1), none⟩) (by exact hg)).trans (HC.out (i + 1) (by rw [← HN.out]; exact hlt))
          rw [← HPP.out] at c5'
          have hsz5 : w.heap.size + 1 ≤ w5.heap.size := lt_of_block hK5
          clear hown5 hgrow5 hK5 c0 d1
          go_wp2_with (first | (at_builtin; refine wpList_append_own_at _ rfl _ _ 47 rfl (w.heap.size + 1) 9 i0 (.string ByteArray.empty) 1 16 Tryz.underlying47 HI.out HZ0.out HZ1.out HZ2.out rfl (by decide) (.slice a5 (m + 1) c5) (m + 1) (svs X ++ [.string (tx [44])]) rfl (O5.out.alloc _) ⟨w5.heap.size, 0, none⟩ 1 1 [.string (tx p)] rfl rfl (new_cells _ #[.string (tx p)] _ _ rfl) ?c2 ?c3 ?c4 ?c5 ?_))
          case c2 => simp [Value.oneCell']
          case c3 => unfold maxLen; omega
          case c4 => omega
          case c5 => first | omega | (simp only [World.size_alloc]; omega)
          intro v' w6 hown6 hgrow6 _ _
          obtain ⟨a6, c6, rfl⟩ := own_form hown6
          have J6 := hid (show DwInv w k (.slice (some ⟨g, o, none⟩) n cap) ps kw (i + 1 + 1) (.slice a6 (m + 1 + 1) c6) w6 from by
            have e : kw :: mk0 ps (i + 1 + 1) = X ++ [[44]] ++ [p] := by rw [HX.out, HPP.out, mk0_succ]; rfl
            refine ⟨by rw [← HN.out]; omega, ?_, block_grow' (new_old w5 _ K5.out) hgrow6 (fun q hq => (O5.out.lt q hq).1), (B5.out.alloc B5.out.size _).grown hgrow6 (by simp only [World.size_alloc]; omega) (fun q hq => Nat.le_of_succ_le (O5.out.lt q hq).1)⟩
            have e3 : svs (X ++ [[44]] ++ [p]) = svs X ++ [.string (tx [44]), .string (tx p)] := by simp [svs]
            have e4 : (X ++ [[44]] ++ [p]).length = m + 1 + 1 := by rw [HM.out]; simp
            rw [e, e3, e4]
            exact hown6)
          clear hown6 hgrow6
          go_wp2
          go_roundw
          case rel => exact ⟨i + 1 + 1, _, rfl, by go_num, J6⟩
          case measure => simp [intOf]; omega
      · have hjn : j = n := by omega
        subst hjn
        have hkI : ¬ ((j : Int) < (j : Int)) := by omega
        clear hlt
        go_wp2_with (first | (at_builtin; refine wpList_append_own_at _ rfl _ _ 47 rfl (w.heap.size + 1) 9 i0 (.string ByteArray.empty) 1 16 Tryz.underlying47 HI.out HZ0.out HZ1.out HZ2.out rfl (by decide) (.slice ao m vc) m (svs X) rfl (HO.out.alloc _) ⟨wr.heap.size, 0, none⟩ 1 1 [.string (tx [41])] rfl rfl (new_cells _ #[.string (tx [41])] _ _ rfl) ?c2 ?c3 ?c4 ?c5 ?_))
        case c2 => simp [Value.oneCell']
        case c3 => unfold maxLen; omega
        case c4 => omega
        case c5 => first | omega | (simp only [World.size_alloc]; omega)
        intro v' w5 hown5 hgrow5 _ _
        obtain ⟨a5, c5, rfl⟩ := own_form hown5
        have J5 := hid (show w5.ownsRow w.heap.size 9 1 (.slice a5 (m + 1) c5) (2 * j + 2) (svs (kw :: (marks ps j ++ [[41]]))) from by
          have e : X = kw :: marks ps j := by rw [HX.out]; unfold mk0; rw [if_neg (by omega)]
          have e2 : m = 2 * j + 1 := by rw [HM.out, e, List.length_cons, marks_len]
          have e3 : svs (kw :: (marks ps j ++ [[41]])) = svs X ++ [.string (tx [41])] := by rw [e]; simp [svs]
          rw [e3, show 2 * j + 2 = m + 1 by omega]
          exact hown5.mono (Nat.le_succ _))
        have B5 := hid (show Below w.heap.size w w5 from (HB.out.alloc HB.out.size _).grown hgrow5 (by simp only [World.size_alloc]; omega) (fun q hq => Nat.le_of_succ_le (HO.out.lt q hq).1))
        clear hown5 hgrow5
        go_wp2
        go_ret
        exact ⟨_, rfl, (by rw [← HKW.out]; exact J5.out), B5.out⟩)
theorem Rwords_any {w : World} {v : Value} {k : Nat} {ps : List (List UInt8)} (ht : Txs w v ps) (ha : okAct k ps) :
    Calls Tryz.prog 68 #[.agg #[.int .i64 k, v]] w fun en w' => ∃ v, en = .returned v ∧ w'.ownsRow w.heap.size 9 1 v (actW k ps).length (svs (actW k ps)) ∧ Below w.heap.size w w' := by
  obtain ⟨ao, cap, rfl, hr⟩ := ht
  rcases ha with ⟨hk, rfl⟩ | ⟨hk, hp⟩
  · exact Rwords_low (by omega)
  · rcases hr with rfl | ⟨g, o, rfl, hg, hc⟩
    · exact absurd hp.1 (by simp)
    · have e : actW k ps = kwT k :: (marks ps ps.length ++ [[41]]) := by
        rw [marks_tail hp.1]
        rcases (by omega : k = 3 ∨ k = 4) with rfl | rfl <;> rfl
      have hl : (actW k ps).length = 2 * ps.length + 2 := by rw [e]; simp [marks_len]
      rw [hl, e]
      exact Rwords_right (by omega) hp.1 hp.2.1 hg hc
end Go.Proofs.YtemmhingmeinjaaGreatDoor
namespace Go.Proofs.YtemmhingmeinjaaGreatDoor
open Go.RowKit
open Wo (Wd)

structure Raw where
  prio : Int
  mat : List UInt8
  kind : Int
  ports : List (List UInt8)
def Raw.rl (r : Raw) : Ru.Rl := ⟨r.prio.toNat, r.mat, r.kind.toNat, r.ports⟩
def Raw.ok (width : Int) (r : Raw) : Prop := okRule width r.prio r.mat r.kind r.ports
theorem Raw.okRl {width : Int} {r : Raw} (h : r.ok width) : Ru.OkRl width.toNat r.rl ∧ r.prio = r.rl.prio ∧ r.kind = r.rl.kind := by
  have h1 := h.wide
  have h2 := h.prio
  have h4 := h.len
  have hk : 1 ≤ r.kind ∧ r.kind ≤ 4 := by rcases h.act with ⟨q, _⟩ | ⟨q, _⟩ <;> omega
  refine ⟨⟨?_, h.cube, ?_, ?_⟩, ?_, ?_⟩
  · show r.prio.toNat ≤ _; omega
  · show r.mat.length = _; omega
  · rcases h.act with ⟨q, hp⟩ | ⟨q, hp⟩
    · exact Or.inl ⟨by show r.kind.toNat = 1 ∨ r.kind.toNat = 2; omega, hp⟩
    · exact Or.inr ⟨by show r.kind.toNat = 3 ∨ r.kind.toNat = 4; omega, hp⟩
  · show r.prio = (r.prio.toNat : Int); omega
  · show r.kind = (r.kind.toNat : Int); omega
structure RawView (w : World) (g o : Nat) (ps : List (Raw × Value)) : Prop where
  old : g < w.heap.size
  cell : ∀ (i : Nat) (q : Raw × Value), ps[i]? = some q → w.cell? ⟨g, o + i * 4, none⟩ = some (.int .i64 q.1.prio) ∧ w.cell? ⟨g, o + i * 4 + 1, none⟩ = some (.string (tx q.1.mat)) ∧ w.cell? ⟨g, o + i * 4 + 2, none⟩ = some (.int .i64 q.1.kind) ∧ w.cell? ⟨g, o + i * 4 + 3, none⟩ = some q.2
  ports : ∀ q ∈ ps, Txs w q.2 q.1.ports ∧ ∀ p ∈ q.1.ports, p.length ≤ maxLen
theorem RawView.rl {w : World} {g o : Nat} {ps : List (Raw × Value)} {width : Int} (h : RawView w g o ps) (hok : ∀ q ∈ ps, q.1.ok width) : RViewO w g o (ps.map fun q => (q.1.rl, q.2)) := by
  refine ⟨h.old, fun i q hq => ?_, fun q hq => ?_⟩
  · rw [List.getElem?_map, Option.map_eq_some_iff] at hq
    obtain ⟨q0, h0, rfl⟩ := hq
    obtain ⟨c0, c1, c2, c3⟩ := h.cell i q0 h0
    obtain ⟨_, e1, e2⟩ := Raw.okRl (hok q0 (List.mem_of_getElem? h0))
    exact ⟨by rw [c0]; exact congrArg (fun z => some (Value.int .i64 z)) e1, c1, by rw [c2]; exact congrArg (fun z => some (Value.int .i64 z)) e2, c3⟩
  · obtain ⟨q0, h0, rfl⟩ := List.mem_map.1 hq
    exact (h.ports q0 h0).1

def PrintOk (width : Int) (ps : List (Raw × Value)) : Prop := (∀ q ∈ ps, q.1.ok width) ∧ (1 ≤ width ∧ width ≤ 128) ∧ (ps.map fun q => q.1.rl).Pairwise (fun a b => Ru.same a b = false)
def PrintPost (w : World) (width : Int) (ps : List (Raw × Value)) (en : Ending) (w' : World) : Prop :=
  Below w.heap.size w w' ∧ ((∃ i e : Int, e ≠ 0 ∧ ¬ PrintOk width ps ∧ en = .returned (.tuple #[.string (tx []), .int .i64 i, .int .i64 e])) ∨
    ((∀ q ∈ ps, q.1.ok width) ∧ (1 ≤ width ∧ width ≤ 128) ∧ (ps.map fun q => q.1.rl).Pairwise (fun a b => Ru.same a b = false) ∧ en = .returned (.tuple #[.string (tx (Ru.printT (ps.map fun q => q.1.rl))), .int .i64 0, .int .i64 0])))

def keyOf (x : Ru.Rl) : Nat × List UInt8 := (x.prio, x.mat)
theorem same_keys {rs : List Ru.Rl} (h : (rs.map keyOf).Nodup) : rs.Pairwise (fun a b => Ru.same a b = false) := by
  have h1 := List.pairwise_map.1 h
  refine h1.imp ?_
  intro a b hab
  refine decide_eq_false (fun q => hab ?_)
  unfold keyOf
  rw [q.1, q.2]
theorem same_not {rs : List Ru.Rl} {j : Nat} {x : Ru.Rl} (hx : rs[j]? = some x) (hin : (x.prio, x.mat) ∈ (rs.take j).map keyOf) (h : rs.Pairwise (fun a b => Ru.same a b = false)) : False := by
  obtain ⟨y, hy, e⟩ := List.mem_map.1 hin
  obtain ⟨i, hi, ey⟩ := List.mem_iff_getElem.1 hy
  rw [List.length_take] at hi
  rw [List.getElem_take] at ey
  obtain ⟨hj, ex⟩ := List.getElem?_eq_some_iff.1 hx
  have h1 := List.pairwise_iff_getElem.1 h i j (by omega) hj (by omega)
  rw [ey, ex] at h1
  unfold keyOf at e
  injection e with e1 e2
  exact absurd h1 (by unfold Ru.same; rw [decide_eq_true ⟨e1, e2⟩]; simp)

set_option maxRecDepth 20000 in
set_option maxHeartbeats 2000000 in
theorem Print_some {w : World} {g o cap n : Nat} {width : Int} {ps : List (Raw × Value)} (h : RawView w g o ps) (hn : ps.length = n) (h60 : n ≤ 4096) (hT : PowTab w) :
    Calls Tryz.prog 19 #[.slice (some ⟨g, o, none⟩) n cap, .int .i64 width] w fun en w' => PrintPost w width ps en w' := by
  have H := hid h
  have HN := hid hn
  have HT := hid hT
  have hg := h.old
  clear h hn hT
  have HW := hid (isWidth_any width)
  by_cases hw : 1 ≤ width ∧ width ≤ 128
  case neg =>
    rw [decide_eq_false hw] at HW
    go_enter Tryz.func19, Tryz.ntmps19
    go_wp2_with fail
    refine (HW.out _).mono ?_
    rintro en w1 ⟨rfl, rfl⟩
    go_wp2
    refine bodyPost_ret (v := .tuple #[.string (tx []), .int .i64 0, .int .i64 1]) (by simp [results, Tryz.results19, go_sem]) rfl ?_
    exact ⟨Below.refl _ _, Or.inl ⟨0, 1, by decide, fun h => hw h.2.1, rfl⟩⟩
  rw [decide_eq_true hw] at HW
  have HWW := hid hw
  clear hw
  have h4096 : ¬ ((4096 : Int) < (n : Int)) := by omega
  go_enter Tryz.func19, Tryz.ntmps19
  go_wp2_with fail
  refine (HW.out _).mono ?_
  rintro en w1 ⟨rfl, hww⟩
  have hw1 := hww.symm
  clear hww
  subst hw1
  go_wp2_with fail
  have HCH := hid (fun (W : World) (hb : Below w.heap.size w W) (q : Raw × Value) (hq : q ∈ ps) => Check_any (width := width) (p := q.1.prio) (k := q.1.kind) (m := q.1.mat) ((H.out.ports q hq).1.below hb) (H.out.ports q hq).2)
  go_loopw [21] (fun i wr => ∃ j : Nat, j ≤ n ∧ i = .int .i64 j ∧ Hid (∀ i q, i < j → ps[i]? = some q → q.1.ok width) ∧ Hid (Below w.heap.size w wr)) (fun i _ => n - (intOf i).toNat)
  case atStart => exact ⟨0, Nat.zero_le _, rfl, fun i q hi => absurd hi (Nat.not_lt_zero i), Below.refl _ _⟩
  case round =>
    obtain ⟨j, hj, rfl, HOK, HB⟩ := hrel
    by_cases hlt : j < n
    · obtain ⟨q, hq⟩ : ∃ q, ps[j]? = some q := ⟨ps[j]'(by rw [HN.out]; exact hlt), List.getElem?_eq_getElem _⟩
      obtain ⟨a0, a1, a2, a3⟩ := H.out.cell j q hq
      have hm := List.mem_of_getElem? hq
      have hp := (H.out.ports q hm).1
      have HQ := hid hq
      obtain ⟨x, u⟩ := q
      have HC1 := hid (fun W hb => HCH.out W hb _ hm)
      simp only at a0 a1 a2 a3 hp HC1
      obtain ⟨ao, s1, rfl, _⟩ := hp
      have k0 := (HB.out.cell (p := ⟨g, o + j * 4, none⟩) (by exact hg)).trans a0
      have k1 := (HB.out.cell (p := ⟨g, o + j * 4 + 1, none⟩) (by exact hg)).trans a1
      have k2 := (HB.out.cell (p := ⟨g, o + j * 4 + 2, none⟩) (by exact hg)).trans a2
      have k3 := (HB.out.cell (p := ⟨g, o + j * 4 + 3, none⟩) (by exact hg)).trans a3
      have hkI : (j : Int) < (n : Int) := by omega
      have hk0 : (0 : Int) ≤ (j : Int) := by omega
      have B0 := hid (show Below w.heap.size w (wr.alloc (rob x.prio (tx x.mat) x.kind (.slice ao x.ports.length s1))) from HB.out.alloc HB.out.size _)
      have HM := hid hm
      clear hq a0 a1 a2 a3 hm
      go_wp2_with fail
      refine (HC1.out _ B0.out).mono ?_
      rintro en w2 ⟨e, rfl, he, hb2⟩
      have B2 := hid (B0.out.trans (hb2.mono B0.out.size))
      have HE := hid he
      clear hb2 he
      by_cases h0 : e = 0
      · have HO := hid (HE.out.1 h0)
        subst h0
        go_wp2
        go_roundw
        case rel =>
          refine ⟨j + 1, by omega, by go_num, fun i q hi hq => ?_, B2⟩
          by_cases e : i = j
          · subst e
            rw [HQ.out] at hq
            simp only [Option.some.injEq] at hq
            rw [← hq]; exact HO.out
          · exact HOK.out i q (by omega) hq
        case measure => simp [intOf]; omega
      · go_wp2
        refine bodyPost_ret (v := .tuple #[.string (tx []), .int .i64 j, .int .i64 e]) (by simp [results, Tryz.results19, go_sem]) rfl ?_
        exact ⟨B2.out, Or.inl ⟨j, e, h0, fun h => h0 (HE.out.2 (h.1 _ HM.out)), rfl⟩⟩
    · have hkI : ¬ ((j : Int) < (n : Int)) := by omega
      have hmm : ∀ w : World, (Instr.makeMap 85 none).run Tryz.prog w = .ok (.map (some w.heap.size)) (w.alloc (.map #[] 0)) := fun _ => by kernel_rfl
      have HALL := hid (show ∀ q ∈ ps, q.1.ok width from fun q hq => by
        obtain ⟨i, hi, e⟩ := List.mem_iff_getElem.1 hq
        exact HOK.out i q (by have := HN.out; omega) (by rw [List.getElem?_eq_getElem hi, e]))
      have HR := hid (H.out.rl HALL.out)
      obtain ⟨rs, hrs⟩ : ∃ rs, rs = ps.map fun q => q.1.rl := ⟨_, rfl⟩
      obtain ⟨qs, hqs⟩ : ∃ qs, qs = ps.map fun q => (q.1.rl, q.2) := ⟨_, rfl⟩
      have HRQ := hid (show qs.map Prod.fst = rs by rw [hqs, hrs, List.map_map]; rfl)
      have HQL := hid (show qs.length = n by rw [hqs, List.length_map]; exact HN.out)
      have HQO := hid (show ∀ q ∈ qs, Ru.OkRl width.toNat q.1 from fun q hq => by
        rw [hqs] at hq
        obtain ⟨q0, h0, rfl⟩ := List.mem_map.1 hq
        exact (Raw.okRl (HALL.out q0 h0)).1)
      rw [← hqs] at HR
      have HRS := hid hrs
      clear hrs hqs HOK HCH
      obtain ⟨mb, hmb⟩ : ∃ mb, mb = wr.heap.size := ⟨_, rfl⟩
      have hmb0 : w.heap.size ≤ mb := by rw [hmb]; exact HB.out.size
      have K0 := hid (show KeysAt (wr.alloc (.map #[] 0)) mb (((rs.take 0)).map keyOf) by rw [hmb]; exact KeysAt.new wr)
      have B0 := hid (show Below w.heap.size w (wr.alloc (.map #[] 0)) from HB.out.alloc HB.out.size _)
      go_wp2_with fail
      rw [← hmb]
      clear hmb
      go_loopw [37] (fun i w2 => ∃ j : Nat, j ≤ n ∧ i = .int .i64 j ∧ Hid (KeysAt w2 mb ((rs.take j).map keyOf)) ∧ Hid (((rs.take j).map keyOf).Nodup) ∧ Hid (Below w.heap.size w w2)) (fun i _ => n - (intOf i).toNat)
      case atStart => exact ⟨0, Nat.zero_le _, rfl, K0, List.nodup_nil, B0⟩
      case round =>
        obtain ⟨j, hj, rfl, HK, HD, HB2⟩ := hrel
        by_cases hlt : j < n
        · obtain ⟨q, hq⟩ : ∃ q, qs[j]? = some q := ⟨qs[j]'(by rw [HQL.out]; exact hlt), List.getElem?_eq_getElem _⟩
          obtain ⟨a0, a1, a2, a3⟩ := HR.out.cell j q hq
          have hp := HR.out.ports q (List.mem_of_getElem? hq)
          have HO := hid (HQO.out q (List.mem_of_getElem? hq))
          obtain ⟨x, u⟩ := q
          simp only at a0 a1 a2 a3 hp HO
          have HX := hid (show rs[j]? = some x by rw [← HRQ.out, List.getElem?_map, hq]; rfl)
          obtain ⟨ao, s1, rfl, _⟩ := hp
          have k0 := (HB2.out.cell (p := ⟨g, o + j * 4, none⟩) (by exact hg)).trans a0
          have k1 := (HB2.out.cell (p := ⟨g, o + j * 4 + 1, none⟩) (by exact hg)).trans a1
          have k2 := (HB2.out.cell (p := ⟨g, o + j * 4 + 2, none⟩) (by exact hg)).trans a2
          have k3 := (HB2.out.cell (p := ⟨g, o + j * 4 + 3, none⟩) (by exact hg)).trans a3
          have hkI : (j : Int) < (n : Int) := by omega
          have hk0 : (0 : Int) ≤ (j : Int) := by omega
          clear hq a0 a1 a2 a3
          have KA := hid (show KeysAt (wr.alloc (rob x.prio (tx x.mat) x.kind (.slice ao x.ports.length s1))) mb ((rs.take j).map keyOf) from HK.out.same (heap_old _ _ HK.out.lt))
          have BA := hid (show Below w.heap.size w (wr.alloc (rob x.prio (tx x.mat) x.kind (.slice ao x.ports.length s1))) from HB2.out.alloc HB2.out.size _)
          have hml : x.mat.length ≤ 1048576 := by have := (Cub.Cu.right_all HO.out.cube).2.2; omega
          have HAD := hid (uadd KA.out x (.slice ao x.ports.length s1) HO.out.prio hml (by rw [List.length_map, List.length_take]; omega))
          have HTK := hid (show (rs.take (j + 1)).map keyOf = (rs.take j).map keyOf ++ [(x.prio, x.mat)] by
            rw [List.take_add_one, HX.out, List.map_append]; rfl)
          obtain ⟨ks, hks⟩ : ∃ ks, ks = (rs.take j).map keyOf := ⟨_, rfl⟩
          rw [← hks] at HAD HTK HD
          have HKS := hid hks
          clear hks
          by_cases hin : (x.prio, x.mat) ∈ ks
          · rw [decide_eq_false (fun q => q hin)] at HAD
            have HIN := hid hin
            clear hin
            go_wp2_with fail
            refine (HAD.out).mono ?_
            rintro en w3 ⟨rfl, _, hg3⟩
            have B3 := hid (below_grow BA.out hg3 BA.out.size hmb0)
            clear hg3
            go_wp2
            refine bodyPost_ret (v := .tuple #[.string (tx []), .int .i64 j, .int .i64 52]) (by simp [results, Tryz.results19, go_sem]) rfl ?_
            exact ⟨B3.out, Or.inl ⟨j, 52, by decide, fun h => same_not (rs := rs) HX.out (by rw [← HKS.out]; exact HIN.out) (by rw [HRS.out]; exact h.2.2), rfl⟩⟩
          · rw [decide_eq_true hin] at HAD
            have HIN := hid hin
            clear hin
            go_wp2_with fail
            refine (HAD.out).mono ?_
            rintro en w3 ⟨rfl, hk3, hg3⟩
            have B3 := hid (below_grow BA.out hg3 BA.out.size hmb0)
            have K3 := hid (hk3 HIN.out)
            clear hg3 hk3
            go_wp2
            go_roundw
            case rel =>
              refine ⟨j + 1, by omega, by go_num, by show KeysAt _ _ _; rw [HTK.out]; exact K3.out, ?_, B3⟩
              show List.Nodup _
              rw [HTK.out]
              refine List.nodup_append.2 ⟨HD.out, by simp, fun a ha b hb e => ?_⟩
              rw [List.mem_singleton.1 hb] at e
              exact HIN.out (e ▸ ha)
            case measure => simp [intOf]; omega
        · have hkI : ¬ ((j : Int) < (n : Int)) := by omega
          have HE := hid (show rs.take j = rs from List.take_of_length_le (by rw [← HRQ.out, List.length_map, HQL.out]; omega))
          rw [HE.out] at HD
          have HTX := hid (text_some (cap := cap) (width := width.toNat) (w := wr) (g := g) (o := o) (n := n) (ps := qs)
            ⟨Nat.lt_of_lt_of_le hg HB2.out.size, fun i q hq => by
              obtain ⟨c0, c1, c2, c3⟩ := HR.out.cell i q hq
              exact ⟨(HB2.out.cell (by exact hg)).trans c0, (HB2.out.cell (by exact hg)).trans c1, (HB2.out.cell (by exact hg)).trans c2, (HB2.out.cell (by exact hg)).trans c3⟩, fun q hq => (HR.out.ports q hq).below HB2.out⟩ HQL.out (by omega) HQO.out (HT.out.below HB2.out))
          rw [HRQ.out] at HTX
          go_wp2_with fail
          refine (HTX.out).mono ?_
          rintro en w3 ⟨rfl, hb3⟩
          have B3 := hid (HB2.out.trans (hb3.mono HB2.out.size))
          clear hb3
          go_wp2
          refine bodyPost_ret (v := .tuple #[.string (tx (Ru.printT rs)), .int .i64 0, .int .i64 0]) (by simp [results, Tryz.results19, go_sem]) rfl ?_
          refine ⟨B3.out, Or.inr ⟨HALL.out, HWW.out, ?_, ?_⟩⟩
          · rw [← HRS.out]; exact same_keys HD.out
          · rw [← HRS.out]
end Go.Proofs.YtemmhingmeinjaaGreatDoor
namespace Go.Proofs.YtemmhingmeinjaaGreatDoor
open Go.RowKit
open Wo (Wd)

set_option maxHeartbeats 1000000 in
theorem text_none (ao : Option Addr) (cap : Nat) (w : World) : Calls Tryz.prog 34 #[.slice ao 0 cap] w fun en w' => en = .returned (.string (tx [])) ∧ Below w.heap.size w w' := by
  have hf := hid (Lib.fresh_isBuilder 126 5 w)
  go_enter Tryz.func34, Tryz.ntmps34
  go_wp2_with fail
  refine wp_loop_rounds 1 ?_
  rw [rounds_succ]
  go_wp2_with fail
  refine (String_any w.heap.size w.heap.size [] _ hf.out (by simp)).mono ?_
  rintro en w1 ⟨rfl, hb1⟩
  go_wp2
  go_ret
  exact ⟨rfl, ((Below.refl _ _).alloc (Nat.le_refl _) _).trans hb1⟩

set_option maxRecDepth 20000 in
set_option maxHeartbeats 2000000 in
theorem Print_none (ao : Option Addr) (cap : Nat) (width : Int) (w : World) :
    Calls Tryz.prog 19 #[.slice ao 0 cap, .int .i64 width] w fun en w' => PrintPost w width [] en w' := by
  have HW := hid (isWidth_any width)
  by_cases hw : 1 ≤ width ∧ width ≤ 128
  case neg =>
    rw [decide_eq_false hw] at HW
    go_enter Tryz.func19, Tryz.ntmps19
    go_wp2_with fail
    refine (HW.out _).mono ?_
    rintro en w1 ⟨rfl, rfl⟩
    go_wp2
    refine bodyPost_ret (v := .tuple #[.string (tx []), .int .i64 0, .int .i64 1]) (by simp [results, Tryz.results19, go_sem]) rfl ?_
    exact ⟨Below.refl _ _, Or.inl ⟨0, 1, by decide, fun h => hw h.2.1, rfl⟩⟩
  rw [decide_eq_true hw] at HW
  have HWW := hid hw
  clear hw
  have hmm : ∀ w : World, (Instr.makeMap 85 none).run Tryz.prog w = .ok (.map (some w.heap.size)) (w.alloc (.map #[] 0)) := fun _ => by kernel_rfl
  go_enter Tryz.func19, Tryz.ntmps19
  go_wp2_with fail
  refine (HW.out _).mono ?_
  rintro en w1 ⟨rfl, hww⟩
  have hw1 := hww.symm
  clear hww
  subst hw1
  go_wp2_with fail
  refine wp_loop_rounds 1 ?_
  rw [rounds_succ]
  go_wp2_with fail
  refine wp_loop_rounds 1 ?_
  rw [rounds_succ]
  go_wp2_with fail
  refine (text_none ao cap _).mono ?_
  rintro en w3 ⟨rfl, hb3⟩
  have B3 := hid (show Below w.heap.size w w3 from ((Below.refl _ _).alloc (Nat.le_refl _) _).trans (hb3.mono (by simp)))
  clear hb3
  go_wp2
  refine bodyPost_ret (v := .tuple #[.string (tx []), .int .i64 0, .int .i64 0]) (by simp [results, Tryz.results19, go_sem]) rfl ?_
  exact ⟨B3.out, Or.inr ⟨fun q hq => absurd hq (by simp), HWW.out, List.Pairwise.nil, rfl⟩⟩
end Go.Proofs.YtemmhingmeinjaaGreatDoor
namespace Go.Proofs.YtemmhingmeinjaaGreatDoor
open Go.RowKit
open Wo (Wd)

structure RawIn (w : World) (ao : Option Addr) (ps : List (Raw × Value)) : Prop where
  at_ : ps = [] ∨ ∃ g o, ao = some ⟨g, o, none⟩ ∧ RawView w g o ps
theorem RawIn.take {w : World} {ao : Option Addr} {ps : List (Raw × Value)} (h : RawIn w ao ps) (k : Nat) : RawIn w ao (ps.take k) := by
  rcases h.at_ with rfl | ⟨g, o, e, hv⟩
  · exact ⟨Or.inl (by simp)⟩
  · refine ⟨Or.inr ⟨g, o, e, hv.old, fun i q hq => hv.cell i q ?_, fun q hq => hv.ports q (List.mem_of_mem_take hq)⟩⟩
    rw [List.getElem?_take] at hq
    split at hq
    · exact hq
    · cases hq
theorem Print_any {w : World} {ao : Option Addr} {ps : List (Raw × Value)} (h : RawIn w ao ps) (cap : Nat) (width : Int) (h60 : ps.length ≤ 4096) (hT : PowTab w) :
    Calls Tryz.prog 19 #[.slice ao ps.length cap, .int .i64 width] w fun en w' => PrintPost w width ps en w' := by
  rcases h.at_ with rfl | ⟨g, o, rfl, hv⟩
  · exact Print_none ao cap width w
  · exact Print_some hv rfl h60 hT
end Go.Proofs.YtemmhingmeinjaaGreatDoor
namespace Go.Proofs.YtemmhingmeinjaaGreatDoor
open Go.ChangeShapes Go.WideShapes Go.ChangeAt Go.RowKit
open Wo (Wd)

theorem struct_of {P : Program} {t : TypeId} {l : List (TypeId × Nat)} (h : (match P.underlying t with | some (.struct fs) => decide (fs.toList.map (fun f => (f.type, f.offset)) = l) | _ => false) = true) : ∃ fs, P.underlying t = some (.struct fs) ∧ fs.toList.map (fun f => (f.type, f.offset)) = l := by
  split at h
  · rename_i fs e
    exact ⟨fs, e, of_decide_eq_true h⟩
  · cases h
theorem field_of {fs : Array Field} {l : List (TypeId × Nat)} (h : fs.toList.map (fun f => (f.type, f.offset)) = l) {i : Nat} {ty : TypeId} {off : Nat} (hi : l[i]? = some (ty, off)) : ∃ f, fs[i]? = some f ∧ f.type = ty ∧ f.offset = off := by
  rw [← h, List.getElem?_map, Option.map_eq_some_iff] at hi
  obtain ⟨f, hf, e⟩ := hi
  simp only [Prod.mk.injEq] at e
  exact ⟨f, by simpa using hf, e.1, e.2⟩

section
variable {H : Type} {enc : TypeId × Value → H} {w : World} {base : Nat} {spare : Nat → Bool} {held : Bool}

theorem addr_add5 (g o i : Nat) : (⟨g, o, none⟩ : Addr).add i = ⟨g, o + i, none⟩ := by
  unfold Addr.add; split <;> simp_all
theorem addr_of5 {w : World} {a : Addr} {v : Value} (h : w.cell? (a.add 0) = some v) : (∃ g o, a = ⟨g, o, none⟩) ∧ a.block < w.heap.size := by
  have e : a.add 0 = a := by unfold Addr.add; simp
  rw [e] at h
  obtain ⟨g, o, sp⟩ := a
  have hlt : g < w.heap.size := World.block_lt_of_cell? w _ h
  refine ⟨?_, hlt⟩
  cases sp with
  | none => exact ⟨g, o, rfl⟩
  | some s =>
    exfalso
    unfold World.cell? at h
    simp only [Option.isSome_some, if_true] at h
    split at h <;> cases h

end
end Go.Proofs.YtemmhingmeinjaaGreatDoor
namespace Go.Proofs.YtemmhingmeinjaaGreatDoor
open Go.RowKit

theorem nanInt_any (x : Int) (w : World) : Calls Tryz.prog 113 #[.int .i64 x] w fun e w' => e = .returned (.bool false) ∧ w' = w := by
  go_enter Tryz.func113, Tryz.ntmps113
  go_wp2
  go_ret
  exact ⟨by simp, rfl⟩
theorem nanStr_any (x : List UInt8) (w : World) : Calls Tryz.prog 114 #[.string (tx x)] w fun e w' => e = .returned (.bool false) ∧ w' = w := by
  go_enter Tryz.func114, Tryz.ntmps114
  go_wp2
  go_ret
  exact ⟨by simp, rfl⟩
def cmpI (x y : Int) : Int := if x < y then -1 else if y < x then 1 else 0
def cmpL (x y : List UInt8) : Int := if x < y then -1 else if y < x then 1 else 0

set_option maxHeartbeats 1000000 in
theorem cmpInt_any (x y : Int) (w : World) : Calls Tryz.prog 75 #[.int .i64 x, .int .i64 y] w fun e w' => e = .returned (.int .i64 (cmpI x y)) ∧ w' = w := by
  have HX := hid (nanInt_any x)
  have HY := hid (nanInt_any y)
  rcases Int.lt_trichotomy x y with h | h | h
  · have e := hid (show cmpI x y = -1 by unfold cmpI; rw [if_pos h])
    go_enter Tryz.func75, Tryz.ntmps75
    go_wp2_with (first | (go_at_call 113; refine (nanInt_any _ _).mono ?_; rintro e w' ⟨rfl, rfl⟩))
    go_ret
    exact ⟨by rw [e.out]; rfl, rfl⟩
  · subst h
    have e := hid (show cmpI x x = 0 by unfold cmpI; rw [if_neg (Int.lt_irrefl _), if_neg (Int.lt_irrefl _)])
    go_enter Tryz.func75, Tryz.ntmps75
    go_wp2_with (first | (go_at_call 113; refine (nanInt_any _ _).mono ?_; rintro e w' ⟨rfl, rfl⟩))
    go_ret
    exact ⟨by rw [e.out]; rfl, rfl⟩
  · have hn : ¬ x < y := by omega
    have e := hid (show cmpI x y = 1 by unfold cmpI; rw [if_neg hn, if_pos h])
    go_enter Tryz.func75, Tryz.ntmps75
    go_wp2_with (first | (go_at_call 113; refine (nanInt_any _ _).mono ?_; rintro e w' ⟨rfl, rfl⟩))
    go_ret
    exact ⟨by rw [e.out]; rfl, rfl⟩

set_option maxHeartbeats 1000000 in
theorem cmpStr_any (x y : List UInt8) (w : World) : Calls Tryz.prog 76 #[.string (tx x), .string (tx y)] w fun e w' => e = .returned (.int .i64 (cmpL x y)) ∧ w' = w := by
  by_cases h : x < y
  · have e := hid (show cmpL x y = -1 by unfold cmpL; rw [if_pos h])
    have h1 : Op.bytesLess x y = true := by rw [bytesLess_eq]; exact decide_eq_true h
    clear h
    go_enter Tryz.func76, Tryz.ntmps76
    go_wp2_with (first | (go_at_call 114; refine (nanStr_any _ _).mono ?_; rintro e w' ⟨rfl, rfl⟩))
    go_ret
    exact ⟨by rw [e.out]; rfl, rfl⟩
  · have h1 : Op.bytesLess x y = false := by rw [bytesLess_eq]; exact decide_eq_false h
    by_cases h2 : y < x
    · have e := hid (show cmpL x y = 1 by unfold cmpL; rw [if_neg h, if_pos h2])
      have h3 : (x == y) = false := by rw [beq_eq_false_iff_ne]; rintro rfl; exact h h2
      clear h h2
      go_enter Tryz.func76, Tryz.ntmps76
      go_wp2_with (first | (go_at_call 114; refine (nanStr_any _ _).mono ?_; rintro e w' ⟨rfl, rfl⟩))
      go_ret
      exact ⟨by rw [e.out]; rfl, rfl⟩
    · have e := hid (show cmpL x y = 0 by unfold cmpL; rw [if_neg h, if_neg h2])
      have h3 : (x == y) = true := by
        rw [beq_iff_eq]
        rcases Ru.lt_or h with q | q
        · exact absurd q h2
        · exact q
      clear h h2
      go_enter Tryz.func76, Tryz.ntmps76
      go_wp2_with (first | (go_at_call 114; refine (nanStr_any _ _).mono ?_; rintro e w' ⟨rfl, rfl⟩))
      go_ret
      exact ⟨by rw [e.out]; rfl, rfl⟩

set_option maxHeartbeats 1000000 in
theorem cmpOr_two {w : World} {g : Nat} {a b : Int} (h0 : w.cell? ⟨g, 0, none⟩ = some (.int .i64 a)) (h1 : w.cell? ⟨g, 1, none⟩ = some (.int .i64 b)) : Calls Tryz.prog 74 #[.slice (some ⟨g, 0, none⟩) 2 2] w fun e w' => e = .returned (.int .i64 (if a = 0 then b else a)) ∧ w' = w := by
  by_cases ha : a = 0
  · rw [if_pos ha]
    subst ha
    by_cases hb : b = 0
    · subst hb
      go_enter Tryz.func74, Tryz.ntmps74
      go_wp2_with fail
      refine wp_loop_rounds 3 ?_
      rw [rounds_succ]
      go_wp2_with fail
      rw [rounds_succ]
      go_wp2_with fail
      rw [rounds_succ]
      go_wp2
      go_ret
      exact ⟨rfl, rfl⟩
    · go_enter Tryz.func74, Tryz.ntmps74
      go_wp2_with fail
      refine wp_loop_rounds 2 ?_
      rw [rounds_succ]
      go_wp2_with fail
      rw [rounds_succ]
      go_wp2
      go_ret
      exact ⟨rfl, rfl⟩
  · rw [if_neg ha]
    go_enter Tryz.func74, Tryz.ntmps74
    go_wp2_with fail
    refine wp_loop_rounds 1 ?_
    rw [rounds_succ]
    go_wp2
    go_ret
    exact ⟨rfl, rfl⟩
end Go.Proofs.YtemmhingmeinjaaGreatDoor
