/-
  Whether a rule may be, of any rule: actionMayBe, Check.
  strconv.Itoa of any priority, by the library's contract and its table.
  The law RulesParses: both Parse come to the same.
  The document's SameRules: two rows of the same rules.
  alive: a rule's line.
  A rule's line; alive.
  A rule's words and line; alive.
  The words of an action and of a rule that may be.
-/
import Derived.Test.YtipmlcdnfaobiaaGreatUDocFAnd
import Derived.WalkKit
import Derived.Shelf.Lay
import Derived.Below
import Derived.Sort.Walk0
namespace Go.Proofs.YtipmlcdnfaobiaaGreat
open Go.RowKit
open Wo (Wd)

end Go.Proofs.YtipmlcdnfaobiaaGreat
namespace Go.Proofs.YtipmlcdnfaobiaaGreat
open Go.RowKit
open Wo (Wd)

theorem svs_one {zs : List (List UInt8)} : ∀ u ∈ svs zs, u.oneCell' = true := by
  intro u hu
  simp only [svs, List.mem_map] at hu
  obtain ⟨z, _, rfl⟩ := hu
  rfl

end Go.Proofs.YtipmlcdnfaobiaaGreat
namespace Go.Proofs.YtipmlcdnfaobiaaGreat
open Go.RowKit
open Wo (Wd)

end Go.Proofs.YtipmlcdnfaobiaaGreat
namespace Go.Proofs.YtipmlcdnfaobiaaGreat
open Go.RowKit
open Wo (Wd)

end Go.Proofs.YtipmlcdnfaobiaaGreat
namespace Go.Proofs.YtipmlcdnfaobiaaGreat
open Go.RowKit
open Wo (Wd)

set_option maxRecDepth 20000 in
set_option maxHeartbeats 1000000 in
theorem Same_acts {w : World} {k : Nat} {v1 v2 : Value} {zs : List (List UInt8)} (h1 : Txs w v1 zs) (h2 : Txs w v2 zs) (hn : zs.length ≤ maxLen) :
    Calls Tryz.prog 22 #[.agg #[.int .i64 k, v1], .agg #[.int .i64 k, v2]] w fun e w' => e = .returned (.bool true) ∧ Below w.heap.size w w' := by
  have H1 := hid h1
  have H2 := hid h2
  obtain ⟨a1, c1, rfl, _⟩ := h1
  obtain ⟨a2, c2, rfl, _⟩ := h2
  have HT := hid (fun (w' : World) (hb : Below w.heap.size w w') => UTexts_same (H1.out.below hb) (H2.out.below hb) hn)
  clear hn
  have hkk : ((k : Int) == (k : Int)) = true := by simp
  have BA := hid (show Below w.heap.size w ((w.alloc (aob k (.slice a1 zs.length c1))).alloc (aob k (.slice a2 zs.length c2))) from ((Below.refl _ _).alloc (Nat.le_refl _) _).alloc (by simp) _)
  go_enter Tryz.func22, Tryz.ntmps22
  go_wp2_with fail
  refine (HT.out _ BA.out).mono ?_
  rintro en w1 ⟨rfl, hb1⟩
  have B1 := hid (show Below w.heap.size w w1 from BA.out.trans (hb1.mono BA.out.size))
  clear hb1
  go_wp2
  go_ret
  exact ⟨rfl, B1.out⟩

set_option maxHeartbeats 1000000 in
theorem SameRules_none (a1 a2 : Option Addr) (c1 c2 : Nat) (w : World) :
    Calls Tryz.prog 11 #[.slice a1 0 c1, .slice a2 0 c2] w fun e w' => e = .returned (.bool true) ∧ Below w.heap.size w w' := by
  go_enter Tryz.func11, Tryz.ntmps11
  go_wp2_with fail
  refine wp_loop_rounds 1 ?_
  rw [rounds_succ]
  go_wp2
  go_ret
  exact ⟨rfl, Below.refl _ _⟩

/-- A row of rules for reading: what stands in block g. -/
structure RView (w : World) (g : Nat) (ps : List (Ru.Rl × Value)) : Prop where
  old : g < w.heap.size
  cell : ∀ (i : Nat) (q : Ru.Rl × Value), ps[i]? = some q → w.cell? ⟨g, i * 4, none⟩ = some (.int .i64 q.1.prio) ∧ w.cell? ⟨g, i * 4 + 1, none⟩ = some (.string (tx q.1.mat)) ∧ w.cell? ⟨g, i * 4 + 2, none⟩ = some (.int .i64 q.1.kind) ∧ w.cell? ⟨g, i * 4 + 3, none⟩ = some q.2
  ports : ∀ q ∈ ps, Txs w q.2 q.1.ports ∧ q.1.ports.length ≤ maxLen

set_option maxRecDepth 20000 in
set_option maxHeartbeats 2000000 in
theorem SameRules_some {w : World} {g1 g2 : Nat} {ps1 ps2 : List (Ru.Rl × Value)} (c1 c2 n : Nat) (h1 : RView w g1 ps1) (h2 : RView w g2 ps2) (hl1 : ps1.length = n) (hl2 : ps2.length = n) (he : ps1.map Prod.fst = ps2.map Prod.fst) (hn : n ≤ 1048576) :
    Calls Tryz.prog 11 #[.slice (some ⟨g1, 0, none⟩) n c1, .slice (some ⟨g2, 0, none⟩) n c2] w fun e w' => e = .returned (.bool true) ∧ Below w.heap.size w w' := by
  have H1 := hid h1
  have H2 := hid h2
  have HL1 := hid hl1
  have HL2 := hid hl2
  have HE := hid he
  have ho1 := h1.old
  have ho2 := h2.old
  clear h1 h2 hl1 hl2 he
  have hne : ((n : Int) != (n : Int)) = false := by simp
  go_enter Tryz.func11, Tryz.ntmps11
  go_wp2_with fail
  go_loopw [5] (fun i wr => ∃ j : Nat, j ≤ n ∧ i = .int .i64 j ∧ Hid (Below w.heap.size w wr)) (fun i _ => n - (intOf i).toNat)
  case atStart => exact ⟨0, Nat.zero_le _, rfl, Below.refl _ _⟩
  case round =>
    obtain ⟨j, hj, rfl, HB⟩ := hrel
    by_cases hlt : j < n
    · obtain ⟨q1, hq1⟩ : ∃ q, ps1[j]? = some q := ⟨ps1[j]'(by rw [HL1.out]; exact hlt), List.getElem?_eq_getElem _⟩
      obtain ⟨q2, hq2⟩ : ∃ q, ps2[j]? = some q := ⟨ps2[j]'(by rw [HL2.out]; exact hlt), List.getElem?_eq_getElem _⟩
      have hq : q1.1 = q2.1 := by
        have := congrArg (fun l => l[j]?) HE.out
        simp only [List.getElem?_map, hq1, hq2, Option.map_some, Option.some.injEq] at this
        exact this
      obtain ⟨a0, a1, a2, a3⟩ := H1.out.cell j q1 hq1
      obtain ⟨b0, b1, b2, b3⟩ := H2.out.cell j q2 hq2
      have hp1 := H1.out.ports q1 (List.mem_of_getElem? hq1)
      have hp2 := H2.out.ports q2 (List.mem_of_getElem? hq2)
      rw [← hq] at b0 b1 b2 hp2
      obtain ⟨x, u1⟩ := q1
      obtain ⟨y, u2⟩ := q2
      simp only at a0 a1 a2 a3 b0 b1 b2 b3 hp1 hp2 hq
      have k0 := (HB.out.cell (p := ⟨g1, j * 4, none⟩) (by exact ho1)).trans a0
      have k1 := (HB.out.cell (p := ⟨g1, j * 4 + 1, none⟩) (by exact ho1)).trans a1
      have k2 := (HB.out.cell (p := ⟨g1, j * 4 + 2, none⟩) (by exact ho1)).trans a2
      have k3 := (HB.out.cell (p := ⟨g1, j * 4 + 3, none⟩) (by exact ho1)).trans a3
      have m0 := (HB.out.cell (p := ⟨g2, j * 4, none⟩) (by exact ho2)).trans b0
      have m1 := (HB.out.cell (p := ⟨g2, j * 4 + 1, none⟩) (by exact ho2)).trans b1
      have m2 := (HB.out.cell (p := ⟨g2, j * 4 + 2, none⟩) (by exact ho2)).trans b2
      have m3 := (HB.out.cell (p := ⟨g2, j * 4 + 3, none⟩) (by exact ho2)).trans b3
      have HS := hid (fun (w' : World) (hb : Below w.heap.size w w') => Same_acts (k := x.kind) (hp1.1.below hb) (hp2.1.below hb) hp1.2)
      obtain ⟨o1, s1, rfl, _⟩ := hp1.1
      obtain ⟨o2, s2, rfl, _⟩ := hp2.1
      have HSS : Hid (∀ W : World, Below w.heap.size w W → W.cell? ⟨g1, j * 4, none⟩ = some (.int .i64 x.prio) ∧ W.cell? ⟨g1, j * 4 + 1, none⟩ = some (.string (tx x.mat)) ∧ W.cell? ⟨g1, j * 4 + 2, none⟩ = some (.int .i64 x.kind) ∧ W.cell? ⟨g1, j * 4 + 3, none⟩ = some (.slice o1 x.ports.length s1) ∧ W.cell? ⟨g2, j * 4, none⟩ = some (.int .i64 x.prio) ∧ W.cell? ⟨g2, j * 4 + 1, none⟩ = some (.string (tx x.mat)) ∧ W.cell? ⟨g2, j * 4 + 2, none⟩ = some (.int .i64 x.kind) ∧ W.cell? ⟨g2, j * 4 + 3, none⟩ = some (.slice o2 x.ports.length s2)) := by
        intro W hW
        exact ⟨(hW.cell (p := ⟨g1, j * 4, none⟩) (by exact ho1)).trans a0, (hW.cell (p := ⟨g1, j * 4 + 1, none⟩) (by exact ho1)).trans a1, (hW.cell (p := ⟨g1, j * 4 + 2, none⟩) (by exact ho1)).trans a2, (hW.cell (p := ⟨g1, j * 4 + 3, none⟩) (by exact ho1)).trans a3,
          (hW.cell (p := ⟨g2, j * 4, none⟩) (by exact ho2)).trans b0, (hW.cell (p := ⟨g2, j * 4 + 1, none⟩) (by exact ho2)).trans b1, (hW.cell (p := ⟨g2, j * 4 + 2, none⟩) (by exact ho2)).trans b2, (hW.cell (p := ⟨g2, j * 4 + 3, none⟩) (by exact ho2)).trans b3⟩
      have hkI : (j : Int) < (n : Int) := by omega
      have hk0 : (0 : Int) ≤ (j : Int) := by omega
      have e1 : ((x.prio : Int) == (x.prio : Int)) = true := by simp
      have e2 : (x.mat == x.mat) = true := by simp
      clear hq1 hq2 hq a0 a1 a2 a3 b0 b1 b2 b3 hp1 hp2 k0 k1 k2 k3 m0 m1 m2 m3
      go_wp2_with fail
      go_region_held2 (fun W => W.cell? ⟨g1, j * 4, none⟩ = some (.int .i64 x.prio) ∧ W.cell? ⟨g1, j * 4 + 1, none⟩ = some (.string (tx x.mat)) ∧ W.cell? ⟨g1, j * 4 + 2, none⟩ = some (.int .i64 x.kind) ∧ W.cell? ⟨g1, j * 4 + 3, none⟩ = some (.slice o1 x.ports.length s1) ∧ W.cell? ⟨g2, j * 4, none⟩ = some (.int .i64 x.prio) ∧ W.cell? ⟨g2, j * 4 + 1, none⟩ = some (.string (tx x.mat)) ∧ W.cell? ⟨g2, j * 4 + 2, none⟩ = some (.int .i64 x.kind) ∧ W.cell? ⟨g2, j * 4 + 3, none⟩ = some (.slice o2 x.ports.length s2)) (first | exact hS2 | exact HSS.out _ HB.out.drew | exact HSS.out _ HB.out) (first | (go_at_call 22; refine (HS.out _ ?_).mono ?_; exact HB.out.drew; rintro en w2 ⟨rfl, hb2⟩; have B2 := hid (HB.out.drew.trans (hb2.mono HB.out.drew.size)); have hS2 := HSS.out w2 B2.out))
      go_wp2
      go_roundw
      case rel => exact ⟨j + 1, by omega, by go_num, B2⟩
      case measure => simp [intOf]; omega
    · have hkI : ¬ ((j : Int) < (n : Int)) := by omega
      go_wp2
      go_ret
      exact ⟨rfl, HB.out⟩
end Go.Proofs.YtipmlcdnfaobiaaGreat
namespace Go.Proofs.YtipmlcdnfaobiaaGreat
open Go.RowKit
open Wo (Wd)

end Go.Proofs.YtipmlcdnfaobiaaGreat
namespace Go.Proofs.YtipmlcdnfaobiaaGreat
open Go.RowKit

end Go.Proofs.YtipmlcdnfaobiaaGreat
namespace Go.Proofs.YtipmlcdnfaobiaaGreat
open Go.RowKit
open Wo (Wd)

theorem rise_of_adj {ps : List (List UInt8)} (h : ∀ i, i + 1 < ps.length → ps.getD i [] < ps.getD (i + 1) []) : Ru.Rise ps := by
  refine List.pairwise_iff_getElem.2 ?_
  intro i j hi hj hij
  induction j with
  | zero => omega
  | succ j ih =>
    have hs : ps[j] < ps[j + 1] := by
      have := h j hj
      simpa [List.getD_eq_getElem?_getD, List.getElem?_eq_getElem hj, List.getElem?_eq_getElem (show j < ps.length by omega)] using this
    rcases Nat.lt_or_eq_of_le (Nat.le_of_lt_succ hij) with h1 | rfl
    · exact List.lt_trans (ih (by omega) h1) hs
    · exact hs
theorem getD_mem {ps : List (List UInt8)} {i : Nat} (h : i < ps.length) : ps.getD i [] ∈ ps := by
  have : ps.getD i [] = ps[i] := by simp [List.getD_eq_getElem?_getD, List.getElem?_eq_getElem h]
  rw [this]; exact List.getElem_mem _
theorem rise_getD {ps : List (List UInt8)} (h : Ru.Rise ps) {i : Nat} (hi : i + 1 < ps.length) : ps.getD i [] < ps.getD (i + 1) [] := by
  have := rise_at h hi
  simpa [List.getD_eq_getElem?_getD, List.getElem?_eq_getElem hi, List.getElem?_eq_getElem (show i < ps.length by omega)] using this
/-- Ports that are names and rise, as far as they are looked at. -/
structure Good (ps : List (List UInt8)) (n : Nat) : Prop where
  names : ∀ i, i < n → Wo.nameB (ps.getD i []) = true
  rise : ∀ i, i + 1 < n → ps.getD i [] < ps.getD (i + 1) []
theorem Good.zero (ps : List (List UInt8)) : Good ps 0 := ⟨fun i h => by omega, fun i h => by omega⟩
theorem Good.ok {ps : List (List UInt8)} (h : Good ps ps.length) (h1 : 1 ≤ ps.length) (h2 : ps.length ≤ 64) : okPorts ps := by
  refine ⟨h1, h2, fun p hp => ?_, rise_of_adj h.rise⟩
  obtain ⟨i, hi, rfl⟩ := List.mem_iff_getElem.1 hp
  have := h.names i hi
  simpa [List.getD_eq_getElem?_getD, List.getElem?_eq_getElem hi] using this

/-- An answer yes or no. -/
def YesNo (ok : Prop) (w : World) (en : Ending) (w' : World) : Prop := ∃ b, en = .returned (.bool b) ∧ (b = true ↔ ok) ∧ Below w.heap.size w w'
theorem YesNo.no {ok : Prop} {w w' : World} (h : ¬ ok) (hb : Below w.heap.size w w') : YesNo ok w (.returned (.bool false)) w' := ⟨false, rfl, ⟨fun e => absurd e (by decide), fun q => absurd q h⟩, hb⟩
theorem YesNo.yes {ok : Prop} {w w' : World} (h : ok) (hb : Below w.heap.size w w') : YesNo ok w (.returned (.bool true)) w' := ⟨true, rfl, ⟨fun _ => h, fun _ => rfl⟩, hb⟩

set_option maxRecDepth 4000 in
set_option maxHeartbeats 2000000 in
theorem mayBe_high {w : World} {g o cap k : Nat} {ps : List (List UInt8)} (hk : k = 3 ∨ k = 4) (h1 : 1 ≤ ps.length) (h2 : ps.length ≤ 64) (hz : ∀ p ∈ ps, p.length ≤ maxLen) (hg : g < w.heap.size) (hc : ∀ i, i < ps.length → w.cell? ⟨g, o + i, none⟩ = some (.string (tx (ps.getD i [])))) :
    Calls Tryz.prog 132 #[.agg #[.int .i64 k, .slice (some ⟨g, o, none⟩) ps.length cap]] w fun en w' => YesNo (okPorts ps) w en w' := by
  have HC := hid hc
  have HZ := hid hz
  clear hc hz
  go_enter Tryz.func132, Tryz.ntmps132
  go_wp2_with fail
  refine (portsOf_high k hk _).mono ?_
  rintro en w1 ⟨rfl, rfl⟩
  go_wp2_with fail
  go_loopw [28] (fun i wr => ∃ j : Nat, j ≤ ps.length ∧ i = .int .i64 j ∧ Hid (Good ps j) ∧ (∀ a, wr.cell? a = (w.alloc (aob k (.slice (some ⟨g, o, none⟩) ps.length cap))).cell? a) ∧ Below w.heap.size w wr) (fun i _ => ps.length - (intOf i).toNat)
  case atStart => exact ⟨0, Nat.zero_le _, rfl, Good.zero ps, fun _ => rfl, (Below.refl _ _).alloc (Nat.le_refl _) _⟩
  case round =>
    obtain ⟨j, hj, rfl, HG, hcl, hbl⟩ := hrel
    by_cases hlt : j < ps.length
    · have c0 := (hcl _).trans (alloc_cell (HC.out j hlt) hg _)
      have d1 := (hcl ⟨w.heap.size, 1, none⟩).trans (show _ = some (.slice (some ⟨g, o, none⟩) ps.length cap) by rw [cell_at (new_0 w (aob k (.slice (some ⟨g, o, none⟩) ps.length cap)))]; rfl)
      have HCL := hid hcl
      obtain ⟨p, hpq⟩ : ∃ p, p = ps.getD j [] := ⟨_, rfl⟩
      have HPQ := hid hpq
      rw [← hpq] at c0
      have HU := hid (fun w' => Name_any (tx p) w' (by rw [tx_size, hpq]; exact HZ.out _ (getD_mem hlt)))
      rw [tx_list] at HU
      have hkI : (j : Int) < (ps.length : Int) := by omega
      have hk0 : (0 : Int) ≤ (j : Int) := by omega
      cases hnm : Wo.nameB p with
      | false =>
        have HN := hid hnm
        rw [hnm] at HU
        clear hcl hnm hpq
        go_wp2_with fail
        refine (HU.out _).mono ?_
        rintro en w2 ⟨rfl, rfl⟩
        go_wp2
        go_ret
        refine YesNo.no (fun h => ?_) hbl
        have := h.2.2.1 _ (getD_mem hlt)
        rw [← HPQ.out, HN.out] at this
        exact absurd this (by decide)
      | true =>
        have HN := hid hnm
        rw [hnm] at HU
        cases j with
        | zero =>
          clear hcl hnm hpq
          rw [Nat.add_zero] at c0
          go_wp2_with fail
          refine (HU.out _).mono ?_
          rintro en w2 ⟨rfl, rfl⟩
          go_wp2
          go_roundw
          case rel => exact ⟨1, by omega, by go_num, ⟨fun i hi => by rw [show i = 0 by omega, ← HPQ.out]; exact HN.out, fun i hi => by omega⟩, HCL.out, hbl⟩
          case measure => simp [intOf]; omega
        | succ i =>
          have c1 := (hcl _).trans (alloc_cell (HC.out i (by omega)) hg _)
          obtain ⟨q, hq⟩ : ∃ q, q = ps.getD i [] := ⟨_, rfl⟩
          have HQ := hid hq
          rw [← hq] at c1
          have hpos : (0 : Int) < (i : Int) + 1 := by omega
          have hneg : (0 : Int) ≤ (i : Int) := by omega
          have hilt : (i : Int) < (ps.length : Int) := by omega
          cases hless : Op.bytesLess q p with
          | true =>
            have HL := hid (show q < p by rw [bytesLess_eq] at hless; simpa using hless)
            clear hcl hnm hpq hq
            go_wp2_with fail
            refine (HU.out _).mono ?_
            rintro en w2 ⟨rfl, rfl⟩
            go_wp2
            go_roundw
            case rel =>
              refine ⟨i + 1 + 1, by omega, by go_num, ⟨fun a ha => ?_, fun a ha => ?_⟩, HCL.out, hbl⟩
              · by_cases e : a = i + 1
                · rw [e, ← HPQ.out]; exact HN.out
                · exact HG.out.names a (by omega)
              · by_cases e : a = i
                · rw [e, ← HPQ.out, ← HQ.out]; exact HL.out
                · exact HG.out.rise a (by omega)
            case measure => simp [intOf]; omega
          | false =>
            have HL := hid (show ¬ q < p by rw [bytesLess_eq] at hless; simpa using hless)
            clear hcl hnm hpq hq
            go_wp2_with fail
            refine (HU.out _).mono ?_
            rintro en w2 ⟨rfl, rfl⟩
            go_wp2
            go_ret
            refine YesNo.no (fun h => ?_) hbl
            refine absurd ?_ HL.out
            rw [HQ.out, HPQ.out]
            exact rise_getD h.2.2.2 hlt
    · have hkI : ¬ ((j : Int) < (ps.length : Int)) := by omega
      have HO := hid (show okPorts ps by
        have : j = ps.length := by omega
        subst this
        exact HG.out.ok h1 h2)
      clear hcl
      go_wp2
      go_ret
      exact YesNo.yes HO.out hbl
/-- An action that may be. -/
def okAct (k : Int) (ps : List (List UInt8)) : Prop := ((k = 1 ∨ k = 2) ∧ ps = []) ∨ ((k = 3 ∨ k = 4) ∧ okPorts ps)

set_option maxHeartbeats 400000 in
theorem portsOf_none (k : Int) (h : k ≠ 1 ∧ k ≠ 2 ∧ k ≠ 3 ∧ k ≠ 4) (w : World) : Calls Tryz.prog 141 #[.int .i64 k] w fun e w' => e = .returned (.tuple #[.int .i64 1, .int .i64 0]) ∧ w' = w := by
  obtain ⟨h1, h2, h3, h4⟩ := h
  go_enter Tryz.func141, Tryz.ntmps141
  go_wp2
  refine bodyPost_ret (v := .tuple #[.int .i64 1, .int .i64 0]) (by simp [results, Tryz.results141, go_sem]) rfl ⟨rfl, rfl⟩

set_option maxRecDepth 4000 in
set_option maxHeartbeats 2000000 in
/-- Of ports that are too few or too many, whatever they are. -/
theorem mayBe_count {w : World} {ao : Option Addr} {n cap a b : Nat} {k : Int} (hp : ∀ w', Calls Tryz.prog 141 #[.int .i64 k] w' fun e w'' => e = .returned (.tuple #[.int .i64 a, .int .i64 b]) ∧ w'' = w') (hn : n < a ∨ b < n) :
    Calls Tryz.prog 132 #[.agg #[.int .i64 k, .slice ao n cap]] w fun en w' => en = .returned (.bool false) ∧ Below w.heap.size w w' := by
  have HP := hid hp
  clear hp
  by_cases h1 : n < a
  · have hI : (n : Int) < (a : Int) := by omega
    go_enter Tryz.func132, Tryz.ntmps132
    go_wp2_with fail
    refine (HP.out _).mono ?_
    rintro en w1 ⟨rfl, rfl⟩
    go_wp2
    go_ret
    exact ⟨rfl, (Below.refl _ _).alloc (Nat.le_refl _) _⟩
  · have hI : ¬ (n : Int) < (a : Int) := by omega
    have hJ : (b : Int) < (n : Int) := by omega
    go_enter Tryz.func132, Tryz.ntmps132
    go_wp2_with fail
    refine (HP.out _).mono ?_
    rintro en w1 ⟨rfl, rfl⟩
    go_wp2
    go_ret
    exact ⟨rfl, (Below.refl _ _).alloc (Nat.le_refl _) _⟩

set_option maxRecDepth 4000 in
set_option maxHeartbeats 2000000 in
theorem mayBe_low {w : World} {ao : Option Addr} {cap k : Nat} (hk : k = 1 ∨ k = 2) :
    Calls Tryz.prog 132 #[.agg #[.int .i64 k, .slice ao 0 cap]] w fun en w' => en = .returned (.bool true) ∧ Below w.heap.size w w' := by
  go_enter Tryz.func132, Tryz.ntmps132
  go_wp2_with fail
  refine (portsOf_low k hk _).mono ?_
  rintro en w1 ⟨rfl, rfl⟩
  go_wp2_with fail
  refine wp_loop_rounds 1 ?_
  rw [rounds_succ]
  go_wp2
  go_ret
  exact ⟨rfl, (Below.refl _ _).alloc (Nat.le_refl _) _⟩

/-- actionMayBe, of any action. -/
theorem mayBe_any {w : World} {v : Value} {k : Int} {ps : List (List UInt8)} (ht : Txs w v ps) (hz : ∀ p ∈ ps, p.length ≤ maxLen) :
    Calls Tryz.prog 132 #[.agg #[.int .i64 k, v]] w fun en w' => YesNo (okAct k ps) w en w' := by
  obtain ⟨ao, cap, rfl, hr⟩ := ht
  by_cases hk : k = 1 ∨ k = 2
  · obtain ⟨n, rfl, hn⟩ : ∃ n : Nat, k = n ∧ (n = 1 ∨ n = 2) := ⟨k.toNat, by omega, by omega⟩
    by_cases h0 : ps = []
    · subst h0
      exact (mayBe_low hn).mono fun _ _ ⟨e, hb⟩ => by rw [e]; exact YesNo.yes (Or.inl ⟨hk, rfl⟩) hb
    · have hl : 0 < ps.length := List.length_pos_iff.2 h0
      refine (mayBe_count (a := 0) (b := 0) (fun w' => portsOf_low n hn w') (Or.inr hl)).mono fun _ _ ⟨e, hb⟩ => ?_
      rw [e]
      exact YesNo.no (fun q => by rcases q with ⟨_, q⟩ | ⟨q, _⟩; exact h0 q; omega) hb
  · by_cases hh : k = 3 ∨ k = 4
    · obtain ⟨n, rfl, hn⟩ : ∃ n : Nat, k = n ∧ (n = 3 ∨ n = 4) := ⟨k.toNat, by omega, by omega⟩
      by_cases hl : 1 ≤ ps.length ∧ ps.length ≤ 64
      · rcases hr with rfl | ⟨g, o, rfl, hg, hc⟩
        · simp at hl
        · refine (mayBe_high (cap := cap) hn hl.1 hl.2 hz hg hc).mono fun _ _ ⟨b, e, hi, hb⟩ => ⟨b, e, hi.trans ⟨fun q => Or.inr ⟨hh, q⟩, fun q => ?_⟩, hb⟩
          rcases q with ⟨q, _⟩ | ⟨_, q⟩
          · exact absurd q hk
          · exact q
      · refine (mayBe_count (a := 1) (b := 64) (fun w' => portsOf_high n hn w') (by omega)).mono fun _ _ ⟨e, hb⟩ => ?_
        rw [e]
        exact YesNo.no (fun q => by rcases q with ⟨q, _⟩ | ⟨_, q⟩; exact hk q; exact hl ⟨q.1, q.2.1⟩) hb
    · refine (mayBe_count (a := 1) (b := 0) (fun w' => portsOf_none k (by omega) w') (by omega)).mono fun _ _ ⟨e, hb⟩ => ?_
      rw [e]
      exact YesNo.no (fun q => by rcases q with ⟨q, _⟩ | ⟨q, _⟩; exact hk q; exact hh q) hb
end Go.Proofs.YtipmlcdnfaobiaaGreat
