/-
  A rule that may be: actionMayBe, Check.
  The document's Parse: the walk.
  The document's Parse.
  The document's known: is there a rule with that key?
  The document's rule of a line.
-/
import Derived.Test.YthkhlhghbdbopaaGreatDoorUDocE
import Derived.Test.YthkhlhghbdbopaaGreatDoorWRefLAnd
namespace Go.Proofs.YthkhlhghbdbopaaGreatDoor
open Go.RowKit
open Wo (Wd)

theorem atW_0 (l : List Wd) : Ru.nx (Ru.endW l) l = atW l 0 := by simp [atW]
theorem tail_1 (l : List Wd) : l.tail = l.drop 1 := by simp
theorem drul_50 {l : List Wd} {width : Nat} (h : (atW l 0).1 ≠ Ru.ruleT) : Ru.rul width l = .error (Ru.ft (atW l 0) 50) := by
  rw [← atW_0] at h ⊢; exact if_pos h
theorem drul_32 {l : List Wd} {width : Nat} (h1 : (atW l 0).1 = Ru.ruleT) (h2 : Wo.numB (atW l 1).1 = false) : Ru.rul width l = .error (Ru.ft (atW l 1) 32) := by
  have := rul_32 (width := width) (l := l) (by rw [atW_0]; exact h1) (by rw [tail_1]; exact h2)
  rw [tail_1] at this; exact this
theorem tail_2 (l : List Wd) : l.tail.tail = l.drop 2 := by rw [tail_1 l, tail_drop]
theorem tail_3 (l : List Wd) : l.tail.tail.tail = l.drop 3 := by rw [tail_2 l, tail_drop]
theorem drul_10 {l : List Wd} {width : Nat} (h1 : (atW l 0).1 = Ru.ruleT) (h2 : Wo.numB (atW l 1).1 = true) (h3 : Cub.Cu.right (atW l 2).1 = false) : Ru.rul width l = .error (Ru.ft (atW l 2) 10) := by
  have := rul_10 (width := width) (l := l) (by rw [atW_0]; exact h1) (by rw [tail_1]; exact h2) (by rw [tail_2]; exact h3)
  rw [tail_2] at this; exact this
theorem drul_11 {l : List Wd} {width : Nat} (h1 : (atW l 0).1 = Ru.ruleT) (h2 : Wo.numB (atW l 1).1 = true) (h3 : Cub.Cu.right (atW l 2).1 = true) (h4 : (atW l 2).1.length ≠ width) : Ru.rul width l = .error (Ru.ft (atW l 2) 11) := by
  have := rul_11 (width := width) (l := l) (by rw [atW_0]; exact h1) (by rw [tail_1]; exact h2) (by rw [tail_2]; exact h3) (by rw [tail_2]; exact h4)
  rw [tail_2] at this; exact this
theorem drul_err {l : List Wd} {width : Nat} {f : Ru.Ft} (h1 : (atW l 0).1 = Ru.ruleT) (h2 : Wo.numB (atW l 1).1 = true) (h3 : Cub.Cu.right (atW l 2).1 = true) (h4 : (atW l 2).1.length = width) (ha : Ru.act (Ru.endW l) (l.drop 3) = .error f) : Ru.rul width l = .error f := by
  have := rul_act (width := width) (l := l) (by rw [atW_0]; exact h1) (by rw [tail_1]; exact h2) (by rw [tail_2]; exact h3) (by rw [tail_2]; exact h4)
  rw [tail_3, ha] at this; exact this
theorem drul_ok {l : List Wd} {width k j : Nat} {ps : List (List UInt8)} (h1 : (atW l 0).1 = Ru.ruleT) (h2 : Wo.numB (atW l 1).1 = true) (h3 : Cub.Cu.right (atW l 2).1 = true) (h4 : (atW l 2).1.length = width) (ha : Ru.act (Ru.endW l) (l.drop 3) = .ok (k, ps, l.drop j)) :
    Ru.rul width l = if (atW l j).1 ≠ [] then .error (Ru.ft (atW l j) 50) else .ok ⟨Wo.numV (atW l 1).1, (atW l 2).1, k, ps⟩ := by
  have := rul_act (width := width) (l := l) (by rw [atW_0]; exact h1) (by rw [tail_1]; exact h2) (by rw [tail_2]; exact h3) (by rw [tail_2]; exact h4)
  rw [tail_3, ha] at this
  rw [tail_2, tail_1] at this
  exact this
theorem atW_ne {l : List Wd} {j : Nat} (hj : j ≤ l.length) (hne : ∀ x ∈ l, x.1 ≠ []) : (atW l j).1 ≠ [] ↔ j < l.length := by
  constructor
  · exact atW_lt hj
  · intro h
    rw [atW_in h]
    exact hne _ (List.getElem_mem _)

end Go.Proofs.YthkhlhghbdbopaaGreatDoor
namespace Go.Proofs.YthkhlhghbdbopaaGreatDoor
open Go.RowKit
open Wo (Wd)

theorem RsAt.some {w : World} {B : Nat} {v : Value} {ps : List (Ru.Rl × Value)} (h : RsAt w B v ps) (h0 : 0 < ps.length) : ∃ g cap, v = .slice (some ⟨g, 0, none⟩) ps.length cap ∧ g < w.heap.size ∧
    ∀ (i : Nat) (q : Ru.Rl × Value), ps[i]? = some q → w.cell? ⟨g, i * 4, none⟩ = some (.int .i64 q.1.prio) ∧ w.cell? ⟨g, i * 4 + 1, none⟩ = some (.string (tx q.1.mat)) ∧ w.cell? ⟨g, i * 4 + 2, none⟩ = some (.int .i64 q.1.kind) ∧ w.cell? ⟨g, i * 4 + 3, none⟩ = some q.2 := by
  obtain ⟨g, cap, rfl, hg, hc⟩ := own_some h.own h0
  refine ⟨g, cap, rfl, hg, fun i q hq => ?_⟩
  obtain ⟨f1, f2, f3, f4⟩ := flatR_at hq
  exact ⟨hc _ _ f1, hc _ _ f2, hc _ _ f3, hc _ _ f4⟩

end Go.Proofs.YthkhlhghbdbopaaGreatDoor
namespace Go.Proofs.YthkhlhghbdbopaaGreatDoor
open Go.RowKit
open Wo (Wd)

/-- A row of rules as the document makes it: the row its own, the ports wherever they lie. -/
structure RsD (w : World) (B : Nat) (v : Value) (ps : List (Ru.Rl × Value)) : Prop where
  own : w.ownsRow B 30 4 v ps.length (flatR ps)
  ports : ∀ q ∈ ps, PortsV w 0 q.2 q.1.ports
theorem RsAt.d {w : World} {B : Nat} {v : Value} {ps : List (Ru.Rl × Value)} (h : RsAt w B v ps) : RsD w B v ps := ⟨h.own, fun q hq => (h.ports q hq).mono (Nat.zero_le _)⟩
theorem RsD.at0 {w : World} {B : Nat} {v : Value} {ps : List (Ru.Rl × Value)} (h : RsD w B v ps) : RsAt w 0 v ps := ⟨h.own.mono (Nat.zero_le _), h.ports⟩
theorem RsD.kept {w w' : World} {B : Nat} {v : Value} {ps : List (Ru.Rl × Value)} (h : RsD w B v ps) {row : Option Nat} (hg : w.grownBy w' row) (hn : ∀ b, row = some b → ∀ cs T fr, w.heap[b]? = some (.cells cs T fr) → T ≠ 30 ∧ T ≠ 9) : RsD w' B v ps := by
  have hno : v.ownBlock = none ∨ v.ownBlock ≠ row := by
    rcases hv : v.ownBlock with _ | k
    · exact Or.inl rfl
    · refine Or.inr (fun q => ?_)
      rcases h.own.2 with ⟨rfl, _⟩ | ⟨b, cap, cur, rfl, _, hb, _⟩
      · cases hv
      · have e : b = k := by simpa [Value.ownBlock] using hv
        subst e
        exact (hn b q.symm _ _ _ hb).1 rfl
  exact ⟨h.own.kept hg hno, fun q hq => (h.ports q hq).kept fun b cs hb _ => hg.block b (lt_of_block hb) (fun e => (hn b e.symm _ _ _ hb).2 rfl)⟩
theorem RsD.below {w w' : World} {B : Nat} {v : Value} {ps : List (Ru.Rl × Value)} (h : RsD w B v ps) (hb : Below w.heap.size w w') : RsD w' B v ps := h.kept (grown_of_below none hb) (fun b e => by cases e)
theorem RsD.snoc {w w' : World} {B : Nat} {v v' : Value} {ps : List (Ru.Rl × Value)} {q : Ru.Rl × Value} (h : RsD w B v ps) (hq : PortsV w 0 q.2 q.1.ports) (ho : w'.ownsRow B 30 4 v' (ps.length + 1) (flatR ps ++ [.int .i64 q.1.prio, .string (tx q.1.mat), .int .i64 q.1.kind, q.2])) (hg : w.grownBy w' v.ownBlock) : RsD w' B v' (ps ++ [q]) := by
  have hk : ∀ {u : Value} {zs}, PortsV w 0 u zs → PortsV w' 0 u zs := fun hp => hp.kept fun b cs hb _ => hg.block b (lt_of_block hb) (fun e => own_ne h.own hb (by decide) e.symm)
  refine ⟨by rw [flatR_snoc, List.length_append, List.length_singleton]; exact ho, fun p hp => ?_⟩
  rcases List.mem_append.1 hp with hp | hp
  · exact hk (h.ports p hp)
  · rw [List.mem_singleton.1 hp]; exact hk hq
theorem tk_ne (l : List UInt8) (c : Nat) : ∀ p ∈ (Wo.tk l c).1, p.1 ≠ [] := by
  generalize hn : l.length = n
  induction n using Nat.strongRecOn generalizing l c with
  | ind n ih =>
    intro p hp
    cases l with
    | nil => rw [Wo.tk_nil] at hp; exact absurd hp (by simp)
    | cons a t =>
      simp only [List.length_cons] at hn
      by_cases h35 : a.toNat = 35
      · rw [Wo.tk_hash _ _ _ h35] at hp; exact absurd hp (by simp)
      · cases hb : Wo.blk a.toNat with
        | true =>
          rw [Wo.tk_blank _ _ _ h35 hb] at hp
          exact ih t.length (by omega) t _ rfl p hp
        | false =>
          by_cases h0 : Wo.fst (a :: t) = 0
          · rw [Wo.tk_fault _ _ _ h35 hb h0] at hp; exact absurd hp (by simp)
          · rw [Wo.tk_word _ _ _ h35 hb h0] at hp
            have hle := Wo.fst_le (a :: t)
            simp only [List.length_cons] at hle
            rcases List.mem_cons.1 hp with rfl | hp
            · intro e
              have := congrArg List.length e
              simp only [List.length_take, List.length_cons, List.length_nil] at this
              omega
            · exact ih ((a :: t).drop (Wo.fst (a :: t))).length (by rw [List.length_drop, List.length_cons]; omega) _ _ rfl p hp
theorem rd_full (ls : List (List UInt8)) (n : Nat) : ∀ x ∈ (Wo.rd ls n).1, ∀ y ∈ x, y.1 ≠ [] := by
  induction ls generalizing n with
  | nil => intro x hx; exact absurd hx (by simp [Wo.rd])
  | cons l ls ih =>
    intro x hx
    cases e : (Wo.tk l 1).2 with
    | some c => rw [Wo.rd_fault e] at hx; exact absurd hx (by simp)
    | none =>
      by_cases hz : (Wo.tk l 1).1 = []
      · rw [Wo.rd_none e hz] at hx; exact ih _ x hx
      · rw [Wo.rd_some e hz] at hx
        rcases List.mem_cons.1 hx with rfl | hx
        · intro y hy
          simp only [Wo.wds, List.mem_map] at hy
          obtain ⟨p, hp, rfl⟩ := hy
          exact tk_ne l 1 p hp
        · exact ih _ x hx
theorem read_full (s : List UInt8) : ∀ x ∈ Wo.read s, ∀ y ∈ x, y.1 ≠ [] := by
  unfold Wo.read
  split
  · exact rd_full _ _
  · intro x hx; exact absurd hx (by simp)

/-- What holds while the document reads lines. -/
structure DPInv (w : World) (width : Nat) (ls : List (List Wd)) (k : Nat) (v : Value) (ps : List (Ru.Rl × Value)) (wr : World) : Prop where
  rows : RsD wr w.heap.size v ps
  below : Below w.heap.size w wr
  len : ps.length = k
  few : k ≤ 4096
  le : k ≤ ls.length
  all : Ru.rds width ls [] = Ru.rds width (ls.drop k) (ps.map Prod.fst)
section
variable {w : World} {width : Nat} {ls : List (List Wd)} {k : Nat} {v : Value} {ps : List (Ru.Rl × Value)} {wr : World}
theorem DPInv.drop (_h : DPInv w width ls k v ps wr) {x : List Wd} (hx : ls[k]? = some x) : ls.drop k = x :: ls.drop (k + 1) := by
  have hlt := (List.getElem?_eq_some_iff.1 hx).1
  rw [List.drop_eq_getElem_cons hlt]
  rw [List.getElem?_eq_getElem hlt] at hx
  simp only [Option.some.injEq] at hx
  rw [hx]
theorem DPInv.faultR (h : DPInv w width ls k v ps wr) {x : List Wd} (hx : ls[k]? = some x) {f : Ru.Ft} (hf : Ru.rul width x = .error f) : Ru.rds width ls [] = .error f := by
  rw [h.all, h.drop hx, Ru.rds, hf]
theorem DPInv.faultS (h : DPInv w width ls k v ps wr) {x : List Wd} (hx : ls[k]? = some x) {y : Ru.Rl} (hy : Ru.rul width x = .ok y) (hin : decide ((y.prio, y.mat) ∈ ps.map keyOfR) = true) : Ru.rds width ls [] = .error (Ru.ft (atW x 0) 52) := by
  have : (ps.map Prod.fst).any (fun z => Ru.same z y) = true := by rw [any_key]; exact hin
  rw [h.all, h.drop hx, Ru.rds, hy, ← atW_0]
  simp only [this, if_true]
theorem DPInv.faultM (h : DPInv w width ls k v ps wr) {x : List Wd} (hx : ls[k]? = some x) {y : Ru.Rl} (hy : Ru.rul width x = .ok y) (hin : decide ((y.prio, y.mat) ∈ ps.map keyOfR) = false) (hk : 4096 ≤ k) : Ru.rds width ls [] = .error (Ru.ft (atW x 0) 3) := by
  have : (ps.map Prod.fst).any (fun z => Ru.same z y) = false := by rw [any_key]; exact hin
  rw [h.all, h.drop hx, Ru.rds, hy, ← atW_0]
  simp only [this, Bool.false_eq_true, if_false, List.length_map]
  rw [if_pos (by rw [h.len]; exact hk)]
theorem DPInv.onward (h : DPInv w width ls k v ps wr) {x : List Wd} (hx : ls[k]? = some x) {y : Ru.Rl} (hy : Ru.rul width x = .ok y) (hin : decide ((y.prio, y.mat) ∈ ps.map keyOfR) = false) (hk : k < 4096) (u : Value) : Ru.rds width ls [] = Ru.rds width (ls.drop (k + 1)) ((ps ++ [(y, u)]).map Prod.fst) := by
  have : (ps.map Prod.fst).any (fun z => Ru.same z y) = false := by rw [any_key]; exact hin
  rw [h.all, h.drop hx, Ru.rds, hy]
  simp only [this, Bool.false_eq_true, if_false, List.length_map]
  rw [if_neg (by rw [h.len]; omega)]
  simp
end
/-- What the document's Parse leaves. -/
def DParsePost (w : World) (s : List UInt8) (width : Int) (en : Ending) (w' : World) : Prop :=
  Below w.heap.size w w' ∧ ((∃ f : Ru.Ft, Ru.prs s width = .error f ∧ en = .returned (.tuple #[.slice none 0 0, .int .i64 f.1, .int .i64 f.2.1, .int .i64 f.2.2])) ∨
    (∃ v ps, Ru.prs s width = .ok (ps.map Prod.fst) ∧ en = .returned (.tuple #[v, .int .i64 0, .int .i64 0, .int .i64 0]) ∧ RsD w' w.heap.size v ps))
end Go.Proofs.YthkhlhghbdbopaaGreatDoor
namespace Go.Proofs.YthkhlhghbdbopaaGreatDoor
open Go.RowKit
open Wo (Wd)

end Go.Proofs.YthkhlhghbdbopaaGreatDoor
namespace Go.Proofs.YthkhlhghbdbopaaGreatDoor
open Go.RowKit
open Wo (Wd)

/-- Ports that an action of kind all or any may have. -/
def okPorts (ps : List (List UInt8)) : Prop := 1 ≤ ps.length ∧ ps.length ≤ 64 ∧ (∀ p ∈ ps, Wo.nameB p = true) ∧ Ru.Rise ps
theorem rise_at {ps : List (List UInt8)} (h : Ru.Rise ps) {i : Nat} (hi : i + 1 < ps.length) : ps[i] < ps[i + 1] := List.pairwise_iff_getElem.1 h i (i + 1) (by omega) hi (by omega)
theorem nameB_short {l : List UInt8} (h : Wo.nameB l = true) : l.length ≤ 64 := by
  unfold Wo.nameB at h
  simp only [decide_eq_true_eq] at h
  exact h.2.1

set_option maxRecDepth 4000 in
set_option maxHeartbeats 2000000 in
theorem mayBe_right {w : World} {g o cap k : Nat} {ps : List (List UInt8)} (hk : k = 3 ∨ k = 4) (hp : okPorts ps) (hg : g < w.heap.size) (hc : ∀ i, i < ps.length → w.cell? ⟨g, o + i, none⟩ = some (.string (tx (ps.getD i [])))) :
    Calls Tryz.prog 45 #[.agg #[.int .i64 k, .slice (some ⟨g, o, none⟩) ps.length cap]] w fun en w' => en = .returned (.bool true) ∧ Below w.heap.size w w' := by
  obtain ⟨h1, h2, h3, h4⟩ := hp
  have HC := hid hc
  have HNM := hid h3
  have HRI := hid h4
  clear hc h3 h4
  go_enter Tryz.func45, Tryz.ntmps45
  go_wp2_with fail
  refine (portsOf_high k hk _).mono ?_
  rintro en w1 ⟨rfl, rfl⟩
  go_wp2_with fail
  go_loopw [28] (fun i wr => ∃ j : Nat, j ≤ ps.length ∧ i = .int .i64 j ∧ (∀ a, wr.cell? a = (w.alloc (aob k (.slice (some ⟨g, o, none⟩) ps.length cap))).cell? a) ∧ Below w.heap.size w wr) (fun i _ => ps.length - (intOf i).toNat)
  case atStart => exact ⟨0, Nat.zero_le _, rfl, fun _ => rfl, (Below.refl _ _).alloc (Nat.le_refl _) _⟩
  case round =>
    obtain ⟨j, hj, rfl, hcl, hbl⟩ := hrel
    by_cases hlt : j < ps.length
    · have c0 := (hcl _).trans (alloc_cell (HC.out j hlt) hg _)
      have d1 := (hcl ⟨w.heap.size, 1, none⟩).trans (show _ = some (.slice (some ⟨g, o, none⟩) ps.length cap) by rw [cell_at (new_0 w (aob k (.slice (some ⟨g, o, none⟩) ps.length cap)))]; rfl)
      have HCL := hid hcl
      have hgd : ps.getD j [] = ps[j] := by simp [List.getD_eq_getElem?_getD, List.getElem?_eq_getElem hlt]
      have hnm : Wo.nameB (ps.getD j []) = true := by rw [hgd]; exact HNM.out _ (List.getElem_mem _)
      obtain ⟨p, hpq⟩ : ∃ p, p = ps.getD j [] := ⟨_, rfl⟩
      rw [← hpq] at c0 hnm
      have HU := hid (fun w' => uName p w' (Nat.le_trans (nameB_short hnm) (by omega)))
      rw [hnm] at HU
      have hkI : (j : Int) < (ps.length : Int) := by omega
      have hk0 : (0 : Int) ≤ (j : Int) := by omega
      cases j with
      | zero =>
        clear hcl hnm hgd hpq
        rw [Nat.add_zero] at c0
        go_wp2_with fail
        refine (HU.out _).mono ?_
        rintro en w2 ⟨rfl, rfl⟩
        go_wp2
        go_roundw
        case rel => exact ⟨1, by omega, by go_num, HCL.out, hbl⟩
        case measure => simp [intOf]; omega
      | succ i =>
        have c1 := (hcl _).trans (alloc_cell (HC.out i (by omega)) hg _)
        obtain ⟨q, hq⟩ : ∃ q, q = ps.getD i [] := ⟨_, rfl⟩
        rw [← hq] at c1
        have hless : Op.bytesLess q p = true := by
          rw [bytesLess_eq, hq, hpq, hgd]
          have e : ps.getD i [] = ps[i] := by simp [List.getD_eq_getElem?_getD, List.getElem?_eq_getElem (show i < ps.length by omega)]
          rw [e]
          simpa using rise_at HRI.out hlt
        clear hcl hnm hgd hpq hq
        have hpos : (0 : Int) < (i : Int) + 1 := by omega
        have hneg : (0 : Int) ≤ (i : Int) := by omega
        have hilt : (i : Int) < (ps.length : Int) := by omega
        go_wp2_with fail
        refine (HU.out _).mono ?_
        rintro en w2 ⟨rfl, rfl⟩
        go_wp2
        go_roundw
        case rel => exact ⟨i + 1 + 1, by omega, by go_num, HCL.out, hbl⟩
        case measure => simp [intOf]; omega
    · have hkI : ¬ ((j : Int) < (ps.length : Int)) := by omega
      clear hcl
      go_wp2
      go_ret
      exact ⟨rfl, hbl⟩

set_option maxRecDepth 4000 in
set_option maxHeartbeats 2000000 in
/-- Check, of a rule that may be with ports. -/
theorem check_right {w : World} {g o cap k p : Nat} {m : List UInt8} {ps : List (List UInt8)} (hk : k = 3 ∨ k = 4) (hp : okPorts ps) (hg : g < w.heap.size) (hc : ∀ i, i < ps.length → w.cell? ⟨g, o + i, none⟩ = some (.string (tx (ps.getD i []))))
    (hpr : p ≤ 2147483647) (hm : Cub.Cu.right m = true) (hml : 1 ≤ m.length ∧ m.length ≤ 128) :
    Calls Tryz.prog 31 #[.agg #[.int .i64 p, .string (tx m), .int .i64 k, .slice (some ⟨g, o, none⟩) ps.length cap], .int .i64 m.length] w fun en w' => en = .returned (.int .i64 0) ∧ Below w.heap.size w w' := by
  have HW := hid (isWidth_any (m.length : Int))
  rw [decide_eq_true (by omega : 1 ≤ (m.length : Int) ∧ (m.length : Int) ≤ 128)] at HW
  have HCK := hid (fun w' => uCheck m w')
  rw [if_pos hm] at HCK
  have HMB := hid (fun (w' : World) (hg' : g < w'.heap.size) (hc' : ∀ i, i < ps.length → w'.cell? ⟨g, o + i, none⟩ = some (.string (tx (ps.getD i [])))) => mayBe_right (cap := cap) hk hp hg' hc')
  have HC := hid hc
  have hp0 : (0 : Int) ≤ (p : Int) := by omega
  have hpI : ¬ ((2147483647 : Int) < (p : Int)) := by omega
  have hpN : ¬ ((p : Int) < 0) := by omega
  clear hc hp hm hk
  go_enter Tryz.func31, Tryz.ntmps31
  go_wp2_with fail
  refine (HW.out _).mono ?_
  rintro en w1 ⟨rfl, rfl⟩
  go_wp2_with fail
  refine (HCK.out _).mono ?_
  rintro en w2 ⟨rfl, hb2⟩
  have OB := below_block hb2 (new_0 w (rob p (tx m) k (.slice (some ⟨g, o, none⟩) ps.length cap))) (by simp)
  obtain ⟨d0, d1, d2, d3, _, _, _, _⟩ := rob_cells OB
  have HB2 := hid (show Below w.heap.size w w2 from ((Below.refl _ _).alloc (Nat.le_refl _) _).trans (hb2.mono (by simp)))
  have hg2 : g < w2.heap.size := Nat.lt_of_lt_of_le hg HB2.out.size
  have HC2 := hid (fun i (hi : i < ps.length) => (HB2.out.cell (p := ⟨g, o + i, none⟩) (by exact hg)).trans (HC.out i hi))
  have hnn : ((m.length : Int) == (m.length : Int)) = true := by simp
  clear OB hb2
  go_wp2_with fail
  refine (HMB.out _ hg2 HC2.out).mono ?_
  rintro en w3 ⟨rfl, hb3⟩
  go_wp2
  go_ret
  exact ⟨rfl, HB2.out.trans (hb3.mono HB2.out.size)⟩
end Go.Proofs.YthkhlhghbdbopaaGreatDoor
