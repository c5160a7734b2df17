/-
  Expressions whose lists' first cells may be compared: not frozen.
  Keys that hold two pointers and a number: how they are compared, whatever is drawn.
  How many words a text has; the program's Parse of a text that is not too long.
  What is printed is read by the machine: at most 50 parentheses open at once.
-/
import Derived.Test.YtagppgncanimaaaGreatDoorZBackMAnd
import Derived.LaidEql
import Derived.Test.YtagppgncanimaaaGreatDoorZAwakeAnd
namespace Go.Proofs.YtagppgncanimaaaGreatDoor
open Go.RowKit

/-- Words are read by the machine, no parenthesis too many. -/
def RunZ (ts : List (List UInt8)) (a : Nat) (G : GpX) (z : Nat) (F : GpX) : Prop := Rn ts a 0 G z 0 F
theorem RunZ.refl {ts : List (List UInt8)} (a : Nat) (G : GpX) : RunZ ts a G a G := Rn.refl _ _ _
theorem RunZ.trans {ts : List (List UInt8)} {a b c : Nat} {G H I : GpX} (h : RunZ ts a G b H) (k : RunZ ts b H c I) : RunZ ts a G c I := Rn.trans h k
theorem z_begin {ts : List (List UInt8)} {a : Nat} {Gi : GpX} {A P : List Rx} (h : ts[a]? = some [40]) (h5 : Gi.length ≤ 49) : RunZ ts a (Gi ++ [(A, P)]) (a + 1) (Gi ++ [(A, P)] ++ [([], [])]) := by
  have := Rn.one (b := 0) (get_lt h) (st_begin (b := 0) (Gi := Gi) (A := A) (P := P) h)
  rw [if_neg (by omega)] at this
  exact this
theorem z_end {ts : List (List UInt8)} {a : Nat} {Gj : GpX} {A0 P0 A P : List Rx} (h : ts[a]? = some [41]) (h5 : Gj.length ≤ 49) (hP : P ≠ [] ∨ A = [] ∧ P = []) : RunZ ts a (Gj ++ [(A0, P0)] ++ [(A, P)]) (a + 1) (Gj ++ [(A0, P0 ++ [wholeR A P])]) := by
  refine Rn.one (get_lt h) ?_
  unfold stepL
  rw [get_D h, if_neg (by decide), if_pos rfl, if_neg, popM_snoc, if_neg (by simp; omega)]
  rcases hP with h | ⟨h1, h2⟩
  · cases P with
    | nil => exact absurd rfl h
    | cons x y => simp
  · subst h1 h2; simp
section
variable {ts : List (List UInt8)}
/-- The words of an expression are read behind other parts. -/
def ReadJR (ts : List (List UInt8)) (r : Rx) : Prop := ∀ (Gi : Gps) (A P : List Rx) (a : Nat), AtW ts a r.wds → Gi.length + r.pd ≤ 50 → P.length + r.nodes ≤ 900000 → RunZ ts a (Gi ++ [(A, P)]) (a + r.wds.length) (Gi ++ [(A, P ++ prt r)])
/-- The words of an expression are read as a group's own. -/
def ReadWR (ts : List (List UInt8)) (r : Rx) : Prop := ∀ (Gi : Gps) (a : Nat), AtW ts a r.wds → Gi.length + r.pd ≤ 50 → ∃ A' P', RunZ ts a (Gi ++ [([], [])]) (a + r.wds.length) (Gi ++ [(A', P')]) ∧ wholeR A' P' = r ∧ P' ≠ [] ∧ nodesL A' + nodesL P' ≤ r.nodes
theorem readW_ofR {r : Rx} (h : nodeB r = true) (ht : 1 ≤ tg r) (hn : r.nodes ≤ 900000) (hJ : ReadJR ts r) : ReadWR ts r := by
  intro Gi a hA hp
  have := hJ Gi [] [] a hA hp (by simpa using hn)
  rw [List.nil_append] at this
  exact ⟨[], prt r, this, whole_prt h ht, prt_ne r, by have := prt_nodes r; simpa [nodesL] using this⟩
theorem item_readR {k : Rx} {least : Nat} (_hl : ts.length ≤ 1000000) (_hk : k.nodes ≤ 900000) (h2 : least ≤ tg k → tg k = 2) (hJ : least ≤ tg k → ReadJR ts k) (hW : ReadWR ts k) (Gi : Gps) (A P : List Rx) (a : Nat) (hA : AtW ts a (kwd least (tg k) k.wds)) (hp : Gi.length + (if least ≤ tg k then k.pd else k.pd + 1) ≤ 50) (hP : P.length + k.nodes ≤ 900000) :
    RunZ ts a (Gi ++ [(A, P)]) (a + (kwd least (tg k) k.wds).length) (Gi ++ [(A, P ++ [k])]) := by
  unfold kwd at hA ⊢
  by_cases hc : least ≤ tg k
  · rw [if_pos hc] at hA hp ⊢
    have := hJ hc Gi A P a hA hp hP
    rw [show prt k = [k] by unfold prt; rw [if_neg (by rw [h2 hc]; omega)]] at this
    exact this
  · rw [if_neg hc] at hA hp ⊢
    have hle := hA.le
    have g0 := hA.get
    have hA1 : AtW ts (a + 1) (k.wds ++ [[41]]) := AtW.right (u := [[40]]) hA
    have r1 : RunZ ts a (Gi ++ [(A, P)]) (a + 1) (Gi ++ [(A, P)] ++ [([], [])]) := z_begin g0 (by omega)
    obtain ⟨A', P', r2, e, hne, hnn⟩ := hW (Gi ++ [(A, P)]) (a + 1) hA1.left (by simp; omega)
    have hA2 := AtW.right hA1
    have g1 := hA2.get
    have hle2 := hA2.le
    have r3 : RunZ ts (a + 1 + k.wds.length) (Gi ++ [(A, P)] ++ [(A', P')]) (a + 1 + k.wds.length + 1) (Gi ++ [(A, P ++ [k])]) := by
      have := z_end (Gj := Gi) (A0 := A) (P0 := P) (A := A') (P := P') g1 (by omega) (Or.inl hne)
      rw [e] at this
      exact this
    have := r1.trans (r2.trans r3)
    rw [show a + ([40] :: (k.wds ++ [[41]])).length = a + 1 + k.wds.length + 1 by simp; omega]
    exact this
theorem row_readR (ks : List Rx) : (∀ k ∈ ks, ∀ (Gi : Gps) (A P : List Rx) (a : Nat), AtW ts a (kwd 1 (tg k) k.wds) → Gi.length + (if 1 ≤ tg k then k.pd else k.pd + 1) ≤ 50 → P.length + k.nodes ≤ 900000 → RunZ ts a (Gi ++ [(A, P)]) (a + (kwd 1 (tg k) k.wds).length) (Gi ++ [(A, P ++ [k])])) →
    ∀ (Gi : Gps) (A P : List Rx) (a : Nat), AtW ts a (seqW 1 ks) → (∀ k ∈ ks, Gi.length + (if 1 ≤ tg k then k.pd else k.pd + 1) ≤ 50) → P.length + nodesL ks ≤ 900000 → RunZ ts a (Gi ++ [(A, P)]) (a + (seqW 1 ks).length) (Gi ++ [(A, P ++ ks)]) := by
  induction ks with
  | nil => intro _ Gi A P a _ _ _; simpa [seqW] using RunZ.refl a _
  | cons k t ih =>
    intro hk Gi A P a hA hp hP
    have e : seqW 1 (k :: t) = kwd 1 (tg k) k.wds ++ seqW 1 t := by simp [seqW]
    rw [e] at hA ⊢
    rw [nodesL_cons] at hP
    have r1 := hk k (by simp) Gi A P a hA.left (hp k (by simp)) (by omega)
    have hkp := k.nodes_pos
    have r2 := ih (fun x hx => hk x (List.mem_cons_of_mem _ hx)) Gi A (P ++ [k]) _ hA.right (fun x hx => hp x (List.mem_cons_of_mem _ hx)) (by simp; omega)
    rw [List.append_assoc, List.singleton_append] at r2
    rw [List.length_append, ← Nat.add_assoc]
    exact r1.trans r2
theorem alt_readR (_hl : ts.length ≤ 1000000) (l : List Rx) : (∀ x ∈ l, nodeB x = true ∧ 1 ≤ tg x ∧ ReadJR ts x) → ∀ (k : Rx), (1 ≤ tg k ∧ ReadJR ts k) → ∀ (Gi : Gps) (a : Nat), AtW ts a (orW (l ++ [k])) → (∀ x ∈ l ++ [k], Gi.length + x.pd ≤ 50) → nodesL (l ++ [k]) ≤ 900000 →
    RunZ ts a (Gi ++ [([], [])]) (a + (orW (l ++ [k])).length) (Gi ++ [(l, prt k)]) := by
  induction l using rev_ind with
  | h0 =>
    intro _ k hk Gi a hA hp hn
    rw [List.nil_append, orW_one] at hA ⊢
    have := hk.2 Gi [] [] a hA (hp k (by simp)) (by simp [nodesL] at hn ⊢; exact hn)
    rw [List.nil_append] at this
    exact this
  | h1 l j ih =>
    intro hx k hk Gi a hA hp hn
    have hj := hx j (by simp)
    rw [nodesL_append, nodesL_append, nodesL_cons, nodesL_cons] at hn
    rw [orW_snoc _ _ (by simp)] at hA ⊢
    have hA1 := (AtW.left (AtW.left hA))
    have hA2 : AtW ts (a + (orW (l ++ [j])).length) ([[124]] ++ k.wds) := by
      have := hA
      rw [List.append_assoc] at this
      exact this.right
    have r1 := ih (fun x h => hx x (by simp [h])) j hj.2 Gi a hA1 (fun x h => hp x (by rcases List.mem_append.1 h with h | h <;> simp_all)) (by rw [nodesL_append, nodesL_cons]; simp [nodesL] at hn ⊢; omega)
    have g1 := AtW.get (u := [124]) (v := k.wds) hA2
    have hle := hA2.le
    have r2 : RunZ ts (a + (orW (l ++ [j])).length) (Gi ++ [(l, prt j)]) (a + (orW (l ++ [j])).length + 1) (Gi ++ [(l ++ [j], [])]) := by
      have := st_div (b := 0) (Gi := Gi) (A := l) (P := prt j) g1 (prt_ne j)
      rw [join_prt hj.1] at this
      exact Rn.one (get_lt g1) this
    have r3 := hk.2 Gi (l ++ [j]) [] _ hA2.right (hp k (by simp)) (by simp [nodesL] at hn ⊢; omega)
    rw [List.nil_append] at r3
    have := r1.trans (r2.trans r3)
    have hlen : (orW (l ++ [j]) ++ [[124]] ++ k.wds : List (List UInt8)).length = (orW (l ++ [j])).length + 1 + k.wds.length := by simp; omega
    rw [hlen, ← Nat.add_assoc, ← Nat.add_assoc]
    exact this
theorem rdx_anyR (hl : ts.length ≤ 1000000) (r : Rx) : Rx.all nodeB r = true → r.nodes ≤ 1000 → (1 ≤ tg r → ReadJR ts r) ∧ ReadWR ts r := by
  induction r using Rx.ind with
  | h r ih =>
    intro hb hn
    obtain ⟨h1, h2⟩ := (Rx.all_iff _ _).1 hb
    have hk := r.nodes_kids
    have hkn : ∀ k ∈ r.kids, k.nodes ≤ 1000 := fun k hkm => by have := nodesL_mem hkm; omega
    have IH : ∀ k ∈ r.kids, (1 ≤ tg k → ReadJR ts k) ∧ ReadWR ts k := fun k hkm => ih k hkm (h2 k hkm) (hkn k hkm)
    have both : ∀ (_ : 1 ≤ tg r) (_ : ReadJR ts r), (1 ≤ tg r → ReadJR ts r) ∧ ReadWR ts r := fun ht hJ => ⟨fun _ => hJ, readW_ofR h1 ht (by omega) hJ⟩
    have leafT : r.op ≠ 5 → r.op ≠ 4 → tg r = 2 := fun a b => by unfold tg; rw [if_neg a, if_neg (fun q => b q.1)]
    have one : tg r = 2 → prt r = [r] := fun h => by unfold prt; rw [if_neg (by omega)]
    by_cases o1 : r.op = 1
    · have ht := leafT (by omega) (by omega)
      refine both (by omega) fun Gi A P a hA hp hP => ?_
      have hw : r.wds = [r.name] := by rw [r.wds_eq, if_pos o1]
      obtain ⟨hnm, hkd⟩ : Wo.nameB r.name = true ∧ r.kids = [] := by
        have := h1
        unfold nodeB at this
        rw [if_pos (Or.inl o1), Bool.and_eq_true, decide_eq_true_eq] at this
        exact ⟨this.1, List.length_eq_zero_iff.1 this.2⟩
      rw [hw] at hA ⊢
      rw [one ht]
      have hle := hA.le
      have := st_dev (b := 0) (Gi := Gi) (A := A) (P := P) hA.get hnm
      rw [show Rx.mk 1 r.name [] = r by conv => rhs; rw [rx_ext (r := r), o1, hkd]] at this
      exact Rn.one (get_lt hA.get) this
    by_cases o2 : r.op = 2
    · have ht := leafT (by omega) (by omega)
      refine both (by omega) fun Gi A P a hA hp hP => ?_
      have hw : r.wds = [[36], r.name] := by rw [r.wds_eq, if_neg (by omega), if_pos o2]
      obtain ⟨hnm, hkd⟩ : Wo.nameB r.name = true ∧ r.kids = [] := by
        have := h1
        unfold nodeB at this
        rw [if_pos (Or.inr o2), Bool.and_eq_true, decide_eq_true_eq] at this
        exact ⟨this.1, List.length_eq_zero_iff.1 this.2⟩
      rw [hw] at hA ⊢
      rw [one ht]
      have hle := hA.le
      have g1 := AtW.get (AtW.right (u := [[36]]) (v := [r.name]) hA)
      have := st_class (b := 0) (Gi := Gi) (A := A) (P := P) hA.get g1 hnm
      rw [show Rx.mk 2 r.name [] = r by conv => rhs; rw [rx_ext (r := r), o2, hkd]] at this
      exact Rn.one (get_lt hA.get) this
    by_cases o3 : r.op = 3
    · have ht := leafT (by omega) (by omega)
      refine both (by omega) fun Gi A P a hA hp hP => ?_
      have hw : r.wds = [[46]] := by rw [r.wds_eq, if_neg (by omega), if_neg (by omega), if_pos o3]
      obtain ⟨hnm, hkd⟩ : r.name = [] ∧ r.kids = [] := by
        have := h1
        unfold nodeB at this
        rw [if_neg (by omega), if_pos o3, Bool.and_eq_true, decide_eq_true_eq] at this
        exact ⟨by simpa using this.1, List.length_eq_zero_iff.1 this.2⟩
      rw [hw] at hA ⊢
      rw [one ht]
      have hle := hA.le
      have := st_dot (b := 0) (Gi := Gi) (A := A) (P := P) hA.get
      rw [show Rx.mk 3 [] [] = r by conv => rhs; rw [rx_ext (r := r), o3, hnm, hkd]] at this
      exact Rn.one (get_lt hA.get) this
    by_cases o4 : r.op = 4
    · obtain ⟨n1, n2, n3⟩ := node_seq h1 o4
      by_cases hkd : r.kids = []
      · have ht : tg r = 2 := by unfold tg; rw [if_neg (by omega), if_neg (fun q => by rw [hkd] at q; simp at q)]
        refine both (by omega) fun Gi A P a hA hp hP => ?_
        have hw : r.wds = [[40], [41]] := by rw [r.wds_eq, if_neg (by omega), if_neg (by omega), if_neg (by omega), if_pos o4, if_pos (by rw [hkd]; rfl)]
        have hpd : r.pd = 1 := by rw [r.pd_eq, if_pos o4, if_pos (by rw [hkd]; rfl)]
        rw [hw] at hA ⊢
        rw [one ht]
        have hle := hA.le
        have g1 := AtW.get (AtW.right (u := [[40]]) (v := [[41]]) hA)
        have r1 : RunZ ts a (Gi ++ [(A, P)]) (a + 1) (Gi ++ [(A, P)] ++ [([], [])]) := z_begin hA.get (by omega)
        have r2 : RunZ ts (a + 1) (Gi ++ [(A, P)] ++ [([], [])]) (a + 1 + 1) (Gi ++ [(A, P ++ [r])]) := by
          have := z_end (Gj := Gi) (A0 := A) (P0 := P) (A := []) (P := []) g1 (by omega) (Or.inr ⟨rfl, rfl⟩)
          rw [show wholeR [] [] = r by
            conv => rhs; rw [rx_ext (r := r), o4, n1, hkd]
            simp [wholeR, joinR, flatK, Rx.op]] at this
          exact this
        exact r1.trans r2
      · have hlen : 0 < r.kids.length := List.length_pos_iff.2 hkd
        have ht : tg r = 1 := by unfold tg; rw [if_neg (by omega), if_pos ⟨o4, hlen⟩]
        refine both (by omega) fun Gi A P a hA hp hP => ?_
        have hw : r.wds = seqW 1 r.kids := by
          rw [r.wds_eq, if_neg (by omega), if_neg (by omega), if_neg (by omega), if_pos o4, if_neg (by simpa using hkd)]
          rfl
        have hpd : r.pd = (r.kids.map fun k => if 1 ≤ tg k then k.pd else k.pd + 1).foldl max 0 := by rw [r.pd_eq, if_pos o4, if_neg (by simpa using hkd)]
        rw [hw] at hA ⊢
        rw [show prt r = r.kids by unfold prt; rw [if_pos ht]]
        refine row_readR r.kids (fun k hkm Gi A P a hA hp hP => item_readR hl (by have := hkn k hkm; omega) (fun hc => ?_) (fun hc => (IH k hkm).1 hc) (IH k hkm).2 Gi A P a hA hp hP) Gi A P a hA (fun k hkm => ?_) (by omega)
        · unfold tg at hc ⊢
          split at hc
          · omega
          · rename_i q5
            rw [if_neg q5, if_neg (fun q => n3 k hkm q.1)]
        · have := max_le (l := r.kids.map fun k => if 1 ≤ tg k then k.pd else k.pd + 1) (List.mem_map.2 ⟨k, hkm, rfl⟩)
          rw [hpd] at hp
          omega
    by_cases o5 : r.op = 5
    · obtain ⟨n1, n2, n3⟩ := node_alt h1 o5
      have ht : tg r = 0 := by unfold tg; rw [if_pos o5]
      refine ⟨fun h => by omega, fun Gi a hA hp => ?_⟩
      have hw : r.wds = orW r.kids := by
        rw [r.wds_eq, if_neg (by omega), if_neg (by omega), if_neg (by omega), if_neg (by omega), if_pos o5]
        rfl
      have hpd : r.pd = (r.kids.map fun k => k.pd).foldl max 0 := by rw [r.pd_eq, if_neg (by omega), if_pos o5]
      have htk : ∀ k ∈ r.kids, 1 ≤ tg k := fun k hkm => by
        unfold tg
        rw [if_neg (n3 k hkm)]
        split <;> omega
      obtain ⟨l, k, e⟩ : ∃ l k, r.kids = l ++ [k] := by
        have hne : r.kids ≠ [] := fun e => by rw [e] at n2; simp at n2
        exact ⟨r.kids.dropLast, r.kids.getLast hne, (List.dropLast_concat_getLast hne).symm⟩
      rw [hw] at hA ⊢
      have run := alt_readR hl l (fun x hx => ⟨((Rx.all_iff _ _).1 (h2 x (by rw [e]; simp [hx]))).1, htk x (by rw [e]; simp [hx]), (IH x (by rw [e]; simp [hx])).1 (htk x (by rw [e]; simp [hx]))⟩) k ⟨htk k (by rw [e]; simp), (IH k (by rw [e]; simp)).1 (htk k (by rw [e]; simp))⟩ Gi a (by rw [← e]; exact hA) (fun x hx => by
        have := max_le (l := r.kids.map fun k => k.pd) (List.mem_map.2 ⟨x, by rw [e]; exact hx, rfl⟩)
        rw [hpd] at hp
        omega) (by rw [← e]; omega)
      rw [← e] at run
      have hkb : nodeB k = true := ((Rx.all_iff _ _).1 (h2 k (by rw [e]; simp))).1
      refine ⟨l, prt k, run, ?_, prt_ne k, ?_⟩
      · unfold wholeR
        rw [join_prt hkb, ← e]
        unfold joinR
        rw [flat_none n3, if_neg (by omega)]
        conv => rhs; rw [rx_ext (r := r), o5, n1]
      · have := prt_nodes k
        rw [e, nodesL_append, nodesL_cons] at hk
        simp [nodesL] at hk this ⊢
        omega
    by_cases o6 : r.op = 6 ∨ r.op = 7 ∨ r.op = 8
    · obtain ⟨n1, k, hkd⟩ := node_rep h1 o6
      have ht := leafT (by omega) (by omega)
      have hkm : k ∈ r.kids := by rw [hkd]; simp
      refine both (by omega) fun Gi A P a hA hp hP => ?_
      have hw : r.wds = kwd 2 (tg k) k.wds ++ [sgn1 r.op] := by
        rw [r.wds_eq, if_neg (by omega), if_neg (by omega), if_neg (by omega), if_neg o4, if_neg o5, hkd]
        simp
      have hpd : r.pd = if 2 ≤ tg k then k.pd else k.pd + 1 := by
        rw [r.pd_eq, if_neg o4, if_neg o5, hkd]
        simp
      have hkk : r.nodes = 1 + k.nodes := by rw [hk, hkd]; simp [nodesL]
      rw [hw] at hA ⊢
      rw [one ht]
      have t2 : ∀ x : Rx, tg x ≤ 2 := fun x => by unfold tg; split <;> (try split) <;> omega
      have r1 := item_readR (least := 2) hl (by have := hkn k hkm; omega) (fun hc => by have := t2 k; omega) (fun hc => (IH k hkm).1 (by omega)) (IH k hkm).2 Gi A P a hA.left (by rw [← hpd]; exact hp) (by omega)
      have g1 := AtW.get hA.right
      have hle := hA.le
      have r2 : RunZ ts (a + (kwd 2 (tg k) k.wds).length) (Gi ++ [(A, P ++ [k])]) (a + (kwd 2 (tg k) k.wds).length + 1) (Gi ++ [(A, P ++ [r])]) := by
        have := st_rep (b := 0) (Gi := Gi) (A := A) (P := P ++ [k]) o6 g1 (by simp)
        rw [repM_snoc, show Rx.mk r.op [] [k] = r by conv => rhs; rw [rx_ext (r := r), n1, hkd]] at this
        exact Rn.one (get_lt g1) this
      have := r1.trans r2
      rw [List.length_append]
      exact this
    · exfalso
      have := h1
      unfold nodeB at this
      rw [if_neg (by omega), if_neg (by omega), if_neg (by omega), if_neg (by omega), if_neg o6] at this
      cases this
end
/-- P9.6: what is printed is read as the expression. -/
theorem prsO_back {r : Rx} (hc : chkN r = 0) (hp : r.pd ≤ 50) : prsO (prS r) = (0, some r) := by
  obtain ⟨hb, hn⟩ := chk_zero hc
  have hwl := r.wds_len
  have hwp := r.wds_pos hb
  have hall : allW r.wds = true := List.all_eq_true.2 fun x hx => (r.wds_ok hb x hx).1
  obtain ⟨h1, ws, h2, h3⟩ := back_readX hall (fun e => by rw [e] at hwp; simp at hwp)
  have hps : prS r = Wo.sayL r.wds := by unfold prS sayS; rw [if_pos hc, if_pos hall]
  obtain ⟨A, P, hr, hw, hne, _⟩ := (rdx_anyR (ts := r.wds) (by omega) r hb hn).2 [] 0 ⟨[], [], by simp, rfl⟩ (by simpa using hp)
  have hfl : ([ws].flatten.map (·.1)) = r.wds := by rw [List.flatten_singleton]; exact h3
  unfold prsO
  have hrun := Rn.run hr (by simp) (r.wds.length + 1) (by omega)
  rw [List.nil_append, List.nil_append] at hrun
  rw [hps, if_neg (fun h => h h1), h2, hfl, hrun]
  show outP (if P.isEmpty = true then .fault _ else if (0 : Nat) = 0 then .ok A P else .deep 0) = _
  rw [if_neg (by simpa using hne), if_pos rfl]
  show (if chkN (wholeR A P) = 0 then (0, some (wholeR A P)) else (chkN (wholeR A P), none)) = _
  rw [hw, if_pos hc]
end Go.Proofs.YtagppgncanimaaaGreatDoor
namespace Go.Proofs.YtagppgncanimaaaGreatDoor
open Go.RowKit

theorem tk_boundZ (l : List UInt8) (c : Nat) : (Wo.tk l c).1.length ≤ l.length ∧ ∀ p ∈ (Wo.tk l c).1, p.1.length ≤ l.length := by
  generalize hn : l.length = n
  induction n using Nat.strongRecOn generalizing l c with
  | ind n ih =>
    cases l with
    | nil => rw [Wo.tk_nil]; exact ⟨by simp, fun p hp => absurd hp (by simp)⟩
    | cons a t =>
      simp only [List.length_cons] at hn
      by_cases h35 : a.toNat = 35
      · rw [Wo.tk_hash _ _ _ h35]; exact ⟨by simp, fun p hp => absurd hp (by simp)⟩
      · cases hb : Wo.blk a.toNat with
        | true =>
          rw [Wo.tk_blank _ _ _ h35 hb]
          obtain ⟨h1, h2⟩ := ih t.length (by omega) t (c + 1) rfl
          exact ⟨by omega, fun p hp => by have := h2 p hp; omega⟩
        | false =>
          by_cases h0 : Wo.fst (a :: t) = 0
          · rw [Wo.tk_fault _ _ _ h35 hb h0]; exact ⟨by simp, fun p hp => absurd hp (by simp)⟩
          · rw [Wo.tk_word _ _ _ h35 hb h0]
            have hle := Wo.fst_le (a :: t)
            simp only [List.length_cons] at hle
            obtain ⟨h1, h2⟩ := ih ((a :: t).drop (Wo.fst (a :: t))).length (by rw [List.length_drop, List.length_cons]; omega) _ (c + Wo.fst (a :: t)) rfl
            rw [List.length_drop, List.length_cons] at h1 h2
            refine ⟨by simp only [List.length_cons]; omega, fun p hp => ?_⟩
            rcases List.mem_cons.1 hp with rfl | hp
            · show ((a :: t).take _).length ≤ _
              rw [List.length_take, List.length_cons]; omega
            · have := h2 p hp; omega
theorem lns_boundZ (s : List UInt8) : (Wo.lns s).length ≤ s.length + 1 ∧ ((Wo.lns s).map List.length).sum ≤ s.length ∧ ∀ l ∈ Wo.lns s, l.length ≤ s.length := by
  induction s with
  | nil => exact ⟨by simp [Wo.lns], by simp [Wo.lns], fun l hl => by simp [Wo.lns] at hl; simp [hl]⟩
  | cons a t ih =>
    unfold Wo.lns
    split
    · refine ⟨by simp only [List.length_cons]; have := ih.1; omega, by simp; have := ih.2.1; omega, fun l hl => ?_⟩
      rcases List.mem_cons.1 hl with rfl | hl
      · simp
      · have := ih.2.2 l hl; simp only [List.length_cons]; omega
    · cases e : Wo.lns t with
      | nil => exact absurd e (Wo.lns_ne t)
      | cons h r =>
        rw [e] at ih
        refine ⟨by have := ih.1; simp only [List.length_cons] at this ⊢; omega, by have := ih.2.1; simp only [List.map_cons, List.sum_cons, List.length_cons] at this ⊢; omega, fun l hl => ?_⟩
        rcases List.mem_cons.1 hl with rfl | hl
        · have := ih.2.2 h List.mem_cons_self; simp only [List.length_cons]; omega
        · have := ih.2.2 l (List.mem_cons_of_mem _ hl); simp only [List.length_cons]; omega
theorem rd_boundZ (m : Nat) (ls : List (List UInt8)) (n : Nat) (h : ∀ l ∈ ls, l.length ≤ m) : (Wo.rd ls n).1.length ≤ ls.length ∧ (Wo.rd ls n).1.flatten.length ≤ (ls.map List.length).sum ∧ ∀ y ∈ (Wo.rd ls n).1.flatten, y.1.length ≤ m := by
  induction ls generalizing n with
  | nil => exact ⟨by simp [Wo.rd], by simp [Wo.rd], fun y hy => absurd hy (by simp [Wo.rd])⟩
  | cons l ls ih =>
    obtain ⟨i1, i2, i3⟩ := ih (n + 1) (fun q hq => h q (List.mem_cons_of_mem _ hq))
    have hl := h l List.mem_cons_self
    cases e : (Wo.tk l 1).2 with
    | some c => rw [Wo.rd_fault e]; exact ⟨by simp, by simp, fun y hy => absurd hy (by simp)⟩
    | none =>
      by_cases hz : (Wo.tk l 1).1 = []
      · rw [Wo.rd_none e hz]; exact ⟨by simp only [List.length_cons]; omega, by simp only [List.map_cons, List.sum_cons]; omega, i3⟩
      · rw [Wo.rd_some e hz]
        obtain ⟨b1, b2⟩ := tk_boundZ l 1
        refine ⟨by simp only [List.length_cons]; omega, ?_, fun y hy => ?_⟩
        · simp only [List.flatten_cons, List.length_append, List.map_cons, List.sum_cons, Wo.wds, List.length_map]
          omega
        · rw [List.flatten_cons, List.mem_append] at hy
          rcases hy with hy | hy
          · simp only [Wo.wds, List.mem_map] at hy
            obtain ⟨p, hp, rfl⟩ := hy
            have h1 := b2 p hp
            show p.1.length ≤ m
            omega
          · exact i3 y hy
theorem read_boundZ (s : List UInt8) : (Wo.read s).length ≤ s.length + 1 ∧ (Wo.read s).flatten.length ≤ s.length ∧ ∀ t ∈ (Wo.read s).flatten.map (·.1), t.length ≤ s.length := by
  obtain ⟨l1, l2, l3⟩ := lns_boundZ s
  obtain ⟨r1, r2, r3⟩ := rd_boundZ s.length (Wo.lns s) 1 l3
  unfold Wo.read
  split
  · refine ⟨by omega, by omega, fun t ht => ?_⟩
    obtain ⟨y, hy, rfl⟩ := List.mem_map.1 ht
    exact r3 y hy
  · exact ⟨by simp, by simp, fun t ht => absurd ht (by simp)⟩
/-- The program's Parse of any text of at most 99000 bytes. -/
theorem gParse_text {w : World} {s : List UInt8} (hs : s.length ≤ 99000) : Calls Tryz.prog 15 #[.string (tx s)] w fun e w' => PaOut w s e w' ∧ Below w.heap.size w w' := by
  obtain ⟨h1, h2, h3⟩ := read_boundZ s
  exact gParse_any (by omega) (by omega) (by omega) (fun t ht => by have := h3 t ht; omega) (fun A P h => runM_fit0 _ h)
/-- The program's Parse of what it prints: the expression, or ErrDeep where it has more than 50 nodes. -/
theorem gParse_print {w : World} {r : Rx} (hc : chkN r = 0) : Calls Tryz.prog 15 #[.string (tx (prS r))] w fun e w' =>
    ((∃ u n c, e = .returned (.tuple #[.agg #[.int .i64 r.op, .string (tx r.name), .slice u n c], .int .i64 0, .int .i64 0, .int .i64 0]) ∧ Hid (RxO w' w.heap.size (.slice u n c) r.kids)) ∨
    (50 < r.nodes ∧ ∃ x y : Int, e = .returned (.tuple #[.agg #[.int .i64 0, .string (tx []), .slice none 0 0], .int .i64 x, .int .i64 y, .int .i64 91]))) ∧ Below w.heap.size w w' := by
  obtain ⟨hb, hn⟩ := chk_zero hc
  have hwl := r.wds_len
  have hwp := r.wds_pos hb
  have hall : allW r.wds = true := List.all_eq_true.2 fun x hx => (r.wds_ok hb x hx).1
  obtain ⟨h1, ws, h2, h3⟩ := back_readX hall (fun e => by rw [e] at hwp; simp at hwp)
  have hps : prS r = Wo.sayL r.wds := by unfold prS sayS; rw [if_pos hc, if_pos hall]
  have hlen := prS_len hc
  have hrd : Wo.read (prS r) = [ws] := by rw [hps]; exact h2
  have hwsl : ws.length = r.wds.length := by rw [← h3]; simp
  refine (gParse_any (s := prS r) hlen (by rw [hrd, List.flatten_singleton]; omega) (by rw [hrd]; simp) (fun t ht => ?_) (fun A P h => runM_fit0 _ h)).mono ?_
  · rw [hrd, List.flatten_singleton, h3] at ht
    have := (r.wds_ok hb t ht).2
    omega
  · rintro e w' ⟨h4, h5⟩
    refine ⟨?_, h5⟩
    by_cases hp : r.pd ≤ 50
    · have hd := prsO_back hc hp
      rcases h4 with ⟨r', u, n, c, h6, _, _, h7, h8⟩ | ⟨c, x, y, h6, _, h7⟩
      · rw [hd] at h6
        injection h6 with _ h9
        injection h9 with h9
        subst h9
        exact Or.inl ⟨u, n, c, h7, h8⟩
      · rw [hd] at h6; simp at h6
    · have hd := prsO_deep hc (by omega)
      refine Or.inr ⟨by have := pd_nodes r; omega, ?_⟩
      rcases h4 with ⟨r', u, n, c, h6, _⟩ | ⟨c, x, y, h6, _, h7⟩
      · rw [hd] at h6; simp at h6
      · rw [hd] at h6
        injection h6 with h8 _
        subst h8
        exact ⟨x, y, h7⟩
end Go.Proofs.YtagppgncanimaaaGreatDoor
namespace Go.Proofs.YtagppgncanimaaaGreatDoor
open Go.RowKit Go
variable {K : Nat → Prop}

/-- A key. -/
def keyV (p q : Addr) (n : Int) : Value := .agg #[.pointer (some p), .pointer (some q), .int .i64 n]
/-- A place in a block of K that may be compared: its cell is there, and it is not frozen. -/
def Seen (K : Nat → Prop) (w : World) (p : Addr) : Prop := K p.block ∧ (∃ x, w.cell? p = some x) ∧ w.frozen? p = false
theorem same_any {w : World} {p q : Addr} (hp : Seen K w p) (hq : Seen K w q) : ∃ b k, (sameAddr p q).run Tryz.prog w = .ok b (w.drewN k) := by
  obtain ⟨_, ⟨x, hx⟩, fp⟩ := hp
  obtain ⟨_, ⟨y, hy⟩, fq⟩ := hq
  have sp := World.shape?_isSome_of_cell? hx
  have sq := World.shape?_isSome_of_cell? hy
  obtain ⟨⟨tp, np⟩, ep⟩ := Option.isSome_iff_exists.1 sp
  obtain ⟨⟨tq, nq⟩, eq⟩ := Option.isSome_iff_exists.1 sq
  by_cases hb : p.block = q.block
  · exact ⟨p == q, 0, by simp [sameAddr, hb, World.drewN]⟩
  · have h1 : ∀ (m : Bool), (mayBeOne p q).run Tryz.prog w = .ok m w → ∃ b k, (sameAddr p q).run Tryz.prog w = .ok b (w.drewN k) := fun m hm => by
      cases m with
      | true => exact ⟨_, 1, by simp [sameAddr, hb, fp, fq, noView, viewAt, ep, eq, hm, World.drewN]; rfl⟩
      | false => exact ⟨false, 0, by simp [sameAddr, hb, fp, fq, noView, viewAt, ep, eq, hm, World.drewN]⟩
    exact h1 _ (by simp [mayBeOne, stringish, fp, fq, ep, eq]; rfl)
theorem Tryz.infoIntX : (Tryz.prog.info? 3).map (fun i => (i.zero, i.size, i.bytes)) = some (some (.int .i64 0), 1, 8) := by kernel_rfl
theorem part_ptr (w : World) (cs : Array Value) (i : Nat) (v : Value) (h : cs[i]? = some v) : (part 152 cs i).run Tryz.prog w = .ok v w := by
  simp [part, h]
theorem part_int (w : World) (cs : Array Value) (i : Nat) (v : Value) (h : cs[i]? = some v) : (part 3 cs i).run Tryz.prog w = .ok v w := by
  simp [part, h]
theorem eq_ptr (w : World) (p q : Addr) : (Op.equalIn 9999 152 (.pointer (some p)) (.pointer (some q))).run Tryz.prog w = (sameAddr p q).run Tryz.prog w := by
  obtain ⟨i0, hi, hz0, hz1, hz2⟩ := info_parts Tryz.infoRegX
  have u := Tryz.underlying152
  rw [Op.equalIn]
  simp [run_underlying u, sizeOf, typeInfo, hi, hz1]
theorem eq_int (w : World) (n m : Int) : (Op.equalIn 9999 3 (.int .i64 n) (.int .i64 m)).run Tryz.prog w = .ok (n == m) w := by
  have u := Tryz.underlying3
  rw [Op.equalIn]
  simp [run_underlying u]
theorem Seen.drewN {w : World} {p : Addr} (h : Seen K w p) (k : Nat) : Seen K (w.drewN k) p := h
theorem key_eq {w : World} {p q p' q' : Addr} {n n' : Int} (hp : Seen K w p) (hq : Seen K w q) (hp' : Seen K w p') (hq' : Seen K w q') : ∃ b k, (Op.equal 154 (keyV p q n) (keyV p' q' n')).run Tryz.prog w = .ok b (w.drewN k) := by
  have u0 := Tryz.underlying154
  have a0 := fun w => part_ptr w #[.pointer (some p), .pointer (some q), .int .i64 n] 0 _ rfl
  have a1 := fun w => part_ptr w #[.pointer (some p), .pointer (some q), .int .i64 n] 1 _ rfl
  have a2 := fun w => part_int w #[.pointer (some p), .pointer (some q), .int .i64 n] 2 _ rfl
  have b0 := fun w => part_ptr w #[.pointer (some p'), .pointer (some q'), .int .i64 n'] 0 _ rfl
  have b1 := fun w => part_ptr w #[.pointer (some p'), .pointer (some q'), .int .i64 n'] 1 _ rfl
  have b2 := fun w => part_int w #[.pointer (some p'), .pointer (some q'), .int .i64 n'] 2 _ rfl
  have st : Tryz.prog.stoodInHeld 154 = false := by kernel_rfl
  unfold Op.equal Op.maxDepth keyV
  rw [Op.equalIn]
  obtain ⟨x, k1, e1⟩ := same_any hp hp'
  cases x with
  | false => exact ⟨false, k1, by simp [run_underlying u0, a0, b0, eq_ptr, e1, Result.andThen]⟩
  | true =>
    obtain ⟨y, k2, e2⟩ := same_any (hq.drewN k1) (hq'.drewN k1)
    cases y with
    | false => exact ⟨false, k1 + k2, by simp [run_underlying u0, a0, b0, a1, b1, eq_ptr, e1, e2, Result.andThen, World.drewN_drewN]⟩
    | true => exact ⟨n == n', k1 + k2, by
        by_cases h : n = n'
        · subst h
          simp [run_underlying u0, a0, b0, a1, b1, a2, b2, eq_ptr, eq_int, e1, e2, Result.andThen, World.drewN_drewN]
        · have h' : (n == n') = false := by rw [beq_eq_false_iff_ne]; exact h
          simp [run_underlying u0, a0, b0, a1, b1, a2, b2, eq_ptr, eq_int, e1, e2, h', Result.andThen, World.drewN_drewN]⟩
theorem check_ptr (w : World) (b : Bool) (p : Addr) : (Instr.checkKey b 9999 152 (.pointer (some p))).run Tryz.prog w = .ok () w := by
  have u1 := Tryz.underlying152
  rw [Instr.checkKey]
  simp [run_underlying u1]
theorem check_int (w : World) (b : Bool) (n : Int) : (Instr.checkKey b 9999 3 (.int .i64 n)).run Tryz.prog w = .ok () w := by
  have u2 := Tryz.underlying3
  rw [Instr.checkKey]
  simp [run_underlying u2]
theorem key_check (w : World) (b : Bool) (p q : Addr) (n : Int) : (Instr.checkKey b 10000 154 (keyV p q n)).run Tryz.prog w = .ok () w := by
  have u0 := Tryz.underlying154
  have a0 := fun w => part_ptr w #[.pointer (some p), .pointer (some q), .int .i64 n] 0 _ rfl
  have a1 := fun w => part_ptr w #[.pointer (some p), .pointer (some q), .int .i64 n] 1 _ rfl
  have a2 := fun w => part_int w #[.pointer (some p), .pointer (some q), .int .i64 n] 2 _ rfl
  unfold keyV
  rw [Instr.checkKey]
  simp [run_underlying u0, a0, a1, a2, check_ptr, check_int, Result.andThen]
/-- The entries of the map: keys that may be compared, numbers. -/
def EnsOk (K : Nat → Prop) (w : World) (es : List MapEntry) : Prop := ∀ e ∈ es, ∃ p q n z, e.key = keyV p q n ∧ Seen K w p ∧ Seen K w q ∧ e.val = .int .i64 z
theorem find_ask {p q : Addr} {n : Int} (es : List MapEntry) : ∀ {w : World} (i : Nat), EnsOk K w es → Seen K w p → Seen K w q → ∃ r k, (Instr.findAsking 154 (keyV p q n) es i).run Tryz.prog w = .ok r (w.drewN k) ∧ ∀ j v, r = some (j, v) → j < i + es.length ∧ ∃ z, v = .int .i64 z := by
  induction es with
  | nil => intro w i _ _ _; exact ⟨none, 0, by simp [Instr.findAsking, World.drewN], fun j v h => by cases h⟩
  | cons e es ih =>
    intro w i hok hp hq
    obtain ⟨p', q', n', z, hk, hp', hq', hv⟩ := hok e (by simp)
    obtain ⟨b, k1, e1⟩ := key_eq (n := n) (n' := n') hp hq hp' hq'
    rw [← hk] at e1
    cases b with
    | true => exact ⟨some (i, e.val), k1, by simp [Instr.findAsking, e1, Result.andThen], fun j v h => by
        injection h with h
        injection h with h1 h2
        subst h1 h2
        exact ⟨by simp, z, hv⟩⟩
    | false =>
      obtain ⟨r, k2, e2, h2⟩ := ih (w := w.drewN k1) (i + 1) (fun x hx => hok x (List.mem_cons_of_mem _ hx)) (hp.drewN k1) (hq.drewN k1)
      exact ⟨r, k1 + k2, by simp [Instr.findAsking, e1, e2, Result.andThen, World.drewN_drewN], fun j v h => by
        obtain ⟨h3, h4⟩ := h2 j v h
        exact ⟨by simp only [List.length_cons]; omega, h4⟩⟩
theorem find_key {p q : Addr} {n : Int} {es : List MapEntry} {w : World} (hok : EnsOk K w es) (hp : Seen K w p) (hq : Seen K w q) : ∃ r k, (Instr.findKey 154 (keyV p q n) es).run Tryz.prog w = .ok r (w.drewN k) ∧ ∀ j v, r = some (j, v) → j < es.length ∧ ∃ z, v = .int .i64 z := by
  have u0 := Tryz.underlying154
  cases es with
  | nil => exact ⟨none, 0, by simp [Instr.findKey, run_underlying u0, Instr.findNow, World.drewN, Result.andThen], fun j v h => by cases h⟩
  | cons e es =>
    obtain ⟨r, k, e1, h1⟩ := find_ask (n := n) (e :: es) 0 hok hp hq
    refine ⟨r, k, ?_, fun j v h => by have := h1 j v h; simpa using this⟩
    simp [Instr.findKey, run_underlying u0, Instr.findNow, Instr.sameNow, e1, Result.andThen]
theorem lookup_key {p q : Addr} {n : Int} {es : Array MapEntry} {clock mb : Nat} {w : World} (hm : w.heap[mb]? = some (.map es clock)) (hok : EnsOk K w es.toList) (hp : Seen K w p) (hq : Seen K w q) : ∃ z k, (Instr.lookup 110 (.map (some mb)) (keyV p q n) false).run Tryz.prog w = .ok (.int .i64 z) (w.drewN k) := by
  have u0 := Tryz.underlying110
  obtain ⟨i0, hi, hz0, hz1, hz2⟩ := info_parts Tryz.infoIntX
  obtain ⟨r, k, e1, h1⟩ := find_key (n := n) hok hp hq
  cases r with
  | none => exact ⟨0, k, by simp [Instr.lookup, run_underlying u0, MapKept.run_getObj_map hm, key_check, e1, zeroValue, typeInfo, hi, hz0, Result.andThen]⟩
  | some jv =>
    obtain ⟨_, z, hz⟩ := h1 jv.1 jv.2 rfl
    exact ⟨z, k, by simp [Instr.lookup, run_underlying u0, MapKept.run_getObj_map hm, key_check, e1, hz, Result.andThen]⟩
theorem stays_any (w : World) (a b : Value) : ∃ c k, (Instr.keyThatStays a b).run Tryz.prog w = .ok c (w.drewN k) ∧ (c = a ∨ c = b) := by
  by_cases h : Instr.sameBits 10000 a b = true
  · exact ⟨b, 0, by simp [Instr.keyThatStays, h, World.drewN], Or.inr rfl⟩
  · have hf : Instr.sameBits 10000 a b = false := by simpa using h
    have hfd : (Question.extern "map.whichKeyStays" 2).forced = false := by kernel_rfl
    by_cases hz : (Question.extern "map.whichKeyStays" 2).cut (w.tape w.drawn (Question.extern "map.whichKeyStays" 2)) = 0
    · exact ⟨b, 1, by simp [Instr.keyThatStays, hf, hz, hfd, World.drewN], Or.inr rfl⟩
    · exact ⟨a, 1, by simp [Instr.keyThatStays, hf, hz, hfd, World.drewN], Or.inl rfl⟩
/-- A map of such keys in memory. -/
def MapOk (K : Nat → Prop) (w : World) (mb : Nat) : Prop := ∃ es clock, w.heap[mb]? = some (.map es clock) ∧ EnsOk K w es.toList
/-- An entry that was born then is there. -/
def Born (w : World) (mb b : Nat) : Prop := ∃ es clock, w.heap[mb]? = some (.map es clock) ∧ ∃ e ∈ es.toList, e.born = b
theorem entry_key {p q : Addr} {n : Int} {es : Array MapEntry} {clock mb : Nat} {w : World} (hm : w.heap[mb]? = some (.map es clock)) (hok : EnsOk K w es.toList) (hp : Seen K w p) (hq : Seen K w q) : ∃ z b es' clock' k, (Instr.mapEntry 110 (.map (some mb)) (keyV p q n)).run Tryz.prog w = .ok (.tuple #[.int .i64 z, goInt (b : Nat)]) { w.drewN k with heap := w.heap.setIfInBounds mb (.map es' clock') } ∧ EnsOk K w es'.toList ∧ ∃ e ∈ es'.toList, e.born = b := by
  have u0 := Tryz.underlying110
  obtain ⟨i0, hi, hz0, hz1, hz2⟩ := info_parts Tryz.infoIntX
  obtain ⟨r, k, e1, h1⟩ := find_key (n := n) hok hp hq
  cases r with
  | none =>
    refine ⟨0, clock, es.push { key := keyV p q n, val := .int .i64 0, born := clock }, clock + 1, k, ?_, fun e he => ?_, ⟨_, by rw [Array.toList_push]; exact List.mem_append_right _ (List.mem_singleton.2 rfl), rfl⟩⟩
    · have hm' : (w.drewN k).heap[mb]? = some (.map es clock) := hm
      simp [Instr.mapEntry, run_underlying u0, MapKept.run_getObj_map hm, key_check, e1, zeroValue, typeInfo, hi, hz0, MapKept.run_setObj_map _ hm', Result.andThen]
    · rw [Array.toList_push, List.mem_append] at he
      rcases he with he | he
      · exact hok e he
      · rw [List.mem_singleton.1 he]
        exact ⟨p, q, n, 0, rfl, hp, hq, rfl⟩
  | some jv =>
    obtain ⟨i, v⟩ := jv
    obtain ⟨hi, z, rfl⟩ := h1 i v rfl
    have hi' : i < es.size := by simpa using hi
    obtain ⟨c, k2, e2, h2⟩ := stays_any (w.drewN k) (((es[i]?).map (·.key)).getD (keyV p q n)) (keyV p q n)
    refine ⟨z, ((es[i]?).map (·.born)).getD 0, es.modify i fun e => { e with key := c }, clock, k + k2, ?_, fun e he => ?_, ?_⟩
    · have hm' : (w.drewN (k + k2)).heap[mb]? = some (.map es clock) := hm
      simp only [Instr.mapEntry]
      simp [run_underlying u0, MapKept.run_getObj_map hm, key_check, e1, e2, MapKept.run_setObj_map _ hm', Result.andThen, World.drewN_drewN]
      rw [Array.getElem?_eq_getElem hi']
      rfl
    · obtain ⟨j, hj, hje⟩ := List.mem_iff_getElem.1 he
      have hj' : j < es.size := by simpa using hj
      rw [Array.getElem_toList, Array.getElem_modify] at hje
      split at hje
      · subst hje
        have hold := hok es[j] (by rw [← Array.getElem_toList]; exact List.getElem_mem _)
        rename_i hij
        obtain ⟨p', q', n', z', hk, g1, g2, g3⟩ := hold
        rcases h2 with h2 | h2
        · refine ⟨p', q', n', z', ?_, g1, g2, g3⟩
          show c = keyV p' q' n'
          rw [h2, ← hk]
          simp [hij, hj']
        · exact ⟨p, q, n, z', h2, hp, hq, g3⟩
      · subst hje
        exact hok _ (by rw [← Array.getElem_toList]; exact List.getElem_mem _)
    · refine ⟨(es.modify i fun e => { e with key := c })[i]'(by simpa using hi'), by rw [← Array.getElem_toList]; exact List.getElem_mem _, ?_⟩
      rw [Array.getElem_modify]
      simp [hi']
theorem store_key {z : Int} {b : Nat} {es : Array MapEntry} {clock mb : Nat} {w : World} (hm : w.heap[mb]? = some (.map es clock)) (hok : EnsOk K w es.toList) (hb : ∃ e ∈ es.toList, e.born = b) : ∃ es', (Instr.entryStore 110 (.map (some mb)) (goInt (b : Nat)) (.int .i64 z)).run Tryz.prog w = .ok () { w with heap := w.heap.setIfInBounds mb (.map es' clock) } ∧ EnsOk K w es'.toList := by
  obtain ⟨i, hi⟩ : ∃ i, es.findIdx? (fun e => (e.born : Int) == (b : Int)) = some i := by
    cases h : es.findIdx? (fun e => (e.born : Int) == (b : Int)) with
    | some i => exact ⟨i, rfl⟩
    | none =>
      rw [Array.findIdx?_eq_none_iff] at h
      obtain ⟨e, he, hbe⟩ := hb
      have := h e (Array.mem_toList_iff.1 he)
      rw [hbe] at this
      simp at this
  refine ⟨es.modify i fun e => { e with val := .int .i64 z }, ?_, fun e he => ?_⟩
  · simp [Instr.entryStore, MapKept.run_getObj_map hm, goInt, asInt, asIntOf, hi, MapKept.run_setObj_map _ hm, Result.andThen]
  · obtain ⟨j, hj, hje⟩ := List.mem_iff_getElem.1 he
    have hj' : j < es.size := by simpa using hj
    rw [Array.getElem_toList, Array.getElem_modify] at hje
    have hold := hok es[j] (by rw [← Array.getElem_toList]; exact List.getElem_mem _)
    obtain ⟨p', q', n', z', hk, g1, g2, g3⟩ := hold
    split at hje
    · subst hje
      exact ⟨p', q', n', z, hk, g1, g2, rfl⟩
    · subst hje
      exact ⟨p', q', n', z', hk, g1, g2, g3⟩
theorem update_key {p q : Addr} {n z : Int} {es : Array MapEntry} {clock mb : Nat} {w : World} (hm : w.heap[mb]? = some (.map es clock)) (hok : EnsOk K w es.toList) (hp : Seen K w p) (hq : Seen K w q) : ∃ es' clock' k, (Instr.mapUpdate 110 (.map (some mb)) (keyV p q n) (.int .i64 z)).run Tryz.prog w = .ok () { w.drewN k with heap := w.heap.setIfInBounds mb (.map es' clock') } ∧ EnsOk K w es'.toList := by
  have u0 := Tryz.underlying110
  obtain ⟨r, k, e1, h1⟩ := find_key (n := n) hok hp hq
  cases r with
  | none =>
    refine ⟨es.push { key := keyV p q n, val := .int .i64 z, born := clock }, clock + 1, k, ?_, fun e he => ?_⟩
    · have hm' : (w.drewN k).heap[mb]? = some (.map es clock) := hm
      simp [Instr.mapUpdate, run_underlying u0, MapKept.run_getObj_map hm, key_check, e1, MapKept.run_setObj_map _ hm', Result.andThen]
    · rw [Array.toList_push, List.mem_append] at he
      rcases he with he | he
      · exact hok e he
      · rw [List.mem_singleton.1 he]
        exact ⟨p, q, n, z, rfl, hp, hq, rfl⟩
  | some jv =>
    obtain ⟨i, v⟩ := jv
    obtain ⟨hi, _⟩ := h1 i v rfl
    have hi' : i < es.size := by simpa using hi
    obtain ⟨c, k2, e2, h2⟩ := stays_any (w.drewN k) (((es[i]?).map (·.key)).getD (keyV p q n)) (keyV p q n)
    refine ⟨es.modify i fun e => { e with key := c, val := .int .i64 z }, clock, k + k2, ?_, fun e he => ?_⟩
    · have hm' : (w.drewN (k + k2)).heap[mb]? = some (.map es clock) := hm
      simp only [Instr.mapUpdate]
      simp [run_underlying u0, MapKept.run_getObj_map hm, key_check, e1, e2, MapKept.run_setObj_map _ hm', Result.andThen, World.drewN_drewN]
    · obtain ⟨j, hj, hje⟩ := List.mem_iff_getElem.1 he
      have hj' : j < es.size := by simpa using hj
      rw [Array.getElem_toList, Array.getElem_modify] at hje
      split at hje
      · subst hje
        have hold := hok es[j] (by rw [← Array.getElem_toList]; exact List.getElem_mem _)
        rename_i hij
        rcases h2 with h2 | h2
        · obtain ⟨p', q', n', z', hk, g1, g2, _⟩ := hold
          refine ⟨p', q', n', z, ?_, g1, g2, rfl⟩
          show c = keyV p' q' n'
          rw [h2, ← hk]
          simp [hij, hj']
        · exact ⟨p, q, n, z, h2, hp, hq, rfl⟩
      · subst hje
        exact hok _ (by rw [← Array.getElem_toList]; exact List.getElem_mem _)
end Go.Proofs.YtagppgncanimaaaGreatDoor
namespace Go.Proofs.YtagppgncanimaaaGreatDoor
open Go.ChangeShapes Go.WideShapes Go.ChangeAt Go.RowKit

/-- A list of expressions, all of whose lists lie in blocks of K and begin with a cell that is not frozen. -/
inductive RxF (K : Nat → Prop) (w : World) : Value → List Rx → Prop where
  | nil (ao : Option Addr) (cap : Nat) : RxF K w (.slice ao 0 cap) []
  | some (g o cap : Nat) (ks : List Rx) (vs : List Value) (hK : K g) (hg : g < w.heap.size) (hf : w.frozen? ⟨g, o, none⟩ = false) (hl : vs.length = ks.length)
      (hc : ∀ (i : Nat) (k : Rx) (v : Value), ks[i]? = .some k → vs[i]? = .some v → w.cell? ⟨g, o + i * 3, none⟩ = .some (.int .i64 k.op) ∧ w.cell? ⟨g, o + i * 3 + 1, none⟩ = .some (.string (tx k.name)) ∧ w.cell? ⟨g, o + i * 3 + 2, none⟩ = .some v)
      (hk : ∀ (i : Nat) (k : Rx) (v : Value), ks[i]? = .some k → vs[i]? = .some v → RxF K w v k.kids) : RxF K w (.slice (.some ⟨g, o, none⟩) ks.length cap) ks
theorem RxF.low {K : Nat → Prop} {w : World} {v : Value} {ks : List Rx} (h : RxF K w v ks) : RxS w v ks := by
  induction h with
  | nil ao cap => exact .nil ao cap
  | some g o cap ks vs _ hg _ hl hc _ ih => exact .some g o cap ks vs hg hl hc ih
theorem RxF.on {K : Nat → Prop} {w w' : World} {v : Value} {ks : List Rx} (h : RxF K w v ks) (hb : KeepK K w w') : RxF K w' v ks := by
  induction h with
  | nil ao cap => exact .nil ao cap
  | some g o cap ks vs hK hg hf hl hc _ ih =>
    have e := hb.2 g hK hg
    refine .some g o cap ks vs hK (Nat.lt_of_lt_of_le hg hb.1) ((World.frozen?_of_block (by exact e)).trans hf) hl (fun i k v hk hv => ?_) ih
    obtain ⟨c0, c1, c2⟩ := hc i k v hk hv
    exact ⟨(World.cell?_of_block (by exact e)).trans c0, (World.cell?_of_block (by exact e)).trans c1, (World.cell?_of_block (by exact e)).trans c2⟩
theorem RxF.mono {K K' : Nat → Prop} {w : World} {v : Value} {ks : List Rx} (h : RxF K w v ks) (hK : ∀ g, K g → K' g) : RxF K' w v ks := by
  induction h with
  | nil ao cap => exact .nil ao cap
  | some g o cap ks vs hg0 hg hf hl hc _ ih => exact .some g o cap ks vs (hK g hg0) hg hf hl hc ih
theorem RxF.lt {K : Nat → Prop} {w : World} {v : Value} {ks : List Rx} (h : RxF K w v ks) : RxF (fun g => g < w.heap.size) w v ks := by
  induction h with
  | nil ao cap => exact .nil ao cap
  | some g o cap ks vs _ hg hf hl hc _ ih => exact .some g o cap ks vs hg hg hf hl hc ih
theorem RxO.seen {w : World} {n : Nat} {v : Value} {ks : List Rx} (h : RxO w n v ks) : RxF (fun g => g < w.heap.size) w v ks := by
  obtain ⟨K, h, hK⟩ := h
  induction h with
  | nil ao cap => exact .nil ao cap
  | some g o cap ks vs hg0 hg hl hc _ ih =>
    refine .some g o cap ks vs hg hg ?_ hl hc ih
    obtain ⟨_, cs, e⟩ := hK g hg0
    simp [World.frozen?, e]
/-- One element of a list. -/
theorem RxF.at {K : Nat → Prop} {w : World} {v : Value} {ks : List Rx} (h : RxF K w v ks) : ∃ ao cap, v = .slice ao ks.length cap ∧ (ks = [] ∨ ∃ g o, ao = Option.some ⟨g, o, none⟩ ∧ K g ∧ g < w.heap.size ∧ w.frozen? ⟨g, o, none⟩ = false ∧ ∀ (i : Nat) (k : Rx), ks[i]? = Option.some k → ∃ u un uc, w.cell? ⟨g, o + i * 3, none⟩ = Option.some (.int .i64 k.op) ∧ w.cell? ⟨g, o + i * 3 + 1, none⟩ = Option.some (.string (tx k.name)) ∧ w.cell? ⟨g, o + i * 3 + 2, none⟩ = Option.some (.slice u un uc) ∧ un = k.kids.length ∧ RxF K w (.slice u un uc) k.kids) := by
  cases h with
  | nil ao cap => exact ⟨ao, cap, rfl, Or.inl rfl⟩
  | some g o cap ks vs hK hg hf hl hc hk =>
    refine ⟨_, cap, rfl, Or.inr ⟨g, o, rfl, hK, hg, hf, fun i k hi => ?_⟩⟩
    have hlt := (List.getElem?_eq_some_iff.1 hi).1
    have hv : vs[i]? = Option.some (vs[i]'(by omega)) := List.getElem?_eq_getElem _
    obtain ⟨c0, c1, c2⟩ := hc i k _ hi hv
    have hr := hk i k _ hi hv
    generalize vs[i]'(by omega) = v at c2 hr
    obtain ⟨u, uc, rfl⟩ : ∃ u uc, v = .slice u k.kids.length uc := by
      generalize k.kids = kk at hr
      cases hr with
      | nil ao cap => exact ⟨ao, cap, rfl⟩
      | some g o cap ks vs _ _ _ _ _ _ => exact ⟨_, cap, rfl⟩
    exact ⟨u, _, uc, c0, c1, c2, rfl, hr⟩
/-- Its first cell may be compared. -/
theorem RxF.first {K : Nat → Prop} {w : World} {ao : Option Addr} {n cap : Nat} {ks : List Rx} (h : RxF K w (.slice ao n cap) ks) (hn : ks ≠ []) : ∃ g o, ao = Option.some ⟨g, o, none⟩ ∧ Seen K w ⟨g, o, none⟩ := by
  obtain ⟨bo, cap', e, h0⟩ := h.at
  injection e with e1 e2 e3
  subst e1
  obtain ⟨g, o, rfl, hK, hg, hf, hc⟩ := h0.resolve_left hn
  obtain ⟨k, hk⟩ : ∃ k, ks[0]? = Option.some k := ⟨ks[0]'(List.length_pos_iff.2 hn), List.getElem?_eq_getElem _⟩
  obtain ⟨u, un, uc, c0, _⟩ := hc 0 k hk
  exact ⟨g, o, rfl, hK, ⟨_, by simpa using c0⟩, hf⟩

section
variable {H : Type} {enc : TypeId × Value → H} {w : World} {base : Nat} {spare : Nat → Bool} {held : Bool}

set_option maxRecDepth 100000 in
theorem open_seen (fuel : Nat) : ∀ {cs : List Value} {x : DataW H × List MemPlace}, DataW.trod enc Tryz.prog w base spare held fuel 25 cs = some x → w.noneFrozen x.2 → ∃ (r : Rx) (v : Value), cs = [.int .i64 r.op, .string (tx r.name), v] ∧ RxF (fun g => g < w.heap.size) w v r.kids ∧ r.Fit := by
  induction fuel using Nat.strongRecOn with
  | ind fuel ih =>
    intro cs x h hfz
    obtain ⟨fs, hfs, hl⟩ := structOfX (P := Tryz.prog) (t := 25) (l := [(22, 0), (9, 1), (23, 2)]) (by kernel_rfl)
    obtain ⟨xs, n, hn, hx, hlen, hxl, hf⟩ := DataW.trod_struct hfs h
    have hc : Tryz.prog.cellsOf 25 = 3 := by kernel_rfl
    rw [hc] at hlen
    have hsz : fs.size = 3 := by have := congrArg List.length hl; simpa using this
    match cs, hlen with
    | [c0, c1, c2], _ =>
      obtain ⟨f0, e0, t0, o0⟩ := fieldOfX hl (i := 0) rfl
      obtain ⟨f1, e1, t1, o1⟩ := fieldOfX hl (i := 1) rfl
      obtain ⟨f2, e2, t2, o2⟩ := fieldOfX hl (i := 2) rfl
      have g0 := hf 0 f0 e0
      have g1 := hf 1 f1 e1
      have g2 := hf 2 f2 e2
      rw [t0, o0, show Tryz.prog.cellsOf 22 = 1 by kernel_rfl, List.getElem?_eq_getElem (show 0 < xs.length by omega)] at g0
      rw [t1, o1, show Tryz.prog.cellsOf 9 = 1 by kernel_rfl, List.getElem?_eq_getElem (show 1 < xs.length by omega)] at g1
      rw [t2, o2, show Tryz.prog.cellsOf 23 = 1 by kernel_rfl, List.getElem?_eq_getElem (show 2 < xs.length by omega)] at g2
      obtain ⟨p, hp, _, _⟩ := DataW.trod_int (k := .i64) (by kernel_rfl) g0
      obtain ⟨m, hm1, _, hms⟩ := DataW.trod_string Tryz.underlying9 g1
      simp at hp hm1
      subst hp hm1
      have g2' : DataW.trod enc Tryz.prog w base spare held n 23 [c2] = some xs[2] := by simpa using g2
      have hmn : m.data.toList.length ≤ maxLen := by rw [list_size]; exact hms
      rcases DataW.trod_slice Tryz.underlying23 g2' with ⟨hcs, _⟩ | ⟨a, len, cap, elems, rest, n2, hn2, hcs, hx2, _, hlc, _, hel, helem, _, _⟩
      · simp only [List.cons.injEq, and_true] at hcs
        refine ⟨.mk p m.data.toList [], c2, rfl, by rw [hcs]; exact .nil _ _, Rx.Fit.mk hmn fun k hk => absurd hk (by simp [Rx.kids])⟩
      · simp only [List.cons.injEq, and_true] at hcs
        subst hcs
        rw [hc] at helem hx2
        have hf2 : w.noneFrozen xs[2].2 := fun b o hb => hfz b o (by rw [hx]; exact List.mem_flatMap.2 ⟨_, List.getElem_mem _, hb⟩)
        have each : ∀ i, i < len → ∃ q : Rx × Value, w.cell? (a.add (i * 3)) = some (.int .i64 q.1.op) ∧ w.cell? ((a.add (i * 3)).add 1) = some (.string (tx q.1.name)) ∧ w.cell? ((a.add (i * 3)).add 2) = some q.2 ∧ RxF (fun g => g < w.heap.size) w q.2 q.1.kids ∧ q.1.Fit := by
          intro i hi
          have h1 := helem i hi
          rw [List.getElem?_eq_getElem (show i < elems.length by omega), Option.bind_eq_some_iff] at h1
          obtain ⟨cs', h2, h3⟩ := h1
          obtain ⟨_, _, hcell⟩ := World.cells?_some h2
          obtain ⟨r, v, rfl, h4, h5⟩ := ih n2 (by omega) h3 (fun b o hb => hf2 b o (by
            rw [hx2]
            exact List.mem_append_right _ (List.mem_flatMap.2 ⟨_, List.mem_append_left _ (List.getElem_mem _), hb⟩)))
          have c0 := hcell 0 (by omega)
          have c1 := hcell 1 (by omega)
          have c2 := hcell 2 (by omega)
          have e0 : (a.add (i * 3)).add 0 = a.add (i * 3) := by unfold Addr.add; simp
          rw [e0] at c0
          exact ⟨(r, v), c0, c1, c2, h4, h5⟩
        by_cases h0 : len = 0
        · subst h0
          exact ⟨.mk p m.data.toList [], _, rfl, .nil _ _, Rx.Fit.mk hmn fun k hk => absurd hk (by simp [Rx.kids])⟩
        have : Inhabited (Rx × Value) := ⟨(.mk 0 [] [], .bool false)⟩
        obtain ⟨q, hq⟩ := Go.Deep.choose_lt each
        obtain ⟨⟨g, o, rfl⟩, hb⟩ := addrOfX (v := .int .i64 (q 0).1.op) (by have := (hq 0 (by omega)).1; rw [Nat.zero_mul] at this; exact this)
        have hkl : ((List.range len).map fun i => (q i).1).length = len := by simp
        refine ⟨.mk p m.data.toList ((List.range len).map fun i => (q i).1), _, rfl, ?_, Rx.Fit.mk hmn fun k hk => ?_⟩
        · show RxF (fun g => g < w.heap.size) w (.slice (some ⟨g, o, none⟩) len cap) ((List.range len).map fun i => (q i).1)
          have hs := RxF.some (K := fun g => g < w.heap.size) (w := w) g o cap ((List.range len).map fun i => (q i).1) ((List.range len).map fun i => (q i).2) hb hb (hf2 g o (by rw [hx2]; exact List.mem_append_left _ (List.mem_map.2 ⟨0, List.mem_range.2 (by rw [hel]; simp; omega), rfl⟩))) (by simp) (fun i k v hk hv => ?_) (fun i k v hk hv => ?_)
          · rw [hkl] at hs; exact hs
          · rw [List.getElem?_map, Option.map_eq_some_iff] at hk hv
            obtain ⟨i', hi', rfl⟩ := hk
            obtain ⟨i'', hi'', rfl⟩ := hv
            rw [hi'] at hi''
            cases hi''
            obtain ⟨hi, rfl⟩ := List.getElem?_eq_some_iff.1 hi'
            simp only [List.length_range] at hi
            simp only [List.getElem_range]
            obtain ⟨c0, c1, c2, _, _⟩ := hq i hi
            rw [addrAddX] at c0 c1 c2
            rw [addrAddX] at c1 c2
            exact ⟨c0, c1, c2⟩
          · rw [List.getElem?_map, Option.map_eq_some_iff] at hk hv
            obtain ⟨i', hi', rfl⟩ := hk
            obtain ⟨i'', hi'', rfl⟩ := hv
            rw [hi'] at hi''
            cases hi''
            obtain ⟨hi, rfl⟩ := List.getElem?_eq_some_iff.1 hi'
            simp only [List.length_range] at hi
            simp only [List.getElem_range]
            exact (hq i hi).2.2.2.1
        · obtain ⟨i, hi, rfl⟩ := List.mem_map.1 (show k ∈ (List.range len).map fun i => (q i).1 from hk)
          exact (hq i (List.mem_range.1 hi)).2.2.2.2
end
end Go.Proofs.YtagppgncanimaaaGreatDoor
