/-
  What is printed is read: where more than 50 parentheses are open at once, it is too deep.
  The program's Parse of what it prints.
  What is printed is read: the words of an expression that may be, of which at most 50 parentheses are open at once, make that expression.
-/
import Derived.Test.YtagppgncanimaaaGreatDoorYNamedAnd
import Derived.Test.YtagppgncanimaaaGreatDoorZTakeAnd
import Derived.Test.YtagppgncanimaaaGreatDoorYPrsAAnd
import Derived.Test.YtagppgncanimaaaGreatDoorWFewAnd
namespace Go.Proofs.YtagppgncanimaaaGreatDoor
open Go.RowKit

abbrev Gps := List (List Rx × List Rx)
/-- Words are read, one behind the other. -/
inductive Run (ts : List (List UInt8)) : Nat → Gps → Nat → Gps → Prop where
  | refl (a : Nat) (G : Gps) : Run ts a G a G
  | step (a : Nat) (G : Gps) (a' : Nat) (G' : Gps) (z : Nat) (F : Gps) (ha : a < a') (hl : a' ≤ ts.length) (hc : WordC ts a G a' G') (hg : Run ts a' G' z F) : Run ts a G z F
theorem Run.trans {ts : List (List UInt8)} {a b c : Nat} {G H I : Gps} (h : Run ts a G b H) (k : Run ts b H c I) : Run ts a G c I := by
  induction h with
  | refl => exact k
  | step a G a' G' z F ha hl hc _ ih => exact .step a G a' G' _ _ ha hl hc (ih k)
theorem Run.one {ts : List (List UInt8)} {a a' : Nat} {G G' : Gps} (ha : a < a') (hl : a' ≤ ts.length) (hc : WordC ts a G a' G') : Run ts a G a' G' := .step a G a' G' a' G' ha hl hc (.refl _ _)
theorem Run.goes {ts : List (List UInt8)} {a z : Nat} {G F : Gps} (h : Run ts a G z F) (hz : z = ts.length) : Goes ts a G F := by
  induction h with
  | refl a G => subst hz; exact .done G
  | step a G a' G' z F ha hl hc _ ih => exact .step a G a' G' F ha hl hc (ih hz)
/-- Words stand at a place. -/
def AtW (ts : List (List UInt8)) (a : Nat) (ws : List (List UInt8)) : Prop := ∃ x y, ts = x ++ ws ++ y ∧ x.length = a
theorem AtW.left {ts : List (List UInt8)} {a : Nat} {u v : List (List UInt8)} (h : AtW ts a (u ++ v)) : AtW ts a u := by
  obtain ⟨x, y, e, hx⟩ := h
  exact ⟨x, v ++ y, by rw [e]; simp, hx⟩
theorem AtW.right {ts : List (List UInt8)} {a : Nat} {u v : List (List UInt8)} (h : AtW ts a (u ++ v)) : AtW ts (a + u.length) v := by
  obtain ⟨x, y, e, hx⟩ := h
  exact ⟨x ++ u, y, by rw [e]; simp, by rw [List.length_append, hx]⟩
theorem AtW.get {ts : List (List UInt8)} {a : Nat} {u : List UInt8} {v : List (List UInt8)} (h : AtW ts a (u :: v)) : ts[a]? = some u := by
  obtain ⟨x, y, e, hx⟩ := h
  rw [e, ← hx]
  simp
theorem AtW.le {ts : List (List UInt8)} {a : Nat} {ws : List (List UInt8)} (h : AtW ts a ws) : a + ws.length ≤ ts.length := by
  obtain ⟨x, y, e, hx⟩ := h
  rw [e]; simp; omega
/-- How many parentheses are open at once in the words of an expression. -/
def Rx.pd : Rx → Nat
  | .mk op _ ks => if op = 4 then (if ks.isEmpty then 1 else (ks.map fun k => if 1 ≤ tg k then k.pd else k.pd + 1).foldl max 0) else if op = 5 then (ks.map fun k => k.pd).foldl max 0 else (ks.map fun k => if 2 ≤ tg k then k.pd else k.pd + 1).foldl max 0
theorem Rx.pd_eq (r : Rx) : r.pd = if r.op = 4 then (if r.kids.isEmpty then 1 else (r.kids.map fun k => if 1 ≤ tg k then k.pd else k.pd + 1).foldl max 0) else if r.op = 5 then (r.kids.map fun k => k.pd).foldl max 0 else (r.kids.map fun k => if 2 ≤ tg k then k.pd else k.pd + 1).foldl max 0 := by
  cases r
  rw [Rx.pd]; rfl
theorem max_le {l : List Nat} {x : Nat} (h : x ∈ l) : x ≤ l.foldl max 0 := by
  induction l with
  | nil => cases h
  | cons a t ih =>
    rw [List.foldl_cons, foldl_max]
    rcases List.mem_cons.1 h with rfl | h
    · omega
    · have := ih h; omega
/-- The parts that an expression makes in a row. -/
def prt (r : Rx) : List Rx := if tg r = 1 then r.kids else [r]
theorem flat_none {op : Int} {ks : List Rx} (h : ∀ k ∈ ks, k.op ≠ op) : flatK op ks = ks := by
  induction ks with
  | nil => rfl
  | cons k t ih =>
    have e : flatK op (k :: t) = (if k.op == op then k.kids else [k]) ++ flatK op t := rfl
    rw [e, ih (fun x hx => h x (List.mem_cons_of_mem _ hx)), if_neg (by simpa using h k (by simp))]
    rfl
/-- What a node that may be is made of. -/
theorem node_seq {r : Rx} (h : nodeB r = true) (ho : r.op = 4) : r.name = [] ∧ r.kids.length ≠ 1 ∧ ∀ k ∈ r.kids, k.op ≠ 4 := by
  unfold nodeB at h
  rw [if_neg (by omega), if_neg (by omega), if_pos ho, Bool.and_eq_true, Bool.and_eq_true, decide_eq_true_eq] at h
  refine ⟨by simpa using h.1.1, h.1.2, fun k hk => ?_⟩
  have := List.all_eq_true.1 h.2 k hk
  simpa using this
theorem node_alt {r : Rx} (h : nodeB r = true) (ho : r.op = 5) : r.name = [] ∧ 2 ≤ r.kids.length ∧ ∀ k ∈ r.kids, k.op ≠ 5 := by
  unfold nodeB at h
  rw [if_neg (by omega), if_neg (by omega), if_neg (by omega), if_pos ho, Bool.and_eq_true, Bool.and_eq_true, decide_eq_true_eq] at h
  refine ⟨by simpa using h.1.1, h.1.2, fun k hk => ?_⟩
  have := List.all_eq_true.1 h.2 k hk
  simpa using this
theorem node_rep {r : Rx} (h : nodeB r = true) (ho : r.op = 6 ∨ r.op = 7 ∨ r.op = 8) : r.name = [] ∧ ∃ k, r.kids = [k] := by
  unfold nodeB at h
  rw [if_neg (by omega), if_neg (by omega), if_neg (by omega), if_neg (by omega), if_pos ho, Bool.and_eq_true, decide_eq_true_eq] at h
  exact ⟨by simpa using h.1, List.length_eq_one_iff.1 h.2⟩
theorem rx_ext {r : Rx} : r = .mk r.op r.name r.kids := by cases r; rfl
theorem join_prt {r : Rx} (h : nodeB r = true) : joinR 4 (prt r) = r := by
  unfold prt
  by_cases h1 : tg r = 1
  · have ho : r.op = 4 := by
      unfold tg at h1
      split at h1
      · omega
      · split at h1
        · rename_i q; exact q.1
        · omega
    obtain ⟨n1, n2, n3⟩ := node_seq h ho
    rw [if_pos h1]
    unfold joinR
    rw [flat_none n3, if_neg n2]
    conv => rhs; rw [rx_ext (r := r), n1, ho]
  · rw [if_neg h1]
    by_cases ho : r.op = 4
    · obtain ⟨n1, n2, n3⟩ := node_seq h ho
      have hk : r.kids = [] := by
        unfold tg at h1
        rw [if_neg (by omega)] at h1
        split at h1
        · exact absurd rfl h1
        · rename_i q
          exact List.length_eq_zero_iff.1 (by omega)
      have e : flatK 4 [r] = [] := by simp [flatK, ho, hk]
      unfold joinR
      rw [e]
      conv => rhs; rw [rx_ext (r := r), n1, ho, hk]
      rfl
    · have e : flatK 4 [r] = [r] := flat_none (fun k hk => by rw [List.mem_singleton.1 hk]; exact ho)
      unfold joinR
      rw [e]
      rfl
theorem whole_prt {r : Rx} (h : nodeB r = true) (ht : 1 ≤ tg r) : wholeR [] (prt r) = r := by
  unfold wholeR
  rw [join_prt h]
  have ho : r.op ≠ 5 := by
    unfold tg at ht
    split at ht
    · omega
    · assumption
  have e : flatK 5 ([] ++ [r]) = [r] := flat_none (fun k hk => by rw [List.mem_singleton.1 (show k ∈ [r] from hk)]; exact ho)
  unfold joinR
  rw [e]
  rfl
theorem prt_ne (r : Rx) : prt r ≠ [] := by
  unfold prt
  split
  · rename_i h1
    unfold tg at h1
    split at h1
    · omega
    · split at h1
      · rename_i q; intro e; rw [e] at q; simp at q
      · omega
  · simp
theorem prt_nodes (r : Rx) : nodesL (prt r) ≤ r.nodes := by
  unfold prt
  split
  · rw [r.nodes_kids]; omega
  · simp [nodesL]
theorem rev_ind {P : List Rx → Prop} (h0 : P []) (h1 : ∀ l j, P l → P (l ++ [j])) (l : List Rx) : P l := by
  have : ∀ l : List Rx, P l.reverse := fun l => by
    induction l with
    | nil => exact h0
    | cons a t ih => rw [List.reverse_cons]; exact h1 _ _ ih
  have := this l.reverse
  rwa [List.reverse_reverse] at this
section
variable {ts : List (List UInt8)}
/-- The words of an expression are read behind other parts. -/
def ReadJ (ts : List (List UInt8)) (r : Rx) : Prop := ∀ (Gi : Gps) (A P : List Rx) (a : Nat), AtW ts a r.wds → Gi.length + r.pd ≤ 50 → P.length + r.nodes ≤ 900000 → Run ts a (Gi ++ [(A, P)]) (a + r.wds.length) (Gi ++ [(A, P ++ prt r)])
/-- The words of an expression are read as a group's own. -/
def ReadW (ts : List (List UInt8)) (r : Rx) : Prop := ∀ (Gi : Gps) (a : Nat), AtW ts a r.wds → Gi.length + r.pd ≤ 50 → ∃ A' P', Run ts a (Gi ++ [([], [])]) (a + r.wds.length) (Gi ++ [(A', P')]) ∧ wholeR A' P' = r ∧ P' ≠ [] ∧ nodesL A' + nodesL P' ≤ r.nodes
theorem readW_of {r : Rx} (h : nodeB r = true) (ht : 1 ≤ tg r) (hn : r.nodes ≤ 900000) (hJ : ReadJ ts r) : ReadW ts r := by
  intro Gi a hA hp
  have := hJ Gi [] [] a hA hp (by simpa using hn)
  rw [List.nil_append] at this
  exact ⟨[], prt r, this, whole_prt h ht, prt_ne r, by have := prt_nodes r; simpa [nodesL] using this⟩
theorem item_read {k : Rx} {least : Nat} (hl : ts.length ≤ 1000000) (hk : k.nodes ≤ 900000) (h2 : least ≤ tg k → tg k = 2) (hJ : least ≤ tg k → ReadJ ts k) (hW : ReadW ts k) (Gi : Gps) (A P : List Rx) (a : Nat) (hA : AtW ts a (kwd least (tg k) k.wds)) (hp : Gi.length + (if least ≤ tg k then k.pd else k.pd + 1) ≤ 50) (hP : P.length + k.nodes ≤ 900000) :
    Run ts a (Gi ++ [(A, P)]) (a + (kwd least (tg k) k.wds).length) (Gi ++ [(A, P ++ [k])]) := by
  unfold kwd at hA ⊢
  by_cases hc : least ≤ tg k
  · rw [if_pos hc] at hA hp ⊢
    have := hJ hc Gi A P a hA hp hP
    rw [show prt k = [k] by unfold prt; rw [if_neg (by rw [h2 hc]; omega)]] at this
    exact this
  · rw [if_neg hc] at hA hp ⊢
    have hle := hA.le
    have g0 := hA.get
    have hA1 : AtW ts (a + 1) (k.wds ++ [[41]]) := AtW.right (u := [[40]]) hA
    have r1 : Run ts a (Gi ++ [(A, P)]) (a + 1) (Gi ++ [(A, P)] ++ [([], [])]) := Run.one (by omega) (by simp at hle; omega) (fun B w pb vw b h hW => word_begin h (hW w (Below.refl _ _)) g0 hl (by simp; omega) (by simp; omega))
    obtain ⟨A', P', r2, e, hne, hnn⟩ := hW (Gi ++ [(A, P)]) (a + 1) hA1.left (by simp; omega)
    have hA2 := AtW.right hA1
    have g1 := hA2.get
    have hle2 := hA2.le
    have r3 : Run ts (a + 1 + k.wds.length) (Gi ++ [(A, P)] ++ [(A', P')]) (a + 1 + k.wds.length + 1) (Gi ++ [(A, P ++ [k])]) := Run.one (by omega) (by simp at hle2; omega) (fun B w pb vw b h hW => by
      have := word_end (Gi := Gi) (A0 := A) (P0 := P) (A := A') (P := P') h (hW w (Below.refl _ _)) g1 hl (by omega) (by omega) (Or.inl hne) (by omega)
      rw [e] at this
      exact this)
    have := r1.trans (r2.trans r3)
    rw [show a + ([40] :: (k.wds ++ [[41]])).length = a + 1 + k.wds.length + 1 by simp; omega]
    exact this
theorem row_read (ks : List Rx) : (∀ k ∈ ks, ∀ (Gi : Gps) (A P : List Rx) (a : Nat), AtW ts a (kwd 1 (tg k) k.wds) → Gi.length + (if 1 ≤ tg k then k.pd else k.pd + 1) ≤ 50 → P.length + k.nodes ≤ 900000 → Run ts a (Gi ++ [(A, P)]) (a + (kwd 1 (tg k) k.wds).length) (Gi ++ [(A, P ++ [k])])) →
    ∀ (Gi : Gps) (A P : List Rx) (a : Nat), AtW ts a (seqW 1 ks) → (∀ k ∈ ks, Gi.length + (if 1 ≤ tg k then k.pd else k.pd + 1) ≤ 50) → P.length + nodesL ks ≤ 900000 → Run ts a (Gi ++ [(A, P)]) (a + (seqW 1 ks).length) (Gi ++ [(A, P ++ ks)]) := by
  induction ks with
  | nil => intro _ Gi A P a _ _ _; simpa [seqW] using Run.refl a _
  | cons k t ih =>
    intro hk Gi A P a hA hp hP
    have e : seqW 1 (k :: t) = kwd 1 (tg k) k.wds ++ seqW 1 t := by simp [seqW]
    rw [e] at hA ⊢
    rw [nodesL_cons] at hP
    have r1 := hk k (by simp) Gi A P a hA.left (hp k (by simp)) (by omega)
    have hkp := k.nodes_pos
    have r2 := ih (fun x hx => hk x (List.mem_cons_of_mem _ hx)) Gi A (P ++ [k]) _ hA.right (fun x hx => hp x (List.mem_cons_of_mem _ hx)) (by simp; omega)
    rw [List.append_assoc, List.singleton_append] at r2
    rw [List.length_append, ← Nat.add_assoc]
    exact r1.trans r2
theorem alt_read (hl : ts.length ≤ 1000000) (l : List Rx) : (∀ x ∈ l, nodeB x = true ∧ 1 ≤ tg x ∧ ReadJ ts x) → ∀ (k : Rx), (1 ≤ tg k ∧ ReadJ ts k) → ∀ (Gi : Gps) (a : Nat), AtW ts a (orW (l ++ [k])) → (∀ x ∈ l ++ [k], Gi.length + x.pd ≤ 50) → nodesL (l ++ [k]) ≤ 900000 →
    Run ts a (Gi ++ [([], [])]) (a + (orW (l ++ [k])).length) (Gi ++ [(l, prt k)]) := by
  induction l using rev_ind with
  | h0 =>
    intro _ k hk Gi a hA hp hn
    rw [List.nil_append, orW_one] at hA ⊢
    have := hk.2 Gi [] [] a hA (hp k (by simp)) (by simp [nodesL] at hn ⊢; exact hn)
    rw [List.nil_append] at this
    exact this
  | h1 l j ih =>
    intro hx k hk Gi a hA hp hn
    have hj := hx j (by simp)
    rw [nodesL_append, nodesL_append, nodesL_cons, nodesL_cons] at hn
    rw [orW_snoc _ _ (by simp)] at hA ⊢
    have hA1 := (AtW.left (AtW.left hA))
    have hA2 : AtW ts (a + (orW (l ++ [j])).length) ([[124]] ++ k.wds) := by
      have := hA
      rw [List.append_assoc] at this
      exact this.right
    have r1 := ih (fun x h => hx x (by simp [h])) j hj.2 Gi a hA1 (fun x h => hp x (by rcases List.mem_append.1 h with h | h <;> simp_all)) (by rw [nodesL_append, nodesL_cons]; simp [nodesL] at hn ⊢; omega)
    have g1 := AtW.get (u := [124]) (v := k.wds) hA2
    have hle := hA2.le
    have r2 : Run ts (a + (orW (l ++ [j])).length) (Gi ++ [(l, prt j)]) (a + (orW (l ++ [j])).length + 1) (Gi ++ [(l ++ [j], [])]) := Run.one (by omega) (by simp at hle; omega) (fun B w pb vw b h hW => by
      have := word_div (Gi := Gi) (A := l) (P := prt j) h (hW w (Below.refl _ _)) g1 hl (by have := hp j (by simp); omega) (prt_ne j) (by have := prt_nodes j; simp [nodesL] at hn ⊢; simp [nodesL] at this; omega)
      rw [join_prt hj.1] at this
      exact this)
    have r3 := hk.2 Gi (l ++ [j]) [] _ hA2.right (hp k (by simp)) (by simp [nodesL] at hn ⊢; omega)
    rw [List.nil_append] at r3
    have := r1.trans (r2.trans r3)
    have hlen : (orW (l ++ [j]) ++ [[124]] ++ k.wds : List (List UInt8)).length = (orW (l ++ [j])).length + 1 + k.wds.length := by simp; omega
    rw [hlen, ← Nat.add_assoc, ← Nat.add_assoc]
    exact this
theorem rdx_any (hl : ts.length ≤ 1000000) (r : Rx) : Rx.all nodeB r = true → r.nodes ≤ 1000 → (1 ≤ tg r → ReadJ ts r) ∧ ReadW ts r := by
  induction r using Rx.ind with
  | h r ih =>
    intro hb hn
    obtain ⟨h1, h2⟩ := (Rx.all_iff _ _).1 hb
    have hk := r.nodes_kids
    have hkn : ∀ k ∈ r.kids, k.nodes ≤ 1000 := fun k hkm => by have := nodesL_mem hkm; omega
    have IH : ∀ k ∈ r.kids, (1 ≤ tg k → ReadJ ts k) ∧ ReadW ts k := fun k hkm => ih k hkm (h2 k hkm) (hkn k hkm)
    have both : ∀ (_ : 1 ≤ tg r) (_ : ReadJ ts r), (1 ≤ tg r → ReadJ ts r) ∧ ReadW ts r := fun ht hJ => ⟨fun _ => hJ, readW_of h1 ht (by omega) hJ⟩
    have leafT : r.op ≠ 5 → r.op ≠ 4 → tg r = 2 := fun a b => by unfold tg; rw [if_neg a, if_neg (fun q => b q.1)]
    have one : tg r = 2 → prt r = [r] := fun h => by unfold prt; rw [if_neg (by omega)]
    by_cases o1 : r.op = 1
    · have ht := leafT (by omega) (by omega)
      refine both (by omega) fun Gi A P a hA hp hP => ?_
      have hw : r.wds = [r.name] := by rw [r.wds_eq, if_pos o1]
      obtain ⟨hnm, hkd⟩ : Wo.nameB r.name = true ∧ r.kids = [] := by
        have := h1
        unfold nodeB at this
        rw [if_pos (Or.inl o1), Bool.and_eq_true, decide_eq_true_eq] at this
        exact ⟨this.1, List.length_eq_zero_iff.1 this.2⟩
      rw [hw] at hA ⊢
      rw [one ht]
      have hle := hA.le
      exact Run.one (by simp) (by simpa using hle) (fun B w pb vw b h hW => by
        have := word_dev (Gi := Gi) (A := A) (P := P) h (hW w (Below.refl _ _)) hA.get hnm hl (by omega) (by omega)
        rw [show Rx.mk 1 r.name [] = r by conv => rhs; rw [rx_ext (r := r), o1, hkd]] at this
        exact this)
    by_cases o2 : r.op = 2
    · have ht := leafT (by omega) (by omega)
      refine both (by omega) fun Gi A P a hA hp hP => ?_
      have hw : r.wds = [[36], r.name] := by rw [r.wds_eq, if_neg (by omega), if_pos o2]
      obtain ⟨hnm, hkd⟩ : Wo.nameB r.name = true ∧ r.kids = [] := by
        have := h1
        unfold nodeB at this
        rw [if_pos (Or.inr o2), Bool.and_eq_true, decide_eq_true_eq] at this
        exact ⟨this.1, List.length_eq_zero_iff.1 this.2⟩
      rw [hw] at hA ⊢
      rw [one ht]
      have hle := hA.le
      have g1 := AtW.get (AtW.right (u := [[36]]) (v := [r.name]) hA)
      exact Run.one (by simp) (by simpa using hle) (fun B w pb vw b h hW => by
        have := word_class (Gi := Gi) (A := A) (P := P) h (hW w (Below.refl _ _)) hA.get g1 hnm hl (by omega) (by omega) hW
        rw [show Rx.mk 2 r.name [] = r by conv => rhs; rw [rx_ext (r := r), o2, hkd]] at this
        exact this)
    by_cases o3 : r.op = 3
    · have ht := leafT (by omega) (by omega)
      refine both (by omega) fun Gi A P a hA hp hP => ?_
      have hw : r.wds = [[46]] := by rw [r.wds_eq, if_neg (by omega), if_neg (by omega), if_pos o3]
      obtain ⟨hnm, hkd⟩ : r.name = [] ∧ r.kids = [] := by
        have := h1
        unfold nodeB at this
        rw [if_neg (by omega), if_pos o3, Bool.and_eq_true, decide_eq_true_eq] at this
        exact ⟨by simpa using this.1, List.length_eq_zero_iff.1 this.2⟩
      rw [hw] at hA ⊢
      rw [one ht]
      have hle := hA.le
      exact Run.one (by simp) (by simpa using hle) (fun B w pb vw b h hW => by
        have := word_dot (Gi := Gi) (A := A) (P := P) h (hW w (Below.refl _ _)) hA.get hl (by omega) (by omega)
        rw [show Rx.mk 3 [] [] = r by conv => rhs; rw [rx_ext (r := r), o3, hnm, hkd]] at this
        exact this)
    by_cases o4 : r.op = 4
    · obtain ⟨n1, n2, n3⟩ := node_seq h1 o4
      by_cases hkd : r.kids = []
      · have ht : tg r = 2 := by unfold tg; rw [if_neg (by omega), if_neg (fun q => by rw [hkd] at q; simp at q)]
        refine both (by omega) fun Gi A P a hA hp hP => ?_
        have hw : r.wds = [[40], [41]] := by rw [r.wds_eq, if_neg (by omega), if_neg (by omega), if_neg (by omega), if_pos o4, if_pos (by rw [hkd]; rfl)]
        have hpd : r.pd = 1 := by rw [r.pd_eq, if_pos o4, if_pos (by rw [hkd]; rfl)]
        rw [hw] at hA ⊢
        rw [one ht]
        have hle := hA.le
        have g1 := AtW.get (AtW.right (u := [[40]]) (v := [[41]]) hA)
        have r1 : Run ts a (Gi ++ [(A, P)]) (a + 1) (Gi ++ [(A, P)] ++ [([], [])]) := Run.one (by omega) (by simp at hle; omega) (fun B w pb vw b h hW => word_begin h (hW w (Below.refl _ _)) hA.get hl (by simp; omega) (by simp; omega))
        have r2 : Run ts (a + 1) (Gi ++ [(A, P)] ++ [([], [])]) (a + 1 + 1) (Gi ++ [(A, P ++ [r])]) := Run.one (by omega) (by simp at hle; omega) (fun B w pb vw b h hW => by
          have := word_end (Gi := Gi) (A0 := A) (P0 := P) (A := []) (P := []) h (hW w (Below.refl _ _)) g1 hl (by omega) (by omega) (Or.inr ⟨rfl, rfl⟩) (by simp [nodesL])
          rw [show wholeR [] [] = r by
            conv => rhs; rw [rx_ext (r := r), o4, n1, hkd]
            simp [wholeR, joinR, flatK, Rx.op]] at this
          exact this)
        exact r1.trans r2
      · have hlen : 0 < r.kids.length := List.length_pos_iff.2 hkd
        have ht : tg r = 1 := by unfold tg; rw [if_neg (by omega), if_pos ⟨o4, hlen⟩]
        refine both (by omega) fun Gi A P a hA hp hP => ?_
        have hw : r.wds = seqW 1 r.kids := by
          rw [r.wds_eq, if_neg (by omega), if_neg (by omega), if_neg (by omega), if_pos o4, if_neg (by simpa using hkd)]
          rfl
        have hpd : r.pd = (r.kids.map fun k => if 1 ≤ tg k then k.pd else k.pd + 1).foldl max 0 := by rw [r.pd_eq, if_pos o4, if_neg (by simpa using hkd)]
        rw [hw] at hA ⊢
        rw [show prt r = r.kids by unfold prt; rw [if_pos ht]]
        refine row_read r.kids (fun k hkm Gi A P a hA hp hP => item_read hl (by have := hkn k hkm; omega) (fun hc => ?_) (fun hc => (IH k hkm).1 hc) (IH k hkm).2 Gi A P a hA hp hP) Gi A P a hA (fun k hkm => ?_) (by omega)
        · unfold tg at hc ⊢
          split at hc
          · omega
          · rename_i q5
            rw [if_neg q5, if_neg (fun q => n3 k hkm q.1)]
        · have := max_le (l := r.kids.map fun k => if 1 ≤ tg k then k.pd else k.pd + 1) (List.mem_map.2 ⟨k, hkm, rfl⟩)
          rw [hpd] at hp
          omega
    by_cases o5 : r.op = 5
    · obtain ⟨n1, n2, n3⟩ := node_alt h1 o5
      have ht : tg r = 0 := by unfold tg; rw [if_pos o5]
      refine ⟨fun h => by omega, fun Gi a hA hp => ?_⟩
      have hw : r.wds = orW r.kids := by
        rw [r.wds_eq, if_neg (by omega), if_neg (by omega), if_neg (by omega), if_neg (by omega), if_pos o5]
        rfl
      have hpd : r.pd = (r.kids.map fun k => k.pd).foldl max 0 := by rw [r.pd_eq, if_neg (by omega), if_pos o5]
      have htk : ∀ k ∈ r.kids, 1 ≤ tg k := fun k hkm => by
        unfold tg
        rw [if_neg (n3 k hkm)]
        split <;> omega
      obtain ⟨l, k, e⟩ : ∃ l k, r.kids = l ++ [k] := by
        have hne : r.kids ≠ [] := fun e => by rw [e] at n2; simp at n2
        exact ⟨r.kids.dropLast, r.kids.getLast hne, (List.dropLast_concat_getLast hne).symm⟩
      rw [hw] at hA ⊢
      have run := alt_read hl l (fun x hx => ⟨((Rx.all_iff _ _).1 (h2 x (by rw [e]; simp [hx]))).1, htk x (by rw [e]; simp [hx]), (IH x (by rw [e]; simp [hx])).1 (htk x (by rw [e]; simp [hx]))⟩) k ⟨htk k (by rw [e]; simp), (IH k (by rw [e]; simp)).1 (htk k (by rw [e]; simp))⟩ Gi a (by rw [← e]; exact hA) (fun x hx => by
        have := max_le (l := r.kids.map fun k => k.pd) (List.mem_map.2 ⟨x, by rw [e]; exact hx, rfl⟩)
        rw [hpd] at hp
        omega) (by rw [← e]; omega)
      rw [← e] at run
      have hkb : nodeB k = true := ((Rx.all_iff _ _).1 (h2 k (by rw [e]; simp))).1
      refine ⟨l, prt k, run, ?_, prt_ne k, ?_⟩
      · unfold wholeR
        rw [join_prt hkb, ← e]
        unfold joinR
        rw [flat_none n3, if_neg (by omega)]
        conv => rhs; rw [rx_ext (r := r), o5, n1]
      · have := prt_nodes k
        rw [e, nodesL_append, nodesL_cons] at hk
        simp [nodesL] at hk this ⊢
        omega
    by_cases o6 : r.op = 6 ∨ r.op = 7 ∨ r.op = 8
    · obtain ⟨n1, k, hkd⟩ := node_rep h1 o6
      have ht := leafT (by omega) (by omega)
      have hkm : k ∈ r.kids := by rw [hkd]; simp
      refine both (by omega) fun Gi A P a hA hp hP => ?_
      have hw : r.wds = kwd 2 (tg k) k.wds ++ [sgn1 r.op] := by
        rw [r.wds_eq, if_neg (by omega), if_neg (by omega), if_neg (by omega), if_neg o4, if_neg o5, hkd]
        simp
      have hpd : r.pd = if 2 ≤ tg k then k.pd else k.pd + 1 := by
        rw [r.pd_eq, if_neg o4, if_neg o5, hkd]
        simp
      have hkk : r.nodes = 1 + k.nodes := by rw [hk, hkd]; simp [nodesL]
      rw [hw] at hA ⊢
      rw [one ht]
      have t2 : ∀ x : Rx, tg x ≤ 2 := fun x => by unfold tg; split <;> (try split) <;> omega
      have r1 := item_read (least := 2) hl (by have := hkn k hkm; omega) (fun hc => by have := t2 k; omega) (fun hc => (IH k hkm).1 (by omega)) (IH k hkm).2 Gi A P a hA.left (by rw [← hpd]; exact hp) (by omega)
      have g1 := AtW.get hA.right
      have hle := hA.le
      have r2 : Run ts (a + (kwd 2 (tg k) k.wds).length) (Gi ++ [(A, P ++ [k])]) (a + (kwd 2 (tg k) k.wds).length + 1) (Gi ++ [(A, P ++ [r])]) := Run.one (by omega) (by simp at hle; omega) (fun B w pb vw b h hW => by
        have := word_rep (Gi := Gi) (A := A) (Pi := P) (r := k) (op := r.op) h (hW w (Below.refl _ _)) o6 g1 hl (by omega) (by omega)
        rw [show Rx.mk r.op [] [k] = r by conv => rhs; rw [rx_ext (r := r), n1, hkd]] at this
        exact this)
      have := r1.trans r2
      rw [List.length_append]
      exact this
    · exfalso
      have := h1
      unfold nodeB at this
      rw [if_neg (by omega), if_neg (by omega), if_neg (by omega), if_neg (by omega), if_neg o6] at this
      cases this
end
/-- P9.6: what is printed is read as the expression. -/
theorem back_goes {r : Rx} (hb : Rx.all nodeB r = true) (hn : r.nodes ≤ 1000) (hp : r.pd ≤ 50) (hl : r.wds.length ≤ 1000000) : ∃ A P, Goes r.wds 0 [([], [])] [(A, P)] ∧ wholeR A P = r ∧ P ≠ [] ∧ nodesL A + nodesL P ≤ r.nodes := by
  obtain ⟨A, P, h1, h2, h3, h4⟩ := (rdx_any (ts := r.wds) hl r hb hn).2 [] 0 ⟨[], [], by simp, rfl⟩ (by simpa using hp)
  exact ⟨A, P, h1.goes (by simp), h2, h3, h4⟩
end Go.Proofs.YtagppgncanimaaaGreatDoor
namespace Go.Proofs.YtagppgncanimaaaGreatDoor
open Go.RowKit

theorem back_readX {ls : List (List UInt8)} (h : allW ls = true) (h0 : ls ≠ []) : Wo.err (Wo.sayL ls) = 0 ∧ ∃ ws, Wo.read (Wo.sayL ls) = [ws] ∧ ws.map (·.1) = ls := by
  have hw : ∀ l ∈ ls, Wo.isW l = true := List.all_eq_true.1 h
  obtain ⟨e2, ws, e1, em⟩ := Wo.read_say ls hw h0
  obtain ⟨k1, k2, k3, k4⟩ := text_well e2
  exact ⟨k4, ws, by rw [k1, e1], em⟩
theorem sayTo_lenX (ls : List (List UInt8)) (h : ∀ l ∈ ls, l.length ≤ 64) (k : Nat) : (Wo.sayTo ls k).length ≤ 65 * k := by
  induction k with
  | zero => simp [Wo.sayTo]
  | succ k ih =>
    have hk : (ls.getD k []).length ≤ 64 := by
      by_cases hk : k < ls.length
      · rw [List.getD_eq_getElem?_getD, List.getElem?_eq_getElem hk]
        exact h _ (List.getElem_mem hk)
      · rw [List.getD_eq_getElem?_getD, List.getElem?_eq_none (by omega)]; simp
    unfold Wo.sayTo
    split <;> simp only [List.length_append, List.length_cons, List.length_nil] <;> omega
theorem prS_len {r : Rx} (hc : chkN r = 0) : (prS r).length ≤ 1048576 := by
  obtain ⟨hb, hn⟩ := chk_zero hc
  have hall : allW r.wds = true := List.all_eq_true.2 fun x hx => (r.wds_ok hb x hx).1
  have hps : prS r = Wo.sayL r.wds := by unfold prS sayS; rw [if_pos hc, if_pos hall]
  have := sayTo_lenX r.wds (fun l hl => (r.wds_ok hb l hl).2) r.wds.length
  rw [Wo.sayTo_all] at this
  have hwl := r.wds_len
  rw [hps]
  omega
/-- Parse of Print is the expression, if at most 50 parentheses are open at once. -/
theorem gParse_back {w : World} {r : Rx} (hc : chkN r = 0) (hp : r.pd ≤ 50) (hF : r.Fit) :
    Calls Tryz.prog 15 #[.string (tx (prS r))] w fun e w' => ∃ u n c, e = .returned (.tuple #[.agg #[.int .i64 r.op, .string (tx r.name), .slice u n c], .int .i64 0, .int .i64 0, .int .i64 0]) ∧ Hid (RxS w' (.slice u n c) r.kids) ∧ Below w.heap.size w w' := by
  obtain ⟨hb, hn⟩ := chk_zero hc
  have hwl := r.wds_len
  have hwp := r.wds_pos hb
  obtain ⟨A, P, hG, hW, hP, hNN⟩ := back_goes hb hn hp (by omega)
  have hall : allW r.wds = true := List.all_eq_true.2 fun x hx => (r.wds_ok hb x hx).1
  obtain ⟨h1, ws, h2, h3⟩ := back_readX hall (fun e => by rw [e] at hwp; simp at hwp)
  have hps : prS r = Wo.sayL r.wds := by unfold prS sayS; rw [if_pos hc, if_pos hall]
  have hlen := prS_len hc
  rw [hps] at hlen ⊢
  have hfl : ([ws].flatten.map (·.1)) = r.wds := by rw [List.flatten_singleton]; exact h3
  have hwsl : ws.length = r.wds.length := by rw [← h3]; simp
  have := gParse_ok (w := w) (A := A) (P := P) hlen h2 h1 (by rw [List.flatten_singleton]; omega) (by simp) (by rw [hfl]; exact hG) hP (by omega) (by rw [hW]; exact hF) (by rw [hW]; exact hc)
  rw [hW] at this
  exact this
end Go.Proofs.YtagppgncanimaaaGreatDoor
namespace Go.Proofs.YtagppgncanimaaaGreatDoor
open Go.RowKit

/-- Words are read by the machine. -/
inductive Rn (ts : List (List UInt8)) : Nat → Nat → GpX → Nat → Nat → GpX → Prop where
  | refl (a b : Nat) (G : GpX) : Rn ts a b G a b G
  | step (a b : Nat) (Gi : GpX) (A P : List Rx) (a' b' : Nat) (G' : GpX) (z c : Nat) (F : GpX) (ha : a < ts.length) (hs : stepL ts a b Gi A P = .go a' b' G') (h : Rn ts a' b' G' z c F) : Rn ts a b (Gi ++ [(A, P)]) z c F
theorem Rn.trans {ts : List (List UInt8)} {a b a' b' z c : Nat} {G H I : GpX} (h : Rn ts a b G a' b' H) (k : Rn ts a' b' H z c I) : Rn ts a b G z c I := by
  induction h with
  | refl => exact k
  | step a b Gi A P a' b' G' z c F ha hs _ ih => exact .step a b Gi A P a' b' G' _ _ _ ha hs (ih k)
theorem Rn.one {ts : List (List UInt8)} {a b a' b' : Nat} {Gi G' : GpX} {A P : List Rx} (ha : a < ts.length) (hs : stepL ts a b Gi A P = .go a' b' G') : Rn ts a b (Gi ++ [(A, P)]) a' b' G' := .step a b Gi A P a' b' G' _ _ _ ha hs (.refl _ _ _)
theorem Rn.run {ts : List (List UInt8)} {a b z c : Nat} {G F : GpX} (h : Rn ts a b G z c F) (hz : z = ts.length) : ∀ k, ts.length < a + k → runM ts k a b G = endM ts.length c F := by
  induction h with
  | refl a b G =>
    intro k hk
    obtain ⟨k, rfl⟩ : ∃ k', k = k' + 1 := ⟨k - 1, by omega⟩
    exact runM_end hz
  | step a b Gi A P a' b' G' z c F ha hs _ ih =>
    intro k hk
    obtain ⟨k, rfl⟩ : ∃ k', k = k' + 1 := ⟨k - 1, by omega⟩
    rw [runM_go ha hs]
    have := (stepL_inv ha hs).1
    exact ih hz k (by omega)
section
variable {ts : List (List UInt8)}
theorem get_D {a : Nat} {t : List UInt8} (h : ts[a]? = some t) : ts.getD a [] = t := by rw [List.getD_eq_getElem?_getD, h]; rfl
theorem get_lt {a : Nat} {t : List UInt8} (h : ts[a]? = some t) : a < ts.length := (List.getElem?_eq_some_iff.1 h).1
theorem st_begin {a b : Nat} {Gi : GpX} {A P : List Rx} (h : ts[a]? = some [40]) : stepL ts a b Gi A P = .go (a + 1) (if Gi.length = 50 ∧ b = 0 then a else b) (Gi ++ [(A, P)] ++ [([], [])]) := by
  unfold stepL; rw [get_D h, if_pos rfl]
theorem st_end {a b : Nat} {Gj : GpX} {A0 P0 A P : List Rx} (h : ts[a]? = some [41]) (hP : P ≠ [] ∨ A = [] ∧ P = []) : ∃ x, stepL ts a b (Gj ++ [(A0, P0)]) A P = .go (a + 1) b (Gj ++ [(A0, P0 ++ [x])]) := by
  unfold stepL
  rw [get_D h, if_neg (by decide), if_pos rfl, if_neg, popM_snoc]
  · exact ⟨_, rfl⟩
  · rcases hP with h | ⟨h1, h2⟩
    · cases P with
      | nil => exact absurd rfl h
      | cons x y => simp
    · subst h1 h2; simp
theorem st_div {a b : Nat} {Gi : GpX} {A P : List Rx} (h : ts[a]? = some [124]) (hP : P ≠ []) : stepL ts a b Gi A P = .go (a + 1) b (Gi ++ [(A ++ [joinR 4 P], [])]) := by
  unfold stepL
  rw [get_D h, if_neg (by decide), if_neg (by decide), if_pos rfl, if_neg (by simpa using hP)]
theorem st_rep {a b : Nat} {Gi : GpX} {A P : List Rx} {op : Int} (ho : op = 6 ∨ op = 7 ∨ op = 8) (h : ts[a]? = some (sgn1 op)) (hP : P ≠ []) : stepL ts a b Gi A P = .go (a + 1) b (Gi ++ [(A, repM op P)]) := by
  have hP' : ¬ P.isEmpty = true := by simpa using hP
  unfold stepL
  rw [get_D h]
  rcases ho with rfl | rfl | rfl
  · rw [show sgn1 6 = [42] from rfl, if_neg (by decide), if_neg (by decide), if_neg (by decide), if_pos rfl, if_neg hP']
  · rw [show sgn1 7 = [43] from rfl, if_neg (by decide), if_neg (by decide), if_neg (by decide), if_neg (by decide), if_pos rfl, if_neg hP']
  · rw [show sgn1 8 = [63] from rfl, if_neg (by decide), if_neg (by decide), if_neg (by decide), if_neg (by decide), if_neg (by decide), if_pos rfl, if_neg hP']
theorem st_dot {a b : Nat} {Gi : GpX} {A P : List Rx} (h : ts[a]? = some [46]) : stepL ts a b Gi A P = .go (a + 1) b (Gi ++ [(A, P ++ [.mk 3 [] []])]) := by
  unfold stepL
  rw [get_D h, if_neg (by decide), if_neg (by decide), if_neg (by decide), if_neg (by decide), if_neg (by decide), if_neg (by decide), if_pos rfl]
theorem st_class {a b : Nat} {Gi : GpX} {A P : List Rx} {t : List UInt8} (h : ts[a]? = some [36]) (h2 : ts[a + 1]? = some t) (hN : Wo.nameB t = true) : stepL ts a b Gi A P = .go (a + 2) b (Gi ++ [(A, P ++ [.mk 2 t []])]) := by
  unfold stepL
  rw [get_D h, get_D h2, if_neg (by decide), if_neg (by decide), if_neg (by decide), if_neg (by decide), if_neg (by decide), if_neg (by decide), if_neg (by decide), if_pos rfl, if_pos hN]
theorem st_dev {a b : Nat} {Gi : GpX} {A P : List Rx} {t : List UInt8} (h : ts[a]? = some t) (hN : Wo.nameB t = true) : stepL ts a b Gi A P = .go (a + 1) b (Gi ++ [(A, P ++ [.mk 1 t []])]) := by
  have hsg : ∀ l : List UInt8, Wo.nameB l = false → ¬ t = l := fun l h2 e => by rw [← e, hN] at h2; cases h2
  unfold stepL
  rw [get_D h, if_neg (hsg [40] (by kernel_rfl)), if_neg (hsg [41] (by kernel_rfl)), if_neg (hsg [124] (by kernel_rfl)), if_neg (hsg [42] (by kernel_rfl)), if_neg (hsg [43] (by kernel_rfl)), if_neg (hsg [63] (by kernel_rfl)), if_neg (hsg [46] (by kernel_rfl)), if_neg (hsg [36] (by kernel_rfl)), if_pos hN]
/-- The words of an expression are read behind other parts; whether one parenthesis was too many is known. -/
def DeepJ (ts : List (List UInt8)) (n d : Nat) (ws : List (List UInt8)) : Prop := ∀ (Gi : GpX) (A P : List Rx) (a b : Nat), n = Gi.length → AtW ts a ws → Gi.length ≤ a → (50 < Gi.length → b ≠ 0) → ∃ b' X, Rn ts a b (Gi ++ [(A, P)]) (a + ws.length) b' (Gi ++ [(A, P ++ X)]) ∧ X ≠ [] ∧ (b ≠ 0 ∨ 50 < Gi.length + d → b' ≠ 0)
/-- The words of an expression are read as a group's own. -/
def DeepW (ts : List (List UInt8)) (d : Nat) (ws : List (List UInt8)) : Prop := ∀ (Gi : GpX) (a b : Nat), AtW ts a ws → Gi.length ≤ a → (50 < Gi.length → b ≠ 0) → ∃ b' A' P', Rn ts a b (Gi ++ [([], [])]) (a + ws.length) b' (Gi ++ [(A', P')]) ∧ P' ≠ [] ∧ (b ≠ 0 ∨ 50 < Gi.length + d → b' ≠ 0)
theorem deepW_of {d : Nat} {ws : List (List UInt8)} (h : ∀ n, DeepJ ts n d ws) : DeepW ts d ws := by
  intro Gi a b hA hg hi
  obtain ⟨b', X, h1, h2, h3⟩ := h _ Gi [] [] a b rfl hA hg hi
  exact ⟨b', [], X, h1, h2, h3⟩
/-- In parentheses. -/
theorem deep_par {d : Nat} {ws : List (List UInt8)} (h : DeepW ts d ws) (n : Nat) : DeepJ ts n (d + 1) ([40] :: (ws ++ [[41]])) := by
  intro Gi A P a b _ hA hg hi
  have g0 := hA.get
  have hA1 : AtW ts (a + 1) (ws ++ [[41]]) := AtW.right (u := [[40]]) hA
  have r1 := Rn.one (b := b) (Gi := Gi) (A := A) (P := P) (get_lt g0) (st_begin g0)
  obtain ⟨b1, hb1⟩ : ∃ b1, b1 = (if Gi.length = 50 ∧ b = 0 then a else b) := ⟨_, rfl⟩
  rw [← hb1] at r1
  have hb1c : (b ≠ 0 ∨ 50 ≤ Gi.length) → b1 ≠ 0 := by
    intro hh
    rw [hb1]
    split
    · rename_i q; omega
    · rename_i q
      rcases hh with hh | hh
      · exact hh
      · by_cases h5 : Gi.length = 50
        · intro e; exact q ⟨h5, e⟩
        · exact hi (by omega)
  obtain ⟨b2, A', P', r2, hne, hb2⟩ := h (Gi ++ [(A, P)]) (a + 1) b1 hA1.left (by simp; omega) (fun q => hb1c (Or.inr (by simp at q; omega)))
  have hA2 := AtW.right hA1
  have g1 := hA2.get
  obtain ⟨x, hx⟩ := st_end (b := b2) (Gj := Gi) (A0 := A) (P0 := P) (A := A') (P := P') g1 (Or.inl hne)
  have r3 := Rn.one (get_lt g1) hx
  refine ⟨b2, [x], ?_, by simp, fun hh => hb2 ?_⟩
  · rw [show a + ([40] :: (ws ++ [[41]])).length = a + 1 + ws.length + 1 by simp; omega]
    exact r1.trans (r2.trans r3)
  · rcases hh with hh | hh
    · exact Or.inl (hb1c (Or.inl hh))
    · right; simp; omega
theorem deep_item {k : Rx} {least : Nat} (hJ : least ≤ tg k → ∀ n, DeepJ ts n k.pd k.wds) (hW : DeepW ts k.pd k.wds) (n : Nat) : DeepJ ts n (if least ≤ tg k then k.pd else k.pd + 1) (kwd least (tg k) k.wds) := by
  unfold kwd
  by_cases hc : least ≤ tg k
  · rw [if_pos hc, if_pos hc]; exact hJ hc n
  · rw [if_neg hc, if_neg hc]; exact deep_par hW n
theorem deep_row (f : Rx → Nat) (g : Rx → List (List UInt8)) (ks : List Rx) : ks ≠ [] → (∀ k ∈ ks, ∀ n, DeepJ ts n (f k) (g k)) → ∀ n, DeepJ ts n ((ks.map f).foldl max 0) ((ks.map g).flatten) := by
  induction ks with
  | nil => intro h; exact absurd rfl h
  | cons k t ih =>
    intro _ hk n Gi A P a b hn hA hg hi
    rw [List.map_cons, List.flatten_cons] at hA ⊢
    obtain ⟨b1, X, r1, hX, hb1⟩ := hk k (by simp) n Gi A P a b hn hA.left hg hi
    rw [List.map_cons, List.foldl_cons, foldl_max]
    by_cases ht : t = []
    · subst ht
      simp only [List.map_nil, List.flatten_nil, List.append_nil, List.foldl_nil]
      refine ⟨b1, X, r1, hX, fun hh => hb1 ?_⟩
      rcases hh with hh | hh
      · exact Or.inl hh
      · exact Or.inr (by omega)
    · obtain ⟨b2, Y, r2, hY, hb2⟩ := ih ht (fun x hx => hk x (List.mem_cons_of_mem _ hx)) n Gi A (P ++ X) _ b1 hn hA.right (by omega) (fun q => hb1 (Or.inl (hi q)))
      refine ⟨b2, X ++ Y, ?_, by simp [hX], fun hh => hb2 ?_⟩
      · rw [List.length_append, ← Nat.add_assoc, ← List.append_assoc]
        exact r1.trans r2
      · rcases hh with hh | hh
        · exact Or.inl (hb1 (Or.inl hh))
        · by_cases q : 50 < Gi.length + f k
          · exact Or.inl (hb1 (Or.inr q))
          · exact Or.inr (by omega)
theorem deep_alt (ks : List Rx) : ks ≠ [] → (∀ k ∈ ks, ∀ n, DeepJ ts n k.pd k.wds) → ∀ (Gi : GpX) (A : List Rx) (a b : Nat), AtW ts a (orW ks) → Gi.length ≤ a → (50 < Gi.length → b ≠ 0) → ∃ b' A' P', Rn ts a b (Gi ++ [(A, [])]) (a + (orW ks).length) b' (Gi ++ [(A', P')]) ∧ P' ≠ [] ∧ (b ≠ 0 ∨ 50 < Gi.length + (ks.map fun k => k.pd).foldl max 0 → b' ≠ 0) := by
  induction ks with
  | nil => intro h; exact absurd rfl h
  | cons k t ih =>
    intro _ hk Gi A a b hA hg hi
    by_cases ht : t = []
    · subst ht
      rw [orW_one] at hA ⊢
      obtain ⟨b1, X, r1, hX, hb1⟩ := hk k (by simp) _ Gi A [] a b rfl hA hg hi
      refine ⟨b1, A, X, r1, hX, fun hh => hb1 ?_⟩
      simpa using hh
    · have e : orW (k :: t) = k.wds ++ ([124] :: orW t) := by
        cases t with
        | nil => exact absurd rfl ht
        | cons x y => simp [orW, altW]
      rw [e] at hA ⊢
      obtain ⟨b1, X, r1, hX, hb1⟩ := hk k (by simp) _ Gi A [] a b rfl hA.left hg hi
      rw [List.nil_append] at r1
      have hA1 := hA.right
      have g1 := hA1.get
      have r2 := Rn.one (b := b1) (Gi := Gi) (A := A) (P := X) (get_lt g1) (st_div g1 hX)
      obtain ⟨b2, A', P', r3, hP', hb2⟩ := ih ht (fun x hx => hk x (List.mem_cons_of_mem _ hx)) Gi (A ++ [joinR 4 X]) (a + k.wds.length + 1) b1 (AtW.right (u := [[124]]) hA1) (by omega) (fun q => hb1 (Or.inl (hi q)))
      refine ⟨b2, A', P', ?_, hP', fun hh => hb2 ?_⟩
      · rw [show a + (k.wds ++ [124] :: orW t).length = a + k.wds.length + 1 + (orW t).length by simp; omega]
        exact r1.trans (r2.trans r3)
      · rw [List.map_cons, List.foldl_cons, foldl_max] at hh
        rcases hh with hh | hh
        · exact Or.inl (hb1 (Or.inl hh))
        · by_cases q : 50 < Gi.length + k.pd
          · exact Or.inl (hb1 (Or.inr q))
          · exact Or.inr (by omega)
theorem deep_any (r : Rx) : Rx.all nodeB r = true → (1 ≤ tg r → ∀ n, DeepJ ts n r.pd r.wds) ∧ DeepW ts r.pd r.wds := by
  induction r using Rx.ind with
  | h r ih =>
    intro hb
    obtain ⟨h1, h2⟩ := (Rx.all_iff _ _).1 hb
    have IH : ∀ k ∈ r.kids, (1 ≤ tg k → ∀ n, DeepJ ts n k.pd k.wds) ∧ DeepW ts k.pd k.wds := fun k hkm => ih k hkm (h2 k hkm)
    have both : (∀ n, DeepJ ts n r.pd r.wds) → (1 ≤ tg r → ∀ n, DeepJ ts n r.pd r.wds) ∧ DeepW ts r.pd r.wds := fun hJ => ⟨fun _ => hJ, deepW_of hJ⟩
    have leaf : ∀ (Gi : GpX) (a b b' d : Nat), b' = b → d = 0 → (50 < Gi.length → b ≠ 0) → (b ≠ 0 ∨ 50 < Gi.length + d → b' ≠ 0) := fun Gi a b b' d e1 e2 hi hh => by
      rw [e1]
      rcases hh with hh | hh
      · exact hh
      · exact hi (by omega)
    have kid0 : r.kids = [] → r.op ≠ 4 → r.pd = 0 := fun hk ho => by
      rw [r.pd_eq, if_neg ho, hk]; simp
    by_cases o1 : r.op = 1
    · refine both fun n Gi A P a b _ hA hg hi => ?_
      have hw : r.wds = [r.name] := by rw [r.wds_eq, if_pos o1]
      obtain ⟨hnm, hkd⟩ : Wo.nameB r.name = true ∧ r.kids = [] := by
        have := h1
        unfold nodeB at this
        rw [if_pos (Or.inl o1), Bool.and_eq_true, decide_eq_true_eq] at this
        exact ⟨this.1, List.length_eq_zero_iff.1 this.2⟩
      rw [hw] at hA ⊢
      exact ⟨b, _, Rn.one (get_lt hA.get) (st_dev hA.get hnm), by simp, leaf Gi a b b _ rfl (kid0 hkd (by omega)) hi⟩
    by_cases o2 : r.op = 2
    · refine both fun n Gi A P a b _ hA hg hi => ?_
      have hw : r.wds = [[36], r.name] := by rw [r.wds_eq, if_neg (by omega), if_pos o2]
      obtain ⟨hnm, hkd⟩ : Wo.nameB r.name = true ∧ r.kids = [] := by
        have := h1
        unfold nodeB at this
        rw [if_pos (Or.inr o2), Bool.and_eq_true, decide_eq_true_eq] at this
        exact ⟨this.1, List.length_eq_zero_iff.1 this.2⟩
      rw [hw] at hA ⊢
      have g1 := AtW.get (AtW.right (u := [[36]]) (v := [r.name]) hA)
      exact ⟨b, _, Rn.one (get_lt hA.get) (st_class hA.get g1 hnm), by simp, leaf Gi a b b _ rfl (kid0 hkd (by omega)) hi⟩
    by_cases o3 : r.op = 3
    · refine both fun n Gi A P a b _ hA hg hi => ?_
      have hw : r.wds = [[46]] := by rw [r.wds_eq, if_neg (by omega), if_neg (by omega), if_pos o3]
      obtain ⟨hnm, hkd⟩ : r.name = [] ∧ r.kids = [] := by
        have := h1
        unfold nodeB at this
        rw [if_neg (by omega), if_pos o3, Bool.and_eq_true, decide_eq_true_eq] at this
        exact ⟨by simpa using this.1, List.length_eq_zero_iff.1 this.2⟩
      rw [hw] at hA ⊢
      exact ⟨b, _, Rn.one (get_lt hA.get) (st_dot hA.get), by simp, leaf Gi a b b _ rfl (kid0 hkd (by omega)) hi⟩
    by_cases o4 : r.op = 4
    · by_cases hkd : r.kids = []
      · refine both fun n Gi A P a b _ hA hg hi => ?_
        have hw : r.wds = [[40], [41]] := by rw [r.wds_eq, if_neg (by omega), if_neg (by omega), if_neg (by omega), if_pos o4, if_pos (by rw [hkd]; rfl)]
        have hpd : r.pd = 1 := by rw [r.pd_eq, if_pos o4, if_pos (by rw [hkd]; rfl)]
        rw [hw] at hA ⊢
        rw [hpd]
        have g0 := hA.get
        have g1 := AtW.get (AtW.right (u := [[40]]) (v := [[41]]) hA)
        have r1 := Rn.one (b := b) (Gi := Gi) (A := A) (P := P) (get_lt g0) (st_begin g0)
        obtain ⟨x, hx⟩ := st_end (b := if Gi.length = 50 ∧ b = 0 then a else b) (Gj := Gi) (A0 := A) (P0 := P) (A := []) (P := []) g1 (Or.inr ⟨rfl, rfl⟩)
        have r2 := Rn.one (get_lt g1) hx
        refine ⟨_, [x], r1.trans r2, by simp, fun hh => ?_⟩
        split
        · rename_i q; omega
        · rename_i q
          rcases hh with hh | hh
          · exact hh
          · by_cases h5 : Gi.length = 50
            · intro e; exact q ⟨h5, e⟩
            · exact hi (by omega)
      · refine both fun n => ?_
        have hw : r.wds = (r.kids.map fun k => kwd 1 (tg k) k.wds).flatten := by rw [r.wds_eq, if_neg (by omega), if_neg (by omega), if_neg (by omega), if_pos o4, if_neg (by simpa using hkd)]
        have hpd : r.pd = (r.kids.map fun k => if 1 ≤ tg k then k.pd else k.pd + 1).foldl max 0 := by rw [r.pd_eq, if_pos o4, if_neg (by simpa using hkd)]
        rw [hw, hpd]
        exact deep_row _ _ r.kids hkd (fun k hkm n => deep_item (fun hc => (IH k hkm).1 hc) (IH k hkm).2 n) n
    by_cases o5 : r.op = 5
    · obtain ⟨n1, n2, n3⟩ := node_alt h1 o5
      have ht : tg r = 0 := by unfold tg; rw [if_pos o5]
      have hw : r.wds = orW r.kids := by
        rw [r.wds_eq, if_neg (by omega), if_neg (by omega), if_neg (by omega), if_neg (by omega), if_pos o5]
        rfl
      have hpd : r.pd = (r.kids.map fun k => k.pd).foldl max 0 := by rw [r.pd_eq, if_neg (by omega), if_pos o5]
      have htk : ∀ k ∈ r.kids, 1 ≤ tg k := fun k hkm => by
        unfold tg
        rw [if_neg (n3 k hkm)]
        split <;> omega
      refine ⟨fun h => by omega, fun Gi a b hA hg hi => ?_⟩
      rw [hw] at hA ⊢
      rw [hpd]
      exact deep_alt r.kids (fun e => by rw [e] at n2; simp at n2) (fun k hkm => (IH k hkm).1 (htk k hkm)) Gi [] a b hA hg hi
    by_cases o6 : r.op = 6 ∨ r.op = 7 ∨ r.op = 8
    · obtain ⟨n1, k, hkd⟩ := node_rep h1 o6
      have hkm : k ∈ r.kids := by rw [hkd]; simp
      refine both fun n Gi A P a b _ hA hg hi => ?_
      have hw : r.wds = kwd 2 (tg k) k.wds ++ [sgn1 r.op] := by
        rw [r.wds_eq, if_neg (by omega), if_neg (by omega), if_neg (by omega), if_neg o4, if_neg o5, hkd]
        simp
      have hpd : r.pd = if 2 ≤ tg k then k.pd else k.pd + 1 := by
        rw [r.pd_eq, if_neg o4, if_neg o5, hkd]
        simp
      rw [hw] at hA ⊢
      rw [hpd]
      obtain ⟨b1, X, r1, hX, hb1⟩ := deep_item (least := 2) (fun hc => (IH k hkm).1 (by omega)) (IH k hkm).2 _ Gi A P a b rfl hA.left hg hi
      have g1 := AtW.get hA.right
      have r2 := Rn.one (b := b1) (Gi := Gi) (A := A) (P := P ++ X) (get_lt g1) (st_rep o6 g1 (by simp [hX]))
      obtain ⟨Xi, x, rfl⟩ := snoc_of hX
      rw [← List.append_assoc, repM_snoc, List.append_assoc] at r2
      refine ⟨b1, Xi ++ [.mk r.op [] [x]], ?_, by simp, hb1⟩
      rw [List.length_append, ← Nat.add_assoc]
      rw [List.append_assoc] at r2
      exact r1.trans r2
    · exfalso
      have := h1
      unfold nodeB at this
      rw [if_neg (by omega), if_neg (by omega), if_neg (by omega), if_neg (by omega), if_neg o6] at this
      cases this
end
theorem pd_nodes (r : Rx) : r.pd ≤ r.nodes := by
  induction r using Rx.ind with
  | h r ih =>
    have hk := r.nodes_kids
    have key : ∀ (f : Rx → Nat), (∀ k ∈ r.kids, f k ≤ k.nodes + 1) → (r.kids.map f).foldl max 0 ≤ r.nodes := fun f hf => by
      have gen : ∀ l : List Nat, (∀ x ∈ l, x ≤ r.nodes) → l.foldl max 0 ≤ r.nodes := fun l => by
        induction l with
        | nil => intro _; simp
        | cons x t iht =>
          intro h
          rw [List.foldl_cons, foldl_max]
          have := iht (fun y hy => h y (List.mem_cons_of_mem _ hy))
          have := h x (by simp)
          omega
      refine gen _ fun x hx => ?_
      obtain ⟨k, hkm, rfl⟩ := List.mem_map.1 hx
      have := nodesL_mem hkm
      have := hf k hkm
      omega
    rw [r.pd_eq]
    split
    · split
      · omega
      · exact key _ fun k hkm => by have := ih k hkm; split <;> omega
    · split
      · exact key _ fun k hkm => by have := ih k hkm; omega
      · exact key _ fun k hkm => by have := ih k hkm; split <;> omega
/-- What is printed, with more than 50 parentheses open at once, is too deep. -/
theorem prsO_deep {r : Rx} (hc : chkN r = 0) (hp : 50 < r.pd) : prsO (prS r) = (91, none) := by
  obtain ⟨hb, hn⟩ := chk_zero hc
  have hwp := r.wds_pos hb
  have hall : allW r.wds = true := List.all_eq_true.2 fun x hx => (r.wds_ok hb x hx).1
  obtain ⟨h1, ws, h2, h3⟩ := back_readX hall (fun e => by rw [e] at hwp; simp at hwp)
  have hps : prS r = Wo.sayL r.wds := by unfold prS sayS; rw [if_pos hc, if_pos hall]
  obtain ⟨b', A', P', hr, hne, hb'⟩ := (deep_any (ts := r.wds) r hb).2 [] 0 0 ⟨[], [], by simp, rfl⟩ (by simp) (by simp)
  have hfl : ([ws].flatten.map (·.1)) = r.wds := by rw [List.flatten_singleton]; exact h3
  unfold prsO
  have hrun := hr.run (by simp) (r.wds.length + 1) (by omega)
  rw [List.nil_append, List.nil_append] at hrun
  rw [hps, if_neg (fun h => h h1), h2, hfl, hrun]
  have hbb : b' ≠ 0 := hb' (Or.inr (by simpa using hp))
  show outP (if P'.isEmpty = true then .fault _ else if b' = 0 then .ok A' P' else .deep b') = _
  rw [if_neg (by simpa using hne), if_neg hbb]
  rfl
end Go.Proofs.YtagppgncanimaaaGreatDoor
