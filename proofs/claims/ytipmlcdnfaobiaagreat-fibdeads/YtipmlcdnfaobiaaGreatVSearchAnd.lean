/-
  slices.Delete of one rule.
  slices.Insert of a rule without room; any way.
  slices.Insert of a rule, there is room and it does not stand last; slices.Delete of one rule.
  find: the place of a rule's key among rules in order.
  Which rule stands ahead: the program's Ahead (as text UOrdB has it, for seats that lack what else stands there).
  sort.Search with a closure that lays blocks behind.
-/
import Derived.Test.YtipmlcdnfaobiaaGreatVMathAnd
import Derived.Deep.LoopGhost
import Derived.Deep.Draws
import Derived.Sort.Walk0
import Derived.Test.YtipmlcdnfaobiaaGreatUCopyAnd
import Derived.Test.YtipmlcdnfaobiaaGreatUPrintAnd
import Derived.Test.YtipmlcdnfaobiaaGreatUDocPAnd
import Derived.Laws.NewBlocks
namespace Go.Proofs.YtipmlcdnfaobiaaGreat
open Go.RowKit

theorem Tryz.entFind : ∀ args w, (callFunc 116 args).run Tryz.prog w = .ok (.enter 116 args) w := fun _ _ => by kernel_rfl
/-- How far a search has come. -/
structure SearchAt (w : World) (n : Nat) (p : Nat → Bool) (lo hi : Nat) (wr : World) : Prop where
  low : Below w.heap.size w wr
  no : ∀ t, t < lo → p t = false
  yes : ∀ t, hi ≤ t → t < n → p t = true

set_option maxRecDepth 20000 in
set_option maxHeartbeats 4000000 in
theorem Search_any {w : World} {n c1 c2 : Nat} {p : Nat → Bool} (hn : n < 4611686018427387904)
    (hf : ∀ (W : World) (i : Nat), Below w.heap.size w W → i < n → Calls Tryz.prog 116 #[.int .i64 (i : Int), .pointer (some ⟨c1, 0, none⟩), .pointer (some ⟨c2, 0, none⟩)] W fun e w' => e = .returned (.bool (p i)) ∧ Below W.heap.size W w')
    (hm : ∀ a b, a ≤ b → b < n → p a = true → p b = true) :
    Calls Tryz.prog 115 #[.int .i64 n, .func (.func 116) #[] #[.pointer (some ⟨c1, 0, none⟩), .pointer (some ⟨c2, 0, none⟩)]] w fun e w' => ∃ k : Nat, e = .returned (.int .i64 (k : Int)) ∧ k ≤ n ∧ Hid (SearchAt w n p k k w') := by
  have HF := hid hf
  have HM := hid hm
  have hent := Tryz.entFind
  clear hf hm
  go_enter Tryz.func115, Tryz.ntmps115
  go_wp2_with fail
  go_loopw [5, 6, 7] (fun vi vj _ wr => ∃ lo hi : Nat, vi = .int .i64 lo ∧ vj = .int .i64 hi ∧ lo ≤ hi ∧ hi ≤ n ∧ Hid (SearchAt w n p lo hi wr)) (fun vi vj _ _ => (intOf vj).toNat - (intOf vi).toNat)
  case atStart => exact ⟨0, n, rfl, rfl, Nat.zero_le _, Nat.le_refl _, Below.refl _ _, fun t ht => by omega, fun t h1 h2 => by omega⟩
  case round =>
    obtain ⟨lo, hi, rfl, rfl, hlh, hin, HI⟩ := hrel
    by_cases hlt : lo < hi
    · have hc := HF.out wr ((lo + hi) / 2) HI.out.low (by omega)
      rw [show (((lo + hi) / 2 : Nat) : Int) = ((lo : Int) + (hi : Int)) / 2 by omega] at hc
      have HC := hid hc
      clear hc
      cases hp : p ((lo + hi) / 2) with
      | false =>
        rw [hp] at HC
        have HP := hid hp
        clear hp
        go_wp2_with (go_at_call 116; refine HC.out.mono ?_; rintro e w2 ⟨rfl, hb2⟩; have B2 := hid hb2; clear hb2)
        have HN := hid (show SearchAt w n p ((lo + hi) / 2 + 1) hi w2 from ⟨HI.out.low.trans (B2.out.mono HI.out.low.size), fun t ht => (by
          cases h : p t with
          | false => rfl
          | true => exact absurd (HM.out t ((lo + hi) / 2) (by omega) (by omega) h) (by rw [HP.out]; decide)), HI.out.yes⟩)
        go_roundw
        case rel => exact ⟨(lo + hi) / 2 + 1, hi, by go_num, rfl, by omega, by omega, HN⟩
        case measure => simp [intOf]; omega
      | true =>
        rw [hp] at HC
        have HP := hid hp
        clear hp
        go_wp2_with (go_at_call 116; refine HC.out.mono ?_; rintro e w2 ⟨rfl, hb2⟩; have B2 := hid hb2; clear hb2)
        have HN := hid (show SearchAt w n p lo ((lo + hi) / 2) w2 from ⟨HI.out.low.trans (B2.out.mono HI.out.low.size), HI.out.no, fun t h1 h2 => HM.out _ t h1 h2 HP.out⟩)
        go_roundw
        case rel => exact ⟨lo, (lo + hi) / 2, rfl, by go_num, by omega, by omega, HN⟩
        case measure => simp [intOf]; omega
    · have he : hi = lo := by omega
      subst he
      have hI : ¬ ((hi : Int) < (hi : Int)) := by omega
      go_wp2
      go_ret
      exact ⟨hi, rfl, hin, HI.out⟩
end Go.Proofs.YtipmlcdnfaobiaaGreat
namespace Go.Proofs.YtipmlcdnfaobiaaGreat
open Go.RowKit

theorem aheadB_cmp (a b : Raw) : aheadB a.prio b.prio a.mat b.mat = decide (cmpR a b < 0) := by
  rw [decide_eq_decide.2 cmpR_neg]
  rfl
set_option maxRecDepth 20000 in
set_option maxHeartbeats 2000000 in
theorem AheadV_any {w : World} {p q k l : Int} {m n : List UInt8} {ao bo : Option Addr} {la ca lb cb : Nat} :
    Calls Tryz.prog 117 #[.agg #[.int .i64 p, .string (tx m), .int .i64 k, .slice ao la ca], .agg #[.int .i64 q, .string (tx n), .int .i64 l, .slice bo lb cb]] w fun e w' => e = .returned (.bool (aheadB p q m n)) ∧ Below w.heap.size w w' := by
  have HC := hid (fun w' => compare_any (w := w') (p := p) (q := q) (k := k) (l := l) (m := m) (n := n) (ao := ao) (bo := bo) (la := la) (ca := ca) (lb := lb) (cb := cb))
  have HE := hid (show decide ((if cmpI q p = 0 then cmpL m n else cmpI q p) < 0) = aheadB p q m n from (aheadB_cmp ⟨p, m, 0, []⟩ ⟨q, n, 0, []⟩).symm)
  obtain ⟨r, hr⟩ : ∃ r, r = (if cmpI q p = 0 then cmpL m n else cmpI q p) := ⟨_, rfl⟩
  rw [← hr] at HC HE
  clear hr
  rw [← HE.out]
  clear HE
  go_enter Tryz.func117, Tryz.ntmps117
  go_wp2_with fail
  refine (HC.out _).mono ?_
  rintro en w1 ⟨rfl, hb1⟩
  have B1 := hid (show Below w.heap.size w w1 from (((Below.refl _ _).alloc (Nat.le_refl _) _).alloc (by simp) _).trans (hb1.mono (by simp; omega)))
  clear hb1
  go_wp2
  go_ret
  exact ⟨rfl, B1.out⟩
end Go.Proofs.YtipmlcdnfaobiaaGreat
namespace Go.Proofs.YtipmlcdnfaobiaaGreat
open Go.RowKit

set_option maxRecDepth 20000 in
set_option maxHeartbeats 2000000 in
theorem find1_any {w : World} {D c1 c2 g i n cap : Nat} {p q k l : Int} {m m' : List UInt8} {ao bo : Option Addr} {la ca lb cb : Nat} (hi : i < n) (h1 : w.cell? ⟨c1, 0, none⟩ = some (.pointer (some ⟨D, 0, none⟩))) (hv : w.cell? ⟨D, 1, none⟩ = some (.slice (some ⟨g, 0, none⟩) n cap))
    (ha : w.cell? ⟨g, i * 4, none⟩ = some (.int .i64 p) ∧ w.cell? ⟨g, i * 4 + 1, none⟩ = some (.string (tx m)) ∧ w.cell? ⟨g, i * 4 + 2, none⟩ = some (.int .i64 k) ∧ w.cell? ⟨g, i * 4 + 3, none⟩ = some (.slice ao la ca))
    (hb : w.cell? ⟨c2, 0, none⟩ = some (.int .i64 q) ∧ w.cell? ⟨c2, 1, none⟩ = some (.string (tx m')) ∧ w.cell? ⟨c2, 2, none⟩ = some (.int .i64 l) ∧ w.cell? ⟨c2, 3, none⟩ = some (.slice bo lb cb)) :
    Calls Tryz.prog 116 #[.int .i64 (i : Int), .pointer (some ⟨c1, 0, none⟩), .pointer (some ⟨c2, 0, none⟩)] w fun e w' => e = .returned (.bool (!aheadB p q m m')) ∧ Below w.heap.size w w' := by
  obtain ⟨a0, a1, a2, a3⟩ := ha
  obtain ⟨b0, b1, b2, b3⟩ := hb
  have HC := hid (fun w' => AheadV_any (w := w') (p := p) (q := q) (k := k) (l := l) (m := m) (n := m') (ao := ao) (bo := bo) (la := la) (ca := ca) (lb := lb) (cb := cb))
  obtain ⟨r, hr⟩ : ∃ r, r = aheadB p q m m' := ⟨_, rfl⟩
  rw [← hr] at HC ⊢
  clear hr
  have i0 : (0 : Int) ≤ (i : Int) := by omega
  have i1 : (i : Int) < (n : Int) := by omega
  go_enter Tryz.func116, Tryz.ntmps116
  go_wp2_with fail
  go_region_held2 (fun W => W.cell? ⟨c1, 0, none⟩ = some (.pointer (some ⟨D, 0, none⟩)) ∧ W.cell? ⟨D, 1, none⟩ = some (.slice (some ⟨g, 0, none⟩) n cap) ∧ W.cell? ⟨g, i * 4, none⟩ = some (.int .i64 p) ∧ W.cell? ⟨g, i * 4 + 1, none⟩ = some (.string (tx m)) ∧ W.cell? ⟨g, i * 4 + 2, none⟩ = some (.int .i64 k) ∧ W.cell? ⟨g, i * 4 + 3, none⟩ = some (.slice ao la ca) ∧ W.cell? ⟨c2, 0, none⟩ = some (.int .i64 q) ∧ W.cell? ⟨c2, 1, none⟩ = some (.string (tx m')) ∧ W.cell? ⟨c2, 2, none⟩ = some (.int .i64 l) ∧ W.cell? ⟨c2, 3, none⟩ = some (.slice bo lb cb)) (first | exact ⟨h1, hv, a0, a1, a2, a3, b0, b1, b2, b3⟩ | exact hS2) (first | (go_at_call 117; refine (HC.out _).mono ?_; rintro en w2 ⟨rfl, hb2⟩; have B2 := hid hb2; have hS2 := And.intro ((hb2.cell (block_old h1)).trans h1) (And.intro ((hb2.cell (block_old hv)).trans hv) (And.intro ((hb2.cell (block_old a0)).trans a0) (And.intro ((hb2.cell (block_old a1)).trans a1) (And.intro ((hb2.cell (block_old a2)).trans a2) (And.intro ((hb2.cell (block_old a3)).trans a3) (And.intro ((hb2.cell (block_old b0)).trans b0) (And.intro ((hb2.cell (block_old b1)).trans b1) (And.intro ((hb2.cell (block_old b2)).trans b2) ((hb2.cell (block_old b3)).trans b3))))))))); clear hb2))
  go_wp2
  go_ret
  exact ⟨rfl, (Below.refl w.heap.size w).drew.trans (show Below w.heap.size w.drew w2 from B2.out)⟩

/-- A row of rules of one's own: in order, its ports slices. -/
structure OwnR (w : World) (B : Nat) (v : Value) (ps : List (Raw × Value)) : Prop where
  own : w.ownsRow B 44 4 v ps.length (flatV ps)
  vals : ∀ q ∈ ps, ∃ ao n c, q.2 = .slice ao n c
theorem OwnR.on {w w' : World} {B : Nat} {v : Value} {ps : List (Raw × Value)} (h : OwnR w B v ps) (hb : Below w.heap.size w w') : OwnR w' B v ps := ⟨own_kept h.own hb, h.vals⟩
theorem OwnR.form {w : World} {B : Nat} {v : Value} {ps : List (Raw × Value)} (h : OwnR w B v ps) : ∃ ao c, v = .slice ao ps.length c ∧ ps.length ≤ c ∧ ((ao = none ∧ ps = []) ∨ ∃ g, ao = some ⟨g, 0, none⟩ ∧ B ≤ g ∧ g < w.heap.size) := by
  rcases h.own.2 with ⟨e, h0⟩ | ⟨g, cap, cur, e, hB, hh, hn, _⟩
  · have : ps = [] := List.length_eq_zero_iff.1 h0
    subst this
    exact ⟨none, 0, e, Nat.le_refl _, Or.inl ⟨rfl, rfl⟩⟩
  · exact ⟨_, cap, e, hn, Or.inr ⟨g, rfl, hB, lt_of_block hh⟩⟩
theorem OwnR.cells {w : World} {B g n c : Nat} {ps : List (Raw × Value)} (h : OwnR w B (.slice (some ⟨g, 0, none⟩) n c) ps) {i : Nat} {q : Raw × Value} (hq : ps[i]? = some q) : w.cell? ⟨g, i * 4, none⟩ = some (.int .i64 q.1.prio) ∧ w.cell? ⟨g, i * 4 + 1, none⟩ = some (.string (tx q.1.mat)) ∧ w.cell? ⟨g, i * 4 + 2, none⟩ = some (.int .i64 q.1.kind) ∧ w.cell? ⟨g, i * 4 + 3, none⟩ = some q.2 := by
  rcases h.own.2 with ⟨e, _⟩ | ⟨g', cap, cur, e, _, hh, _, _, _, ht⟩
  · cases e
  · injection e with e1 e2 e3
    injection e1 with e1
    injection e1 with e1 _ _
    subst e1
    obtain ⟨h0, h1, h2, h3⟩ := flatV_get hq
    have key : ∀ (j : Nat) (u : Value), (flatV ps)[j]? = some u → w.cell? ⟨g, j, none⟩ = some u := fun j u hj => by
      rw [cell_at hh, ← Array.getElem?_toList]
      rw [← ht, List.getElem?_take] at hj
      split at hj
      · exact hj
      · cases hj
    exact ⟨key _ _ h0, key _ _ h1, key _ _ h2, key _ _ h3⟩

set_option maxRecDepth 20000 in
set_option maxHeartbeats 4000000 in
theorem find_any {w : World} {D B : Nat} {v : Value} {p k : Int} {m : List UInt8} {bo : Option Addr} {lb cb : Nat} {zs : List (List UInt8)} {ps : List (Raw × Value)} (hv : w.cell? ⟨D, 1, none⟩ = some v) (ho : OwnR w B v ps) (hs : Srt (ps.map Prod.fst)) (h60 : ps.length ≤ 4096) :
    Calls Tryz.prog 92 #[.pointer (some ⟨D, 0, none⟩), .agg #[.int .i64 p, .string (tx m), .int .i64 k, .slice bo lb cb]] w fun e w' => ∃ j : Nat, e = .returned (.tuple #[.int .i64 (j : Int), .bool ((ps.map Prod.fst).any fun a => keyB a ⟨p, m, k, zs⟩)]) ∧ Hid (PlaceAt (ps.map Prod.fst) ⟨p, m, k, zs⟩ j ∧ Below w.heap.size w w') := by
  have HO := hid ho
  have HS := hid hs
  have hD := block_old hv
  have hD : D < w.heap.size := hD
  obtain ⟨ao, c, hve, hnc, hform⟩ := ho.form
  subst hve
  have HFORM := hid hform
  have HV := hid hv
  obtain ⟨r, hr⟩ : ∃ r : Raw, r = ⟨p, m, k, zs⟩ := ⟨_, rfl⟩
  have HR := hid hr
  rw [← hr]
  have hrp : r.prio = p := by rw [hr]
  have hrm : r.mat = m := by rw [hr]
  obtain ⟨n, hn⟩ : ∃ n, n = ps.length := ⟨_, rfl⟩
  have HN := hid hn
  rw [← hn] at hv h60 hnc
  clear hn ho hs hform
  obtain ⟨W0, hW0⟩ : ∃ W0, W0 = (w.alloc (.cells #[.pointer (some ⟨D, 0, none⟩)] 92)).alloc (rob p (tx m) k (.slice bo lb cb)) := ⟨_, rfl⟩
  have HW0 := hid (show Below w.heap.size w W0 by rw [hW0]; exact ((Below.refl _ _).alloc (Nat.le_refl _) _).alloc (by simp) _)
  have HSZ := hid (show W0.heap.size = w.heap.size + 2 by rw [hW0]; simp)
  have HC1 := hid (show W0.heap[w.heap.size]? = some (.cells #[.pointer (some ⟨D, 0, none⟩)] 92) by rw [hW0]; exact new_old _ _ (new_0 _ _))
  have HC2 := hid (show W0.heap[w.heap.size + 1]? = some (rob p (tx m) k (.slice bo lb cb)) by rw [hW0]; exact new_1 _ _ _)
  have v0 : W0.cell? ⟨D, 1, none⟩ = some (.slice ao n c) := (HW0.out.cell (by exact hD)).trans hv
  have HSEA := hid (Search_any (w := W0) (n := n) (c1 := w.heap.size) (c2 := w.heap.size + 1) (p := fun i => !decide (cmpR (rawAt ps i) r < 0)) (by omega) (fun W i hW hi => by
    obtain ⟨q, hq⟩ : ∃ q, ps[i]? = some q := ⟨ps[i]'(by rw [← HN.out]; exact hi), List.getElem?_eq_getElem _⟩
    obtain ⟨g, hg⟩ : ∃ g, ao = some ⟨g, 0, none⟩ := by
      rcases HFORM.out with ⟨_, h0⟩ | ⟨g, h1, _⟩
      · exfalso; rw [h0] at hq; simp at hq
      · exact ⟨g, h1⟩
    subst hg
    have hb : Below w.heap.size w W := HW0.out.trans (hW.mono (by rw [HSZ.out]; omega))
    have hc := (HO.out.on hb).cells hq
    obtain ⟨an, al, ac, hq2⟩ := HO.out.vals q (List.mem_of_getElem? hq)
    have hx : rawAt ps i = q.1 := rawAt_some hq
    have HX := hid hx
    obtain ⟨⟨p', m', k', z'⟩, uv⟩ := q
    simp only at hc hq2 hx
    subst hq2
    have hcm := aheadB_cmp ⟨p', m', k', z'⟩ r
    rw [← hx] at hcm
    rw [← hcm, hrp, hrm, hx]
    exact find1_any (n := n) (cap := c) hi (by rw [cell_at (below_block hW HC1.out (by rw [HSZ.out]; omega))]; rfl) ((hW.cell (by show D < W0.heap.size; rw [HSZ.out]; omega)).trans v0) hc
      (by obtain ⟨b0, b1, b2, b3, _⟩ := rob_cells (below_block hW HC2.out (by rw [HSZ.out]; omega)); exact ⟨b0, b1, b2, b3⟩))
    (fun a b hab hb ha => by
      simp only [Bool.not_eq_true', decide_eq_false_iff_not] at ha ⊢
      intro hbr
      have hb' : b < ps.length := by rw [← HN.out]; exact hb
      have ha' : a < ps.length := by omega
      rcases Nat.lt_or_eq_of_le hab with hlt | rfl
      · have := List.pairwise_iff_getElem.1 HS.out a b (by simpa using ha') (by simpa using hb') hlt
        simp only [List.getElem_map] at this
        rw [← rawAt_some (List.getElem?_eq_getElem ha'), ← rawAt_some (List.getElem?_eq_getElem hb')] at this
        exact ha (cmpR_trans this hbr)
      · exact ha hbr))
  have HPL := hid (show ∀ (j : Nat) (w' : World), j ≤ n → SearchAt W0 n (fun i => !decide (cmpR (rawAt ps i) r < 0)) j j w' → PlaceAt (ps.map Prod.fst) r j from fun j w' hj hS => by
    have e : ∀ i (hi : i < (ps.map Prod.fst).length), (ps.map Prod.fst)[i] = rawAt ps i := fun i hi => by
      have hi' : i < ps.length := by simpa using hi
      rw [List.getElem_map, rawAt_some (List.getElem?_eq_getElem hi')]
    refine ⟨by rw [List.length_map, ← HN.out]; exact hj, fun a ha => ?_, fun a ha => ?_⟩
    · obtain ⟨i, hi, rfl⟩ := List.mem_iff_getElem.1 ha
      rw [List.length_take] at hi
      rw [List.getElem_take, e]
      have := hS.no i (by omega)
      simpa using this
    · obtain ⟨i, hi, rfl⟩ := List.mem_iff_getElem.1 ha
      rw [List.length_drop] at hi
      rw [List.getElem_drop, e]
      have := hS.yes (j + i) (by omega) (by have := HN.out; rw [List.length_map] at hi; omega)
      simpa using this)
  go_enter Tryz.func92, Tryz.ntmps92
  go_wp2_with fail
  rw [← hW0]
  refine HSEA.out.mono ?_
  rintro en w2 ⟨j, rfl, hj, hS⟩
  have B2 := hid hS.out.low
  have HP := hid (HPL.out j w2 hj hS.out)
  have c1 : w2.cell? ⟨w.heap.size, 0, none⟩ = some (.pointer (some ⟨D, 0, none⟩)) := by rw [cell_at (below_block B2.out HC1.out (by rw [HSZ.out]; omega))]; rfl
  have v2 : w2.cell? ⟨D, 1, none⟩ = some (.slice ao n c) := (B2.out.cell (by show D < W0.heap.size; rw [HSZ.out]; omega)).trans v0
  have BW := hid (HW0.out.trans (B2.out.mono (by rw [HSZ.out]; omega)))
  obtain ⟨b0, b1, b2, b3, _, _, _, _⟩ := rob_cells (below_block B2.out HC2.out (by rw [HSZ.out]; omega))
  by_cases hlt : j < n
  · obtain ⟨q, hq⟩ : ∃ q, ps[j]? = some q := ⟨ps[j]'(by rw [← HN.out]; exact hlt), List.getElem?_eq_getElem _⟩
    obtain ⟨g, hg⟩ : ∃ g, ao = some ⟨g, 0, none⟩ := by
      rcases HFORM.out with ⟨_, h0⟩ | ⟨g, h1, _⟩
      · exfalso; rw [h0] at hq; simp at hq
      · exact ⟨g, h1⟩
    subst hg
    obtain ⟨a0, a1, a2, a3⟩ := (HO.out.on BW.out).cells hq
    obtain ⟨an, al, ac, hq2⟩ := HO.out.vals q (List.mem_of_getElem? hq)
    have HTH := hid (show ((ps.map Prod.fst).any fun a => keyB a r) = !decide (cmpR r q.1 < 0) by
      have h1 := there_iff HS.out HP.out
      have h2 : (ps.map Prod.fst)[j]? = some q.1 := by rw [List.getElem?_map, hq]; rfl
      cases ht : (ps.map Prod.fst).any fun a => keyB a r with
      | true =>
        obtain ⟨a, ha, hk⟩ := h1.1 ht
        rw [h2] at ha
        cases ha
        simp [hk]
      | false =>
        by_cases hk : cmpR r q.1 < 0
        · simp [hk]
        · have := h1.2 ⟨q.1, h2, hk⟩
          rw [ht] at this
          cases this)
    obtain ⟨⟨p', m', k', z'⟩, uv⟩ := q
    simp only at a0 a1 a2 a3 hq2 HTH
    subst hq2
    rw [← aheadB_cmp, hrp, hrm] at HTH
    have HC := hid (fun w' => AheadV_any (w := w') (p := p) (q := p') (k := k) (l := k') (m := m) (n := m') (ao := bo) (bo := an) (la := lb) (ca := cb) (lb := al) (cb := ac))
    obtain ⟨bv, hbv⟩ : ∃ bv, bv = aheadB p p' m m' := ⟨_, rfl⟩
    rw [← hbv] at HC HTH
    clear hbv hq hS hrp hrm hr
    have i0 : (0 : Int) ≤ (j : Int) := by omega
    have i1 : (j : Int) < (n : Int) := by omega
    have hd : decide ((j : Int) < (n : Int)) = true := by simpa using hlt
    go_wp2_with fail
    go_region_held2 (fun W => W.cell? ⟨w.heap.size, 0, none⟩ = some (.pointer (some ⟨D, 0, none⟩)) ∧ W.cell? ⟨D, 1, none⟩ = some (.slice (some ⟨g, 0, none⟩) n c) ∧ W.cell? ⟨g, j * 4, none⟩ = some (.int .i64 p') ∧ W.cell? ⟨g, j * 4 + 1, none⟩ = some (.string (tx m')) ∧ W.cell? ⟨g, j * 4 + 2, none⟩ = some (.int .i64 k') ∧ W.cell? ⟨g, j * 4 + 3, none⟩ = some (.slice an al ac) ∧ W.cell? ⟨w.heap.size + 1, 0, none⟩ = some (.int .i64 p) ∧ W.cell? ⟨w.heap.size + 1, 1, none⟩ = some (.string (tx m)) ∧ W.cell? ⟨w.heap.size + 1, 2, none⟩ = some (.int .i64 k) ∧ W.cell? ⟨w.heap.size + 1, 3, none⟩ = some (.slice bo lb cb)) (first | exact ⟨c1, v2, a0, a1, a2, a3, b0, b1, b2, b3⟩ | exact hS3) (first | (go_at_call 117; refine (HC.out _).mono ?_; rintro en w3 ⟨rfl, hb3⟩; have B3 := hid hb3; have hS3 := And.intro ((hb3.cell (block_old c1)).trans c1) (And.intro ((hb3.cell (block_old v2)).trans v2) (And.intro ((hb3.cell (block_old a0)).trans a0) (And.intro ((hb3.cell (block_old a1)).trans a1) (And.intro ((hb3.cell (block_old a2)).trans a2) (And.intro ((hb3.cell (block_old a3)).trans a3) (And.intro ((hb3.cell (block_old b0)).trans b0) (And.intro ((hb3.cell (block_old b1)).trans b1) (And.intro ((hb3.cell (block_old b2)).trans b2) ((hb3.cell (block_old b3)).trans b3))))))))); clear hb3))
    go_wp2
    refine bodyPost_ret (v := .tuple #[.int .i64 (j : Int), .bool (!bv)]) (by simp [results, Tryz.results92, go_sem]) rfl ⟨j, by rw [HTH.out], HP.out, below_2 BW.out (undrew B3.out)⟩
  · have hjn : j = n := by omega
    have HTH := hid (show ((ps.map Prod.fst).any fun a => keyB a r) = false by
      cases ht : (ps.map Prod.fst).any fun a => keyB a r with
      | false => rfl
      | true =>
        obtain ⟨a, ha, _⟩ := (there_iff HS.out HP.out).1 ht
        have := (List.getElem?_eq_some_iff.1 ha).1
        rw [List.length_map, ← HN.out] at this
        omega)
    have hI : ¬ ((j : Int) < (n : Int)) := by omega
    have hd : decide ((j : Int) < (n : Int)) = false := by simpa using hlt
    clear hS
    have mixed := Tryz.mixed
    go_wp2_with fail
    go_big_region_o
    go_wp2
    refine bodyPost_ret (v := .tuple #[.int .i64 (j : Int), .bool false]) (by simp [results, Tryz.results92, go_sem]; omega) rfl ⟨j, by rw [HTH.out], HP.out, BW.out.drew⟩
end Go.Proofs.YtipmlcdnfaobiaaGreat
namespace Go.Proofs.YtipmlcdnfaobiaaGreat
open Go.RowKit

theorem own_parts {w : World} {B g n c : Nat} {xs : List Value} (h : w.ownsRow B 44 4 (.slice (some ⟨g, 0, none⟩) n c) n xs) : ∃ cur, B ≤ g ∧ w.heap[g]? = some (.cells cur 44 (0, 0)) ∧ n ≤ c ∧ c ≤ maxLen ∧ cur.size = c * 4 ∧ (∀ (j : Nat) (u : Value), xs[j]? = some u → w.cell? ⟨g, j, none⟩ = some u) ∧ ∀ j, j < c * 4 → (w.cell? ⟨g, j, none⟩).isSome = true := by
  rcases h.2 with ⟨e, _⟩ | ⟨g', cap, cur, e, hB, hh, hn, hm, hs, ht⟩
  · cases e
  · injection e with e1 e2 e3
    injection e1 with e1
    injection e1 with e1 _ _
    subst e1 e3
    refine ⟨cur, hB, hh, hn, hm, hs, fun j u hj => ?_, fun j hj => ?_⟩
    · rw [cell_at hh, ← Array.getElem?_toList]
      rw [← ht, List.getElem?_take] at hj
      split at hj
      · exact hj
      · cases hj
    · rw [cell_at hh, Array.getElem?_eq_getElem (by omega)]; rfl

set_option maxRecDepth 20000 in
set_option maxHeartbeats 4000000 in
theorem Insert_shift {w : World} {B g n c k vb : Nat} {ps : List (Raw × Value)} {q : Raw × Value} (hown : w.ownsRow B 44 4 (.slice (some ⟨g, 0, none⟩) n c) n (flatV ps)) (hl : ps.length = n) (hk : k < n) (hroom : n + 1 ≤ c) (h60 : n ≤ 4096)
    (hv : w.heap[vb]? = some (.cells #[.int .i64 q.1.prio, .string (tx q.1.mat), .int .i64 q.1.kind, q.2] 44 (0, 0))) (hq : ∃ ao n c, q.2 = .slice ao n c) (hp : ∀ q ∈ ps, ∃ ao n c, q.2 = .slice ao n c) (hne : vb ≠ g) :
    Calls Tryz.prog 93 #[.slice (some ⟨g, 0, none⟩) n c, .int .i64 (k : Int), .slice (some ⟨vb, 0, none⟩) 1 1] w fun e w' => e = .returned (.slice (some ⟨g, 0, none⟩) (n + 1) c) ∧ Hid (w'.ownsRow B 44 4 (.slice (some ⟨g, 0, none⟩) (n + 1) c) (n + 1) (flatV (ps.take k ++ q :: ps.drop k)) ∧ w.grownBy w' (some g)) := by
  have mixed := Tryz.mixed
  obtain ⟨cur, hB, hh, hnc, hm, hs, hcs, hsome⟩ := own_parts hown
  have hfz : ∀ j, w.frozen? ⟨g, j, none⟩ = false := fun j => free_of hh
  have hvfz : ∀ j, w.frozen? ⟨vb, j, none⟩ = false := fun j => free_of hv
  have h1c : ∀ u ∈ flatV ps, u.oneCell' = true := flatV_one hp
  have h1v : ∀ u ∈ four q, u.oneCell' = true := flatV_one (rs := [q]) (fun x hx => by rw [List.mem_singleton.1 hx]; exact hq)
  have hfl := flatV_len ps
  have hvs : ∀ (j : Nat) (u : Value), (four q)[j]? = some u → w.cell? ⟨vb, j, none⟩ = some u := fun j u hj => by rw [cell_at hv]; simpa using hj
  have hov : ∀ lb cb, (callFunc 118 #[.slice (some ⟨vb, 0, none⟩) 1 1, .slice (some ⟨g, (k + 1) * 4, none⟩) lb cb]).run Tryz.prog w = .ok (.value (.bool false)) w := fun lb cb => by
    rw [run_callFunc_extern Tryz.func118 (by kernel_rfl) (by kernel_rfl) (by kernel_rfl) (e := Extern.SlicesOverlaps.overlaps #[29, 29] #[4]) (by kernel_rfl),
      Lib.run_overlaps_apart w 29 4 44 Tryz.underlying29 4 Tryz.sizeOf44 ⟨vb, 0, none⟩ ⟨g, (k + 1) * 4, none⟩ 1 1 lb cb hne 44 44 4 (c * 4) (by rw [shape_at hv]; rfl) (by rw [shape_at hh, hs]) (by omega) (hvfz _) (hvfz _)]
    rfl
  have hdl : ((flatV ps).drop (k * 4)).length = (n - k) * 4 := by rw [List.length_drop, hfl, hl]; omega
  have hcp1 : ∀ ty dc sc, (Builtin.copy_ #[29, 29] ty #[.slice (some ⟨g, (k + 1) * 4, none⟩) (n - k) dc, .slice (some ⟨g, k * 4, none⟩) (n + 1 - k) sc]).run Tryz.prog w.drew = .ok (goInt (Nat.min (n + 1 - k) (n - k))) (w.drew.setCells g ((k + 1) * 4) ((flatV ps).drop (k * 4))) := fun ty dc sc =>
    run_copy_wide w.drew _ _ ty 44 4 g ((k + 1) * 4) (n - k) dc ⟨g, k * 4, none⟩ (n + 1 - k) sc _ Tryz.underlying29 Tryz.sizeRule (by rw [hdl]; congr 1; simp only [Nat.min_def]; split <;> omega)
      (fun j u hj => by rw [addr_add5]; exact hcs (k * 4 + j) u (by rwa [List.getElem?_drop] at hj))
      (fun j hj => hsome _ (by omega)) (fun j hj => hfz _) (fun u hu => h1c u (List.mem_of_mem_drop hu))
  obtain ⟨W1, hW1⟩ : ∃ W1, W1 = w.drew.setCells g ((k + 1) * 4) ((flatV ps).drop (k * 4)) := ⟨_, rfl⟩
  have hb1 := block_setCells ((flatV ps).drop (k * 4)) ((k + 1) * 4) w.drew cur hh
  rw [← hW1] at hcp1 hb1
  have hsz1 : (setAll cur ((k + 1) * 4) ((flatV ps).drop (k * 4))).size = c * 4 := by rw [setAll_size, hs]
  have hcp2 : ∀ (W : World), (∀ x, W.cell? x = W1.cell? x) → (∀ x, W.frozen? x = W1.frozen? x) → ∀ ty dc, (Builtin.copy_ #[29, 29] ty #[.slice (some ⟨g, k * 4, none⟩) (n + 1 - k) dc, .slice (some ⟨vb, 0, none⟩) 1 1]).run Tryz.prog W = .ok (goInt (Nat.min 1 (n + 1 - k))) (W.setCells g (k * 4) (four q)) := fun W hWc hWf ty dc =>
    run_copy_wide W _ _ ty 44 4 g (k * 4) (n + 1 - k) dc ⟨vb, 0, none⟩ 1 1 (four q) Tryz.underlying29 Tryz.sizeRule (by rw [show Nat.min 1 (n + 1 - k) = 1 by simp only [Nat.min_def]; split <;> omega]; rfl)
      (fun j u hj => by
        rw [addr_add5, Nat.zero_add, hWc, hW1, World.cell?_setCells_out g _ _ _ _ (fun h _ => absurd h hne)]
        exact hvs j u hj)
      (fun j hj => by
        have : j < 4 := hj
        rw [hWc, cell_at hb1, Array.getElem?_eq_getElem (by rw [hsz1]; omega)]; rfl) (fun j hj => by rw [hWf]; exact free_of hb1) h1v
  have HFIN := hid (show ∀ W : World, (∀ x, W.cell? x = W1.cell? x) → W.heap[g]? = W1.heap[g]? → (W.setCells g (k * 4) (four q)).ownsRow B 44 4 (.slice (some ⟨g, 0, none⟩) (n + 1) c) (n + 1) (flatV (ps.take k ++ q :: ps.drop k)) from fun W hWc hWh => by
    have hb2 := block_setCells (four q) (k * 4) W _ (hWh.trans hb1)
    refine own_of_cells hb2 hB hroom hm (by rw [setAll_size, hsz1]) (by rw [flatV_len]; simp [hl]; omega) (fun j u hj => ?_)
    have e : flatV (ps.take k ++ q :: ps.drop k) = (flatV ps).take (k * 4) ++ four q ++ (flatV ps).drop (k * 4) := by
      rw [flatV_append, flatV_take, List.append_assoc]
      show _ ++ (four q ++ flatV (ps.drop k)) = _
      rw [flatV_drop]
    rw [e] at hj
    have hsome2 : ∀ i, i < c * 4 → (W.cell? ⟨g, i, none⟩).isSome = true := fun i hi => by rw [hWc, cell_at hb1, Array.getElem?_eq_getElem (by rw [hsz1]; omega)]; rfl
    have htl : ((flatV ps).take (k * 4)).length = k * 4 := by rw [List.length_take, hfl, hl]; omega
    by_cases h1 : j < k * 4
    · rw [World.cell?_setCells_out g _ _ _ _ (fun _ _ => Or.inl h1), hWc, hW1, World.cell?_setCells_out g _ _ _ _ (fun _ _ => Or.inl (by show j < (k + 1) * 4; omega))]
      rw [List.append_assoc, List.getElem?_append_left (by omega), List.getElem?_take, if_pos h1] at hj
      exact hcs j u hj
    · by_cases h2 : j < k * 4 + 4
      · have hin := World.cell?_setCells_in g (four q) (k * 4) W (fun i hi => hsome2 _ (by have : i < 4 := hi; omega)) (j - k * 4) (by show j - k * 4 < 4; omega)
        rw [show k * 4 + (j - k * 4) = j by omega] at hin
        rw [hin]
        rw [List.getElem?_append_left (by rw [List.length_append, htl]; show j < k * 4 + 4; omega), List.getElem?_append_right (by omega), htl] at hj
        rw [List.getElem?_eq_getElem (by show j - k * 4 < 4; omega)] at hj
        exact hj
      · have hin := World.cell?_setCells_in g ((flatV ps).drop (k * 4)) ((k + 1) * 4) w.drew (fun i hi => hsome _ (by omega)) (j - (k + 1) * 4) (by
          have := (List.getElem?_eq_some_iff.1 hj).1
          simp only [List.length_append, htl, hdl] at this
          have e4 : (four q).length = 4 := rfl
          omega)
        rw [show (k + 1) * 4 + (j - (k + 1) * 4) = j by omega] at hin
        rw [World.cell?_setCells_out g _ _ _ _ (fun _ _ => Or.inr (by show k * 4 + 4 ≤ j; omega)), hWc, hW1, hin]
        rw [List.getElem?_append_right (by rw [List.length_append, htl]; show k * 4 + 4 ≤ j; omega), List.length_append, htl, show k * 4 + (four q).length = (k + 1) * 4 by show k * 4 + 4 = _; omega] at hj
        rw [List.getElem?_eq_getElem (by rw [hdl]; have := (List.getElem?_eq_some_iff.1 hj).1; rw [hdl] at this; exact this)] at hj
        exact hj)
  have HGR := hid (show ∀ W : World, w.grownBy W (some g) → w.grownBy (W.setCells g (k * 4) (four q)) (some g) from fun W hg => grown_two hg (grown_setCells g _ _ _))
  have HG1 := hid (show w.grownBy W1 (some g) by rw [hW1]; exact grown_two (grown_drw w _) (grown_setCells g _ _ _))
  have hz2 : ¬ ((k : Int) = (n : Int)) := by omega
  have hw1 : IntKind.i64.wrap ((k : Int) + 1) = (k : Int) + 1 := by rw [IntKind.wrap_i64]; omega
  have hb0 : (0 : Int) ≤ (k : Int) + 1 := by omega
  have hin : k ≤ n := by omega
  have htn : ((k : Int) + 1).toNat = k + 1 := by omega
  have hb2 : ¬ (c = k + 1) := by omega
  have hb3 : (k : Int) ≤ (n : Int) + 1 := by omega
  have hb4 : ¬ (c = k) := by omega
  have hcb : (c : Int) ≤ 9223372036854775807 := by unfold maxLen at hm; omega
  clear hown hv hh hcs hsome hfz hvfz h1c h1v hvs hb1 hsz1 hs hq hp
  go_enter Tryz.func93, Tryz.ntmps93
  go_wp2_with (simp only [hov])
  go_region_law_o (refine step_copy_runI rfl _ _ 29 29 rfl _ _ (by simp [Act.eval, Act.put]) (by simp [Act.eval, Act.put]) (hcp1 _ _ _) ?_)
  go_wp2_with (at_builtin; refine wpList_copy_runI _ rfl _ _ 29 29 rfl _ _ rfl rfl (hcp2 _ (fun _ => rfl) (fun _ => rfl) _ _) ?_)
  go_ret
  exact ⟨rfl, HFIN.out _ (fun _ => by rw [hW1]) (by rw [hW1]), HGR.out _ (hW1 ▸ HG1.out)⟩
end Go.Proofs.YtipmlcdnfaobiaaGreat
namespace Go.Proofs.YtipmlcdnfaobiaaGreat
open Go.RowKit

theorem grown_fresh {w : World} {N : Nat} (hN : w.heap.size ≤ N) {r : Option Nat} : ∀ (vs : List Value) (o : Nat) (W : World), w.grownBy W r → w.grownBy (W.setCells N o vs) r
  | [], _, _, h => h
  | v :: l, o, W, h => grown_fresh hN l (o + 1) _ ⟨h.os, h.tape, h.output, by rw [World.size_setCell]; exact h.size, fun i hi hne => (Below.heap_setCell _ _ _ _ (by show i ≠ N; omega)).trans (h.block i hi hne)⟩

set_option maxRecDepth 20000 in
set_option maxHeartbeats 4000000 in
theorem Insert_grow {w : World} {B g n c k vb : Nat} {ps : List (Raw × Value)} {q : Raw × Value} (hown : w.ownsRow B 44 4 (.slice (some ⟨g, 0, none⟩) n c) n (flatV ps)) (hl : ps.length = n) (hk : k < n) (hroom : c < n + 1) (h60 : n ≤ 4096) (hBw : B ≤ w.heap.size)
    (hv : w.heap[vb]? = some (.cells #[.int .i64 q.1.prio, .string (tx q.1.mat), .int .i64 q.1.kind, q.2] 44 (0, 0))) (hq : ∃ ao n c, q.2 = .slice ao n c) (hp : ∀ q ∈ ps, ∃ ao n c, q.2 = .slice ao n c) :
    Calls Tryz.prog 93 #[.slice (some ⟨g, 0, none⟩) n c, .int .i64 (k : Int), .slice (some ⟨vb, 0, none⟩) 1 1] w fun e w' => ∃ bo bc, e = .returned (.slice bo (n + 1) bc) ∧ Hid (w'.ownsRow B 44 4 (.slice bo (n + 1) bc) (n + 1) (flatV (ps.take k ++ q :: ps.drop k)) ∧ w.grownBy w' (some g)) := by
  have mixed := Tryz.mixed
  obtain ⟨cur, hB, hh, hnc, hm, hs, hcs, hsome⟩ := own_parts hown
  obtain ⟨i0, hi0, hz0, hzs, hzb⟩ := info_parts Tryz.infoRule4
  have h1c : ∀ u ∈ flatV ps, u.oneCell' = true := flatV_one hp
  have h1v : ∀ u ∈ four q, u.oneCell' = true := flatV_one (rs := [q]) (fun x hx => by rw [List.mem_singleton.1 hx]; exact hq)
  have hfl := flatV_len ps
  have hvs : ∀ (j : Nat) (u : Value), (four q)[j]? = some u → w.cell? ⟨vb, j, none⟩ = some u := fun j u hj => by rw [cell_at hv]; simpa using hj
  have hgw : g < w.heap.size := lt_of_block hh
  have hvw : vb < w.heap.size := lt_of_block hv
  have hkk : (n : Int) + 1 - (k : Int) = ((n + 1 - k : Nat) : Int) := by omega
  have hik : k + (n + 1 - k) = n + 1 := by omega
  have hold : (Builtin.firstCells i0.size k (.slice (some ⟨g, 0, none⟩) k c)).run Tryz.prog w.drew = .ok ((flatV ps).take (k * 4)).toArray w.drew := by
    rw [hzs]
    exact run_firstCells_some w.drew 4 k ⟨g, 0, none⟩ k c _ (by rw [List.length_take, hfl, hl]; omega) (fun j u hj => by
      rw [addr_add5, Nat.zero_add]
      rw [List.getElem?_take] at hj
      split at hj
      · exact hcs j u hj
      · cases hj)
  have hrz : ∀ ty, (Builtin.append_ #[29, 3] ty #[.slice (some ⟨g, 0, none⟩) k c, .int .i64 ((n : Int) + 1 - (k : Int))]).run Tryz.prog w =
      .ok (.slice (some ⟨w.heap.size, 0, none⟩) (n + 1) (grownCap w (n + 1) c 44)) (w.drew.alloc (.cells (((flatV ps).take (k * 4)).toArray ++ Builtin.zeroCells (Value.agg #[.int .i64 0, .string (tx []), .int .i64 0, .slice none 0 0]).cells (n + 1 - k) ++ Builtin.zeroCells (Value.agg #[.int .i64 0, .string (tx []), .int .i64 0, .slice none 0 0]).cells (grownCap w (n + 1) c 44 - (n + 1))) 44)) := fun ty => by
    have h := Lib.run_append_grow_zeros w 29 3 ty 44 i0 _ .i64 .i64 Tryz.underlying29 Tryz.underlying3 hi0 hz0 (some ⟨g, 0, none⟩) k c _ hold (n + 1 - k) (by omega) (by omega) (by omega) (by omega) (by rw [hzb]; omega) (by rw [hzb, hik]; exact growslice_fits hroom (by omega))
    rw [hik] at h
    rw [hkk]
    exact h
  obtain ⟨G, hG⟩ : ∃ G, G = grownCap w (n + 1) c 44 := ⟨_, rfl⟩
  obtain ⟨ROW, hROW⟩ : ∃ ROW : Array Value, ROW = ((flatV ps).take (k * 4)).toArray ++ Builtin.zeroCells (Value.agg #[.int .i64 0, .string (tx []), .int .i64 0, .slice none 0 0]).cells (n + 1 - k) ++ Builtin.zeroCells (Value.agg #[.int .i64 0, .string (tx []), .int .i64 0, .slice none 0 0]).cells (G - (n + 1)) := ⟨_, rfl⟩
  rw [← hG] at hrz
  rw [← hROW] at hrz
  have hGn : n + 1 ≤ G := by rw [hG]; exact grownCap_ge w _ _ _
  have hGm : G ≤ maxLen := by rw [hG]; exact grownCap_le_maxLen w _ _ _ (by unfold maxLen; omega)
  have hzc : (Value.agg #[.int .i64 0, .string (tx []), .int .i64 0, .slice none 0 0]).cells.size = 4 := rfl
  have hRs : ROW.size = G * 4 := by
    rw [hROW]
    simp only [Array.size_append, List.size_toArray, List.length_take, hfl, hl, Builtin.zeroCells, Array.size_map, Array.size_range, hzc]
    omega
  obtain ⟨N, hN⟩ : ∃ N, N = w.heap.size := ⟨_, rfl⟩
  obtain ⟨W1, hW1⟩ : ∃ W1, W1 = w.drew.alloc (.cells ROW 44) := ⟨_, rfl⟩
  rw [← hW1] at hrz
  have hb1 : W1.heap[N]? = some (.cells ROW 44 (0, 0)) := by rw [hW1, hN]; exact new_0 w.drew _
  have hOld : ∀ (b : Nat) (x : Obj), w.heap[b]? = some x → W1.heap[b]? = some x := fun b x hx => by rw [hW1]; exact new_old w.drew _ hx
  have hcpA : ∀ (W : World), W.heap = W1.heap → ∀ ty dc, (Builtin.copy_ #[29, 29] ty #[.slice (some ⟨N, k * 4, none⟩) (n + 1 - k) dc, .slice (some ⟨vb, 0, none⟩) 1 1]).run Tryz.prog W = .ok (goInt (Nat.min 1 (n + 1 - k))) (W.setCells N (k * 4) (four q)) := fun W hW ty dc =>
    run_copy_wide W _ _ ty 44 4 N (k * 4) (n + 1 - k) dc ⟨vb, 0, none⟩ 1 1 (four q) Tryz.underlying29 Tryz.sizeRule (by rw [show Nat.min 1 (n + 1 - k) = 1 by simp only [Nat.min_def]; split <;> omega]; rfl)
      (fun j u hj => by
        rw [addr_add5, Nat.zero_add, World.cell?_of_block (w := W1) (by rw [hW]), cell_at (hOld _ _ hv), ← cell_at hv]
        exact hvs j u hj)
      (fun j hj => by
        have : j < 4 := hj
        rw [World.cell?_of_block (w := W1) (by rw [hW]), cell_at hb1, Array.getElem?_eq_getElem (by rw [hRs]; omega)]; rfl) (fun j hj => by rw [World.frozen?_of_block (w := W1) (by rw [hW])]; exact free_of hb1) h1v
  obtain ⟨W2, hW2⟩ : ∃ W2, W2 = W1.setCells N (k * 4) (four q) := ⟨_, rfl⟩
  have hb2 : W2.heap[N]? = some (.cells (setAll ROW (k * 4) (four q)) 44 (0, 0)) := by rw [hW2]; exact block_setCells _ _ _ _ hb1
  have hgN : g ≠ N := by omega
  have hOld2 : W2.heap[g]? = some (.cells cur 44 (0, 0)) := by
    have hg2 : w.grownBy W2 none := by rw [hW2]; exact grown_fresh (by omega) _ _ _ (by rw [hW1]; exact ⟨rfl, rfl, rfl, by simp, fun i hi _ => heap_old w.drew _ hi⟩)
    rw [hg2.block g hgw (by simp)]; exact hh
  have hdl : ((flatV ps).drop (k * 4)).length = (n - k) * 4 := by rw [List.length_drop, hfl, hl]; omega
  have hcpB : ∀ (W : World), W.heap = W2.heap → ∀ ty dc sc, (Builtin.copy_ #[29, 29] ty #[.slice (some ⟨N, (k + 1) * 4, none⟩) (n - k) dc, .slice (some ⟨g, k * 4, none⟩) (n - k) sc]).run Tryz.prog W = .ok (goInt (Nat.min (n - k) (n - k))) (W.setCells N ((k + 1) * 4) ((flatV ps).drop (k * 4))) := fun W hW ty dc sc =>
    run_copy_wide W _ _ ty 44 4 N ((k + 1) * 4) (n - k) dc ⟨g, k * 4, none⟩ (n - k) sc _ Tryz.underlying29 Tryz.sizeRule (by rw [hdl]; congr 1; simp only [Nat.min_def]; split <;> omega)
      (fun j u hj => by
        rw [addr_add5, World.cell?_of_block (w := W2) (by rw [hW]), cell_at hOld2, ← cell_at hh]
        exact hcs (k * 4 + j) u (by rwa [List.getElem?_drop] at hj))
      (fun j hj => by
        rw [World.cell?_of_block (w := W2) (by rw [hW]), cell_at hb2, Array.getElem?_eq_getElem (by rw [setAll_size, hRs]; omega)]; rfl) (fun j hj => by rw [World.frozen?_of_block (w := W2) (by rw [hW])]; exact free_of hb2) (fun u hu => h1c u (List.mem_of_mem_drop hu))
  have HFIN := hid (show ∀ W : World, W.heap = W2.heap → (W.setCells N ((k + 1) * 4) ((flatV ps).drop (k * 4))).ownsRow B 44 4 (.slice (some ⟨N, 0, none⟩) (n + 1) G) (n + 1) (flatV (ps.take k ++ q :: ps.drop k)) from fun W hW => by
    have hbW : W.heap[N]? = some (.cells (setAll ROW (k * 4) (four q)) 44 (0, 0)) := by rw [hW]; exact hb2
    have hb3 := block_setCells ((flatV ps).drop (k * 4)) ((k + 1) * 4) W _ hbW
    refine own_of_cells hb3 (by omega) hGn hGm (by rw [setAll_size, setAll_size, hRs]) (by rw [flatV_len]; simp [hl]; omega) (fun j u hj => ?_)
    have e : flatV (ps.take k ++ q :: ps.drop k) = (flatV ps).take (k * 4) ++ four q ++ (flatV ps).drop (k * 4) := by
      rw [flatV_append, flatV_take, List.append_assoc]
      show _ ++ (four q ++ flatV (ps.drop k)) = _
      rw [flatV_drop]
    rw [e] at hj
    have htl : ((flatV ps).take (k * 4)).length = k * 4 := by rw [List.length_take, hfl, hl]; omega
    by_cases h1 : j < k * 4
    · rw [World.cell?_setCells_out N _ _ _ _ (fun _ _ => Or.inl (by show j < (k + 1) * 4; omega)), World.cell?_of_block (w := W2) (by rw [hW]), hW2, World.cell?_setCells_out N _ _ _ _ (fun _ _ => Or.inl h1), cell_at hb1, hROW]
      rw [List.append_assoc, List.getElem?_append_left (by omega)] at hj
      rw [Array.append_assoc, Array.getElem?_append_left (by simp [hfl, hl]; omega)]
      simpa using hj
    · by_cases h2 : j < k * 4 + 4
      · have hin := World.cell?_setCells_in N (four q) (k * 4) W1 (fun i hi => by
          have : i < 4 := hi
          rw [cell_at hb1, Array.getElem?_eq_getElem (by rw [hRs]; omega)]; rfl) (j - k * 4) (by show j - k * 4 < 4; omega)
        rw [show k * 4 + (j - k * 4) = j by omega] at hin
        rw [World.cell?_setCells_out N _ _ _ _ (fun _ _ => Or.inl (by show j < (k + 1) * 4; omega)), World.cell?_of_block (w := W2) (by rw [hW]), hW2, hin]
        rw [List.getElem?_append_left (by rw [List.length_append, htl]; show j < k * 4 + 4; omega), List.getElem?_append_right (by omega), htl] at hj
        rw [List.getElem?_eq_getElem (by show j - k * 4 < 4; omega)] at hj
        exact hj
      · have hin := World.cell?_setCells_in N ((flatV ps).drop (k * 4)) ((k + 1) * 4) W (fun i hi => by
          rw [cell_at hbW, Array.getElem?_eq_getElem (by rw [setAll_size, hRs]; omega)]; rfl) (j - (k + 1) * 4) (by
          have := (List.getElem?_eq_some_iff.1 hj).1
          simp only [List.length_append, htl, hdl] at this
          have e4 : (four q).length = 4 := rfl
          omega)
        rw [show (k + 1) * 4 + (j - (k + 1) * 4) = j by omega] at hin
        rw [hin]
        rw [List.getElem?_append_right (by rw [List.length_append, htl]; show k * 4 + 4 ≤ j; omega), List.length_append, htl, show k * 4 + (four q).length = (k + 1) * 4 by show k * 4 + 4 = _; omega] at hj
        rw [List.getElem?_eq_getElem (by rw [hdl]; have := (List.getElem?_eq_some_iff.1 hj).1; rw [hdl] at this; exact this)] at hj
        exact hj)
  have HGR := hid (show ∀ W : World, w.grownBy W (some g) → w.grownBy (W.setCells N ((k + 1) * 4) ((flatV ps).drop (k * 4))) (some g) from fun W hg => grown_fresh (by omega) _ _ _ hg)
  have HG2 := hid (show ∀ W : World, w.grownBy W (some g) → w.grownBy (W.setCells N (k * 4) (four q)) (some g) from fun W hg => grown_fresh (by omega) _ _ _ hg)
  have HG1 := hid (show w.grownBy W1 (some g) by rw [hW1]; exact ⟨rfl, rfl, rfl, by simp, fun i hi _ => heap_old w.drew _ hi⟩)
  have hz2 : ¬ ((k : Int) = (n : Int)) := by omega
  have hz3 : (c : Int) < (n : Int) + 1 := by omega
  have hw1 : IntKind.i64.wrap ((k : Int) + 1) = (k : Int) + 1 := by rw [IntKind.wrap_i64]; omega
  have hb0 : (0 : Int) ≤ (k : Int) + 1 := by omega
  have hin : k ≤ n := by omega
  have htn : ((k : Int) + 1).toNat = k + 1 := by omega
  have hb3 : (k : Int) ≤ (n : Int) := by omega
  have hGi : ¬ (G = k) := by omega
  have hGim : ¬ (G = k + 1) := by omega
  have hci : ¬ (c = k) := by omega
  have hkc : k ≤ c := by omega
  have hcb : (c : Int) ≤ 9223372036854775807 := by unfold maxLen at hm; omega
  have hGb : (G : Int) ≤ 9223372036854775807 := by unfold maxLen at hGm; omega
  subst hN
  subst hW2
  subst hW1
  clear hown hv hh hcs hsome h1c h1v hvs hb1 hb2 hs hq hp hold hROW hG hRs hkk hik hOld hOld2 hi0 hz0 hzs hzb hroom hnc hGn hm hGm hfl hdl hgw hvw hgN
  have hcpA' := hcpA (w.alloc (.cells ROW 44)).drew rfl
  have HCB := hid (show ∀ Wx : World, Wx = (w.alloc (.cells ROW 44)).drew.setCells w.heap.size (k * 4) (four q) → _ from fun Wx hx => And.intro (hcpB Wx.drew (by rw [hx]; rfl)) (And.intro (HFIN.out Wx.drew (by rw [hx]; rfl)) (HGR.out Wx.drew (by rw [hx]; have := HG2.out _ HG1.out; exact ⟨this.os, this.tape, this.output, this.size, this.block⟩))))
  clear hcpA hcpB
  go_enter Tryz.func93, Tryz.ntmps93
  go_wp2_with (at_builtin; refine Lib.wpList_append_run _ rfl _ _ _ _ rfl _ _ rfl rfl _ _ (hrz _) ?_)
  generalize hWx : (w.alloc (.cells ROW 44)).drew.setCells w.heap.size (k * 4) (four q) = Wx
  obtain ⟨hcpB', hf1, hf2⟩ := HCB.out Wx hWx.symm
  have HF1 := hid hf1
  have HF2 := hid hf2
  clear hWx HCB hf1 hf2 hcpA' hrz HGR HG2 HG1 HFIN
  generalize w.heap.size = N at hcpB' HF1 HF2 ⊢
  go_region_law (refine step_copy_runI rfl _ _ 29 29 rfl (.slice (some ⟨N, (k + 1) * 4, none⟩) (n - k) (G - (k + 1))) (.slice (some ⟨g, k * 4, none⟩) (n - k) (c - k)) (by simp [Act.eval, Act.put]) (by simp [Act.eval, Act.put]) (hcpB' 3 (G - (k + 1)) (c - k)) ?_)
  go_wp2
  go_ret
  exact ⟨_, _, rfl, HF1.out, HF2.out⟩
end Go.Proofs.YtipmlcdnfaobiaaGreat
namespace Go.Proofs.YtipmlcdnfaobiaaGreat
open Go.RowKit

theorem Tryz.zeroRule : ∀ w, (zeroValue 44).run Tryz.prog w = .ok (.agg #[.int .i64 0, .string (tx []), .int .i64 0, .slice none 0 0]) w := Tryz.zeroValue44

set_option maxRecDepth 100000 in
set_option maxHeartbeats 4000000 in
theorem Delete_one {w : World} {B g n c k : Nat} {ps : List (Raw × Value)} (hown : w.ownsRow B 44 4 (.slice (some ⟨g, 0, none⟩) n c) n (flatV ps)) (hl : ps.length = n) (hk : k < n) (h60 : n ≤ 4096) (hp : ∀ q ∈ ps, ∃ ao n c, q.2 = .slice ao n c) :
    Calls Tryz.prog 96 #[.slice (some ⟨g, 0, none⟩) n c, .int .i64 (k : Int), .int .i64 ((k : Int) + 1)] w fun e w' => e = .returned (.slice (some ⟨g, 0, none⟩) (n - 1) c) ∧ Hid (w'.ownsRow B 44 4 (.slice (some ⟨g, 0, none⟩) (n - 1) c) (n - 1) (flatV (ps.take k ++ ps.drop (k + 1))) ∧ w.grownBy w' (some g)) := by
  have mixed := Tryz.mixed
  obtain ⟨t, ht⟩ : ∃ t, n = k + 1 + t := ⟨n - (k + 1), by omega⟩
  obtain ⟨cur, hB, hh, hnc, hm, hs, hcs, hsome⟩ := own_parts hown
  obtain ⟨i0, hi0, hz0, hzs, hzb⟩ := info_parts Tryz.infoRule4
  have h1c : ∀ u ∈ flatV ps, u.oneCell' = true := flatV_one hp
  have hfl := flatV_len ps
  obtain ⟨news, hnews⟩ : ∃ news, news = (flatV ps).drop ((k + 1) * 4) := ⟨_, rfl⟩
  have hnl : news.length = t * 4 := by rw [hnews, List.length_drop, hfl, hl]; omega
  obtain ⟨W1, hW1⟩ : ∃ W1, W1 = w.drew.setCells g (k * 4) news := ⟨_, rfl⟩
  have hb1 := block_setCells news (k * 4) w.drew cur hh
  rw [← hW1] at hb1
  have hsz1 : (setAll cur (k * 4) news).size = c * 4 := by rw [setAll_size, hs]
  obtain ⟨zc, hzc⟩ : ∃ zc : List Value, zc = [.int .i64 0, .string (tx []), .int .i64 0, .slice none 0 0] := ⟨_, rfl⟩
  have hcl : ∀ (W : World), W.heap = W1.heap → ∀ ty cc, (Builtin.clear_ #[29] ty #[.slice (some ⟨g, (k + t) * 4, none⟩) 1 cc]).run Tryz.prog W = .ok (.tuple #[]) (W.setCells g ((k + t) * 4) zc) := fun W hW ty cc => by
    have := run_clear_wide W 29 44 ty _ Tryz.underlying29 Tryz.zeroRule g ((k + t) * 4) cc (fun j hj => by
      have : j < 4 := hj
      rw [World.cell?_of_block (w := W1) (by rw [hW]), cell_at hb1, Array.getElem?_eq_getElem (by rw [hsz1]; omega)]; rfl) (fun j hj => by rw [World.frozen?_of_block (w := W1) (by rw [hW])]; exact free_of hb1) (by intro v hv; simp [Value.cells] at hv; rcases hv with rfl | rfl | rfl | rfl <;> rfl)
    rw [hzc]
    exact this
  have HFIN := hid (show ∀ W : World, W.heap = W1.heap → (W.setCells g ((k + t) * 4) zc).ownsRow B 44 4 (.slice (some ⟨g, 0, none⟩) (n - 1) c) (n - 1) (flatV (ps.take k ++ ps.drop (k + 1))) from fun W hW => by
    have hbW : W.heap[g]? = some (.cells (setAll cur (k * 4) news) 44 (0, 0)) := by rw [hW]; exact hb1
    have hb3 := block_setCells zc ((k + t) * 4) W _ hbW
    refine own_of_cells hb3 hB (by omega) hm (by rw [setAll_size, hsz1]) (by rw [flatV_len]; simp [hl]; omega) (fun j u hj => ?_)
    have e : flatV (ps.take k ++ ps.drop (k + 1)) = (flatV ps).take (k * 4) ++ news := by rw [flatV_append, flatV_take, flatV_drop, hnews]
    rw [e] at hj
    have htl : ((flatV ps).take (k * 4)).length = k * 4 := by rw [List.length_take, hfl, hl]; omega
    have hjl := (List.getElem?_eq_some_iff.1 hj).1
    rw [List.length_append, htl, hnl] at hjl
    rw [World.cell?_setCells_out g _ _ _ _ (fun _ _ => Or.inl (by show j < (k + t) * 4; omega)), World.cell?_of_block (w := W1) (by rw [hW]), hW1]
    by_cases h1 : j < k * 4
    · rw [World.cell?_setCells_out g _ _ _ _ (fun _ _ => Or.inl (by show j < k * 4; omega))]
      rw [List.getElem?_append_left (by omega), List.getElem?_take, if_pos h1] at hj
      exact hcs j u hj
    · have hin := World.cell?_setCells_in g news (k * 4) w.drew (fun i hi => hsome _ (by omega)) (j - k * 4) (by omega)
      rw [show k * 4 + (j - k * 4) = j by omega] at hin
      rw [hin]
      rw [List.getElem?_append_right (by omega), htl, List.getElem?_eq_getElem (by omega)] at hj
      exact hj)
  have HGR := hid (show ∀ W : World, w.grownBy W (some g) → w.grownBy (W.setCells g ((k + t) * 4) zc) (some g) from fun W hg => grown_two hg (grown_setCells g _ _ _))
  have HG1 := hid (show w.grownBy W1 (some g) by rw [hW1]; exact grown_two (grown_drw w _) (grown_setCells g _ _ _))
  have s1 := hid hnl
  have s2 := hid (show ∀ u ∈ news, u.oneCell' = true from fun u hu => h1c u (by rw [hnews] at hu; exact List.mem_of_mem_drop hu))
  have s3 := hid (show ∀ j, j < news.length → (w.drew.cell? ⟨g, 0 + k * 4 + j, none⟩).isSome = true ∧ w.drew.frozen? ⟨g, 0 + k * 4 + j, none⟩ = false from fun j hj => ⟨hsome _ (by omega), free_of hh⟩)
  have hsrc : ∀ (A : Addr), (t ≠ 0 → A = ⟨g, (k + 1) * 4, none⟩) → ∀ j u, news[j]? = some u → w.drew.cell? (A.add j) = some u := fun A hA j u hj => by
    have ht0 : t ≠ 0 := fun e => by
      have := (List.getElem?_eq_some_iff.1 hj).1
      omega
    rw [hA ht0, addr_add5]
    exact hcs _ u (by rw [hnews, List.getElem?_drop] at hj; exact hj)
  have HSRC := hid hsrc
  have HI0 := hid hi0
  have HZS := hid hzs
  have HC := hid hcl
  have hcb : (c : Int) ≤ 9223372036854775807 := by unfold maxLen at hm; omega
  subst ht
  rw [show k + 1 + t - 1 = k + t by omega] at HFIN ⊢
  clear hown hh hcs hsome h1c hb1 hsz1 hs hp hfl hl hnl hnews hsrc hi0 hz0 hzs hzb hcl hm
  have ha1 : (k : Int) + 1 ≤ (k : Int) + 1 + (t : Int) := by omega
  have ha2 : ¬ ((k : Int) = (k : Int) + 1) := by omega
  have ha3 : (0 : Int) ≤ (k : Int) + 1 := by omega
  have ha4 : ((k : Int) + 1).toNat = k + 1 := by omega
  have ha5 : k + 1 + t - (k + 1) = t := by omega
  have ha6 : k + 1 + t - (k + t) = 1 := by omega
  have ha7 : k ≤ c := by omega
  have ha8 : k + 1 ≤ c := by omega
  subst hW1
  subst hzc
  obtain ⟨A, hA, hAs⟩ : ∃ A : Addr, (if c = k + 1 then some (⟨g, 0, none⟩ : Addr) else some ⟨g, (k + 1) * 4, none⟩) = some A ∧ (t ≠ 0 → A = ⟨g, (k + 1) * 4, none⟩) := by
    by_cases h : c = k + 1
    · exact ⟨⟨g, 0, none⟩, by simp [h], fun h0 => by omega⟩
    · exact ⟨⟨g, (k + 1) * 4, none⟩, by simp [h], fun _ => rfl⟩
  have HAS := hid (HSRC.out A hAs)
  have hcl := HC.out _ rfl
  clear hAs
  go_enter Tryz.func96, Tryz.ntmps96
  go_wp2_with fail
  go_region_law_o (refine step_append_room rfl (.tmp 22) (.tmp 25) 29 rfl 44 i0 4 Tryz.underlying29 HI0.out HZS.out g 0 k c (by simp [Act.eval, Act.put]) A t (c - (k + 1)) news (by simp [Act.eval, Act.put]) s1.out HAS.out s2.out (by omega) s3.out ?_)
  go_wp2
  go_ret
  exact ⟨rfl, HFIN.out _ rfl, HGR.out _ HG1.out⟩
end Go.Proofs.YtipmlcdnfaobiaaGreat
