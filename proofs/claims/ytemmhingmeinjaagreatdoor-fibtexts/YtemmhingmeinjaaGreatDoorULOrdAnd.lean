/-
  slices.Insert of a rule, there is room and it does not stand last; slices.Delete of one rule.
-/
import Derived.Test.YtemmhingmeinjaaGreatDoorUDocPAnd
import Derived.Laws.IdiomCopy
import Derived.Lib.AppendZerosOnto
import Derived.Lib.Overlaps
import Derived.Lib.SliceRun
import Derived.Laws.NewBlocks
import Derived.Laws.Externs
import Derived.Deep.RegionLaw
import Derived.Shelf.RegionOpenPlain
import Derived.Shelf.Spec.SlicesInsert
import Derived.Test.YtemmhingmeinjaaGreatDoorVMathAnd
import Derived.Test.YtemmhingmeinjaaGreatDoorVDocLAnd
import Derived.Deep.LoopGhost
import Derived.Deep.Draws
import Derived.Sort.Walk0
import Derived.Test.YtemmhingmeinjaaGreatDoorUCopyAnd
import Derived.Test.YtemmhingmeinjaaGreatDoorUOrdAAnd
namespace Go.Proofs.YtemmhingmeinjaaGreatDoor
open Go.RowKit

theorem rowOf_fst {ps : List (Raw × Value)} {S : List Nat} : (rowOf ps S).map Prod.fst = S.map (rawAt ps) := by
  unfold rowOf
  rw [List.map_map]
  refine List.map_congr_left fun i _ => ?_
  unfold rawAt
  simp only [Function.comp, List.getD_eq_getElem?_getD]
  cases ps[i]? <;> rfl
theorem RawView.on {w w' : World} {g o : Nat} {ps : List (Raw × Value)} (hv : RawView w g o ps) (hb : Below w.heap.size w w') : RawView w' g o ps :=
  ⟨Nat.lt_of_lt_of_le hv.old hb.size, fun i q hq => by
    obtain ⟨c0, c1, c2, c3⟩ := hv.cell i q hq
    exact ⟨(hb.cell (by exact hv.old)).trans c0, (hb.cell (by exact hv.old)).trans c1, (hb.cell (by exact hv.old)).trans c2, (hb.cell (by exact hv.old)).trans c3⟩, fun q hq => ⟨(hv.ports q hq).1.below hb, (hv.ports q hq).2⟩⟩

set_option maxRecDepth 20000 in
set_option maxHeartbeats 2000000 in
theorem ROrder_none {w : World} {ao : Option Addr} {cap : Nat} : Calls Tryz.prog 26 #[.slice ao 0 cap] w fun e w' => e = .returned (.slice none 0 0) ∧ Below w.heap.size w w' := by
  go_enter Tryz.func26, Tryz.ntmps26
  go_wp2_with fail
  refine wp_loop_rounds 1 ?_
  rw [rounds_succ]
  go_wp2
  go_ret
  exact ⟨rfl, Below.refl _ _⟩

end Go.Proofs.YtemmhingmeinjaaGreatDoor
namespace Go.Proofs.YtemmhingmeinjaaGreatDoor
open Go.RowKit

theorem run_copy_wide {P : Program} (w : World) (dT sT ty elem : TypeId) (size b o dLen dCap : Nat) (a : Addr) (sLen sCap : Nat) (cs : List Value)
    (hu : P.underlying dT = some (.slice elem)) (hs : (P.info? elem).map (·.size) = some size) (hn : cs.length = Nat.min sLen dLen * size)
    (hsrc : ∀ j v, cs[j]? = some v → w.cell? (a.add j) = some v) (hc : ∀ j, j < cs.length → (w.cell? ⟨b, o + j, none⟩).isSome = true) (hf : ∀ j, j < cs.length → w.frozen? ⟨b, o + j, none⟩ = false) (h1 : ∀ v ∈ cs, v.oneCell' = true) :
    (Builtin.copy_ #[dT, sT] ty #[.slice (some ⟨b, o, none⟩) dLen dCap, .slice (some a) sLen sCap]).run P w = .ok (goInt (Nat.min sLen dLen)) (w.setCells b o cs) := by
  have hl := run_loadCells_list (P := P) w a cs hsrc
  have hst := run_storeCells_cells (P := P) b o cs 0 w (by simpa using hc) (by simpa using hf) h1
  cases hq : P.info? elem with
  | none => simp [hq] at hs
  | some i =>
    have hi : i.size = size := by simpa [hq] using hs
    simp [Builtin.copy_, run_underlying hu, Builtin.lenOf, Builtin.firstCells, sizeOf, typeInfo, hq, hi, ← hn, hl, hst]
theorem run_clear_wide {P : Program} (w : World) (t e ty : TypeId) (z : Value) (ht : P.underlying t = some (.slice e)) (hv : ∀ w, (zeroValue e).run P w = .ok z w) (b o c : Nat)
    (hc : ∀ j, j < z.cells.size → (w.cell? ⟨b, o + j, none⟩).isSome = true) (hf : ∀ j, j < z.cells.size → w.frozen? ⟨b, o + j, none⟩ = false) (h1 : ∀ v ∈ z.cells.toList, v.oneCell' = true) :
    (Builtin.clear_ #[t] ty #[.slice (some ⟨b, o, none⟩) 1 c]).run P w = .ok (.tuple #[]) (w.setCells b o z.cells.toList) := by
  have hz : (Builtin.zeroCells z.cells 1) = z.cells := by
    apply Array.ext
    · simp [Builtin.zeroCells]
    · intro i h1 h2
      simp [Builtin.zeroCells, Nat.mod_eq_of_lt h2, getElem!_pos z.cells i h2]
  have hst := run_storeCells_cells (P := P) b o z.cells.toList 0 w (by simpa using hc) (by simpa using hf) h1
  simp [Builtin.clear_, run_underlying ht, hv, hz, hst]

theorem grown_setCells (g : Nat) : ∀ (vs : List Value) (o : Nat) (w : World), w.grownBy (w.setCells g o vs) (some g)
  | [], _, w => grown_refl w _
  | v :: r, o, w => grown_two (grown_cell w g o v) (grown_setCells g r (o + 1) _)
theorem grown_drw (w : World) (r : Option Nat) : w.grownBy w.drew r := ⟨rfl, rfl, rfl, Nat.le_refl _, fun _ _ _ => rfl⟩
theorem own_of_cells {w : World} {B g cap n : Nat} {cur : Array Value} {xs : List Value} (hh : w.heap[g]? = some (.cells cur 51 (0, 0))) (hB : B ≤ g) (hn : n ≤ cap) (hm : cap ≤ maxLen) (hs : cur.size = cap * 4) (hl : xs.length = n * 4)
    (hc : ∀ (j : Nat) (u : Value), xs[j]? = some u → w.cell? ⟨g, j, none⟩ = some u) : w.ownsRow B 51 4 (.slice (some ⟨g, 0, none⟩) n cap) n xs := by
  refine ⟨hl, Or.inr ⟨g, cap, cur, rfl, hB, hh, hn, hm, hs, ?_⟩⟩
  apply List.ext_getElem?
  intro j
  by_cases hj : j < xs.length
  · have := hc j _ (List.getElem?_eq_getElem hj)
    rw [cell_at hh] at this
    rw [List.getElem?_take, if_pos (by omega), Array.getElem?_toList, this, List.getElem?_eq_getElem hj]
  · rw [List.getElem?_take, if_neg (by omega), List.getElem?_eq_none (by omega)]
theorem flatV_take (ps : List (Raw × Value)) : ∀ k, flatV (ps.take k) = (flatV ps).take (k * 4) := by
  induction ps with
  | nil => intro k; simp [flatV]
  | cons a r ih =>
    intro k
    cases k with
    | zero => simp [flatV]
    | succ k =>
      have e : flatV (a :: r) = .int .i64 a.1.prio :: .string (tx a.1.mat) :: .int .i64 a.1.kind :: a.2 :: flatV r := rfl
      rw [e, List.take_succ_cons, show (k + 1) * 4 = k * 4 + 1 + 1 + 1 + 1 by omega]
      simp only [List.take_succ_cons]
      rw [← ih k]
      rfl
theorem flatV_drop (ps : List (Raw × Value)) : ∀ k, flatV (ps.drop k) = (flatV ps).drop (k * 4) := by
  induction ps with
  | nil => intro k; simp [flatV]
  | cons a r ih =>
    intro k
    cases k with
    | zero => simp [flatV]
    | succ k =>
      have e : flatV (a :: r) = .int .i64 a.1.prio :: .string (tx a.1.mat) :: .int .i64 a.1.kind :: a.2 :: flatV r := rfl
      rw [e, List.drop_succ_cons, show (k + 1) * 4 = k * 4 + 1 + 1 + 1 + 1 by omega]
      simp only [List.drop_succ_cons]
      exact ih k
abbrev four (q : Raw × Value) : List Value := [.int .i64 q.1.prio, .string (tx q.1.mat), .int .i64 q.1.kind, q.2]

theorem Tryz.sizeRule : (Tryz.prog.info? 51).map (·.size) = some 4 := by kernel_rfl

set_option maxRecDepth 20000 in
set_option maxHeartbeats 2000000 in
theorem Insert_end {w : World} {B n vb : Nat} {ao : Option Addr} {c : Nat} {ps : List (Raw × Value)} {q : Raw × Value} (hown : w.ownsRow B 51 4 (.slice ao n c) n (flatV ps)) (hB : B ≤ w.heap.size) (h60 : n ≤ 4096)
    (hv : w.heap[vb]? = some (.cells #[.int .i64 q.1.prio, .string (tx q.1.mat), .int .i64 q.1.kind, q.2] 51 (0, 0))) (hq : ∃ ao n c, q.2 = .slice ao n c) :
    Calls Tryz.prog 121 #[.slice ao n c, .int .i64 (n : Int), .slice (some ⟨vb, 0, none⟩) 1 1] w fun e w' => ∃ bo bc, e = .returned (.slice bo (n + 1) bc) ∧ Hid (w'.ownsRow B 51 4 (.slice bo (n + 1) bc) (n + 1) (flatV (ps ++ [q])) ∧ w.grownBy w' (Value.slice ao n c).ownBlock) := by
  obtain ⟨i0, hi, hz0, hz1, hz2⟩ := info_parts Tryz.infoRule4
  have HO := hid hown
  have HV := hid hv
  have HQ := hid hq
  have HI := hid hi
  have HZ0 := hid hz0
  have HZ1 := hid hz1
  have HZ2 := hid hz2
  have HSRC := hid (show ∀ (j : Nat) (u : Value), (four q)[j]? = some u → w.cell? ((⟨vb, 0, none⟩ : Addr).add j) = some u from fun j u hj => by
    rw [addr_add5, Nat.zero_add, cell_at hv]
    simpa using hj)
  have H1 := hid (show ∀ u ∈ four q, u.oneCell' = true from fun u hu => by
    obtain ⟨a, b, c, e⟩ := hq
    simp only [four, List.mem_cons, List.not_mem_nil, or_false] at hu
    rcases hu with rfl | rfl | rfl | rfl
    · rfl
    · rfl
    · rfl
    · rw [e]; rfl)
  have hsl : (ao = none ∧ n = 0 ∧ c = 0) ∨ (∃ g, ao = some ⟨g, 0, none⟩ ∧ n ≤ c) := by
    rcases own_cells hown with h | ⟨g, h1, _, h2, _⟩
    · exact Or.inl h
    · exact Or.inr ⟨g, h1, h2⟩
  clear hi hz0 hz1 hz2 hown hv hq
  have fin : ∀ v' w', w'.ownsRow B 51 4 v' (n + 1) (flatV ps ++ four q) → w.grownBy w' (Value.slice ao n c).ownBlock → ∃ bo bc, v' = .slice bo (n + 1) bc ∧ Hid (w'.ownsRow B 51 4 (.slice bo (n + 1) bc) (n + 1) (flatV (ps ++ [q])) ∧ w.grownBy w' (Value.slice ao n c).ownBlock) := fun v' w' h1 h2 => by
    have e : flatV (ps ++ [q]) = flatV ps ++ four q := by rw [flatV_append]; rfl
    rcases h1.2 with ⟨_, h0⟩ | ⟨g, cap, cur, rfl, _⟩
    · omega
    · exact ⟨_, _, rfl, by rw [e]; exact h1, h2⟩
  rcases hsl with ⟨rfl, rfl, rfl⟩ | ⟨g, rfl, hnc⟩
  · go_enter Tryz.func121, Tryz.ntmps121
    go_wp2_with (at_builtin; refine wpList_append_srcR _ rfl _ _ 36 rfl B 51 i0 _ 4 56 Tryz.underlying36 HI.out HZ0.out HZ1.out HZ2.out rfl (by decide) _ _ _ rfl HO.out _ 1 (four q) rfl (Or.inr ⟨_, _, rfl, rfl, HSRC.out⟩) H1.out (by unfold maxLen; omega) (by omega) hB ?_; intro v' w' hown' hg'; obtain ⟨bo, bc, hve, HFIN⟩ := fin v' w' hown' hg'; subst hve; clear hown' hg')
    go_ret
    exact ⟨bo, bc, rfl, HFIN⟩
  · by_cases hcn : c = n
    · subst hcn
      go_enter Tryz.func121, Tryz.ntmps121
      go_wp2_with (at_builtin; refine wpList_append_srcR _ rfl _ _ 36 rfl B 51 i0 _ 4 56 Tryz.underlying36 HI.out HZ0.out HZ1.out HZ2.out rfl (by decide) _ _ _ rfl HO.out _ 1 (four q) rfl (Or.inr ⟨_, _, rfl, rfl, HSRC.out⟩) H1.out (by unfold maxLen; omega) (by omega) hB ?_; intro v' w' hown' hg'; obtain ⟨bo, bc, hve, HFIN⟩ := fin v' w' hown' hg'; subst hve; clear hown' hg')
      go_ret
      exact ⟨bo, bc, rfl, HFIN⟩
    · have hlt : n < c := by omega
      go_enter Tryz.func121, Tryz.ntmps121
      go_wp2_with (at_builtin; refine wpList_append_srcR _ rfl _ _ 36 rfl B 51 i0 _ 4 56 Tryz.underlying36 HI.out HZ0.out HZ1.out HZ2.out rfl (by decide) _ _ _ rfl HO.out _ 1 (four q) rfl (Or.inr ⟨_, _, rfl, rfl, HSRC.out⟩) H1.out (by unfold maxLen; omega) (by omega) hB ?_; intro v' w' hown' hg'; obtain ⟨bo, bc, hve, HFIN⟩ := fin v' w' hown' hg'; subst hve; clear hown' hg')
      go_ret
      exact ⟨bo, bc, rfl, HFIN⟩
end Go.Proofs.YtemmhingmeinjaaGreatDoor
namespace Go.Proofs.YtemmhingmeinjaaGreatDoor
open Go.RowKit

theorem Tryz.entFind : ∀ args w, (callFunc 150 args).run Tryz.prog w = .ok (.enter 150 args) w := fun _ _ => by kernel_rfl
structure SearchAt (w : World) (n : Nat) (p : Nat → Bool) (lo hi : Nat) (wr : World) : Prop where
  low : Below w.heap.size w wr
  no : ∀ t, t < lo → p t = false
  yes : ∀ t, hi ≤ t → t < n → p t = true

set_option maxRecDepth 20000 in
set_option maxHeartbeats 4000000 in
theorem Search_any {w : World} {n c1 c2 : Nat} {p : Nat → Bool} (hn : n < 4611686018427387904)
    (hf : ∀ (W : World) (i : Nat), Below w.heap.size w W → i < n → Calls Tryz.prog 150 #[.int .i64 (i : Int), .pointer (some ⟨c1, 0, none⟩), .pointer (some ⟨c2, 0, none⟩)] W fun e w' => e = .returned (.bool (p i)) ∧ Below W.heap.size W w')
    (hm : ∀ a b, a ≤ b → b < n → p a = true → p b = true) :
    Calls Tryz.prog 149 #[.int .i64 n, .func (.func 150) #[] #[.pointer (some ⟨c1, 0, none⟩), .pointer (some ⟨c2, 0, none⟩)]] w fun e w' => ∃ k : Nat, e = .returned (.int .i64 (k : Int)) ∧ k ≤ n ∧ Hid (SearchAt w n p k k w') := by
  have HF := hid hf
  have HM := hid hm
  have hent := Tryz.entFind
  clear hf hm
  go_enter Tryz.func149, Tryz.ntmps149
  go_wp2_with fail
  go_loopw [5, 6, 7] (fun vi vj _ wr => ∃ lo hi : Nat, vi = .int .i64 lo ∧ vj = .int .i64 hi ∧ lo ≤ hi ∧ hi ≤ n ∧ Hid (SearchAt w n p lo hi wr)) (fun vi vj _ _ => (intOf vj).toNat - (intOf vi).toNat)
  case atStart => exact ⟨0, n, rfl, rfl, Nat.zero_le _, Nat.le_refl _, Below.refl _ _, fun t ht => by omega, fun t h1 h2 => by omega⟩
  case round =>
    obtain ⟨lo, hi, rfl, rfl, hlh, hin, HI⟩ := hrel
    by_cases hlt : lo < hi
    · have hc := HF.out wr ((lo + hi) / 2) HI.out.low (by omega)
      rw [show (((lo + hi) / 2 : Nat) : Int) = ((lo : Int) + (hi : Int)) / 2 by omega] at hc
      have HC := hid hc
      clear hc
      cases hp : p ((lo + hi) / 2) with
      | false =>
        rw [hp] at HC
        have HP := hid hp
        clear hp
        go_wp2_with (go_at_call 150; refine HC.out.mono ?_; rintro e w2 ⟨rfl, hb2⟩; have B2 := hid hb2; clear hb2)
        have HN := hid (show SearchAt w n p ((lo + hi) / 2 + 1) hi w2 from ⟨HI.out.low.trans (B2.out.mono HI.out.low.size), fun t ht => (by
          cases h : p t with
          | false => rfl
          | true => exact absurd (HM.out t ((lo + hi) / 2) (by omega) (by omega) h) (by rw [HP.out]; decide)), HI.out.yes⟩)
        go_roundw
        case rel => exact ⟨(lo + hi) / 2 + 1, hi, by go_num, rfl, by omega, by omega, HN⟩
        case measure => simp [intOf]; omega
      | true =>
        rw [hp] at HC
        have HP := hid hp
        clear hp
        go_wp2_with (go_at_call 150; refine HC.out.mono ?_; rintro e w2 ⟨rfl, hb2⟩; have B2 := hid hb2; clear hb2)
        have HN := hid (show SearchAt w n p lo ((lo + hi) / 2) w2 from ⟨HI.out.low.trans (B2.out.mono HI.out.low.size), HI.out.no, fun t h1 h2 => HM.out _ t h1 h2 HP.out⟩)
        go_roundw
        case rel => exact ⟨lo, (lo + hi) / 2, rfl, by go_num, by omega, by omega, HN⟩
        case measure => simp [intOf]; omega
    · have he : hi = lo := by omega
      subst he
      have hI : ¬ ((hi : Int) < (hi : Int)) := by omega
      go_wp2
      go_ret
      exact ⟨hi, rfl, hin, HI.out⟩
end Go.Proofs.YtemmhingmeinjaaGreatDoor
namespace Go.Proofs.YtemmhingmeinjaaGreatDoor
open Go.RowKit

theorem aheadB_cmp (a b : Raw) : aheadB a.prio b.prio a.mat b.mat = decide (cmpR a b < 0) := by
  rw [decide_eq_decide.2 cmpR_neg]
  rfl
set_option maxRecDepth 20000 in
set_option maxHeartbeats 2000000 in
theorem AheadV_any {w : World} {p q k l : Int} {m n : List UInt8} {ao bo : Option Addr} {la ca lb cb : Nat} :
    Calls Tryz.prog 151 #[.agg #[.int .i64 p, .string (tx m), .int .i64 k, .slice ao la ca], .agg #[.int .i64 q, .string (tx n), .int .i64 l, .slice bo lb cb]] w fun e w' => e = .returned (.bool (aheadB p q m n)) ∧ Below w.heap.size w w' := by
  have HC := hid (fun w' => compare_any (w := w') (p := p) (q := q) (k := k) (l := l) (m := m) (n := n) (ao := ao) (bo := bo) (la := la) (ca := ca) (lb := lb) (cb := cb))
  have HE := hid (show decide ((if cmpI q p = 0 then cmpL m n else cmpI q p) < 0) = aheadB p q m n from (aheadB_cmp ⟨p, m, 0, []⟩ ⟨q, n, 0, []⟩).symm)
  obtain ⟨r, hr⟩ : ∃ r, r = (if cmpI q p = 0 then cmpL m n else cmpI q p) := ⟨_, rfl⟩
  rw [← hr] at HC HE
  clear hr
  rw [← HE.out]
  clear HE
  go_enter Tryz.func151, Tryz.ntmps151
  go_wp2_with fail
  refine (HC.out _).mono ?_
  rintro en w1 ⟨rfl, hb1⟩
  have B1 := hid (show Below w.heap.size w w1 from (((Below.refl _ _).alloc (Nat.le_refl _) _).alloc (by simp) _).trans (hb1.mono (by simp; omega)))
  clear hb1
  go_wp2
  go_ret
  exact ⟨rfl, B1.out⟩
end Go.Proofs.YtemmhingmeinjaaGreatDoor
namespace Go.Proofs.YtemmhingmeinjaaGreatDoor
open Go.RowKit

set_option maxRecDepth 20000 in
set_option maxHeartbeats 2000000 in
theorem find1_any {w : World} {D c1 c2 g i n cap : Nat} {p q k l : Int} {m m' : List UInt8} {ao bo : Option Addr} {la ca lb cb : Nat} (hi : i < n) (h1 : w.cell? ⟨c1, 0, none⟩ = some (.pointer (some ⟨D, 0, none⟩))) (hv : w.cell? ⟨D, 1, none⟩ = some (.slice (some ⟨g, 0, none⟩) n cap))
    (ha : w.cell? ⟨g, i * 4, none⟩ = some (.int .i64 p) ∧ w.cell? ⟨g, i * 4 + 1, none⟩ = some (.string (tx m)) ∧ w.cell? ⟨g, i * 4 + 2, none⟩ = some (.int .i64 k) ∧ w.cell? ⟨g, i * 4 + 3, none⟩ = some (.slice ao la ca))
    (hb : w.cell? ⟨c2, 0, none⟩ = some (.int .i64 q) ∧ w.cell? ⟨c2, 1, none⟩ = some (.string (tx m')) ∧ w.cell? ⟨c2, 2, none⟩ = some (.int .i64 l) ∧ w.cell? ⟨c2, 3, none⟩ = some (.slice bo lb cb)) :
    Calls Tryz.prog 150 #[.int .i64 (i : Int), .pointer (some ⟨c1, 0, none⟩), .pointer (some ⟨c2, 0, none⟩)] w fun e w' => e = .returned (.bool (!aheadB p q m m')) ∧ Below w.heap.size w w' := by
  obtain ⟨a0, a1, a2, a3⟩ := ha
  obtain ⟨b0, b1, b2, b3⟩ := hb
  have HC := hid (fun w' => AheadV_any (w := w') (p := p) (q := q) (k := k) (l := l) (m := m) (n := m') (ao := ao) (bo := bo) (la := la) (ca := ca) (lb := lb) (cb := cb))
  obtain ⟨r, hr⟩ : ∃ r, r = aheadB p q m m' := ⟨_, rfl⟩
  rw [← hr] at HC ⊢
  clear hr
  have i0 : (0 : Int) ≤ (i : Int) := by omega
  have i1 : (i : Int) < (n : Int) := by omega
  go_enter Tryz.func150, Tryz.ntmps150
  go_wp2_with fail
  go_region_held2 (fun W => W.cell? ⟨c1, 0, none⟩ = some (.pointer (some ⟨D, 0, none⟩)) ∧ W.cell? ⟨D, 1, none⟩ = some (.slice (some ⟨g, 0, none⟩) n cap) ∧ W.cell? ⟨g, i * 4, none⟩ = some (.int .i64 p) ∧ W.cell? ⟨g, i * 4 + 1, none⟩ = some (.string (tx m)) ∧ W.cell? ⟨g, i * 4 + 2, none⟩ = some (.int .i64 k) ∧ W.cell? ⟨g, i * 4 + 3, none⟩ = some (.slice ao la ca) ∧ W.cell? ⟨c2, 0, none⟩ = some (.int .i64 q) ∧ W.cell? ⟨c2, 1, none⟩ = some (.string (tx m')) ∧ W.cell? ⟨c2, 2, none⟩ = some (.int .i64 l) ∧ W.cell? ⟨c2, 3, none⟩ = some (.slice bo lb cb)) (first | exact ⟨h1, hv, a0, a1, a2, a3, b0, b1, b2, b3⟩ | exact hS2) (first | (go_at_call 151; refine (HC.out _).mono ?_; rintro en w2 ⟨rfl, hb2⟩; have B2 := hid hb2; have hS2 := And.intro ((hb2.cell (block_old h1)).trans h1) (And.intro ((hb2.cell (block_old hv)).trans hv) (And.intro ((hb2.cell (block_old a0)).trans a0) (And.intro ((hb2.cell (block_old a1)).trans a1) (And.intro ((hb2.cell (block_old a2)).trans a2) (And.intro ((hb2.cell (block_old a3)).trans a3) (And.intro ((hb2.cell (block_old b0)).trans b0) (And.intro ((hb2.cell (block_old b1)).trans b1) (And.intro ((hb2.cell (block_old b2)).trans b2) ((hb2.cell (block_old b3)).trans b3))))))))); clear hb2))
  go_wp2
  go_ret
  exact ⟨rfl, (Below.refl w.heap.size w).drew.trans (show Below w.heap.size w.drew w2 from B2.out)⟩

structure OwnR (w : World) (B : Nat) (v : Value) (ps : List (Raw × Value)) : Prop where
  own : w.ownsRow B 51 4 v ps.length (flatV ps)
  vals : ∀ q ∈ ps, ∃ ao n c, q.2 = .slice ao n c
theorem OwnR.on {w w' : World} {B : Nat} {v : Value} {ps : List (Raw × Value)} (h : OwnR w B v ps) (hb : Below w.heap.size w w') : OwnR w' B v ps := ⟨own_kept h.own hb, h.vals⟩
theorem OwnR.form {w : World} {B : Nat} {v : Value} {ps : List (Raw × Value)} (h : OwnR w B v ps) : ∃ ao c, v = .slice ao ps.length c ∧ ps.length ≤ c ∧ ((ao = none ∧ ps = []) ∨ ∃ g, ao = some ⟨g, 0, none⟩ ∧ B ≤ g ∧ g < w.heap.size) := by
  rcases h.own.2 with ⟨e, h0⟩ | ⟨g, cap, cur, e, hB, hh, hn, _⟩
  · have : ps = [] := List.length_eq_zero_iff.1 h0
    subst this
    exact ⟨none, 0, e, Nat.le_refl _, Or.inl ⟨rfl, rfl⟩⟩
  · exact ⟨_, cap, e, hn, Or.inr ⟨g, rfl, hB, lt_of_block hh⟩⟩
theorem OwnR.cells {w : World} {B g n c : Nat} {ps : List (Raw × Value)} (h : OwnR w B (.slice (some ⟨g, 0, none⟩) n c) ps) {i : Nat} {q : Raw × Value} (hq : ps[i]? = some q) : w.cell? ⟨g, i * 4, none⟩ = some (.int .i64 q.1.prio) ∧ w.cell? ⟨g, i * 4 + 1, none⟩ = some (.string (tx q.1.mat)) ∧ w.cell? ⟨g, i * 4 + 2, none⟩ = some (.int .i64 q.1.kind) ∧ w.cell? ⟨g, i * 4 + 3, none⟩ = some q.2 := by
  rcases h.own.2 with ⟨e, _⟩ | ⟨g', cap, cur, e, _, hh, _, _, _, ht⟩
  · cases e
  · injection e with e1 e2 e3
    injection e1 with e1
    injection e1 with e1 _ _
    subst e1
    obtain ⟨h0, h1, h2, h3⟩ := flatV_get hq
    have key : ∀ (j : Nat) (u : Value), (flatV ps)[j]? = some u → w.cell? ⟨g, j, none⟩ = some u := fun j u hj => by
      rw [cell_at hh, ← Array.getElem?_toList]
      rw [← ht, List.getElem?_take] at hj
      split at hj
      · exact hj
      · cases hj
    exact ⟨key _ _ h0, key _ _ h1, key _ _ h2, key _ _ h3⟩

set_option maxRecDepth 20000 in
set_option maxHeartbeats 4000000 in
theorem find_any {w : World} {D B : Nat} {v : Value} {p k : Int} {m : List UInt8} {bo : Option Addr} {lb cb : Nat} {zs : List (List UInt8)} {ps : List (Raw × Value)} (hv : w.cell? ⟨D, 1, none⟩ = some v) (ho : OwnR w B v ps) (hs : Srt (ps.map Prod.fst)) (h60 : ps.length ≤ 4096) :
    Calls Tryz.prog 120 #[.pointer (some ⟨D, 0, none⟩), .agg #[.int .i64 p, .string (tx m), .int .i64 k, .slice bo lb cb]] w fun e w' => ∃ j : Nat, e = .returned (.tuple #[.int .i64 (j : Int), .bool ((ps.map Prod.fst).any fun a => keyB a ⟨p, m, k, zs⟩)]) ∧ Hid (PlaceAt (ps.map Prod.fst) ⟨p, m, k, zs⟩ j ∧ Below w.heap.size w w') := by
  have HO := hid ho
  have HS := hid hs
  have hD := block_old hv
  have hD : D < w.heap.size := hD
  obtain ⟨ao, c, hve, hnc, hform⟩ := ho.form
  subst hve
  have HFORM := hid hform
  have HV := hid hv
  obtain ⟨r, hr⟩ : ∃ r : Raw, r = ⟨p, m, k, zs⟩ := ⟨_, rfl⟩
  have HR := hid hr
  rw [← hr]
  have hrp : r.prio = p := by rw [hr]
  have hrm : r.mat = m := by rw [hr]
  obtain ⟨n, hn⟩ : ∃ n, n = ps.length := ⟨_, rfl⟩
  have HN := hid hn
  rw [← hn] at hv h60 hnc
  clear hn ho hs hform
  obtain ⟨W0, hW0⟩ : ∃ W0, W0 = (w.alloc (.cells #[.pointer (some ⟨D, 0, none⟩)] 115)).alloc (rob p (tx m) k (.slice bo lb cb)) := ⟨_, rfl⟩
  have HW0 := hid (show Below w.heap.size w W0 by rw [hW0]; exact ((Below.refl _ _).alloc (Nat.le_refl _) _).alloc (by simp) _)
  have HSZ := hid (show W0.heap.size = w.heap.size + 2 by rw [hW0]; simp)
  have HC1 := hid (show W0.heap[w.heap.size]? = some (.cells #[.pointer (some ⟨D, 0, none⟩)] 115) by rw [hW0]; exact new_old _ _ (new_0 _ _))
  have HC2 := hid (show W0.heap[w.heap.size + 1]? = some (rob p (tx m) k (.slice bo lb cb)) by rw [hW0]; exact new_1 _ _ _)
  have v0 : W0.cell? ⟨D, 1, none⟩ = some (.slice ao n c) := (HW0.out.cell (by exact hD)).trans hv
  have HSEA := hid (Search_any (w := W0) (n := n) (c1 := w.heap.size) (c2 := w.heap.size + 1) (p := fun i => !decide (cmpR (rawAt ps i) r < 0)) (by omega) (fun W i hW hi => by
    obtain ⟨q, hq⟩ : ∃ q, ps[i]? = some q := ⟨ps[i]'(by rw [← HN.out]; exact hi), List.getElem?_eq_getElem _⟩
    obtain ⟨g, hg⟩ : ∃ g, ao = some ⟨g, 0, none⟩ := by
      rcases HFORM.out with ⟨_, h0⟩ | ⟨g, h1, _⟩
      · exfalso; rw [h0] at hq; simp at hq
      · exact ⟨g, h1⟩
    subst hg
    have hb : Below w.heap.size w W := HW0.out.trans (hW.mono (by rw [HSZ.out]; omega))
    have hc := (HO.out.on hb).cells hq
    obtain ⟨an, al, ac, hq2⟩ := HO.out.vals q (List.mem_of_getElem? hq)
    have hx : rawAt ps i = q.1 := rawAt_some hq
    have HX := hid hx
    obtain ⟨⟨p', m', k', z'⟩, uv⟩ := q
    simp only at hc hq2 hx
    subst hq2
    have hcm := aheadB_cmp ⟨p', m', k', z'⟩ r
    rw [← hx] at hcm
    rw [← hcm, hrp, hrm, hx]
    exact find1_any (n := n) (cap := c) hi (by rw [cell_at (below_block hW HC1.out (by rw [HSZ.out]; omega))]; rfl) ((hW.cell (by show D < W0.heap.size; rw [HSZ.out]; omega)).trans v0) hc
      (by obtain ⟨b0, b1, b2, b3, _⟩ := rob_cells (below_block hW HC2.out (by rw [HSZ.out]; omega)); exact ⟨b0, b1, b2, b3⟩))
    (fun a b hab hb ha => by
      simp only [Bool.not_eq_true', decide_eq_false_iff_not] at ha ⊢
      intro hbr
      have hb' : b < ps.length := by rw [← HN.out]; exact hb
      have ha' : a < ps.length := by omega
      rcases Nat.lt_or_eq_of_le hab with hlt | rfl
      · have := List.pairwise_iff_getElem.1 HS.out a b (by simpa using ha') (by simpa using hb') hlt
        simp only [List.getElem_map] at this
        rw [← rawAt_some (List.getElem?_eq_getElem ha'), ← rawAt_some (List.getElem?_eq_getElem hb')] at this
        exact ha (cmpR_trans this hbr)
      · exact ha hbr))
  have HPL := hid (show ∀ (j : Nat) (w' : World), j ≤ n → SearchAt W0 n (fun i => !decide (cmpR (rawAt ps i) r < 0)) j j w' → PlaceAt (ps.map Prod.fst) r j from fun j w' hj hS => by
    have e : ∀ i (hi : i < (ps.map Prod.fst).length), (ps.map Prod.fst)[i] = rawAt ps i := fun i hi => by
      have hi' : i < ps.length := by simpa using hi
      rw [List.getElem_map, rawAt_some (List.getElem?_eq_getElem hi')]
    refine ⟨by rw [List.length_map, ← HN.out]; exact hj, fun a ha => ?_, fun a ha => ?_⟩
    · obtain ⟨i, hi, rfl⟩ := List.mem_iff_getElem.1 ha
      rw [List.length_take] at hi
      rw [List.getElem_take, e]
      have := hS.no i (by omega)
      simpa using this
    · obtain ⟨i, hi, rfl⟩ := List.mem_iff_getElem.1 ha
      rw [List.length_drop] at hi
      rw [List.getElem_drop, e]
      have := hS.yes (j + i) (by omega) (by have := HN.out; rw [List.length_map] at hi; omega)
      simpa using this)
  go_enter Tryz.func120, Tryz.ntmps120
  go_wp2_with fail
  rw [← hW0]
  refine HSEA.out.mono ?_
  rintro en w2 ⟨j, rfl, hj, hS⟩
  have B2 := hid hS.out.low
  have HP := hid (HPL.out j w2 hj hS.out)
  have c1 : w2.cell? ⟨w.heap.size, 0, none⟩ = some (.pointer (some ⟨D, 0, none⟩)) := by rw [cell_at (below_block B2.out HC1.out (by rw [HSZ.out]; omega))]; rfl
  have v2 : w2.cell? ⟨D, 1, none⟩ = some (.slice ao n c) := (B2.out.cell (by show D < W0.heap.size; rw [HSZ.out]; omega)).trans v0
  have BW := hid (HW0.out.trans (B2.out.mono (by rw [HSZ.out]; omega)))
  obtain ⟨b0, b1, b2, b3, _, _, _, _⟩ := rob_cells (below_block B2.out HC2.out (by rw [HSZ.out]; omega))
  by_cases hlt : j < n
  · obtain ⟨q, hq⟩ : ∃ q, ps[j]? = some q := ⟨ps[j]'(by rw [← HN.out]; exact hlt), List.getElem?_eq_getElem _⟩
    obtain ⟨g, hg⟩ : ∃ g, ao = some ⟨g, 0, none⟩ := by
      rcases HFORM.out with ⟨_, h0⟩ | ⟨g, h1, _⟩
      · exfalso; rw [h0] at hq; simp at hq
      · exact ⟨g, h1⟩
    subst hg
    obtain ⟨a0, a1, a2, a3⟩ := (HO.out.on BW.out).cells hq
    obtain ⟨an, al, ac, hq2⟩ := HO.out.vals q (List.mem_of_getElem? hq)
    have HTH := hid (show ((ps.map Prod.fst).any fun a => keyB a r) = !decide (cmpR r q.1 < 0) by
      have h1 := there_iff HS.out HP.out
      have h2 : (ps.map Prod.fst)[j]? = some q.1 := by rw [List.getElem?_map, hq]; rfl
      cases ht : (ps.map Prod.fst).any fun a => keyB a r with
      | true =>
        obtain ⟨a, ha, hk⟩ := h1.1 ht
        rw [h2] at ha
        cases ha
        simp [hk]
      | false =>
        by_cases hk : cmpR r q.1 < 0
        · simp [hk]
        · have := h1.2 ⟨q.1, h2, hk⟩
          rw [ht] at this
          cases this)
    obtain ⟨⟨p', m', k', z'⟩, uv⟩ := q
    simp only at a0 a1 a2 a3 hq2 HTH
    subst hq2
    rw [← aheadB_cmp, hrp, hrm] at HTH
    have HC := hid (fun w' => AheadV_any (w := w') (p := p) (q := p') (k := k) (l := k') (m := m) (n := m') (ao := bo) (bo := an) (la := lb) (ca := cb) (lb := al) (cb := ac))
    obtain ⟨bv, hbv⟩ : ∃ bv, bv = aheadB p p' m m' := ⟨_, rfl⟩
    rw [← hbv] at HC HTH
    clear hbv hq hS hrp hrm hr
    have i0 : (0 : Int) ≤ (j : Int) := by omega
    have i1 : (j : Int) < (n : Int) := by omega
    have hd : decide ((j : Int) < (n : Int)) = true := by simpa using hlt
    go_wp2_with fail
    go_region_held2 (fun W => W.cell? ⟨w.heap.size, 0, none⟩ = some (.pointer (some ⟨D, 0, none⟩)) ∧ W.cell? ⟨D, 1, none⟩ = some (.slice (some ⟨g, 0, none⟩) n c) ∧ W.cell? ⟨g, j * 4, none⟩ = some (.int .i64 p') ∧ W.cell? ⟨g, j * 4 + 1, none⟩ = some (.string (tx m')) ∧ W.cell? ⟨g, j * 4 + 2, none⟩ = some (.int .i64 k') ∧ W.cell? ⟨g, j * 4 + 3, none⟩ = some (.slice an al ac) ∧ W.cell? ⟨w.heap.size + 1, 0, none⟩ = some (.int .i64 p) ∧ W.cell? ⟨w.heap.size + 1, 1, none⟩ = some (.string (tx m)) ∧ W.cell? ⟨w.heap.size + 1, 2, none⟩ = some (.int .i64 k) ∧ W.cell? ⟨w.heap.size + 1, 3, none⟩ = some (.slice bo lb cb)) (first | exact ⟨c1, v2, a0, a1, a2, a3, b0, b1, b2, b3⟩ | exact hS3) (first | (go_at_call 151; refine (HC.out _).mono ?_; rintro en w3 ⟨rfl, hb3⟩; have B3 := hid hb3; have hS3 := And.intro ((hb3.cell (block_old c1)).trans c1) (And.intro ((hb3.cell (block_old v2)).trans v2) (And.intro ((hb3.cell (block_old a0)).trans a0) (And.intro ((hb3.cell (block_old a1)).trans a1) (And.intro ((hb3.cell (block_old a2)).trans a2) (And.intro ((hb3.cell (block_old a3)).trans a3) (And.intro ((hb3.cell (block_old b0)).trans b0) (And.intro ((hb3.cell (block_old b1)).trans b1) (And.intro ((hb3.cell (block_old b2)).trans b2) ((hb3.cell (block_old b3)).trans b3))))))))); clear hb3))
    go_wp2
    refine bodyPost_ret (v := .tuple #[.int .i64 (j : Int), .bool (!bv)]) (by simp [results, Tryz.results120, go_sem]) rfl ⟨j, by rw [HTH.out], HP.out, below_2 BW.out (undrew B3.out)⟩
  · have hjn : j = n := by omega
    have HTH := hid (show ((ps.map Prod.fst).any fun a => keyB a r) = false by
      cases ht : (ps.map Prod.fst).any fun a => keyB a r with
      | false => rfl
      | true =>
        obtain ⟨a, ha, _⟩ := (there_iff HS.out HP.out).1 ht
        have := (List.getElem?_eq_some_iff.1 ha).1
        rw [List.length_map, ← HN.out] at this
        omega)
    have hI : ¬ ((j : Int) < (n : Int)) := by omega
    have hd : decide ((j : Int) < (n : Int)) = false := by simpa using hlt
    clear hS
    have mixed := Tryz.mixed
    go_wp2_with fail
    go_big_region_o
    go_wp2
    refine bodyPost_ret (v := .tuple #[.int .i64 (j : Int), .bool false]) (by simp [results, Tryz.results120, go_sem]; omega) rfl ⟨j, by rw [HTH.out], HP.out, BW.out.drew⟩
end Go.Proofs.YtemmhingmeinjaaGreatDoor
namespace Go.Proofs.YtemmhingmeinjaaGreatDoor
open Go.RowKit

theorem own_parts {w : World} {B g n c : Nat} {xs : List Value} (h : w.ownsRow B 51 4 (.slice (some ⟨g, 0, none⟩) n c) n xs) : ∃ cur, B ≤ g ∧ w.heap[g]? = some (.cells cur 51 (0, 0)) ∧ n ≤ c ∧ c ≤ maxLen ∧ cur.size = c * 4 ∧ (∀ (j : Nat) (u : Value), xs[j]? = some u → w.cell? ⟨g, j, none⟩ = some u) ∧ ∀ j, j < c * 4 → (w.cell? ⟨g, j, none⟩).isSome = true := by
  rcases h.2 with ⟨e, _⟩ | ⟨g', cap, cur, e, hB, hh, hn, hm, hs, ht⟩
  · cases e
  · injection e with e1 e2 e3
    injection e1 with e1
    injection e1 with e1 _ _
    subst e1 e3
    refine ⟨cur, hB, hh, hn, hm, hs, fun j u hj => ?_, fun j hj => ?_⟩
    · rw [cell_at hh, ← Array.getElem?_toList]
      rw [← ht, List.getElem?_take] at hj
      split at hj
      · exact hj
      · cases hj
    · rw [cell_at hh, Array.getElem?_eq_getElem (by omega)]; rfl

set_option maxRecDepth 20000 in
set_option maxHeartbeats 4000000 in
theorem Insert_shift {w : World} {B g n c k vb : Nat} {ps : List (Raw × Value)} {q : Raw × Value} (hown : w.ownsRow B 51 4 (.slice (some ⟨g, 0, none⟩) n c) n (flatV ps)) (hl : ps.length = n) (hk : k < n) (hroom : n + 1 ≤ c) (h60 : n ≤ 4096)
    (hv : w.heap[vb]? = some (.cells #[.int .i64 q.1.prio, .string (tx q.1.mat), .int .i64 q.1.kind, q.2] 51 (0, 0))) (hq : ∃ ao n c, q.2 = .slice ao n c) (hp : ∀ q ∈ ps, ∃ ao n c, q.2 = .slice ao n c) (hne : vb ≠ g) :
    Calls Tryz.prog 121 #[.slice (some ⟨g, 0, none⟩) n c, .int .i64 (k : Int), .slice (some ⟨vb, 0, none⟩) 1 1] w fun e w' => e = .returned (.slice (some ⟨g, 0, none⟩) (n + 1) c) ∧ Hid (w'.ownsRow B 51 4 (.slice (some ⟨g, 0, none⟩) (n + 1) c) (n + 1) (flatV (ps.take k ++ q :: ps.drop k)) ∧ w.grownBy w' (some g)) := by
  have mixed := Tryz.mixed
  obtain ⟨cur, hB, hh, hnc, hm, hs, hcs, hsome⟩ := own_parts hown
  have hfz : ∀ j, w.frozen? ⟨g, j, none⟩ = false := fun j => free_of hh
  have hvfz : ∀ j, w.frozen? ⟨vb, j, none⟩ = false := fun j => free_of hv
  have h1c : ∀ u ∈ flatV ps, u.oneCell' = true := flatV_one hp
  have h1v : ∀ u ∈ four q, u.oneCell' = true := flatV_one (rs := [q]) (fun x hx => by rw [List.mem_singleton.1 hx]; exact hq)
  have hfl := flatV_len ps
  have hvs : ∀ (j : Nat) (u : Value), (four q)[j]? = some u → w.cell? ⟨vb, j, none⟩ = some u := fun j u hj => by rw [cell_at hv]; simpa using hj
  have hov : ∀ lb cb, (callFunc 152 #[.slice (some ⟨vb, 0, none⟩) 1 1, .slice (some ⟨g, (k + 1) * 4, none⟩) lb cb]).run Tryz.prog w = .ok (.value (.bool false)) w := fun lb cb => by
    rw [run_callFunc_extern Tryz.func152 (by kernel_rfl) (by kernel_rfl) (by kernel_rfl) (e := Extern.SlicesOverlaps.overlaps #[36, 36] #[4]) (by kernel_rfl),
      Lib.run_overlaps_apart w 36 4 51 Tryz.underlying36 4 Tryz.sizeOf51 ⟨vb, 0, none⟩ ⟨g, (k + 1) * 4, none⟩ 1 1 lb cb hne 51 51 4 (c * 4) (by rw [shape_at hv]; rfl) (by rw [shape_at hh, hs]) (by omega) (hvfz _) (hvfz _)]
    rfl
  have hdl : ((flatV ps).drop (k * 4)).length = (n - k) * 4 := by rw [List.length_drop, hfl, hl]; omega
  have hcp1 : ∀ ty dc sc, (Builtin.copy_ #[36, 36] ty #[.slice (some ⟨g, (k + 1) * 4, none⟩) (n - k) dc, .slice (some ⟨g, k * 4, none⟩) (n + 1 - k) sc]).run Tryz.prog w.drew = .ok (goInt (Nat.min (n + 1 - k) (n - k))) (w.drew.setCells g ((k + 1) * 4) ((flatV ps).drop (k * 4))) := fun ty dc sc =>
    run_copy_wide w.drew _ _ ty 51 4 g ((k + 1) * 4) (n - k) dc ⟨g, k * 4, none⟩ (n + 1 - k) sc _ Tryz.underlying36 Tryz.sizeRule (by rw [hdl]; congr 1; simp only [Nat.min_def]; split <;> omega)
      (fun j u hj => by rw [addr_add5]; exact hcs (k * 4 + j) u (by rwa [List.getElem?_drop] at hj))
      (fun j hj => hsome _ (by omega)) (fun j hj => hfz _) (fun u hu => h1c u (List.mem_of_mem_drop hu))
  obtain ⟨W1, hW1⟩ : ∃ W1, W1 = w.drew.setCells g ((k + 1) * 4) ((flatV ps).drop (k * 4)) := ⟨_, rfl⟩
  have hb1 := block_setCells ((flatV ps).drop (k * 4)) ((k + 1) * 4) w.drew cur hh
  rw [← hW1] at hcp1 hb1
  have hsz1 : (setAll cur ((k + 1) * 4) ((flatV ps).drop (k * 4))).size = c * 4 := by rw [setAll_size, hs]
  have hcp2 : ∀ (W : World), (∀ x, W.cell? x = W1.cell? x) → (∀ x, W.frozen? x = W1.frozen? x) → ∀ ty dc, (Builtin.copy_ #[36, 36] ty #[.slice (some ⟨g, k * 4, none⟩) (n + 1 - k) dc, .slice (some ⟨vb, 0, none⟩) 1 1]).run Tryz.prog W = .ok (goInt (Nat.min 1 (n + 1 - k))) (W.setCells g (k * 4) (four q)) := fun W hWc hWf ty dc =>
    run_copy_wide W _ _ ty 51 4 g (k * 4) (n + 1 - k) dc ⟨vb, 0, none⟩ 1 1 (four q) Tryz.underlying36 Tryz.sizeRule (by rw [show Nat.min 1 (n + 1 - k) = 1 by simp only [Nat.min_def]; split <;> omega]; rfl)
      (fun j u hj => by
        rw [addr_add5, Nat.zero_add, hWc, hW1, World.cell?_setCells_out g _ _ _ _ (fun h _ => absurd h hne)]
        exact hvs j u hj)
      (fun j hj => by
        have : j < 4 := hj
        rw [hWc, cell_at hb1, Array.getElem?_eq_getElem (by rw [hsz1]; omega)]; rfl) (fun j hj => by rw [hWf]; exact free_of hb1) h1v
  have HFIN := hid (show ∀ W : World, (∀ x, W.cell? x = W1.cell? x) → W.heap[g]? = W1.heap[g]? → (W.setCells g (k * 4) (four q)).ownsRow B 51 4 (.slice (some ⟨g, 0, none⟩) (n + 1) c) (n + 1) (flatV (ps.take k ++ q :: ps.drop k)) from fun W hWc hWh => by
    have hb2 := block_setCells (four q) (k * 4) W _ (hWh.trans hb1)
    refine own_of_cells hb2 hB hroom hm (by rw [setAll_size, hsz1]) (by rw [flatV_len]; simp [hl]; omega) (fun j u hj => ?_)
    have e : flatV (ps.take k ++ q :: ps.drop k) = (flatV ps).take (k * 4) ++ four q ++ (flatV ps).drop (k * 4) := by
      rw [flatV_append, flatV_take, List.append_assoc]
      show _ ++ (four q ++ flatV (ps.drop k)) = _
      rw [flatV_drop]
    rw [e] at hj
    have hsome2 : ∀ i, i < c * 4 → (W.cell? ⟨g, i, none⟩).isSome = true := fun i hi => by rw [hWc, cell_at hb1, Array.getElem?_eq_getElem (by rw [hsz1]; omega)]; rfl
    have htl : ((flatV ps).take (k * 4)).length = k * 4 := by rw [List.length_take, hfl, hl]; omega
    by_cases h1 : j < k * 4
    · rw [World.cell?_setCells_out g _ _ _ _ (fun _ _ => Or.inl h1), hWc, hW1, World.cell?_setCells_out g _ _ _ _ (fun _ _ => Or.inl (by show j < (k + 1) * 4; omega))]
      rw [List.append_assoc, List.getElem?_append_left (by omega), List.getElem?_take, if_pos h1] at hj
      exact hcs j u hj
    · by_cases h2 : j < k * 4 + 4
      · have hin := World.cell?_setCells_in g (four q) (k * 4) W (fun i hi => hsome2 _ (by have : i < 4 := hi; omega)) (j - k * 4) (by show j - k * 4 < 4; omega)
        rw [show k * 4 + (j - k * 4) = j by omega] at hin
        rw [hin]
        rw [List.getElem?_append_left (by rw [List.length_append, htl]; show j < k * 4 + 4; omega), List.getElem?_append_right (by omega), htl] at hj
        rw [List.getElem?_eq_getElem (by show j - k * 4 < 4; omega)] at hj
        exact hj
      · have hin := World.cell?_setCells_in g ((flatV ps).drop (k * 4)) ((k + 1) * 4) w.drew (fun i hi => hsome _ (by omega)) (j - (k + 1) * 4) (by
          have := (List.getElem?_eq_some_iff.1 hj).1
          simp only [List.length_append, htl, hdl] at this
          have e4 : (four q).length = 4 := rfl
          omega)
        rw [show (k + 1) * 4 + (j - (k + 1) * 4) = j by omega] at hin
        rw [World.cell?_setCells_out g _ _ _ _ (fun _ _ => Or.inr (by show k * 4 + 4 ≤ j; omega)), hWc, hW1, hin]
        rw [List.getElem?_append_right (by rw [List.length_append, htl]; show k * 4 + 4 ≤ j; omega), List.length_append, htl, show k * 4 + (four q).length = (k + 1) * 4 by show k * 4 + 4 = _; omega] at hj
        rw [List.getElem?_eq_getElem (by rw [hdl]; have := (List.getElem?_eq_some_iff.1 hj).1; rw [hdl] at this; exact this)] at hj
        exact hj)
  have HGR := hid (show ∀ W : World, w.grownBy W (some g) → w.grownBy (W.setCells g (k * 4) (four q)) (some g) from fun W hg => grown_two hg (grown_setCells g _ _ _))
  have HG1 := hid (show w.grownBy W1 (some g) by rw [hW1]; exact grown_two (grown_drw w _) (grown_setCells g _ _ _))
  have hz2 : ¬ ((k : Int) = (n : Int)) := by omega
  have hw1 : IntKind.i64.wrap ((k : Int) + 1) = (k : Int) + 1 := by rw [IntKind.wrap_i64]; omega
  have hb0 : (0 : Int) ≤ (k : Int) + 1 := by omega
  have hin : k ≤ n := by omega
  have htn : ((k : Int) + 1).toNat = k + 1 := by omega
  have hb2 : ¬ (c = k + 1) := by omega
  have hb3 : (k : Int) ≤ (n : Int) + 1 := by omega
  have hb4 : ¬ (c = k) := by omega
  have hcb : (c : Int) ≤ 9223372036854775807 := by unfold maxLen at hm; omega
  clear hown hv hh hcs hsome hfz hvfz h1c h1v hvs hb1 hsz1 hs hq hp
  go_enter Tryz.func121, Tryz.ntmps121
  go_wp2_with (simp only [hov])
  go_region_law_o (refine step_copy_runI rfl _ _ 36 36 rfl _ _ (by simp [Act.eval, Act.put]) (by simp [Act.eval, Act.put]) (hcp1 _ _ _) ?_)
  go_wp2_with (at_builtin; refine wpList_copy_runI _ rfl _ _ 36 36 rfl _ _ rfl rfl (hcp2 _ (fun _ => rfl) (fun _ => rfl) _ _) ?_)
  go_ret
  exact ⟨rfl, HFIN.out _ (fun _ => by rw [hW1]) (by rw [hW1]), HGR.out _ (hW1 ▸ HG1.out)⟩
end Go.Proofs.YtemmhingmeinjaaGreatDoor
