/-
  slices.Insert of stamps: what copy does, cells of a row; at the end.
-/
import Derived.Laws.IdiomCopy
import Derived.Lib.AppendZerosOnto
import Derived.Lib.Overlaps
import Derived.Lib.SliceRun
import Derived.Laws.NewBlocks
import Derived.Laws.Externs
import Derived.Deep.RegionLaw
import Derived.Shelf.RegionOpenPlain
import Derived.Shelf.Spec.SlicesInsert
import Derived.Test.YtibbbjikehkbmabDoorGCopy
namespace Go.Proofs.YtibbbjikehkbmabDoor.Ve
open Go.RowKit

theorem run_copy_wide {P : Program} (w : World) (dT sT ty elem : TypeId) (size b o dLen dCap : Nat) (a : Addr) (sLen sCap : Nat) (cs : List Value)
    (hu : P.underlying dT = some (.slice elem)) (hs : (P.info? elem).map (·.size) = some size) (hn : cs.length = Nat.min sLen dLen * size)
    (hsrc : ∀ j v, cs[j]? = some v → w.cell? (a.add j) = some v) (hc : ∀ j, j < cs.length → (w.cell? ⟨b, o + j, none⟩).isSome = true) (hf : ∀ j, j < cs.length → w.frozen? ⟨b, o + j, none⟩ = false) (h1 : ∀ v ∈ cs, v.oneCell' = true) :
    (Builtin.copy_ #[dT, sT] ty #[.slice (some ⟨b, o, none⟩) dLen dCap, .slice (some a) sLen sCap]).run P w = .ok (goInt (Nat.min sLen dLen)) (w.setCells b o cs) := by
  have hl := run_loadCells_list (P := P) w a cs hsrc
  have hst := run_storeCells_cells (P := P) b o cs 0 w (by simpa using hc) (by simpa using hf) h1
  cases hq : P.info? elem with
  | none => simp [hq] at hs
  | some i =>
    have hi : i.size = size := by simpa [hq] using hs
    simp [Builtin.copy_, run_underlying hu, Builtin.lenOf, Builtin.firstCells, sizeOf, typeInfo, hq, hi, ← hn, hl, hst]
theorem grown_refl (w : World) (r : Option Nat) : w.grownBy w r := ⟨rfl, rfl, rfl, Nat.le_refl _, fun _ _ _ => rfl⟩
theorem grown_two {a b c : World} {r : Option Nat} (h : a.grownBy b r) (k : b.grownBy c r) : a.grownBy c r :=
  ⟨k.os.trans h.os, k.tape.trans h.tape, k.output.trans h.output, Nat.le_trans h.size k.size, fun i hi hne => (k.block i (Nat.lt_of_lt_of_le hi h.size) hne).trans (h.block i hi hne)⟩
theorem grown_cell (w : World) (g o : Nat) (v : Value) : w.grownBy (w.setCell ⟨g, o, none⟩ v) (some g) := ⟨rfl, rfl, rfl, by simp, fun i _ hne => Below.heap_setCell _ _ _ _ (fun e => hne (by rw [e]))⟩
theorem grown_setCells (g : Nat) : ∀ (vs : List Value) (o : Nat) (w : World), w.grownBy (w.setCells g o vs) (some g)
  | [], _, w => grown_refl w _
  | v :: r, o, w => grown_two (grown_cell w g o v) (grown_setCells g r (o + 1) _)
theorem grown_drw (w : World) (r : Option Nat) : w.grownBy w.drew r := ⟨rfl, rfl, rfl, Nat.le_refl _, fun _ _ _ => rfl⟩
theorem own_of_cells {w : World} {B g cap n : Nat} {cur : Array Value} {xs : List Value} (hh : w.heap[g]? = some (.cells cur 33 (0, 0))) (hB : B ≤ g) (hn : n ≤ cap) (hm : cap ≤ maxLen) (hs : cur.size = cap * 2) (hl : xs.length = n * 2)
    (hc : ∀ (j : Nat) (u : Value), xs[j]? = some u → w.cell? ⟨g, j, none⟩ = some u) : w.ownsRow B 33 2 (.slice (some ⟨g, 0, none⟩) n cap) n xs := by
  refine ⟨hl, Or.inr ⟨g, cap, cur, rfl, hB, hh, hn, hm, hs, ?_⟩⟩
  apply List.ext_getElem?
  intro j
  by_cases hj : j < xs.length
  · have := hc j _ (List.getElem?_eq_getElem hj)
    rw [cell_at hh] at this
    rw [List.getElem?_take, if_pos (by omega), Array.getElem?_toList, this, List.getElem?_eq_getElem hj]
  · rw [List.getElem?_take, if_neg (by omega), List.getElem?_eq_none (by omega)]
theorem flatS_take (ps : List St) : ∀ k, flatS (ps.take k) = (flatS ps).take (k * 2) := by
  induction ps with
  | nil => intro k; simp [flatS]
  | cons a r ih =>
    intro k
    cases k with
    | zero => simp [flatS]
    | succ k =>
      have e : flatS (a :: r) = .int .i64 a.1 :: .int .u64 (a.2 : Int) :: flatS r := rfl
      rw [e, List.take_succ_cons, show (k + 1) * 2 = k * 2 + 1 + 1 by omega]
      simp only [List.take_succ_cons]
      rw [← ih k]
      rfl
theorem flatS_drop (ps : List St) : ∀ k, flatS (ps.drop k) = (flatS ps).drop (k * 2) := by
  induction ps with
  | nil => intro k; simp [flatS]
  | cons a r ih =>
    intro k
    cases k with
    | zero => simp [flatS]
    | succ k =>
      have e : flatS (a :: r) = .int .i64 a.1 :: .int .u64 (a.2 : Int) :: flatS r := rfl
      rw [e, List.drop_succ_cons, show (k + 1) * 2 = k * 2 + 1 + 1 by omega]
      simp only [List.drop_succ_cons]
      exact ih k
/-- The two cells of a stamp. -/
abbrev twoC (q : St) : List Value := [.int .i64 q.1, .int .u64 (q.2 : Int)]
theorem sizeStampI : (Tryd.prog.info? 33).map (·.size) = some 2 := by kernel_rfl
/-- append takes what it appends by its own type; a row's other name is all the same. -/
theorem app_named (ty : TypeId) (b : Option Addr) (n c : Nat) (x : Value) (w : World) : (Builtin.append_ #[23, 22] ty #[.slice b n c, x]).run Tryd.prog w = (Builtin.append_ #[23, 23] ty #[.slice b n c, x]).run Tryd.prog w := by
  have h1 := Tryd.underlying23
  have h2 := Tryd.underlying22
  simp [Builtin.append_, run_underlying h1, run_underlying h2]
attribute [local go_sem ↓] appC_fold
set_option maxRecDepth 20000 in
set_option maxHeartbeats 2000000 in
/-- At the end. -/
theorem Insert_end {w : World} {B n vb : Nat} {ao : Option Addr} {c : Nat} {ps : List St} {q : St} (hown : w.ownsRow B 33 2 (.slice ao n c) n (flatS ps)) (hB : B ≤ w.heap.size) (h60 : n ≤ 4096)
    (hv : w.heap[vb]? = some (.cells #[.int .i64 q.1, .int .u64 (q.2 : Int)] 33 (0, 0))) :
    Calls Tryd.prog 20 #[.slice ao n c, .int .i64 (n : Int), .slice (some ⟨vb, 0, none⟩) 1 1] w fun e w' => ∃ bo bc, e = .returned (.slice bo (n + 1) bc) ∧ Hid (w'.ownsRow B 33 2 (.slice bo (n + 1) bc) (n + 1) (flatS (ps ++ [q])) ∧ w.grownBy w' (Value.slice ao n c).ownBlock) := by
  obtain ⟨i0, hi, hz0, hz1, hz2⟩ := info_parts info_stamp
  obtain ⟨v', w2, hrun, ho, hgr, _, _⟩ := run_append_own_at (P := Tryd.prog) w B 23 23 33 i0 (.agg #[.int .i64 0, .int .u64 0]) 2 16 Tryd.underlying23 hi hz0 hz1 hz2 rfl (by decide) (.slice ao n c) n (flatS ps) hown ⟨vb, 0, none⟩ 1 1 (twoC q) rfl (fun j u hj => by
    rw [addr_addS, Nat.zero_add, cell_at hv]
    simpa using hj) (by simp [Value.oneCell']) (by unfold maxLen; omega) (by omega) hB
  rw [← app_named] at hrun
  have e : flatS (ps ++ [q]) = flatS ps ++ twoC q := by rw [flatS_append]; rfl
  have hfin : ∃ bo bc, v' = .slice bo (n + 1) bc ∧ Hid (w2.ownsRow B 33 2 (.slice bo (n + 1) bc) (n + 1) (flatS (ps ++ [q])) ∧ w.grownBy w2 (Value.slice ao n c).ownBlock) := by
    rcases ho.2 with ⟨_, h0⟩ | ⟨g, cap, cur, rfl, _⟩
    · omega
    · exact ⟨_, _, rfl, by rw [e]; exact ho, hgr⟩
  obtain ⟨bo, bc, rfl, HF⟩ := hfin
  have hsl : (ao = none ∧ n = 0 ∧ c = 0) ∨ (∃ g, ao = some ⟨g, 0, none⟩ ∧ n ≤ c) := by
    rcases hown.2 with ⟨e, h0⟩ | ⟨g, cap, cur, e, hB, hh, hn, _⟩
    · injection e with e1 e2 e3
      exact Or.inl ⟨e1, e2, e3⟩
    · injection e with e1 e2 e3
      subst e3
      exact Or.inr ⟨g, e1, hn⟩
  have hap : (appC #[23, 22] 23 #[.slice ao n c, .slice (some ⟨vb, 0, none⟩) 1 1]).run Tryd.prog w = .ok (.slice bo (n + 1) bc) w2 := hrun
  clear hown hv hrun ho hgr e hi hz0 hz1 hz2
  rcases hsl with ⟨rfl, rfl, rfl⟩ | ⟨g, rfl, hnc⟩
  · go_enter Tryd.func20, Tryd.ntmps20
    go_wp2
    go_ret
    exact ⟨bo, bc, rfl, HF⟩
  · by_cases hcn : c = n
    · subst hcn
      go_enter Tryd.func20, Tryd.ntmps20
      go_wp2
      go_ret
      exact ⟨bo, bc, rfl, HF⟩
    · have hlt : n < c := by omega
      go_enter Tryd.func20, Tryd.ntmps20
      go_wp2
      go_ret
      exact ⟨bo, bc, rfl, HF⟩
end Go.Proofs.YtibbbjikehkbmabDoor.Ve
