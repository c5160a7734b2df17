/-
  Stamps and vectors that came in as arguments, opened.
-/
import Derived.Test.YtibbbjikehkbmabDoorRows
import Derived.Test.YtibbbjikehkbmabDoorCards
import Derived.Test.YtibbbjikehkbmabDoorTie
import Derived.Test.YtibbbjikehkbmabDoorGView
import Derived.WalkKit
import Derived.ProofKit
import Derived.OpenShut
import Derived.ShutString
import Derived.Deep.Slices
import Derived.ChangeArms
import Derived.SliceStrings
import Derived.Lay
import Derived.LaidOnce
import Derived.SevenTiedAt
import Derived.LaidSub
import Derived.MakeChecks
namespace Go.Proofs.YtibbbjikehkbmabDoor.Ve
open Go.ChangeShapes Go.WideShapes Go.ChangeAt Go.RowKit

theorem laidOut : laidOutB Tryd.prog = true := by kernel_rfl
theorem own : ownKnob Tryd.prog.godebug = none := by kernel_rfl
theorem structOfV {P : Program} {t : TypeId} {l : List (TypeId × Nat)} (h : (match P.underlying t with | some (.struct fs) => decide (fs.toList.map (fun f => (f.type, f.offset)) = l) | _ => false) = true) : ∃ fs, P.underlying t = some (.struct fs) ∧ fs.toList.map (fun f => (f.type, f.offset)) = l := by
  split at h
  · rename_i fs e
    exact ⟨fs, e, of_decide_eq_true h⟩
  · cases h
theorem fieldOfV {fs : Array Field} {l : List (TypeId × Nat)} (h : fs.toList.map (fun f => (f.type, f.offset)) = l) {i : Nat} {ty : TypeId} {off : Nat} (hi : l[i]? = some (ty, off)) : ∃ f, fs[i]? = some f ∧ f.type = ty ∧ f.offset = off := by
  rw [← h, List.getElem?_map, Option.map_eq_some_iff] at hi
  obtain ⟨f, hf, e⟩ := hi
  simp only [Prod.mk.injEq] at e
  exact ⟨f, by simpa using hf, e.1, e.2⟩
theorem addrOfV {w : World} {a : Addr} {v : Value} (h : w.cell? (a.add 0) = some v) : (∃ g o, a = ⟨g, o, none⟩) ∧ a.block < w.heap.size := by
  have e : a.add 0 = a := by unfold Addr.add; simp
  rw [e] at h
  obtain ⟨g, o, sp⟩ := a
  have hlt : g < w.heap.size := World.block_lt_of_cell? w _ h
  refine ⟨?_, hlt⟩
  cases sp with
  | none => exact ⟨g, o, rfl⟩
  | some s =>
    exfalso
    unfold World.cell? at h
    simp only [Option.isSome_some, if_true] at h
    split at h <;> cases h

section
variable {H : Type} {enc : TypeId × Value → H} {w : World} {base : Nat} {held : Bool}

set_option maxRecDepth 100000 in
theorem open_st {fuel : Nat} {cs : List Value} {x : DataW H × List MemPlace} (h : DataW.trod enc Tryd.prog w base (fun _ => true) held fuel 33 cs = some x) : ∃ s : St, cs = [.int .i64 s.1, .int .u64 (s.2 : Int)] := by
  obtain ⟨fs, hfs, hl⟩ := structOfV (P := Tryd.prog) (t := 33) (l := [(3, 0), (31, 1)]) (by kernel_rfl)
  obtain ⟨xs, n, _, _, hlen, hxl, hf⟩ := DataW.trod_struct hfs h
  have hc : Tryd.prog.cellsOf 33 = 2 := by kernel_rfl
  rw [hc] at hlen
  have hsz : fs.size = 2 := by have := congrArg List.length hl; simpa using this
  match cs, hlen with
  | [c0, c1], _ =>
    obtain ⟨f0, e0, t0, o0⟩ := fieldOfV hl (i := 0) rfl
    obtain ⟨f1, e1, t1, o1⟩ := fieldOfV hl (i := 1) rfl
    have g0 := hf 0 f0 e0
    have g1 := hf 1 f1 e1
    rw [t0, o0, show Tryd.prog.cellsOf 3 = 1 by kernel_rfl, List.getElem?_eq_getElem (show 0 < xs.length by omega)] at g0
    rw [t1, o1, show Tryd.prog.cellsOf 31 = 1 by kernel_rfl, List.getElem?_eq_getElem (show 1 < xs.length by omega)] at g1
    obtain ⟨a, ha, _, _⟩ := DataW.trod_int Tryd.underlying3 g0
    obtain ⟨b, hb, _, hw⟩ := DataW.trod_int Tryd.underlying31 g1
    have := bounds_u64 hw
    simp at ha hb
    subst ha hb
    exact ⟨(a, b.toNat), by simp; omega⟩
/-- A row of stamps that came in (a vector, or a list of stamps). -/
theorem open_row {t : TypeId} (ht : Tryd.prog.underlying t = some (.slice 33)) {fuel : Nat} {v : Value} {x : DataW H × List MemPlace} (h : DataW.trod enc Tryd.prog w base (fun _ => true) held fuel t [v] = some x) : ∃ l : List St, VecV w v l ∧ l.length ≤ maxLen := by
  rcases DataW.trod_slice ht h with ⟨hcs, _⟩ | ⟨a, len, cap, elems, rest, n2, hn2, hcs, _, _, hlc, hlm, hel, helem, _, _⟩
  · simp only [List.cons.injEq, and_true] at hcs
    subst hcs
    exact ⟨[], vec_nil w, by simp⟩
  · simp only [List.cons.injEq, and_true] at hcs
    subst hcs
    rw [show Tryd.prog.cellsOf 33 = 2 by kernel_rfl] at helem
    have each : ∀ i, i < len → ∃ s : St, w.cell? (a.add (i * 2)) = some (.int .i64 s.1) ∧ w.cell? ((a.add (i * 2)).add 1) = some (.int .u64 (s.2 : Int)) := by
      intro i hi
      have h1 := helem i hi
      rw [List.getElem?_eq_getElem (show i < elems.length by omega), Option.bind_eq_some_iff] at h1
      obtain ⟨cs', h2, h3⟩ := h1
      obtain ⟨_, _, hcell⟩ := World.cells?_some h2
      obtain ⟨s, rfl⟩ := open_st h3
      have c0 := hcell 0 (by omega)
      have e0 : (a.add (i * 2)).add 0 = a.add (i * 2) := by unfold Addr.add; simp
      rw [e0] at c0
      exact ⟨s, c0, hcell 1 (by omega)⟩
    by_cases h0 : len = 0
    · subst h0
      exact ⟨[], ⟨some a, cap, rfl, Nat.zero_le _, fun q => (by cases q), .inl rfl⟩, by simp⟩
    have : Inhabited St := ⟨(0, 0)⟩
    obtain ⟨q, hq⟩ := Go.Deep.choose_lt each
    obtain ⟨⟨g, o, rfl⟩, hb⟩ := addrOfV (v := .int .i64 (q 0).1) (by have := (hq 0 (by omega)).1; rw [Nat.zero_mul] at this; exact this)
    refine ⟨(List.range len).map q, ⟨some ⟨g, o, none⟩, cap, by simp, by simp; omega, fun q => (by cases q), .inr ⟨g, o, rfl, hb, fun i p hp => ?_⟩⟩, by simp; omega⟩
    rw [List.getElem?_map, Option.map_eq_some_iff] at hp
    obtain ⟨i', hi', rfl⟩ := hp
    obtain ⟨hi, rfl⟩ := List.getElem?_eq_some_iff.1 hi'
    simp only [List.length_range] at hi
    simp only [List.getElem_range]
    obtain ⟨c0, c1⟩ := hq i hi
    rw [addr_addS] at c0 c1
    rw [addr_addS] at c1
    exact ⟨c0, c1⟩
/-- Vectors that came in. -/
theorem open_rows {fuel : Nat} {v : Value} {x : DataW H × List MemPlace} (h : DataW.trod enc Tryd.prog w base (fun _ => true) held fuel 36 [v] = some x) : ∃ ls : List (List St), VecsV w v ls ∧ ls.length ≤ maxLen ∧ ∀ l ∈ ls, l.length ≤ maxLen := by
  rcases DataW.trod_slice Tryd.underlying36 h with ⟨hcs, _⟩ | ⟨a, len, cap, elems, rest, n2, hn2, hcs, _, _, hlc, hlm, hel, helem, _, _⟩
  · simp only [List.cons.injEq, and_true] at hcs
    subst hcs
    exact ⟨[], ⟨none, 0, rfl, Nat.le_refl _, fun _ => rfl, .inl rfl⟩, by simp, fun l hl => by cases hl⟩
  · simp only [List.cons.injEq, and_true] at hcs
    subst hcs
    rw [show Tryd.prog.cellsOf 23 = 1 by kernel_rfl] at helem
    have each : ∀ i, i < len → ∃ q : Value × List St, w.cell? (a.add i) = some q.1 ∧ VecV w q.1 q.2 ∧ q.2.length ≤ maxLen := by
      intro i hi
      have h1 := helem i hi
      rw [List.getElem?_eq_getElem (show i < elems.length by omega), Option.bind_eq_some_iff, Nat.mul_one] at h1
      obtain ⟨cs', h2, h3⟩ := h1
      obtain ⟨hl, _, hcell⟩ := World.cells?_some h2
      match cs', hl with
      | [c], _ =>
        obtain ⟨l, hl1, hl2⟩ := open_row Tryd.underlying23 h3
        have c0 := hcell 0 (by omega)
        have e0 : (a.add i).add 0 = a.add i := by unfold Addr.add; simp
        rw [e0] at c0
        exact ⟨(c, l), c0, hl1, hl2⟩
    by_cases h0 : len = 0
    · subst h0
      exact ⟨[], ⟨some a, cap, rfl, Nat.zero_le _, fun q => (by cases q), .inl rfl⟩, by simp, fun l hl => by cases hl⟩
    have : Inhabited (Value × List St) := ⟨(.bool false, [])⟩
    obtain ⟨q, hq⟩ := Go.Deep.choose_lt each
    obtain ⟨⟨g, o, rfl⟩, hb⟩ := addrOfV (v := (q 0).1) (hq 0 (by omega)).1
    refine ⟨(List.range len).map fun i => (q i).2, ⟨some ⟨g, o, none⟩, cap, by simp, by simp; omega, fun q => (by cases q), .inr ⟨g, o, rfl, hb, fun i p hp => ?_⟩⟩, by simp; omega, fun l hl => ?_⟩
    · rw [List.getElem?_map, Option.map_eq_some_iff] at hp
      obtain ⟨i', hi', rfl⟩ := hp
      obtain ⟨hi, rfl⟩ := List.getElem?_eq_some_iff.1 hi'
      simp only [List.length_range] at hi
      simp only [List.getElem_range]
      obtain ⟨c0, c1, _⟩ := hq i hi
      rw [addr_addS] at c0
      exact ⟨_, c0, c1⟩
    · obtain ⟨i, hi, rfl⟩ := List.mem_map.1 hl
      exact (hq i (List.mem_range.1 hi)).2.2
end
end Go.Proofs.YtibbbjikehkbmabDoor.Ve
