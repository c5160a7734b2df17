/-
  The ends of links that are taken: a map of numbers by device and port; ends.add.
  The numbers of devices by their names: a map.
  m[k]++ of a map told key by key: the entry first or the look-up first.
  A map of whole numbers in memory, told key by key.
  Numbers in order, each once. Plain mathematics: no program is named here.
  topo.Near of any links.
  slices.Sort and slices.Compact over a row of numbers: in order, each once.
-/
import Derived.Test.YtebaopiedlioiaaGreatDoorWRefSAnd
import Derived.Test.YtebaopiedlioiaaGreatDoorNLay
import Derived.Test.YtebaopiedlioiaaGreatDoorJInsAnd
import Derived.Deep.DeepCutAuto
import Derived.Deep.AppendLies
import Derived.WalkKit
import Derived.Maps.OwnSet
import Derived.WideKeyEntry
import Derived.DeepKeys5
namespace Go.Proofs.YtebaopiedlioiaaGreatDoor
open Go.RowKit Go.Sort Go.Lib

theorem Tryz.fSortI : Tryz.laysSortI_ren.f 189 = 51 := by kernel_rfl
theorem Tryz.fCompactI : Tryz.laysCompactI_ren.f 20 = 52 := by kernel_rfl

/-- A block of numbers, of which the first are these. -/
def IntAt (w : World) (g : Nat) (zs : List Int) : Prop := ∃ cs, w.heap[g]? = some (.cells cs 3 (0, 0)) ∧ ∀ (i : Nat) (z : Int), zs[i]? = some z → cs[i]? = some (.int .i64 z)
theorem IntAt.cell {w : World} {g : Nat} {zs : List Int} (h : IntAt w g zs) {i : Nat} {z : Int} (hz : zs[i]? = some z) : w.cell? ⟨g, i, none⟩ = some (.int .i64 z) := by
  obtain ⟨cs, h1, h2⟩ := h
  rw [cell_at h1]; exact h2 i z hz
theorem IntAt.lt {w : World} {g : Nat} {zs : List Int} (h : IntAt w g zs) : g < w.heap.size := by
  obtain ⟨cs, h1, h2⟩ := h
  exact lt_of_block h1
theorem IntAt.holds {w : World} {g : Nat} {zs : List Int} (h : IntAt w g zs) : Holds (Value.int .i64) w g 0 zs.toArray := by
  intro j hj
  simp only [List.size_toArray] at hj
  obtain ⟨cs, h1, h2⟩ := h
  refine ⟨?_, free_of h1⟩
  rw [Nat.zero_add, cell_at h1, h2 j zs[j] (List.getElem?_eq_getElem hj)]
  simp [hj]
theorem IntAt.put {w : World} {g : Nat} {zs ys : List Int} (h : IntAt w g zs) (hl : ys.length = zs.length) (n : Nat) : IntAt (putRow (Value.int .i64) (Sort.ahead w n) g 0 ys.toArray) g ys := by
  obtain ⟨cs, h1, h2⟩ := h
  have hc : ∀ (i : Nat) (z : Int), ys[i]? = some z → i < cs.size := fun i z hz => by
    have hi : i < zs.length := by have := (List.getElem?_eq_some_iff.1 hz).1; omega
    exact (Array.getElem?_eq_some_iff.1 (h2 i zs[i] (List.getElem?_eq_getElem hi))).1
  refine ⟨putCells (Value.int .i64) 0 ys.toArray cs, ?_, fun i z hz => ?_⟩
  · show (mapBlock (Sort.ahead w n) g (putCells (Value.int .i64) 0 ys.toArray)).heap[g]? = _
    have h1' : (Sort.ahead w n).heap[g]? = some (.cells cs 3 (0, 0)) := h1
    unfold mapBlock
    simp only [Array.getElem?_modify, h1', if_true, Option.map_some]
    rfl
  · have hi := hc i z hz
    have hiy : i < ys.length := (List.getElem?_eq_some_iff.1 hz).1
    unfold putCells
    rw [Array.getElem?_mapIdx, Array.getElem?_eq_getElem hi]
    simp only [Option.map_some, Nat.zero_le, Nat.zero_add, List.size_toArray, hiy, and_self, if_true, Nat.sub_zero]
    have : ys.toArray[i]! = z := by
      rw [List.getElem?_eq_getElem hiy] at hz
      simp only [Option.some.injEq] at hz
      simp [hiy, hz]
    rw [this]
theorem put_grownI (w : World) (g n : Nat) (ys : List Int) (os : Array Obj) : w.grownBy (Sort.grow (putRow (Value.int .i64) (Sort.ahead w n) g 0 ys.toArray) os) (some g) := by
  refine ⟨rfl, rfl, rfl, by simp [Sort.grow, putRow, mapBlock, Sort.ahead], fun i hi hne => ?_⟩
  have hne' : i ≠ g := fun e => hne (by rw [e])
  have hsz : i < (putRow (Value.int .i64) (Sort.ahead w n) g 0 ys.toArray).heap.size := by rw [size_putRow]; exact hi
  show ((putRow (Value.int .i64) (Sort.ahead w n) g 0 ys.toArray).heap ++ os)[i]? = _
  rw [Array.getElem?_append_left hsz]
  show (mapBlock (Sort.ahead w n) g _).heap[i]? = _
  unfold mapBlock
  simp only [Array.getElem?_modify]
  rw [if_neg (fun e => hne' e.symm)]
  rfl
theorem IntAt.grow {w : World} {g : Nat} {zs : List Int} (h : IntAt w g zs) (os : Array Obj) : IntAt (Sort.grow w os) g zs := by
  obtain ⟨cs, h1, h2⟩ := h
  refine ⟨cs, ?_, h2⟩
  show (w.heap ++ os)[g]? = _
  rw [Array.getElem?_append_left (lt_of_block h1)]
  exact h1

theorem sort_ints {w : World} {g : Nat} {zs : List Int} (h : IntAt w g zs) (cap : Nat) (hz : zs.length ≤ 1048576) :
    Calls Tryz.prog 51 #[.slice (some ⟨g, 0, none⟩) zs.length cap] w fun e w' => e = .returned (.tuple #[]) ∧ IntAt w' g (zs.mergeSort fun x y => decide (x ≤ y)) ∧ w.grownBy w' (some g) := by
  have := Any.slices_Sort_int Tryz.laysSortI g 0 cap zs w h.holds h.lt (by omega)
  rw [Tryz.fSortI] at this
  refine this.mono ?_
  rintro e w' ⟨rfl, n, os, rfl⟩
  exact ⟨rfl, (h.put (by simp) n).grow os, put_grownI _ _ _ _ _⟩

theorem compact_ints {w : World} {g : Nat} {zs : List Int} (h : IntAt w g zs) (cap : Nat) (hz : zs.length ≤ 1048576) (hc : zs.length ≤ cap) :
    Calls Tryz.prog 52 #[.slice (some ⟨g, 0, none⟩) zs.length cap] w fun e w' => e = .returned (.slice (some ⟨g, 0, none⟩) (Lib.compact zs).length cap) ∧ IntAt w' g (Lib.compact zs) ∧ w.grownBy w' (some g) := by
  have := Any.slices_Compact_int Tryz.laysCompactI g 0 cap zs w h.holds (by omega) hc
  rw [Tryz.fCompactI] at this
  refine this.mono ?_
  rintro e w' ⟨rfl, q, rfl⟩
  have hle : (Lib.compact zs).length ≤ zs.length := by
    unfold Lib.compact Lib.compactUpTo
    rw [List.length_map]
    exact Nat.le_trans (List.length_filter_le _ _) (by simp)
  have hp := h.put (ys := Lib.compact zs ++ List.replicate (zs.length - (Lib.compact zs).length) 0) (by simp; omega) q
  refine ⟨rfl, ?_, ?_⟩
  · obtain ⟨cs, h1, h2⟩ := hp
    exact ⟨cs, h1, fun i z hi => h2 i z (by rw [List.getElem?_append_left (List.getElem?_eq_some_iff.1 hi).1]; exact hi)⟩
  · have := put_grownI w g q (Lib.compact zs ++ List.replicate (zs.length - (Lib.compact zs).length) 0) #[]
    rwa [Sort.grow_empty] at this
set_option maxRecDepth 20000 in
set_option maxHeartbeats 2000000 in
theorem insert_nilI (w : World) : Calls Tryz.prog 114 #[.slice none 0 0, .int .i64 0, .int .i64 0] w fun e w' => e = .returned (.tuple #[]) ∧ w' = w := by
  go_enter Tryz.func114, Tryz.ntmps114
  go_wp2_with fail
  go_loopw [6] (fun x wr => x = .int .i64 1 ∧ wr = w) (fun _ _ => 0)
  case atStart => exact ⟨rfl, rfl⟩
  case round =>
    obtain ⟨rfl, rfl⟩ := hrel
    go_wp2
    exact bodyPost_end (v := .tuple #[]) (by simp [results, Tryz.results114, go_sem]) rfl ⟨rfl, rfl⟩
/-- A number, whatever it is. -/
def LenPI (w : World) (e : Ending) (w' : World) : Prop := ∃ k : Int, e = .returned (.int .i64 k) ∧ w' = w
set_option maxRecDepth 20000 in
set_option maxHeartbeats 2000000 in
theorem pdq_nilI (w : World) (n : Int) : Calls Tryz.prog 87 #[.slice none 0 0, .int .i64 0, .int .i64 0, .int .i64 n] w fun e w' => e = .returned (.tuple #[]) ∧ w' = w := by
  have HI := hid (fun W => insert_nilI W)
  go_enter Tryz.func87, Tryz.ntmps87
  go_wp2_with fail
  go_loopw [1, 2] (fun a b wr => a = .int .i64 0 ∧ b = .int .i64 0 ∧ wr = w) (fun _ _ _ => 0)
  case atStart => exact ⟨rfl, rfl, rfl⟩
  case round =>
    obtain ⟨rfl, rfl, rfl⟩ := hrel
    go_wp2_with fail
    refine (HI.out _).mono ?_
    rintro en w1 ⟨rfl, rfl⟩
    go_wp2
    exact bodyPost_ret (v := .tuple #[]) (by simp [results, Tryz.results87, go_sem]) rfl ⟨rfl, rfl⟩
set_option maxRecDepth 20000 in
set_option maxHeartbeats 2000000 in
theorem len64_zeroI (w : World) : Calls Tryz.prog 124 #[.int .u64 0] w fun e w' => LenPI w e w' := by
  go_enter Tryz.func124, Tryz.ntmps124
  go_wp2
  exact bodyPost_ret (v := .int .i64 (wrap64 (wrap64 (Lib.len8 0)))) (by simp [results, Tryz.results124, go_sem]) rfl ⟨_, rfl, rfl⟩
set_option maxRecDepth 20000 in
set_option maxHeartbeats 2000000 in
theorem len_zeroI (w : World) : Calls Tryz.prog 88 #[.int .u64 0] w fun e w' => LenPI w e w' := by
  have HL := hid (fun W => len64_zeroI W)
  go_enter Tryz.func88, Tryz.ntmps88
  go_wp2_with fail
  refine (HL.out _).mono ?_
  rintro en w1 ⟨k, rfl, rfl⟩
  go_wp2
  exact bodyPost_ret (v := .int .i64 k) (by simp [results, Tryz.results88, go_sem]) rfl ⟨k, rfl, rfl⟩
set_option maxRecDepth 20000 in
set_option maxHeartbeats 2000000 in
theorem sort_nilI (w : World) : Calls Tryz.prog 51 #[.slice none 0 0] w fun e w' => e = .returned (.tuple #[]) ∧ w' = w := by
  have HP := hid (fun W n => pdq_nilI W n)
  have HL := hid (fun W => len_zeroI W)
  go_enter Tryz.func51, Tryz.ntmps51
  go_wp2_with fail
  refine (HL.out _).mono ?_
  rintro en w1 ⟨k, rfl, rfl⟩
  go_wp2_with fail
  refine (HP.out _ _).mono ?_
  rintro en w1 ⟨rfl, rfl⟩
  go_wp2
  exact bodyPost_end (v := .tuple #[]) (by simp [results, Tryz.results51, go_sem]) rfl ⟨rfl, rfl⟩
set_option maxRecDepth 20000 in
set_option maxHeartbeats 2000000 in
theorem compact_nilI (w : World) : Calls Tryz.prog 52 #[.slice none 0 0] w fun e w' => e = .returned (.slice none 0 0) ∧ w' = w := by
  go_enter Tryz.func52, Tryz.ntmps52
  go_wp2
  exact bodyPost_ret (v := .slice none 0 0) (by simp [results, Tryz.results52, go_sem]) rfl ⟨rfl, rfl⟩
end Go.Proofs.YtebaopiedlioiaaGreatDoor
namespace Go.Proofs.YtebaopiedlioiaaGreatDoor
open Go.RowKit

/-- The devices at the other ends, as they come. -/
def nearL (d : Int) (ls : List LkZ) : List Int := ls.flatMap fun l => (if l.1 = d then [l.2.2.1] else []) ++ (if l.2.2.1 = d then [l.1] else [])
abbrev numsJ (zs : List Int) : List Value := zs.map (Value.int .i64)

theorem Tryz.infoIntN : (Tryz.prog.info? 3).map (fun i => (i.zero, i.size, i.bytes)) = some (some (.int .i64 0), 1, 8) := by kernel_rfl
/-- The devices that were met among the first links, in a row of one's own. -/
structure NrI (w : World) (d : Int) (ls : List LkZ) (k : Nat) (v : Value) (m : Nat) (wr : World) : Prop where
  row : wr.ownsRow w.heap.size 3 1 v m (numsJ (nearL d (ls.take k)))
  len : m ≤ 2 * k
  below : Below w.heap.size w wr
theorem nearL_snoc (d : Int) {ls : List LkZ} {k : Nat} {a b : Int} {p q : List UInt8} (h : ls[k]? = some (a, p, b, q)) : numsJ (nearL d (ls.take (k + 1))) = numsJ (nearL d (ls.take k)) ++ (numsJ (if a = d then [b] else []) ++ numsJ (if b = d then [a] else [])) := by
  have hk := (List.getElem?_eq_some_iff.1 h).1
  have hg : ls[k] = (a, p, b, q) := by rw [List.getElem?_eq_getElem hk] at h; exact Option.some.inj h
  rw [List.take_succ_eq_append_getElem hk, hg]
  unfold nearL numsJ
  rw [List.flatMap_append]
  simp
/-- The devices next to one, rising, each once. -/
def nearS (d : Int) (ls : List LkZ) : List Int := Lib.compact ((nearL d ls).mergeSort fun x y => decide (x ≤ y))
/-- A row of numbers as it is told. -/
def NumsV (w : World) (v : Value) (zs : List Int) : Prop := (zs = [] ∧ v = .slice none 0 0) ∨ ∃ g cap, v = .slice (some ⟨g, 0, none⟩) zs.length cap ∧ IntAt w g zs
theorem own_ints {w : World} {B : Nat} {v : Value} {m : Nat} {zs : List Int} (h : w.ownsRow B 3 1 v m (numsJ zs)) : m = zs.length ∧ ((zs = [] ∧ v = .slice none 0 0) ∨ ∃ g cap, v = .slice (some ⟨g, 0, none⟩) zs.length cap ∧ B ≤ g ∧ IntAt w g zs ∧ zs.length ≤ cap) := by
  have hm : m = zs.length := by have := h.1; simp at this; omega
  refine ⟨hm, ?_⟩
  rcases h.2 with ⟨rfl, e⟩ | ⟨g, cap, cur, rfl, hB, hh, hc, _, hz, ht⟩
  · left; exact ⟨List.eq_nil_of_length_eq_zero (by omega), rfl⟩
  · right
    refine ⟨g, cap, by rw [hm], hB, ⟨cur, hh, fun i z hi => ?_⟩, by omega⟩
    have hu : (numsJ zs)[i]? = some (.int .i64 z) := by unfold numsJ; rw [List.getElem?_map, hi]; rfl
    rw [← ht, List.getElem?_take] at hu
    split at hu
    · rw [Array.getElem?_toList] at hu; exact hu
    · cases hu

set_option maxRecDepth 20000 in
set_option maxHeartbeats 1000000 in
theorem oNear_any {w : World} {x0 x1 v : Value} {ls : List LkZ} (hL : LkV w v ls) (d : Int) (hlen : ls.length ≤ 500000) :
    Calls Tryz.prog 25 #[.agg #[x0, x1, v], .int .i64 d] w fun e w' => (∃ v, e = .returned v ∧ NumsV w' v (nearS d ls)) ∧ Below w.heap.size w w' := by
  obtain ⟨av, cap, rfl, hcell⟩ := hL.form
  obtain ⟨n, hn⟩ : ∃ n, ls.length = n := ⟨_, rfl⟩
  obtain ⟨i0, hi, hz0, hz1, hz2⟩ := info_parts Tryz.infoIntN
  have HI := hid hi
  have HZ0 := hid hz0
  have HZ1 := hid hz1
  have HZ2 := hid hz2
  clear hi hz0 hz1 hz2
  have HC := hid hcell
  have HN := hid hn
  rw [hn] at hlen ⊢
  clear hcell hn hL
  have I0 := hid (show NrI w d ls 0 (.slice none 0 0) 0 (w.alloc (.cells #[x0, x1, .slice av n cap] 25)) from ⟨World.ownsRow_nil _ _ _ _, Nat.le_refl _, (Below.refl _ _).alloc (Nat.le_refl _) _⟩)
  go_enter Tryz.func25, Tryz.ntmps25
  go_wp2_with fail
  go_loopw [5, 11] (fun x i wr => ∃ (k m : Nat) (ao : Option Addr) (c : Nat), k ≤ n ∧ i = .int .i64 k ∧ x = .slice ao m c ∧ Hid (NrI w d ls k (.slice ao m c) m wr)) (fun _ i _ => n - (intOf i).toNat)
  case atStart => exact ⟨0, 0, none, 0, Nat.zero_le _, rfl, rfl, I0⟩
  case round =>
    obtain ⟨k, m, ao, c, hk, rfl, rfl, hI⟩ := hrel
    by_cases hkn : k < n
    · have hkl : k < ls.length := by rw [HN.out]; exact hkn
      obtain ⟨⟨a, p, b, q⟩, hq⟩ : ∃ q, ls[k]? = some q := ⟨_, List.getElem?_eq_getElem hkl⟩
      obtain ⟨G, o, rfl, hG, hcells⟩ : ∃ G o, av = some ⟨G, o, none⟩ ∧ G < w.heap.size ∧ ∀ (i : Nat) (q : LkZ), ls[i]? = some q → w.cell? ⟨G, o + i * 4, none⟩ = some (.int .i64 q.1) ∧ w.cell? ⟨G, o + i * 4 + 1, none⟩ = some (.string (tx q.2.1)) ∧ w.cell? ⟨G, o + i * 4 + 2, none⟩ = some (.int .i64 q.2.2.1) ∧ w.cell? ⟨G, o + i * 4 + 3, none⟩ = some (.string (tx q.2.2.2)) := by
        rcases HC.out with e | h
        · rw [e] at hkl; exact absurd hkl (Nat.not_lt_zero _)
        · exact h
      have hwr : ∀ i, i < w.heap.size → wr.heap[i]? = w.heap[i]? := fun i hi => hI.out.below.block i hi
      obtain ⟨z0, z1, z2, z3⟩ := hcells k _ hq
      have y0 := (World.cell?_of_block (a := ⟨G, o + k * 4, none⟩) (hwr G hG)).trans z0
      have y1 := (World.cell?_of_block (a := ⟨G, o + k * 4 + 1, none⟩) (hwr G hG)).trans z1
      have y2 := (World.cell?_of_block (a := ⟨G, o + k * 4 + 2, none⟩) (hwr G hG)).trans z2
      have y3 := (World.cell?_of_block (a := ⟨G, o + k * 4 + 3, none⟩) (hwr G hG)).trans z3
      simp only at y0 y1 y2 y3
      have HSN := hid (nearL_snoc d hq)
      have hkI : (k : Int) < (n : Int) := by omega
      have hk0 : (0 : Int) ≤ (k : Int) := by omega
      have hml := hI.out.len
      clear hcells z0 z1 z2 z3 hq hkl hwr
      obtain ⟨W1, hW1⟩ : ∃ W1, W1 = wr.alloc (.cells #[.int .i64 a, .string (tx p), .int .i64 b, .string (tx q)] 83) := ⟨_, rfl⟩
      have hb1 : Below wr.heap.size wr W1 := by rw [hW1]; exact (Below.refl _ _).alloc (Nat.le_refl _) _
      have hx1 : W1.heap[wr.heap.size]? = some (.cells #[.int .i64 a, .string (tx p), .int .i64 b, .string (tx q)] 83) := by rw [hW1]; exact new_0 _ _
      obtain ⟨kb, hkb⟩ : ∃ kb, kb = wr.heap.size := ⟨_, rfl⟩
      rw [← hkb] at hx1
      have HB1 := hid hb1
      have HX1 := hid hx1
      have HKB := hid hkb
      have r0 : W1.cell? ⟨kb, 0, none⟩ = some (.int .i64 a) := by rw [cell_at hx1]; rfl
      have r2 : W1.cell? ⟨kb, 2, none⟩ = some (.int .i64 b) := by rw [cell_at hx1]; rfl
      clear hx1 hb1
      obtain ⟨ba, hba⟩ : ∃ ba, (a == d) = ba := ⟨_, rfl⟩
      obtain ⟨bb, hbb⟩ : ∃ bb, (b == d) = bb := ⟨_, rfl⟩
      have HBA := hid (show (ba = true → a = d) ∧ (ba = false → ¬ a = d) from ⟨fun q => by rw [q] at hba; exact beq_iff_eq.1 hba, fun q => by rw [q] at hba; exact beq_eq_false_iff_ne.1 hba⟩)
      have HBB := hid (show (bb = true → b = d) ∧ (bb = false → ¬ b = d) from ⟨fun q => by rw [q] at hbb; exact beq_iff_eq.1 hbb, fun q => by rw [q] at hbb; exact beq_eq_false_iff_ne.1 hbb⟩)
      have hs1 : w.heap.size ≤ wr.heap.size := hI.out.below.size
      have HOW := hid (fun (ob : Obj) => (show (W1.alloc ob).ownsRow w.heap.size 3 1 (.slice ao m c) m (numsJ (nearL d (ls.take k))) from own_sameJ hI.out.row fun i r => by
        have hi := (hI.out.row.lt i r).2
        rw [Below.heap_alloc _ _ _ (by have := HB1.out.size; omega), HB1.out.block i hi]))
      have HBS := hid (show Below w.heap.size w W1 from by
        have h1 := hI.out.below
        have h2 := HB1.out
        exact ⟨h2.os.trans h1.os, h2.tape.trans h1.tape, h2.output.trans h1.output, Nat.le_trans h1.size h2.size, fun i hi => (h2.block i (by omega)).trans (h1.block i hi)⟩)
      have hsW : w.heap.size ≤ W1.heap.size := HBS.out.size
      have hkW : kb < W1.heap.size := lt_of_block HX1.out
      have hwk : w.heap.size ≤ kb := by rw [HKB.out]; exact hs1
      have hdk : (Value.slice ao m c).ownBlock ≠ some kb := fun r => by have := (hI.out.row.lt kb r).2; have := HKB.out; omega
      go_upto_region 5 with fail
      rw [← hW1, ← hkb]
      clear hW1 hkb
      go_upto_if 18 with fail
      go_cut [5] (fun x wz => ∃ (m' : Nat) (ao' : Option Addr) (c' : Nat), x = .slice ao' m' c' ∧ Hid (wz.ownsRow w.heap.size 3 1 (.slice ao' m' c') m' (numsJ (nearL d (ls.take k)) ++ numsJ (if a = d then [b] else [])) ∧ m' ≤ m + 1 ∧ Below w.heap.size w wz ∧ wz.heap[kb]? = some (.cells #[.int .i64 a, .string (tx p), .int .i64 b, .string (tx q)] 83)))
      case first =>
        cases ba with
        | true =>
          have HAD := hid (HBA.out.1 rfl)
          go_wp2_with (first | (at_builtin; refine wpList_append_lies _ rfl (.tmp 19) (.tmp 22) 52 rfl w.heap.size 3 i0 (.int .i64 0) 1 8 Tryz.underlying52 HI.out HZ0.out HZ1.out HZ2.out rfl (by decide) (.slice ao m c) m (numsJ (nearL d (ls.take k))) rfl (HOW.out _) ⟨W1.heap.size, 0, none⟩ 1 1 [.int .i64 b] rfl rfl (World.news_of_block (new_0 W1 _)) (by simp [Value.oneCell']) (by decide) (by unfold maxLen; omega) (by omega) (by simp only [World.size_alloc]; omega) (W1.heap.size + 1) (by simp) ?_; intro g1 cap1 w1 hown1 hgrow1 hat1 hlt1))
          go_meet
          refine ⟨m + 1, some ⟨g1, 0, none⟩, cap1, rfl, hid ⟨?_, Nat.le_refl _, ?_, ?_⟩⟩
          · rw [if_pos HAD.out]; exact hown1
          · refine ⟨hgrow1.os.trans HBS.out.os, hgrow1.tape.trans HBS.out.tape, hgrow1.output.trans HBS.out.output, by have := hgrow1.size; simp only [World.size_alloc] at this; omega, fun i hi => ?_⟩
            rw [hgrow1.block i (by simp only [World.size_alloc]; omega) (fun r => by have := (hI.out.row.lt i r.symm).1; omega), Below.heap_alloc _ _ _ (by omega), HBS.out.block i hi]
          · rw [hgrow1.block kb (by simp only [World.size_alloc]; omega) (fun r => hdk r.symm), Below.heap_alloc _ _ _ hkW, HX1.out]
        | false =>
          have HAD := hid (HBA.out.2 rfl)
          go_wp2_with fail
          go_meet
          refine ⟨m, ao, c, rfl, hid ⟨?_, by omega, HBS.out, HX1.out⟩⟩
          rw [if_neg HAD.out]
          have := own_sameJ (w' := W1) hI.out.row fun i r => HB1.out.block i (hI.out.row.lt i r).2
          simpa using this
      case rest =>
        obtain ⟨m', ao', c', rfl, hC⟩ := hcut
        have hm' := hC.out.2.1
        have hxc := hC.out.2.2.2
        have q0 : wc.cell? ⟨kb, 0, none⟩ = some (.int .i64 a) := by rw [cell_at hxc]; rfl
        have q2 : wc.cell? ⟨kb, 2, none⟩ = some (.int .i64 b) := by rw [cell_at hxc]; rfl
        have hkc : kb < wc.heap.size := lt_of_block hxc
        have hsc : w.heap.size ≤ wc.heap.size := hC.out.2.2.1.size
        have HOC := hid (fun (ob : Obj) => (show (wc.alloc ob).ownsRow w.heap.size 3 1 (.slice ao' m' c') m' (numsJ (nearL d (ls.take k)) ++ numsJ (if a = d then [b] else [])) from own_sameJ hC.out.1 fun i r => by
          have hi := (hC.out.1.lt i r).2
          rw [Below.heap_alloc _ _ _ (by omega)]))
        clear hxc r0 r2
        cases bb with
        | true =>
          have HAD := hid (HBB.out.1 rfl)
          go_wp2_with (first | (at_builtin; refine wpList_append_lies _ rfl (.tmp 28) (.tmp 31) 52 rfl w.heap.size 3 i0 (.int .i64 0) 1 8 Tryz.underlying52 HI.out HZ0.out HZ1.out HZ2.out rfl (by decide) (.slice ao' m' c') m' (numsJ (nearL d (ls.take k)) ++ numsJ (if a = d then [b] else [])) rfl (HOC.out _) ⟨wc.heap.size, 0, none⟩ 1 1 [.int .i64 a] rfl rfl (World.news_of_block (new_0 wc _)) (by simp [Value.oneCell']) (by decide) (by unfold maxLen; omega) (by omega) (by simp only [World.size_alloc]; omega) (wc.heap.size + 1) (by simp) ?_; intro g1 cap1 w1 hown1 hgrow1 hat1 hlt1; have HNX := hid (show NrI w d ls (k + 1) (.slice (some ⟨g1, 0, none⟩) (m' + 1) cap1) (m' + 1) w1 from by
              refine ⟨?_, by omega, ?_⟩
              · rw [HSN.out, if_pos HAD.out, ← List.append_assoc]; exact hown1
              · have hbc := hC.out.2.2.1
                refine ⟨hgrow1.os.trans hbc.os, hgrow1.tape.trans hbc.tape, hgrow1.output.trans hbc.output, by have := hgrow1.size; simp only [World.size_alloc] at this; omega, fun i hi => ?_⟩
                rw [hgrow1.block i (by simp only [World.size_alloc]; omega) (fun r => by have := (hC.out.1.lt i r.symm).1; omega), Below.heap_alloc _ _ _ (by omega), hbc.block i hi]); clear hown1 hgrow1 hat1))
          go_roundw
          case rel => exact ⟨k + 1, m' + 1, some ⟨g1, 0, none⟩, cap1, by omega, by go_num, rfl, HNX⟩
          case measure => simp [intOf]; omega
        | false =>
          have HAD := hid (HBB.out.2 rfl)
          have HNX := hid (show NrI w d ls (k + 1) (.slice ao' m' c') m' wc from by
            refine ⟨?_, by omega, hC.out.2.2.1⟩
            rw [HSN.out, if_neg HAD.out]
            simpa using hC.out.1)
          go_wp2
          exact ⟨⟨k + 1, m', ao', c', by omega, by simp, rfl, HNX⟩, by simp [intOf]; omega⟩
    · have hkn2 : k = n := by omega
      have HE := hid (show ls.take k = ls from List.take_of_length_le (by rw [HN.out]; omega))
      obtain ⟨hm, hz⟩ := own_ints hI.out.row
      rw [HE.out] at hm hz
      have hml : m ≤ 1000000 := by have := hI.out.len; omega
      have HB := hid hI.out.below
      have hI0 : ¬ (k : Int) < (n : Int) := by omega
      rcases hz with ⟨e1, e2⟩ | ⟨g, cp, e2, hB, hat, hcp⟩
      · have HS := hid (show nearS d ls = [] by unfold nearS; rw [e1, List.mergeSort_nil]; rfl)
        have hm0 : m = 0 := by rw [hm, e1]; rfl
        injection e2 with e2 e3 e4
        subst e2; subst e4; subst hm0
        have HSN := hid (fun W => sort_nilI W)
        have HCN := hid (fun W => compact_nilI W)
        clear hm e1 e3
        go_wp2_with fail
        refine (HSN.out _).mono ?_
        rintro en w2 ⟨rfl, rfl⟩
        go_wp2_with fail
        refine (HCN.out _).mono ?_
        rintro en w2 ⟨rfl, rfl⟩
        go_wp2
        refine bodyPost_ret (v := .slice none 0 0) (by simp [results, Tryz.results25, go_sem]) rfl ⟨⟨_, rfl, .inl ⟨HS.out, rfl⟩⟩, HB.out⟩
      · injection e2 with e2 e3 e4
        subst e2; subst e4
        have HM := hid hm
        have HA := hid hat
        have HBG := hid hB
        have hls : ((nearL d ls).mergeSort fun x y => decide (x ≤ y)).length = m := by rw [List.length_mergeSort, ← HM.out]
        have HS1 := hid (by
          have := sort_ints hat c (by rw [← HM.out]; omega)
          rw [← HM.out] at this
          exact this : Calls Tryz.prog 51 #[.slice (some ⟨g, 0, none⟩) m c] wr fun e w' => e = .returned (.tuple #[]) ∧ IntAt w' g ((nearL d ls).mergeSort fun x y => decide (x ≤ y)) ∧ wr.grownBy w' (some g))
        have HLS := hid hls
        have hcpm : m ≤ c := by rw [HM.out]; exact hcp
        clear hm hat e3 hls hcp hB
        go_wp2_with fail
        refine HS1.out.mono ?_
        rintro en w2 ⟨rfl, hat2, hg2⟩
        have HG2 := hid hg2
        have HS2 := hid (by
          have := compact_ints hat2 c (by rw [HLS.out]; omega) (by rw [HLS.out]; exact hcpm)
          rw [HLS.out] at this
          exact this : Calls Tryz.prog 52 #[.slice (some ⟨g, 0, none⟩) m c] w2 fun e w' => e = .returned (.slice (some ⟨g, 0, none⟩) (nearS d ls).length c) ∧ IntAt w' g (nearS d ls) ∧ w2.grownBy w' (some g))
        clear hat2 hg2
        go_wp2_with fail
        refine HS2.out.mono ?_
        rintro en w3 ⟨rfl, hat3, hg3⟩
        have HE3 := hid (show (∃ v, Ending.returned (.slice (some ⟨g, 0, none⟩) (nearS d ls).length c) = .returned v ∧ NumsV w3 v (nearS d ls)) ∧ Below w.heap.size w w3 from by
          refine ⟨⟨_, rfl, .inr ⟨g, c, rfl, hat3⟩⟩, ?_⟩
          have h1 := HG2.out
          have h0 := HB.out
          have hb := HBG.out
          exact ⟨hg3.os.trans (h1.os.trans h0.os), hg3.tape.trans (h1.tape.trans h0.tape), hg3.output.trans (h1.output.trans h0.output), Nat.le_trans h0.size (Nat.le_trans h1.size hg3.size), fun i hi => by
            rw [hg3.block i (by have := h0.size; have := h1.size; omega) (fun r => by injection r with r; omega), h1.block i (by have := h0.size; omega) (fun r => by injection r with r; omega), h0.block i hi]⟩)
        obtain ⟨L, hL⟩ : ∃ L, L = (nearS d ls).length := ⟨_, rfl⟩
        rw [← hL] at HE3 ⊢
        clear hat3 hg3 hL
        go_wp2
        exact bodyPost_ret (v := .slice (some ⟨g, 0, none⟩) L c) (by simp [results, Tryz.results25, go_sem]) rfl HE3.out
end Go.Proofs.YtebaopiedlioiaaGreatDoor
namespace Go.Proofs.YtebaopiedlioiaaGreatDoor

theorem upTo_succI (d : Array Int) (m : Nat) : Lib.compactUpTo d (m + 1) = Lib.compactUpTo d m ++ (if Lib.keeps d m then [d[m]!] else []) := by
  unfold Lib.compactUpTo
  rw [List.range_succ, List.filter_append, List.map_append]
  congr 1
  simp only [List.filter_cons, List.filter_nil]
  split <;> rfl
/-- A row in order, put together: it rises, and has the same texts. -/
theorem compact_riseI {z : List Int} (h : z.Pairwise (· ≤ ·)) : List.Pairwise (· < ·) (Lib.compact z) ∧ ∀ x, x ∈ Lib.compact z ↔ x ∈ z := by
  have key : ∀ m, m ≤ z.length → List.Pairwise (· < ·) (Lib.compactUpTo z.toArray m) ∧ (∀ x, x ∈ Lib.compactUpTo z.toArray m ↔ x ∈ z.take m) ∧ (∀ x, x ∈ Lib.compactUpTo z.toArray m → 0 < m → x ≤ z.toArray[m - 1]!) := by
    intro m
    induction m with
    | zero => intro _; exact ⟨List.Pairwise.nil, fun x => by simp [Lib.compactUpTo], fun x _ h0 => absurd h0 (Nat.lt_irrefl 0)⟩
    | succ m ih =>
      intro hm
      obtain ⟨h1, h2, h3⟩ := ih (by omega)
      have hget : z.toArray[m]! = z[m] := by simp [show m < z.length by omega]
      have htake : z.take (m + 1) = z.take m ++ [z[m]] := by rw [List.take_succ_eq_append_getElem (by omega)]
      have hle : ∀ x ∈ z.take m, x ≤ z[m] := fun x hx => by
        obtain ⟨j, hj, rfl⟩ := List.getElem_of_mem hx
        simp only [List.length_take] at hj
        rw [List.getElem_take]
        exact List.pairwise_iff_getElem.1 h j m (by omega) (by omega) (by omega)
      rw [upTo_succI]
      have hlast : ∀ x, x ∈ Lib.compactUpTo z.toArray m → x ≤ z[m] := fun x hx => hle x ((h2 x).1 hx)
      rw [hget]
      cases hk : Lib.keeps z.toArray m with
      | true =>
        simp only [if_true]
        refine ⟨?_, fun x => ?_, fun x hx _ => ?_⟩
        · refine List.pairwise_append.2 ⟨h1, by simp, fun a ha b hb => ?_⟩
          rw [List.mem_singleton] at hb
          subst hb
          refine Int.lt_iff_le_and_ne.2 ⟨hlast a ha, fun e => ?_⟩
          have hm0 : 0 < m := by
            rcases Nat.eq_zero_or_pos m with e0 | h0
            · subst e0; simp [Lib.compactUpTo] at ha
            · exact h0
          have hp : z.toArray[m - 1]! = z[m - 1] := by simp [show m - 1 < z.length by omega]
          have h4 := h3 a ha hm0
          rw [hp] at h4
          have h5 : z[m - 1] ≤ z[m] := List.pairwise_iff_getElem.1 h (m - 1) m (by omega) (by omega) (by omega)
          have e2 : z[m] = z[m - 1] := Int.le_antisymm (e ▸ h4) h5
          have : Lib.keeps z.toArray m = false := Lib.keeps_neg hm0 (by rw [hget, hp]; exact e2)
          rw [hk] at this; exact absurd this (by decide)
        · rw [List.mem_append, h2, htake, List.mem_append]
        · show x ≤ z.toArray[m + 1 - 1]!
          rw [Nat.add_sub_cancel, hget]
          rcases List.mem_append.1 hx with hx | hx
          · exact hlast x hx
          · rw [List.mem_singleton.1 hx]; exact Int.le_refl _
      | false =>
        simp only [Bool.false_eq_true, if_false, List.append_nil]
        refine ⟨h1, fun x => ?_, fun x hx _ => ?_⟩
        · rw [h2, htake, List.mem_append]
          constructor
          · exact Or.inl
          · rintro (h | h)
            · exact h
            · rw [List.mem_singleton] at h
              have hm0 : 0 < m := by
                rcases Nat.eq_zero_or_pos m with e0 | h0
                · subst e0; rw [Lib.keeps_lt_one _ 0 (by omega)] at hk; exact absurd hk (by decide)
                · exact h0
              have hp : z.toArray[m - 1]! = z[m - 1] := by simp [show m - 1 < z.length by omega]
              have e2 : z[m] = z[m - 1] := by
                by_cases e : z[m] = z[m - 1]
                · exact e
                · have : Lib.keeps z.toArray m = true := Lib.keeps_pos (by rw [hget, hp]; exact e)
                  rw [hk] at this; exact absurd this (by decide)
              rw [h, e2]
              have : z[m - 1] = (z.take m)[m - 1]'(by simp; omega) := by rw [List.getElem_take]
              rw [this]; exact List.getElem_mem _
        · show x ≤ z.toArray[m + 1 - 1]!
          rw [Nat.add_sub_cancel, hget]
          exact hlast x hx
  obtain ⟨h1, h2, _⟩ := key z.length (Nat.le_refl _)
  exact ⟨h1, fun x => by rw [show Lib.compact z = Lib.compactUpTo z.toArray z.length from rfl, h2, List.take_length]⟩
theorem nearS_spec (d : Int) (ls : List LkZ) : (nearS d ls).Pairwise (· < ·) ∧ ∀ x, x ∈ nearS d ls ↔ x ∈ nearL d ls := by
  have hs : ((nearL d ls).mergeSort fun x y => decide (x ≤ y)).Pairwise (· ≤ ·) := by
    have := List.pairwise_mergeSort (le := fun (x y : Int) => decide (x ≤ y)) (fun a b c h1 h2 => by simp at h1 h2 ⊢; omega) (fun a b => by simp; omega) (nearL d ls)
    exact this.imp (fun h => by simpa using h)
  obtain ⟨h1, h2⟩ := compact_riseI hs
  exact ⟨h1, fun x => by rw [nearS, h2, List.mem_mergeSort]⟩
theorem nearS_len (d : Int) (ls : List LkZ) : (nearS d ls).length ≤ 2 * ls.length := by
  have h1 : (nearL d ls).length ≤ 2 * ls.length := by
    unfold nearL
    induction ls with
    | nil => simp
    | cons a t ih =>
      rw [List.flatMap_cons, List.length_append, List.length_cons]
      have : ((if a.1 = d then [a.2.2.1] else []) ++ (if a.2.2.1 = d then [a.1] else [])).length ≤ 2 := by
        split <;> split <;> simp
      omega
  have h2 : (nearS d ls).length ≤ (nearL d ls).length := by
    unfold nearS Lib.compact Lib.compactUpTo
    rw [List.length_map]
    exact Nat.le_trans (List.length_filter_le _ _) (by simp)
  omega
theorem near_mem {d e : Int} {ls : List LkZ} {x : LkZ} (hx : x ∈ ls) (h : (x.1 = e ∧ x.2.2.1 = d) ∨ (x.2.2.1 = e ∧ x.1 = d)) : e ∈ nearS d ls := by
  rw [(nearS_spec d ls).2]
  unfold nearL
  rw [List.mem_flatMap]
  refine ⟨x, hx, ?_⟩
  rcases h with ⟨h1, h2⟩ | ⟨h1, h2⟩
  · simp [h1, h2]
  · simp [h1, h2]
end Go.Proofs.YtebaopiedlioiaaGreatDoor
namespace Go.Proofs.YtebaopiedlioiaaGreatDoor
open Go.RowKit Go.Maps

/-- Block b is a map of sz entries: at a key that may be one, f says what it holds. -/
def MapOf (P : Program) (k e : TypeId) (w : World) (b sz : Nat) (f : Value → Option Int) : Prop :=
  ∃ D : DataW Unit, w.ownsMap P k (plainElem P e) b sz D ∧ Maps.size D = sz ∧
    ∀ key kl, keyOf P k key = some kl → Maps.has D kl = (f key).isSome ∧ ∀ c, f key = some c → D.atKey kl (.lit (.int .i64 0)) = .lit (.int .i64 c)

theorem owns_tight {P : Program} {k e : TypeId} {w : World} {b n : Nat} {D : DataW Unit} (h : w.ownsMap P k (plainElem P e) b n D) : w.ownsMap P k (plainElem P e) b (Maps.size D) D := by
  obtain ⟨es, clock, hb, F, _, rfl⟩ := h
  exact ⟨es, clock, hb, F, by simp [Maps.size, length_sorted], rfl⟩

theorem MapOf.lt {P : Program} {k e : TypeId} {w : World} {b sz : Nat} {f : Value → Option Int} (h : MapOf P k e w b sz f) : b < w.heap.size := by
  obtain ⟨D, h, _⟩ := h
  exact h.lt

theorem MapOf.congr {P : Program} {k e : TypeId} {w : World} {b sz : Nat} {f g : Value → Option Int} (h : MapOf P k e w b sz f) (hfg : ∀ key kl, keyOf P k key = some kl → f key = g key) : MapOf P k e w b sz g := by
  obtain ⟨D, h1, h2, h3⟩ := h
  refine ⟨D, h1, h2, fun key kl hk => ?_⟩
  rw [← hfg key kl hk]
  exact h3 key kl hk

/-- A block that is as it was. -/
theorem MapOf.same {P : Program} {k e : TypeId} {w w' : World} {b sz : Nat} {f : Value → Option Int} (h : MapOf P k e w b sz f) (hb : w'.heap[b]? = w.heap[b]?) : MapOf P k e w' b sz f := by
  obtain ⟨D, ⟨es, clock, h1, F, hs, hD⟩, h2, h3⟩ := h
  exact ⟨D, ⟨es, clock, hb.trans h1, F, hs, hD⟩, h2, h3⟩

theorem MapOf.new (P : Program) (k e : TypeId) (w : World) : MapOf P k e (w.alloc (.map #[] 0)) w.heap.size 0 (fun _ => none) :=
  ⟨.map [], World.ownsMap_made w P k _, rfl, fun key kl _ => ⟨by simp [Maps.has], fun c h => by cases h⟩⟩

theorem MapOf.look {P : Program} {k e t : TypeId} {w : World} {b sz : Nat} {f : Value → Option Int} (h : MapOf P k e w b sz f) (K : Keyed P k) (ht : P.underlying t = some (.map k e)) (he : P.underlying e = some (.int .i64))
    (hz : (zeroValue e).run P w = .ok (.int .i64 0) w) {key : Value} {kl : Lit} (hk : keyOf P k key = some kl) :
    (Instr.lookup t (.map (some b)) key true).run P w = .ok (.tuple #[.int .i64 ((f key).getD 0), .bool (f key).isSome]) w := by
  obtain ⟨D, h1, h2, h3⟩ := h
  obtain ⟨v, ps, hrun, hv⟩ := h1.look_ok K ht hz (zd := .lit (.int .i64 0)) (zp := []) (plainElem_int he (by decide)) hk
  obtain ⟨c, rfl, hc, hwc⟩ := plainElem_int_inv he hv
  obtain ⟨h4, h5⟩ := h3 key kl hk
  rw [hrun, h4]
  cases hf : f key with
  | none =>
    have : D.atKey kl (.lit (.int .i64 0)) = .lit (.int .i64 0) := Maps.atKey_of_not_has (by rw [h4, hf]; rfl) _
    have hc' := congrArg Prod.fst hc
    simp only [this] at hc'
    cases hc'
    rfl
  | some c' =>
    have := h5 c' hf
    have hc' := congrArg Prod.fst hc
    simp only [this] at hc'
    cases hc'
    rfl

theorem MapOf.look1 {P : Program} {k e t : TypeId} {w : World} {b sz : Nat} {f : Value → Option Int} (h : MapOf P k e w b sz f) (K : Keyed P k) (ht : P.underlying t = some (.map k e)) (he : P.underlying e = some (.int .i64))
    (hz : (zeroValue e).run P w = .ok (.int .i64 0) w) {key : Value} {kl : Lit} (hk : keyOf P k key = some kl) :
    (Instr.lookup t (.map (some b)) key false).run P w = .ok (.int .i64 ((f key).getD 0)) w := by
  obtain ⟨D, h1, h2, h3⟩ := h
  obtain ⟨c, hrun, hc, hwc⟩ := h1.lookup_int K ht he hz hk
  obtain ⟨h4, h5⟩ := h3 key kl hk
  rw [hrun]
  cases hf : f key with
  | none =>
    have : D.atKey kl (.lit (.int .i64 0)) = .lit (.int .i64 0) := Maps.atKey_of_not_has (by rw [h4, hf]; rfl) _
    rw [this] at hc
    cases hc
    rfl
  | some c' =>
    rw [h5 c' hf] at hc
    cases hc
    rfl

theorem MapOf.len {P : Program} {k e t : TypeId} {w : World} {b sz : Nat} {f : Value → Option Int} (h : MapOf P k e w b sz f) (ht : P.underlying t = some (.map k e)) (ty : TypeId) :
    (Builtin.len_ #[t] ty #[.map (some b)]).run P w = .ok (.int .i64 sz) w := by
  obtain ⟨D, h1, h2, h3⟩ := h
  rw [h1.len ht ty, h2]

/-- f' is f but for one key. -/
def Upd (f : Value → Option Int) (key : Value) (c : Option Int) (f' : Value → Option Int) : Prop := f' key = c ∧ ∀ x, x ≠ key → f' x = f x
theorem upd_exists (f : Value → Option Int) (key : Value) (c : Option Int) : ∃ f', Upd f key c f' := by
  classical
  exact ⟨fun x => if x = key then c else f x, if_pos rfl, fun x hx => if_neg hx⟩

/-- Behind a store. -/
theorem mapOf_put {P : Program} {k e : TypeId} {w w' : World} {b sz : Nat} {f : Value → Option Int} (K : Keyed P k) {D : DataW Unit} (h1 : w.ownsMap P k (plainElem P e) b sz D) (h2 : Maps.size D = sz)
    (h3 : ∀ key kl, keyOf P k key = some kl → Maps.has D kl = (f key).isSome ∧ ∀ c, f key = some c → D.atKey kl (.lit (.int .i64 0)) = .lit (.int .i64 c)) {key : Value} {kl : Lit} (hk : keyOf P k key = some kl) {c : Int}
    (h4 : w'.ownsMap P k (plainElem P e) b (sz + 1) (D.put kl (.lit (.int .i64 c)))) : ∀ f', Upd f key (some c) f' → MapOf P k e w' b (if (f key).isSome then sz else sz + 1) f' := by
  intro f' hf'
  have hs : Maps.size (D.put kl (.lit (.int .i64 c))) = if (f key).isSome then sz else sz + 1 := by
    rw [Maps.size_put (h1.tidy K), (h3 key kl hk).1, h2]
  refine ⟨D.put kl (.lit (.int .i64 c)), ?_, hs, ?_⟩
  · have := owns_tight h4
    rw [hs] at this
    exact this
  · intro key' kl' hk'
    by_cases e1 : key' = key
    · subst e1
      have : kl' = kl := by rw [hk] at hk'; cases hk'; rfl
      subst this
      rw [hf'.1]
      refine ⟨by rw [Maps.has_put_same h1.isMap (K.key hk)]; rfl, ?_⟩
      intro c' hc'
      cases hc'
      exact Maps.atKey_put_same h1.isMap (K.key hk) _ _
    · have hne : kl' ≠ kl := fun e2 => e1 (K.inj hk' (by rw [e2]; exact hk))
      rw [hf'.2 _ e1, Maps.has_put_other hne, Maps.atKey_put_other hne]
      exact h3 key' kl' hk'

theorem wpList_store_of {P : Program} (w : World) {ops : Array Oper} {rest : List Oper} {o : Oper} {a : Act} {Q : Exit → Act → World → Prop}
    (hg : o.guard = none) (m x v : Operand) (t : TypeId) (hop : o.op = Op.mapUpdate t m x v)
    (k e : TypeId) (K : Keyed P k) (ht : P.underlying t = some (.map k e)) (he : P.underlying e = some (.int .i64)) (b sz : Nat) (f : Value → Option Int)
    (hm : a.eval m = .map (some b)) (hown : MapOf P k e w b sz f) (hn : sz < maxLen) (key : Value) (c : Int) (kl : Lit) (hx : a.eval x = key) (hv : a.eval v = .int .i64 c) (hkey : keyOf P k key = some kl) (hc : (Lit.int .i64 c).wf = true)
    (hK : ∀ w', (∀ f', Upd f key (some c) f' → MapOf P k e w' b (if (f key).isSome then sz else sz + 1) f') → w.grownBy w' (some b) → wpList P ops Q rest (a.put o.dst undef) w') :
    wpList P ops Q (o :: rest) a w := by
  obtain ⟨D, h1, h2, h3⟩ := hown
  refine wpList_mapUpdate_own w hg m x v t hop k e K ht (plainElem P e) b sz D hm h1 hn key (.int .i64 c) kl hx hv hkey (.lit (.int .i64 c)) [] (plainElem_int he hc) ?_
  intro w' h4 h5
  exact hK w' (mapOf_put K h1 h2 h3 hkey h4) h5

theorem wpList_delete_of {P : Program} (w : World) {ops : Array Oper} {rest : List Oper} {o : Oper} {a : Act} {Q : Exit → Act → World → Prop}
    (hg : o.guard = none) (m x : Operand) (t k : TypeId) (hop : o.op = Op.call { callee := Callee.builtin Builtin.delete, args := #[m, x], argTypes := #[t, k] })
    (e : TypeId) (K : Keyed P k) (ht : P.underlying t = some (.map k e)) (b sz : Nat) (f : Value → Option Int)
    (hm : a.eval m = .map (some b)) (hown : MapOf P k e w b sz f) (key : Value) (kl : Lit) (hx : a.eval x = key) (hkey : keyOf P k key = some kl)
    (hK : ∀ w', (∀ f', Upd f key none f' → MapOf P k e w' b (if (f key).isSome then sz - 1 else sz) f') → w.grownBy w' (some b) → wpList P ops Q rest (a.put o.dst (.tuple #[])) w') :
    wpList P ops Q (o :: rest) a w := by
  obtain ⟨D, h1, h2, h3⟩ := hown
  refine wpList_delete_own w hg m x t k hop e K ht (plainElem P e) b sz D hm h1 key kl hx hkey ?_
  intro w' h4 h5
  refine hK w' (fun f' hf' => ?_) h5.grown
  have hs : Maps.size (D.del kl) = if (f key).isSome then sz - 1 else sz := by
    have := Maps.size_del (k := kl) (h1.tidy K)
    rw [(h3 key kl hkey).1, h2] at this
    split at this
    · rename_i hh; rw [if_pos hh]; omega
    · rename_i hh; rw [if_neg hh]; omega
  refine ⟨D.del kl, ?_, hs, ?_⟩
  · have := owns_tight h4
    rw [hs] at this
    exact this
  · intro key' kl' hk'
    by_cases e1 : key' = key
    · subst e1
      have : kl' = kl := by rw [hkey] at hk'; cases hk'; rfl
      subst this
      rw [hf'.1]
      exact ⟨by rw [Maps.has_del_same]; rfl, fun c' hc' => by cases hc'⟩
    · have hne : kl' ≠ kl := fun e2 => e1 (K.inj hk' (by rw [e2]; exact hkey))
      rw [hf'.2 _ e1, Maps.has_del_other hne, Maps.atKey_del_other hne]
      exact h3 key' kl' hk'
end Go.Proofs.YtebaopiedlioiaaGreatDoor
namespace Go.Proofs.YtebaopiedlioiaaGreatDoor
open Go.RowKit Go.Maps

theorem MapOf.put_runU {P : Program} {k e t : TypeId} {w : World} {b sz : Nat} {f : Value → Option Int} (h : MapOf P k e w b sz f) (K : Keyed P k) (ht : P.underlying t = some (.map k e)) (he : P.underlying e = some (.int .i64)) (hn : sz < maxLen)
    {key : Value} {kl : Lit} (hk : keyOf P k key = some kl) {c : Int} (hc : (Lit.int .i64 c).wf = true) :
    ∃ w', (Instr.mapUpdate t (.map (some b)) key (.int .i64 c)).run P w = .ok () w' ∧ (∀ f', Upd f key (some c) f' → MapOf P k e w' b (if (f key).isSome then sz else sz + 1) f') ∧ w.grownBy w' (some b) := by
  obtain ⟨D, h1, h2, h3⟩ := h
  obtain ⟨w', hrun, r1, r2⟩ := h1.update K ht hn hk (val := .int .i64 c) (d := .lit (.int .i64 c)) (ps := []) (plainElem_int he hc)
  exact ⟨w', hrun, mapOf_put K h1 h2 h3 hk r1, r2⟩
theorem setBlock_at {w : World} {b : Nat} (hb : b < w.heap.size) (o : Obj) : (ChangeMaps.setBlock w b o).heap[b]? = some o := by
  unfold ChangeMaps.setBlock
  simp [hb]
theorem setBlock_grown (w : World) (b : Nat) (o : Obj) : w.grownBy (ChangeMaps.setBlock w b o) (some b) := by
  refine ⟨rfl, rfl, rfl, by simp [ChangeMaps.setBlock], fun i _ hne => ?_⟩
  show (w.heap.setIfInBounds b o)[i]? = _
  rw [Array.getElem?_setIfInBounds_ne (fun q => hne (by rw [q]))]
theorem setBlock_two (w : World) (b : Nat) (o o' : Obj) : ChangeMaps.setBlock (ChangeMaps.setBlock w b o) b o' = ChangeMaps.setBlock w b o' := by
  unfold ChangeMaps.setBlock
  simp [Array.setIfInBounds_setIfInBounds]

theorem MapOf.entry {P : Program} {k e t : TypeId} {w : World} {b sz : Nat} {f : Value → Option Int} (h : MapOf P k e w b sz f) (KL : WideMaps.KeyLaw P k) (ht : P.underlying t = some (.map k e)) (he : P.underlying e = some (.int .i64)) (hz : ∀ u : World, (zeroValue e).run P u = .ok (.int .i64 0) u) (hn : sz < maxLen)
    {key : Value} {kl : Lit} (hk : keyOf P k key = some kl) :
    ∃ v0 st w1, (Instr.mapEntry t (.map (some b)) key).run P w = .ok (.tuple #[v0, goInt st]) w1 ∧ w.grownBy w1 (some b) ∧
      (Instr.lookup t (.map (some b)) key false).run P w1 = .ok (.int .i64 ((f key).getD 0)) w1 ∧
      ∀ c : Int, (Lit.int .i64 c).wf = true → ∃ w2, (Instr.entryStore t (.map (some b)) (goInt st) (.int .i64 c)).run P w1 = .ok () w2 ∧ (∀ f', Upd f key (some c) f' → MapOf P k e w2 b (if (f key).isSome then sz else sz + 1) f') ∧ w.grownBy w2 (some b) := by
  have K := Keyed.of_law KL
  have h0 := h
  obtain ⟨D, ⟨es, clock, hb, F, hs, hD⟩, h2, h3⟩ := h
  obtain ⟨v0, st, es1, clock1, hrun, hor, hst⟩ := WideElems.entry_then_store KL ht hz hb F hk
  have hlt : b < w.heap.size := h0.lt
  refine ⟨v0, st, ChangeMaps.setBlock w b (.map es1 clock1), hrun, setBlock_grown _ _ _, ?_, fun c hc => ?_⟩
  · rcases KL.find w hk es.toList F.keys with ⟨q1, q2⟩ | ⟨j, e0, q1, q2, q3⟩
    · have r1 : (Instr.mapEntry t (.map (some b)) key).run P w = .ok (.tuple #[.int .i64 0, goInt clock]) (ChangeMaps.setBlock w b (.map (es.push ⟨key, .int .i64 0, clock⟩) (clock + 1))) := by
        simp [Instr.mapEntry, run_underlying ht, MapKept.run_getObj_map hb, KL.check w false hk, q1, hz, MapKept.run_setObj_map _ hb, Result.andThen, ChangeMaps.setBlock]
      have r2 : (Instr.mapUpdate t (.map (some b)) key (.int .i64 0)).run P w = .ok () (ChangeMaps.setBlock w b (.map (es.push ⟨key, .int .i64 0, clock⟩) (clock + 1))) := by
        simp [Instr.mapUpdate, run_underlying ht, MapKept.run_getObj_map hb, KL.check w false hk, q1, MapKept.run_setObj_map _ hb, Result.andThen, ChangeMaps.setBlock]
      rw [r1] at hrun
      have ew : ChangeMaps.setBlock w b (.map es1 clock1) = ChangeMaps.setBlock w b (.map (es.push ⟨key, .int .i64 0, clock⟩) (clock + 1)) := by
        injection hrun with _ e2
        exact e2.symm
      obtain ⟨w', p1, p2, _⟩ := h0.put_runU K ht he hn hk (c := 0) (by decide)
      rw [r2] at p1
      have ew' : w' = ChangeMaps.setBlock w b (.map es1 clock1) := by
        injection p1 with _ e2
        rw [← e2, ew]
      obtain ⟨f', hf'⟩ := upd_exists f key (some 0)
      have M1 := p2 f' hf'
      rw [ew'] at M1
      have L1 := M1.look1 K ht he (hz _) hk
      rw [hf'.1] at L1
      have L0 := h0.look1 K ht he (hz _) hk
      have L00 : (Instr.lookup t (.map (some b)) key false).run P w = .ok (.int .i64 0) w := by
        simp [Instr.lookup, run_underlying ht, MapKept.run_getObj_map hb, KL.check w es.isEmpty hk, q1, hz, Result.andThen]
      rw [L00] at L0
      have e0 : (f key).getD 0 = 0 := by
        injection L0 with e1 _
        injection e1 with _ e3
        exact e3.symm
      rw [e0]
      exact L1
    · have hj : es[j]? = some e0 := by simpa using q2
      have hsame : es.modify j (fun e => { e with key := key }) = es := by
        apply Array.ext'
        rw [Array.toList_modify, ChangeMaps.modify_eq_set _ _ _ _ q2]
        have : ({ e0 with key := key } : MapEntry) = e0 := by rw [← q3]
        rw [this]
        exact WideElems.set_self _ _ _ q2
      have r1 : (Instr.mapEntry t (.map (some b)) key).run P w = .ok (.tuple #[e0.val, goInt e0.born]) (ChangeMaps.setBlock w b (.map es clock)) := by
        simp [Instr.mapEntry, run_underlying ht, MapKept.run_getObj_map hb, KL.check w false hk, q1, hj, q3, KL.stays w hk, hsame, MapKept.run_setObj_map _ hb, Result.andThen, ChangeMaps.setBlock]
      rw [r1] at hrun
      have ew : ChangeMaps.setBlock w b (.map es1 clock1) = ChangeMaps.setBlock w b (.map es clock) := by
        injection hrun with _ e2
        exact e2.symm
      rw [ew]
      exact (h0.same ((setBlock_at hlt _).trans hb.symm)).look1 K ht he (hz _) hk
  · obtain ⟨es', clock', p1, p2⟩ := hst (ChangeMaps.setBlock w b (.map es1 clock1)) (.int .i64 c) (setBlock_at hlt _)
    rw [setBlock_two] at p1
    obtain ⟨w', q1, q2, q3⟩ := h0.put_runU K ht he hn hk hc
    rw [p2] at q1
    have ew' : w' = ChangeMaps.setBlock w b (.map es' clock') := by
      injection q1 with _ e2
      exact e2.symm
    rw [ew'] at q2 q3
    exact ⟨_, p1, q2, q3⟩
end Go.Proofs.YtebaopiedlioiaaGreatDoor
namespace Go.Proofs.YtebaopiedlioiaaGreatDoor
open Go.RowKit Go.Maps

theorem jKey : Keyed Tryz.prog 9 := string_keyed Tryz.underlying9
theorem jzero_int (w : World) : (zeroValue 3).run Tryz.prog w = .ok (.int .i64 0) w := by kernel_rfl
theorem jkey_str {s : List UInt8} (hs : s.length ≤ 1048576) : ∃ kl, keyOf Tryz.prog 9 (.string (tx s)) = some kl := by
  have hz : (tx s).size ≤ maxLen := by rw [tx_size]; unfold maxLen; omega
  simp [keyOf, mapKey, Tryz.underlying9, hz]
/-- The number of a name: its place, from 1 on. -/
def numO (ns : List (List UInt8)) (s : List UInt8) : Option Int := if s ∈ ns then some ((ns.idxOf s : Int) + 1) else none
/-- The map of names. -/
def NumAt (w : World) (nb : Nat) (ns : List (List UInt8)) : Prop := ∃ f, MapOf Tryz.prog 9 3 w nb ns.length f ∧ ∀ s, f (.string (tx s)) = numO ns s
theorem NumAt.same {w w' : World} {nb : Nat} {ns : List (List UInt8)} (h : NumAt w nb ns) (hb : w'.heap[nb]? = w.heap[nb]?) : NumAt w' nb ns := by
  obtain ⟨f, h1, h2⟩ := h
  exact ⟨f, h1.same hb, h2⟩
theorem NumAt.lt {w : World} {nb : Nat} {ns : List (List UInt8)} (h : NumAt w nb ns) : nb < w.heap.size := by
  obtain ⟨f, h1, h2⟩ := h
  exact h1.lt
theorem NumAt.new (w : World) : NumAt (w.alloc (.map #[] 0)) w.heap.size [] := ⟨fun _ => none, MapOf.new _ _ _ w, fun s => by simp [numO]⟩
theorem NumAt.look {w : World} {nb : Nat} {ns : List (List UInt8)} (h : NumAt w nb ns) {s : List UInt8} (hs : s.length ≤ 1048576) : (Instr.lookup 107 (.map (some nb)) (.string (tx s)) false).run Tryz.prog w = .ok (.int .i64 ((numO ns s).getD 0)) w := by
  obtain ⟨f, h1, h2⟩ := h
  obtain ⟨kl, hkl⟩ := jkey_str hs
  have := h1.look1 jKey Tryz.underlying107 Tryz.underlying3 (jzero_int _) hkl
  rw [h2] at this
  exact this
theorem tx_injJ {a b : List UInt8} (h : Value.string (tx a) = .string (tx b)) : a = b := by
  injection h with h
  have := congrArg (fun b : ByteArray => b.data.toList) h
  simpa using this
theorem numO_snoc {ns : List (List UInt8)} {s : List UInt8} (hs : s ∉ ns) (t : List UInt8) : numO (ns ++ [s]) t = if t = s then some ((ns.length : Int) + 1) else numO ns t := by
  by_cases h : t = s
  · subst h
    rw [if_pos rfl]
    unfold numO
    rw [if_pos (by simp), List.idxOf_append, if_neg hs]
    simp
  · rw [if_neg h]
    unfold numO
    by_cases hm : t ∈ ns
    · rw [if_pos (by simp [hm]), if_pos hm, List.idxOf_append, if_pos hm]
    · rw [if_neg (by simp [hm, h]), if_neg hm]
theorem NumAt.put {w : World} {nb : Nat} {ns : List (List UInt8)} (h : NumAt w nb ns) {s : List UInt8} (hs : s.length ≤ 1048576) (hn : s ∉ ns) (hl : ns.length ≤ 1000) : ∃ w', (Instr.mapUpdate 107 (.map (some nb)) (.string (tx s)) (.int .i64 ((ns.length : Int) + 1))).run Tryz.prog w = .ok () w' ∧ NumAt w' nb (ns ++ [s]) ∧ w.grownBy w' (some nb) := by
  obtain ⟨f, h1, h2⟩ := h
  obtain ⟨kl, hkl⟩ := jkey_str hs
  obtain ⟨w', r1, r2, r3⟩ := h1.put_runU jKey Tryz.underlying107 Tryz.underlying3 (by unfold maxLen; omega) hkl (c := (ns.length : Int) + 1) (WalkArith.wf_i64 (by omega))
  refine ⟨w', r1, ?_, r3⟩
  obtain ⟨f', hf'⟩ := upd_exists f (.string (tx s)) (some ((ns.length : Int) + 1))
  have h3 := r2 f' hf'
  have h4 : f (.string (tx s)) = none := by rw [h2]; unfold numO; rw [if_neg hn]
  rw [h4] at h3
  refine ⟨f', by rw [List.length_append, List.length_singleton]; exact h3, fun t => ?_⟩
  rw [numO_snoc hn]
  by_cases ht : t = s
  · rw [if_pos ht, ht]; exact hf'.1
  · rw [if_neg ht, hf'.2 _ (fun q => ht (tx_injJ q)), h2]
end Go.Proofs.YtebaopiedlioiaaGreatDoor
namespace Go.Proofs.YtebaopiedlioiaaGreatDoor
open Go.RowKit Go.Maps

theorem Tryz.laidOutT : laidOutB Tryz.prog = true := by kernel_rfl
theorem tKeyL : WideMaps.KeyLaw Tryz.prog 95 := (deep_law_gate Tryz.laidOutT (of_decide_eq_true (by kernel_rfl)) (of_decide_eq_true (by kernel_rfl)) (by kernel_rfl) (by kernel_rfl))
theorem tKey : Keyed Tryz.prog 95 := Keyed.of_law tKeyL
/-- A key as a value. -/
abbrev kvt (p : Nat) (m : List UInt8) : Value := .agg #[.int .i64 p, .string (tx m)]
theorem tlits_int (d : Nat) {n : Nat} (h : n < 9223372036854775808) : Tryz.prog.keyLits (d + 1) 3 [.int .i64 (n : Int)] = some [.int .i64 (n : Int)] := by
  have hw : (Lit.int .i64 (n : Int)).wf = true := WalkArith.wf_i64 (by omega)
  unfold Program.keyLits
  simp [Tryz.underlying3, hw]
theorem tlits_str (d : Nat) (s : ByteArray) (hs : s.size ≤ maxLen) : ∃ b, Tryz.prog.keyLits (d + 1) 9 [.string s] = some [b] := by
  unfold Program.keyLits
  simp [Tryz.underlying9, hs]
theorem Tryz.ttypes_pos : ∃ d, Tryz.prog.types.size = d + 1 := ⟨Tryz.prog.types.size - 1, by have : 0 < Tryz.prog.types.size := of_decide_eq_true (by kernel_rfl); omega⟩
theorem Tryz.tcells_int : Tryz.prog.cellsOf 3 = 1 := by kernel_rfl
theorem Tryz.tcells_str : Tryz.prog.cellsOf 9 = 1 := by kernel_rfl
theorem Tryz.tcells_key : Tryz.prog.cellsOf 95 = 2 := by kernel_rfl
theorem tcells_agg2 (a b : Value) : (Value.agg #[a, b]).cells.toList = [a, b] := rfl
theorem key_end {p : Nat} {m : List UInt8} (hp : p < 9223372036854775808) (hm : m.length ≤ 1048576) : ∃ kl, keyOf Tryz.prog 95 (kvt p m) = some kl := by
  have hf : (kvt p m).formed Tryz.prog 95 = true := by kernel_rfl
  have hk : Tryz.prog.keyType 95 = true := by kernel_rfl
  obtain ⟨d, hd⟩ := Tryz.ttypes_pos
  have h1 := tlits_int d hp
  obtain ⟨b, h2⟩ := tlits_str d (tx m) (by rw [tx_size]; unfold maxLen; omega)
  unfold keyOf
  simp only [Tryz.underlying95, hf, hk, Bool.and_self, if_true]
  unfold Program.keyLits
  simp [Tryz.underlying95, tcells_agg2, Tryz.tcells_key, Tryz.tcells_int, Tryz.tcells_str, hd, h1, h2]
theorem kvt_inj {p p' : Nat} {m m' : List UInt8} (h : kvt p m = kvt p' m') : p = p' ∧ m = m' := by
  simp only [Value.agg.injEq, Array.mk.injEq, List.cons.injEq, Value.int.injEq, Value.string.injEq, true_and, and_true] at h
  refine ⟨by omega, ?_⟩
  have := congrArg (fun b : ByteArray => b.data.toList) h.2
  simpa using this
/-- The keys that have come, each once. -/
def TakAt (w : World) (mb : Nat) (ks : List (Nat × List UInt8)) : Prop := ∃ f, MapOf Tryz.prog 95 3 w mb ks.length f ∧ ∀ p m, (((p, m) ∈ ks → f (kvt p m) = some 1) ∧ ((p, m) ∉ ks → f (kvt p m) = none))
theorem TakAt.same {w w' : World} {mb : Nat} {ks : List (Nat × List UInt8)} (h : TakAt w mb ks) (hb : w'.heap[mb]? = w.heap[mb]?) : TakAt w' mb ks := by
  obtain ⟨f, h1, h2⟩ := h
  exact ⟨f, h1.same hb, h2⟩
theorem TakAt.lt {w : World} {mb : Nat} {ks : List (Nat × List UInt8)} (h : TakAt w mb ks) : mb < w.heap.size := by
  obtain ⟨f, h1, h2⟩ := h
  exact h1.lt
theorem TakAt.new (w : World) : TakAt (w.alloc (.map #[] 0)) w.heap.size [] := ⟨fun _ => none, MapOf.new _ _ _ w, fun p m => ⟨(fun h => absurd h (by simp)), fun _ => rfl⟩⟩
theorem tzero_int (w : World) : (zeroValue 3).run Tryz.prog w = .ok (.int .i64 0) w := by kernel_rfl


set_option maxHeartbeats 1000000 in
theorem otake {w : World} {mb : Nat} {ks : List (Nat × List UInt8)} (hK : TakAt w mb ks) (p : Nat) (m : List UInt8) (hp : p ≤ 2147483647) (hm : m.length ≤ 1048576) (hks : ks.length ≤ 1048576) :
    Calls Tryz.prog 79 #[.map (some mb), .agg #[.int .i64 p, .string (tx m)]] w fun en w' => en = .returned (.bool (decide ((p, m) ∉ ks))) ∧ ((p, m) ∉ ks → TakAt w' mb (ks ++ [(p, m)])) ∧ w.grownBy w' (some mb) := by
  obtain ⟨f, h1, h2⟩ := hK
  obtain ⟨kl, hkl⟩ := key_end (p := p) (m := m) (by omega) hm
  have hlt := h1.lt
  obtain ⟨W, hW⟩ : ∃ W, W = (w.alloc (eob p m)).drew := ⟨_, rfl⟩
  have hWb : W.heap[mb]? = w.heap[mb]? := by
    rw [hW]
    show (w.alloc (eob p m)).heap[mb]? = _
    rw [heap_old _ _ hlt]
  have M : MapOf Tryz.prog 95 3 W mb ks.length f := h1.same hWb
  have hl0 := M.look1 tKey Tryz.underlying109 Tryz.underlying3 (tzero_int _) hkl
  obtain ⟨v0, st, w1, r1, g1, r2, r3⟩ := M.entry tKeyL Tryz.underlying109 Tryz.underlying3 (fun u => tzero_int u) (by unfold maxLen; omega) hkl
  have hgW : w.grownBy W (some mb) := by rw [hW]; exact ⟨rfl, rfl, rfl, by show w.heap.size ≤ (w.alloc _).heap.size; simp, fun i hi _ => by show (w.alloc (eob p m)).heap[i]? = _; rw [heap_old _ _ hi]⟩
  have hkb : W.heap[w.heap.size]? = some (eob p m) := by rw [hW]; exact new_0 _ _
  have hkb1 := block_grow hkb g1 (by omega)
  have hcell : ∀ u : World, u.heap[w.heap.size]? = some (eob p m) → u.cell? ⟨w.heap.size, 0, none⟩ = some (.int .i64 p) ∧ u.cell? ⟨w.heap.size, 1, none⟩ = some (.string (tx m)) := fun u hu => ⟨by rw [cell_at hu]; rfl, by rw [cell_at hu]; rfl⟩
  by_cases hin : (p, m) ∈ ks
  · have hf := (h2 p m).1 hin
    rw [hf] at hl0 r2
    simp only [Option.getD_some] at hl0 r2
    obtain ⟨w2, s1, s2, s3⟩ := r3 2 (by decide)
    obtain ⟨f', hf'⟩ := upd_exists f (kvt p m) (some 2)
    have M2 := s2 f' hf'
    have hl2 := M2.look1 tKey Tryz.underlying109 Tryz.underlying3 (tzero_int _) hkl
    rw [hf'.1] at hl2
    simp only [Option.getD_some] at hl2
    have hkb2 := block_grow hkb s3 (by omega)
    obtain ⟨a0, a1⟩ := hcell _ hkb
    obtain ⟨b0, b1⟩ := hcell _ hkb1
    obtain ⟨c0, c1⟩ := hcell _ hkb2
    have hd : decide ((p, m) ∉ ks) = false := by simp [hin]
    rw [hd]
    have HR : Hid (((p, m) ∉ ks → TakAt w2 mb (ks ++ [(p, m)])) ∧ w.grownBy w2 (some mb)) := ⟨fun q => absurd hin q, grown_two hgW s3⟩
    have s1' : (Instr.entryStore 109 (.map (some mb)) (.int .i64 st) (.int .i64 2)).run Tryz.prog w1 = .ok () w2 := s1
    clear h1 h2 hkl hWb M r3 g1 hgW hkb hkb1 hcell hin hf s2 s3 hf' M2 hkb2 hd hks hp hm
    subst hW
    go_enter Tryz.func79, Tryz.ntmps79
    go_wp2_with fail
    go_region
    go_wp2
    go_ret
    exact ⟨rfl, HR.out⟩
  · have hf := (h2 p m).2 hin
    rw [hf] at hl0 r2
    simp only [Option.getD_none] at hl0 r2
    obtain ⟨w2, s1, s2, s3⟩ := r3 1 (by decide)
    obtain ⟨f', hf'⟩ := upd_exists f (kvt p m) (some 1)
    have M2 := s2 f' hf'
    have hl2 := M2.look1 tKey Tryz.underlying109 Tryz.underlying3 (tzero_int _) hkl
    rw [hf'.1] at hl2
    simp only [Option.getD_some] at hl2
    have hkb2 := block_grow hkb s3 (by omega)
    obtain ⟨a0, a1⟩ := hcell _ hkb
    obtain ⟨b0, b1⟩ := hcell _ hkb1
    obtain ⟨c0, c1⟩ := hcell _ hkb2
    have hd : decide ((p, m) ∉ ks) = true := by simp [hin]
    rw [hd]
    have HR : Hid (((p, m) ∉ ks → TakAt w2 mb (ks ++ [(p, m)])) ∧ w.grownBy w2 (some mb)) := by
      refine ⟨fun _ => ⟨f', ?_, fun p0 m0 => ⟨fun q => ?_, fun q => ?_⟩⟩, grown_two hgW s3⟩
      · rw [hf] at M2
        simpa using M2
      · by_cases e : (p0, m0) = (p, m)
        · obtain ⟨rfl, rfl⟩ := Prod.mk.inj e
          exact hf'.1
        · rw [hf'.2 _ (fun h => e (by obtain ⟨a, b⟩ := kvt_inj h; rw [a, b]))]
          refine (h2 p0 m0).1 ?_
          rcases List.mem_append.1 q with q | q
          · exact q
          · exact absurd (List.mem_singleton.1 q) e
      · have hne : (p0, m0) ≠ (p, m) := fun e => q (List.mem_append.2 (Or.inr (by rw [e]; simp)))
        rw [hf'.2 _ (fun h => hne (by obtain ⟨a, b⟩ := kvt_inj h; rw [a, b]))]
        exact (h2 p0 m0).2 (fun h => q (List.mem_append.2 (Or.inl h)))
    have s1' : (Instr.entryStore 109 (.map (some mb)) (.int .i64 st) (.int .i64 1)).run Tryz.prog w1 = .ok () w2 := s1
    clear h1 h2 hkl hWb M r3 g1 hgW hkb hkb1 hcell hin hf s2 s3 hf' M2 hkb2 hd hks hp hm
    subst hW
    go_enter Tryz.func79, Tryz.ntmps79
    go_wp2_with fail
    go_region
    go_wp2
    go_ret
    exact ⟨rfl, HR.out⟩
end Go.Proofs.YtebaopiedlioiaaGreatDoor
