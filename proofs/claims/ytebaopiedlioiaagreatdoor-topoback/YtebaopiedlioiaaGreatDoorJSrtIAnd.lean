/-
  The law TopoEnds: the peer of a port's peer is that port, and devices are next to one another both ways.
  The law's own run: alive.
  The law's own topology: what it is parsed as.
  Numbers in order, each once. Plain mathematics: no program is named here.
  topo.Near of any links.
  slices.Sort and slices.Compact over a row of numbers: in order, each once.
-/
import Derived.Test.YtebaopiedlioiaaGreatDoorWRefSAnd
import Derived.Test.YtebaopiedlioiaaGreatDoorNLay
import Derived.Test.YtebaopiedlioiaaGreatDoorJInsAnd
import Derived.Deep.DeepCutAuto
import Derived.Deep.AppendLies
import Derived.Test.YtebaopiedlioiaaGreatDoorJParBAnd
import Derived.Test.YtebaopiedlioiaaGreatDoorJDocKAnd
namespace Go.Proofs.YtebaopiedlioiaaGreatDoor
open Go.RowKit Go.Sort Go.Lib

theorem Tryz.fSortI : Tryz.laysSortI_ren.f 189 = 51 := by kernel_rfl
theorem Tryz.fCompactI : Tryz.laysCompactI_ren.f 20 = 52 := by kernel_rfl

/-- A block of numbers, of which the first are these. -/
def IntAt (w : World) (g : Nat) (zs : List Int) : Prop := ∃ cs, w.heap[g]? = some (.cells cs 3 (0, 0)) ∧ ∀ (i : Nat) (z : Int), zs[i]? = some z → cs[i]? = some (.int .i64 z)
theorem IntAt.cell {w : World} {g : Nat} {zs : List Int} (h : IntAt w g zs) {i : Nat} {z : Int} (hz : zs[i]? = some z) : w.cell? ⟨g, i, none⟩ = some (.int .i64 z) := by
  obtain ⟨cs, h1, h2⟩ := h
  rw [cell_at h1]; exact h2 i z hz
theorem IntAt.lt {w : World} {g : Nat} {zs : List Int} (h : IntAt w g zs) : g < w.heap.size := by
  obtain ⟨cs, h1, h2⟩ := h
  exact lt_of_block h1
theorem IntAt.holds {w : World} {g : Nat} {zs : List Int} (h : IntAt w g zs) : Holds (Value.int .i64) w g 0 zs.toArray := by
  intro j hj
  simp only [List.size_toArray] at hj
  obtain ⟨cs, h1, h2⟩ := h
  refine ⟨?_, free_of h1⟩
  rw [Nat.zero_add, cell_at h1, h2 j zs[j] (List.getElem?_eq_getElem hj)]
  simp [hj]
theorem IntAt.put {w : World} {g : Nat} {zs ys : List Int} (h : IntAt w g zs) (hl : ys.length = zs.length) (n : Nat) : IntAt (putRow (Value.int .i64) (Sort.ahead w n) g 0 ys.toArray) g ys := by
  obtain ⟨cs, h1, h2⟩ := h
  have hc : ∀ (i : Nat) (z : Int), ys[i]? = some z → i < cs.size := fun i z hz => by
    have hi : i < zs.length := by have := (List.getElem?_eq_some_iff.1 hz).1; omega
    exact (Array.getElem?_eq_some_iff.1 (h2 i zs[i] (List.getElem?_eq_getElem hi))).1
  refine ⟨putCells (Value.int .i64) 0 ys.toArray cs, ?_, fun i z hz => ?_⟩
  · show (mapBlock (Sort.ahead w n) g (putCells (Value.int .i64) 0 ys.toArray)).heap[g]? = _
    have h1' : (Sort.ahead w n).heap[g]? = some (.cells cs 3 (0, 0)) := h1
    unfold mapBlock
    simp only [Array.getElem?_modify, h1', if_true, Option.map_some]
    rfl
  · have hi := hc i z hz
    have hiy : i < ys.length := (List.getElem?_eq_some_iff.1 hz).1
    unfold putCells
    rw [Array.getElem?_mapIdx, Array.getElem?_eq_getElem hi]
    simp only [Option.map_some, Nat.zero_le, Nat.zero_add, List.size_toArray, hiy, and_self, if_true, Nat.sub_zero]
    have : ys.toArray[i]! = z := by
      rw [List.getElem?_eq_getElem hiy] at hz
      simp only [Option.some.injEq] at hz
      simp [hiy, hz]
    rw [this]
theorem put_grownI (w : World) (g n : Nat) (ys : List Int) (os : Array Obj) : w.grownBy (Sort.grow (putRow (Value.int .i64) (Sort.ahead w n) g 0 ys.toArray) os) (some g) := by
  refine ⟨rfl, rfl, rfl, by simp [Sort.grow, putRow, mapBlock, Sort.ahead], fun i hi hne => ?_⟩
  have hne' : i ≠ g := fun e => hne (by rw [e])
  have hsz : i < (putRow (Value.int .i64) (Sort.ahead w n) g 0 ys.toArray).heap.size := by rw [size_putRow]; exact hi
  show ((putRow (Value.int .i64) (Sort.ahead w n) g 0 ys.toArray).heap ++ os)[i]? = _
  rw [Array.getElem?_append_left hsz]
  show (mapBlock (Sort.ahead w n) g _).heap[i]? = _
  unfold mapBlock
  simp only [Array.getElem?_modify]
  rw [if_neg (fun e => hne' e.symm)]
  rfl
theorem IntAt.grow {w : World} {g : Nat} {zs : List Int} (h : IntAt w g zs) (os : Array Obj) : IntAt (Sort.grow w os) g zs := by
  obtain ⟨cs, h1, h2⟩ := h
  refine ⟨cs, ?_, h2⟩
  show (w.heap ++ os)[g]? = _
  rw [Array.getElem?_append_left (lt_of_block h1)]
  exact h1

theorem sort_ints {w : World} {g : Nat} {zs : List Int} (h : IntAt w g zs) (cap : Nat) (hz : zs.length ≤ 1048576) :
    Calls Tryz.prog 51 #[.slice (some ⟨g, 0, none⟩) zs.length cap] w fun e w' => e = .returned (.tuple #[]) ∧ IntAt w' g (zs.mergeSort fun x y => decide (x ≤ y)) ∧ w.grownBy w' (some g) := by
  have := Any.slices_Sort_int Tryz.laysSortI g 0 cap zs w h.holds h.lt (by omega)
  rw [Tryz.fSortI] at this
  refine this.mono ?_
  rintro e w' ⟨rfl, n, os, rfl⟩
  exact ⟨rfl, (h.put (by simp) n).grow os, put_grownI _ _ _ _ _⟩

theorem compact_ints {w : World} {g : Nat} {zs : List Int} (h : IntAt w g zs) (cap : Nat) (hz : zs.length ≤ 1048576) (hc : zs.length ≤ cap) :
    Calls Tryz.prog 52 #[.slice (some ⟨g, 0, none⟩) zs.length cap] w fun e w' => e = .returned (.slice (some ⟨g, 0, none⟩) (Lib.compact zs).length cap) ∧ IntAt w' g (Lib.compact zs) ∧ w.grownBy w' (some g) := by
  have := Any.slices_Compact_int Tryz.laysCompactI g 0 cap zs w h.holds (by omega) hc
  rw [Tryz.fCompactI] at this
  refine this.mono ?_
  rintro e w' ⟨rfl, q, rfl⟩
  have hle : (Lib.compact zs).length ≤ zs.length := by
    unfold Lib.compact Lib.compactUpTo
    rw [List.length_map]
    exact Nat.le_trans (List.length_filter_le _ _) (by simp)
  have hp := h.put (ys := Lib.compact zs ++ List.replicate (zs.length - (Lib.compact zs).length) 0) (by simp; omega) q
  refine ⟨rfl, ?_, ?_⟩
  · obtain ⟨cs, h1, h2⟩ := hp
    exact ⟨cs, h1, fun i z hi => h2 i z (by rw [List.getElem?_append_left (List.getElem?_eq_some_iff.1 hi).1]; exact hi)⟩
  · have := put_grownI w g q (Lib.compact zs ++ List.replicate (zs.length - (Lib.compact zs).length) 0) #[]
    rwa [Sort.grow_empty] at this
set_option maxRecDepth 20000 in
set_option maxHeartbeats 2000000 in
theorem insert_nilI (w : World) : Calls Tryz.prog 114 #[.slice none 0 0, .int .i64 0, .int .i64 0] w fun e w' => e = .returned (.tuple #[]) ∧ w' = w := by
  go_enter Tryz.func114, Tryz.ntmps114
  go_wp2_with fail
  go_loopw [6] (fun x wr => x = .int .i64 1 ∧ wr = w) (fun _ _ => 0)
  case atStart => exact ⟨rfl, rfl⟩
  case round =>
    obtain ⟨rfl, rfl⟩ := hrel
    go_wp2
    exact bodyPost_end (v := .tuple #[]) (by simp [results, Tryz.results114, go_sem]) rfl ⟨rfl, rfl⟩
/-- A number, whatever it is. -/
def LenPI (w : World) (e : Ending) (w' : World) : Prop := ∃ k : Int, e = .returned (.int .i64 k) ∧ w' = w
set_option maxRecDepth 20000 in
set_option maxHeartbeats 2000000 in
theorem pdq_nilI (w : World) (n : Int) : Calls Tryz.prog 87 #[.slice none 0 0, .int .i64 0, .int .i64 0, .int .i64 n] w fun e w' => e = .returned (.tuple #[]) ∧ w' = w := by
  have HI := hid (fun W => insert_nilI W)
  go_enter Tryz.func87, Tryz.ntmps87
  go_wp2_with fail
  go_loopw [1, 2] (fun a b wr => a = .int .i64 0 ∧ b = .int .i64 0 ∧ wr = w) (fun _ _ _ => 0)
  case atStart => exact ⟨rfl, rfl, rfl⟩
  case round =>
    obtain ⟨rfl, rfl, rfl⟩ := hrel
    go_wp2_with fail
    refine (HI.out _).mono ?_
    rintro en w1 ⟨rfl, rfl⟩
    go_wp2
    exact bodyPost_ret (v := .tuple #[]) (by simp [results, Tryz.results87, go_sem]) rfl ⟨rfl, rfl⟩
set_option maxRecDepth 20000 in
set_option maxHeartbeats 2000000 in
theorem len64_zeroI (w : World) : Calls Tryz.prog 124 #[.int .u64 0] w fun e w' => LenPI w e w' := by
  go_enter Tryz.func124, Tryz.ntmps124
  go_wp2
  exact bodyPost_ret (v := .int .i64 (wrap64 (wrap64 (Lib.len8 0)))) (by simp [results, Tryz.results124, go_sem]) rfl ⟨_, rfl, rfl⟩
set_option maxRecDepth 20000 in
set_option maxHeartbeats 2000000 in
theorem len_zeroI (w : World) : Calls Tryz.prog 88 #[.int .u64 0] w fun e w' => LenPI w e w' := by
  have HL := hid (fun W => len64_zeroI W)
  go_enter Tryz.func88, Tryz.ntmps88
  go_wp2_with fail
  refine (HL.out _).mono ?_
  rintro en w1 ⟨k, rfl, rfl⟩
  go_wp2
  exact bodyPost_ret (v := .int .i64 k) (by simp [results, Tryz.results88, go_sem]) rfl ⟨k, rfl, rfl⟩
set_option maxRecDepth 20000 in
set_option maxHeartbeats 2000000 in
theorem sort_nilI (w : World) : Calls Tryz.prog 51 #[.slice none 0 0] w fun e w' => e = .returned (.tuple #[]) ∧ w' = w := by
  have HP := hid (fun W n => pdq_nilI W n)
  have HL := hid (fun W => len_zeroI W)
  go_enter Tryz.func51, Tryz.ntmps51
  go_wp2_with fail
  refine (HL.out _).mono ?_
  rintro en w1 ⟨k, rfl, rfl⟩
  go_wp2_with fail
  refine (HP.out _ _).mono ?_
  rintro en w1 ⟨rfl, rfl⟩
  go_wp2
  exact bodyPost_end (v := .tuple #[]) (by simp [results, Tryz.results51, go_sem]) rfl ⟨rfl, rfl⟩
set_option maxRecDepth 20000 in
set_option maxHeartbeats 2000000 in
theorem compact_nilI (w : World) : Calls Tryz.prog 52 #[.slice none 0 0] w fun e w' => e = .returned (.slice none 0 0) ∧ w' = w := by
  go_enter Tryz.func52, Tryz.ntmps52
  go_wp2
  exact bodyPost_ret (v := .slice none 0 0) (by simp [results, Tryz.results52, go_sem]) rfl ⟨rfl, rfl⟩
end Go.Proofs.YtebaopiedlioiaaGreatDoor
namespace Go.Proofs.YtebaopiedlioiaaGreatDoor
open Go.RowKit

/-- The devices at the other ends, as they come. -/
def nearL (d : Int) (ls : List LkZ) : List Int := ls.flatMap fun l => (if l.1 = d then [l.2.2.1] else []) ++ (if l.2.2.1 = d then [l.1] else [])
abbrev numsJ (zs : List Int) : List Value := zs.map (Value.int .i64)

theorem Tryz.infoIntN : (Tryz.prog.info? 3).map (fun i => (i.zero, i.size, i.bytes)) = some (some (.int .i64 0), 1, 8) := by kernel_rfl
/-- The devices that were met among the first links, in a row of one's own. -/
structure NrI (w : World) (d : Int) (ls : List LkZ) (k : Nat) (v : Value) (m : Nat) (wr : World) : Prop where
  row : wr.ownsRow w.heap.size 3 1 v m (numsJ (nearL d (ls.take k)))
  len : m ≤ 2 * k
  below : Below w.heap.size w wr
theorem nearL_snoc (d : Int) {ls : List LkZ} {k : Nat} {a b : Int} {p q : List UInt8} (h : ls[k]? = some (a, p, b, q)) : numsJ (nearL d (ls.take (k + 1))) = numsJ (nearL d (ls.take k)) ++ (numsJ (if a = d then [b] else []) ++ numsJ (if b = d then [a] else [])) := by
  have hk := (List.getElem?_eq_some_iff.1 h).1
  have hg : ls[k] = (a, p, b, q) := by rw [List.getElem?_eq_getElem hk] at h; exact Option.some.inj h
  rw [List.take_succ_eq_append_getElem hk, hg]
  unfold nearL numsJ
  rw [List.flatMap_append]
  simp
/-- The devices next to one, rising, each once. -/
def nearS (d : Int) (ls : List LkZ) : List Int := Lib.compact ((nearL d ls).mergeSort fun x y => decide (x ≤ y))
/-- A row of numbers as it is told. -/
def NumsV (w : World) (v : Value) (zs : List Int) : Prop := (zs = [] ∧ v = .slice none 0 0) ∨ ∃ g cap, v = .slice (some ⟨g, 0, none⟩) zs.length cap ∧ IntAt w g zs
theorem own_ints {w : World} {B : Nat} {v : Value} {m : Nat} {zs : List Int} (h : w.ownsRow B 3 1 v m (numsJ zs)) : m = zs.length ∧ ((zs = [] ∧ v = .slice none 0 0) ∨ ∃ g cap, v = .slice (some ⟨g, 0, none⟩) zs.length cap ∧ B ≤ g ∧ IntAt w g zs ∧ zs.length ≤ cap) := by
  have hm : m = zs.length := by have := h.1; simp at this; omega
  refine ⟨hm, ?_⟩
  rcases h.2 with ⟨rfl, e⟩ | ⟨g, cap, cur, rfl, hB, hh, hc, _, hz, ht⟩
  · left; exact ⟨List.eq_nil_of_length_eq_zero (by omega), rfl⟩
  · right
    refine ⟨g, cap, by rw [hm], hB, ⟨cur, hh, fun i z hi => ?_⟩, by omega⟩
    have hu : (numsJ zs)[i]? = some (.int .i64 z) := by unfold numsJ; rw [List.getElem?_map, hi]; rfl
    rw [← ht, List.getElem?_take] at hu
    split at hu
    · rw [Array.getElem?_toList] at hu; exact hu
    · cases hu

set_option maxRecDepth 20000 in
set_option maxHeartbeats 1000000 in
theorem oNear_any {w : World} {x0 x1 v : Value} {ls : List LkZ} (hL : LkV w v ls) (d : Int) (hlen : ls.length ≤ 500000) :
    Calls Tryz.prog 25 #[.agg #[x0, x1, v], .int .i64 d] w fun e w' => (∃ v, e = .returned v ∧ NumsV w' v (nearS d ls)) ∧ Below w.heap.size w w' := by
  obtain ⟨av, cap, rfl, hcell⟩ := hL.form
  obtain ⟨n, hn⟩ : ∃ n, ls.length = n := ⟨_, rfl⟩
  obtain ⟨i0, hi, hz0, hz1, hz2⟩ := info_parts Tryz.infoIntN
  have HI := hid hi
  have HZ0 := hid hz0
  have HZ1 := hid hz1
  have HZ2 := hid hz2
  clear hi hz0 hz1 hz2
  have HC := hid hcell
  have HN := hid hn
  rw [hn] at hlen ⊢
  clear hcell hn hL
  have I0 := hid (show NrI w d ls 0 (.slice none 0 0) 0 (w.alloc (.cells #[x0, x1, .slice av n cap] 25)) from ⟨World.ownsRow_nil _ _ _ _, Nat.le_refl _, (Below.refl _ _).alloc (Nat.le_refl _) _⟩)
  go_enter Tryz.func25, Tryz.ntmps25
  go_wp2_with fail
  go_loopw [5, 11] (fun x i wr => ∃ (k m : Nat) (ao : Option Addr) (c : Nat), k ≤ n ∧ i = .int .i64 k ∧ x = .slice ao m c ∧ Hid (NrI w d ls k (.slice ao m c) m wr)) (fun _ i _ => n - (intOf i).toNat)
  case atStart => exact ⟨0, 0, none, 0, Nat.zero_le _, rfl, rfl, I0⟩
  case round =>
    obtain ⟨k, m, ao, c, hk, rfl, rfl, hI⟩ := hrel
    by_cases hkn : k < n
    · have hkl : k < ls.length := by rw [HN.out]; exact hkn
      obtain ⟨⟨a, p, b, q⟩, hq⟩ : ∃ q, ls[k]? = some q := ⟨_, List.getElem?_eq_getElem hkl⟩
      obtain ⟨G, o, rfl, hG, hcells⟩ : ∃ G o, av = some ⟨G, o, none⟩ ∧ G < w.heap.size ∧ ∀ (i : Nat) (q : LkZ), ls[i]? = some q → w.cell? ⟨G, o + i * 4, none⟩ = some (.int .i64 q.1) ∧ w.cell? ⟨G, o + i * 4 + 1, none⟩ = some (.string (tx q.2.1)) ∧ w.cell? ⟨G, o + i * 4 + 2, none⟩ = some (.int .i64 q.2.2.1) ∧ w.cell? ⟨G, o + i * 4 + 3, none⟩ = some (.string (tx q.2.2.2)) := by
        rcases HC.out with e | h
        · rw [e] at hkl; exact absurd hkl (Nat.not_lt_zero _)
        · exact h
      have hwr : ∀ i, i < w.heap.size → wr.heap[i]? = w.heap[i]? := fun i hi => hI.out.below.block i hi
      obtain ⟨z0, z1, z2, z3⟩ := hcells k _ hq
      have y0 := (World.cell?_of_block (a := ⟨G, o + k * 4, none⟩) (hwr G hG)).trans z0
      have y1 := (World.cell?_of_block (a := ⟨G, o + k * 4 + 1, none⟩) (hwr G hG)).trans z1
      have y2 := (World.cell?_of_block (a := ⟨G, o + k * 4 + 2, none⟩) (hwr G hG)).trans z2
      have y3 := (World.cell?_of_block (a := ⟨G, o + k * 4 + 3, none⟩) (hwr G hG)).trans z3
      simp only at y0 y1 y2 y3
      have HSN := hid (nearL_snoc d hq)
      have hkI : (k : Int) < (n : Int) := by omega
      have hk0 : (0 : Int) ≤ (k : Int) := by omega
      have hml := hI.out.len
      clear hcells z0 z1 z2 z3 hq hkl hwr
      obtain ⟨W1, hW1⟩ : ∃ W1, W1 = wr.alloc (.cells #[.int .i64 a, .string (tx p), .int .i64 b, .string (tx q)] 83) := ⟨_, rfl⟩
      have hb1 : Below wr.heap.size wr W1 := by rw [hW1]; exact (Below.refl _ _).alloc (Nat.le_refl _) _
      have hx1 : W1.heap[wr.heap.size]? = some (.cells #[.int .i64 a, .string (tx p), .int .i64 b, .string (tx q)] 83) := by rw [hW1]; exact new_0 _ _
      obtain ⟨kb, hkb⟩ : ∃ kb, kb = wr.heap.size := ⟨_, rfl⟩
      rw [← hkb] at hx1
      have HB1 := hid hb1
      have HX1 := hid hx1
      have HKB := hid hkb
      have r0 : W1.cell? ⟨kb, 0, none⟩ = some (.int .i64 a) := by rw [cell_at hx1]; rfl
      have r2 : W1.cell? ⟨kb, 2, none⟩ = some (.int .i64 b) := by rw [cell_at hx1]; rfl
      clear hx1 hb1
      obtain ⟨ba, hba⟩ : ∃ ba, (a == d) = ba := ⟨_, rfl⟩
      obtain ⟨bb, hbb⟩ : ∃ bb, (b == d) = bb := ⟨_, rfl⟩
      have HBA := hid (show (ba = true → a = d) ∧ (ba = false → ¬ a = d) from ⟨fun q => by rw [q] at hba; exact beq_iff_eq.1 hba, fun q => by rw [q] at hba; exact beq_eq_false_iff_ne.1 hba⟩)
      have HBB := hid (show (bb = true → b = d) ∧ (bb = false → ¬ b = d) from ⟨fun q => by rw [q] at hbb; exact beq_iff_eq.1 hbb, fun q => by rw [q] at hbb; exact beq_eq_false_iff_ne.1 hbb⟩)
      have hs1 : w.heap.size ≤ wr.heap.size := hI.out.below.size
      have HOW := hid (fun (ob : Obj) => (show (W1.alloc ob).ownsRow w.heap.size 3 1 (.slice ao m c) m (numsJ (nearL d (ls.take k))) from own_sameJ hI.out.row fun i r => by
        have hi := (hI.out.row.lt i r).2
        rw [Below.heap_alloc _ _ _ (by have := HB1.out.size; omega), HB1.out.block i hi]))
      have HBS := hid (show Below w.heap.size w W1 from by
        have h1 := hI.out.below
        have h2 := HB1.out
        exact ⟨h2.os.trans h1.os, h2.tape.trans h1.tape, h2.output.trans h1.output, Nat.le_trans h1.size h2.size, fun i hi => (h2.block i (by omega)).trans (h1.block i hi)⟩)
      have hsW : w.heap.size ≤ W1.heap.size := HBS.out.size
      have hkW : kb < W1.heap.size := lt_of_block HX1.out
      have hwk : w.heap.size ≤ kb := by rw [HKB.out]; exact hs1
      have hdk : (Value.slice ao m c).ownBlock ≠ some kb := fun r => by have := (hI.out.row.lt kb r).2; have := HKB.out; omega
      go_upto_region 5 with fail
      rw [← hW1, ← hkb]
      clear hW1 hkb
      go_upto_if 18 with fail
      go_cut [5] (fun x wz => ∃ (m' : Nat) (ao' : Option Addr) (c' : Nat), x = .slice ao' m' c' ∧ Hid (wz.ownsRow w.heap.size 3 1 (.slice ao' m' c') m' (numsJ (nearL d (ls.take k)) ++ numsJ (if a = d then [b] else [])) ∧ m' ≤ m + 1 ∧ Below w.heap.size w wz ∧ wz.heap[kb]? = some (.cells #[.int .i64 a, .string (tx p), .int .i64 b, .string (tx q)] 83)))
      case first =>
        cases ba with
        | true =>
          have HAD := hid (HBA.out.1 rfl)
          go_wp2_with (first | (at_builtin; refine wpList_append_lies _ rfl (.tmp 19) (.tmp 22) 52 rfl w.heap.size 3 i0 (.int .i64 0) 1 8 Tryz.underlying52 HI.out HZ0.out HZ1.out HZ2.out rfl (by decide) (.slice ao m c) m (numsJ (nearL d (ls.take k))) rfl (HOW.out _) ⟨W1.heap.size, 0, none⟩ 1 1 [.int .i64 b] rfl rfl (World.news_of_block (new_0 W1 _)) (by simp [Value.oneCell']) (by decide) (by unfold maxLen; omega) (by omega) (by simp only [World.size_alloc]; omega) (W1.heap.size + 1) (by simp) ?_; intro g1 cap1 w1 hown1 hgrow1 hat1 hlt1))
          go_meet
          refine ⟨m + 1, some ⟨g1, 0, none⟩, cap1, rfl, hid ⟨?_, Nat.le_refl _, ?_, ?_⟩⟩
          · rw [if_pos HAD.out]; exact hown1
          · refine ⟨hgrow1.os.trans HBS.out.os, hgrow1.tape.trans HBS.out.tape, hgrow1.output.trans HBS.out.output, by have := hgrow1.size; simp only [World.size_alloc] at this; omega, fun i hi => ?_⟩
            rw [hgrow1.block i (by simp only [World.size_alloc]; omega) (fun r => by have := (hI.out.row.lt i r.symm).1; omega), Below.heap_alloc _ _ _ (by omega), HBS.out.block i hi]
          · rw [hgrow1.block kb (by simp only [World.size_alloc]; omega) (fun r => hdk r.symm), Below.heap_alloc _ _ _ hkW, HX1.out]
        | false =>
          have HAD := hid (HBA.out.2 rfl)
          go_wp2_with fail
          go_meet
          refine ⟨m, ao, c, rfl, hid ⟨?_, by omega, HBS.out, HX1.out⟩⟩
          rw [if_neg HAD.out]
          have := own_sameJ (w' := W1) hI.out.row fun i r => HB1.out.block i (hI.out.row.lt i r).2
          simpa using this
      case rest =>
        obtain ⟨m', ao', c', rfl, hC⟩ := hcut
        have hm' := hC.out.2.1
        have hxc := hC.out.2.2.2
        have q0 : wc.cell? ⟨kb, 0, none⟩ = some (.int .i64 a) := by rw [cell_at hxc]; rfl
        have q2 : wc.cell? ⟨kb, 2, none⟩ = some (.int .i64 b) := by rw [cell_at hxc]; rfl
        have hkc : kb < wc.heap.size := lt_of_block hxc
        have hsc : w.heap.size ≤ wc.heap.size := hC.out.2.2.1.size
        have HOC := hid (fun (ob : Obj) => (show (wc.alloc ob).ownsRow w.heap.size 3 1 (.slice ao' m' c') m' (numsJ (nearL d (ls.take k)) ++ numsJ (if a = d then [b] else [])) from own_sameJ hC.out.1 fun i r => by
          have hi := (hC.out.1.lt i r).2
          rw [Below.heap_alloc _ _ _ (by omega)]))
        clear hxc r0 r2
        cases bb with
        | true =>
          have HAD := hid (HBB.out.1 rfl)
          go_wp2_with (first | (at_builtin; refine wpList_append_lies _ rfl (.tmp 28) (.tmp 31) 52 rfl w.heap.size 3 i0 (.int .i64 0) 1 8 Tryz.underlying52 HI.out HZ0.out HZ1.out HZ2.out rfl (by decide) (.slice ao' m' c') m' (numsJ (nearL d (ls.take k)) ++ numsJ (if a = d then [b] else [])) rfl (HOC.out _) ⟨wc.heap.size, 0, none⟩ 1 1 [.int .i64 a] rfl rfl (World.news_of_block (new_0 wc _)) (by simp [Value.oneCell']) (by decide) (by unfold maxLen; omega) (by omega) (by simp only [World.size_alloc]; omega) (wc.heap.size + 1) (by simp) ?_; intro g1 cap1 w1 hown1 hgrow1 hat1 hlt1; have HNX := hid (show NrI w d ls (k + 1) (.slice (some ⟨g1, 0, none⟩) (m' + 1) cap1) (m' + 1) w1 from by
              refine ⟨?_, by omega, ?_⟩
              · rw [HSN.out, if_pos HAD.out, ← List.append_assoc]; exact hown1
              · have hbc := hC.out.2.2.1
                refine ⟨hgrow1.os.trans hbc.os, hgrow1.tape.trans hbc.tape, hgrow1.output.trans hbc.output, by have := hgrow1.size; simp only [World.size_alloc] at this; omega, fun i hi => ?_⟩
                rw [hgrow1.block i (by simp only [World.size_alloc]; omega) (fun r => by have := (hC.out.1.lt i r.symm).1; omega), Below.heap_alloc _ _ _ (by omega), hbc.block i hi]); clear hown1 hgrow1 hat1))
          go_roundw
          case rel => exact ⟨k + 1, m' + 1, some ⟨g1, 0, none⟩, cap1, by omega, by go_num, rfl, HNX⟩
          case measure => simp [intOf]; omega
        | false =>
          have HAD := hid (HBB.out.2 rfl)
          have HNX := hid (show NrI w d ls (k + 1) (.slice ao' m' c') m' wc from by
            refine ⟨?_, by omega, hC.out.2.2.1⟩
            rw [HSN.out, if_neg HAD.out]
            simpa using hC.out.1)
          go_wp2
          exact ⟨⟨k + 1, m', ao', c', by omega, by simp, rfl, HNX⟩, by simp [intOf]; omega⟩
    · have hkn2 : k = n := by omega
      have HE := hid (show ls.take k = ls from List.take_of_length_le (by rw [HN.out]; omega))
      obtain ⟨hm, hz⟩ := own_ints hI.out.row
      rw [HE.out] at hm hz
      have hml : m ≤ 1000000 := by have := hI.out.len; omega
      have HB := hid hI.out.below
      have hI0 : ¬ (k : Int) < (n : Int) := by omega
      rcases hz with ⟨e1, e2⟩ | ⟨g, cp, e2, hB, hat, hcp⟩
      · have HS := hid (show nearS d ls = [] by unfold nearS; rw [e1, List.mergeSort_nil]; rfl)
        have hm0 : m = 0 := by rw [hm, e1]; rfl
        injection e2 with e2 e3 e4
        subst e2; subst e4; subst hm0
        have HSN := hid (fun W => sort_nilI W)
        have HCN := hid (fun W => compact_nilI W)
        clear hm e1 e3
        go_wp2_with fail
        refine (HSN.out _).mono ?_
        rintro en w2 ⟨rfl, rfl⟩
        go_wp2_with fail
        refine (HCN.out _).mono ?_
        rintro en w2 ⟨rfl, rfl⟩
        go_wp2
        refine bodyPost_ret (v := .slice none 0 0) (by simp [results, Tryz.results25, go_sem]) rfl ⟨⟨_, rfl, .inl ⟨HS.out, rfl⟩⟩, HB.out⟩
      · injection e2 with e2 e3 e4
        subst e2; subst e4
        have HM := hid hm
        have HA := hid hat
        have HBG := hid hB
        have hls : ((nearL d ls).mergeSort fun x y => decide (x ≤ y)).length = m := by rw [List.length_mergeSort, ← HM.out]
        have HS1 := hid (by
          have := sort_ints hat c (by rw [← HM.out]; omega)
          rw [← HM.out] at this
          exact this : Calls Tryz.prog 51 #[.slice (some ⟨g, 0, none⟩) m c] wr fun e w' => e = .returned (.tuple #[]) ∧ IntAt w' g ((nearL d ls).mergeSort fun x y => decide (x ≤ y)) ∧ wr.grownBy w' (some g))
        have HLS := hid hls
        have hcpm : m ≤ c := by rw [HM.out]; exact hcp
        clear hm hat e3 hls hcp hB
        go_wp2_with fail
        refine HS1.out.mono ?_
        rintro en w2 ⟨rfl, hat2, hg2⟩
        have HG2 := hid hg2
        have HS2 := hid (by
          have := compact_ints hat2 c (by rw [HLS.out]; omega) (by rw [HLS.out]; exact hcpm)
          rw [HLS.out] at this
          exact this : Calls Tryz.prog 52 #[.slice (some ⟨g, 0, none⟩) m c] w2 fun e w' => e = .returned (.slice (some ⟨g, 0, none⟩) (nearS d ls).length c) ∧ IntAt w' g (nearS d ls) ∧ w2.grownBy w' (some g))
        clear hat2 hg2
        go_wp2_with fail
        refine HS2.out.mono ?_
        rintro en w3 ⟨rfl, hat3, hg3⟩
        have HE3 := hid (show (∃ v, Ending.returned (.slice (some ⟨g, 0, none⟩) (nearS d ls).length c) = .returned v ∧ NumsV w3 v (nearS d ls)) ∧ Below w.heap.size w w3 from by
          refine ⟨⟨_, rfl, .inr ⟨g, c, rfl, hat3⟩⟩, ?_⟩
          have h1 := HG2.out
          have h0 := HB.out
          have hb := HBG.out
          exact ⟨hg3.os.trans (h1.os.trans h0.os), hg3.tape.trans (h1.tape.trans h0.tape), hg3.output.trans (h1.output.trans h0.output), Nat.le_trans h0.size (Nat.le_trans h1.size hg3.size), fun i hi => by
            rw [hg3.block i (by have := h0.size; have := h1.size; omega) (fun r => by injection r with r; omega), h1.block i (by have := h0.size; omega) (fun r => by injection r with r; omega), h0.block i hi]⟩)
        obtain ⟨L, hL⟩ : ∃ L, L = (nearS d ls).length := ⟨_, rfl⟩
        rw [← hL] at HE3 ⊢
        clear hat3 hg3 hL
        go_wp2
        exact bodyPost_ret (v := .slice (some ⟨g, 0, none⟩) L c) (by simp [results, Tryz.results25, go_sem]) rfl HE3.out
end Go.Proofs.YtebaopiedlioiaaGreatDoor
namespace Go.Proofs.YtebaopiedlioiaaGreatDoor

theorem upTo_succI (d : Array Int) (m : Nat) : Lib.compactUpTo d (m + 1) = Lib.compactUpTo d m ++ (if Lib.keeps d m then [d[m]!] else []) := by
  unfold Lib.compactUpTo
  rw [List.range_succ, List.filter_append, List.map_append]
  congr 1
  simp only [List.filter_cons, List.filter_nil]
  split <;> rfl
/-- A row in order, put together: it rises, and has the same texts. -/
theorem compact_riseI {z : List Int} (h : z.Pairwise (· ≤ ·)) : List.Pairwise (· < ·) (Lib.compact z) ∧ ∀ x, x ∈ Lib.compact z ↔ x ∈ z := by
  have key : ∀ m, m ≤ z.length → List.Pairwise (· < ·) (Lib.compactUpTo z.toArray m) ∧ (∀ x, x ∈ Lib.compactUpTo z.toArray m ↔ x ∈ z.take m) ∧ (∀ x, x ∈ Lib.compactUpTo z.toArray m → 0 < m → x ≤ z.toArray[m - 1]!) := by
    intro m
    induction m with
    | zero => intro _; exact ⟨List.Pairwise.nil, fun x => by simp [Lib.compactUpTo], fun x _ h0 => absurd h0 (Nat.lt_irrefl 0)⟩
    | succ m ih =>
      intro hm
      obtain ⟨h1, h2, h3⟩ := ih (by omega)
      have hget : z.toArray[m]! = z[m] := by simp [show m < z.length by omega]
      have htake : z.take (m + 1) = z.take m ++ [z[m]] := by rw [List.take_succ_eq_append_getElem (by omega)]
      have hle : ∀ x ∈ z.take m, x ≤ z[m] := fun x hx => by
        obtain ⟨j, hj, rfl⟩ := List.getElem_of_mem hx
        simp only [List.length_take] at hj
        rw [List.getElem_take]
        exact List.pairwise_iff_getElem.1 h j m (by omega) (by omega) (by omega)
      rw [upTo_succI]
      have hlast : ∀ x, x ∈ Lib.compactUpTo z.toArray m → x ≤ z[m] := fun x hx => hle x ((h2 x).1 hx)
      rw [hget]
      cases hk : Lib.keeps z.toArray m with
      | true =>
        simp only [if_true]
        refine ⟨?_, fun x => ?_, fun x hx _ => ?_⟩
        · refine List.pairwise_append.2 ⟨h1, by simp, fun a ha b hb => ?_⟩
          rw [List.mem_singleton] at hb
          subst hb
          refine Int.lt_iff_le_and_ne.2 ⟨hlast a ha, fun e => ?_⟩
          have hm0 : 0 < m := by
            rcases Nat.eq_zero_or_pos m with e0 | h0
            · subst e0; simp [Lib.compactUpTo] at ha
            · exact h0
          have hp : z.toArray[m - 1]! = z[m - 1] := by simp [show m - 1 < z.length by omega]
          have h4 := h3 a ha hm0
          rw [hp] at h4
          have h5 : z[m - 1] ≤ z[m] := List.pairwise_iff_getElem.1 h (m - 1) m (by omega) (by omega) (by omega)
          have e2 : z[m] = z[m - 1] := Int.le_antisymm (e ▸ h4) h5
          have : Lib.keeps z.toArray m = false := Lib.keeps_neg hm0 (by rw [hget, hp]; exact e2)
          rw [hk] at this; exact absurd this (by decide)
        · rw [List.mem_append, h2, htake, List.mem_append]
        · show x ≤ z.toArray[m + 1 - 1]!
          rw [Nat.add_sub_cancel, hget]
          rcases List.mem_append.1 hx with hx | hx
          · exact hlast x hx
          · rw [List.mem_singleton.1 hx]; exact Int.le_refl _
      | false =>
        simp only [Bool.false_eq_true, if_false, List.append_nil]
        refine ⟨h1, fun x => ?_, fun x hx _ => ?_⟩
        · rw [h2, htake, List.mem_append]
          constructor
          · exact Or.inl
          · rintro (h | h)
            · exact h
            · rw [List.mem_singleton] at h
              have hm0 : 0 < m := by
                rcases Nat.eq_zero_or_pos m with e0 | h0
                · subst e0; rw [Lib.keeps_lt_one _ 0 (by omega)] at hk; exact absurd hk (by decide)
                · exact h0
              have hp : z.toArray[m - 1]! = z[m - 1] := by simp [show m - 1 < z.length by omega]
              have e2 : z[m] = z[m - 1] := by
                by_cases e : z[m] = z[m - 1]
                · exact e
                · have : Lib.keeps z.toArray m = true := Lib.keeps_pos (by rw [hget, hp]; exact e)
                  rw [hk] at this; exact absurd this (by decide)
              rw [h, e2]
              have : z[m - 1] = (z.take m)[m - 1]'(by simp; omega) := by rw [List.getElem_take]
              rw [this]; exact List.getElem_mem _
        · show x ≤ z.toArray[m + 1 - 1]!
          rw [Nat.add_sub_cancel, hget]
          exact hlast x hx
  obtain ⟨h1, h2, _⟩ := key z.length (Nat.le_refl _)
  exact ⟨h1, fun x => by rw [show Lib.compact z = Lib.compactUpTo z.toArray z.length from rfl, h2, List.take_length]⟩
theorem nearS_spec (d : Int) (ls : List LkZ) : (nearS d ls).Pairwise (· < ·) ∧ ∀ x, x ∈ nearS d ls ↔ x ∈ nearL d ls := by
  have hs : ((nearL d ls).mergeSort fun x y => decide (x ≤ y)).Pairwise (· ≤ ·) := by
    have := List.pairwise_mergeSort (le := fun (x y : Int) => decide (x ≤ y)) (fun a b c h1 h2 => by simp at h1 h2 ⊢; omega) (fun a b => by simp; omega) (nearL d ls)
    exact this.imp (fun h => by simpa using h)
  obtain ⟨h1, h2⟩ := compact_riseI hs
  exact ⟨h1, fun x => by rw [nearS, h2, List.mem_mergeSort]⟩
theorem nearS_len (d : Int) (ls : List LkZ) : (nearS d ls).length ≤ 2 * ls.length := by
  have h1 : (nearL d ls).length ≤ 2 * ls.length := by
    unfold nearL
    induction ls with
    | nil => simp
    | cons a t ih =>
      rw [List.flatMap_cons, List.length_append, List.length_cons]
      have : ((if a.1 = d then [a.2.2.1] else []) ++ (if a.2.2.1 = d then [a.1] else [])).length ≤ 2 := by
        split <;> split <;> simp
      omega
  have h2 : (nearS d ls).length ≤ (nearL d ls).length := by
    unfold nearS Lib.compact Lib.compactUpTo
    rw [List.length_map]
    exact Nat.le_trans (List.length_filter_le _ _) (by simp)
  omega
theorem near_mem {d e : Int} {ls : List LkZ} {x : LkZ} (hx : x ∈ ls) (h : (x.1 = e ∧ x.2.2.1 = d) ∨ (x.2.2.1 = e ∧ x.1 = d)) : e ∈ nearS d ls := by
  rw [(nearS_spec d ls).2]
  unfold nearL
  rw [List.mem_flatMap]
  refine ⟨x, hx, ?_⟩
  rcases h with ⟨h1, h2⟩ | ⟨h1, h2⟩
  · simp [h1, h2]
  · simp [h1, h2]
end Go.Proofs.YtebaopiedlioiaaGreatDoor
namespace Go.Proofs.YtebaopiedlioiaaGreatDoor
open Go.RowKit
open Wo (Wd)

abbrev kText : List UInt8 := [119, 105, 100, 116, 104, 32, 52, 10, 100, 101, 118, 105, 99, 101, 32, 98, 32, 112, 111, 114, 116, 32, 112, 44, 113, 10, 100, 101, 118, 105, 99, 101, 32, 97, 32, 99, 108, 97, 115, 115, 32, 99, 111, 114, 101, 32, 112, 111, 114, 116, 32, 112, 10, 108, 105, 110, 107, 32, 98, 32, 113, 32, 45, 62, 32, 97, 32, 112, 10]
abbrev kB : To.Dv := ⟨[98], [], [[112], [113]]⟩
abbrev kA : To.Dv := ⟨[97], [[99, 111, 114, 101]], [[112]]⟩
abbrev kSt : TSt := ⟨4, [kB, kA], [⟨0, [113], 1, [112]⟩], [(0, [113]), (1, [112])]⟩
theorem k_prs : prsT kText = .ok kSt := by kernel_rfl
/-- The devices and the link in order. -/
theorem k_order {vs ds' : List (To.Dv × Value × Value)} {ls' : List To.Lk} (hv : vs.map (·.1) = [kB, kA]) (hp : ds'.Perm vs) (hs : ds'.Pairwise (fun a b => ¬ b.1.name < a.1.name)) (hl : ls'.Perm ([⟨0, [113], 1, [112]⟩].map (renL (posF vs ds')))) :
    (∃ a b, ds' = [a, b] ∧ a.1 = kA ∧ b.1 = kB) ∧ ls' = [⟨0, [112], 1, [113]⟩] := by
  obtain ⟨v0, v1, rfl, h0, h1⟩ : ∃ v0 v1, vs = [v0, v1] ∧ v0.1 = kB ∧ v1.1 = kA := by
    rcases vs with _ | ⟨v0, _ | ⟨v1, _ | ⟨v2, r⟩⟩⟩
    · cases hv
    · simp at hv
    · simp only [List.map_cons, List.map_nil, List.cons.injEq, and_true] at hv
      exact ⟨v0, v1, rfl, hv.1, hv.2⟩
    · simp at hv
  have hd : ds' = [v1, v0] := by
    have hlen := hp.length_eq
    rcases ds' with _ | ⟨d0, _ | ⟨d1, _ | ⟨d2, r⟩⟩⟩
    · simp at hlen
    · simp at hlen
    · have m0 : d0 ∈ [v0, v1] := hp.mem_iff.1 (by simp)
      have hs' : ¬ d1.1.name < d0.1.name := by simpa using hs
      rcases List.mem_cons.1 m0 with e | e
      · subst e
        have := hp.cons_inv
        have e1 : d1 = v1 := by simpa using this
        subst e1
        rw [h0, h1] at hs'
        exact absurd (by decide) hs'
      · have e' : d0 = v1 := by simpa using e
        subst e'
        have hp2 : [d0, d1].Perm [d0, v0] := hp.trans (List.Perm.swap _ _ _)
        have e1 : d1 = v0 := by simpa using hp2.cons_inv
        rw [e1]
    · simp at hlen
  subst hd
  refine ⟨⟨v1, v0, rfl, h1, h0⟩, ?_⟩
  have f0 : posF [v0, v1] [v1, v0] 0 = 1 := by
    unfold posF
    simp only [List.map_cons, List.map_nil, h0, h1]
    decide
  have f1 : posF [v0, v1] [v1, v0] 1 = 0 := by
    unfold posF
    simp only [List.map_cons, List.map_nil, h0, h1]
    decide
  have e : renL (posF [v0, v1] [v1, v0]) ⟨0, [113], 1, [112]⟩ = ⟨0, [112], 1, [113]⟩ := by
    unfold renL
    simp only [f0, f1]
    rw [if_pos (by decide)]
  rw [List.map_cons, List.map_nil, e] at hl
  exact List.perm_singleton.1 hl
end Go.Proofs.YtebaopiedlioiaaGreatDoor
namespace Go.Proofs.YtebaopiedlioiaaGreatDoor
open Go.RowKit

theorem lkEqJ (d d' a a' : Int) (m m' p p' : List UInt8) (w : World) : (binOp .eql 83 (.agg #[.int .i64 d, .string (tx m), .int .i64 a, .string (tx p)]) (.agg #[.int .i64 d', .string (tx m'), .int .i64 a', .string (tx p')])).run Tryz.prog w = .ok (.bool (decide (d = d' ∧ m = m' ∧ a = a' ∧ p = p'))) w := by
  have u0 := Tryz.underlying83
  have st : Tryz.prog.stoodInHeld 83 = false := by kernel_rfl
  have a0 := fun w => part_intJ w #[.int .i64 d, .string (tx m), .int .i64 a, .string (tx p)] 0 _ rfl
  have a1 := fun w => part_strJ w #[.int .i64 d, .string (tx m), .int .i64 a, .string (tx p)] 1 _ rfl
  have a2 := fun w => part_intJ w #[.int .i64 d, .string (tx m), .int .i64 a, .string (tx p)] 2 _ rfl
  have a3 := fun w => part_strJ w #[.int .i64 d, .string (tx m), .int .i64 a, .string (tx p)] 3 _ rfl
  have b0 := fun w => part_intJ w #[.int .i64 d', .string (tx m'), .int .i64 a', .string (tx p')] 0 _ rfl
  have b1 := fun w => part_strJ w #[.int .i64 d', .string (tx m'), .int .i64 a', .string (tx p')] 1 _ rfl
  have b2 := fun w => part_intJ w #[.int .i64 d', .string (tx m'), .int .i64 a', .string (tx p')] 2 _ rfl
  have b3 := fun w => part_strJ w #[.int .i64 d', .string (tx m'), .int .i64 a', .string (tx p')] 3 _ rfl
  unfold binOp
  simp only
  unfold Op.equal Op.maxDepth
  rw [Op.equalIn]
  by_cases h1 : d = d'
  · have e1 : (d == d') = true := by rw [h1]; simp
    by_cases h2 : m = m'
    · have e2 : (m == m') = true := by rw [h2]; simp
      by_cases h3 : a = a'
      · have e3 : (a == a') = true := by rw [h3]; simp
        by_cases h4 : p = p'
        · have e4 : (p == p') = true := by rw [h4]; simp
          rw [decide_eq_true ⟨h1, h2, h3, h4⟩]
          clear h1 h2 h3 h4
          simp [run_underlying u0, st, a0, a1, a2, a3, b0, b1, b2, b3, eq_intJ, eq_strJ, e1, e2, e3, e4, Result.andThen]
        · have e4 : (p == p') = false := beq_eq_false_iff_ne.2 h4
          rw [decide_eq_false (fun q => h4 q.2.2.2)]
          clear h1 h2 h3 h4
          simp [run_underlying u0, st, a0, a1, a2, a3, b0, b1, b2, b3, eq_intJ, eq_strJ, e1, e2, e3, e4, Result.andThen]
      · have e3 : (a == a') = false := beq_eq_false_iff_ne.2 h3
        rw [decide_eq_false (fun q => h3 q.2.2.1)]
        clear h1 h2 h3
        simp [run_underlying u0, st, a0, a1, a2, b0, b1, b2, eq_intJ, eq_strJ, e1, e2, e3, Result.andThen]
    · have e2 : (m == m') = false := beq_eq_false_iff_ne.2 h2
      rw [decide_eq_false (fun q => h2 q.2.1)]
      clear h1 h2
      simp [run_underlying u0, st, a0, a1, b0, b1, eq_intJ, eq_strJ, e1, e2, Result.andThen]
  · have e1 : (d == d') = false := beq_eq_false_iff_ne.2 h1
    rw [decide_eq_false (fun q => h1 q.1)]
    clear h1
    simp [run_underlying u0, st, a0, b0, eq_intJ, e1, Result.andThen]

set_option maxRecDepth 20000 in
set_option maxHeartbeats 1000000 in
theorem alive11 (w : World) : Calls Tryz.prog 12 #[] w fun e w' => e = .returned (.bool true) ∧ Below w.heap.size w w' := by
  have hEQ : ∀ w : World, (binOp .eql 83 (.agg #[.int .i64 0, .string (tx [112]), .int .i64 1, .string (tx [113])]) (.agg #[.int .i64 0, .string ⟨#[112]⟩, .int .i64 1, .string ⟨#[113]⟩])).run Tryz.prog w = .ok (.bool true) w := fun w => lkEqJ 0 0 1 1 [112] [112] [113] [113] w
  have HP := hid (oParse_any kText w (by decide))
  go_enter Tryz.func12, Tryz.ntmps12
  go_wp2_with fail
  refine HP.out.mono ?_
  rintro en w1 ⟨hb, ⟨f, hf, _⟩ | ⟨t, vs, ds', ls', c1, c2, hr, hok, hof, rfl, p1, p2, p3, p4, hd, hl⟩⟩
  · rw [k_prs] at hf; cases hf
  · rw [k_prs] at hr
    injection hr with hr
    subst hr
    obtain ⟨⟨a, b, rfl, ha, hbb⟩, rfl⟩ := k_order hof p1 p2 p3
    obtain ⟨g, cp, rfl, hg, hc⟩ := own_some hd.row (by simp)
    obtain ⟨g2, cp2, rfl, hg2, hc2⟩ := own_some hl (by simp)
    have d0 : w1.cell? ⟨g, 0, none⟩ = some (.string (tx [97])) := by
      have := hc 0 _ rfl
      rw [ha] at this
      exact this
    have l0 : w1.cell? ⟨g2, 0, none⟩ = some (.int .i64 0) := hc2 0 _ rfl
    have l1 : w1.cell? ⟨g2, 1, none⟩ = some (.string (tx [112])) := hc2 1 _ rfl
    have l2 : w1.cell? ⟨g2, 2, none⟩ = some (.int .i64 1) := hc2 2 _ rfl
    have l3 : w1.cell? ⟨g2, 3, none⟩ = some (.string (tx [113])) := hc2 3 _ rfl
    have HL := hid (show LkV w1 (.slice (some ⟨g2, 0, none⟩) 1 cp2) [(0, [112], 1, [113])] from ⟨_, _, rfl, Or.inr ⟨g2, 0, rfl, hg2, fun i q hq => by
      rcases i with _ | i
      · have e : q = (0, [112], 1, [113]) := by simpa using hq.symm
        subst e
        exact ⟨l0, l1, l2, l3⟩
      · simp at hq⟩⟩)
    have HB := hid hb
    clear hb hc hc2 hd hl p1 p2 p3 p4 hof hok ha hbb
    simp only [List.length_cons, List.length_nil, Nat.zero_add]
    have hpv : peerV (peerJ 0 [112] [(0, [112], 1, [113])]) = .tuple #[.int .i64 1, .string (tx [113]), .bool true] := rfl
    obtain ⟨W2, hW2⟩ : ∃ W2, W2 = w1.alloc (.cells #[.int .i64 4, .slice (some ⟨g, 0, none⟩) 2 cp, .slice (some ⟨g2, 0, none⟩) 1 cp2] 25) := ⟨_, rfl⟩
    have b2 : Below w1.heap.size w1 W2 := by rw [hW2]; exact (Below.refl _ _).alloc (Nat.le_refl _) _
    have ht : W2.heap[w1.heap.size]? = some (.cells #[.int .i64 4, .slice (some ⟨g, 0, none⟩) 2 cp, .slice (some ⟨g2, 0, none⟩) 1 cp2] 25) := by rw [hW2]; exact new_0 _ _
    have HT := hid ht
    have HB2 := hid b2
    have HPE := hid (oPeer_any (x0 := .int .i64 4) (x1 := .slice (some ⟨g, 0, none⟩) 2 cp) (HL.out.below b2) 0 [112] (fun q hq => by
      have e : q = (0, [112], 1, [113]) := by simpa using hq
      subst e
      exact ⟨by decide, by decide⟩) (by decide))
    rw [hpv] at HPE
    clear b2 ht hpv
    go_wp2_with fail
    rw [← hW2]
    clear hW2
    refine HPE.out.mono ?_
    rintro en w2 ⟨rfl, hb3⟩
    have hs2 : w1.heap.size < W2.heap.size := lt_of_block HT.out
    have hk : ∀ k, k < w1.heap.size → w2.heap[k]? = w1.heap[k]? := fun k q => (hb3.block k (by omega)).trans (HB2.out.block k q)
    have ht2 := (hb3.block _ hs2).trans HT.out
    have t0 : w2.cell? ⟨w1.heap.size, 0, none⟩ = some (.int .i64 4) := by rw [cell_at ht2]; rfl
    have t1 : w2.cell? ⟨w1.heap.size, 1, none⟩ = some (.slice (some ⟨g, 0, none⟩) 2 cp) := by rw [cell_at ht2]; rfl
    have t2 : w2.cell? ⟨w1.heap.size, 2, none⟩ = some (.slice (some ⟨g2, 0, none⟩) 1 cp2) := by rw [cell_at ht2]; rfl
    have e0 := (World.cell?_of_block (a := ⟨g, 0, none⟩) (hk g hg)).trans d0
    have m0 := (World.cell?_of_block (a := ⟨g2, 0, none⟩) (hk g2 hg2)).trans l0
    have m1 := (World.cell?_of_block (a := ⟨g2, 1, none⟩) (hk g2 hg2)).trans l1
    have m2 := (World.cell?_of_block (a := ⟨g2, 2, none⟩) (hk g2 hg2)).trans l2
    have m3 := (World.cell?_of_block (a := ⟨g2, 3, none⟩) (hk g2 hg2)).trans l3
    have HB3 := hid (show Below w.heap.size w w2 from by
      have h1 := HB.out
      have h2 := HB2.out
      exact ⟨hb3.os.trans (h2.os.trans h1.os), hb3.tape.trans (h2.tape.trans h1.tape), hb3.output.trans (h2.output.trans h1.output), by have := hb3.size; have := h1.size; omega, fun i hi => (hk i (by have := h1.size; omega)).trans (h1.block i hi)⟩)
    clear hk ht2 hb3 d0 l0 l1 l2 l3
    go_wp2
    go_ret
    exact ⟨rfl, HB3.out⟩
end Go.Proofs.YtebaopiedlioiaaGreatDoor
namespace Go.Proofs.YtebaopiedlioiaaGreatDoor
open Go.RowKit

theorem NumsV.form {w : World} {v : Value} {zs : List Int} (h : NumsV w v zs) : ∃ ao cap, v = .slice ao zs.length cap ∧ (zs = [] ∨ ∃ g, ao = some ⟨g, 0, none⟩ ∧ g < w.heap.size ∧ ∀ (i : Nat) (z : Int), zs[i]? = some z → w.cell? ⟨g, i, none⟩ = some (.int .i64 z)) := by
  rcases h with ⟨e, rfl⟩ | ⟨g, cap, rfl, h⟩
  · exact ⟨none, 0, by rw [e]; rfl, .inl e⟩
  · exact ⟨_, cap, rfl, .inr ⟨g, rfl, h.lt, fun i z hz => h.cell hz⟩⟩
/-- A topology's box, stored anew. -/
theorem top_box {X : World} {N : Nat} {x0 x1 x2 a b c : Value} (ht : X.heap[N]? = some (topJ x0 x1 x2)) : ∃ V, V = ((X.setCell ⟨N, 0, none⟩ a).setCell ⟨N, 1, none⟩ b).setCell ⟨N, 2, none⟩ c ∧ V.heap[N]? = some (topJ a b c) ∧ Below N X V ∧ (∀ k, k ≠ N → V.heap[k]? = X.heap[k]?) ∧ V.heap.size = X.heap.size := by
  have vt : (((X.setCell ⟨N, 0, none⟩ a).setCell ⟨N, 1, none⟩ b).setCell ⟨N, 2, none⟩ c).heap[N]? = some (topJ a b c) := block_set (o := 2) c (block_set (o := 1) b (block_set (o := 0) a ht))
  refine ⟨_, rfl, vt, ?_, fun k h1 => ?_, by simp⟩
  · repeat (refine Below.setCell ?_ (by dsimp only; omega) _)
    exact Below.refl _ _
  · rw [Below.heap_setCell _ _ _ _ h1, Below.heap_setCell _ _ _ _ h1, Below.heap_setCell _ _ _ _ h1]

set_option maxRecDepth 20000 in
set_option maxHeartbeats 2000000 in
theorem tends_any {w : World} {wd : Int} {dv lv : Option Addr} {N dc M lc : Nat} {ds : List (To.Dv × Value × Value)} {ls : List LkZ} (hD : DvL w (.slice dv N dc) ds) (hL : LkV w (.slice lv M lc) ls) (hN : N ≤ dc) (hM : M ≤ lc) (hz : DvShort ds) (d : Int) (m : List UInt8) :
    Calls Tryz.prog 7 #[.agg #[.int .i64 wd, .slice dv N dc, .slice lv M lc], .int .i64 d, .string (tx m)] w fun e w' => e = .returned (.bool true) ∧ Below w.heap.size w w' := by
  have HAL := hid alive11
  have HFW := hid (fun W => ofew_any (w := W) (wd := wd) hN hM hD.addr hL.addr)
  have HD := hid (hD.take 40)
  have HL := hid (hL.take 40)
  have HZ := hid (hz.take 40)
  obtain ⟨n, hn⟩ : ∃ n, n = min N 40 := ⟨_, rfl⟩
  obtain ⟨k, hk⟩ : ∃ k, k = min M 40 := ⟨_, rfl⟩
  rw [← hn] at HD HFW
  rw [← hk] at HL HFW
  obtain ⟨es, hes⟩ : ∃ es, es = ds.take 40 := ⟨_, rfl⟩
  obtain ⟨js, hjs⟩ : ∃ js, js = ls.take 40 := ⟨_, rfl⟩
  rw [← hes] at HD HZ
  rw [← hjs] at HL
  have hel : es.length ≤ 40 := by rw [hes, List.length_take]; omega
  have hjl : js.length ≤ 40 := by rw [hjs, List.length_take]; omega
  have HCK := hid (fun (W : World) (hb : Below w.heap.size w W) => RCheckT_any (wd := wd) (HD.out.below hb) (HL.out.below hb) HZ.out (Nat.le_trans hel (by decide)) (Nat.le_trans hjl (by decide)))
  have HJL := hid hjl
  clear hD hL hN hM hz hn hk hes hjs hel hjl
  obtain ⟨W0, hW0⟩ : ∃ W0, W0 = w.alloc (topJ (.int .i64 wd) (.slice dv N dc) (.slice lv M lc)) := ⟨_, rfl⟩
  have hb0 : Below w.heap.size w W0 := by rw [hW0]; exact (Below.refl _ _).alloc (Nat.le_refl _) _
  have h0 : W0.heap[w.heap.size]? = some (topJ (.int .i64 wd) (.slice dv N dc) (.slice lv M lc)) := by rw [hW0]; exact new_0 _ _
  have HB0 := hid hb0
  have H0 := hid h0
  clear hb0 h0
  go_enter Tryz.func7, Tryz.ntmps7
  go_wp2_with fail
  rw [← hW0]
  clear hW0
  refine (HFW.out _).mono ?_
  rintro en w1 ⟨rfl, hb1⟩
  have h1 := (hb1.block _ (lt_of_block H0.out)).trans H0.out
  obtain ⟨V, hV, hv0, hvb, hvk, hvs⟩ := top_box (a := .int .i64 wd) (b := .slice dv n dc) (c := .slice lv k lc) h1
  obtain ⟨t0, t1, t2⟩ := topJ_cells hv0
  have HBV := hid (show Below w.heap.size w V from ⟨hvb.os.trans (hb1.os.trans HB0.out.os), hvb.tape.trans (hb1.tape.trans HB0.out.tape), hvb.output.trans (hb1.output.trans HB0.out.output), by have := hb1.size; have := HB0.out.size; omega, fun i hi => by rw [hvk i (by omega), hb1.block i (by have := HB0.out.size; omega), HB0.out.block i hi]⟩)
  have HV0 := hid hv0
  obtain ⟨c0, c1, c2⟩ := topJ_cells h1
  have f0 : w1.frozen? ⟨w.heap.size, 0, none⟩ = false := free_of h1
  have f1 : w1.frozen? ⟨w.heap.size, 1, none⟩ = false := free_of h1
  have f2 : w1.frozen? ⟨w.heap.size, 2, none⟩ = false := free_of h1
  clear hvb hvk hvs hv0 h1 hb1
  obtain ⟨kc, hkc⟩ : ∃ kc, kc = chkT wd (es.map (·.1)) js := ⟨_, rfl⟩
  have HKC := hid hkc
  have HCV := hid (HCK.out V HBV.out)
  rw [← hkc] at HCV
  clear hkc
  go_upto_region 2 with fail
  rw [← hV]
  clear hV c0 c1 c2 f0 f1 f2
  go_wp2_with fail
  refine HCV.out.mono ?_
  rintro en w2 ⟨rfl, hb2⟩
  have HB2 := hid (show Below w.heap.size w w2 from ⟨hb2.os.trans HBV.out.os, hb2.tape.trans HBV.out.tape, hb2.output.trans HBV.out.output, Nat.le_trans HBV.out.size hb2.size, fun i hi => (hb2.block i (by have := HBV.out.size; omega)).trans (HBV.out.block i hi)⟩)
  have HT2 := hid ((hb2.block _ (lt_of_block HV0.out)).trans HV0.out)
  clear hb2 t0 t1 t2
  obtain ⟨t0, t1, t2⟩ := topJ_cells HT2.out
  cases hb : topB wd (es.map (·.1)) js with
  | false =>
    have hkc : kc = 113 := by rw [HKC.out, chkT_bad hb]
    subst hkc
    clear hb
    go_wp2_with fail
    refine (HAL.out _).mono ?_
    rintro en w3 ⟨rfl, hb3⟩
    have HB3 := hid (show Below w.heap.size w w3 from ⟨hb3.os.trans HB2.out.os, hb3.tape.trans HB2.out.tape, hb3.output.trans HB2.out.output, Nat.le_trans HB2.out.size hb3.size, fun i hi => (hb3.block i (by have := HB2.out.size; omega)).trans (HB2.out.block i hi)⟩)
    go_wp2
    go_ret
    exact ⟨rfl, HB3.out⟩
  | true =>
    have hkc : kc = 0 := by rw [HKC.out, chkT_good hb]
    subst hkc
    have HEN := hid (topB_ends hb)
    have HSH := hid (topB_short hb)
    have HPE := hid (fun (W : World) (hb : Below w.heap.size w W) (a : Int) (p : List UInt8) => oPeer_any (x0 := .int .i64 wd) (x1 := .slice dv n dc) (HL.out.below hb) a p HSH.out (Nat.le_trans HJL.out (by decide)))
    clear hb
    cases hp : peerJ d m js with
    | none =>
      have HP1 := hid (HPE.out w2 HB2.out d m)
      rw [hp, show peerV none = .tuple #[.int .i64 0, .string (tx []), .bool false] from rfl] at HP1
      clear hp
      go_wp2_with fail
      refine HP1.out.mono ?_
      rintro en w3 ⟨rfl, hb3⟩
      have HB3 := hid (show Below w.heap.size w w3 from ⟨hb3.os.trans HB2.out.os, hb3.tape.trans HB2.out.tape, hb3.output.trans HB2.out.output, Nat.le_trans HB2.out.size hb3.size, fun i hi => (hb3.block i (by have := HB2.out.size; omega)).trans (HB2.out.block i hi)⟩)
      clear hb3
      go_wp2_with fail
      refine (HAL.out _).mono ?_
      rintro en w4 ⟨rfl, hb4⟩
      have HB4 := hid (show Below w.heap.size w w4 from ⟨hb4.os.trans HB3.out.os, hb4.tape.trans HB3.out.tape, hb4.output.trans HB3.out.output, Nat.le_trans HB3.out.size hb4.size, fun i hi => (hb4.block i (by have := HB3.out.size; omega)).trans (HB3.out.block i hi)⟩)
      go_wp2
      go_ret
      exact ⟨rfl, HB4.out⟩
    | some bq =>
      obtain ⟨b, q⟩ := bq
      have HP1 := hid (HPE.out w2 HB2.out d m)
      rw [hp, show peerV (some (b, q)) = .tuple #[.int .i64 b, .string (tx q), .bool true] from rfl] at HP1
      obtain ⟨hback, x, hx, hxx⟩ := peer_peer HEN.out hp
      have HBK := hid hback
      have HMEM := hid (near_mem hx (show (x.1 = d ∧ x.2.2.1 = b) ∨ (x.2.2.1 = d ∧ x.1 = b) from hxx))
      clear hp hback hx hxx
      go_wp2_with fail
      refine HP1.out.mono ?_
      rintro en w3 ⟨rfl, hb3⟩
      have HB3 := hid (show Below w.heap.size w w3 from ⟨hb3.os.trans HB2.out.os, hb3.tape.trans HB2.out.tape, hb3.output.trans HB2.out.output, Nat.le_trans HB2.out.size hb3.size, fun i hi => (hb3.block i (by have := HB2.out.size; omega)).trans (HB2.out.block i hi)⟩)
      have HT3 := hid ((hb3.block _ (lt_of_block HT2.out)).trans HT2.out)
      clear hb3 t0 t1 t2
      obtain ⟨t0, t1, t2⟩ := topJ_cells HT3.out
      have HP2 := hid (HPE.out w3 HB3.out b q)
      rw [HBK.out, show peerV (some (d, m)) = .tuple #[.int .i64 d, .string (tx m), .bool true] from rfl] at HP2
      go_wp2_with fail
      refine HP2.out.mono ?_
      rintro en w4 ⟨rfl, hb4⟩
      have HB4 := hid (show Below w.heap.size w w4 from ⟨hb4.os.trans HB3.out.os, hb4.tape.trans HB3.out.tape, hb4.output.trans HB3.out.output, Nat.le_trans HB3.out.size hb4.size, fun i hi => (hb4.block i (by have := HB3.out.size; omega)).trans (HB3.out.block i hi)⟩)
      have HT4 := hid ((hb4.block _ (lt_of_block HT3.out)).trans HT3.out)
      clear hb4 t0 t1 t2
      obtain ⟨t0, t1, t2⟩ := topJ_cells HT4.out
      have HNR := hid (oNear_any (x0 := .int .i64 wd) (x1 := .slice dv n dc) (HL.out.below HB4.out) b (Nat.le_trans HJL.out (by decide)))
      go_wp2_with fail
      refine HNR.out.mono ?_
      rintro en w5 ⟨⟨v, rfl, hv⟩, hb5⟩
      have HB5 := hid (show Below w.heap.size w w5 from ⟨hb5.os.trans HB4.out.os, hb5.tape.trans HB4.out.tape, hb5.output.trans HB4.out.output, Nat.le_trans HB4.out.size hb5.size, fun i hi => (hb5.block i (by have := HB4.out.size; omega)).trans (HB4.out.block i hi)⟩)
      clear hb5 t0 t1 t2
      obtain ⟨ao, cp, rfl, hcell⟩ := hv.form
      obtain ⟨L, hL⟩ : ∃ L, L = (nearS b js).length := ⟨_, rfl⟩
      rw [← hL]
      have HLL := hid hL
      have HCL := hid hcell
      have hL63 : L ≤ 80 := by have := nearS_len b js; have := HJL.out; omega
      clear hL hcell hv
      go_wp2_with fail
      go_loopw [14] (fun i wr => ∃ j : Nat, j ≤ L ∧ i = .int .i64 j ∧ Hid (∀ (i : Nat) (z : Int), i < j → (nearS b js)[i]? = some z → ¬ z = d) ∧ Hid (wr = w5)) (fun i _ => L - (intOf i).toNat)
      case atStart => exact ⟨0, Nat.zero_le _, rfl, hid fun i z h => absurd h (Nat.not_lt_zero _), hid rfl⟩
      case round =>
        obtain ⟨j, hj, rfl, hA, hW⟩ := hrel
        obtain rfl := hW.out
        by_cases hlt : j < L
        · obtain ⟨z, hz⟩ : ∃ z, (nearS b js)[j]? = some z := ⟨_, List.getElem?_eq_getElem (by have := HLL.out; omega)⟩
          obtain ⟨g, rfl, hg, hc⟩ := HCL.out.resolve_left (fun e => by rw [e] at hz; simp at hz)
          have y0 := hc j z hz
          have jI : (j : Int) < (L : Int) := by omega
          have j0 : (0 : Int) ≤ (j : Int) := by omega
          have HZJ := hid hz
          clear hc hz
          by_cases he : z = d
          · subst he
            go_wp2_with fail
            refine (HAL.out _).mono ?_
            rintro en w6 ⟨rfl, hb6⟩
            have HB6 := hid (show Below w.heap.size w w6 from ⟨hb6.os.trans HB5.out.os, hb6.tape.trans HB5.out.tape, hb6.output.trans HB5.out.output, Nat.le_trans HB5.out.size hb6.size, fun i hi => (hb6.block i (by have := HB5.out.size; omega)).trans (HB5.out.block i hi)⟩)
            go_wp2
            go_ret
            exact ⟨rfl, HB6.out⟩
          · have he2 : (z == d) = false := by rw [beq_eq_false_iff_ne]; exact he
            have HA2 := hid (show ∀ (i : Nat) (z : Int), i < j + 1 → (nearS b js)[i]? = some z → ¬ z = d from fun i y hi hy => by
              by_cases e : i = j
              · rw [e, HZJ.out] at hy
                injection hy with hy
                rw [← hy]; exact he
              · exact hA.out i y (by omega) hy)
            clear he
            go_wp2
            go_roundw
            case rel => exact ⟨j + 1, by omega, by go_num, HA2, hid trivial⟩
            case measure => simp [intOf]; omega
        · exfalso
          obtain ⟨i, hi⟩ := List.getElem?_of_mem HMEM.out
          exact hA.out i d (by have := (List.getElem?_eq_some_iff.1 hi).1; have := HLL.out; omega) hi rfl
end Go.Proofs.YtebaopiedlioiaaGreatDoor
