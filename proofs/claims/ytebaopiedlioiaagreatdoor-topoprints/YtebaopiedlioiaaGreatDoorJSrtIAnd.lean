/-
  The reader of topologies: a link, both ways.
  The reader of topologies within a line of a link: two blocks change, the reader's and that of the ends that are taken.
  Numbers in order, each once. Plain mathematics: no program is named here.
  topo.Near of any links.
  slices.Sort and slices.Compact over a row of numbers: in order, each once.
-/
import Derived.Test.YtebaopiedlioiaaGreatDoorWRefSAnd
import Derived.Test.YtebaopiedlioiaaGreatDoorNLay
import Derived.Test.YtebaopiedlioiaaGreatDoorJInsAnd
import Derived.Deep.DeepCutAuto
import Derived.Deep.AppendLies
import Derived.Test.YtebaopiedlioiaaGreatDoorWLSayAnd
import Derived.Test.YtebaopiedlioiaaGreatDoorJDevBAnd
namespace Go.Proofs.YtebaopiedlioiaaGreatDoor
open Go.RowKit Go.Sort Go.Lib

theorem Tryz.fSortI : Tryz.laysSortI_ren.f 189 = 51 := by kernel_rfl
theorem Tryz.fCompactI : Tryz.laysCompactI_ren.f 20 = 52 := by kernel_rfl

/-- A block of numbers, of which the first are these. -/
def IntAt (w : World) (g : Nat) (zs : List Int) : Prop := ∃ cs, w.heap[g]? = some (.cells cs 3 (0, 0)) ∧ ∀ (i : Nat) (z : Int), zs[i]? = some z → cs[i]? = some (.int .i64 z)
theorem IntAt.cell {w : World} {g : Nat} {zs : List Int} (h : IntAt w g zs) {i : Nat} {z : Int} (hz : zs[i]? = some z) : w.cell? ⟨g, i, none⟩ = some (.int .i64 z) := by
  obtain ⟨cs, h1, h2⟩ := h
  rw [cell_at h1]; exact h2 i z hz
theorem IntAt.lt {w : World} {g : Nat} {zs : List Int} (h : IntAt w g zs) : g < w.heap.size := by
  obtain ⟨cs, h1, h2⟩ := h
  exact lt_of_block h1
theorem IntAt.holds {w : World} {g : Nat} {zs : List Int} (h : IntAt w g zs) : Holds (Value.int .i64) w g 0 zs.toArray := by
  intro j hj
  simp only [List.size_toArray] at hj
  obtain ⟨cs, h1, h2⟩ := h
  refine ⟨?_, free_of h1⟩
  rw [Nat.zero_add, cell_at h1, h2 j zs[j] (List.getElem?_eq_getElem hj)]
  simp [hj]
theorem IntAt.put {w : World} {g : Nat} {zs ys : List Int} (h : IntAt w g zs) (hl : ys.length = zs.length) (n : Nat) : IntAt (putRow (Value.int .i64) (Sort.ahead w n) g 0 ys.toArray) g ys := by
  obtain ⟨cs, h1, h2⟩ := h
  have hc : ∀ (i : Nat) (z : Int), ys[i]? = some z → i < cs.size := fun i z hz => by
    have hi : i < zs.length := by have := (List.getElem?_eq_some_iff.1 hz).1; omega
    exact (Array.getElem?_eq_some_iff.1 (h2 i zs[i] (List.getElem?_eq_getElem hi))).1
  refine ⟨putCells (Value.int .i64) 0 ys.toArray cs, ?_, fun i z hz => ?_⟩
  · show (mapBlock (Sort.ahead w n) g (putCells (Value.int .i64) 0 ys.toArray)).heap[g]? = _
    have h1' : (Sort.ahead w n).heap[g]? = some (.cells cs 3 (0, 0)) := h1
    unfold mapBlock
    simp only [Array.getElem?_modify, h1', if_true, Option.map_some]
    rfl
  · have hi := hc i z hz
    have hiy : i < ys.length := (List.getElem?_eq_some_iff.1 hz).1
    unfold putCells
    rw [Array.getElem?_mapIdx, Array.getElem?_eq_getElem hi]
    simp only [Option.map_some, Nat.zero_le, Nat.zero_add, List.size_toArray, hiy, and_self, if_true, Nat.sub_zero]
    have : ys.toArray[i]! = z := by
      rw [List.getElem?_eq_getElem hiy] at hz
      simp only [Option.some.injEq] at hz
      simp [hiy, hz]
    rw [this]
theorem put_grownI (w : World) (g n : Nat) (ys : List Int) (os : Array Obj) : w.grownBy (Sort.grow (putRow (Value.int .i64) (Sort.ahead w n) g 0 ys.toArray) os) (some g) := by
  refine ⟨rfl, rfl, rfl, by simp [Sort.grow, putRow, mapBlock, Sort.ahead], fun i hi hne => ?_⟩
  have hne' : i ≠ g := fun e => hne (by rw [e])
  have hsz : i < (putRow (Value.int .i64) (Sort.ahead w n) g 0 ys.toArray).heap.size := by rw [size_putRow]; exact hi
  show ((putRow (Value.int .i64) (Sort.ahead w n) g 0 ys.toArray).heap ++ os)[i]? = _
  rw [Array.getElem?_append_left hsz]
  show (mapBlock (Sort.ahead w n) g _).heap[i]? = _
  unfold mapBlock
  simp only [Array.getElem?_modify]
  rw [if_neg (fun e => hne' e.symm)]
  rfl
theorem IntAt.grow {w : World} {g : Nat} {zs : List Int} (h : IntAt w g zs) (os : Array Obj) : IntAt (Sort.grow w os) g zs := by
  obtain ⟨cs, h1, h2⟩ := h
  refine ⟨cs, ?_, h2⟩
  show (w.heap ++ os)[g]? = _
  rw [Array.getElem?_append_left (lt_of_block h1)]
  exact h1

theorem sort_ints {w : World} {g : Nat} {zs : List Int} (h : IntAt w g zs) (cap : Nat) (hz : zs.length ≤ 1048576) :
    Calls Tryz.prog 51 #[.slice (some ⟨g, 0, none⟩) zs.length cap] w fun e w' => e = .returned (.tuple #[]) ∧ IntAt w' g (zs.mergeSort fun x y => decide (x ≤ y)) ∧ w.grownBy w' (some g) := by
  have := Any.slices_Sort_int Tryz.laysSortI g 0 cap zs w h.holds h.lt (by omega)
  rw [Tryz.fSortI] at this
  refine this.mono ?_
  rintro e w' ⟨rfl, n, os, rfl⟩
  exact ⟨rfl, (h.put (by simp) n).grow os, put_grownI _ _ _ _ _⟩

theorem compact_ints {w : World} {g : Nat} {zs : List Int} (h : IntAt w g zs) (cap : Nat) (hz : zs.length ≤ 1048576) (hc : zs.length ≤ cap) :
    Calls Tryz.prog 52 #[.slice (some ⟨g, 0, none⟩) zs.length cap] w fun e w' => e = .returned (.slice (some ⟨g, 0, none⟩) (Lib.compact zs).length cap) ∧ IntAt w' g (Lib.compact zs) ∧ w.grownBy w' (some g) := by
  have := Any.slices_Compact_int Tryz.laysCompactI g 0 cap zs w h.holds (by omega) hc
  rw [Tryz.fCompactI] at this
  refine this.mono ?_
  rintro e w' ⟨rfl, q, rfl⟩
  have hle : (Lib.compact zs).length ≤ zs.length := by
    unfold Lib.compact Lib.compactUpTo
    rw [List.length_map]
    exact Nat.le_trans (List.length_filter_le _ _) (by simp)
  have hp := h.put (ys := Lib.compact zs ++ List.replicate (zs.length - (Lib.compact zs).length) 0) (by simp; omega) q
  refine ⟨rfl, ?_, ?_⟩
  · obtain ⟨cs, h1, h2⟩ := hp
    exact ⟨cs, h1, fun i z hi => h2 i z (by rw [List.getElem?_append_left (List.getElem?_eq_some_iff.1 hi).1]; exact hi)⟩
  · have := put_grownI w g q (Lib.compact zs ++ List.replicate (zs.length - (Lib.compact zs).length) 0) #[]
    rwa [Sort.grow_empty] at this
set_option maxRecDepth 20000 in
set_option maxHeartbeats 2000000 in
theorem insert_nilI (w : World) : Calls Tryz.prog 114 #[.slice none 0 0, .int .i64 0, .int .i64 0] w fun e w' => e = .returned (.tuple #[]) ∧ w' = w := by
  go_enter Tryz.func114, Tryz.ntmps114
  go_wp2_with fail
  go_loopw [6] (fun x wr => x = .int .i64 1 ∧ wr = w) (fun _ _ => 0)
  case atStart => exact ⟨rfl, rfl⟩
  case round =>
    obtain ⟨rfl, rfl⟩ := hrel
    go_wp2
    exact bodyPost_end (v := .tuple #[]) (by simp [results, Tryz.results114, go_sem]) rfl ⟨rfl, rfl⟩
/-- A number, whatever it is. -/
def LenPI (w : World) (e : Ending) (w' : World) : Prop := ∃ k : Int, e = .returned (.int .i64 k) ∧ w' = w
set_option maxRecDepth 20000 in
set_option maxHeartbeats 2000000 in
theorem pdq_nilI (w : World) (n : Int) : Calls Tryz.prog 87 #[.slice none 0 0, .int .i64 0, .int .i64 0, .int .i64 n] w fun e w' => e = .returned (.tuple #[]) ∧ w' = w := by
  have HI := hid (fun W => insert_nilI W)
  go_enter Tryz.func87, Tryz.ntmps87
  go_wp2_with fail
  go_loopw [1, 2] (fun a b wr => a = .int .i64 0 ∧ b = .int .i64 0 ∧ wr = w) (fun _ _ _ => 0)
  case atStart => exact ⟨rfl, rfl, rfl⟩
  case round =>
    obtain ⟨rfl, rfl, rfl⟩ := hrel
    go_wp2_with fail
    refine (HI.out _).mono ?_
    rintro en w1 ⟨rfl, rfl⟩
    go_wp2
    exact bodyPost_ret (v := .tuple #[]) (by simp [results, Tryz.results87, go_sem]) rfl ⟨rfl, rfl⟩
set_option maxRecDepth 20000 in
set_option maxHeartbeats 2000000 in
theorem len64_zeroI (w : World) : Calls Tryz.prog 124 #[.int .u64 0] w fun e w' => LenPI w e w' := by
  go_enter Tryz.func124, Tryz.ntmps124
  go_wp2
  exact bodyPost_ret (v := .int .i64 (wrap64 (wrap64 (Lib.len8 0)))) (by simp [results, Tryz.results124, go_sem]) rfl ⟨_, rfl, rfl⟩
set_option maxRecDepth 20000 in
set_option maxHeartbeats 2000000 in
theorem len_zeroI (w : World) : Calls Tryz.prog 88 #[.int .u64 0] w fun e w' => LenPI w e w' := by
  have HL := hid (fun W => len64_zeroI W)
  go_enter Tryz.func88, Tryz.ntmps88
  go_wp2_with fail
  refine (HL.out _).mono ?_
  rintro en w1 ⟨k, rfl, rfl⟩
  go_wp2
  exact bodyPost_ret (v := .int .i64 k) (by simp [results, Tryz.results88, go_sem]) rfl ⟨k, rfl, rfl⟩
set_option maxRecDepth 20000 in
set_option maxHeartbeats 2000000 in
theorem sort_nilI (w : World) : Calls Tryz.prog 51 #[.slice none 0 0] w fun e w' => e = .returned (.tuple #[]) ∧ w' = w := by
  have HP := hid (fun W n => pdq_nilI W n)
  have HL := hid (fun W => len_zeroI W)
  go_enter Tryz.func51, Tryz.ntmps51
  go_wp2_with fail
  refine (HL.out _).mono ?_
  rintro en w1 ⟨k, rfl, rfl⟩
  go_wp2_with fail
  refine (HP.out _ _).mono ?_
  rintro en w1 ⟨rfl, rfl⟩
  go_wp2
  exact bodyPost_end (v := .tuple #[]) (by simp [results, Tryz.results51, go_sem]) rfl ⟨rfl, rfl⟩
set_option maxRecDepth 20000 in
set_option maxHeartbeats 2000000 in
theorem compact_nilI (w : World) : Calls Tryz.prog 52 #[.slice none 0 0] w fun e w' => e = .returned (.slice none 0 0) ∧ w' = w := by
  go_enter Tryz.func52, Tryz.ntmps52
  go_wp2
  exact bodyPost_ret (v := .slice none 0 0) (by simp [results, Tryz.results52, go_sem]) rfl ⟨rfl, rfl⟩
end Go.Proofs.YtebaopiedlioiaaGreatDoor
namespace Go.Proofs.YtebaopiedlioiaaGreatDoor
open Go.RowKit

/-- The devices at the other ends, as they come. -/
def nearL (d : Int) (ls : List LkZ) : List Int := ls.flatMap fun l => (if l.1 = d then [l.2.2.1] else []) ++ (if l.2.2.1 = d then [l.1] else [])
abbrev numsJ (zs : List Int) : List Value := zs.map (Value.int .i64)

theorem Tryz.infoIntN : (Tryz.prog.info? 3).map (fun i => (i.zero, i.size, i.bytes)) = some (some (.int .i64 0), 1, 8) := by kernel_rfl
/-- The devices that were met among the first links, in a row of one's own. -/
structure NrI (w : World) (d : Int) (ls : List LkZ) (k : Nat) (v : Value) (m : Nat) (wr : World) : Prop where
  row : wr.ownsRow w.heap.size 3 1 v m (numsJ (nearL d (ls.take k)))
  len : m ≤ 2 * k
  below : Below w.heap.size w wr
theorem nearL_snoc (d : Int) {ls : List LkZ} {k : Nat} {a b : Int} {p q : List UInt8} (h : ls[k]? = some (a, p, b, q)) : numsJ (nearL d (ls.take (k + 1))) = numsJ (nearL d (ls.take k)) ++ (numsJ (if a = d then [b] else []) ++ numsJ (if b = d then [a] else [])) := by
  have hk := (List.getElem?_eq_some_iff.1 h).1
  have hg : ls[k] = (a, p, b, q) := by rw [List.getElem?_eq_getElem hk] at h; exact Option.some.inj h
  rw [List.take_succ_eq_append_getElem hk, hg]
  unfold nearL numsJ
  rw [List.flatMap_append]
  simp
/-- The devices next to one, rising, each once. -/
def nearS (d : Int) (ls : List LkZ) : List Int := Lib.compact ((nearL d ls).mergeSort fun x y => decide (x ≤ y))
/-- A row of numbers as it is told. -/
def NumsV (w : World) (v : Value) (zs : List Int) : Prop := (zs = [] ∧ v = .slice none 0 0) ∨ ∃ g cap, v = .slice (some ⟨g, 0, none⟩) zs.length cap ∧ IntAt w g zs
theorem own_ints {w : World} {B : Nat} {v : Value} {m : Nat} {zs : List Int} (h : w.ownsRow B 3 1 v m (numsJ zs)) : m = zs.length ∧ ((zs = [] ∧ v = .slice none 0 0) ∨ ∃ g cap, v = .slice (some ⟨g, 0, none⟩) zs.length cap ∧ B ≤ g ∧ IntAt w g zs ∧ zs.length ≤ cap) := by
  have hm : m = zs.length := by have := h.1; simp at this; omega
  refine ⟨hm, ?_⟩
  rcases h.2 with ⟨rfl, e⟩ | ⟨g, cap, cur, rfl, hB, hh, hc, _, hz, ht⟩
  · left; exact ⟨List.eq_nil_of_length_eq_zero (by omega), rfl⟩
  · right
    refine ⟨g, cap, by rw [hm], hB, ⟨cur, hh, fun i z hi => ?_⟩, by omega⟩
    have hu : (numsJ zs)[i]? = some (.int .i64 z) := by unfold numsJ; rw [List.getElem?_map, hi]; rfl
    rw [← ht, List.getElem?_take] at hu
    split at hu
    · rw [Array.getElem?_toList] at hu; exact hu
    · cases hu

set_option maxRecDepth 20000 in
set_option maxHeartbeats 1000000 in
theorem oNear_any {w : World} {x0 x1 v : Value} {ls : List LkZ} (hL : LkV w v ls) (d : Int) (hlen : ls.length ≤ 500000) :
    Calls Tryz.prog 25 #[.agg #[x0, x1, v], .int .i64 d] w fun e w' => (∃ v, e = .returned v ∧ NumsV w' v (nearS d ls)) ∧ Below w.heap.size w w' := by
  obtain ⟨av, cap, rfl, hcell⟩ := hL.form
  obtain ⟨n, hn⟩ : ∃ n, ls.length = n := ⟨_, rfl⟩
  obtain ⟨i0, hi, hz0, hz1, hz2⟩ := info_parts Tryz.infoIntN
  have HI := hid hi
  have HZ0 := hid hz0
  have HZ1 := hid hz1
  have HZ2 := hid hz2
  clear hi hz0 hz1 hz2
  have HC := hid hcell
  have HN := hid hn
  rw [hn] at hlen ⊢
  clear hcell hn hL
  have I0 := hid (show NrI w d ls 0 (.slice none 0 0) 0 (w.alloc (.cells #[x0, x1, .slice av n cap] 25)) from ⟨World.ownsRow_nil _ _ _ _, Nat.le_refl _, (Below.refl _ _).alloc (Nat.le_refl _) _⟩)
  go_enter Tryz.func25, Tryz.ntmps25
  go_wp2_with fail
  go_loopw [5, 11] (fun x i wr => ∃ (k m : Nat) (ao : Option Addr) (c : Nat), k ≤ n ∧ i = .int .i64 k ∧ x = .slice ao m c ∧ Hid (NrI w d ls k (.slice ao m c) m wr)) (fun _ i _ => n - (intOf i).toNat)
  case atStart => exact ⟨0, 0, none, 0, Nat.zero_le _, rfl, rfl, I0⟩
  case round =>
    obtain ⟨k, m, ao, c, hk, rfl, rfl, hI⟩ := hrel
    by_cases hkn : k < n
    · have hkl : k < ls.length := by rw [HN.out]; exact hkn
      obtain ⟨⟨a, p, b, q⟩, hq⟩ : ∃ q, ls[k]? = some q := ⟨_, List.getElem?_eq_getElem hkl⟩
      obtain ⟨G, o, rfl, hG, hcells⟩ : ∃ G o, av = some ⟨G, o, none⟩ ∧ G < w.heap.size ∧ ∀ (i : Nat) (q : LkZ), ls[i]? = some q → w.cell? ⟨G, o + i * 4, none⟩ = some (.int .i64 q.1) ∧ w.cell? ⟨G, o + i * 4 + 1, none⟩ = some (.string (tx q.2.1)) ∧ w.cell? ⟨G, o + i * 4 + 2, none⟩ = some (.int .i64 q.2.2.1) ∧ w.cell? ⟨G, o + i * 4 + 3, none⟩ = some (.string (tx q.2.2.2)) := by
        rcases HC.out with e | h
        · rw [e] at hkl; exact absurd hkl (Nat.not_lt_zero _)
        · exact h
      have hwr : ∀ i, i < w.heap.size → wr.heap[i]? = w.heap[i]? := fun i hi => hI.out.below.block i hi
      obtain ⟨z0, z1, z2, z3⟩ := hcells k _ hq
      have y0 := (World.cell?_of_block (a := ⟨G, o + k * 4, none⟩) (hwr G hG)).trans z0
      have y1 := (World.cell?_of_block (a := ⟨G, o + k * 4 + 1, none⟩) (hwr G hG)).trans z1
      have y2 := (World.cell?_of_block (a := ⟨G, o + k * 4 + 2, none⟩) (hwr G hG)).trans z2
      have y3 := (World.cell?_of_block (a := ⟨G, o + k * 4 + 3, none⟩) (hwr G hG)).trans z3
      simp only at y0 y1 y2 y3
      have HSN := hid (nearL_snoc d hq)
      have hkI : (k : Int) < (n : Int) := by omega
      have hk0 : (0 : Int) ≤ (k : Int) := by omega
      have hml := hI.out.len
      clear hcells z0 z1 z2 z3 hq hkl hwr
      obtain ⟨W1, hW1⟩ : ∃ W1, W1 = wr.alloc (.cells #[.int .i64 a, .string (tx p), .int .i64 b, .string (tx q)] 83) := ⟨_, rfl⟩
      have hb1 : Below wr.heap.size wr W1 := by rw [hW1]; exact (Below.refl _ _).alloc (Nat.le_refl _) _
      have hx1 : W1.heap[wr.heap.size]? = some (.cells #[.int .i64 a, .string (tx p), .int .i64 b, .string (tx q)] 83) := by rw [hW1]; exact new_0 _ _
      obtain ⟨kb, hkb⟩ : ∃ kb, kb = wr.heap.size := ⟨_, rfl⟩
      rw [← hkb] at hx1
      have HB1 := hid hb1
      have HX1 := hid hx1
      have HKB := hid hkb
      have r0 : W1.cell? ⟨kb, 0, none⟩ = some (.int .i64 a) := by rw [cell_at hx1]; rfl
      have r2 : W1.cell? ⟨kb, 2, none⟩ = some (.int .i64 b) := by rw [cell_at hx1]; rfl
      clear hx1 hb1
      obtain ⟨ba, hba⟩ : ∃ ba, (a == d) = ba := ⟨_, rfl⟩
      obtain ⟨bb, hbb⟩ : ∃ bb, (b == d) = bb := ⟨_, rfl⟩
      have HBA := hid (show (ba = true → a = d) ∧ (ba = false → ¬ a = d) from ⟨fun q => by rw [q] at hba; exact beq_iff_eq.1 hba, fun q => by rw [q] at hba; exact beq_eq_false_iff_ne.1 hba⟩)
      have HBB := hid (show (bb = true → b = d) ∧ (bb = false → ¬ b = d) from ⟨fun q => by rw [q] at hbb; exact beq_iff_eq.1 hbb, fun q => by rw [q] at hbb; exact beq_eq_false_iff_ne.1 hbb⟩)
      have hs1 : w.heap.size ≤ wr.heap.size := hI.out.below.size
      have HOW := hid (fun (ob : Obj) => (show (W1.alloc ob).ownsRow w.heap.size 3 1 (.slice ao m c) m (numsJ (nearL d (ls.take k))) from own_sameJ hI.out.row fun i r => by
        have hi := (hI.out.row.lt i r).2
        rw [Below.heap_alloc _ _ _ (by have := HB1.out.size; omega), HB1.out.block i hi]))
      have HBS := hid (show Below w.heap.size w W1 from by
        have h1 := hI.out.below
        have h2 := HB1.out
        exact ⟨h2.os.trans h1.os, h2.tape.trans h1.tape, h2.output.trans h1.output, Nat.le_trans h1.size h2.size, fun i hi => (h2.block i (by omega)).trans (h1.block i hi)⟩)
      have hsW : w.heap.size ≤ W1.heap.size := HBS.out.size
      have hkW : kb < W1.heap.size := lt_of_block HX1.out
      have hwk : w.heap.size ≤ kb := by rw [HKB.out]; exact hs1
      have hdk : (Value.slice ao m c).ownBlock ≠ some kb := fun r => by have := (hI.out.row.lt kb r).2; have := HKB.out; omega
      go_upto_region 5 with fail
      rw [← hW1, ← hkb]
      clear hW1 hkb
      go_upto_if 18 with fail
      go_cut [5] (fun x wz => ∃ (m' : Nat) (ao' : Option Addr) (c' : Nat), x = .slice ao' m' c' ∧ Hid (wz.ownsRow w.heap.size 3 1 (.slice ao' m' c') m' (numsJ (nearL d (ls.take k)) ++ numsJ (if a = d then [b] else [])) ∧ m' ≤ m + 1 ∧ Below w.heap.size w wz ∧ wz.heap[kb]? = some (.cells #[.int .i64 a, .string (tx p), .int .i64 b, .string (tx q)] 83)))
      case first =>
        cases ba with
        | true =>
          have HAD := hid (HBA.out.1 rfl)
          go_wp2_with (first | (at_builtin; refine wpList_append_lies _ rfl (.tmp 19) (.tmp 22) 52 rfl w.heap.size 3 i0 (.int .i64 0) 1 8 Tryz.underlying52 HI.out HZ0.out HZ1.out HZ2.out rfl (by decide) (.slice ao m c) m (numsJ (nearL d (ls.take k))) rfl (HOW.out _) ⟨W1.heap.size, 0, none⟩ 1 1 [.int .i64 b] rfl rfl (World.news_of_block (new_0 W1 _)) (by simp [Value.oneCell']) (by decide) (by unfold maxLen; omega) (by omega) (by simp only [World.size_alloc]; omega) (W1.heap.size + 1) (by simp) ?_; intro g1 cap1 w1 hown1 hgrow1 hat1 hlt1))
          go_meet
          refine ⟨m + 1, some ⟨g1, 0, none⟩, cap1, rfl, hid ⟨?_, Nat.le_refl _, ?_, ?_⟩⟩
          · rw [if_pos HAD.out]; exact hown1
          · refine ⟨hgrow1.os.trans HBS.out.os, hgrow1.tape.trans HBS.out.tape, hgrow1.output.trans HBS.out.output, by have := hgrow1.size; simp only [World.size_alloc] at this; omega, fun i hi => ?_⟩
            rw [hgrow1.block i (by simp only [World.size_alloc]; omega) (fun r => by have := (hI.out.row.lt i r.symm).1; omega), Below.heap_alloc _ _ _ (by omega), HBS.out.block i hi]
          · rw [hgrow1.block kb (by simp only [World.size_alloc]; omega) (fun r => hdk r.symm), Below.heap_alloc _ _ _ hkW, HX1.out]
        | false =>
          have HAD := hid (HBA.out.2 rfl)
          go_wp2_with fail
          go_meet
          refine ⟨m, ao, c, rfl, hid ⟨?_, by omega, HBS.out, HX1.out⟩⟩
          rw [if_neg HAD.out]
          have := own_sameJ (w' := W1) hI.out.row fun i r => HB1.out.block i (hI.out.row.lt i r).2
          simpa using this
      case rest =>
        obtain ⟨m', ao', c', rfl, hC⟩ := hcut
        have hm' := hC.out.2.1
        have hxc := hC.out.2.2.2
        have q0 : wc.cell? ⟨kb, 0, none⟩ = some (.int .i64 a) := by rw [cell_at hxc]; rfl
        have q2 : wc.cell? ⟨kb, 2, none⟩ = some (.int .i64 b) := by rw [cell_at hxc]; rfl
        have hkc : kb < wc.heap.size := lt_of_block hxc
        have hsc : w.heap.size ≤ wc.heap.size := hC.out.2.2.1.size
        have HOC := hid (fun (ob : Obj) => (show (wc.alloc ob).ownsRow w.heap.size 3 1 (.slice ao' m' c') m' (numsJ (nearL d (ls.take k)) ++ numsJ (if a = d then [b] else [])) from own_sameJ hC.out.1 fun i r => by
          have hi := (hC.out.1.lt i r).2
          rw [Below.heap_alloc _ _ _ (by omega)]))
        clear hxc r0 r2
        cases bb with
        | true =>
          have HAD := hid (HBB.out.1 rfl)
          go_wp2_with (first | (at_builtin; refine wpList_append_lies _ rfl (.tmp 28) (.tmp 31) 52 rfl w.heap.size 3 i0 (.int .i64 0) 1 8 Tryz.underlying52 HI.out HZ0.out HZ1.out HZ2.out rfl (by decide) (.slice ao' m' c') m' (numsJ (nearL d (ls.take k)) ++ numsJ (if a = d then [b] else [])) rfl (HOC.out _) ⟨wc.heap.size, 0, none⟩ 1 1 [.int .i64 a] rfl rfl (World.news_of_block (new_0 wc _)) (by simp [Value.oneCell']) (by decide) (by unfold maxLen; omega) (by omega) (by simp only [World.size_alloc]; omega) (wc.heap.size + 1) (by simp) ?_; intro g1 cap1 w1 hown1 hgrow1 hat1 hlt1; have HNX := hid (show NrI w d ls (k + 1) (.slice (some ⟨g1, 0, none⟩) (m' + 1) cap1) (m' + 1) w1 from by
              refine ⟨?_, by omega, ?_⟩
              · rw [HSN.out, if_pos HAD.out, ← List.append_assoc]; exact hown1
              · have hbc := hC.out.2.2.1
                refine ⟨hgrow1.os.trans hbc.os, hgrow1.tape.trans hbc.tape, hgrow1.output.trans hbc.output, by have := hgrow1.size; simp only [World.size_alloc] at this; omega, fun i hi => ?_⟩
                rw [hgrow1.block i (by simp only [World.size_alloc]; omega) (fun r => by have := (hC.out.1.lt i r.symm).1; omega), Below.heap_alloc _ _ _ (by omega), hbc.block i hi]); clear hown1 hgrow1 hat1))
          go_roundw
          case rel => exact ⟨k + 1, m' + 1, some ⟨g1, 0, none⟩, cap1, by omega, by go_num, rfl, HNX⟩
          case measure => simp [intOf]; omega
        | false =>
          have HAD := hid (HBB.out.2 rfl)
          have HNX := hid (show NrI w d ls (k + 1) (.slice ao' m' c') m' wc from by
            refine ⟨?_, by omega, hC.out.2.2.1⟩
            rw [HSN.out, if_neg HAD.out]
            simpa using hC.out.1)
          go_wp2
          exact ⟨⟨k + 1, m', ao', c', by omega, by simp, rfl, HNX⟩, by simp [intOf]; omega⟩
    · have hkn2 : k = n := by omega
      have HE := hid (show ls.take k = ls from List.take_of_length_le (by rw [HN.out]; omega))
      obtain ⟨hm, hz⟩ := own_ints hI.out.row
      rw [HE.out] at hm hz
      have hml : m ≤ 1000000 := by have := hI.out.len; omega
      have HB := hid hI.out.below
      have hI0 : ¬ (k : Int) < (n : Int) := by omega
      rcases hz with ⟨e1, e2⟩ | ⟨g, cp, e2, hB, hat, hcp⟩
      · have HS := hid (show nearS d ls = [] by unfold nearS; rw [e1, List.mergeSort_nil]; rfl)
        have hm0 : m = 0 := by rw [hm, e1]; rfl
        injection e2 with e2 e3 e4
        subst e2; subst e4; subst hm0
        have HSN := hid (fun W => sort_nilI W)
        have HCN := hid (fun W => compact_nilI W)
        clear hm e1 e3
        go_wp2_with fail
        refine (HSN.out _).mono ?_
        rintro en w2 ⟨rfl, rfl⟩
        go_wp2_with fail
        refine (HCN.out _).mono ?_
        rintro en w2 ⟨rfl, rfl⟩
        go_wp2
        refine bodyPost_ret (v := .slice none 0 0) (by simp [results, Tryz.results25, go_sem]) rfl ⟨⟨_, rfl, .inl ⟨HS.out, rfl⟩⟩, HB.out⟩
      · injection e2 with e2 e3 e4
        subst e2; subst e4
        have HM := hid hm
        have HA := hid hat
        have HBG := hid hB
        have hls : ((nearL d ls).mergeSort fun x y => decide (x ≤ y)).length = m := by rw [List.length_mergeSort, ← HM.out]
        have HS1 := hid (by
          have := sort_ints hat c (by rw [← HM.out]; omega)
          rw [← HM.out] at this
          exact this : Calls Tryz.prog 51 #[.slice (some ⟨g, 0, none⟩) m c] wr fun e w' => e = .returned (.tuple #[]) ∧ IntAt w' g ((nearL d ls).mergeSort fun x y => decide (x ≤ y)) ∧ wr.grownBy w' (some g))
        have HLS := hid hls
        have hcpm : m ≤ c := by rw [HM.out]; exact hcp
        clear hm hat e3 hls hcp hB
        go_wp2_with fail
        refine HS1.out.mono ?_
        rintro en w2 ⟨rfl, hat2, hg2⟩
        have HG2 := hid hg2
        have HS2 := hid (by
          have := compact_ints hat2 c (by rw [HLS.out]; omega) (by rw [HLS.out]; exact hcpm)
          rw [HLS.out] at this
          exact this : Calls Tryz.prog 52 #[.slice (some ⟨g, 0, none⟩) m c] w2 fun e w' => e = .returned (.slice (some ⟨g, 0, none⟩) (nearS d ls).length c) ∧ IntAt w' g (nearS d ls) ∧ w2.grownBy w' (some g))
        clear hat2 hg2
        go_wp2_with fail
        refine HS2.out.mono ?_
        rintro en w3 ⟨rfl, hat3, hg3⟩
        have HE3 := hid (show (∃ v, Ending.returned (.slice (some ⟨g, 0, none⟩) (nearS d ls).length c) = .returned v ∧ NumsV w3 v (nearS d ls)) ∧ Below w.heap.size w w3 from by
          refine ⟨⟨_, rfl, .inr ⟨g, c, rfl, hat3⟩⟩, ?_⟩
          have h1 := HG2.out
          have h0 := HB.out
          have hb := HBG.out
          exact ⟨hg3.os.trans (h1.os.trans h0.os), hg3.tape.trans (h1.tape.trans h0.tape), hg3.output.trans (h1.output.trans h0.output), Nat.le_trans h0.size (Nat.le_trans h1.size hg3.size), fun i hi => by
            rw [hg3.block i (by have := h0.size; have := h1.size; omega) (fun r => by injection r with r; omega), h1.block i (by have := h0.size; omega) (fun r => by injection r with r; omega), h0.block i hi]⟩)
        obtain ⟨L, hL⟩ : ∃ L, L = (nearS d ls).length := ⟨_, rfl⟩
        rw [← hL] at HE3 ⊢
        clear hat3 hg3 hL
        go_wp2
        exact bodyPost_ret (v := .slice (some ⟨g, 0, none⟩) L c) (by simp [results, Tryz.results25, go_sem]) rfl HE3.out
end Go.Proofs.YtebaopiedlioiaaGreatDoor
namespace Go.Proofs.YtebaopiedlioiaaGreatDoor

theorem upTo_succI (d : Array Int) (m : Nat) : Lib.compactUpTo d (m + 1) = Lib.compactUpTo d m ++ (if Lib.keeps d m then [d[m]!] else []) := by
  unfold Lib.compactUpTo
  rw [List.range_succ, List.filter_append, List.map_append]
  congr 1
  simp only [List.filter_cons, List.filter_nil]
  split <;> rfl
/-- A row in order, put together: it rises, and has the same texts. -/
theorem compact_riseI {z : List Int} (h : z.Pairwise (· ≤ ·)) : List.Pairwise (· < ·) (Lib.compact z) ∧ ∀ x, x ∈ Lib.compact z ↔ x ∈ z := by
  have key : ∀ m, m ≤ z.length → List.Pairwise (· < ·) (Lib.compactUpTo z.toArray m) ∧ (∀ x, x ∈ Lib.compactUpTo z.toArray m ↔ x ∈ z.take m) ∧ (∀ x, x ∈ Lib.compactUpTo z.toArray m → 0 < m → x ≤ z.toArray[m - 1]!) := by
    intro m
    induction m with
    | zero => intro _; exact ⟨List.Pairwise.nil, fun x => by simp [Lib.compactUpTo], fun x _ h0 => absurd h0 (Nat.lt_irrefl 0)⟩
    | succ m ih =>
      intro hm
      obtain ⟨h1, h2, h3⟩ := ih (by omega)
      have hget : z.toArray[m]! = z[m] := by simp [show m < z.length by omega]
      have htake : z.take (m + 1) = z.take m ++ [z[m]] := by rw [List.take_succ_eq_append_getElem (by omega)]
      have hle : ∀ x ∈ z.take m, x ≤ z[m] := fun x hx => by
        obtain ⟨j, hj, rfl⟩ := List.getElem_of_mem hx
        simp only [List.length_take] at hj
        rw [List.getElem_take]
        exact List.pairwise_iff_getElem.1 h j m (by omega) (by omega) (by omega)
      rw [upTo_succI]
      have hlast : ∀ x, x ∈ Lib.compactUpTo z.toArray m → x ≤ z[m] := fun x hx => hle x ((h2 x).1 hx)
      rw [hget]
      cases hk : Lib.keeps z.toArray m with
      | true =>
        simp only [if_true]
        refine ⟨?_, fun x => ?_, fun x hx _ => ?_⟩
        · refine List.pairwise_append.2 ⟨h1, by simp, fun a ha b hb => ?_⟩
          rw [List.mem_singleton] at hb
          subst hb
          refine Int.lt_iff_le_and_ne.2 ⟨hlast a ha, fun e => ?_⟩
          have hm0 : 0 < m := by
            rcases Nat.eq_zero_or_pos m with e0 | h0
            · subst e0; simp [Lib.compactUpTo] at ha
            · exact h0
          have hp : z.toArray[m - 1]! = z[m - 1] := by simp [show m - 1 < z.length by omega]
          have h4 := h3 a ha hm0
          rw [hp] at h4
          have h5 : z[m - 1] ≤ z[m] := List.pairwise_iff_getElem.1 h (m - 1) m (by omega) (by omega) (by omega)
          have e2 : z[m] = z[m - 1] := Int.le_antisymm (e ▸ h4) h5
          have : Lib.keeps z.toArray m = false := Lib.keeps_neg hm0 (by rw [hget, hp]; exact e2)
          rw [hk] at this; exact absurd this (by decide)
        · rw [List.mem_append, h2, htake, List.mem_append]
        · show x ≤ z.toArray[m + 1 - 1]!
          rw [Nat.add_sub_cancel, hget]
          rcases List.mem_append.1 hx with hx | hx
          · exact hlast x hx
          · rw [List.mem_singleton.1 hx]; exact Int.le_refl _
      | false =>
        simp only [Bool.false_eq_true, if_false, List.append_nil]
        refine ⟨h1, fun x => ?_, fun x hx _ => ?_⟩
        · rw [h2, htake, List.mem_append]
          constructor
          · exact Or.inl
          · rintro (h | h)
            · exact h
            · rw [List.mem_singleton] at h
              have hm0 : 0 < m := by
                rcases Nat.eq_zero_or_pos m with e0 | h0
                · subst e0; rw [Lib.keeps_lt_one _ 0 (by omega)] at hk; exact absurd hk (by decide)
                · exact h0
              have hp : z.toArray[m - 1]! = z[m - 1] := by simp [show m - 1 < z.length by omega]
              have e2 : z[m] = z[m - 1] := by
                by_cases e : z[m] = z[m - 1]
                · exact e
                · have : Lib.keeps z.toArray m = true := Lib.keeps_pos (by rw [hget, hp]; exact e)
                  rw [hk] at this; exact absurd this (by decide)
              rw [h, e2]
              have : z[m - 1] = (z.take m)[m - 1]'(by simp; omega) := by rw [List.getElem_take]
              rw [this]; exact List.getElem_mem _
        · show x ≤ z.toArray[m + 1 - 1]!
          rw [Nat.add_sub_cancel, hget]
          exact hlast x hx
  obtain ⟨h1, h2, _⟩ := key z.length (Nat.le_refl _)
  exact ⟨h1, fun x => by rw [show Lib.compact z = Lib.compactUpTo z.toArray z.length from rfl, h2, List.take_length]⟩
theorem nearS_spec (d : Int) (ls : List LkZ) : (nearS d ls).Pairwise (· < ·) ∧ ∀ x, x ∈ nearS d ls ↔ x ∈ nearL d ls := by
  have hs : ((nearL d ls).mergeSort fun x y => decide (x ≤ y)).Pairwise (· ≤ ·) := by
    have := List.pairwise_mergeSort (le := fun (x y : Int) => decide (x ≤ y)) (fun a b c h1 h2 => by simp at h1 h2 ⊢; omega) (fun a b => by simp; omega) (nearL d ls)
    exact this.imp (fun h => by simpa using h)
  obtain ⟨h1, h2⟩ := compact_riseI hs
  exact ⟨h1, fun x => by rw [nearS, h2, List.mem_mergeSort]⟩
theorem nearS_len (d : Int) (ls : List LkZ) : (nearS d ls).length ≤ 2 * ls.length := by
  have h1 : (nearL d ls).length ≤ 2 * ls.length := by
    unfold nearL
    induction ls with
    | nil => simp
    | cons a t ih =>
      rw [List.flatMap_cons, List.length_append, List.length_cons]
      have : ((if a.1 = d then [a.2.2.1] else []) ++ (if a.2.2.1 = d then [a.1] else [])).length ≤ 2 := by
        split <;> split <;> simp
      omega
  have h2 : (nearS d ls).length ≤ (nearL d ls).length := by
    unfold nearS Lib.compact Lib.compactUpTo
    rw [List.length_map]
    exact Nat.le_trans (List.length_filter_le _ _) (by simp)
  omega
theorem near_mem {d e : Int} {ls : List LkZ} {x : LkZ} (hx : x ∈ ls) (h : (x.1 = e ∧ x.2.2.1 = d) ∨ (x.2.2.1 = e ∧ x.1 = d)) : e ∈ nearS d ls := by
  rw [(nearS_spec d ls).2]
  unfold nearL
  rw [List.mem_flatMap]
  refine ⟨x, hx, ?_⟩
  rcases h with ⟨h1, h2⟩ | ⟨h1, h2⟩
  · simp [h1, h2]
  · simp [h1, h2]
end Go.Proofs.YtebaopiedlioiaaGreatDoor
namespace Go.Proofs.YtebaopiedlioiaaGreatDoor
open Go.RowKit
open Wo (Wd)

/-- A reader within a link's line since w0. -/
structure JL (w0 w : World) (rb g nb mb : Nat) (c0 c1 c2 : Value) (x : Wd) (l : List Wd) (e : Wd) (ns : List (List UInt8)) (ks : List (Nat × List UInt8)) : Prop where
  rd : JRd w rb g c0 c1 c2 (.map (some nb)) (.map (some mb)) x l e
  num : NumAt w nb ns
  tak : TakAt w mb ks
  on : Gr2 w0 w rb mb
theorem JL.start {w : World} {rb g nb mb : Nat} {c0 c1 c2 : Value} {x : Wd} {l : List Wd} {e : Wd} {ns : List (List UInt8)} {ks : List (Nat × List UInt8)} (h : JRd w rb g c0 c1 c2 (.map (some nb)) (.map (some mb)) x l e) (hN : NumAt w nb ns) (hT : TakAt w mb ks) : JL w w rb g nb mb c0 c1 c2 x l e ns ks := ⟨h, hN, hT, Gr2.ofA (grown_refl _ _)⟩
theorem JL.below {w0 w w' : World} {rb g nb mb : Nat} {c0 c1 c2 : Value} {x : Wd} {l : List Wd} {e : Wd} {ns : List (List UInt8)} {ks : List (Nat × List UInt8)} (h : JL w0 w rb g nb mb c0 c1 c2 x l e ns ks) (hb : Below w.heap.size w w') : JL w0 w' rb g nb mb c0 c1 c2 x l e ns ks :=
  ⟨h.rd.below hb, h.num.same (hb.block nb h.num.lt), h.tak.same (hb.block mb h.tak.lt), h.on.two (Gr2.ofA (grown_of_below _ hb))⟩
theorem JL.alloc {w0 w : World} {rb g nb mb : Nat} {c0 c1 c2 : Value} {x : Wd} {l : List Wd} {e : Wd} {ns : List (List UInt8)} {ks : List (Nat × List UInt8)} (h : JL w0 w rb g nb mb c0 c1 c2 x l e ns ks) (o : Obj) : JL w0 (w.alloc o) rb g nb mb c0 c1 c2 x l e ns ks := h.below ((Below.refl _ _).alloc (Nat.le_refl _) _)
theorem JL.drew {w0 w : World} {rb g nb mb : Nat} {c0 c1 c2 : Value} {x : Wd} {l : List Wd} {e : Wd} {ns : List (List UInt8)} {ks : List (Nat × List UInt8)} (h : JL w0 w rb g nb mb c0 c1 c2 x l e ns ks) : JL w0 w.drew rb g nb mb c0 c1 c2 x l e ns ks := h.below (Below.refl _ _).drew
/-- The reader's own block alone has changed. -/
theorem JL.own {w0 w w' : World} {rb g nb mb : Nat} {c0 c1 c2 : Value} {x : Wd} {l l' : List Wd} {e : Wd} {ns : List (List UInt8)} {ks : List (Nat × List UInt8)} (h : JL w0 w rb g nb mb c0 c1 c2 x l e ns ks) (hnr : nb ≠ rb) (hmr : mb ≠ rb) (hr : JRd w' rb g c0 c1 c2 (.map (some nb)) (.map (some mb)) x l' e) (hg : w.grownBy w' (some rb)) : JL w0 w' rb g nb mb c0 c1 c2 x l' e ns ks :=
  ⟨hr, h.num.same (hg.block nb h.num.lt (fun q => hnr (by injection q))), h.tak.same (hg.block mb h.tak.lt (fun q => hmr (by injection q))), h.on.two (Gr2.ofA hg)⟩
theorem onext_l {w0 w : World} {rb g nb mb : Nat} {c0 c1 c2 : Value} {x : Wd} {l : List Wd} {e : Wd} {ns : List (List UInt8)} {ks : List (Nat × List UInt8)} (h : JL w0 w rb g nb mb c0 c1 c2 x l e ns ks) (hnr : nb ≠ rb) (hmr : mb ≠ rb) :
    Calls Tryz.prog 129 #[.pointer (some ⟨rb, 0, none⟩)] w fun en w' => en = .returned (wv (Ru.nx e l)) ∧ Hid (JL w0 w' rb g nb mb c0 c1 c2 x l.tail e ns ks) :=
  (onext_any h.rd).mono fun _ _ q => ⟨q.1, h.own hnr hmr q.2.1 q.2.2⟩
theorem omust_l {w0 w : World} {rb g nb mb : Nat} {c0 c1 c2 : Value} {x : Wd} {l : List Wd} {e : Wd} {ns : List (List UInt8)} {ks : List (Nat × List UInt8)} (h : JL w0 w rb g nb mb c0 c1 c2 x l e ns ks) (b : Bool) (y : Wd) (n : Nat) :
    Calls Tryz.prog 56 #[.pointer (some ⟨rb, 0, none⟩), .bool b, wv y, .int .i64 n] w fun en w' => (Hid (b = true) ∧ en = .returned (.tuple #[]) ∧ w' = w.alloc (wob y)) ∨ (Hid (b = false) ∧ JGav2 w0 rb mb (Ru.ft y n) en w') :=
  (omust_two h.rd b y n).mono fun _ _ q => q.elim (fun q => Or.inl ⟨q.1, q.2⟩) (fun q => Or.inr ⟨q.1, q.2.two.after h.on⟩)
theorem ofinish_l {w0 w : World} {rb g nb mb : Nat} {c0 c1 c2 : Value} {x : Wd} {l : List Wd} {e : Wd} {ns : List (List UInt8)} {ks : List (Nat × List UInt8)} (h : JL w0 w rb g nb mb c0 c1 c2 x l e ns ks) (hnr : nb ≠ rb) (hmr : mb ≠ rb) :
    Calls Tryz.prog 131 #[.pointer (some ⟨rb, 0, none⟩)] w fun en w' => (Hid (l = []) ∧ en = .returned (.tuple #[]) ∧ Hid (JL w0 w' rb g nb mb c0 c1 c2 x l e ns ks)) ∨ (Hid (l ≠ []) ∧ JGav2 w0 rb mb (Ru.ft (Ru.nx e l) 110) en w') :=
  (ofinish_on (JOn.start h.rd)).mono fun _ _ q => q.elim (fun q => Or.inl ⟨q.1, q.2.1, h.own hnr hmr q.2.2.out.rd q.2.2.out.on⟩) (fun q => Or.inr ⟨q.1, q.2.two.after h.on⟩)
/-- An end within a link's line, both ways. -/
theorem oend_l {w0 w : World} {rb g nb mb : Nat} {c0 c1 c2 : Value} {x : Wd} {l : List Wd} {e : Wd} {ns : List (List UInt8)} {ks : List (Nat × List UInt8)} {hp : Nat → List UInt8 → Bool} (h : JL w0 w rb g nb mb c0 c1 c2 x l e ns ks) (hnr : nb ≠ rb) (hnm : nb ≠ mb) (hmr : mb ≠ rb) (hgm : g ≠ mb) (hx : (Ru.nx e l).1.length ≤ 1048576) (hz : (Ru.nx e l.tail).1.length ≤ 1048576) (hnl : ns.length ≤ 100000) (hks : ks.length ≤ 1048576)
    (HP : ∀ (W : World) (p : Nat) (m : List UInt8), Gr2 w0 W rb mb → m.length ≤ 1048576 → Calls Tryz.prog 77 #[c1, .agg #[.int .i64 p, .string (tx m)]] W fun en w' => en = .returned (.bool (hp p m)) ∧ Below W.heap.size W w') :
    Calls Tryz.prog 135 #[.pointer (some ⟨rb, 0, none⟩)] w fun en w' => (∃ p m, Hid (endJ hp ns ks e l = .ok (p, m)) ∧ en = .returned (.agg #[.int .i64 (p : Nat), .string (tx m)]) ∧ Hid (JL w0 w' rb g nb mb c0 c1 c2 x l.tail.tail e ns (ks ++ [(p, m)]))) ∨ (∃ f, Hid (endJ hp ns ks e l = .error f) ∧ JGav2 w0 rb mb f en w') := by
  refine (oend_any h.rd h.num h.tak hnr hmr hgm hx hz hnl hks (fun W p m hW hm => HP W p m (h.on.two hW) hm)).mono ?_
  rintro en w' (⟨p, m, h1, h2, h3, h4, h5⟩ | ⟨f, h1, h2⟩)
  · exact Or.inl ⟨p, m, h1, h2, h3, h.num.same (h5.block nb h.num.lt hnr hnm), h4, h.on.two h5⟩
  · exact Or.inr ⟨f, h1, h2.after h.on⟩
end Go.Proofs.YtebaopiedlioiaaGreatDoor
namespace Go.Proofs.YtebaopiedlioiaaGreatDoor
open Go.RowKit Go
open Wo (Wd)

def arrowT : List UInt8 := [45, 62]
/-- What stands behind a link's ends. -/
def lnkB (x e : Wd) (n : Nat) (a : Nat × List UInt8) (t : List Wd) : Except Ru.Ft (Nat × List UInt8) → Except Ru.Ft ((Nat × List UInt8) × (Nat × List UInt8))
  | .error f => .error f
  | .ok b => if t ≠ [] then .error (Ru.ft (Ru.nx e t) 110) else if 4096 ≤ n then .error (Ru.ft x 3) else .ok (a, b)
def lnkA (hp : Nat → List UInt8 → Bool) (ns : List (List UInt8)) (ks : List (Nat × List UInt8)) (x e : Wd) (n : Nat) (t : List Wd) : Except Ru.Ft (Nat × List UInt8) → Except Ru.Ft ((Nat × List UInt8) × (Nat × List UInt8))
  | .error f => .error f
  | .ok a => if (Ru.nx e t).1 ≠ arrowT then .error (Ru.ft (Ru.nx e t) 110) else lnkB x e n a t.tail.tail.tail (endJ hp ns (ks ++ [a]) e t.tail)
/-- A link. -/
def lnkJ (hp : Nat → List UInt8 → Bool) (ns : List (List UInt8)) (ks : List (Nat × List UInt8)) (x e : Wd) (n : Nat) (l : List Wd) : Except Ru.Ft ((Nat × List UInt8) × (Nat × List UInt8)) := lnkA hp ns ks x e n l.tail.tail (endJ hp ns ks e l)

theorem lnkA_ok (hp : Nat → List UInt8 → Bool) (ns : List (List UInt8)) (ks : List (Nat × List UInt8)) (x e : Wd) (n : Nat) (t : List Wd) (a : Nat × List UInt8) : lnkA hp ns ks x e n t (.ok a) = if (Ru.nx e t).1 ≠ arrowT then .error (Ru.ft (Ru.nx e t) 110) else lnkB x e n a t.tail.tail.tail (endJ hp ns (ks ++ [a]) e t.tail) := rfl
theorem lnkB_ok (x e : Wd) (n : Nat) (a b : Nat × List UInt8) (t : List Wd) : lnkB x e n a t (.ok b) = if t ≠ [] then .error (Ru.ft (Ru.nx e t) 110) else if 4096 ≤ n then .error (Ru.ft x 3) else .ok (a, b) := rfl
/-- A link's cells. -/
def lkC (a b : Nat × List UInt8) : List Value := if ocE b.1 b.2 a.1 a.2 < 0 then [.int .i64 b.1, .string (tx b.2), .int .i64 a.1, .string (tx a.2)] else [.int .i64 a.1, .string (tx a.2), .int .i64 b.1, .string (tx b.2)]
/-- What link leaves. -/
def LnkQ (B : Nat) (w : World) (rb g nb mb : Nat) (c0 c1 c2 : Value) (x e : Wd) (ns : List (List UInt8)) (ks : List (Nat × List UInt8)) (n : Nat) (xs : List Value) (r : Except Ru.Ft ((Nat × List UInt8) × (Nat × List UInt8))) (en : Ending) (w' : World) : Prop :=
  (∃ a b v', r = .ok (a, b) ∧ en = .returned (.tuple #[]) ∧ JRd w' rb g c0 c1 v' (.map (some nb)) (.map (some mb)) x [] e ∧ NumAt w' nb ns ∧ TakAt w' mb (ks ++ [a] ++ [b]) ∧ w'.ownsRow B 83 4 v' (n + 1) (xs ++ lkC a b) ∧ (v'.ownBlock = c2.ownBlock ∨ ∃ k, w.heap.size ≤ k ∧ v'.ownBlock = some k) ∧ w.heap.size ≤ w'.heap.size ∧ w'.os = w.os ∧ w'.tape = w.tape ∧ w'.output = w.output ∧ ∀ k, k < w.heap.size → k ≠ rb → k ≠ mb → c2.ownBlock ≠ some k → w'.heap[k]? = w.heap[k]?) ∨ (∃ f, r = .error f ∧ JGav2 w rb mb f en w')

theorem cell_ltJ {w : World} {b o : Nat} {v : Value} (h : w.cell? ⟨b, o, none⟩ = some v) : b < w.heap.size := by
  obtain ⟨c, e, fr, h1, -⟩ := Go.Sort.cells_of_cell? h
  exact lt_of_block h1
theorem far2J {w : World} {a b o o' : Nat} {v : Value} (h : ¬ a = b) : (w.setCell ⟨b, o', none⟩ v).cell? ⟨a, o, none⟩ = w.cell? ⟨a, o, none⟩ := World.cell?_of_block (Below.heap_setCell _ _ _ _ h)
theorem Tryz.infoLinkJ : (Tryz.prog.info? 83).map (fun i => (i.zero, i.size, i.bytes)) = some (some (.agg #[.int .i64 0, .string (tx []), .int .i64 0, .string (tx [])]), 4, 48) := by kernel_rfl
theorem JRd.set2 {w : World} {rb g : Nat} {c0 c1 c2 c3 c4 : Value} {x : Wd} {l : List Wd} {e : Wd} (h : JRd w rb g c0 c1 c2 c3 c4 x l e) (v : Value) : JRd (w.setCell ⟨rb, 2, none⟩ v) rb g c0 c1 v c3 c4 x l e := by
  obtain ⟨o, cap, f0, f1, f2, hc, h1, h2, h3, h4, h5⟩ := h.ex
  have eb : (w.setCell ⟨rb, 2, none⟩ v).heap[g]? = w.heap[g]? := Below.heap_setCell _ _ _ _ h3
  refine ⟨o, cap, f0, f1, f2, by rw [block_set (o := 2) _ hc]; rfl, h1, h2, h3, by simpa using h4, fun i y hy => ?_⟩
  obtain ⟨q1, q2, q3⟩ := h5 i y hy
  exact ⟨by rw [World.cell?_of_block eb]; exact q1, by rw [World.cell?_of_block eb]; exact q2, by rw [World.cell?_of_block eb]; exact q3⟩
/-- What a link's line leaves where all is well. -/
def LnkE (B : Nat) (w : World) (rb g nb mb : Nat) (c0 c1 c2 : Value) (x e : Wd) (ns : List (List UInt8)) (ks : List (Nat × List UInt8)) (n : Nat) (xs : List Value) (v' : Value) (w' : World) : Prop :=
  JRd w' rb g c0 c1 v' (.map (some nb)) (.map (some mb)) x [] e ∧ NumAt w' nb ns ∧ TakAt w' mb ks ∧ w'.ownsRow B 83 4 v' (n + 1) xs ∧ (v'.ownBlock = c2.ownBlock ∨ ∃ k, w.heap.size ≤ k ∧ v'.ownBlock = some k) ∧ w.heap.size ≤ w'.heap.size ∧ w'.os = w.os ∧ w'.tape = w.tape ∧ w'.output = w.output ∧ ∀ k, k < w.heap.size → k ≠ rb → k ≠ mb → c2.ownBlock ≠ some k → w'.heap[k]? = w.heap[k]?
theorem JL.put {B : Nat} {w W w3 : World} {rb g nb mb g3 cap3 : Nat} {c0 c1 c2 : Value} {x e : Wd} {ns : List (List UInt8)} {ks : List (Nat × List UInt8)} {n : Nat} {xs ys : List Value} (hJ : JL w W rb g nb mb c0 c1 c2 x [] e ns ks) (hD : w.ownsRow B 83 4 c2 n xs) (hnr : nb ≠ rb) (hmr : mb ≠ rb) (hdr : c2.ownBlock ≠ some rb) (hdg : c2.ownBlock ≠ some g) (hdn : c2.ownBlock ≠ some nb) (hdm : c2.ownBlock ≠ some mb)
    (hown : w3.ownsRow B 83 4 (.slice (some ⟨g3, 0, none⟩) (n + 1) cap3) (n + 1) ys) (hg : W.grownBy w3 c2.ownBlock) (hat : c2.ownBlock = some g3 ∨ g3 = W.heap.size) :
    LnkE B w rb g nb mb c0 c1 c2 x e ns ks n ys (.slice (some ⟨g3, 0, none⟩) (n + 1) cap3) (w3.setCell ⟨rb, 2, none⟩ (.slice (some ⟨g3, 0, none⟩) (n + 1) cap3)) := by
  have hWs := hJ.on.size
  have hrl := hJ.rd.lt
  obtain ⟨hgl, hgr⟩ := hJ.rd.gl
  have hlt : ∀ k, c2.ownBlock = some k → k < w.heap.size := fun k hk => (hD.lt k hk).2
  have h3 : ∀ k, k < W.heap.size → c2.ownBlock ≠ some k → w3.heap[k]? = W.heap[k]? := fun k hk q => hg.block k hk (fun e => q e.symm)
  have hV : ∀ k, k ≠ rb → (w3.setCell ⟨rb, 2, none⟩ (.slice (some ⟨g3, 0, none⟩) (n + 1) cap3)).heap[k]? = w3.heap[k]? := fun k hk => Below.heap_setCell _ _ _ _ (by exact hk)
  refine ⟨?_, ?_, ?_, ?_, ?_, ?_, hg.os.trans hJ.on.os, hg.tape.trans hJ.on.tape, hg.output.trans hJ.on.output, fun k hk h1 h4 h2 => ?_⟩
  · exact (hJ.rd.grown (fun k hk => h3 k (by rcases hk with rfl | rfl <;> omega) (by rcases hk with rfl | rfl; exact hdr; exact hdg)) hg.size).set2 _
  · exact hJ.num.same ((hV nb hnr).trans (h3 nb hJ.num.lt hdn))
  · exact hJ.tak.same ((hV mb hmr).trans (h3 mb hJ.tak.lt hdm))
  · refine own_sameJ hown fun k q => hV k ?_
    have e : g3 = k := by simpa [Value.ownBlock] using q
    subst e
    rcases hat with q | q
    · rintro rfl; exact hdr q
    · omega
  · rcases hat with q | q
    · exact Or.inl (by rw [q]; rfl)
    · exact Or.inr ⟨g3, by omega, rfl⟩
  · have := hg.size
    simp only [World.size_setCell]
    omega
  · rw [hV k h1, h3 k (by omega) h2, hJ.on.block k hk h1 h4]

set_option maxRecDepth 20000 in
set_option maxHeartbeats 1000000 in
theorem olink_any {w : World} {rb g nb mb : Nat} {c0 c1 c2 : Value} {x : Wd} {l : List Wd} {e : Wd} {ns : List (List UInt8)} {ks : List (Nat × List UInt8)} {hp : Nat → List UInt8 → Bool} (h : JL w w rb g nb mb c0 c1 c2 x l e ns ks) (hnr : nb ≠ rb) (hnm : nb ≠ mb) (hmr : mb ≠ rb) (hgm : g ≠ mb) (hsh : ShortJ e l) (hnl : ns.length ≤ 100000) (hks : ks.length ≤ 1048000) {B n : Nat} {xs : List Value} (hD : w.ownsRow B 83 4 c2 n xs) (hn : n ≤ 4096) (hdr : c2.ownBlock ≠ some rb) (hdg : c2.ownBlock ≠ some g) (hdn : c2.ownBlock ≠ some nb) (hdm : c2.ownBlock ≠ some mb) (hB : B ≤ w.heap.size)
    (HP : ∀ (W : World) (p : Nat) (m : List UInt8), Gr2 w W rb mb → m.length ≤ 1048576 → Calls Tryz.prog 77 #[c1, .agg #[.int .i64 p, .string (tx m)]] W fun en w' => en = .returned (.bool (hp p m)) ∧ Below W.heap.size W w') :
    Calls Tryz.prog 94 #[.pointer (some ⟨rb, 0, none⟩)] w fun en w' => LnkQ B w rb g nb mb c0 c1 c2 x e ns ks n xs (lnkJ hp ns ks x e n l) en w' := by
  obtain ⟨dv, dcap, rfl⟩ := own_formJ hD
  obtain ⟨i0, hi, hz0, hz1, hz2⟩ := info_parts Tryz.infoLinkJ
  have HI := hid hi
  have HZ0 := hid hz0
  have HZ1 := hid hz1
  have HZ2 := hid hz2
  clear hi hz0 hz1 hz2
  have HRR := hid (show lnkJ hp ns ks x e n l = lnkA hp ns ks x e n l.tail.tail (endJ hp ns ks e l) from rfl)
  obtain ⟨R, hR⟩ : ∃ R, R = lnkJ hp ns ks x e n l := ⟨_, rfl⟩
  rw [← hR] at HRR ⊢
  have HA := hid (oend_l h hnr hnm hmr hgm hsh.nx hsh.tail.nx hnl (by omega) HP)
  have hrl := h.rd.lt
  obtain ⟨t, ht⟩ : ∃ t, t = l.tail.tail := ⟨_, rfl⟩
  have hst : ShortJ e t := by rw [ht]; exact hsh.tail.tail
  rw [← ht] at HA HRR
  obtain ⟨r, hr⟩ : ∃ r, r = endJ hp ns ks e l := ⟨_, rfl⟩
  rw [← hr] at HA HRR
  clear h ht hr hR
  go_enter Tryz.func94, Tryz.ntmps94
  go_wp2_with fail
  refine HA.out.mono ?_
  rintro en w1 (⟨p, m, HR1, rfl, H1⟩ | ⟨f, HR1, q, rfl, hf, hg⟩)
  · obtain ⟨Wb, hWb⟩ : ∃ Wb, Wb = w1.alloc (eob p m) := ⟨_, rfl⟩
    have L0 := hid (show JL w Wb rb g nb mb c0 c1 (.slice dv n dcap) x t e ns (ks ++ [(p, m)]) by rw [hWb]; exact H1.out.alloc _)
    have hkb : Wb.heap[w1.heap.size]? = some (eob p m) := by rw [hWb]; exact new_0 _ _
    have hr1 := H1.out.rd.lt
    have hm1 := H1.out.tak.lt
    have LB := hid (JL.start L0.out.rd L0.out.num L0.out.tak)
    have HEN := hid (fun (W : World) (hW : JL Wb W rb g nb mb c0 c1 (.slice dv n dcap) x t.tail e ns (ks ++ [(p, m)])) => oend_l hW hnr hnm hmr hgm hst.tail.nx hst.tail.tail.nx hnl (by rw [List.length_append, List.length_singleton]; omega) (fun V p m hV hm => HP V p m (L0.out.on.two hV) hm))
    obtain ⟨kb, hk⟩ : ∃ kb, kb = w1.heap.size := ⟨_, rfl⟩
    have HK := hid (show rb < kb ∧ mb < kb by omega)
    have HKA := hid (show w.heap.size ≤ kb by have := H1.out.on.size; omega)
    rw [← hk] at hkb
    obtain ⟨y, hy⟩ : ∃ y, y = Ru.nx e t := ⟨_, rfl⟩
    have HPK := hid (fun (W : World) (hW : JL Wb W rb g nb mb c0 c1 (.slice dv n dcap) x t e ns (ks ++ [(p, m)])) => (by
      refine (opeek_any hW.rd).mono ?_
      rintro en w' ⟨h1, h2⟩
      rw [hy]
      exact ⟨h1, hW.below h2⟩ : Calls Tryz.prog 136 #[.pointer (some ⟨rb, 0, none⟩)] W fun en w' => en = .returned (wv y) ∧ Hid (JL Wb w' rb g nb mb c0 c1 (.slice dv n dcap) x t e ns (ks ++ [(p, m)]))))
    have hfl : ∀ w : World, (Instr.field 74 (wv y) 0).run Tryz.prog w = .ok (.string (tx y.1)) w := fun _ => rfl
    obtain ⟨b, hb⟩ : ∃ b, b = (y.1 == arrowT) := ⟨_, rfl⟩
    have HBB := hid hb
    have hbq : (y.1 == [45, 62]) = b := hb.symm
    have HY := hid hy
    clear hy hb
    go_wp2_with fail
    rw [← hWb, ← hk]
    clear hWb hk
    refine (HPK.out _ LB.out).mono ?_
    rintro en w2 ⟨rfl, H2⟩
    go_wp2_with fail
    refine (HPK.out _ H2.out).mono ?_
    rintro en w3 ⟨rfl, H3⟩
    go_wp2_with fail
    refine (omust_l H3.out b y 110).mono ?_
    rintro en w4 (⟨HB1, rfl, rfl⟩ | ⟨HB1, q, rfl, hf, hg⟩)
    · have H4 := hid (H3.out.alloc (wob y))
      have HR2 := hid (show R = lnkB x e n (p, m) t.tail.tail.tail (endJ hp ns (ks ++ [(p, m)]) e t.tail) by
        rw [HRR.out, HR1.out, lnkA_ok, if_neg (by rw [← HY.out]; have := HBB.out; rw [HB1.out] at this; simpa using this.symm)])
      go_wp2_with fail
      refine (onext_l H4.out hnr hmr).mono ?_
      rintro en w5 ⟨rfl, H5⟩
      go_wp2_with fail
      refine (HEN.out _ H5.out).mono ?_
      rintro en w6 (⟨p', m', HR3, rfl, H6⟩ | ⟨f, HR3, q, rfl, hf, hg⟩)
      · obtain ⟨Wc, hWc⟩ : ∃ Wc, Wc = w6.alloc (eob p' m') := ⟨_, rfl⟩
        have L6 := hid (show JL Wb Wc rb g nb mb c0 c1 (.slice dv n dcap) x t.tail.tail.tail e ns (ks ++ [(p, m)] ++ [(p', m')]) by rw [hWc]; exact H6.out.alloc _)
        have hqc : Wc.heap[w6.heap.size]? = some (eob p' m') := by rw [hWc]; exact new_0 _ _
        obtain ⟨qb, hqb⟩ : ∃ qb, qb = w6.heap.size := ⟨_, rfl⟩
        have hr6 := H6.out.rd.lt
        have hm6 := H6.out.tak.lt
        have HQ := hid (show rb < qb ∧ mb < qb by omega)
        have HQA := hid (show w.heap.size ≤ qb by have := H6.out.on.size; have := L0.out.on.size; omega)
        rw [← hqb] at hqc
        have HQC := hid hqc
        have HF0 := hid (ofinish_l (JL.start L6.out.rd L6.out.num L6.out.tak) hnr hmr)
        clear hqc hr6 hm6
        go_wp2_with fail
        rw [← hWc, ← hqb]
        clear hWc hqb
        refine HF0.out.mono ?_
        rintro en w7 (⟨HT, rfl, HC7⟩ | ⟨HT, q, rfl, hf, hg⟩)
        · have H7 := hid (show JL Wb w7 rb g nb mb c0 c1 (.slice dv n dcap) x t.tail.tail.tail e ns (ks ++ [(p, m)] ++ [(p', m')]) from ⟨HC7.out.rd, HC7.out.num, HC7.out.tak, L6.out.on.two HC7.out.on⟩)
          obtain ⟨o, cap, ⟨-, -, k2, -, -⟩, ⟨k5, k6, k7⟩, -, -, kf, -⟩ := H7.out.rd.cells
          obtain ⟨b3, hb3⟩ : ∃ b, b = decide ((n : Int) < 4096) := ⟨_, rfl⟩
          have HB3 := hid (show (b3 = true → ¬ 4096 ≤ n) ∧ (b3 = false → 4096 ≤ n) by
            rw [hb3]
            exact ⟨fun q => by have := of_decide_eq_true q; omega, fun q => by have := of_decide_eq_false q; omega⟩)
          have hb3' : decide ((n : Int) < 4096) = b3 := hb3.symm
          have hrl7 := H7.out.rd.lt
          clear hb3
          go_wp2_with fail
          go_region_held2 (fun w' => w'.cell? ⟨rb, 2, none⟩ = some (.slice dv n dcap) ∧ w'.cell? ⟨rb, 5, none⟩ = some (.string (tx x.1)) ∧ w'.cell? ⟨rb, 6, none⟩ = some (.int .i64 x.2.1) ∧ w'.cell? ⟨rb, 7, none⟩ = some (.int .i64 x.2.2)) (go_keep) (first | (go_at_call 56; refine (omust_l H7.out.drew b3 x 3).mono ?_; rintro en w8 (⟨HB4, rfl, rfl⟩ | ⟨HB4, q, rfl, hf, hg⟩); rotate_left; (exact ⟨rfl, Or.inr ⟨_, by rw [HR2.out, HR3.out, lnkB_ok, if_neg (fun q => q HT.out), if_pos (HB3.out.2 HB4.out)], JGav2.after ⟨q, rfl, hf, hg⟩ L0.out.on⟩⟩)))
          obtain ⟨w8, hw8⟩ : ∃ w8, w8 = (w7.alloc (wob x)).drew := ⟨_, rfl⟩
          have H8 := hid (show JL Wb w8 rb g nb mb c0 c1 (.slice dv n dcap) x t.tail.tail.tail e ns (ks ++ [(p, m)] ++ [(p', m')]) by rw [hw8]; exact (H7.out.alloc (wob x)).drew)
          obtain ⟨a1, n1, a2, n2, hj, hlc⟩ : ∃ (a1 : Nat) (n1 : List UInt8) (a2 : Nat) (n2 : List UInt8), (if ocE p' m' p m < 0 then lkv p' m' p m else lkv p m p' m') = lkv a1 n1 a2 n2 ∧ lkC (p, m) (p', m') = [.int .i64 a1, .string (tx n1), .int .i64 a2, .string (tx n2)] := by
            unfold lkC
            by_cases hc : ocE p' m' p m < 0
            · exact ⟨p', m', p, m, by rw [if_pos hc], by rw [if_pos hc]⟩
            · exact ⟨p, m, p', m', by rw [if_neg hc], by rw [if_neg hc]⟩
          have HLC := hid hlc
          have HJN := hid (fun (W : World) => (by have := ojoined_any (w := W) (p := p) (q := p') (m := m) (n := m'); rw [hj] at this; exact this : Calls Tryz.prog 98 #[.agg #[.int .i64 p, .string (tx m)], .agg #[.int .i64 p', .string (tx m')]] W fun e w' => e = .returned (lkv a1 n1 a2 n2) ∧ Below W.heap.size W w'))
          obtain ⟨o8, cap8, ⟨-, -, j2, -, -⟩, -, -, -, jf, -⟩ := H8.out.rd.cells
          have jf2 := jf 2
          rw [← hw8]
          clear hj hlc k2 k5 k6 k7 kf jf
          have G8 : Gr2 Wc w8 rb mb := by rw [hw8]; exact HC7.out.on.two (Gr2.ofA (grown_of_below _ (((Below.refl _ _).alloc (Nat.le_refl _) _).drew)))
          have hq8 : w8.heap[qb]? = some (eob p' m') := (G8.block qb (lt_of_block HQC.out) (by have := HQ.out; omega) (by have := HQ.out; omega)).trans HQC.out
          have hk8 : w8.heap[kb]? = some (eob p m) := (H8.out.on.block kb (lt_of_block hkb) (by have := HK.out; omega) (by have := HK.out; omega)).trans hkb
          obtain ⟨s0, s1⟩ := eob_cells hq8
          obtain ⟨u0, u1⟩ := eob_cells hk8
          clear hw8 G8 hq8 hk8
          have hnm : n + 1 ≤ 4097 := by omega
          have GW := hid (show Gr2 w w8 rb mb from L0.out.on.two H8.out.on)
          have hrl8 := H8.out.rd.lt
          have hkq := And.intro (by have := HK.out; exact this : rb < kb ∧ mb < kb) (by have := HQ.out; exact this : rb < qb ∧ mb < qb)
          have hk8l : kb < w8.heap.size := cell_ltJ u0
          have hq8l : qb < w8.heap.size := cell_ltJ s0
          have hkd : (Value.slice dv n dcap).ownBlock ≠ some kb ∧ (Value.slice dv n dcap).ownBlock ≠ some qb := ⟨fun q => by have := (hD.lt kb q).2; have := HKA.out; omega, fun q => by have := (hD.lt qb q).2; have := HQA.out; omega⟩
          have HS9 := hid (fun (w9 : World) (hb : Below w8.heap.size w8 w9) => (by
            exact ⟨(World.cell?_of_block (hb.block rb hrl8)).trans j2, (World.cell?_of_block (hb.block kb hk8l)).trans u0, (World.cell?_of_block (hb.block kb hk8l)).trans u1, (World.cell?_of_block (hb.block qb hq8l)).trans s0, (World.cell?_of_block (hb.block qb hq8l)).trans s1⟩ : w9.cell? ⟨rb, 2, none⟩ = some (.slice dv n dcap) ∧ w9.cell? ⟨kb, 0, none⟩ = some (.int .i64 p) ∧ w9.cell? ⟨kb, 1, none⟩ = some (.string (tx m)) ∧ w9.cell? ⟨qb, 0, none⟩ = some (.int .i64 p') ∧ w9.cell? ⟨qb, 1, none⟩ = some (.string (tx m'))))
          have HRO := hid (fun (w9 : World) (ob : Obj) (hb : Below w8.heap.size w8 w9) => (show (w9.alloc ob).ownsRow B 83 4 (.slice dv n dcap) n xs from own_sameJ hD fun k q => by
            have hkl := (hD.lt k q).2
            have h8 := GW.out.size
            have h9 := hb.size
            rw [Below.heap_alloc _ _ _ (by omega), hb.block k (by omega), GW.out.block k hkl (fun e => hdr (by rw [q, e])) (fun e => hdm (by rw [q, e]))]))
          have HBW := hid (fun (w9 : World) (ob : Obj) (hb : Below w8.heap.size w8 w9) => (by have h8 := GW.out.size; have h9 := hb.size; simp only [World.size_alloc]; omega : B ≤ (w9.alloc ob).heap.size))
          have HFIN := hid (fun (w9 w3 : World) (ob : Obj) (g3 cap3 : Nat) (hb : Below w8.heap.size w8 w9) (hown : w3.ownsRow B 83 4 (.slice (some ⟨g3, 0, none⟩) (n + 1) cap3) (n + 1) (xs ++ [.int .i64 a1, .string (tx n1), .int .i64 a2, .string (tx n2)])) (hg : (w9.alloc ob).grownBy w3 (Value.slice dv n dcap).ownBlock) (hat : (Value.slice dv n dcap).ownBlock = some g3 ∨ g3 = (w9.alloc ob).heap.size) => (by
            have hJ : JL w (w9.alloc ob) rb g nb mb c0 c1 (.slice dv n dcap) x [] e ns (ks ++ [(p, m)] ++ [(p', m')]) := by
              have h1 := (H8.out.below hb).alloc ob
              rw [HT.out] at h1
              exact ⟨h1.rd, h1.num, h1.tak, L0.out.on.two h1.on⟩
            exact JL.put hJ hD hnr hmr hdr hdg hdn hdm hown hg hat : LnkE B w rb g nb mb c0 c1 (.slice dv n dcap) x e ns (ks ++ [(p, m)] ++ [(p', m')]) n (xs ++ [.int .i64 a1, .string (tx n1), .int .i64 a2, .string (tx n2)]) (.slice (some ⟨g3, 0, none⟩) (n + 1) cap3) (w3.setCell ⟨rb, 2, none⟩ (.slice (some ⟨g3, 0, none⟩) (n + 1) cap3))))
          have HZZ := hid (fun (w9 w3 : World) (ob : Obj) (hb : Below w8.heap.size w8 w9) (hg : (w9.alloc ob).grownBy w3 (Value.slice dv n dcap).ownBlock) => (by
            have h9 := hb.size
            have h8 := GW.out.size
            have e0 : ∀ k, k < w8.heap.size → (Value.slice dv n dcap).ownBlock ≠ some k → w3.heap[k]? = w8.heap[k]? := fun k hk hne => (hg.block k (by simp only [World.size_alloc]; omega) (fun e => hne e.symm)).trans ((Below.heap_alloc _ _ _ (by omega)).trans (hb.block k hk))
            have e1 := e0 rb hrl8 hdr
            have e2 := e0 kb hk8l hkd.1
            have e3 := e0 qb hq8l hkd.2
            exact ⟨⟨(World.cell?_of_block (by exact e1)).trans j2, (World.frozen?_of_block (by exact e1)).trans jf2⟩, (World.cell?_of_block (by exact e2)).trans u0, (World.cell?_of_block (by exact e2)).trans u1, (World.cell?_of_block (by exact e3)).trans s0, (World.cell?_of_block (by exact e3)).trans s1⟩ : (w3.cell? ⟨rb, 2, none⟩ = some (.slice dv n dcap) ∧ w3.frozen? ⟨rb, 2, none⟩ = false) ∧ w3.cell? ⟨kb, 0, none⟩ = some (.int .i64 p) ∧ w3.cell? ⟨kb, 1, none⟩ = some (.string (tx m)) ∧ w3.cell? ⟨qb, 0, none⟩ = some (.int .i64 p') ∧ w3.cell? ⟨qb, 1, none⟩ = some (.string (tx m'))))
          have hkr : ¬ kb = rb := by have := HK.out; omega
          have hqr : ¬ qb = rb := by have := HQ.out; omega
          clear hkq hkd
          go_wp2_with fail
          go_region_law (first | (refine step_append_lies _ (by rfl) (.tmp 38) (.tmp 42) 23 (by rfl) B 83 i0 (.agg #[.int .i64 0, .string (tx []), .int .i64 0, .string (tx [])]) 4 48 Tryz.underlying23 HI.out HZ0.out HZ1.out HZ2.out rfl (by decide) (.slice dv n dcap) n xs (by rfl) (by exact HRO.out w9 _ HB9.out) ⟨w9.heap.size, 0, none⟩ 1 1 [.int .i64 a1, .string (tx n1), .int .i64 a2, .string (tx n2)] (by rfl) (by rfl) (by exact new_cells w9 #[.int .i64 a1, .string (tx n1), .int .i64 a2, .string (tx n2)] _ _ rfl) (by simp [Value.oneCell']) (by omega) (by unfold maxLen; omega) (by omega) (by exact HBW.out w9 _ HB9.out) _ (by rfl) ?_; intro g3 cap3 w3 hown3 hgrow3 hat3 hlt3; have F3 := hid (HFIN.out w9 w3 _ g3 cap3 HB9.out hown3 hgrow3 hat3); obtain ⟨⟨z1, z2⟩, S3⟩ := HZZ.out w9 w3 _ HB9.out hgrow3) | (go_simp; go_at_call 98; refine (HJN.out _).mono ?_; rintro en w9 ⟨rfl, hb9⟩; have HB9 := hid (show Below w8.heap.size w8 w9 from ⟨hb9.os, hb9.tape, hb9.output, hb9.size, hb9.block⟩); obtain ⟨z9, y0, y1, y2, y3⟩ := HS9.out w9 HB9.out; have r9 : rb < w9.heap.size := cell_ltJ z9))
          all_goals (
            go_wp2
            refine bodyPost_end (v := .tuple #[]) (by simp [results, Tryz.results94, go_sem]) rfl ?_
            obtain ⟨f1, f2, f3, f4, f5, f6, f7, f8, f9, f10⟩ := F3.out
            exact Or.inl ⟨(p, m), (p', m'), _, by rw [HR2.out, HR3.out, lnkB_ok, if_neg (fun q => q HT.out), if_neg (HB3.out.1 HB4.out)], rfl, f1, f2, f3, by rw [HLC.out]; exact f4, f5, f6, f7, f8, f9, f10⟩)
        · exact ⟨rfl, Or.inr ⟨_, by rw [HR2.out, HR3.out, lnkB_ok, if_pos HT.out], JGav2.after ⟨q, rfl, hf, hg⟩ (L0.out.on.two L6.out.on)⟩⟩
      · exact ⟨rfl, Or.inr ⟨_, by rw [HR2.out, HR3.out]; rfl, JGav2.after ⟨q, rfl, hf, hg⟩ L0.out.on⟩⟩
    · exact ⟨rfl, Or.inr ⟨_, by rw [HRR.out, HR1.out, lnkA_ok, if_pos (by rw [← HY.out]; have := HBB.out; rw [HB1.out] at this; simpa using this.symm), ← HY.out], JGav2.after ⟨q, rfl, hf, hg⟩ L0.out.on⟩⟩
  · exact ⟨rfl, Or.inr ⟨_, by rw [HRR.out, HR1.out]; rfl, q, rfl, hf, hg⟩⟩
end Go.Proofs.YtebaopiedlioiaaGreatDoor
