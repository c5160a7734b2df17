/-
  The program's names: the names of all nodes of a kind, rising, each once.
  slices.Sort and slices.Compact of no texts.
  The document's named: the names of all nodes of a kind, rising, each once.
  The document's put: a text among others, rising, once.
  slices.Sort and slices.Compact over a row of texts: in order, each once.
-/
import Derived.Test.YtnmmfbhmfcabhaaGreatDoorZSpanDAnd
import Derived.Test.YtnmmfbhmfcabhaaGreatDoorWFewAnd
import Derived.Test.YtnmmfbhmfcabhaaGreatDoorULay
import Derived.Test.YtnmmfbhmfcabhaaGreatDoorXAddAnd
import Derived.Test.YtnmmfbhmfcabhaaGreatDoorWBuildAnd
import Derived.Test.YtnmmfbhmfcabhaaGreatDoorWClone
namespace Go.Proofs.YtnmmfbhmfcabhaaGreatDoor.Zn
open Go.RowKit Go.Sort Go.Lib

theorem fSort : Tryz.laysSort_ren.f 190 = 72 := by kernel_rfl
theorem fCompact : Tryz.laysCompact_ren.f 194 = 73 := by kernel_rfl

/-- A block of texts, of which the first are these. -/
def TxtAt (w : World) (g : Nat) (zs : List (List UInt8)) : Prop := ∃ cs, w.heap[g]? = some (.cells cs 9 (0, 0)) ∧ ∀ (i : Nat) (z : List UInt8), zs[i]? = some z → cs[i]? = some (.string (tx z))
theorem TxtAt.cell {w : World} {g : Nat} {zs : List (List UInt8)} (h : TxtAt w g zs) {i : Nat} {z : List UInt8} (hz : zs[i]? = some z) : w.cell? ⟨g, i, none⟩ = some (.string (tx z)) := by
  obtain ⟨cs, h1, h2⟩ := h
  rw [cell_at h1]; exact h2 i z hz
theorem TxtAt.lt {w : World} {g : Nat} {zs : List (List UInt8)} (h : TxtAt w g zs) : g < w.heap.size := by
  obtain ⟨cs, h1, h2⟩ := h
  exact lt_of_block h1
theorem TxtAt.holds {w : World} {g : Nat} {zs : List (List UInt8)} (h : TxtAt w g zs) : Holds encStr w g 0 zs.toArray := by
  intro j hj
  simp only [List.size_toArray] at hj
  obtain ⟨cs, h1, h2⟩ := h
  refine ⟨?_, free_of h1⟩
  rw [Nat.zero_add, cell_at h1, h2 j zs[j] (List.getElem?_eq_getElem hj)]
  simp [hj]
theorem TxtAt.put {w : World} {g : Nat} {zs ys : List (List UInt8)} (h : TxtAt w g zs) (hl : ys.length = zs.length) (n : Nat) : TxtAt (putRow encStr (Sort.ahead w n) g 0 ys.toArray) g ys := by
  obtain ⟨cs, h1, h2⟩ := h
  have hc : ∀ (i : Nat) (z : List UInt8), ys[i]? = some z → i < cs.size := fun i z hz => by
    have hi : i < zs.length := by have := (List.getElem?_eq_some_iff.1 hz).1; omega
    exact (Array.getElem?_eq_some_iff.1 (h2 i zs[i] (List.getElem?_eq_getElem hi))).1
  refine ⟨putCells encStr 0 ys.toArray cs, ?_, fun i z hz => ?_⟩
  · show (mapBlock (Sort.ahead w n) g (putCells encStr 0 ys.toArray)).heap[g]? = _
    have h1' : (Sort.ahead w n).heap[g]? = some (.cells cs 9 (0, 0)) := h1
    unfold mapBlock
    simp only [Array.getElem?_modify, h1', if_true, Option.map_some]
    rfl
  · have hi := hc i z hz
    have hiy : i < ys.length := (List.getElem?_eq_some_iff.1 hz).1
    unfold putCells
    rw [Array.getElem?_mapIdx, Array.getElem?_eq_getElem hi]
    simp only [Option.map_some, Nat.zero_le, Nat.zero_add, List.size_toArray, hiy, and_self, if_true, Nat.sub_zero]
    have : ys.toArray[i]! = z := by
      rw [List.getElem?_eq_getElem hiy] at hz
      simp only [Option.some.injEq] at hz
      simp [hiy, hz]
    rw [this]
theorem put_grown (w : World) (g n : Nat) (ys : List (List UInt8)) (os : Array Obj) : w.grownBy (Sort.grow (putRow encStr (Sort.ahead w n) g 0 ys.toArray) os) (some g) := by
  refine ⟨rfl, rfl, rfl, by simp [Sort.grow, putRow, mapBlock, Sort.ahead], fun i hi hne => ?_⟩
  have hne' : i ≠ g := fun e => hne (by rw [e])
  have hsz : i < (putRow encStr (Sort.ahead w n) g 0 ys.toArray).heap.size := by rw [size_putRow]; exact hi
  show ((putRow encStr (Sort.ahead w n) g 0 ys.toArray).heap ++ os)[i]? = _
  rw [Array.getElem?_append_left hsz]
  show (mapBlock (Sort.ahead w n) g _).heap[i]? = _
  unfold mapBlock
  simp only [Array.getElem?_modify]
  rw [if_neg (fun e => hne' e.symm)]
  rfl
theorem TxtAt.grow {w : World} {g : Nat} {zs : List (List UInt8)} (h : TxtAt w g zs) (os : Array Obj) : TxtAt (Sort.grow w os) g zs := by
  obtain ⟨cs, h1, h2⟩ := h
  refine ⟨cs, ?_, h2⟩
  show (w.heap ++ os)[g]? = _
  rw [Array.getElem?_append_left (lt_of_block h1)]
  exact h1

theorem sort_texts {w : World} {g : Nat} {zs : List (List UInt8)} (h : TxtAt w g zs) (cap : Nat) (hz : zs.length ≤ 1048576) :
    Calls Tryz.prog 72 #[.slice (some ⟨g, 0, none⟩) zs.length cap] w fun e w' => e = .returned (.tuple #[]) ∧ TxtAt w' g (zs.mergeSort fun x y => decide (x ≤ y)) ∧ w.grownBy w' (some g) := by
  have := Any.slices_Sort_string Tryz.laysSort g 0 cap zs w h.holds h.lt (by omega)
  rw [fSort] at this
  refine this.mono ?_
  rintro e w' ⟨rfl, n, os, rfl⟩
  exact ⟨rfl, (h.put (by simp) n).grow os, put_grown _ _ _ _ _⟩

theorem compact_texts {w : World} {g : Nat} {zs : List (List UInt8)} (h : TxtAt w g zs) (cap : Nat) (hz : zs.length ≤ 1048576) (hc : zs.length ≤ cap) :
    Calls Tryz.prog 73 #[.slice (some ⟨g, 0, none⟩) zs.length cap] w fun e w' => e = .returned (.slice (some ⟨g, 0, none⟩) (Lib.compact zs).length cap) ∧ TxtAt w' g (Lib.compact zs) ∧ w.grownBy w' (some g) := by
  have := Any.slices_Compact_string Tryz.laysCompact g 0 cap zs w h.holds (by omega) hc
  rw [fCompact] at this
  refine this.mono ?_
  rintro e w' ⟨rfl, q, rfl⟩
  have hle : (Lib.compact zs).length ≤ zs.length := by
    unfold Lib.compact Lib.compactUpTo
    rw [List.length_map]
    exact Nat.le_trans (List.length_filter_le _ _) (by simp)
  have hp := h.put (ys := Lib.compact zs ++ List.replicate (zs.length - (Lib.compact zs).length) []) (by simp; omega) q
  refine ⟨rfl, ?_, ?_⟩
  · obtain ⟨cs, h1, h2⟩ := hp
    exact ⟨cs, h1, fun i z hi => h2 i z (by rw [List.getElem?_append_left (List.getElem?_eq_some_iff.1 hi).1]; exact hi)⟩
  · have := put_grown w g q (Lib.compact zs ++ List.replicate (zs.length - (Lib.compact zs).length) []) #[]
    rwa [Sort.grow_empty] at this
end Go.Proofs.YtnmmfbhmfcabhaaGreatDoor.Zn
namespace Go.Proofs.YtnmmfbhmfcabhaaGreatDoor.Zn
open Go.RowKit

theorem svs_snoc (acc : List (List UInt8)) (nm : List UInt8) : svs (acc ++ [nm]) = svs acc ++ [.string (tx nm)] := by simp [svs]
theorem infoStr : (Tryz.prog.info? 9).map (fun i => (i.zero, i.size, i.bytes)) = some (some (.string (tx [])), 1, 16) := by kernel_rfl
theorem TxtAt.kept {w w' : World} {b : Nat} {zs : List (List UInt8)} (h : TxtAt w b zs) (he : w'.heap[b]? = w.heap[b]?) : TxtAt w' b zs := by
  obtain ⟨cs, h1, h2⟩ := h
  exact ⟨cs, he.trans h1, h2⟩
theorem heap_old (w : World) (o : Obj) {k : Nat} (hk : k < w.heap.size) : (w.alloc o).heap[k]? = w.heap[k]? := by
  show (w.heap.push o)[k]? = _
  rw [Array.getElem?_push, if_neg (by omega)]
/-- Texts in memory. -/
def PortsV (w : World) (B : Nat) (v : Value) (ps : List (List UInt8)) : Prop := (ps = [] ∧ v = .slice none 0 0) ∨ ∃ b cap, v = .slice (some ⟨b, 0, none⟩) ps.length cap ∧ B ≤ b ∧ TxtAt w b ps
theorem PortsV.kept {w w' : World} {B : Nat} {v : Value} {ps : List (List UInt8)} (h : PortsV w B v ps) (hk : ∀ b cs, w.heap[b]? = some (.cells cs 9 (0, 0)) → B ≤ b → w'.heap[b]? = w.heap[b]?) : PortsV w' B v ps := by
  rcases h with h | ⟨b, cap, rfl, hb, cs, h1, h2⟩
  · exact Or.inl h
  · exact Or.inr ⟨b, cap, rfl, hb, cs, (hk b cs h1 hb).trans h1, h2⟩
theorem PortsV.form {w : World} {B : Nat} {v : Value} {ps : List (List UInt8)} (h : PortsV w B v ps) : ∃ ao n cap, v = .slice ao n cap := by
  rcases h with ⟨_, rfl⟩ | ⟨b, cap, rfl, _⟩
  · exact ⟨_, _, _, rfl⟩
  · exact ⟨_, _, _, rfl⟩
theorem PortsV.mono {w : World} {B B' : Nat} {v : Value} {ps : List (List UInt8)} (h : PortsV w B v ps) (hB : B' ≤ B) : PortsV w B' v ps := by
  rcases h with h | ⟨b, cap, rfl, hb, h⟩
  · exact Or.inl h
  · exact Or.inr ⟨b, cap, rfl, Nat.le_trans hB hb, h⟩

theorem ins_not {p : List (List UInt8)} {s : List UInt8} (h : ∀ x ∈ p, ¬ s < x) : Ru.ins p s = p ++ [s] := by
  induction p with
  | nil => rfl
  | cons a t ih =>
    unfold Ru.ins
    rw [if_neg (h a List.mem_cons_self), ih (fun x hx => h x (List.mem_cons_of_mem _ hx))]
    rfl
theorem ins_first {p : List (List UInt8)} {s a : List UInt8} (h : ∀ x ∈ p, ¬ s < x) (ha : s < a) : Ru.ins (p ++ [a]) s = p ++ [s, a] := by
  induction p with
  | nil => show Ru.ins [a] s = _; unfold Ru.ins; rw [if_pos ha]; rfl
  | cons b t ih =>
    show Ru.ins (b :: (t ++ [a])) s = _
    unfold Ru.ins
    rw [if_neg (h b List.mem_cons_self), ih (fun x hx => h x (List.mem_cons_of_mem _ hx))]
    rfl
theorem ins_done {p : List (List UInt8)} {s : List UInt8} (a : List UInt8) (h : ∃ x ∈ p, s < x) : Ru.ins (p ++ [a]) s = Ru.ins p s ++ [a] := by
  induction p with
  | nil => obtain ⟨x, hx, _⟩ := h; exact absurd hx (by simp)
  | cons b t ih =>
    show Ru.ins (b :: (t ++ [a])) s = _
    unfold Ru.ins
    by_cases hb : s < b
    · rw [if_pos hb, if_pos hb]; rfl
    · rw [if_neg hb, if_neg hb]
      have : ∃ x ∈ t, s < x := by
        obtain ⟨x, hx, hlt⟩ := h
        rcases List.mem_cons.1 hx with rfl | hx
        · exact absurd hlt hb
        · exact ⟨x, hx, hlt⟩
      rw [ih this]; rfl
/-- What put has made of the first texts. -/
def putTo (p : List (List UInt8)) (s : List UInt8) (done : Bool) : List (List UInt8) := if done then Ru.ins p s else p
def doneAt (p : List (List UInt8)) (s : List UInt8) : Bool := p.any fun x => decide (s < x)
theorem done_true {p : List (List UInt8)} {s : List UInt8} (h : doneAt p s = true) : ∃ x ∈ p, s < x := by
  simpa [doneAt] using h
theorem done_false {p : List (List UInt8)} {s : List UInt8} (h : doneAt p s = false) : ∀ x ∈ p, ¬ s < x := by
  simpa [doneAt] using h
theorem done_snoc (p : List (List UInt8)) (s a : List UInt8) : doneAt (p ++ [a]) s = (doneAt p s || decide (s < a)) := by simp [doneAt]

theorem take_snocL {zs : List (List UInt8)} {k : Nat} (h : k < zs.length) : zs.take (k + 1) = zs.take k ++ [zs[k]] := List.take_succ_eq_append_getElem h
theorem putTo_len (p : List (List UInt8)) (s : List UInt8) (d : Bool) : (putTo p s d).length ≤ p.length + 1 := by
  unfold putTo
  split
  · have : ∀ q : List (List UInt8), (Ru.ins q s).length = q.length + 1 := by
      intro q
      induction q with
      | nil => rfl
      | cons b t ih =>
        unfold Ru.ins
        split
        · rfl
        · simp only [List.length_cons, ih]
    rw [this]; omega
  · omega
/-- What holds while put goes over its row. -/
structure PuInv (w : World) (zs : List (List UInt8)) (s : List UInt8) (k : Nat) (v : Value) (d : Bool) (wr : World) : Prop where
  le : k ≤ zs.length
  non : s ∉ zs.take k
  fl : d = doneAt (zs.take k) s
  own : wr.ownsRow w.heap.size 9 1 v (putTo (zs.take k) s d).length (svs (putTo (zs.take k) s d))
  below : Below w.heap.size w wr
theorem PuInv.fin {w : World} {zs : List (List UInt8)} {s : List UInt8} {v : Value} {d : Bool} {wr : World} (h : PuInv w zs s zs.length v d wr) : Ru.put zs s = putTo zs s d ++ (if d then [] else [s]) := by
  have hn := h.non
  have hf := h.fl
  rw [List.take_length] at hn hf
  unfold Ru.put
  rw [if_neg hn]
  cases d with
  | true => simp [putTo]
  | false =>
    rw [ins_not (done_false hf.symm)]
    simp [putTo]
section
variable {w : World} {zs : List (List UInt8)} {s a : List UInt8} {k : Nat} {v v' v6 : Value} {wr w5 w6 : World} {o o5 : Obj} {m : Nat} {xs : List Value}
theorem mem_snoc_not {p : List (List UInt8)} (h : s ∉ p) (hq : a ≠ s) : s ∉ p ++ [a] := by
  intro q
  rcases List.mem_append.1 q with q | q
  · exact h q
  · exact hq (List.mem_singleton.1 q).symm
theorem PuInv.onT (J : PuInv w zs s k v true wr) (hk : k < zs.length) (ht : zs.take (k + 1) = zs.take k ++ [a]) (hq : a ≠ s) (hm : m = (putTo (zs.take k) s true).length) (hx : xs = svs (putTo (zs.take k) s true))
    (ho : w5.ownsRow w.heap.size 9 1 v' (m + 1) (xs ++ [.string (tx a)])) (hg : (wr.alloc o).grownBy w5 v.ownBlock) : PuInv w zs s (k + 1) v' true w5 := by
  have e : putTo (zs.take (k + 1)) s true = putTo (zs.take k) s true ++ [a] := by
    rw [ht]; exact ins_done a (done_true J.fl.symm)
  refine ⟨hk, by rw [ht]; exact mem_snoc_not J.non hq, by rw [ht, done_snoc, ← J.fl]; rfl, ?_, (J.below.alloc J.below.size _).grown hg (by have := J.below.size; simp; omega) (fun q hq => (J.own.lt q hq).1)⟩
  rw [e, svs_snoc, List.length_append, List.length_singleton, ← hm, ← hx]; exact ho
theorem PuInv.onN (J : PuInv w zs s k v false wr) (hk : k < zs.length) (ht : zs.take (k + 1) = zs.take k ++ [a]) (hq : a ≠ s) (hs : ¬ s < a) (hm : m = (putTo (zs.take k) s false).length) (hx : xs = svs (putTo (zs.take k) s false))
    (ho : w5.ownsRow w.heap.size 9 1 v' (m + 1) (xs ++ [.string (tx a)])) (hg : (wr.alloc o).grownBy w5 v.ownBlock) : PuInv w zs s (k + 1) v' false w5 := by
  have e : putTo (zs.take (k + 1)) s false = putTo (zs.take k) s false ++ [a] := by rw [ht]; rfl
  refine ⟨hk, by rw [ht]; exact mem_snoc_not J.non hq, by rw [ht, done_snoc, ← J.fl]; simp [hs], ?_, (J.below.alloc J.below.size _).grown hg (by have := J.below.size; simp; omega) (fun q hq => (J.own.lt q hq).1)⟩
  rw [e, svs_snoc, List.length_append, List.length_singleton, ← hm, ← hx]; exact ho
theorem PuInv.onS (J : PuInv w zs s k v false wr) (hk : k < zs.length) (ht : zs.take (k + 1) = zs.take k ++ [a]) (hq : a ≠ s) (hs : s < a) (hm : m = (putTo (zs.take k) s false).length) (hx : xs = svs (putTo (zs.take k) s false))
    (ho : w5.ownsRow w.heap.size 9 1 v' (m + 1) (xs ++ [.string (tx s)])) (hg : (wr.alloc o).grownBy w5 v.ownBlock)
    (ho6 : w6.ownsRow w.heap.size 9 1 v6 (m + 1 + 1) (xs ++ [.string (tx s)] ++ [.string (tx a)])) (hg6 : (w5.alloc o5).grownBy w6 v'.ownBlock) : PuInv w zs s (k + 1) v6 true w6 := by
  have e : putTo (zs.take (k + 1)) s true = putTo (zs.take k) s false ++ [s] ++ [a] := by
    rw [ht]
    show Ru.ins (zs.take k ++ [a]) s = _
    rw [ins_first (done_false J.fl.symm) hs]
    simp [putTo]
  have b5 : Below w.heap.size w w5 := (J.below.alloc J.below.size _).grown hg (by have := J.below.size; simp; omega) (fun q hq => (J.own.lt q hq).1)
  refine ⟨hk, by rw [ht]; exact mem_snoc_not J.non hq, by rw [ht, done_snoc, ← J.fl]; simp [hs], ?_, (b5.alloc b5.size _).grown hg6 (by have := b5.size; simp; omega) (fun q hq => (ho.lt q hq).1)⟩
  rw [e, svs_snoc, svs_snoc, List.length_append, List.length_append, List.length_singleton, List.length_singleton, ← hm, ← hx]; exact ho6
end
theorem own_ports {w : World} {B : Nat} {v : Value} {zs : List (List UInt8)} (h : w.ownsRow B 9 1 v zs.length (svs zs)) : PortsV w B v zs := by
  rcases h.2 with ⟨rfl, h0⟩ | ⟨b, cap, cur, rfl, hb, hh, hn, _, _, ht⟩
  · exact Or.inl ⟨List.length_eq_zero_iff.1 h0, rfl⟩
  · refine Or.inr ⟨b, cap, rfl, hb, cur, hh, fun i z hz => ?_⟩
    have hi : i < zs.length := (List.getElem?_eq_some_iff.1 hz).1
    have : (cur.toList.take (zs.length * 1))[i]? = some (.string (tx z)) := by rw [ht]; simp [svs, hz]
    rw [List.getElem?_take, if_pos (by omega)] at this
    simpa using this

set_option maxRecDepth 4000 in
set_option maxHeartbeats 2000000 in
theorem put_some {w : World} {g cap : Nat} {zs : List (List UInt8)} (s : List UInt8) (hT : TxtAt w g zs) (hz : zs.length ≤ 1048576) :
    Calls Tryz.prog 74 #[.slice (some ⟨g, 0, none⟩) zs.length cap, .string (tx s)] w fun en w' => ∃ v, en = .returned v ∧ PortsV w' 0 v (Ru.put zs s) ∧ Below w.heap.size w w' := by
  obtain ⟨i0, hi, hz0, hz1, hz2⟩ := info_parts infoStr
  have HI := hid hi
  have HZ0 := hid hz0
  have HZ1 := hid hz1
  have HZ2 := hid hz2
  clear hi hz0 hz1 hz2
  have HT := hid hT
  clear hT
  go_enter Tryz.func74, Tryz.ntmps74
  go_wp2_with fail
  go_loopw [5, 6, 7] (fun u d i wr => ∃ (k : Nat) (v : Value) (b : Bool), u = v ∧ d = .bool b ∧ i = .int .i64 k ∧ Hid (PuInv w zs s k v b wr)) (fun _ _ i _ => zs.length - (intOf i).toNat)
  case atStart => exact ⟨0, _, false, rfl, rfl, rfl, ⟨Nat.zero_le _, by simp, rfl, World.ownsRow_nil _ _ _ _, Below.refl _ _⟩⟩
  case round =>
    obtain ⟨k, v, b, rfl, rfl, rfl, J⟩ := hrel
    have hkle := J.out.le
    have hlen := putTo_len (zs.take k) s b
    rw [List.length_take] at hlen
    by_cases hlt : k < zs.length
    · have hkI : (k : Int) < (zs.length : Int) := by omega
      have hk0 : (0 : Int) ≤ (k : Int) := by omega
      have HT1 := HT.out.kept (w' := wr) (J.out.below.block _ HT.out.lt)
      have ck := HT1.cell (List.getElem?_eq_getElem hlt)
      have HTS := hid (take_snocL hlt)
      obtain ⟨a, ha⟩ : ∃ a, a = zs[k] := ⟨_, rfl⟩
      have HA := hid ha
      rw [← ha] at ck HTS
      by_cases hq : a = s
      · have hb : (a == s) = true := by simpa using hq
        have HP := hid (show Ru.put zs s = zs by unfold Ru.put; rw [if_pos (by rw [← hq, ha]; exact List.getElem_mem _)])
        have HT2 := hid HT1
        clear hq ha HT1
        go_wp2
        go_ret
        exact ⟨_, rfl, by rw [HP.out]; exact Or.inr ⟨g, cap, rfl, Nat.zero_le _, HT2.out⟩, J.out.below⟩
      · have hb : (a == s) = false := by simpa using hq
        have HQ := hid hq
        have hsz : w.heap.size ≤ wr.heap.size := J.out.below.size
        clear hq ha HT1
        obtain ⟨m, hm⟩ : ∃ m, m = (putTo (zs.take k) s b).length := ⟨_, rfl⟩
        obtain ⟨xs, hxs⟩ : ∃ xs, xs = svs (putTo (zs.take k) s b) := ⟨_, rfl⟩
        have HO0 := J.out.own
        rw [← hm, ← hxs] at HO0
        rw [← hm] at hlen
        obtain ⟨ao, vc, rfl⟩ := own_form HO0
        have HO := hid HO0
        have HM := hid hm
        have HXS := hid hxs
        clear HO0 hm hxs
        have hm1 : m ≤ 1048577 := by omega
        cases b with
        | true =>
          go_wp2_with (first | (at_builtin; refine wpList_append_own_at _ rfl _ _ 47 rfl w.heap.size 9 i0 (.string ByteArray.empty) 1 16 Tryz.underlying47 HI.out HZ0.out HZ1.out HZ2.out rfl (by decide) (.slice ao m vc) (m) (xs) rfl (HO.out.alloc _) ⟨wr.heap.size, 0, none⟩ 1 1 [.string (tx a)] rfl rfl (new_cells _ #[.string (tx a)] _ _ rfl) ?c2 ?c3 ?c4 ?c5 ?_))
          case c2 => simp [Value.oneCell']
          case c3 => unfold maxLen; omega
          case c4 => omega
          case c5 => simp; omega
          intro v' w5 hown5 hgrow5 _ _
          obtain ⟨a5, c5, rfl⟩ := own_form hown5
          have J5 := hid (J.out.onT (a := a) hlt HTS.out HQ.out HM.out HXS.out hown5 hgrow5)
          clear hown5 hgrow5
          go_wp2
          go_roundw
          case rel => exact ⟨k + 1, _, true, rfl, rfl, by go_num, J5.out⟩
          case measure => simp [intOf]; omega
        | false =>
          by_cases hs : s < a
          · have hs1 : Op.bytesLess s a = true := by rw [bytesLess_eq]; simpa using hs
            have HS := hid hs
            clear hs
            go_wp2_with (first | (at_builtin; refine wpList_append_own_at _ rfl _ _ 47 rfl w.heap.size 9 i0 (.string ByteArray.empty) 1 16 Tryz.underlying47 HI.out HZ0.out HZ1.out HZ2.out rfl (by decide) (.slice ao m vc) (m) (xs) rfl (HO.out.alloc _) ⟨wr.heap.size, 0, none⟩ 1 1 [.string (tx s)] rfl rfl (new_cells _ #[.string (tx s)] _ _ rfl) ?c2 ?c3 ?c4 ?c5 ?_))
            case c2 => simp [Value.oneCell']
            case c3 => unfold maxLen; omega
            case c4 => omega
            case c5 => simp; omega
            intro v' w5 hown5 hgrow5 _ _
            obtain ⟨a5, c5, rfl⟩ := own_form hown5
            have ck5 : w5.cell? ⟨g, k, none⟩ = some (.string (tx a)) := by
              have hgw := HT.out.lt
              have hgr : g < wr.heap.size := by have := J.out.below.size; omega
              have e1 : w5.heap[g]? = wr.heap[g]? := (hgrow5.block g (by simp; omega) (fun q => by have := (HO.out.lt g q.symm).1; omega)).trans (heap_old wr _ hgr)
              rw [World.cell?_of_block e1]
              exact ck
            have HO5 := hid hown5
            have HG5 := hid hgrow5
            have hsz5 : w.heap.size ≤ w5.heap.size := by have := hgrow5.size; simp at this; omega
            clear hown5 hgrow5
            go_wp2_with (first | (at_builtin; refine wpList_append_own_at _ rfl _ _ 47 rfl w.heap.size 9 i0 (.string ByteArray.empty) 1 16 Tryz.underlying47 HI.out HZ0.out HZ1.out HZ2.out rfl (by decide) (.slice a5 (m + 1) c5) (m + 1) (xs ++ [.string (tx s)]) rfl (HO5.out.alloc _) ⟨w5.heap.size, 0, none⟩ 1 1 [.string (tx a)] rfl rfl (new_cells _ #[.string (tx a)] _ _ rfl) ?c2 ?c3 ?c4 ?c5 ?_))
            case c2 => simp [Value.oneCell']
            case c3 => unfold maxLen; omega
            case c4 => omega
            case c5 => simp; omega
            intro v' w6 hown6 hgrow6 _ _
            obtain ⟨a6, c6, rfl⟩ := own_form hown6
            have J6 := hid (J.out.onS (a := a) hlt HTS.out HQ.out HS.out HM.out HXS.out HO5.out HG5.out (by simpa using hown6) hgrow6)
            clear hown6 hgrow6
            go_wp2
            go_roundw
            case rel => exact ⟨k + 1, _, true, rfl, rfl, by go_num, J6.out⟩
            case measure => simp [intOf]; omega
          · have hs1 : Op.bytesLess s a = false := by rw [bytesLess_eq]; simpa using hs
            have HS := hid hs
            clear hs
            go_wp2_with (first | (at_builtin; refine wpList_append_own_at _ rfl _ _ 47 rfl w.heap.size 9 i0 (.string ByteArray.empty) 1 16 Tryz.underlying47 HI.out HZ0.out HZ1.out HZ2.out rfl (by decide) (.slice ao m vc) (m) (xs) rfl (HO.out.alloc _) ⟨wr.heap.size, 0, none⟩ 1 1 [.string (tx a)] rfl rfl (new_cells _ #[.string (tx a)] _ _ rfl) ?c2 ?c3 ?c4 ?c5 ?_))
            case c2 => simp [Value.oneCell']
            case c3 => unfold maxLen; omega
            case c4 => omega
            case c5 => simp; omega
            intro v' w5 hown5 hgrow5 _ _
            obtain ⟨a5, c5, rfl⟩ := own_form hown5
            have J5 := hid (J.out.onN (a := a) hlt HTS.out HQ.out HS.out HM.out HXS.out hown5 hgrow5)
            clear hown5 hgrow5
            go_wp2
            go_roundw
            case rel => exact ⟨k + 1, _, false, rfl, rfl, by go_num, J5.out⟩
            case measure => simp [intOf]; omega
    · have hkn : k = zs.length := by omega
      subst hkn
      have hkI : ¬ ((zs.length : Int) < (zs.length : Int)) := by omega
      have HFin := hid J.out.fin
      have HO0 := J.out.own
      rw [List.take_length] at HO0
      obtain ⟨ao, vc, rfl⟩ := own_form HO0
      have hsz : w.heap.size ≤ wr.heap.size := J.out.below.size
      have hlen2 := putTo_len zs s b
      clear hlt hlen
      cases b with
      | true =>
        have HP := hid (own_ports HO0)
        clear HO0
        go_wp2
        go_ret
        refine ⟨_, rfl, ?_, J.out.below⟩
        rw [HFin.out]
        simpa using HP.out.mono (Nat.zero_le _)
      | false =>
        obtain ⟨m, hm⟩ : ∃ m, m = (putTo zs s false).length := ⟨_, rfl⟩
        obtain ⟨xs, hxs⟩ : ∃ xs, xs = svs (putTo zs s false) := ⟨_, rfl⟩
        rw [← hm, ← hxs] at HO0
        rw [← hm] at hlen2
        have HO := hid HO0
        have HM := hid hm
        have HXS := hid hxs
        rw [← hm]
        clear HO0 hm hxs
        have hm1 : m ≤ 1048577 := by omega
        go_wp2_with (first | (at_builtin; refine wpList_append_own_at _ rfl _ _ 47 rfl w.heap.size 9 i0 (.string ByteArray.empty) 1 16 Tryz.underlying47 HI.out HZ0.out HZ1.out HZ2.out rfl (by decide) (.slice ao m vc) (m) (xs) rfl (HO.out.alloc _) ⟨wr.heap.size, 0, none⟩ 1 1 [.string (tx s)] rfl rfl (new_cells _ #[.string (tx s)] _ _ rfl) ?c2 ?c3 ?c4 ?c5 ?_))
        case c2 => simp [Value.oneCell']
        case c3 => unfold maxLen; omega
        case c4 => omega
        case c5 => exact Nat.le_succ_of_le hsz
        intro v' w5 hown5 hgrow5 _ _
        obtain ⟨a5, c5, rfl⟩ := own_form hown5
        have HP := hid (show PortsV w5 w.heap.size (.slice a5 (m + 1) c5) (putTo zs s false ++ [s]) from own_ports (by
          rw [svs_snoc, List.length_append, List.length_singleton, ← HM.out, ← HXS.out]; exact hown5))
        have HB := hid (show Below w.heap.size w w5 from (J.out.below.alloc J.out.below.size _).grown hgrow5 (by have := J.out.below.size; simp only [World.size_alloc]; omega) (fun q hq => (HO.out.lt q hq).1))
        clear hown5 hgrow5
        go_wp2
        go_ret
        refine ⟨_, rfl, ?_, HB.out⟩
        rw [HFin.out]
        simpa using HP.out.mono (Nat.zero_le _)

set_option maxRecDepth 4000 in
set_option maxHeartbeats 1000000 in
theorem put_none (w : World) (s : List UInt8) :
    Calls Tryz.prog 74 #[.slice none 0 0, .string (tx s)] w fun en w' => ∃ v, en = .returned v ∧ PortsV w' 0 v (Ru.put [] s) ∧ Below w.heap.size w w' := by
  obtain ⟨i0, hi, hz0, hz1, hz2⟩ := info_parts infoStr
  have HI := hid hi
  have HZ0 := hid hz0
  have HZ1 := hid hz1
  have HZ2 := hid hz2
  clear hi hz0 hz1 hz2
  go_enter Tryz.func74, Tryz.ntmps74
  go_wp2_with fail
  refine wp_loop_rounds 1 ?_
  rw [rounds_succ]
  go_wp2_with (first | (at_builtin; refine wpList_append_own_at _ rfl _ _ 47 rfl w.heap.size 9 i0 (.string ByteArray.empty) 1 16 Tryz.underlying47 HI.out HZ0.out HZ1.out HZ2.out rfl (by decide) (.slice none 0 0) 0 [] rfl (World.ownsRow_nil _ _ _ _) ⟨w.heap.size, 0, none⟩ 1 1 [.string (tx s)] rfl rfl (new_cells _ #[.string (tx s)] _ _ rfl) ?c2 ?c3 ?c4 ?c5 ?_))
  case c2 => simp [Value.oneCell']
  case c3 => unfold maxLen; omega
  case c4 => omega
  case c5 => simp
  intro v' w5 hown5 hgrow5 _ _
  obtain ⟨a5, c5, rfl⟩ := own_form hown5
  have HP := hid (show PortsV w5 w.heap.size (.slice a5 (0 + 1) c5) [s] from own_ports hown5)
  have HB := hid (show Below w.heap.size w w5 from ((Below.refl _ _).alloc (Nat.le_refl _) _).grown hgrow5 (by simp) (fun q hq => by cases hq))
  clear hown5 hgrow5
  go_wp2
  go_ret
  exact ⟨_, rfl, HP.out.mono (Nat.zero_le _), HB.out⟩
/-- put, of any row. -/
theorem put_ports {w : World} {B : Nat} {v : Value} {zs : List (List UInt8)} (h : PortsV w B v zs) (s : List UInt8) (hz : zs.length ≤ 1048576) :
    Calls Tryz.prog 74 #[v, .string (tx s)] w fun en w' => ∃ v', en = .returned v' ∧ Hid (PortsV w' 0 v' (Ru.put zs s)) ∧ Hid (Below w.heap.size w w') := by
  rcases h with ⟨rfl, rfl⟩ | ⟨b, cap, rfl, _, hT⟩
  · exact put_none w s
  · exact put_some s hT hz
end Go.Proofs.YtnmmfbhmfcabhaaGreatDoor.Zn
namespace Go.Proofs.YtnmmfbhmfcabhaaGreatDoor
open Go.RowKit
open Zn (PortsV TxtAt)

/-- The names of all nodes of a kind, in their order. -/
def Rx.nms (op : Int) (r : Rx) : List (List UInt8) := (r.pre.filter fun x => x.op == op).map Rx.name
theorem Rx.nms_eq (op : Int) (r : Rx) : r.nms op = (if r.op == op then [r.name] else []) ++ r.kids.flatMap (Rx.nms op) := by
  unfold Rx.nms
  rw [r.pre_eq]
  simp only [List.filter_cons]
  split
  · simp
    rfl
  · simp
    rfl
theorem PortsV.on {w w' : World} {v : Value} {ps : List (List UInt8)} (h : PortsV w 0 v ps) (hb : Below w.heap.size w w') : PortsV w' 0 v ps := h.kept fun b _ hc _ => hb.block b (Array.getElem?_eq_some_iff.1 hc).1
theorem put_len (l : List (List UInt8)) (s : List UInt8) : (Ru.put l s).length ≤ l.length + 1 := by
  unfold Ru.put
  split
  · omega
  · have := Zn.putTo_len l s true
    simpa [Zn.putTo] using this
theorem putAll_len (xs : List (List UInt8)) : ∀ l : List (List UInt8), (xs.foldl Ru.put l).length ≤ l.length + xs.length := by
  induction xs with
  | nil => intro l; simp
  | cons x t ih =>
    intro l
    have h1 := ih (Ru.put l x)
    have h2 := put_len l x
    simp only [List.foldl_cons, List.length_cons]
    omega
theorem nms_len (op : Int) (r : Rx) : (r.nms op).length ≤ r.nodes := by
  unfold Rx.nms
  rw [List.length_map, ← r.pre_len]
  exact List.length_filter_le _ _
theorem flat_snoc {ks : List Rx} {j : Nat} {k : Rx} (op : Int) (h : ks[j]? = some k) : (ks.take (j + 1)).flatMap (Rx.nms op) = (ks.take j).flatMap (Rx.nms op) ++ k.nms op := by rw [take_snocR h]; simp
theorem flat_len (op : Int) (ks : List Rx) : (ks.flatMap (Rx.nms op)).length ≤ nodesL ks := by
  induction ks with
  | nil => simp
  | cons k t ih => rw [List.flatMap_cons, List.length_append, nodesL_cons]; have := nms_len op k; omega
/-- What the document's named leaves. -/
def NmdPost (w : World) (zs : List (List UInt8)) (e : Ending) (w' : World) : Prop := ∃ u n c, e = .returned (.slice u n c) ∧ Hid (PortsV w' 0 (.slice u n c) zs) ∧ Hid (Below w.heap.size w w')

set_option maxRecDepth 20000 in
set_option maxHeartbeats 2000000 in
theorem RNamed_any (op : Int) (r : Rx) : ∀ {w : World} {v vl : Value} {zs : List (List UInt8)}, RxS w v r.kids → PortsV w 0 vl zs → zs.length + r.nodes ≤ 1000000 → Calls Tryz.prog 44 #[.agg #[.int .i64 r.op, .string (tx r.name), v], .int .i64 op, vl] w fun e w' => NmdPost w ((r.nms op).foldl Ru.put zs) e w' := by
  induction r using Rx.ind with
  | h r ih =>
    intro w v vl zs hS hP hn
    have hnk := r.nodes_kids
    have hlk := length_le r.kids
    have HIH := hid ih
    have HPT := hid (fun (W : World) (hb : Below w.heap.size w W) => Zn.put_ports (PortsV.on hP hb) r.name (by omega))
    have HNM := hid (r.nms_eq op)
    obtain ⟨bo, bn, bc, rfl⟩ := hP.form
    obtain ⟨ao, cap, rfl, hat⟩ := hS.at
    obtain ⟨ks, hks⟩ : ∃ ks, ks = r.kids := ⟨_, rfl⟩
    rw [← hks] at hat HIH HNM hnk hlk ⊢
    obtain ⟨m, hmm⟩ : ∃ m, m = ks.length := ⟨_, rfl⟩
    have HM := hid hmm
    have HAT := hid hat
    rw [← hmm] at hlk ⊢
    obtain ⟨ys, hys⟩ : ∃ ys, ys = (if r.op == op then [r.name] else []).foldl Ru.put zs := ⟨_, rfl⟩
    have HYS := hid hys
    have HRES := hid (show (r.nms op).foldl Ru.put zs = (ks.flatMap (Rx.nms op)).foldl Ru.put ys by rw [HNM.out, List.foldl_append, hys])
    have hyl : ys.length ≤ zs.length + 1 := by
      have := putAll_len (if r.op == op then [r.name] else []) zs
      rw [hys]
      have h2 : (if r.op == op then [r.name] else []).length ≤ 1 := by split <;> simp
      omega
    rw [HRES.out]
    have B0 := hid (boxed.start w r (.slice ao m cap))
    have HP0 := hid hP
    have hmb : m ≤ 1000000 := by omega
    have HB := hid (show ys.length + nodesL ks ≤ 1000000 by omega)
    clear hS hat hks hmm ih hnk hlk hn hys hyl hP
    by_cases ho : r.op = op
    · subst ho
      have HY2 := hid (show ys = Ru.put zs r.name by rw [HYS.out, if_pos (by simp)]; rfl)
      go_enter Tryz.func44, Tryz.ntmps44
      go_wp2_with fail
      refine (HPT.out _ B0.out.low).mono ?_
      rintro en w1 ⟨v', rfl, P1, L1⟩
      obtain ⟨u1, n1, c1', rfl⟩ := P1.out.form
      have B1 := hid (B0.out.on L1.out)
      have P2 := hid (show PortsV w1 0 (.slice u1 n1 c1') (((ks.take 0).flatMap (Rx.nms r.op)).foldl Ru.put ys) by rw [HY2.out]; exact P1.out)
      obtain ⟨c0, c1, c2⟩ := B1.out.cells
      go_wp2_with fail
      go_loopw [2, 7] (fun u x wr => ∃ j : Nat, ∃ uo un uc, j ≤ m ∧ u = .slice uo un uc ∧ x = .int .i64 j ∧ Hid (PortsV wr 0 (.slice uo un uc) (((ks.take j).flatMap (Rx.nms r.op)).foldl Ru.put ys)) ∧ Hid (boxed w r (.slice ao m cap) wr)) (fun _ x _ => m - (intOf x).toNat)
      case atStart => exact ⟨0, u1, n1, c1', Nat.zero_le _, rfl, rfl, P2, B1⟩
      case round =>
        obtain ⟨j, uo, un, uc, hj, rfl, rfl, HP, HX⟩ := hrel
        obtain ⟨c0, c1, c2⟩ := HX.out.cells
        by_cases hlt : j < m
        · have hjI : (j : Int) < (m : Int) := by omega
          have hj0 : (0 : Int) ≤ (j : Int) := by omega
          obtain ⟨x, hx⟩ : ∃ x, ks[j]? = some x := ⟨ks[j]'(by rw [← HM.out]; exact hlt), List.getElem?_eq_getElem _⟩
          have hmem := List.mem_of_getElem? hx
          obtain ⟨kg, ko, rfl, hkg, hkc⟩ := HAT.out.resolve_left (fun e => by rw [e] at hmem; cases hmem)
          obtain ⟨v0, vn, vc, a0, a1, a2, -, hxs⟩ := hkc j x hx
          have LW := hid HX.out.low
          have q0 := (LW.out.cell (p := ⟨kg, ko + j * 3, none⟩) (by exact hkg)).trans a0
          have q1 := (LW.out.cell (p := ⟨kg, ko + j * 3 + 1, none⟩) (by exact hkg)).trans a1
          have q2 := (LW.out.cell (p := ⟨kg, ko + j * 3 + 2, none⟩) (by exact hkg)).trans a2
          have hb1 : (((ks.take j).flatMap (Rx.nms r.op)).foldl Ru.put ys).length + x.nodes ≤ 1000000 := by
            have h1 := putAll_len ((ks.take j).flatMap (Rx.nms r.op)) ys
            have h2 := flat_len r.op (ks.take j)
            have h3 : nodesL (ks.take j) + x.nodes ≤ nodesL ks := by
              have := nodesL_take (ks := ks) (j + 1)
              rw [take_snocR hx, nodesL_snoc] at this
              exact this
            have := HB.out
            omega
          have HC := hid (HIH.out x hmem (hxs.on LW.out) HP.out hb1)
          have HFS := hid (flat_snoc r.op hx)
          unfold NmdPost at HC
          clear hb1 hmem hx hkc a0 a1 a2 hxs
          go_wp2_with fail
          refine HC.out.mono ?_
          rintro en w2 ⟨u2, n2, c2', rfl, P2, L2⟩
          have B2 := hid (HX.out.on L2.out)
          have P3 := hid (show PortsV w2 0 (.slice u2 n2 c2') (((ks.take (j + 1)).flatMap (Rx.nms r.op)).foldl Ru.put ys) by rw [HFS.out, List.foldl_append]; exact P2.out)
          clear c0 c1 c2 q0 q1 q2
          go_wp2
          exact ⟨⟨j + 1, u2, n2, c2', by omega, rfl, by go_num, P3, B2⟩, by simp [intOf]; omega⟩
        · have hjI : ¬ (j : Int) < (m : Int) := by omega
          have HFIN := hid (show NmdPost w ((ks.flatMap (Rx.nms r.op)).foldl Ru.put ys) (.returned (.slice uo un uc)) wr from ⟨uo, un, uc, rfl, by have := HP.out; rw [List.take_of_length_le (by rw [← HM.out]; omega)] at this; exact this, HX.out.low⟩)
          go_wp2
          exact bodyPost_ret (v := .slice uo un uc) (by simp [results, Tryz.results44, go_sem]) rfl HFIN.out
    · have hoI : (r.op == op) = false := by simpa using ho
      have HY2 := hid (show ys = zs by rw [HYS.out, if_neg (by simp [hoI])]; rfl)
      have P2 := hid (fun (ob : Obj) => (show PortsV (w.alloc ob) 0 (.slice bo bn bc) (((ks.take 0).flatMap (Rx.nms op)).foldl Ru.put ys) by rw [HY2.out]; exact PortsV.on HP0.out ((Below.refl _ _).alloc (Nat.le_refl _) _)))
      clear ho
      go_enter Tryz.func44, Tryz.ntmps44
      go_wp2_with fail
      go_loopw [2, 7] (fun u x wr => ∃ j : Nat, ∃ uo un uc, j ≤ m ∧ u = .slice uo un uc ∧ x = .int .i64 j ∧ Hid (PortsV wr 0 (.slice uo un uc) (((ks.take j).flatMap (Rx.nms op)).foldl Ru.put ys)) ∧ Hid (boxed w r (.slice ao m cap) wr)) (fun _ x _ => m - (intOf x).toNat)
      case atStart => exact ⟨0, bo, bn, bc, Nat.zero_le _, rfl, rfl, P2.out _, B0⟩
      case round =>
        obtain ⟨j, uo, un, uc, hj, rfl, rfl, HP, HX⟩ := hrel
        obtain ⟨c0, c1, c2⟩ := HX.out.cells
        by_cases hlt : j < m
        · have hjI : (j : Int) < (m : Int) := by omega
          have hj0 : (0 : Int) ≤ (j : Int) := by omega
          obtain ⟨x, hx⟩ : ∃ x, ks[j]? = some x := ⟨ks[j]'(by rw [← HM.out]; exact hlt), List.getElem?_eq_getElem _⟩
          have hmem := List.mem_of_getElem? hx
          obtain ⟨kg, ko, rfl, hkg, hkc⟩ := HAT.out.resolve_left (fun e => by rw [e] at hmem; cases hmem)
          obtain ⟨v0, vn, vc, a0, a1, a2, -, hxs⟩ := hkc j x hx
          have LW := hid HX.out.low
          have q0 := (LW.out.cell (p := ⟨kg, ko + j * 3, none⟩) (by exact hkg)).trans a0
          have q1 := (LW.out.cell (p := ⟨kg, ko + j * 3 + 1, none⟩) (by exact hkg)).trans a1
          have q2 := (LW.out.cell (p := ⟨kg, ko + j * 3 + 2, none⟩) (by exact hkg)).trans a2
          have hb1 : (((ks.take j).flatMap (Rx.nms op)).foldl Ru.put ys).length + x.nodes ≤ 1000000 := by
            have h1 := putAll_len ((ks.take j).flatMap (Rx.nms op)) ys
            have h2 := flat_len op (ks.take j)
            have h3 : nodesL (ks.take j) + x.nodes ≤ nodesL ks := by
              have := nodesL_take (ks := ks) (j + 1)
              rw [take_snocR hx, nodesL_snoc] at this
              exact this
            have := HB.out
            omega
          have HC := hid (HIH.out x hmem (hxs.on LW.out) HP.out hb1)
          have HFS := hid (flat_snoc op hx)
          unfold NmdPost at HC
          clear hb1 hmem hx hkc a0 a1 a2 hxs
          go_wp2_with fail
          refine HC.out.mono ?_
          rintro en w2 ⟨u2, n2, c2', rfl, P2, L2⟩
          have B2 := hid (HX.out.on L2.out)
          have P3 := hid (show PortsV w2 0 (.slice u2 n2 c2') (((ks.take (j + 1)).flatMap (Rx.nms op)).foldl Ru.put ys) by rw [HFS.out, List.foldl_append]; exact P2.out)
          clear c0 c1 c2 q0 q1 q2
          go_wp2
          exact ⟨⟨j + 1, u2, n2, c2', by omega, rfl, by go_num, P3, B2⟩, by simp [intOf]; omega⟩
        · have hjI : ¬ (j : Int) < (m : Int) := by omega
          have HFIN := hid (show NmdPost w ((ks.flatMap (Rx.nms op)).foldl Ru.put ys) (.returned (.slice uo un uc)) wr from ⟨uo, un, uc, rfl, by have := HP.out; rw [List.take_of_length_le (by rw [← HM.out]; omega)] at this; exact this, HX.out.low⟩)
          go_wp2
          exact bodyPost_ret (v := .slice uo un uc) (by simp [results, Tryz.results44, go_sem]) rfl HFIN.out
end Go.Proofs.YtnmmfbhmfcabhaaGreatDoor
namespace Go.Proofs.YtnmmfbhmfcabhaaGreatDoor
open Go.RowKit

set_option maxRecDepth 20000 in
set_option maxHeartbeats 2000000 in
theorem insert_nil (w : World) : Calls Tryz.prog 130 #[.slice none 0 0, .int .i64 0, .int .i64 0] w fun e w' => e = .returned (.tuple #[]) ∧ w' = w := by
  go_enter Tryz.func130, Tryz.ntmps130
  go_wp2_with fail
  go_loopw [6] (fun x wr => x = .int .i64 1 ∧ wr = w) (fun _ _ => 0)
  case atStart => exact ⟨rfl, rfl⟩
  case round =>
    obtain ⟨rfl, rfl⟩ := hrel
    go_wp2
    exact bodyPost_end (v := .tuple #[]) (by simp [results, Tryz.results130, go_sem]) rfl ⟨rfl, rfl⟩
/-- A number, whatever it is. -/
def LenP (w : World) (e : Ending) (w' : World) : Prop := ∃ k : Int, e = .returned (.int .i64 k) ∧ w' = w
set_option maxRecDepth 20000 in
set_option maxHeartbeats 2000000 in
theorem pdq_nil (w : World) (n : Int) : Calls Tryz.prog 101 #[.slice none 0 0, .int .i64 0, .int .i64 0, .int .i64 n] w fun e w' => e = .returned (.tuple #[]) ∧ w' = w := by
  have HI := hid (fun W => insert_nil W)
  go_enter Tryz.func101, Tryz.ntmps101
  go_wp2_with fail
  go_loopw [1, 2] (fun a b wr => a = .int .i64 0 ∧ b = .int .i64 0 ∧ wr = w) (fun _ _ _ => 0)
  case atStart => exact ⟨rfl, rfl, rfl⟩
  case round =>
    obtain ⟨rfl, rfl, rfl⟩ := hrel
    go_wp2_with fail
    refine (HI.out _).mono ?_
    rintro en w1 ⟨rfl, rfl⟩
    go_wp2
    exact bodyPost_ret (v := .tuple #[]) (by simp [results, Tryz.results101, go_sem]) rfl ⟨rfl, rfl⟩
set_option maxRecDepth 20000 in
set_option maxHeartbeats 2000000 in
theorem len64_zero (w : World) : Calls Tryz.prog 140 #[.int .u64 0] w fun e w' => LenP w e w' := by
  go_enter Tryz.func140, Tryz.ntmps140
  go_wp2
  exact bodyPost_ret (v := .int .i64 (wrap64 (wrap64 (Lib.len8 0)))) (by simp [results, Tryz.results140, go_sem]) rfl ⟨_, rfl, rfl⟩
set_option maxRecDepth 20000 in
set_option maxHeartbeats 2000000 in
theorem len_zero (w : World) : Calls Tryz.prog 102 #[.int .u64 0] w fun e w' => LenP w e w' := by
  have HL := hid (fun W => len64_zero W)
  go_enter Tryz.func102, Tryz.ntmps102
  go_wp2_with fail
  refine (HL.out _).mono ?_
  rintro en w1 ⟨k, rfl, rfl⟩
  go_wp2
  exact bodyPost_ret (v := .int .i64 k) (by simp [results, Tryz.results102, go_sem]) rfl ⟨k, rfl, rfl⟩
set_option maxRecDepth 20000 in
set_option maxHeartbeats 2000000 in
theorem sort_nil (w : World) : Calls Tryz.prog 72 #[.slice none 0 0] w fun e w' => e = .returned (.tuple #[]) ∧ w' = w := by
  have HP := hid (fun W n => pdq_nil W n)
  have HL := hid (fun W => len_zero W)
  go_enter Tryz.func72, Tryz.ntmps72
  go_wp2_with fail
  refine (HL.out _).mono ?_
  rintro en w1 ⟨k, rfl, rfl⟩
  go_wp2_with fail
  refine (HP.out _ _).mono ?_
  rintro en w1 ⟨rfl, rfl⟩
  go_wp2
  exact bodyPost_end (v := .tuple #[]) (by simp [results, Tryz.results72, go_sem]) rfl ⟨rfl, rfl⟩
set_option maxRecDepth 20000 in
set_option maxHeartbeats 2000000 in
theorem compact_nil (w : World) : Calls Tryz.prog 73 #[.slice none 0 0] w fun e w' => e = .returned (.slice none 0 0) ∧ w' = w := by
  go_enter Tryz.func73, Tryz.ntmps73
  go_wp2
  exact bodyPost_ret (v := .slice none 0 0) (by simp [results, Tryz.results73, go_sem]) rfl ⟨rfl, rfl⟩
end Go.Proofs.YtnmmfbhmfcabhaaGreatDoor
namespace Go.Proofs.YtnmmfbhmfcabhaaGreatDoor
open Go.RowKit Go.Shelf
open Zn (PortsV TxtAt)
attribute [local go_sem] Oper.semAt_some

theorem row_neZ (v : Value) : v.ownBlock = none ∨ v.ownBlock ≠ none := by
  cases h : v.ownBlock with
  | none => exact Or.inl rfl
  | some g => exact Or.inr (by simp)
/-- append, under a name that the walk leaves. -/
def appZ (ts : Array TypeId) (ty : TypeId) (args : Array Value) : Sem Value := Builtin.append_ ts ty args
theorem appZ_fold {ts : Array TypeId} {ty : TypeId} {args : Array Value} : Builtin.append_ ts ty args = appZ ts ty args := rfl
/-- A text is appended to a row of texts of one's own, behind a call. -/
theorem app_nm {W w1 : World} {n₀ B : Nat} {v : Value} {n : Nat} {xs : List Value} {s : ByteArray} {i0 : TypeInfo}
    (hv : Boxed W B 47 v) (hrow : W.ownsRow n₀ 9 1 v n xs) (hb : Below W.drew.heap.size W.drew w1) (hi : Tryz.prog.info? 9 = some i0) (hz0 : i0.zero = some (.string (tx []))) (hz1 : i0.size = 1) (hz2 : i0.bytes = 16) (hn : n < 100000) (hn0 : n₀ ≤ W.heap.size) (hB : n₀ ≤ B) :
    ∃ g' cap' w2, (appZ #[47, 47] 47 #[v, .slice (some ⟨w1.heap.size, 0, none⟩) 1 1]).run Tryz.prog (w1.alloc (.cells #[.string s] 9)) = .ok (.slice (some ⟨g', 0, none⟩) (n + 1) cap') w2 ∧
      Hid (Boxed (w2.setCell ⟨B, 0, none⟩ (.slice (some ⟨g', 0, none⟩) (n + 1) cap')) B 47 (.slice (some ⟨g', 0, none⟩) (n + 1) cap') ∧ (w2.setCell ⟨B, 0, none⟩ (.slice (some ⟨g', 0, none⟩) (n + 1) cap')).ownsRow n₀ 9 1 (.slice (some ⟨g', 0, none⟩) (n + 1) cap') (n + 1) (xs ++ [.string s])) ∧
      Hid (KeepsOthers W (w2.setCell ⟨B, 0, none⟩ (.slice (some ⟨g', 0, none⟩) (n + 1) cap'))) ∧ Hid (Below n₀ W (w2.setCell ⟨B, 0, none⟩ (.slice (some ⟨g', 0, none⟩) (n + 1) cap'))) ∧
      Hid (∀ (b : Nat) (cs : Array Value) (t : TypeId) (fr : Nat × Nat), t ≠ 47 → t ≠ 9 → W.heap[b]? = some (.cells cs t fr) → (w2.setCell ⟨B, 0, none⟩ (.slice (some ⟨g', 0, none⟩) (n + 1) cap')).heap[b]? = some (.cells cs t fr)) ∧
      w1.cell? ⟨B, 0, none⟩ = some v ∧ (∀ o, (w1.alloc o).cell? ⟨B, 0, none⟩ = some v) ∧ w2.cell? ⟨B, 0, none⟩ = some v ∧ w2.frozen? ⟨B, 0, none⟩ = false := by
  have hg1 : W.grownBy w1 none := ⟨hb.os, hb.tape, hb.output, hb.size, fun k hk _ => hb.block k hk⟩
  have hv1 := hv.kept hg1 (by simp)
  have hrow1 := hrow.kept hg1 (row_neZ _)
  have hn1 : n₀ ≤ w1.heap.size := Nat.le_trans hn0 hg1.size
  obtain ⟨v', w2, hrun, hown', hgrow, _⟩ := run_append_own (P := Tryz.prog) (w1.alloc (.cells #[.string s] 9)) n₀ 47 47 9 i0 (.string (tx [])) 1 16 Tryz.underlying47 hi hz0 hz1 hz2 rfl (by decide) v n xs (hrow1.alloc _) ⟨w1.heap.size, 0, none⟩ 1 1 [.string s] rfl (cell_one_new _ _ _) (by simp [Value.oneCell']) (by simp [maxLen]; omega) (by omega) (by simp; omega)
  obtain ⟨g', cap', rfl⟩ := ownsRow_succ hown'
  obtain ⟨hv3, hv2, hr2, hk2, hb2⟩ := hv1.appended (by decide) hrow1 hn1 hB hown' hgrow
  have kW : KeepsOthers W w1 := KeepsOthers.of_grownBy hg1 (fun j o ej _ => by cases ej)
  refine ⟨g', cap', w2, hrun, ⟨hv2, hr2⟩, kW.trans hk2, (show Below n₀ W w1 from ⟨hb.os, hb.tape, hb.output, hb.size, fun k hk => hb.block k (Nat.lt_of_lt_of_le hk hn0)⟩).trans hb2, fun b cs t fr h1 h2 hq => ?_, hv1.cell, fun o => (hv1.alloc o).cell, hv3.cell, hv3.frozen⟩
  have hbl : b < W.heap.size := lt_of_block hq
  have q1 : w1.heap[b]? = some (.cells cs t fr) := (hb.block b hbl).trans hq
  have hbl1 : b < w1.heap.size := lt_of_block q1
  have hne : some b ≠ v.ownBlock := fun e => by
    rcases hrow1.2 with ⟨rfl, _⟩ | ⟨g, cap, cur, rfl, _, hgb, _⟩
    · simp [Value.ownBlock] at e
    · simp [Value.ownBlock] at e
      subst e
      rw [q1] at hgb
      injection hgb with hgb
      injection hgb with _ hgb _
      exact h2 hgb
  have q2 : w2.heap[b]? = some (.cells cs t fr) := (hgrow.block b (by simp only [World.size_alloc]; omega) hne).trans ((Below.heap_alloc _ _ _ hbl1).trans q1)
  rw [Below.heap_setCell _ _ _ _ (by
    show b ≠ B
    rintro rfl
    have : W.heap[b]? = _ := hv
    rw [hq] at this
    injection this with this
    injection this with _ this _
    exact h1 this)]
  exact q2
/-- The names of the nodes of a kind among those that were met. -/
def nmP {w0 : World} (op : Int) (pre : List (NxB w0)) : List (List UInt8) := ((nxRB pre).filter fun x => x.op == op).map Rx.name
theorem nmP_snoc {w0 : World} (op : Int) (pre : List (NxB w0)) (x : NxB w0) : nmP op (pre ++ [x]) = nmP op pre ++ (if x.1.1.op == op then [x.1.1.name] else []) := by
  unfold nmP nxRB
  rw [List.map_append, List.filter_append, List.map_append]
  congr 1
  simp only [List.map_cons, List.map_nil, List.filter_cons, List.filter_nil]
  split <;> rfl
theorem nmP_len {w0 : World} (op : Int) (pre : List (NxB w0)) : (nmP op pre).length ≤ pre.length := by
  unfold nmP nxRB
  rw [List.length_map]
  exact Nat.le_trans (List.length_filter_le _ _) (by simp)
theorem name_of {x : Rx} (h : nodeB x = true) (ho : x.op = 1 ∨ x.op = 2) : 0 < (tx x.name).size ∧ (tx x.name).size ≤ 1048576 := by
  unfold nodeB at h
  rw [if_pos ho, Bool.and_eq_true] at h
  have h1 := of_decide_eq_true h.1
  have h2 := List.length_pos_iff.2 h1.1
  have h3 := h1.2.1
  have e : (tx x.name).size = x.name.length := by show x.name.toArray.size = _; simp
  omega

attribute [local go_sem ↓] appZ_fold
set_option maxRecDepth 100000 in
set_option maxHeartbeats 2000000 in
theorem names_any {w : World} {v : Value} {r : Rx} {op : Int} (hS : RxS w v r.kids) (hn : r.nodes ≤ 1000) (hB : Rx.all nodeB r = true) (ho : op = 1 ∨ op = 2) :
    Calls Tryz.prog 43 #[.agg #[.int .i64 r.op, .string (tx r.name), v], .int .i64 op] w fun e w' => NmdPost w ((r.nms op).foldl Ru.put []) e w' := by
  have HNO := hid (fun (W : World) (ao : Option Addr) (n c : Nat) => nodes_any (w := W) (r := r) (ao := ao) (n := n) (c := c))
  obtain ⟨ao, cap, rfl, -⟩ := hS.at
  have HS := hid hS
  obtain ⟨m, hm⟩ : ∃ m, m = r.kids.length := ⟨_, rfl⟩
  rw [← hm] at HS ⊢
  clear hS hm
  obtain ⟨i0, hi, hz0, hz1, hz2⟩ := info_parts Zn.infoStr
  refine (callsIn_wide (n := 9)).1 ?_
  refine callsIn_of_wp_marks Tryz.func43 rfl trivial ?_ rfl
  simp only [Tryz.ntmps43, List.size_toArray, List.length_cons, List.length_nil, Nat.reduceAdd, Nat.reduceSub, Array.replicate_succ, Array.replicate_zero, List.push_toArray, List.append_toArray, List.nil_append, List.cons_append]
  gi_wp2_with (refine ⟨trivial, ?_⟩; gi_at_call 56; refine (callsIn_wide.2 (HNO.out _ _ _ _)).mono ?_; rintro e w' ⟨rfl, rfl⟩)
  obtain ⟨W2, hW2⟩ : ∃ W2, (((w.alloc (rxo r.op r.name (.slice ao m cap))).alloc (.cells #[.int .i64 op] 22)).alloc (.cells #[.slice none 0 0] 47)).alloc (rxo r.op r.name (.slice ao m cap)) = W2 := ⟨_, rfl⟩
  have hBW : Below w.heap.size w W2 := by
    rw [← hW2]
    exact ((((Below.refl _ w).alloc (Nat.le_refl _) _).alloc (by simp) _).alloc (by simp; omega) _).alloc (by simp; omega) _
  have b1 : Boxed W2 (w.heap.size + 1) 22 (.int .i64 op) := by rw [← hW2]; repeat (first | exact new_1 _ _ _ | refine Boxed.alloc ?_ _)
  have b2 : Boxed W2 (w.heap.size + 1 + 1) 47 (.slice none 0 0) := by
    rw [← hW2]
    refine Boxed.alloc ?_ _
    have := new_0 ((w.alloc (rxo r.op r.name (.slice ao m cap))).alloc (.cells #[.int .i64 op] 22)) (.cells #[.slice none 0 0] 47)
    simp only [World.size_alloc] at this
    exact this
  have b3 : W2.heap[w.heap.size + 1 + 1 + 1]? = some (rxo r.op r.name (.slice ao m cap)) := by
    rw [← hW2]
    have := new_0 (((w.alloc (rxo r.op r.name (.slice ao m cap))).alloc (.cells #[.int .i64 op] 22)).alloc (.cells #[.slice none 0 0] 47)) (rxo r.op r.name (.slice ao m cap))
    simp only [World.size_alloc] at this
    exact this
  have z2 : W2.heap.size = w.heap.size + 4 := by rw [← hW2]; simp
  have hKA : KW w w W2 := KW.of_below hBW
  rw [hW2]
  clear hW2
  refine wpIn_rangeFunc_ownH rfl (by omega) (gf := 80) (lb := #[.pointer (some ⟨w.heap.size + 1 + 1 + 1, 0, none⟩)]) rfl trivial (enters_of Tryz.func80 (by kernel_rfl) rfl)
    (nodesW_stops (n := 9 - 1) W2 HS.out (by omega) hB hKA b3) KW.trans (fun W l o o' hl h hc _ => kW_b w W l o o' (by omega) h hc) (Below.refl _ _) (fun _ => rfl)
    (fun pre W => (∃ v, Boxed W (w.heap.size + 1 + 1) 47 v ∧ W.ownsRow w.heap.size 9 1 v (nmP op pre).length ((nmP op pre).map (fun l => Value.string (tx l))) ∧ True) ∧ Boxed W (w.heap.size + 1) 22 (.int .i64 op) ∧ Below w.heap.size w W)
    (fun _ _ _ => False)
    (OwnFrom.and (Own.from (holdsRow_own w.heap.size (w.heap.size + 1 + 1) 47 9 1 (fun pre => (nmP op pre).length) (fun pre => (nmP op pre).map (fun l => Value.string (tx l))) (fun pre v => True)) _) (OwnFrom.and (Own.from (boxed_own _ _ (fun _ => _)) _) (ownFrom_below (Nat.le_refl _) (by omega))))
    (fun _ _ _ _ _ hs _ _ => hs)
    ⟨⟨_, b2, World.ownsRow_nil _ _ _ _, trivial⟩, b1, hBW⟩
    (fun x a' W => ∃ cb : Nat, a' = { tmps := #[.agg #[.int .i64 r.op, .string (tx r.name), .slice ao m cap], .int .i64 op, .pointer (some ⟨w.heap.size, 0, none⟩), .pointer (some ⟨w.heap.size + 1, 0, none⟩), .slice none 0 0, .pointer (some ⟨w.heap.size + 1 + 1, 0, none⟩), .pointer (some ⟨cb, 0, none⟩), .agg #[.int .i64 r.op, .string (tx r.name), .slice ao m cap], .func (.func 80) #[] #[.pointer (some ⟨w.heap.size + 1 + 1 + 1, 0, none⟩)], .agg #[.int .i64 x.1.1.op, .string (tx x.1.1.name), x.1.2], undef, undef, undef, undef, undef, undef, undef, undef, undef, undef, undef, undef, undef, undef], defers := [] } ∧ W.heap[cb]? = some (rxo x.1.1.op x.1.1.name x.1.2))
    (fun x a' s W W' row hs hg hr => ?ax) ?assign ?body ?done ?stop
  case ax =>
    obtain ⟨cb, h2, h4⟩ := hs
    refine ⟨cb, h2, ?_⟩
    rw [hg.block cb (lt_of_block h4) (fun e => by
      obtain ⟨_, o, ho, hc⟩ := hr cb e.symm
      rw [h4] at ho
      cases ho
      cases hc)]
    exact h4
  case assign =>
    intro l pre x W K hI hK
    obtain ⟨⟨xr, xv⟩, hx1, hx2, hx3⟩ := x
    obtain ⟨xo, xc, hxv, -⟩ := hx1.at
    simp only at hxv
    subst hxv
    obtain ⟨⟨v, hv, hrow, _⟩, e1, hB1⟩ := hI
    gi_wp2
    refine hK _ _ ⟨by simp, fun b o _ hb _ => ?_⟩ (KW.of_below ((Below.refl W.heap.size W).alloc (Nat.le_refl _) _)) ⟨⟨v, hv.alloc _, hrow.alloc _, trivial⟩, e1.alloc _, hB1.alloc hB1.size _⟩ ⟨W.heap.size, rfl, new_0 _ _⟩
    rw [((Below.refl W.heap.size W).alloc (Nat.le_refl _) _).block b (Array.getElem?_eq_some_iff.1 hb).1]
    exact hb
  case body =>
    rintro l pre x a' W hl hlr ⟨⟨v, hv, hrow, _⟩, e1, hB1⟩ ⟨cb, rfl, hcb⟩ hlt
    have HSN := hid (nmP_snoc op pre x)
    have hnl := nmP_len op pre
    obtain ⟨⟨xr, xv⟩, hx1, hx2, hx3⟩ := x
    obtain ⟨xo, xc, hxv, -⟩ := hx1.at
    simp only at hxv hcb HSN
    subst hxv
    have f0 : W.cell? ⟨cb, 0, none⟩ = some (.int .i64 xr.op) := by rw [cell_at hcb]; rfl
    have f1 : W.cell? ⟨cb, 1, none⟩ = some (.string (tx xr.name)) := by rw [cell_at hcb]; rfl
    have g0 := e1.cell
    by_cases hq : xr.op = op
    · have hmx : Tryz.prog.follows .mixedOrders = true := by kernel_rfl
      obtain ⟨hs0, hs1⟩ := name_of hx3 (by rw [hq]; exact ho)
      have HT := hid (Clone_any (tx xr.name) W.drew hs0 hs1)
      have hc := hv.cell
      have HB1 := hid hB1
      have hB0 := hB1.size
      have HV := hid hv
      have HROW := hid hrow
      have HE1 := hid e1
      have HCB := hid hcb
      obtain ⟨n, hnn⟩ : ∃ n, n = (nmP op pre).length := ⟨_, rfl⟩
      have HN := hid hnn
      have hn5 : n < 100000 := by omega
      rw [← hnn] at HROW
      clear hrow hB1 hnl hnn
      have hoq : (xr.op == op) = true := by simpa using hq
      rw [hq] at f0
      gi_wp2
      gi_region_with_o (refine ⟨trivial, ?_⟩; gi_at_call 71; refine (CallsIn.inRound l (callsIn_wide.2 HT.out)).mono ?_; rintro e w1 ⟨rfl, hb1⟩; obtain ⟨g', cap', w2, hrun, H1, H2, H3, H4, cc1, cc2, cc3, cf⟩ := app_nm (s := tx xr.name) HV.out HROW.out hb1 hi hz0 hz1 hz2 hn5 hB0 (by omega); clear hb1)
      all_goals gi_wp2
      all_goals exact ⟨H2.out.from _, ⟨H3.out.size, fun b hb _ => H3.out.block b hb, fun b cs fr q => H4.out b cs _ fr (by decide) (by decide) q⟩, ⟨_, H1.out.1, by rw [HSN.out, if_pos hoq, List.length_append, List.map_append, ← HN.out]; exact H1.out.2, trivial⟩, H4.out _ _ _ _ (by decide) (by decide) HE1.out, HB1.out.trans H3.out⟩
    · have hoq : (xr.op == op) = false := by simpa using hq
      have HE := hid (show nmP op (pre ++ [⟨(xr, Value.slice xo xr.kids.length xc), hx1, hx2, hx3⟩]) = nmP op pre by rw [HSN.out, if_neg (by simp [hoq])]; simp)
      gi_wp2
      exact ⟨⟨Nat.le_refl _, fun b o _ hb _ => hb⟩, KW.refl _ _, ⟨v, hv, by rw [HE.out]; exact hrow, trivial⟩, e1, hB1⟩
  case done =>
    rintro D ys W hD hS ⟨⟨v, hv, hrow, _⟩, e1, hB1⟩ hK
    have HZ := hid (show nmP op ys = r.nms op by unfold nmP Rx.nms; rw [hS])
    have hle : (nmP op ys).length ≤ 1000 := by
      have h1 := nms_len op r
      rw [HZ.out]; omega
    have hown := Zn.own_ports (show W.ownsRow w.heap.size 9 1 v (nmP op ys).length (svs (nmP op ys)) from hrow)
    have hwl := hB1.size
    rcases hown with ⟨hnil, rfl⟩ | ⟨g, cap1, rfl, hg, hT⟩
    · have hc := hv.cell
      have HRES := hid (show (r.nms op).foldl Ru.put [] = [] by rw [← HZ.out, hnil]; rfl)
      gi_wp2_with (refine ⟨trivial, ?_⟩; first | (gi_at_call 72; refine (callsIn_wide.2 (sort_nil W)).mono ?_; rintro e w' ⟨rfl, hw⟩; rw [hw]; clear hw w') | (gi_at_call 73; refine (callsIn_wide.2 (compact_nil W)).mono ?_; rintro e w' ⟨rfl, hw⟩; rw [hw]; clear hw w'))
      refine ⟨by simp, .inl ⟨_, _, rfl, run_takeDeferred hK, ?_⟩⟩
      refine ⟨.slice none 0 0, ?_, none, 0, 0, rfl, by rw [HRES.out]; exact Or.inl ⟨rfl, rfl⟩, hB1.trans (belowK_b (w := w) (Nat.le_refl _) W D _ _ (by omega) hK rfl rfl)⟩
      simp [results, Tryz.f43, go_sem]
    · have hc := hv.cell
      have hcap : (nmP op ys).length ≤ cap1 := by
        rcases hrow.2 with ⟨e, _⟩ | ⟨g', cap', cur, e, _, _, h, _⟩
        · cases e
        · cases e; exact h
      obtain ⟨zs, hzs⟩ : ∃ zs, zs = nmP op ys := ⟨_, rfl⟩
      have HRES := hid (show Lib.compact (zs.mergeSort fun x y => decide (x ≤ y)) = (r.nms op).foldl Ru.put [] by rw [Ru.compact_sort, hzs, HZ.out]; rfl)
      rw [← hzs] at hT hle hcap hc
      have HS1 := hid (Zn.sort_texts hT cap1 (by omega))
      have HS2 := hid (fun (W3 : World) (h : TxtAt W3 g (zs.mergeSort fun x y => decide (x ≤ y))) => (by
        have := Zn.compact_texts h cap1 (by rw [List.length_mergeSort]; omega) (by rw [List.length_mergeSort]; exact hcap)
        rw [List.length_mergeSort] at this
        exact this))
      rw [HRES.out] at HS2
      have HBX := hid hv
      have HKD := hid hK
      have HCT := hid hT
      have hgbx : some (w.heap.size + 1 + 1) ≠ some g := fun e => by
        injection e with e
        obtain ⟨cs, hq, _⟩ := hT
        have : W.heap[w.heap.size + 1 + 1]? = _ := hv
        rw [e, hq] at this
        injection this with this
        injection this with _ this _
        exact absurd this (by decide)
      have hgD : some D ≠ some g := fun e => by
        injection e with e
        obtain ⟨cs, hq, _⟩ := hT
        rw [e, hq] at hK
        cases hK
      have hglt : g < W.heap.size := hT.lt
      have hDlt : D < W.heap.size := (Array.getElem?_eq_some_iff.1 hK).1
      have hblt : w.heap.size + 1 + 1 < W.heap.size := hv.lt
      have HB1 := hid hB1
      have HNX := hid (fun (W3 : World) (g3 : W.grownBy W3 (some g)) => (by
        have hv3 : Boxed W3 (w.heap.size + 1 + 1) 47 _ := (g3.block _ hblt hgbx).trans HBX.out
        exact hv3.cell : W3.cell? ⟨w.heap.size + 1 + 1, 0, none⟩ = some (.slice (some ⟨g, 0, none⟩) (nmP op ys).length cap1)))
      rw [← hzs] at HNX
      have HFIN := hid (fun (W3 W4 : World) (g3 : W.grownBy W3 (some g)) (g4 : W3.grownBy W4 (some g)) => (by
        have hD3 : W3.heap[D]? = some (.deferred (some [])) := (g3.block _ hDlt hgD).trans HKD.out
        have hD4 : W4.heap[D]? = some (.deferred (some [])) := (g4.block _ (Nat.lt_of_lt_of_le hDlt g3.size) hgD).trans hD3
        have hB3 : Below w.heap.size w W3 := HB1.out.grown g3 hwl (fun q hq => by injection hq with hq; omega)
        have hB4 : Below w.heap.size w W4 := hB3.grown g4 hB3.size (fun q hq => by injection hq with hq; omega)
        exact ⟨hD4, hB4⟩ : W4.heap[D]? = some (.deferred (some [])) ∧ Below w.heap.size w W4))
      clear hrow hv hK hT hB1 hS e1 hzs
      gi_wp2_with (refine ⟨trivial, ?_⟩; gi_at_call 72; refine (callsIn_wide.2 HS1.out).mono ?_; rintro e W3 ⟨rfl, t3, g3⟩; have HT3 := hid t3; have HG3 := hid g3; have hc3 := HNX.out W3 g3; clear t3 g3)
      refine ⟨trivial, ?_⟩
      refine (callsIn_wide.2 (HS2.out W3 HT3.out)).mono ?_
      rintro e W4 ⟨rfl, t4, g4⟩
      have HT4 := hid t4
      have HG4 := hid g4
      clear t4 g4
      gi_wp2
      obtain ⟨hD4, hB4⟩ := HFIN.out W3 W4 HG3.out HG4.out
      refine ⟨by simp, .inl ⟨_, _, rfl, run_takeDeferred hD4, ?_⟩⟩
      have hT5 : PortsV (W4.putObj D (.deferred none)) 0 (.slice (some ⟨g, 0, none⟩) ((r.nms op).foldl Ru.put []).length cap1) ((r.nms op).foldl Ru.put []) := by
        refine Or.inr ⟨g, cap1, rfl, Nat.zero_le _, HT4.out.kept ?_⟩
        exact (grownBy_putObj' W4 D (.deferred none)).block g HT4.out.lt (fun e => hgD e.symm)
      refine ⟨.slice (some ⟨g, 0, none⟩) ((r.nms op).foldl Ru.put []).length cap1, ?_, _, _, _, rfl, hT5, hB4.trans (belowK_b (w := w) (Nat.le_refl _) W4 D _ _ (by omega) hD4 rfl rfl)⟩
      simp [results, Tryz.f43, go_sem]
  case stop =>
    rintro D j pre W hD hS h hK
    exact h.elim
end Go.Proofs.YtnmmfbhmfcabhaaGreatDoor
