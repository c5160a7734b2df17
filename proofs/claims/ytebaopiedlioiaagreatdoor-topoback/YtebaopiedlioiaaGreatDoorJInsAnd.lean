/-
  The document's place, names, before, at.
  Which topologies may be. Plain mathematics: no program is named here.
  Is a text one of a row? Is an end a device's port?
  The reader of topologies: a list of names.
  slices.Insert of one text into a row of one's own; slices.BinarySearch of a text in it.
-/
import Derived.Test.YtebaopiedlioiaaGreatDoorJRdAnd
import Derived.Test.YtebaopiedlioiaaGreatDoorOLay
import Derived.Sort.Walk0
import Derived.Deep.LoopGhost
import Derived.Test.YtebaopiedlioiaaGreatDoorWRefSAnd
import Derived.Test.YtebaopiedlioiaaGreatDoorWBuildAnd
import Derived.Deep.DeepCutAuto
import Derived.BigQuiet
namespace Go.Proofs.YtebaopiedlioiaaGreatDoor
open Go.RowKit Go Go.Shelf

theorem Tryz.fInsert : Tryz.laysInsert_ren.f 22 = 163 := by kernel_rfl
theorem Tryz.tInsert : Tryz.laysInsert_ren.t 9 = 9 := by kernel_rfl
theorem Tryz.fSearch : Tryz.laysSearch_ren.f 26 = 162 := by kernel_rfl
theorem svs_get {ls : List (List UInt8)} {j : Nat} {v : Value} (h : (svs ls)[j]? = some v) : v.oneCell' = true := by
  rw [svs, List.getElem?_map, Option.map_eq_some_iff] at h
  obtain ⟨l, _, rfl⟩ := h
  rfl
theorem svs_one {ls : List (List UInt8)} : ∀ v ∈ svs ls, v.oneCell' = true := fun v hv => by
  obtain ⟨j, hj⟩ := List.getElem?_of_mem hv
  exact svs_get hj
/-- What Insert leaves. -/
def InsQ (B : Nat) (w : World) (v : Value) (n i : Nat) (ls : List (List UInt8)) (x : List UInt8) (e : Ending) (w' : World) : Prop := ∃ v', e = .returned v' ∧ Hid (w'.ownsRow B 9 1 v' (n + 1) (svs (ls.take i ++ x :: ls.drop i)) ∧ w.grownBy w' v.ownBlock ∧ (v'.ownBlock = v.ownBlock ∨ v'.ownBlock = some w.heap.size))
theorem svs_ins (ls : List (List UInt8)) (x : List UInt8) (i : Nat) : svs (ls.take i ++ x :: ls.drop i) = (svs ls).take i ++ .string (tx x) :: (svs ls).drop i := by simp [svs, List.map_take, List.map_drop]
theorem own_new {w : World} {B c m : Nat} {xs : List Value} {zs : Array Value} (hB : B ≤ w.heap.size) (hx : xs.length = m) (hz : zs.size = c - m) (hm : m ≤ c) (hc : c ≤ maxLen) {row : Option Nat} : (w.drew.alloc (.cells (xs.toArray ++ zs) 9)).ownsRow B 9 1 (.slice (some ⟨w.heap.size, 0, none⟩) m c) m xs ∧ w.grownBy (w.drew.alloc (.cells (xs.toArray ++ zs) 9)) row := by
  refine ⟨⟨by omega, Or.inr ⟨w.heap.size, c, xs.toArray ++ zs, rfl, hB, new_0 w.drew _, hm, hc, by simp [hz, hx]; omega, ?_⟩⟩, ⟨rfl, rfl, rfl, by show w.heap.size ≤ (w.drew.alloc _).heap.size; rw [World.size_alloc]; exact Nat.le_succ _, fun k hk _ => Below.heap_alloc _ _ _ (by exact hk)⟩⟩
  rw [Nat.mul_one, ← hx]
  simp
theorem ins_l1 {α : Type} {C cs D : List α} {x : α} {i n : Nat} (hi : i < n) (hn : n + 1 ≤ C.length) (hcs : C.take n = cs) (hD : D = C.take (0 + (i + 1)) ++ cs.drop i ++ C.drop (0 + (i + 1) + (n - i))) : D.take (0 + i) ++ [x] ++ D.drop (0 + i + 1) = (cs.take i ++ x :: cs.drop i) ++ C.drop (n + 1) := by
  have hl : (C.take (0 + (i + 1))).length = i + 1 := by rw [List.length_take]; omega
  have e1 : D.take (0 + i) = C.take i := by
    rw [hD, List.append_assoc, List.take_append_of_le_length (by omega), List.take_take]
    congr 1
    omega
  have e2 : D.drop (0 + i + 1) = cs.drop i ++ C.drop (n + 1) := by
    rw [hD, List.append_assoc, List.drop_left' (by omega), show 0 + (i + 1) + (n - i) = n + 1 by omega]
  have e3 : cs.take i = C.take i := by rw [← hcs, List.take_take]; congr 1; omega
  rw [e1, e2, e3]
  simp
theorem ins_l2 {α : Type} {O cs D zs : List α} {x : α} {i : Nat} (hz : O = cs.take i ++ zs) (hi : (cs.take i).length = i) (hD : D = O.take i ++ [x] ++ O.drop (i + 1)) : D.take (i + 1) = cs.take i ++ [x] := by
  have e1 : O.take i = cs.take i := by rw [hz, List.take_left' hi]
  rw [hD, e1, List.take_left' (by simp [hi])]
theorem ins_l3 {α : Type} {C cs : List α} {x : α} {i : Nat} (hcs : C.take i = cs) (hl : cs.length = i) : C.take (0 + i) ++ [x] ++ C.drop (0 + i + 1) = (cs.take i ++ x :: cs.drop i) ++ C.drop (i + 1) := by
  have e1 : cs.take i = cs := List.take_of_length_le (by omega)
  have e2 : cs.drop i = [] := List.drop_of_length_le (by omega)
  rw [Nat.zero_add, hcs, e1, e2]

set_option maxHeartbeats 2000000 in
theorem sInsert_own {w : World} {B : Nat} {v : Value} {n i vb vc : Nat} {ls : List (List UInt8)} {x : List UInt8} (ho : w.ownsRow B 9 1 v n (svs ls)) (hx : w.heap[vb]? = some (.cells #[.string (tx x)] 9 (0, 0))) (hvb : v.ownBlock ≠ some vb) (hi : i ≤ n) (hn : n ≤ 1000) (hB : B ≤ w.heap.size) :
    Calls Tryz.prog 163 #[v, .int .i64 i, .slice (some ⟨vb, 0, none⟩) 1 vc] w fun e w' => InsQ B w v n i ls x e w' := by
  rw [← Tryz.fInsert]
  have hll : (svs ls).length = n := by have := ho.1; omega
  have hvs : ∀ (j : Nat) (u : Value), [Value.string (tx x)][j]? = some u → w.cell? ⟨vb, 0 + j, none⟩ = some u := fun j u hu => by
    rw [cell_at hx, Nat.zero_add]
    simpa using hu
  have h1v : ∀ u ∈ [Value.string (tx x)], u.oneCell' = true := fun u hu => by rw [List.mem_singleton.1 hu]; rfl
  rcases ho.2 with ⟨rfl, rfl⟩ | ⟨g, cap, cur, rfl, hBg, hb, hnc, hcm, hcs, ht⟩
  · have hi0 : i = 0 := by omega
    subst hi0
    have hls : ls = [] := by have := hll; simpa [svs] using this
    subst hls
    refine (Any2.slices_Insert_string_end_grow Tryz.laysInsert none 0 0 vb 0 1 vc [] [.string (tx x)] w (by omega) (by omega) (by omega) (by omega) rfl rfl (fun _ => rfl) (fun a h => by cases h) hvs h1v).mono ?_
    rintro e w' ⟨rfl, rfl⟩
    rw [Tryz.tInsert]
    have hg := grownCap_ge w (0 + 1) 0 9
    obtain ⟨h1, h2⟩ := own_new (w := w) (B := B) (c := grownCap w (0 + 1) 0 9) (m := 1) (xs := [.string (tx x)]) (zs := Builtin.zeroCells (Value.string ⟨#[]⟩).cells (grownCap w (0 + 1) 0 9 - (0 + 1))) hB rfl (by rw [size_zeroCells]; simp [Value.cells]) (by omega) (grownCap_le_maxLen _ _ _ _ (by unfold maxLen; omega)) (row := none)
    exact ⟨_, rfl, hid ⟨by simpa [svs] using h1, h2, Or.inr rfl⟩⟩
  · rw [Nat.mul_one] at hcs ht
    have hcell : ∀ (j : Nat) (u : Value), (svs ls)[j]? = some u → w.cell? ⟨g, 0 + j, none⟩ = some u := fun j u hu => by
      rw [cell_at hb, Nat.zero_add]
      rw [← ht, List.getElem?_take] at hu
      split at hu
      · simpa using hu
      · cases hu
    have hgv : vb ≠ g := fun e => hvb (by rw [e]; rfl)
    have hfz : ∀ j, w.frozen? ⟨g, j, none⟩ = false := fun j => by simp [World.frozen?, hb]
    have htk : cur.toList.take n = svs ls := ht
    by_cases hin : i < n
    · by_cases hr : n + 1 ≤ cap
      · have hsp : ∀ j, j < n + 1 → (w.cell? ⟨g, 0 + j, none⟩).isSome = true := fun j hj => by
          rw [cell_at hb, Nat.zero_add, Array.getElem?_eq_getElem (by omega)]; rfl
        refine (Any2.slices_Insert_string_shift Tryz.laysInsert g 0 n cap i vb 0 1 vc (svs ls) [.string (tx x)] w hin (by omega) hr (by unfold maxLen at hcm; omega) hgv hll rfl hcell hsp (fun j _ => hfz _) hvs svs_one h1v 9 9 1 cur.size (by simp [World.shape?, hx]) (by simp [World.shape?, hb]) (by omega) (by simp [World.frozen?, hx]) (by simp [World.frozen?, hx])).mono ?_
        rintro e w' ⟨rfl, rfl⟩
        have hdl : ((svs ls).drop i).length = n - i := by rw [List.length_drop]; omega
        obtain ⟨cur1, b1, e1⟩ := block_sets (b := g) (t := 9) (fz := (0, 0)) ((svs ls).drop i) (0 + (i + 1)) w.drew cur hb (by omega)
        have hs1 : cur1.size = cap := by
          have := congrArg List.length e1
          simp only [Array.length_toList, List.length_append, List.length_take, List.length_drop] at this
          omega
        obtain ⟨k1, k2, k3, k4, k5⟩ := sets_kept (b := g) ((svs ls).drop i) (0 + (i + 1)) w.drew
        have hzz : (cur1.toList.take (0 + i) ++ [Value.string (tx x)] ++ cur1.toList.drop (0 + i + [Value.string (tx x)].length)) = svs (ls.take i ++ x :: ls.drop i) ++ cur.toList.drop (n + 1) := by
          rw [svs_ins]
          exact ins_l1 hin (by rw [Array.length_toList]; omega) htk (by rw [e1, hdl])
        obtain ⟨h1, h2⟩ := own_sets (w := w.drew.setCells g (0 + (i + 1)) ((svs ls).drop i)) (B := B) (n := n + 1) (cap := cap) (o := 0 + i) (vs := [.string (tx x)]) (ys := svs (ls.take i ++ x :: ls.drop i)) hBg b1 hcm hs1 hr (by simp; omega) ⟨cur.toList.drop (n + 1), hzz⟩ (by simp [svs]; simp [svs] at hll; omega)
        refine ⟨_, rfl, hid ⟨h1, ⟨h2.os.trans k1, h2.tape.trans k2, h2.output.trans k3, Nat.le_trans (Nat.le_of_eq (show w.heap.size = _ from k4.symm)) h2.size, fun k hk hne => ?_⟩, Or.inl rfl⟩⟩
        rw [h2.block k (by rw [k4]; exact hk) hne]
        exact k5 k (fun e => hne (by rw [e]; rfl))
      · refine (Any2.slices_Insert_string_grow Tryz.laysInsert g 0 n cap i vb 0 1 vc (svs ls) [.string (tx x)] w hin (by omega) hnc (by omega) (by omega) hll rfl hcell hvs svs_one h1v).mono ?_
        rintro e w' ⟨rfl, rfl⟩
        rw [Tryz.tInsert]
        have hg := grownCap_ge w (n + 1) cap 9
        have hgm := grownCap_le_maxLen w (n + 1) cap 9 (by unfold maxLen; omega)
        generalize grownCap w (n + 1) cap 9 = C at hg hgm
        have hti : ((svs ls).take i).length = i := by rw [List.length_take]; omega
        have hdl : ((svs ls).drop i).length = n - i := by rw [List.length_drop]; omega
        obtain ⟨O, hO⟩ : ∃ O : Array Value, O = ((svs ls).take i).toArray ++ Builtin.zeroCells (Value.string ⟨#[]⟩).cells (n + 1 - i) ++ Builtin.zeroCells (Value.string ⟨#[]⟩).cells (C - (n + 1)) := ⟨_, rfl⟩
        rw [← hO]
        have hOs : O.size = C := by
          rw [hO]
          simp only [Array.size_append, List.size_toArray, size_zeroCells, hti]
          simp [Value.cells]
          omega
        have hOt : ∃ zs, O.toList = (svs ls).take i ++ zs := ⟨_, by rw [hO]; simp only [Array.toList_append, List.append_assoc]; rfl⟩
        obtain ⟨zs, hzs⟩ := hOt
        have b0 : (w.alloc (.cells O 9)).drew.heap[w.heap.size]? = some (.cells O 9 (0, 0)) := new_0 w _
        obtain ⟨cur1, b1, e1⟩ := block_sets (b := w.heap.size) (t := 9) (fz := (0, 0)) [.string (tx x)] i (w.alloc (.cells O 9)).drew O b0 (by simp; omega)
        have hs1 : cur1.size = C := by
          have := congrArg List.length e1
          simp only [Array.length_toList, List.length_append, List.length_take, List.length_drop, List.length_singleton] at this
          omega
        obtain ⟨k1, k2, k3, k4, k5⟩ := sets_kept (b := w.heap.size) [.string (tx x)] i (w.alloc (.cells O 9)).drew
        have hzz : (cur1.toList.take (i + 1) ++ (svs ls).drop i ++ cur1.toList.drop (i + 1 + ((svs ls).drop i).length)) = svs (ls.take i ++ x :: ls.drop i) ++ cur1.toList.drop (i + 1 + ((svs ls).drop i).length) := by
          rw [svs_ins, ins_l2 hzs hti e1]
          simp
        obtain ⟨h1, h2⟩ := own_sets (w := ((w.alloc (.cells O 9)).drew.setCells w.heap.size i [.string (tx x)]).drew) (B := B) (n := n + 1) (cap := C) (o := i + 1) (vs := (svs ls).drop i) (ys := svs (ls.take i ++ x :: ls.drop i)) hB b1 hgm hs1 hg (by omega) ⟨cur1.toList.drop (i + 1 + ((svs ls).drop i).length), hzz⟩ (by simp [svs]; simp [svs] at hll; omega)
        have hz : (w.alloc (.cells O 9)).drew.heap.size = w.heap.size + 1 := by show (w.alloc _).heap.size = _; simp
        refine ⟨_, rfl, hid ⟨h1, ⟨h2.os.trans k1, h2.tape.trans k2, h2.output.trans k3, ?_, fun k hk hne => ?_⟩, Or.inr rfl⟩⟩
        · have := h2.size
          have e : ((w.alloc (.cells O 9)).drew.setCells w.heap.size i [.string (tx x)]).drew.heap.size = w.heap.size + 1 := k4.trans hz
          omega
        · have e : ((w.alloc (.cells O 9)).drew.setCells w.heap.size i [.string (tx x)]).drew.heap.size = w.heap.size + 1 := k4.trans hz
          rw [h2.block k (by omega) (fun q => by injection q with q; omega)]
          exact (k5 k (by omega)).trans (Below.heap_alloc _ _ _ hk)
    · have hie : i = n := by omega
      subst hie
      by_cases hr : i + 1 ≤ cap
      · refine (Any2.slices_Insert_string_end_room Tryz.laysInsert g 0 i cap vb 0 1 vc [.string (tx x)] w (by omega) hr (by unfold maxLen at hcm; omega) rfl (fun j hj => by rw [cell_at hb, Array.getElem?_eq_getElem (by omega)]; rfl) (fun j _ => hfz _) hvs h1v).mono ?_
        rintro e w' ⟨rfl, rfl⟩
        have hzz : (cur.toList.take (0 + i) ++ [Value.string (tx x)] ++ cur.toList.drop (0 + i + [Value.string (tx x)].length)) = svs (ls.take i ++ x :: ls.drop i) ++ cur.toList.drop (i + 1) := by
          rw [svs_ins]
          exact ins_l3 htk hll
        obtain ⟨h1, h2⟩ := own_sets (w := w) (B := B) (n := i + 1) (cap := cap) (o := 0 + i) (vs := [.string (tx x)]) (ys := svs (ls.take i ++ x :: ls.drop i)) hBg hb hcm hcs hr (by simp; omega) ⟨cur.toList.drop (i + 1), hzz⟩ (by simp [svs]; simp [svs] at hll; omega)
        exact ⟨_, rfl, hid ⟨h1, h2, Or.inl rfl⟩⟩
      · refine (Any2.slices_Insert_string_end_grow Tryz.laysInsert (some ⟨g, 0, none⟩) i cap vb 0 1 vc (svs ls) [.string (tx x)] w (by omega) hnc (by omega) (by omega) hll rfl (fun h => by cases h) (fun a ha j u hu => ?_) hvs h1v).mono ?_
        · cases ha
          have e : (⟨g, 0, none⟩ : Addr).add j = ⟨g, 0 + j, none⟩ := by unfold Addr.add; split <;> simp_all
          rw [e]; exact hcell j u hu
        · rintro e w' ⟨rfl, rfl⟩
          rw [Tryz.tInsert]
          have hg := grownCap_ge w (i + 1) cap 9
          obtain ⟨h1, h2⟩ := own_new (w := w) (B := B) (c := grownCap w (i + 1) cap 9) (m := i + 1) (xs := svs ls ++ [.string (tx x)]) (zs := Builtin.zeroCells (Value.string ⟨#[]⟩).cells (grownCap w (i + 1) cap 9 - (i + 1))) hB (by simp [hll]) (by rw [size_zeroCells]; simp [Value.cells]) (by omega) (grownCap_le_maxLen _ _ _ _ (by unfold maxLen; omega)) (row := some g)
          refine ⟨_, rfl, hid ⟨?_, h2, Or.inr rfl⟩⟩
          rw [svs_ins, List.take_of_length_le (by omega), List.drop_of_length_le (by omega)]
          exact h1

set_option maxHeartbeats 1000000 in
theorem sSearch_own {w : World} {B : Nat} {v : Value} {n : Nat} {ls : List (List UInt8)} {x : List UInt8} (ho : w.ownsRow B 9 1 v n (svs ls)) (hr : Ru.Rise ls) (hn : n ≤ 1000) :
    Calls Tryz.prog 162 #[v, .string (tx x)] w fun e w' => e = .returned (.tuple #[.int .i64 (To.pos x ls : Nat), .bool (decide (x ∈ ls))]) ∧ ∃ q, w' = w.drewN q := by
  rw [← Tryz.fSearch]
  have hll : ls.length = n := by have := ho.1; simp [svs] at this; omega
  rcases ho.2 with ⟨rfl, rfl⟩ | ⟨g, cap, cur, rfl, hBg, hb, hnc, hcm, hcs, ht⟩
  · have hls : ls = [] := List.eq_nil_of_length_eq_zero hll
    subst hls
    refine (Any2.slices_BinarySearch_string_empty Tryz.laysSearch none 0 (tx x) w).mono ?_
    rintro e w' ⟨rfl, rfl⟩
    exact ⟨by simp [To.pos], 0, rfl⟩
  · rw [Nat.mul_one] at ht
    have hcell : ∀ j, j < n → w.cell? ⟨g, 0 + j, none⟩ = some (.string (if h : j < ls.length then tx (ls[j]'h) else tx x)) := fun j hj => by
      rw [dif_pos (by omega), cell_at hb, Nat.zero_add]
      have hu : (svs ls)[j]? = some (.string (tx (ls[j]'(by omega)))) := by simp [svs, hll, hj]
      rw [← ht, List.getElem?_take_of_lt hj, Array.getElem?_toList] at hu
      exact hu
    refine (Any2.slices_BinarySearch_string Tryz.laysSearch g 0 n cap (fun j => if h : j < ls.length then tx (ls[j]'h) else tx x) (tx x) w (by omega) hcell).mono ?_
    rintro e w' ⟨rfl, hq⟩
    have hk : Lib.bsGo (fun t => Op.bytesLess (if h : t < ls.length then tx (ls[t]'h) else tx x).toList (tx x).toList) n 0 n = To.pos x ls := by
      refine Lib.bsGo_spec _ _ (fun t ht => ?_) (fun t ht => ?_) n 0 n (by omega) (by omega) (by have := To.pos_le x ls; omega)
      · have hl := To.pos_le x ls
        have hlt : t < ls.length := by omega
        have := To.pos_lt (x := x) (List.getElem?_eq_getElem hlt) ht
        rw [dif_pos hlt, bytesLess_eq]
        simpa [ByteArray.toList_eq] using this
      · rw [bytesLess_eq]
        by_cases hlt : t < ls.length
        · have := To.pos_ge hr (x := x) (List.getElem?_eq_getElem hlt) ht
          rw [dif_pos hlt]
          simpa [ByteArray.toList_eq] using this
        · rw [dif_neg hlt]
          simp [List.lt_irrefl]
    refine ⟨?_, hq⟩
    rw [hk]
    have hd : decide (To.pos x ls < n ∧ (if h : To.pos x ls < ls.length then tx (ls[To.pos x ls]'h) else tx x) = tx x) = decide (x ∈ ls) := by
      rw [decide_eq_decide, To.pos_mem hr]
      constructor
      · rintro ⟨h1, h2⟩
        rw [dif_pos (by omega)] at h2
        rw [List.getElem?_eq_getElem (by omega)]
        have := congrArg (fun b : ByteArray => b.data.toList) h2
        simpa using this
      · intro h
        obtain ⟨h1, h2⟩ := List.getElem?_eq_some_iff.1 h
        exact ⟨by omega, by rw [dif_pos h1, h2]⟩
    rw [hd]
end Go.Proofs.YtebaopiedlioiaaGreatDoor
namespace Go.Proofs.YtebaopiedlioiaaGreatDoor
open Go.RowKit Go
open Wo (Wd)

/-- Words of texts that are not too long. -/
def ShortJ (e : Wd) (l : List Wd) : Prop := e.1 = [] ∧ ∀ x ∈ l, x.1.length ≤ 1048576
theorem ShortJ.nx {e : Wd} {l : List Wd} (h : ShortJ e l) : (Ru.nx e l).1.length ≤ 1048576 := by
  cases l with
  | nil => show e.1.length ≤ _; rw [h.1]; simp
  | cons x t => exact h.2 x List.mem_cons_self
theorem ShortJ.tail {e : Wd} {l : List Wd} (h : ShortJ e l) : ShortJ e l.tail := ⟨h.1, fun x hx => h.2 x (List.mem_of_mem_tail hx)⟩
theorem own_sameJ {w w' : World} {B : Nat} {e : TypeId} {size : Nat} {v : Value} {n : Nat} {xs : List Value} (h : w.ownsRow B e size v n xs) (hv : ∀ g, v.ownBlock = some g → w'.heap[g]? = w.heap[g]?) : w'.ownsRow B e size v n xs := by
  refine ⟨h.1, ?_⟩
  rcases h.2 with hn | ⟨g, cap, cur, rfl, hB, hg, rest⟩
  · exact .inl hn
  · exact .inr ⟨g, cap, cur, rfl, hB, (hv g rfl).trans hg, rest⟩
theorem own_formJ {w : World} {B : Nat} {e : TypeId} {size : Nat} {v : Value} {n : Nat} {xs : List Value} (h : w.ownsRow B e size v n xs) : ∃ av vc, v = .slice av n vc := by
  rcases h.2 with ⟨h1, h2⟩ | ⟨g, cap, cur, h1, _⟩
  · exact ⟨none, 0, by rw [h1, h2]⟩
  · exact ⟨_, cap, h1⟩
/-- What list leaves. -/
def ListQ (w : World) (rb g : Nat) (c0 c1 c2 c3 c4 : Value) (x : Wd) (e : Wd) (r : Except Ru.Ft (List (List UInt8) × List Wd)) (en : Ending) (w' : World) : Prop :=
  (∃ ns t v, r = .ok (ns, t) ∧ en = .returned v ∧ w'.ownsRow w.heap.size 9 1 v ns.length (svs ns) ∧ JOn w w' rb g c0 c1 c2 c3 c4 x t e) ∨ (∃ f, r = .error f ∧ JGave w rb f en w')
/-- What is known ahead of each round. -/
structure ListI (w : World) (rb g : Nat) (c0 c1 c2 c3 c4 : Value) (x : Wd) (l : List Wd) (e : Wd) (most : Nat) (k : Nat) (v : Value) (b : Bool) (ls : List Wd) (acc : List (List UInt8)) (wr : World) : Prop where
  rd : JOn w wr rb g c0 c1 c2 c3 c4 x ls e
  own : wr.ownsRow w.heap.size 9 1 v acc.length (svs acc)
  rise : Ru.Rise acc
  few : acc.length ≤ most
  short : ShortJ e ls
  goes : if b then To.lst e most l [] = To.lst e most ls acc ∧ k = ls.length + 1 else To.lst e most l [] = .ok (acc, ls) ∧ k = 0

set_option maxRecDepth 20000 in
set_option maxHeartbeats 1000000 in
theorem olist_any {w : World} {rb g : Nat} {c0 c1 c2 c3 c4 : Value} {x : Wd} {l : List Wd} {e : Wd} {most : Nat} (h : JRd w rb g c0 c1 c2 c3 c4 x l e) (hs : ShortJ e l) (hm : most ≤ 900) :
    Calls Tryz.prog 134 #[.pointer (some ⟨rb, 0, none⟩), .int .i64 most] w fun en w' => ListQ w rb g c0 c1 c2 c3 c4 x e (To.lst e most l []) en w' := by
  have HST := hid (show ListI w rb g c0 c1 c2 c3 c4 x l e most (l.length + 1) (.slice none 0 0) true l [] w from ⟨JOn.start h, World.ownsRow_nil _ _ _ _, List.Pairwise.nil, Nat.zero_le _, hs, by simp⟩)
  have hrl := h.lt
  have hgl := h.gl.1
  clear h hs
  go_enter Tryz.func134, Tryz.ntmps134
  go_wp2_with fail
  go_loopg [5, 6] (l.length + 1) (fun k v m wr => ∃ b ls acc, m = .bool b ∧ Hid (ListI w rb g c0 c1 c2 c3 c4 x l e most k v b ls acc wr))
  case atStart => exact ⟨true, l, [], rfl, HST⟩
  case round =>
    obtain ⟨b, ls, acc, rfl, HI⟩ := hrel
    cases b with
    | false =>
      have HF := hid (show ListQ w rb g c0 c1 c2 c3 c4 x e (To.lst e most l []) (.returned u5) wr from Or.inl ⟨acc, ls, u5, by have := HI.out.goes; simp at this; exact this.1, rfl, HI.out.own, HI.out.rd⟩)
      clear HI
      go_wp2
      go_ret
      exact HF.out
    | true =>
      have hgo := HI.out.goes
      simp only [if_true] at hgo
      obtain ⟨hgo, hgk⟩ := hgo
      have he := HI.out.short.1
      replace hgo := hgo.trans (To.lst_eq he most ls acc)
      obtain ⟨y, hy⟩ : ∃ y, y = Ru.nx e ls := ⟨_, rfl⟩
      have hyl := HI.out.short.nx
      rw [← hy] at hgo hyl
      have HN := hid (oname_on (JOn.start HI.out.rd.rd) (by rw [← hy]; exact hyl))
      rw [← hy] at HN
      obtain ⟨av, vc, hv⟩ := own_formJ HI.out.own
      subst hv
      obtain ⟨n, hn⟩ : ∃ n, n = acc.length := ⟨_, rfl⟩
      have HNN := hid hn
      have hnm : n ≤ 900 := by have := HI.out.few; omega
      have HGO := hid hgo
      have HGK := hid hgk
      have HY := hid hy
      rw [← hn] at HI ⊢
      have HPS : Hid (∀ (W : World) (v' : Value) (acc' : List (List UInt8)), Wo.nameB y.1 = true → ¬ (y.1 ∉ acc ∧ most ≤ acc.length) → JOn w W rb g c0 c1 c2 c3 c4 x ls.tail e → W.ownsRow w.heap.size 9 1 v' acc'.length (svs acc') → acc' = Ru.put acc y.1 → Calls Tryz.prog 133 #[.pointer (some ⟨rb, 0, none⟩), .string (tx To.comma)] W fun en w3 => ∃ b', en = .returned (.bool b') ∧ ∃ ls' k', Hid (ListI w rb g c0 c1 c2 c3 c4 x l e most k' v' b' ls' acc' w3) ∧ Hid (k' < gk)) := hid fun W v' acc' hnb hnf hj ho ha => by
        have hls : ls ≠ [] := fun q => by
          rw [hy, q, Ru.nx_nil, he] at hnb
          exact absurd hnb (by decide)
        have hlp := List.length_pos_iff.2 hls
        refine (opassed_on (JOn.start hj.rd) To.comma).mono ?_
        rintro en w3 ⟨rfl, H3⟩
        have ho3 : w3.ownsRow w.heap.size 9 1 v' acc'.length (svs acc') := own_sameJ ho fun k hk => H3.out.on.block k (ho.lt k hk).2 (fun q => by injection q with q; have := (ho.lt k hk).1; omega)
        have hri : Ru.Rise acc' := by rw [ha]; exact Ru.rise_put HI.out.rise
        have hfe : acc'.length ≤ most := by
          rw [ha, To.put_len]
          have := HI.out.few
          split
          · exact this
          · rename_i hq
            have : ¬ most ≤ acc.length := fun q => hnf ⟨hq, q⟩
            omega
        have hgo2 := hgo
        rw [if_neg (by rw [hnb]; simp), if_neg hnf, ← ha] at hgo2
        by_cases hc : (Ru.nx e ls.tail).1 = To.comma
        · rw [if_pos hc] at hgo2 H3
          refine ⟨true, by rw [decide_eq_true hc], ls.tail.tail, ls.tail.tail.length + 1, hid ⟨⟨H3.out.rd, grown_two hj.on H3.out.on⟩, ho3, hri, hfe, HI.out.short.tail.tail, by rw [if_pos rfl]; exact ⟨hgo2, rfl⟩⟩, ?_⟩
          rw [hgk]
          simp only [List.length_tail]
          exact (by omega : ls.length - 1 - 1 + 1 < ls.length + 1)
        · rw [if_neg hc] at hgo2 H3
          refine ⟨false, by rw [decide_eq_false hc], ls.tail, 0, hid ⟨⟨H3.out.rd, grown_two hj.on H3.out.on⟩, ho3, hri, hfe, HI.out.short.tail, ?_⟩, ?_⟩
          · rw [if_neg (by simp)]
            exact ⟨hgo2, rfl⟩
          · rw [hgk]
            exact Nat.succ_pos _
      have HSR : Hid (∀ (W : World), W.ownsRow w.heap.size 9 1 (.slice av n vc) n (svs acc) → Calls Tryz.prog 162 #[.slice av n vc, .string (tx y.1)] W fun en w2 => en = .returned (.tuple #[.int .i64 (To.pos y.1 acc : Nat), .bool (decide (y.1 ∈ acc))]) ∧ Hid (Below W.heap.size W w2)) := hid fun W ho => (sSearch_own ho HI.out.rise (by omega)).mono fun en w2 ⟨h1, q, h2⟩ => ⟨h1, by rw [h2]; exact ⟨rfl, rfl, rfl, Nat.le_refl _, fun _ _ => rfl⟩⟩
      have hpl := To.pos_le y.1 acc
      rw [← hn] at hpl
      clear hgo hgk hy hn
      go_wp2_with fail
      refine HN.out.mono ?_
      rintro en w1 (⟨HB, rfl, H1⟩ | ⟨HB, q, rfl, hf, hg⟩)
      · have HJ1 := hid (show JOn w w1 rb g c0 c1 c2 c3 c4 x ls.tail e from ⟨H1.out.rd, grown_two HI.out.rd.on H1.out.on⟩)
        have HO1 := hid (show w1.ownsRow w.heap.size 9 1 (.slice av n vc) n (svs acc) from own_sameJ (by have := HI.out.own; rw [← HNN.out] at this; exact this) fun k hk => H1.out.on.block k (HI.out.own.lt k hk).2 (fun q => by injection q with q; have := (HI.out.own.lt k hk).1; omega))
        have HOW := hid (fun (W : World) (hb : Below w1.heap.size w1 W) => (show W.ownsRow w.heap.size 9 1 (.slice av n vc) n (svs acc) from own_sameJ HO1.out fun k hk => hb.block k (HO1.out.lt k hk).2))
        have HBA := hid (fun (o : Obj) => (show Below w1.heap.size w1 (w1.alloc o) from (Below.refl _ _).alloc (Nat.le_refl _) _))
        have hpI : (0 : Int) ≤ (To.pos y.1 acc : Int) := by omega
        clear HN H1
        go_wp2_with fail
        refine (HSR.out _ (HOW.out _ (HBA.out _))).mono ?_
        rintro en w2 ⟨rfl, H2⟩
        have B2 := hid (below_two (HBA.out (wob y)) H2.out)
        have hbx := below_block H2.out (new_0 w1 (wob y)) (by simp)
        have x0 := cell_at (o := 0) hbx
        have x1 := cell_at (o := 1) hbx
        have x2 := cell_at (o := 2) hbx
        simp only [List.getElem?_toArray, List.getElem?_cons_succ, List.getElem?_cons_zero] at x0 x1 x2
        have hl2 : w1.heap.size < w2.heap.size := lt_of_block hbx
        clear H2 hbx
        by_cases hmem : y.1 ∈ acc
        · have hd : decide (y.1 ∈ acc) = true := decide_eq_true hmem
          rw [hd]
          have HPQ := hid (HPS.out w2 (.slice av n vc) acc HB.out (fun q => q.1 hmem) (HJ1.out.below B2.out) (by have := HOW.out _ B2.out; rw [HNN.out] at this ⊢; exact this) (To.put_old hmem).symm)
          clear hd hmem
          go_wp2_with fail
          refine HPQ.out.mono ?_
          rintro en w3 ⟨b', rfl, ls', k', H3, HK⟩
          clear x0 x1 x2
          go_wp2
          go_roundg k'
          case measure => exact HK.out
          case rel => exact ⟨b', ls', acc, rfl, H3⟩
        · have hd : decide (y.1 ∈ acc) = false := decide_eq_false hmem
          rw [hd]
          by_cases hlt : n < most
          · have hI : (n : Int) < (most : Int) := by omega
            have HNF := hid (show ¬ (y.1 ∉ acc ∧ most ≤ acc.length) from fun q => by have := HNN.out; omega)
            have HIN : Hid (∀ (W : World) (vb : Nat), Below w2.heap.size w2 W → W.heap[vb]? = some (.cells #[.string (tx y.1)] 9 (0, 0)) → w2.heap.size ≤ vb → Calls Tryz.prog 163 #[.slice av n vc, .int .i64 (To.pos y.1 acc : Nat), .slice (some ⟨vb, 0, none⟩) 1 1] W fun en w5 => ∃ v', en = .returned v' ∧ Hid (Calls Tryz.prog 133 #[.pointer (some ⟨rb, 0, none⟩), .string (tx To.comma)] w5 fun en w3 => ∃ b', en = .returned (.bool b') ∧ ∃ ls' k', Hid (ListI w rb g c0 c1 c2 c3 c4 x l e most k' v' b' ls' (Ru.put acc y.1) w3) ∧ Hid (k' < gk))) := hid fun W vb hb hx hvb => by
              have hbw := below_two B2.out hb
              have ho := HOW.out _ hbw
              refine (sInsert_own ho hx (fun q => by have := (HOW.out _ B2.out).lt vb q; omega) hpl (by omega) (by have := HJ1.out.on.size; have := hbw.size; omega)).mono ?_
              rintro en w5 ⟨v', rfl, H5⟩
              refine ⟨v', rfl, ?_⟩
              refine hid (HPS.out w5 v' (Ru.put acc y.1) HB.out HNF.out ?_ ?_ rfl)
              · refine (HJ1.out.below hbw).box (B := w.heap.size) ?_ hrl hgl (Nat.le_refl _)
                exact (Below.refl _ _).grown H5.out.2.1 (by have := HJ1.out.on.size; have := hbw.size; omega) fun k hk => (ho.lt k hk).1
              · have h5 := H5.out.1
                rw [To.put_new hmem]
                have e : (acc.take (To.pos y.1 acc) ++ y.1 :: acc.drop (To.pos y.1 acc)).length = n + 1 := by
                  have := HNN.out
                  simp only [List.length_append, List.length_take, List.length_cons, List.length_drop]
                  omega
                rw [e]
                exact h5
            have HNB := hid (fun (x z : Obj) => (show Below w2.heap.size w2 ((w2.alloc x).alloc z) from ((Below.refl _ _).alloc (Nat.le_refl _) _).alloc (by simp) _))
            clear hd hmem
            go_wp2_with fail
            refine (omust_yes _ _ _ _).mono ?_
            rintro en w3 ⟨rfl, rfl⟩
            go_wp2_with fail
            refine (HIN.out _ _ (HNB.out _ _) (new_1 _ _ _) (Nat.le_succ _)).mono ?_
            rintro en w5 ⟨v', rfl, HC⟩
            clear x0 x1 x2
            go_wp2_with fail
            refine HC.out.mono ?_
            rintro en w6 ⟨b', rfl, ls', k', H3, HK⟩
            go_wp2
            go_roundg k'
            case measure => exact HK.out
            case rel => exact ⟨b', ls', _, rfl, H3⟩
          · have hI : decide (n < most) = false := decide_eq_false hlt
            have HER := hid (show To.lst e most l [] = .error (Ru.ft y 3) by rw [HGO.out, if_neg (by rw [HB.out]; simp), if_pos ⟨hmem, by have := HNN.out; omega⟩])
            have HJ2 := hid (HJ1.out.below B2.out)
            clear hd hmem hlt
            go_wp2_with fail
            try rw [hI]
            refine (omust_no HJ2.out.rd y 3).mono ?_
            rintro en w3 hG
            obtain ⟨q, rfl, hf, hg⟩ := hG
            exact ⟨rfl, Or.inr ⟨_, HER.out, q, rfl, hf, grown_two HJ2.out.on hg⟩⟩
      · refine ⟨rfl, Or.inr ⟨Ru.ft y 31, ?_, q, rfl, hf, grown_two HI.out.rd.on hg⟩⟩
        rw [HGO.out, if_pos HB.out]
end Go.Proofs.YtebaopiedlioiaaGreatDoor
namespace Go.Proofs.YtebaopiedlioiaaGreatDoor
open Go.RowKit

/-- A place that was found, or none. -/
def IdxJ (i : Int) (b : Bool) : Prop := decide (0 ≤ i) = b
set_option maxRecDepth 20000 in
set_option maxHeartbeats 2000000 in
theorem oIndex_any {w : World} {v : Value} {cls : List (List UInt8)} {t : List UInt8} (h : Txs w v cls) (hn : cls.length ≤ maxLen) :
    Calls Tryz.prog 151 #[v, .string (tx t)] w fun e w' => ∃ i : Int, e = .returned (.int .i64 i) ∧ IdxJ i (cls.contains t) ∧ w' = w := by
  obtain ⟨ao, cap, rfl, hr⟩ := h
  obtain ⟨n, hnn⟩ : ∃ n, n = cls.length := ⟨_, rfl⟩
  have HN := hid hnn
  rw [← hnn] at hn ⊢
  unfold maxLen at hn
  have HR := hid hr
  obtain ⟨bb, hbb⟩ : ∃ bb, bb = cls.contains t := ⟨_, rfl⟩
  have HBB := hid hbb
  rw [← hbb]
  clear hr hnn hbb
  go_enter Tryz.func151, Tryz.ntmps151
  go_wp2_with fail
  go_loopw [8] (fun i wr => ∃ j : Nat, j ≤ n ∧ i = .int .i64 j ∧ Hid ((∀ i x, i < j → cls[i]? = some x → ¬ t = x) ∧ wr = w)) (fun i _ => n - (intOf i).toNat)
  case atStart => exact ⟨0, Nat.zero_le _, rfl, fun i x hi => absurd hi (Nat.not_lt_zero i), rfl⟩
  case round =>
    obtain ⟨j, hj, rfl, HJ⟩ := hrel
    obtain ⟨hJ1, rfl⟩ := HJ.out
    have HJ1 := hid hJ1
    clear hJ1
    by_cases hlt : j < n
    · obtain ⟨x, hx⟩ : ∃ x, cls[j]? = some x := ⟨cls[j]'(by rw [← HN.out]; exact hlt), List.getElem?_eq_getElem _⟩
      obtain ⟨g, o, rfl, hg, hcell⟩ : ∃ g o, ao = some ⟨g, o, none⟩ ∧ g < wr.heap.size ∧ ∀ i, i < cls.length → wr.cell? ⟨g, o + i, none⟩ = some (.string (tx (cls.getD i []))) := by
        rcases HR.out with e | h
        · rw [e] at hx; simp at hx
        · exact h
      have k0 := hcell j (by rw [← HN.out]; exact hlt)
      rw [List.getD_eq_getElem?_getD, hx] at k0
      simp only [Option.getD_some] at k0
      have HX := hid hx
      have hkI : (j : Int) < (n : Int) := by omega
      have hk0 : (0 : Int) ≤ (j : Int) := by omega
      clear hx hcell HJ
      by_cases e : t = x
      · subst e
        have HE := hid (show bb = true by
          rw [HBB.out, List.contains_iff_mem]; exact List.mem_of_getElem? HX.out)
        go_wp2
        go_ret
        exact ⟨j, rfl, by unfold IdxJ; rw [HE.out, decide_eq_true (by omega)], rfl⟩
      · have e1 : (t == x) = false := by simpa using e
        have e2 : (x == t) = false := by rw [beq_eq_false_iff_ne]; exact fun h => e h.symm
        have HJ2 := hid (show ∀ i y, i < j + 1 → cls[i]? = some y → ¬ t = y from fun i y hi hy => by
          by_cases ej : i = j
          · subst ej
            rw [HX.out] at hy
            cases hy
            exact e
          · exact HJ1.out i y (by omega) hy)
        clear e
        go_wp2
        go_roundw
        case rel => exact ⟨j + 1, by omega, by go_num, HJ2.out, trivial⟩
        case measure => simp [intOf]; omega
    · have hkI : ¬ ((j : Int) < (n : Int)) := by omega
      have HE := hid (show bb = false by
        rw [HBB.out, Bool.eq_false_iff]
        intro h
        rw [List.contains_iff_mem] at h
        obtain ⟨i, hi⟩ := List.getElem?_of_mem h
        exact HJ1.out i t (by have := (List.getElem?_eq_some_iff.1 hi).1; have := HN.out; omega) hi rfl)
      clear hlt HJ
      go_wp2
      go_ret
      exact ⟨-1, rfl, by unfold IdxJ; rw [HE.out]; rfl, rfl⟩

set_option maxRecDepth 20000 in
set_option maxHeartbeats 2000000 in
theorem oContains_any {w : World} {v : Value} {cls : List (List UInt8)} {t : List UInt8} (h : Txs w v cls) (hn : cls.length ≤ maxLen) :
    Calls Tryz.prog 111 #[v, .string (tx t)] w fun e w' => e = .returned (.bool (cls.contains t)) ∧ w' = w := by
  have HI := hid (oIndex_any (t := t) h hn)
  obtain ⟨ao, cap, rfl, -⟩ := h
  go_enter Tryz.func111, Tryz.ntmps111
  go_wp2_with fail
  refine HI.out.mono ?_
  rintro e w2 ⟨i, rfl, hi, hw⟩
  have HE := hid (show decide (0 ≤ i) = cls.contains t from hi)
  have HW := hid hw
  clear hi hw
  go_wp2
  go_ret
  exact ⟨by rw [← HE.out]; rfl, HW.out⟩

/-- Devices that lie somewhere, each with the values of its two lists. -/
structure DvL (w : World) (v : Value) (ds : List (To.Dv × Value × Value)) : Prop where
  form : ∃ av cap, v = .slice av ds.length cap ∧ (ds = [] ∨ ∃ G o, av = some ⟨G, o, none⟩ ∧ G < w.heap.size ∧ ∀ (i : Nat) (q : To.Dv × Value × Value), ds[i]? = some q → w.cell? ⟨G, o + i * 3, none⟩ = some (.string (tx q.1.name)) ∧ w.cell? ⟨G, o + i * 3 + 1, none⟩ = some q.2.1 ∧ w.cell? ⟨G, o + i * 3 + 2, none⟩ = some q.2.2)
  cls : ∀ q ∈ ds, Txs w q.2.1 q.1.cls ∧ q.1.cls.length ≤ maxLen
  prt : ∀ q ∈ ds, Txs w q.2.2 q.1.prt ∧ q.1.prt.length ≤ maxLen
/-- Is it a device's port? -/
def hasP (ds : List To.Dv) (p : Int) (m : List UInt8) : Bool := if 0 ≤ p then (match ds[p.toNat]? with | some d => d.prt.contains m | none => false) else false

set_option maxRecDepth 20000 in
set_option maxHeartbeats 1000000 in
theorem ohasPort_any {w : World} {v : Value} {ds : List (To.Dv × Value × Value)} {p : Int} {m : List UInt8} (h : DvL w v ds) :
    Calls Tryz.prog 77 #[v, .agg #[.int .i64 p, .string (tx m)]] w fun e w' => e = .returned (.bool (hasP (ds.map (·.1)) p m)) ∧ Below w.heap.size w w' := by
  obtain ⟨av, cap, rfl, hr⟩ := h.form
  by_cases h0 : 0 ≤ p
  · by_cases h1 : p < (ds.length : Int)
    · obtain ⟨k, rfl⟩ : ∃ k : Nat, p = k := ⟨p.toNat, by omega⟩
      obtain ⟨q, hq⟩ : ∃ q, ds[k]? = some q := ⟨ds[k]'(by omega), List.getElem?_eq_getElem _⟩
      obtain ⟨G, o, rfl, hG, hc⟩ := hr.resolve_left (fun e => by rw [e] at hq; simp at hq)
      obtain ⟨-, -, a2⟩ := hc k q hq
      obtain ⟨ht, hl⟩ := h.prt q (List.mem_of_getElem? hq)
      have HE := hid (show hasP (ds.map (·.1)) (k : Int) m = q.1.prt.contains m by
        unfold hasP
        rw [if_pos (by omega), Int.toNat_natCast, List.getElem?_map, hq]; rfl)
      have HC := hid (fun (W : World) (hb : Below w.heap.size w W) => oContains_any (t := m) (ht.below hb) hl)
      obtain ⟨c, hcc⟩ : ∃ c, c = q.1.prt.contains m := ⟨_, rfl⟩
      rw [← hcc] at HC HE
      obtain ⟨pa, pk, hv, -⟩ := ht
      rw [hv] at HC a2
      obtain ⟨N, hN⟩ : ∃ N, N = ds.length := ⟨_, rfl⟩
      obtain ⟨L, hL⟩ : ∃ L, L = q.1.prt.length := ⟨_, rfl⟩
      rw [← hN] at h1 ⊢
      rw [← hL] at HC a2
      have HB := hid (fun (x : Obj) => (show Below w.heap.size w (w.alloc x) from (Below.refl _ _).alloc (Nat.le_refl _) _))
      clear hq hc hr h hl hv hN hL hcc
      go_enter Tryz.func77, Tryz.ntmps77
      have a2' : ∀ ob, (w.alloc ob).cell? ⟨G, o + k * 3 + 2, none⟩ = some (.slice pa L pk) := alloc_cell a2 hG
      go_wp2_with fail
      go_region_held3 (fun w' => w'.cell? ⟨w.heap.size, 0, none⟩ = some (.int .i64 k) ∧ w'.cell? ⟨w.heap.size, 1, none⟩ = some (.string (tx m)) ∧ w'.cell? ⟨G, o + k * 3 + 2, none⟩ = some (.slice pa L pk)) (go_keep) (first | (go_at_call 111; refine (HC.out _ (HB.out _).drew).mono ?_; rintro en w2 ⟨rfl, rfl⟩) | fail)
      go_wp2
      go_ret
      exact ⟨by rw [HE.out]; rfl, (HB.out _).drew⟩
    · have HE := hid (show hasP (ds.map (·.1)) p m = false by
        unfold hasP
        rw [if_pos h0, List.getElem?_eq_none (by simp; omega)])
      obtain ⟨N, hN⟩ : ∃ N, N = ds.length := ⟨_, rfl⟩
      rw [← hN] at h1 ⊢
      have hI : decide (p < (N : Int)) = false := decide_eq_false h1
      have hI0 : decide (0 ≤ p) = true := decide_eq_true h0
      clear hr h hN h1
      go_enter Tryz.func77, Tryz.ntmps77
      go_wp2_with fail
      go_region
      all_goals (
        go_wp2
        go_ret
        exact ⟨by rw [HE.out]; rfl, ((Below.refl _ _).alloc (Nat.le_refl _) _).drew⟩)
  · have HE := hid (show hasP (ds.map (·.1)) p m = false by
      unfold hasP
      rw [if_neg h0])
    obtain ⟨N, hN⟩ : ∃ N, N = ds.length := ⟨_, rfl⟩
    rw [← hN]
    have hI0 : decide (0 ≤ p) = false := decide_eq_false h0
    clear hr h hN h0
    go_enter Tryz.func77, Tryz.ntmps77
    go_wp2_with fail
    go_region
    all_goals (
      go_wp2
      go_ret
      exact ⟨by rw [HE.out]; rfl, ((Below.refl _ _).alloc (Nat.le_refl _) _).drew⟩)
end Go.Proofs.YtebaopiedlioiaaGreatDoor
namespace Go.Proofs.YtebaopiedlioiaaGreatDoor

/-- Of all places below a number. -/
def allN (n : Nat) (f : Nat → Bool) : Bool := (List.range n).all f
theorem allN_iff {n : Nat} {f : Nat → Bool} : allN n f = true ↔ ∀ i, i < n → f i = true := by
  unfold allN
  rw [List.all_eq_true]
  exact ⟨fun h i hi => h i (List.mem_range.2 hi), fun h i hi => h i (List.mem_range.1 hi)⟩
theorem allN_false {n : Nat} {f : Nat → Bool} {k : Nat} (hk : k < n) (h : f k = false) : allN n f = false := by
  rw [Bool.eq_false_iff]
  intro q
  rw [allN_iff] at q
  rw [q k hk] at h
  cases h
/-- A name that stands behind the one ahead of it. -/
def nmB (l : List (List UInt8)) (i : Nat) : Bool := Wo.nameB (l.getD i []) && (decide (i = 0) || decide (l.getD (i - 1) [] < l.getD i []))
/-- Names, rising, so many at most. -/
def nmsB (most : Nat) (l : List (List UInt8)) : Bool := allN l.length (nmB l) && decide (l.length ≤ most)
def dv0 : To.Dv := ⟨[], [], []⟩
/-- A device that stands behind the one ahead of it. -/
def dvB (ds : List To.Dv) (i : Nat) : Bool := ((Wo.nameB (ds.getD i dv0).name && (decide (i = 0) || decide ((ds.getD (i - 1) dv0).name < (ds.getD i dv0).name))) && nmsB 16 (ds.getD i dv0).cls) && nmsB 64 (ds.getD i dv0).prt
def lk0 : LkZ := (0, [], 0, [])
/-- Does a link stand ahead of another one? -/
def befB (x y : LkZ) : Bool := if x.1 = y.1 then decide (x.2.1 < y.2.1) else decide (x.1 < y.1)
/-- Has a link that port? -/
def atB (x : LkZ) (d : Int) (p : List UInt8) : Bool := (decide (x.1 = d ∧ x.2.1 = p)) || (decide (x.2.2.1 = d ∧ x.2.2.2 = p))
/-- A link whose numbers and whose order may be. -/
def lkF (n : Nat) (ls : List LkZ) (i : Nat) (x : LkZ) : Bool := decide (0 ≤ x.1) && (decide (x.2.2.1 < n) && (decide (x.1 ≤ x.2.2.1) && ((!decide (x.1 = x.2.2.1) || decide (x.2.1 < x.2.2.2)) && (decide (i = 0) || befB (ls.getD (i - 1) lk0) x))))
/-- None of the links ahead has one of its ports. -/
def lkG (ls : List LkZ) (i : Nat) (x : LkZ) : Bool := allN i fun k => !(atB (ls.getD k lk0) x.1 x.2.1 || atB (ls.getD k lk0) x.2.2.1 x.2.2.2)
def lkB (ds : List To.Dv) (ls : List LkZ) (i : Nat) : Bool := lkF ds.length ls i (ls.getD i lk0) && ((hasP ds (ls.getD i lk0).1 (ls.getD i lk0).2.1 && hasP ds (ls.getD i lk0).2.2.1 (ls.getD i lk0).2.2.2) && lkG ls i (ls.getD i lk0))
/-- A topology that may be. -/
def topB (wd : Int) (ds : List To.Dv) (ls : List LkZ) : Bool := (decide (1 ≤ wd ∧ wd ≤ 128) && decide (1 ≤ ds.length ∧ ds.length ≤ 256 ∧ ls.length ≤ 4096)) && (allN ds.length (dvB ds) && allN ls.length (lkB ds ls))

theorem atB_iff {x : LkZ} {d : Int} {p : List UInt8} : atB x d p = true ↔ (x.1 = d ∧ x.2.1 = p) ∨ (x.2.2.1 = d ∧ x.2.2.2 = p) := by
  unfold atB; simp
theorem getD_at {α : Type} {l : List α} {i : Nat} {x d : α} (h : l[i]? = some x) : l.getD i d = x := by rw [List.getD_eq_getElem?_getD, h]; rfl
/-- No two ends of links are one. -/
structure EndsJ (ls : List LkZ) : Prop where
  one : ∀ x ∈ ls, ¬ (x.1 = x.2.2.1 ∧ x.2.1 = x.2.2.2)
  two : ∀ (i k : Nat) (x y : LkZ), ls[i]? = some x → ls[k]? = some y → i ≠ k → ∀ d p, atB x d p = true → atB y d p = false
theorem topB_ends {wd : Int} {ds : List To.Dv} {ls : List LkZ} (h : topB wd ds ls = true) : EndsJ ls := by
  unfold topB at h
  simp only [Bool.and_eq_true] at h
  have hl := allN_iff.1 h.2.2
  have hi : ∀ {i : Nat} {x : LkZ}, ls[i]? = some x → lkB ds ls i = true ∧ ls.getD i lk0 = x := fun {i x} q => ⟨hl i (List.getElem?_eq_some_iff.1 q).1, getD_at q⟩
  have hlt : ∀ (i k : Nat) (x y : LkZ), ls[i]? = some x → ls[k]? = some y → k < i → ∀ d p, atB x d p = true → atB y d p = false := by
    intro i k x y hx hy hki d p hd
    obtain ⟨h1, h2⟩ := hi hx
    unfold lkB at h1
    rw [h2] at h1
    simp only [Bool.and_eq_true] at h1
    have hg := allN_iff.1 (show allN i _ = true from h1.2.2) k hki
    rw [getD_at hy] at hg
    simp only [Bool.not_eq_true', Bool.or_eq_false_iff] at hg
    rcases atB_iff.1 hd with ⟨rfl, rfl⟩ | ⟨rfl, rfl⟩
    · exact hg.1
    · exact hg.2
  constructor
  · intro x hx e
    obtain ⟨i, hxi⟩ := List.getElem?_of_mem hx
    obtain ⟨h1, h2⟩ := hi hxi
    unfold lkB at h1
    rw [h2] at h1
    simp only [Bool.and_eq_true] at h1
    have hf := h1.1
    unfold lkF at hf
    simp only [Bool.and_eq_true, Bool.or_eq_true, Bool.not_eq_true', decide_eq_true_eq, decide_eq_false_iff_not] at hf
    rcases hf.2.2.2.1 with q | q
    · exact q e.1
    · rw [e.2] at q
      exact List.lt_irrefl _ q
  · intro i k x y hx hy hne d p hd
    rcases Nat.lt_or_gt_of_ne hne with q | q
    · rw [Bool.eq_false_iff]
      intro hy2
      rw [hlt k i y x hy hx q d p hy2] at hd
      cases hd
    · exact hlt i k x y hx hy q d p hd
theorem peerJ_some {d : Int} {m : List UInt8} : ∀ {ls : List LkZ} {b : Int} {q : List UInt8}, peerJ d m ls = some (b, q) → ∃ x ∈ ls, (x.1 = d ∧ x.2.1 = m ∧ x.2.2.1 = b ∧ x.2.2.2 = q) ∨ (x.2.2.1 = d ∧ x.2.2.2 = m ∧ x.1 = b ∧ x.2.1 = q)
  | (a, p, b', q') :: r, b, q, h => by
    unfold peerJ at h
    split at h
    · rename_i e
      simp only [Option.some.injEq, Prod.mk.injEq] at h
      exact ⟨_, List.mem_cons_self, Or.inl ⟨e.1.symm, e.2.symm, h.1, h.2⟩⟩
    · split at h
      · rename_i e
        simp only [Option.some.injEq, Prod.mk.injEq] at h
        exact ⟨_, List.mem_cons_self, Or.inr ⟨e.1.symm, e.2.symm, h.1, h.2⟩⟩
      · obtain ⟨x, hx, k⟩ := peerJ_some h
        exact ⟨x, List.mem_cons_of_mem _ hx, k⟩
theorem peerJ_none {d : Int} {m : List UInt8} : ∀ {ls : List LkZ}, (∀ x ∈ ls, atB x d m = false) → peerJ d m ls = none
  | [], _ => rfl
  | (a, p, b, q) :: r, h => by
    have h0 := h _ List.mem_cons_self
    unfold peerJ
    rw [if_neg, if_neg, peerJ_none fun x hx => h x (List.mem_cons_of_mem _ hx)]
    · intro e
      rw [Bool.eq_false_iff] at h0
      exact h0 (atB_iff.2 (Or.inr ⟨e.1.symm, e.2.symm⟩))
    · intro e
      rw [Bool.eq_false_iff] at h0
      exact h0 (atB_iff.2 (Or.inl ⟨e.1.symm, e.2.symm⟩))
theorem EndsJ.tail {x : LkZ} {ls : List LkZ} (h : EndsJ (x :: ls)) : EndsJ ls :=
  ⟨fun y hy => h.one y (List.mem_cons_of_mem _ hy), fun i k x' y hx hy hne => h.two (i + 1) (k + 1) x' y (by simpa using hx) (by simpa using hy) (by omega)⟩
/-- The peer of a port's peer is that port. -/
theorem peer_back : ∀ {ls : List LkZ}, EndsJ ls → ∀ x ∈ ls, peerJ x.1 x.2.1 ls = some (x.2.2.1, x.2.2.2) ∧ peerJ x.2.2.1 x.2.2.2 ls = some (x.1, x.2.1)
  | y :: r, h, x, hx => by
    obtain ⟨a, p, b, q⟩ := y
    rcases List.mem_cons.1 hx with rfl | hx
    · have h1 := h.one _ List.mem_cons_self
      refine ⟨?_, ?_⟩
      · unfold peerJ
        rw [if_pos ⟨rfl, rfl⟩]
      · unfold peerJ
        rw [if_neg (fun e => h1 ⟨e.1.symm, e.2.symm⟩), if_pos ⟨rfl, rfl⟩]
    · obtain ⟨i, hi⟩ := List.getElem?_of_mem hx
      have hn : ∀ d m, atB x d m = true → atB (a, p, b, q) d m = false := fun d m => h.two (i + 1) 0 x (a, p, b, q) (by simpa using hi) rfl (by omega) d m
      have h1 := hn x.1 x.2.1 (atB_iff.2 (Or.inl ⟨rfl, rfl⟩))
      have h2 := hn x.2.2.1 x.2.2.2 (atB_iff.2 (Or.inr ⟨rfl, rfl⟩))
      rw [Bool.eq_false_iff] at h1 h2
      obtain ⟨k1, k2⟩ := peer_back h.tail x hx
      refine ⟨?_, ?_⟩
      · unfold peerJ
        rw [if_neg (fun e => h1 (atB_iff.2 (Or.inl ⟨e.1.symm, e.2.symm⟩))), if_neg (fun e => h1 (atB_iff.2 (Or.inr ⟨e.1.symm, e.2.symm⟩)))]
        exact k1
      · unfold peerJ
        rw [if_neg (fun e => h2 (atB_iff.2 (Or.inl ⟨e.1.symm, e.2.symm⟩))), if_neg (fun e => h2 (atB_iff.2 (Or.inr ⟨e.1.symm, e.2.symm⟩)))]
        exact k2
theorem peer_peer {ls : List LkZ} (h : EndsJ ls) {d : Int} {m : List UInt8} {b : Int} {q : List UInt8} (hp : peerJ d m ls = some (b, q)) : peerJ b q ls = some (d, m) ∧ ∃ x ∈ ls, (x.1 = d ∧ x.2.2.1 = b) ∨ (x.2.2.1 = d ∧ x.1 = b) := by
  obtain ⟨x, hx, ⟨e1, e2, e3, e4⟩ | ⟨e1, e2, e3, e4⟩⟩ := peerJ_some hp
  · obtain ⟨-, k⟩ := peer_back h x hx
    rw [e1, e2, e3, e4] at k
    exact ⟨k, x, hx, Or.inl ⟨e1, e3⟩⟩
  · obtain ⟨k, -⟩ := peer_back h x hx
    rw [e1, e2, e3, e4] at k
    exact ⟨k, x, hx, Or.inr ⟨e1, e3⟩⟩
end Go.Proofs.YtebaopiedlioiaaGreatDoor
namespace Go.Proofs.YtebaopiedlioiaaGreatDoor
open Go.RowKit

theorem lenIntJ (t : List UInt8) (h : t.length ≤ maxLen) : (tx t).size ≤ maxLen := by rw [tx_size]; exact h

/-- Where a text stands in a row. -/
def plJ (t : List UInt8) : List (List UInt8) → Option Nat
  | [] => none
  | a :: r => if a = t then some 0 else (plJ t r).map (· + 1)
def plZ (t : List UInt8) (l : List (List UInt8)) : Int := match plJ t l with | some i => i | none => -1
theorem plJ_at {t : List UInt8} : ∀ {l : List (List UInt8)} {j : Nat}, l[j]? = some t → (∀ (i : Nat) (x : List UInt8), i < j → l[i]? = some x → ¬ t = x) → plJ t l = some j
  | [], j, h, _ => by simp at h
  | a :: r, 0, h, _ => by
    have e : a = t := by simpa using h
    unfold plJ; rw [if_pos e]
  | a :: r, j + 1, h, k => by
    have e : ¬ a = t := fun e => k 0 a (by omega) rfl e.symm
    unfold plJ
    rw [if_neg e, plJ_at (by simpa using h) (fun i x hi hx => k (i + 1) x (by omega) (by simpa using hx))]
    rfl
theorem plJ_none {t : List UInt8} : ∀ {l : List (List UInt8)}, (∀ (i : Nat) (x : List UInt8), l[i]? = some x → ¬ t = x) → plJ t l = none
  | [], _ => rfl
  | a :: r, k => by
    have e : ¬ a = t := fun e => k 0 a rfl e.symm
    unfold plJ
    rw [if_neg e, plJ_none (fun i x hx => k (i + 1) x (by simpa using hx))]
    rfl
theorem plZ_neg (t : List UInt8) (l : List (List UInt8)) : decide (plZ t l < 0) = !l.contains t := by
  by_cases h : t ∈ l
  · have hc : l.contains t = true := List.contains_iff_mem.2 h
    have : plJ t l ≠ none := by
      induction l with
      | nil => cases h
      | cons a r ih =>
        unfold plJ
        split
        · simp
        · rename_i e
          rcases List.mem_cons.1 h with rfl | h
          · exact absurd rfl e
          · have := ih h (List.contains_iff_mem.2 h)
            cases hp : plJ t r with
            | none => exact absurd hp this
            | some i => simp
    rw [hc]
    unfold plZ
    cases hp : plJ t l with
    | none => exact absurd hp this
    | some i => exact decide_eq_false (by simp)
  · have hc : l.contains t = false := by rw [Bool.eq_false_iff]; exact fun q => h (List.contains_iff_mem.1 q)
    rw [hc]
    unfold plZ
    rw [plJ_none fun i x hx e => h (by rw [e]; exact List.mem_of_getElem? hx)]
    rfl

set_option maxRecDepth 20000 in
set_option maxHeartbeats 2000000 in
theorem Rplace_any {w : World} {v : Value} {cls : List (List UInt8)} {t : List UInt8} (h : Txs w v cls) (hn : cls.length ≤ maxLen) :
    Calls Tryz.prog 82 #[v, .string (tx t)] w fun e w' => e = .returned (.int .i64 (plZ t cls)) ∧ w' = w := by
  obtain ⟨ao, cap, rfl, hr⟩ := h
  obtain ⟨n, hnn⟩ : ∃ n, n = cls.length := ⟨_, rfl⟩
  have HN := hid hnn
  rw [← hnn] at hn ⊢
  unfold maxLen at hn
  have HR := hid hr
  clear hr hnn
  go_enter Tryz.func82, Tryz.ntmps82
  go_wp2_with fail
  go_loopw [5] (fun i wr => ∃ j : Nat, j ≤ n ∧ i = .int .i64 j ∧ Hid ((∀ i x, i < j → cls[i]? = some x → ¬ t = x) ∧ wr = w)) (fun i _ => n - (intOf i).toNat)
  case atStart => exact ⟨0, Nat.zero_le _, rfl, fun i x hi => absurd hi (Nat.not_lt_zero i), rfl⟩
  case round =>
    obtain ⟨j, hj, rfl, HJ⟩ := hrel
    obtain ⟨hJ1, rfl⟩ := HJ.out
    have HJ1 := hid hJ1
    clear hJ1
    by_cases hlt : j < n
    · obtain ⟨x, hx⟩ : ∃ x, cls[j]? = some x := ⟨cls[j]'(by rw [← HN.out]; exact hlt), List.getElem?_eq_getElem _⟩
      obtain ⟨g, o, rfl, hg, hcell⟩ : ∃ g o, ao = some ⟨g, o, none⟩ ∧ g < wr.heap.size ∧ ∀ i, i < cls.length → wr.cell? ⟨g, o + i, none⟩ = some (.string (tx (cls.getD i []))) := by
        rcases HR.out with e | h
        · rw [e] at hx; simp at hx
        · exact h
      have k0 := hcell j (by rw [← HN.out]; exact hlt)
      rw [List.getD_eq_getElem?_getD, hx] at k0
      simp only [Option.getD_some] at k0
      have HX := hid hx
      have hkI : (j : Int) < (n : Int) := by omega
      have hk0 : (0 : Int) ≤ (j : Int) := by omega
      clear hx hcell HJ
      by_cases e : t = x
      · subst e
        have HE := hid (show plZ t cls = (j : Int) by unfold plZ; rw [plJ_at HX.out HJ1.out])
        go_wp2
        go_ret
        exact ⟨by rw [HE.out]; rfl, rfl⟩
      · have e1 : (t == x) = false := by simpa using e
        have e2 : (x == t) = false := by rw [beq_eq_false_iff_ne]; exact fun h => e h.symm
        have HJ2 := hid (show ∀ i y, i < j + 1 → cls[i]? = some y → ¬ t = y from fun i y hi hy => by
          by_cases ej : i = j
          · subst ej
            rw [HX.out] at hy
            cases hy
            exact e
          · exact HJ1.out i y (by omega) hy)
        clear e
        go_wp2
        go_roundw
        case rel => exact ⟨j + 1, by omega, by go_num, HJ2.out, trivial⟩
        case measure => simp [intOf]; omega
    · have hkI : ¬ ((j : Int) < (n : Int)) := by omega
      have HE := hid (show plZ t cls = -1 by
        unfold plZ
        rw [plJ_none fun i x hx => HJ1.out i x (by have := (List.getElem?_eq_some_iff.1 hx).1; have := HN.out; omega) hx])
      clear hlt HJ
      go_wp2
      go_ret
      exact ⟨by rw [HE.out]; rfl, rfl⟩

set_option maxRecDepth 20000 in
set_option maxHeartbeats 2000000 in
theorem Rbefore_any {w : World} {x y : LkZ} :
    Calls Tryz.prog 67 #[lkv x.1 x.2.1 x.2.2.1 x.2.2.2, lkv y.1 y.2.1 y.2.2.1 y.2.2.2] w fun e w' => e = .returned (.bool (befB x y)) ∧ Below w.heap.size w w' := by
  obtain ⟨a, p, b, q⟩ := x
  obtain ⟨a', p', b', q'⟩ := y
  have HB := hid (fun (x y : Obj) => (show Below w.heap.size w ((w.alloc x).alloc y) from ((Below.refl _ _).alloc (Nat.le_refl _) _).alloc (by simp) _))
  simp only
  by_cases h : a = a'
  · have e1 : (a != a') = false := by rw [h]; simp
    have HE := hid (show befB (a, p, b, q) (a', p', b', q') = decide (p < p') by unfold befB; rw [if_pos h])
    clear h
    by_cases hl : p < p'
    · have h1 : Op.bytesLess p p' = true := by rw [bytesLess_eq]; exact decide_eq_true hl
      have HD := hid (decide_eq_true hl)
      clear hl
      go_enter Tryz.func67, Tryz.ntmps67
      go_wp2_with fail
      go_ret
      exact ⟨by rw [HE.out, HD.out]; rfl, HB.out _ _⟩
    · have h1 : Op.bytesLess p p' = false := by rw [bytesLess_eq]; exact decide_eq_false hl
      have HD := hid (decide_eq_false hl)
      clear hl
      go_enter Tryz.func67, Tryz.ntmps67
      go_wp2_with fail
      go_ret
      exact ⟨by rw [HE.out, HD.out]; rfl, HB.out _ _⟩
  · have e1 : (a != a') = true := by rw [bne_iff_ne]; exact h
    have HE := hid (show befB (a, p, b, q) (a', p', b', q') = decide (a < a') by unfold befB; rw [if_neg h])
    clear h
    go_enter Tryz.func67, Tryz.ntmps67
    go_wp2_with fail
    go_ret
    exact ⟨by rw [HE.out]; rfl, HB.out _ _⟩

set_option maxRecDepth 20000 in
set_option maxHeartbeats 2000000 in
theorem Rat_anyJ {w : World} {x : LkZ} {d : Int} {m : List UInt8} :
    Calls Tryz.prog 83 #[lkv x.1 x.2.1 x.2.2.1 x.2.2.2, .int .i64 d, .string (tx m)] w fun e w' => e = .returned (.bool (atB x d m)) ∧ Below w.heap.size w w' := by
  obtain ⟨a, p, b, q⟩ := x
  have HB := hid (fun (x : Obj) => (show Below w.heap.size w (w.alloc x) from (Below.refl _ _).alloc (Nat.le_refl _) _))
  simp only
  by_cases h1 : a = d
  · have e1 : (a == d) = true := by rw [h1]; simp
    by_cases h2 : p = m
    · have e2 : (p == m) = true := by rw [h2]; simp
      have HE := hid (show atB (a, p, b, q) d m = true from atB_iff.2 (.inl ⟨h1, h2⟩))
      clear h1 h2
      go_enter Tryz.func83, Tryz.ntmps83
      go_wp2_with fail
      go_ret
      exact ⟨by rw [HE.out]; rfl, HB.out _⟩
    · have e2 : (p == m) = false := by rw [beq_eq_false_iff_ne]; exact h2
      by_cases h3 : b = d
      · have e3 : (b == d) = true := by rw [h3]; simp
        have HE := hid (show atB (a, p, b, q) d m = (q == m) by unfold atB; simp [h2, h3]; rw [Bool.eq_iff_iff]; simp)
        clear h1 h2 h3
        go_enter Tryz.func83, Tryz.ntmps83
        go_wp2_with fail
        go_ret
        exact ⟨by rw [HE.out]; rfl, HB.out _⟩
      · have e3 : (b == d) = false := by rw [beq_eq_false_iff_ne]; exact h3
        have HE := hid (show atB (a, p, b, q) d m = false by unfold atB; simp [h2, h3])
        clear h1 h2 h3
        go_enter Tryz.func83, Tryz.ntmps83
        go_wp2_with fail
        go_ret
        exact ⟨by rw [HE.out]; rfl, HB.out _⟩
  · have e1 : (a == d) = false := by rw [beq_eq_false_iff_ne]; exact h1
    by_cases h3 : b = d
    · have e3 : (b == d) = true := by rw [h3]; simp
      have HE := hid (show atB (a, p, b, q) d m = (q == m) by unfold atB; simp [h1, h3]; rw [Bool.eq_iff_iff]; simp)
      clear h1 h3
      go_enter Tryz.func83, Tryz.ntmps83
      go_wp2_with fail
      go_ret
      exact ⟨by rw [HE.out]; rfl, HB.out _⟩
    · have e3 : (b == d) = false := by rw [beq_eq_false_iff_ne]; exact h3
      have HE := hid (show atB (a, p, b, q) d m = false by unfold atB; simp [h1, h3])
      clear h1 h3
      go_enter Tryz.func83, Tryz.ntmps83
      go_wp2_with fail
      go_ret
      exact ⟨by rw [HE.out]; rfl, HB.out _⟩
end Go.Proofs.YtebaopiedlioiaaGreatDoor
