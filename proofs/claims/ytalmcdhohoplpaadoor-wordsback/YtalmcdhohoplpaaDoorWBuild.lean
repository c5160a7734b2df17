/-
  strings.Builder in this program: a byte, a text put behind what is there; the text of it all.
-/
import Derived.Test.YtalmcdhohoplpaaDoorWLines
import Derived.Lib.AppendStr
namespace Go.Proofs.YtalmcdhohoplpaaDoor
open Go.RowKit Go.Shelf

/-- A builder that the call has made, holding the bytes of l. -/
abbrev Bu (B b : Nat) (l : List UInt8) (w : World) : Prop := Lib.IsBuilder 58 5 B b (Lib.byteCells l) w
theorem Tryd.sizeB : (Tryd.prog.info? 58).map (·.size) = some 2 := by kernel_rfl
theorem Tryd.liesB : liesAt Tryd.prog Tryd.prog.depth 58 (2 / Tryd.prog.cellsOf 58) 0 58 1 = true := by kernel_rfl

set_option maxRecDepth 100000 in
set_option maxHeartbeats 1000000 in
theorem check_used (b : Nat) (w : World) (h0 : w.cell? ⟨b, 0, none⟩ = some (.pointer (some ⟨b, 0, none⟩))) :
    Calls Tryd.prog 44 #[.pointer (some ⟨b, 0, none⟩)] w fun e w' => e = .returned (.tuple #[]) ∧ w' = w := by
  obtain ⟨j, hj, _⟩ := Option.map_eq_some_iff.1 Tryd.sizeB
  have q : ∀ w : World, _ := fun w => Lib.run_neq_ptr_same (P := Tryd.prog) w ⟨b, 0, none⟩ Tryd.underlying56 hj
  clear hj
  go_enter Tryd.func44, Tryd.ntmps44
  go_wp2
  go_end0
  exact ⟨rfl, rfl⟩

set_option maxRecDepth 100000 in
set_option maxHeartbeats 1000000 in
theorem check_fresh (b : Nat) (w : World) (h0 : w.cell? ⟨b, 0, none⟩ = some (.pointer none)) (hsh : w.shape? b = some (58, 2)) (hfz : w.frozen? ⟨b, 0, none⟩ = false) :
    Calls Tryd.prog 44 #[.pointer (some ⟨b, 0, none⟩)] w fun e w' => e = .returned (.tuple #[]) ∧ w' = w.setCell ⟨b, 0, none⟩ (.pointer (some ⟨b, 0, none⟩)) := by
  obtain ⟨j, hj, hjs⟩ := Option.map_eq_some_iff.1 Tryd.sizeB
  have q1 := Lib.run_to_unsafe (P := Tryd.prog) w ⟨b, 0, none⟩ Tryd.underlying56 Tryd.underlying75 hj (by rw [hjs]; decide) hsh (Nat.zero_lt_succ 1)
  have q2 := Lib.run_from_unsafe (P := Tryd.prog) w ⟨b, 0, none⟩ Tryd.underlying75 Tryd.underlying56 hj hsh Tryd.liesB
  have q3 : ∀ w : World, (callFunc 50 #[.pointer (some ⟨b, 0, none⟩)]).run Tryd.prog w = .ok (.value (.pointer (some ⟨b, 0, none⟩))) w := fun w => by
    rw [run_callFunc_extern Tryd.func50 (by kernel_rfl) (by kernel_rfl) (by kernel_rfl) (e := Extern.AbiNoEscape.same) (by kernel_rfl), Lib.run_noEscape]
    rfl
  have q : ∀ w : World, _ := fun w => Lib.run_neq_ptr_same (P := Tryd.prog) w ⟨b, 0, none⟩ Tryd.underlying56 hj
  clear hj hjs
  go_enter Tryd.func44, Tryd.ntmps44
  go_wp2
  go_end0
  exact ⟨rfl, rfl⟩

theorem check_any (B b : Nat) (l : List UInt8) (w : World) (h : Bu B b l w) :
    Calls Tryd.prog 44 #[.pointer (some ⟨b, 0, none⟩)] w fun e w' => e = .returned (.tuple #[]) ∧ Lib.BuilderAt 58 5 B b (.pointer (some ⟨b, 0, none⟩)) (Lib.byteCells l) w' ∧ Below B w w' := by
  rcases h with h | h
  · refine (check_fresh b w h.cell0 h.shape h.frozen0).mono ?_
    rintro e w' ⟨rfl, rfl⟩
    exact ⟨rfl, h.used _, (Below.refl B w).setCell (p := ⟨b, 0, none⟩) h.1 _⟩
  · refine (check_used b w h.cell0).mono ?_
    rintro e w' ⟨rfl, rfl⟩
    exact ⟨rfl, h, Below.refl B _⟩

/-- What a walk wants to know of a builder that has been written to. -/
theorem bu_cells {B b : Nat} {p : Value} {bs : List Value} {w : World} (h : Lib.BuilderAt 58 5 B b p bs w) : ∃ ao cap, w.cell? ⟨b, 1, none⟩ = some (.slice ao bs.length cap) ∧ w.frozen? ⟨b, 1, none⟩ = false ∧ w.heap[b]? = some (.cells #[p, .slice ao bs.length cap] 58 (0, 0)) ∧
    w.ownsRow B 5 1 (.slice ao bs.length cap) bs.length bs ∧ B ≤ b := by
  obtain ⟨hB, v, hbk, hown, _⟩ := h
  obtain ⟨ao, cap, rfl⟩ := own_form hown
  exact ⟨ao, cap, cell_at hbk, free_of hbk, hbk, hown, hB⟩
theorem bu_put {B b : Nat} {p : Value} {bs ys : List Value} {ao : Option Addr} {cap : Nat} {v' : Value} {w w2 : World} {o : Obj} (hbk : w.heap[b]? = some (.cells #[p, .slice ao bs.length cap] 58 (0, 0))) (hown : w.ownsRow B 5 1 (.slice ao bs.length cap) bs.length bs) (hB : B ≤ b)
    (hown2 : w2.ownsRow B 5 1 v' (bs.length + ys.length) (bs ++ ys)) (hg : (w.alloc o).grownBy w2 (Value.slice ao bs.length cap).ownBlock) :
    w2.heap[b]? = some (.cells #[p, .slice ao bs.length cap] 58 (0, 0)) ∧ Lib.BuilderAt 58 5 B b p (bs ++ ys) (w2.setCell ⟨b, 1, none⟩ v') ∧ (B ≤ w.heap.size → Below B w (w2.setCell ⟨b, 1, none⟩ v')) := by
  have hb2 := kept_block hg hown hbk (by decide)
  refine ⟨hb2, ?_, fun hBw => ?_⟩
  · exact Lib.BuilderAt.put hB hb2 (by rw [List.length_append]; exact hown2) (by decide)
  · have b1 : Below B w (w.alloc o) := (Below.refl _ _).alloc hBw _
    exact (b1.grown hg (Nat.le_trans hBw b1.size) (fun k hk => (hown.lt k hk).1) |>.setCell (p := ⟨b, 1, none⟩) hB _)

set_option maxRecDepth 100000 in
set_option maxHeartbeats 1000000 in
theorem WriteByte_any (B b : Nat) (l : List UInt8) (c : UInt8) (w : World) (h : Bu B b l w) (hl : l.length ≤ 1073741824) (hB : B ≤ w.heap.size) :
    Calls Tryd.prog 32 #[.pointer (some ⟨b, 0, none⟩), bv c] w fun e w' => e = .returned .nilIface ∧ Hid (Bu B b (l ++ [c]) w') ∧ Below B w w' := by
  obtain ⟨i0, hi, hz0, hz1, hz2⟩ := info_parts Tryd.infoU8
  have HI := hid hi
  have HZ0 := hid hz0
  have HZ1 := hid hz1
  have HZ2 := hid hz2
  clear hi hz0 hz1 hz2
  go_enter Tryd.func32, Tryd.ntmps32
  go_wp2_with fail
  refine (check_any B b l w h).mono ?_
  rintro e w1 ⟨rfl, h1, hb1⟩
  obtain ⟨ao, cap, c1, f1, hbk, hown, hBb⟩ := bu_cells h1
  have HBK := hid hbk
  have HOWN := hid hown
  have hs1 := hb1.size
  obtain ⟨m, hm⟩ : ∃ m, m = (Lib.byteCells l).length := ⟨_, rfl⟩
  have HM := hid hm
  rw [← hm] at c1 hbk
  have hml : m ≤ 1073741824 := by rw [hm, Lib.byteCells_length]; exact hl
  clear hbk hown hm h1 h
  go_wp2_with (first | (at_builtin; refine wpList_append_own_at _ rfl _ _ 46 rfl B 5 i0 (.int .u8 0) 1 1 Tryd.underlying46 HI.out HZ0.out HZ1.out HZ2.out rfl (by decide) (.slice ao m cap) m (Lib.byteCells l) rfl (by rw [HM.out]; exact HOWN.out.alloc _) ⟨w1.heap.size, 0, none⟩ 1 1 [bv c] rfl rfl (new_cells _ #[bv c] _ _ rfl) ?c2 ?c3 ?c4 ?c5 ?_))
  case c2 => simp [Value.oneCell']
  case c3 => unfold maxLen; omega
  case c4 => omega
  case c5 => simp; omega
  intro v' w2 hown2 hg2 _ _
  obtain ⟨a2, cap2, rfl⟩ := own_form hown2
  rw [HM.out] at hown2 hg2
  obtain ⟨hb2, hat, hbel⟩ := bu_put HBK.out HOWN.out hBb (ys := [bv c]) hown2 hg2
  have d1 := cell_at (o := 1) hb2
  have g1 := free_of (o := 1) hb2
  have HAT := hid hat
  have HBEL := hid (hbel (by omega))
  clear hb2 hat hbel hown2 hg2
  go_wp2
  go_ret
  rw [HM.out]
  refine ⟨rfl, ?_, hb1.trans HBEL.out⟩
  show Bu B b (l ++ [c]) _
  rw [Bu, Lib.byteCells_append]
  exact Or.inr HAT.out

theorem bu_put' {B b : Nat} {p : Value} {bs ys : List Value} {ao : Option Addr} {cap : Nat} {v' : Value} {w w2 : World} (hbk : w.heap[b]? = some (.cells #[p, .slice ao bs.length cap] 58 (0, 0))) (hown : w.ownsRow B 5 1 (.slice ao bs.length cap) bs.length bs) (hB : B ≤ b)
    (hown2 : w2.ownsRow B 5 1 v' (bs.length + ys.length) (bs ++ ys)) (hg : w.grownBy w2 (Value.slice ao bs.length cap).ownBlock) :
    w2.heap[b]? = some (.cells #[p, .slice ao bs.length cap] 58 (0, 0)) ∧ Lib.BuilderAt 58 5 B b p (bs ++ ys) (w2.setCell ⟨b, 1, none⟩ v') ∧ (B ≤ w.heap.size → Below B w (w2.setCell ⟨b, 1, none⟩ v')) := by
  have hb2 := (hg.block b (lt_of_block hbk) (fun q => own_ne hown hbk (by decide) q.symm)).trans hbk
  refine ⟨hb2, ?_, fun hBw => ?_⟩
  · exact Lib.BuilderAt.put hB hb2 (by rw [List.length_append]; exact hown2) (by decide)
  · exact ((Below.refl _ _).grown hg hBw (fun k hk => (hown.lt k hk).1) |>.setCell (p := ⟨b, 1, none⟩) hB _)

set_option maxRecDepth 100000 in
set_option maxHeartbeats 1000000 in
theorem WriteString_any (B b : Nat) (l t : List UInt8) (w : World) (h : Bu B b l w) (hl : l.length ≤ 1073741824) (ht : t.length ≤ 1073741824) (hB : B ≤ w.heap.size) :
    Calls Tryd.prog 33 #[.pointer (some ⟨b, 0, none⟩), .string (tx t)] w fun e w' => e = .returned (.tuple #[.int .i64 t.length, .nilIface]) ∧ Hid (Bu B b (l ++ t) w') ∧ Below B w w' := by
  obtain ⟨i0, hi, hz0, hz1, hz2⟩ := info_parts Tryd.infoU8
  have HI := hid hi
  have HZ0 := hid hz0
  have HZ1 := hid hz1
  have HZ2 := hid hz2
  clear hi hz0 hz1 hz2
  go_enter Tryd.func33, Tryd.ntmps33
  go_wp2_with fail
  refine (check_any B b l w h).mono ?_
  rintro e w1 ⟨rfl, h1, hb1⟩
  obtain ⟨ao, cap, c1, f1, hbk, hown, hBb⟩ := bu_cells h1
  have HBK := hid hbk
  have HOWN := hid hown
  have hs1 := hb1.size
  obtain ⟨m, hm⟩ : ∃ m, m = (Lib.byteCells l).length := ⟨_, rfl⟩
  have HM := hid hm
  rw [← hm] at c1 hbk
  have hml : m ≤ 1073741824 := by rw [hm, Lib.byteCells_length]; exact hl
  have htz : (tx t).size ≤ 1073741824 := by rw [tx_size]; exact ht
  clear hbk hown hm h1 h
  go_wp2_with (first | (at_builtin; refine Lib.wpList_append_own_string _ rfl _ _ 46 9 rfl B 5 i0 Tryd.underlying46 Tryd.underlying9 HI.out HZ0.out HZ1.out HZ2.out (.slice ao m cap) m (Lib.byteCells l) rfl (by rw [HM.out]; exact HOWN.out) (tx t) rfl ?c3 ?c4 ?c5 ?_))
  case c3 => unfold maxLen; omega
  case c4 => omega
  case c5 => omega
  intro v' w2 hown2 hg2 _
  obtain ⟨a2, cap2, rfl⟩ := own_form hown2
  rw [HM.out] at hown2 hg2
  have hys : (Lib.strCells (tx t)).length = (tx t).size := by rw [Lib.strCells_eq, Lib.byteCells_length, list_size]
  obtain ⟨hb2, hat, hbel⟩ := bu_put' HBK.out HOWN.out hBb (ys := Lib.strCells (tx t)) (by rw [hys]; exact hown2) hg2
  have d1 := cell_at (o := 1) hb2
  have g1 := free_of (o := 1) hb2
  have HAT := hid hat
  have HBEL := hid (hbel (by omega))
  clear hb2 hat hbel hown2 hg2 hys
  go_wp2
  go_ret2
  rw [HM.out]
  refine ⟨rfl, ?_, hb1.trans HBEL.out⟩
  show Bu B b (l ++ t) _
  rw [Bu, Lib.byteCells_append]
  exact Or.inr HAT.out

theorem Tryd.extraStr : Builder.Extra Tryd.prog Tryd.laysStr_ren := {
  sizeBuilder := by kernel_rfl
  liesBuilder := by kernel_rfl
  t5 := Tryd.underlying5
  a5 := Tryd.isAgg5
  z5 := Tryd.sizeOf5
  v5 := Tryd.zeroValue5
  infoByte := by kernel_rfl
  cellsByte := by kernel_rfl
  sizeByte := by kernel_rfl
  neB5 := by decide }
theorem Tryd.fStr : Tryd.laysStr_ren.f 169 = 34 := by kernel_rfl
theorem String_any (B b : Nat) (l : List UInt8) (w : World) (h : Bu B b l w) (hB : B ≤ w.heap.size) :
    Calls Tryd.prog 34 #[.pointer (some ⟨b, 0, none⟩)] w fun e w' => e = .returned (.string (tx l)) ∧ Below B w w' := by
  have q := Any.Builder_String_any Tryd.laysStr Tryd.extraStr B b l w h hB
  rw [Tryd.fStr] at q
  exact q
end Go.Proofs.YtalmcdhohoplpaaDoor
