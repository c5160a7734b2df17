/-
  Names and numbers, over lists of bytes. No program is named here.
  alive: one line's words, three words said.
  The document's sized and Size: how many nodes, and how deep, up to a bound.
  The document's deeper: is an expression deeper than so much?
  Path expressions: trees, how many nodes they have, how deep they are, and how they lie in memory.
  Say: words one behind the other.
  strings.Builder in this program: a byte, a text put behind what is there; the text of it all.
-/
import Derived.Test.YtagppgncanimaaaGreatDoorWSkipAnd
import Derived.Lib.AppendStr
import Derived.Test.YtagppgncanimaaaGreatDoorWMathAnd
namespace Go.Proofs.YtagppgncanimaaaGreatDoor
open Go.RowKit Go.Shelf

/-- A builder that the call has made, holding the bytes of l. -/
abbrev Bu (B b : Nat) (l : List UInt8) (w : World) : Prop := Lib.IsBuilder 87 5 B b (Lib.byteCells l) w
theorem Tryz.sizeB : (Tryz.prog.info? 87).map (·.size) = some 2 := by kernel_rfl
theorem Tryz.liesB : liesAt Tryz.prog Tryz.prog.depth 87 (2 / Tryz.prog.cellsOf 87) 0 87 1 = true := by kernel_rfl

set_option maxRecDepth 100000 in
set_option maxHeartbeats 1000000 in
theorem check_used (b : Nat) (w : World) (h0 : w.cell? ⟨b, 0, none⟩ = some (.pointer (some ⟨b, 0, none⟩))) :
    Calls Tryz.prog 76 #[.pointer (some ⟨b, 0, none⟩)] w fun e w' => e = .returned (.tuple #[]) ∧ w' = w := by
  obtain ⟨j, hj, _⟩ := Option.map_eq_some_iff.1 Tryz.sizeB
  have q : ∀ w : World, _ := fun w => Lib.run_neq_ptr_same (P := Tryz.prog) w ⟨b, 0, none⟩ Tryz.underlying84 hj
  clear hj
  go_enter Tryz.func76, Tryz.ntmps76
  go_wp2
  go_end0
  exact ⟨rfl, rfl⟩

set_option maxRecDepth 100000 in
set_option maxHeartbeats 1000000 in
theorem check_fresh (b : Nat) (w : World) (h0 : w.cell? ⟨b, 0, none⟩ = some (.pointer none)) (hsh : w.shape? b = some (87, 2)) (hfz : w.frozen? ⟨b, 0, none⟩ = false) :
    Calls Tryz.prog 76 #[.pointer (some ⟨b, 0, none⟩)] w fun e w' => e = .returned (.tuple #[]) ∧ w' = w.setCell ⟨b, 0, none⟩ (.pointer (some ⟨b, 0, none⟩)) := by
  obtain ⟨j, hj, hjs⟩ := Option.map_eq_some_iff.1 Tryz.sizeB
  have q1 := Lib.run_to_unsafe (P := Tryz.prog) w ⟨b, 0, none⟩ Tryz.underlying84 Tryz.underlying161 hj (by rw [hjs]; decide) hsh (Nat.zero_lt_succ 1)
  have q2 := Lib.run_from_unsafe (P := Tryz.prog) w ⟨b, 0, none⟩ Tryz.underlying161 Tryz.underlying84 hj hsh Tryz.liesB
  have q3 : ∀ w : World, (callFunc 105 #[.pointer (some ⟨b, 0, none⟩)]).run Tryz.prog w = .ok (.value (.pointer (some ⟨b, 0, none⟩))) w := fun w => by
    rw [run_callFunc_extern Tryz.func105 (by kernel_rfl) (by kernel_rfl) (by kernel_rfl) (e := Extern.AbiNoEscape.same) (by kernel_rfl), Lib.run_noEscape]
    rfl
  have q : ∀ w : World, _ := fun w => Lib.run_neq_ptr_same (P := Tryz.prog) w ⟨b, 0, none⟩ Tryz.underlying84 hj
  clear hj hjs
  go_enter Tryz.func76, Tryz.ntmps76
  go_wp2
  go_end0
  exact ⟨rfl, rfl⟩

theorem check_any (B b : Nat) (l : List UInt8) (w : World) (h : Bu B b l w) :
    Calls Tryz.prog 76 #[.pointer (some ⟨b, 0, none⟩)] w fun e w' => e = .returned (.tuple #[]) ∧ Lib.BuilderAt 87 5 B b (.pointer (some ⟨b, 0, none⟩)) (Lib.byteCells l) w' ∧ Below B w w' := by
  rcases h with h | h
  · refine (check_fresh b w h.cell0 h.shape h.frozen0).mono ?_
    rintro e w' ⟨rfl, rfl⟩
    exact ⟨rfl, h.used _, (Below.refl B w).setCell (p := ⟨b, 0, none⟩) h.1 _⟩
  · refine (check_used b w h.cell0).mono ?_
    rintro e w' ⟨rfl, rfl⟩
    exact ⟨rfl, h, Below.refl B _⟩

/-- What a walk wants to know of a builder that has been written to. -/
theorem bu_cells {B b : Nat} {p : Value} {bs : List Value} {w : World} (h : Lib.BuilderAt 87 5 B b p bs w) : ∃ ao cap, w.cell? ⟨b, 1, none⟩ = some (.slice ao bs.length cap) ∧ w.frozen? ⟨b, 1, none⟩ = false ∧ w.heap[b]? = some (.cells #[p, .slice ao bs.length cap] 87 (0, 0)) ∧
    w.ownsRow B 5 1 (.slice ao bs.length cap) bs.length bs ∧ B ≤ b := by
  obtain ⟨hB, v, hbk, hown, _⟩ := h
  obtain ⟨ao, cap, rfl⟩ := own_form hown
  exact ⟨ao, cap, cell_at hbk, free_of hbk, hbk, hown, hB⟩
theorem bu_put {B b : Nat} {p : Value} {bs ys : List Value} {ao : Option Addr} {cap : Nat} {v' : Value} {w w2 : World} {o : Obj} (hbk : w.heap[b]? = some (.cells #[p, .slice ao bs.length cap] 87 (0, 0))) (hown : w.ownsRow B 5 1 (.slice ao bs.length cap) bs.length bs) (hB : B ≤ b)
    (hown2 : w2.ownsRow B 5 1 v' (bs.length + ys.length) (bs ++ ys)) (hg : (w.alloc o).grownBy w2 (Value.slice ao bs.length cap).ownBlock) :
    w2.heap[b]? = some (.cells #[p, .slice ao bs.length cap] 87 (0, 0)) ∧ Lib.BuilderAt 87 5 B b p (bs ++ ys) (w2.setCell ⟨b, 1, none⟩ v') ∧ (B ≤ w.heap.size → Below B w (w2.setCell ⟨b, 1, none⟩ v')) := by
  have hb2 := kept_block hg hown hbk (by decide)
  refine ⟨hb2, ?_, fun hBw => ?_⟩
  · exact Lib.BuilderAt.put hB hb2 (by rw [List.length_append]; exact hown2) (by decide)
  · have b1 : Below B w (w.alloc o) := (Below.refl _ _).alloc hBw _
    exact (b1.grown hg (Nat.le_trans hBw b1.size) (fun k hk => (hown.lt k hk).1) |>.setCell (p := ⟨b, 1, none⟩) hB _)

set_option maxRecDepth 100000 in
set_option maxHeartbeats 1000000 in
theorem WriteByte_any (B b : Nat) (l : List UInt8) (c : UInt8) (w : World) (h : Bu B b l w) (hl : l.length ≤ 1073741824) (hB : B ≤ w.heap.size) :
    Calls Tryz.prog 47 #[.pointer (some ⟨b, 0, none⟩), bv c] w fun e w' => e = .returned .nilIface ∧ Hid (Bu B b (l ++ [c]) w') ∧ Below B w w' := by
  obtain ⟨i0, hi, hz0, hz1, hz2⟩ := info_parts Tryz.infoU8
  have HI := hid hi
  have HZ0 := hid hz0
  have HZ1 := hid hz1
  have HZ2 := hid hz2
  clear hi hz0 hz1 hz2
  go_enter Tryz.func47, Tryz.ntmps47
  go_wp2_with fail
  refine (check_any B b l w h).mono ?_
  rintro e w1 ⟨rfl, h1, hb1⟩
  obtain ⟨ao, cap, c1, f1, hbk, hown, hBb⟩ := bu_cells h1
  have HBK := hid hbk
  have HOWN := hid hown
  have hs1 := hb1.size
  obtain ⟨m, hm⟩ : ∃ m, m = (Lib.byteCells l).length := ⟨_, rfl⟩
  have HM := hid hm
  rw [← hm] at c1 hbk
  have hml : m ≤ 1073741824 := by rw [hm, Lib.byteCells_length]; exact hl
  clear hbk hown hm h1 h
  go_wp2_with (first | (at_builtin; refine wpList_append_own_at _ rfl _ _ 85 rfl B 5 i0 (.int .u8 0) 1 1 Tryz.underlying85 HI.out HZ0.out HZ1.out HZ2.out rfl (by decide) (.slice ao m cap) m (Lib.byteCells l) rfl (by rw [HM.out]; exact HOWN.out.alloc _) ⟨w1.heap.size, 0, none⟩ 1 1 [bv c] rfl rfl (new_cells _ #[bv c] _ _ rfl) ?c2 ?c3 ?c4 ?c5 ?_))
  case c2 => simp [Value.oneCell']
  case c3 => unfold maxLen; omega
  case c4 => omega
  case c5 => simp; omega
  intro v' w2 hown2 hg2 _ _
  obtain ⟨a2, cap2, rfl⟩ := own_form hown2
  rw [HM.out] at hown2 hg2
  obtain ⟨hb2, hat, hbel⟩ := bu_put HBK.out HOWN.out hBb (ys := [bv c]) hown2 hg2
  have d1 := cell_at (o := 1) hb2
  have g1 := free_of (o := 1) hb2
  have HAT := hid hat
  have HBEL := hid (hbel (by omega))
  clear hb2 hat hbel hown2 hg2
  go_wp2
  go_ret
  rw [HM.out]
  refine ⟨rfl, ?_, hb1.trans HBEL.out⟩
  show Bu B b (l ++ [c]) _
  rw [Bu, Lib.byteCells_append]
  exact Or.inr HAT.out

theorem bu_put' {B b : Nat} {p : Value} {bs ys : List Value} {ao : Option Addr} {cap : Nat} {v' : Value} {w w2 : World} (hbk : w.heap[b]? = some (.cells #[p, .slice ao bs.length cap] 87 (0, 0))) (hown : w.ownsRow B 5 1 (.slice ao bs.length cap) bs.length bs) (hB : B ≤ b)
    (hown2 : w2.ownsRow B 5 1 v' (bs.length + ys.length) (bs ++ ys)) (hg : w.grownBy w2 (Value.slice ao bs.length cap).ownBlock) :
    w2.heap[b]? = some (.cells #[p, .slice ao bs.length cap] 87 (0, 0)) ∧ Lib.BuilderAt 87 5 B b p (bs ++ ys) (w2.setCell ⟨b, 1, none⟩ v') ∧ (B ≤ w.heap.size → Below B w (w2.setCell ⟨b, 1, none⟩ v')) := by
  have hb2 := (hg.block b (lt_of_block hbk) (fun q => own_ne hown hbk (by decide) q.symm)).trans hbk
  refine ⟨hb2, ?_, fun hBw => ?_⟩
  · exact Lib.BuilderAt.put hB hb2 (by rw [List.length_append]; exact hown2) (by decide)
  · exact ((Below.refl _ _).grown hg hBw (fun k hk => (hown.lt k hk).1) |>.setCell (p := ⟨b, 1, none⟩) hB _)

set_option maxRecDepth 100000 in
set_option maxHeartbeats 1000000 in
theorem WriteString_any (B b : Nat) (l t : List UInt8) (w : World) (h : Bu B b l w) (hl : l.length ≤ 1073741824) (ht : t.length ≤ 1073741824) (hB : B ≤ w.heap.size) :
    Calls Tryz.prog 48 #[.pointer (some ⟨b, 0, none⟩), .string (tx t)] w fun e w' => e = .returned (.tuple #[.int .i64 t.length, .nilIface]) ∧ Hid (Bu B b (l ++ t) w') ∧ Below B w w' := by
  obtain ⟨i0, hi, hz0, hz1, hz2⟩ := info_parts Tryz.infoU8
  have HI := hid hi
  have HZ0 := hid hz0
  have HZ1 := hid hz1
  have HZ2 := hid hz2
  clear hi hz0 hz1 hz2
  go_enter Tryz.func48, Tryz.ntmps48
  go_wp2_with fail
  refine (check_any B b l w h).mono ?_
  rintro e w1 ⟨rfl, h1, hb1⟩
  obtain ⟨ao, cap, c1, f1, hbk, hown, hBb⟩ := bu_cells h1
  have HBK := hid hbk
  have HOWN := hid hown
  have hs1 := hb1.size
  obtain ⟨m, hm⟩ : ∃ m, m = (Lib.byteCells l).length := ⟨_, rfl⟩
  have HM := hid hm
  rw [← hm] at c1 hbk
  have hml : m ≤ 1073741824 := by rw [hm, Lib.byteCells_length]; exact hl
  have htz : (tx t).size ≤ 1073741824 := by rw [tx_size]; exact ht
  clear hbk hown hm h1 h
  go_wp2_with (first | (at_builtin; refine Lib.wpList_append_own_string _ rfl _ _ 85 9 rfl B 5 i0 Tryz.underlying85 Tryz.underlying9 HI.out HZ0.out HZ1.out HZ2.out (.slice ao m cap) m (Lib.byteCells l) rfl (by rw [HM.out]; exact HOWN.out) (tx t) rfl ?c3 ?c4 ?c5 ?_))
  case c3 => unfold maxLen; omega
  case c4 => omega
  case c5 => omega
  intro v' w2 hown2 hg2 _
  obtain ⟨a2, cap2, rfl⟩ := own_form hown2
  rw [HM.out] at hown2 hg2
  have hys : (Lib.strCells (tx t)).length = (tx t).size := by rw [Lib.strCells_eq, Lib.byteCells_length, list_size]
  obtain ⟨hb2, hat, hbel⟩ := bu_put' HBK.out HOWN.out hBb (ys := Lib.strCells (tx t)) (by rw [hys]; exact hown2) hg2
  have d1 := cell_at (o := 1) hb2
  have g1 := free_of (o := 1) hb2
  have HAT := hid hat
  have HBEL := hid (hbel (by omega))
  clear hb2 hat hbel hown2 hg2 hys
  go_wp2
  go_ret2
  rw [HM.out]
  refine ⟨rfl, ?_, hb1.trans HBEL.out⟩
  show Bu B b (l ++ t) _
  rw [Bu, Lib.byteCells_append]
  exact Or.inr HAT.out

theorem Tryz.extraStr : Builder.Extra Tryz.prog Tryz.laysStr_ren := {
  sizeBuilder := by kernel_rfl
  liesBuilder := by kernel_rfl
  t5 := Tryz.underlying5
  a5 := Tryz.isAgg5
  z5 := Tryz.sizeOf5
  v5 := Tryz.zeroValue5
  infoByte := by kernel_rfl
  cellsByte := by kernel_rfl
  sizeByte := by kernel_rfl
  neB5 := by decide }
theorem Tryz.fStr : Tryz.laysStr_ren.f 169 = 49 := by kernel_rfl
theorem String_any (B b : Nat) (l : List UInt8) (w : World) (h : Bu B b l w) (hB : B ≤ w.heap.size) :
    Calls Tryz.prog 49 #[.pointer (some ⟨b, 0, none⟩)] w fun e w' => e = .returned (.string (tx l)) ∧ Below B w w' := by
  have q := Any.Builder_String_any Tryz.laysStr Tryz.extraStr B b l w h hB
  rw [Tryz.fStr] at q
  exact q
end Go.Proofs.YtagppgncanimaaaGreatDoor
namespace Go.Proofs.YtagppgncanimaaaGreatDoor
open Go.RowKit

/-- A slice of texts, wherever it lies; nil and empty ones too. -/
def Txs (w : World) (v : Value) (ls : List (List UInt8)) : Prop :=
  ∃ ao cap, v = .slice ao ls.length cap ∧ (ls = [] ∨ ∃ g o, ao = some ⟨g, o, none⟩ ∧ g < w.heap.size ∧ ∀ i, i < ls.length → w.cell? ⟨g, o + i, none⟩ = some (.string (tx (ls.getD i []))))
theorem Txs.nil (w : World) (cap : Nat) (ao : Option Addr) : Txs w (.slice ao 0 cap) [] := ⟨ao, cap, rfl, Or.inl rfl⟩
theorem Txs.below {w w' : World} {v : Value} {ls : List (List UInt8)} (h : Txs w v ls) (hb : Below w.heap.size w w') : Txs w' v ls := by
  obtain ⟨ao, cap, e, hr⟩ := h
  refine ⟨ao, cap, e, ?_⟩
  rcases hr with hr | ⟨g, o, ea, hg, hc⟩
  · exact Or.inl hr
  · exact Or.inr ⟨g, o, ea, Nat.lt_of_lt_of_le hg hb.size, fun i hi => by rw [hb.cell (by show g < w.heap.size; omega)]; exact hc i hi⟩

theorem sayTo_len (ls : List (List UInt8)) (h : ∀ l ∈ ls, l.length ≤ 4000) (k : Nat) : (Wo.sayTo ls k).length ≤ 4001 * k := by
  induction k with
  | zero => simp [Wo.sayTo]
  | succ k ih =>
    have hk : (ls.getD k []).length ≤ 4000 := by
      by_cases hk : k < ls.length
      · rw [List.getD_eq_getElem?_getD, List.getElem?_eq_getElem hk]
        exact h _ (List.getElem_mem hk)
      · rw [List.getD_eq_getElem?_getD, List.getElem?_eq_none (by omega)]; simp
    unfold Wo.sayTo
    split <;> simp only [List.length_append, List.length_cons, List.length_nil] <;> omega
theorem getD_len (ls : List (List UInt8)) (h : ∀ l ∈ ls, l.length ≤ 4000) (k : Nat) : (ls.getD k []).length ≤ 4000 := by
  by_cases hk : k < ls.length
  · rw [List.getD_eq_getElem?_getD, List.getElem?_eq_getElem hk]
    exact h _ (List.getElem_mem hk)
  · rw [List.getD_eq_getElem?_getD, List.getElem?_eq_none (by omega)]; simp

/-- Are all of them words? -/
def allW (ls : List (List UInt8)) : Bool := ls.all Wo.isW
theorem allW_getD {ls : List (List UInt8)} : allW ls = true ↔ ∀ i, i < ls.length → Wo.isW (ls.getD i []) = true := by
  unfold allW
  rw [List.all_eq_true]
  constructor
  · intro h i hi
    rw [List.getD_eq_getElem?_getD, List.getElem?_eq_getElem hi]
    exact h _ (List.getElem_mem hi)
  · intro h x hx
    obtain ⟨i, hi, rfl⟩ := List.mem_iff_getElem.1 hx
    have := h i hi
    rw [List.getD_eq_getElem?_getD, List.getElem?_eq_getElem hi] at this
    exact this
/-- What is said; the error. -/
def sayS (ls : List (List UInt8)) : List UInt8 := if allW ls then Wo.sayL ls else []
def sayE (ls : List (List UInt8)) : Nat := if allW ls then 0 else 31

set_option maxHeartbeats 1000000 in
theorem Say_none (ao : Option Addr) (cap : Nat) (w : World) : Calls Tryz.prog 27 #[.slice ao 0 cap] w fun e w' => e = .returned (.tuple #[.string (tx []), .int .i64 0]) ∧ Below w.heap.size w w' := by
  have hf := Lib.fresh_isBuilder 87 5 w
  go_enter Tryz.func27, Tryz.ntmps27
  go_wp2
  refine wp_loop_rounds 1 ?_
  rw [rounds_succ]
  go_wp2_with (go_at_call 49; refine (String_any w.heap.size w.heap.size [] _ hf (by simp)).mono ?_; rintro e w1 ⟨rfl, hb1⟩)
  go_ret2
  exact ⟨rfl, ((Below.refl _ _).alloc (Nat.le_refl _) _).trans hb1⟩

set_option maxRecDepth 4000 in
set_option maxHeartbeats 2000000 in
theorem Say_some (ls : List (List UInt8)) (g o cap : Nat) (w : World) (hg : g < w.heap.size) (hc : ∀ i, i < ls.length → w.cell? ⟨g, o + i, none⟩ = some (.string (tx (ls.getD i [])))) (hn : ls.length ≤ 100000) (h4 : ∀ l ∈ ls, l.length ≤ 4000) :
    Calls Tryz.prog 27 #[.slice (some ⟨g, o, none⟩) ls.length cap] w fun e w' => e = .returned (.tuple #[.string (tx (sayS ls)), .int .i64 (sayE ls)]) ∧ Below w.heap.size w w' := by
  have HC := hid hc
  have H4 := hid h4
  clear hc h4
  obtain ⟨n, hnn⟩ : ∃ n, n = ls.length := ⟨_, rfl⟩
  have HN := hid hnn
  rw [← hnn] at hn ⊢
  clear hnn
  have hf := hid (Lib.fresh_isBuilder 87 5 w)
  go_enter Tryz.func27, Tryz.ntmps27
  go_wp2
  go_loopw [9] (fun i wr => ∃ k : Nat, k ≤ n ∧ i = .int .i64 k ∧ Hid (Bu w.heap.size w.heap.size (Wo.sayTo ls k) wr) ∧ Hid (∀ j, j < k → Wo.isW (ls.getD j []) = true) ∧ Hid (Below w.heap.size w wr)) (fun i _ => n - (intOf i).toNat)
  case atStart => exact ⟨0, Nat.zero_le _, rfl, hf, fun j hj => absurd hj (Nat.not_lt_zero j), (Below.refl _ _).alloc (Nat.le_refl _) _⟩
  case round =>
    obtain ⟨k, hk, rfl, HB, HW, HL⟩ := hrel
    have hsz := HL.out.size
    by_cases hlt : k < n
    · have ck : wr.cell? ⟨g, o + k, none⟩ = some (.string (tx (ls.getD k []))) := by rw [HL.out.cell (by exact hg)]; exact HC.out k (by rw [← HN.out]; exact hlt)
      obtain ⟨x, hx⟩ : ∃ x, x = ls.getD k [] := ⟨_, rfl⟩
      have hxl := getD_len ls H4.out k
      rw [← hx] at ck hxl
      have HX := hid hx
      clear hx
      have hkI : (0 : Int) ≤ (k : Int) := by omega
      have hkI2 : (k : Int) < (n : Int) := by omega
      have hsl := sayTo_len ls H4.out k
      rcases bool_two (Wo.isW x) with h1 | h1
      · have q : ∀ w, Calls Tryz.prog 45 #[.string (tx x)] w fun e w' => e = .returned (.bool false) ∧ w' = w := fun w => by
          have := isWord_any (tx x) w (by rw [tx_size]; unfold maxLen; omega)
          rw [show (tx x).data.toList = x from rfl, h1] at this; exact this
        have HE := hid (show allW ls = false by
          cases hq : allW ls with
          | false => rfl
          | true => have := allW_getD.1 hq k (by rw [← HN.out]; exact hlt); rw [← HX.out, h1] at this; exact absurd this (by simp))
        clear h1
        go_wp2_with (go_at_call 45; refine (q _).mono ?_; rintro e w' ⟨rfl, rfl⟩)
        go_ret2
        refine ⟨?_, HL.out⟩
        unfold sayS sayE
        rw [HE.out]; rfl
      · have q : ∀ w, Calls Tryz.prog 45 #[.string (tx x)] w fun e w' => e = .returned (.bool true) ∧ w' = w := fun w => by
          have := isWord_any (tx x) w (by rw [tx_size]; unfold maxLen; omega)
          rw [show (tx x).data.toList = x from rfl, h1] at this; exact this
        have HW2 := hid (show ∀ j, j < k + 1 → Wo.isW (ls.getD j []) = true from fun j hj => by
          by_cases e : j = k
          · rw [e, ← HX.out]; exact h1
          · exact HW.out j (by omega))
        clear h1
        by_cases hk0 : 0 < k
        · obtain ⟨y, hy⟩ : ∃ y, y = ls.getD (k - 1) [] := ⟨_, rfl⟩
          have cy : wr.cell? ⟨g, o + (k - 1), none⟩ = some (.string (tx y)) := by
            rw [HL.out.cell (by exact hg), hy]
            exact HC.out (k - 1) (by rw [← HN.out]; omega)
          have hyl := getD_len ls H4.out (k - 1)
          rw [← hy] at hyl
          have hp1 : (0 : Int) ≤ (k : Int) - 1 := by omega
          have hp2 : (k : Int) - 1 < (n : Int) := by omega
          have hk0I : (0 : Int) < (k : Int) := by omega
          have HY := hid hy
          clear hy
          rcases bool_two (Wo.glue y x) with h2 | h2
          · have q2 : ∀ w, Calls Tryz.prog 46 #[.string (tx y), .string (tx x)] w fun e w' => e = .returned (.bool true) ∧ w' = w := fun w => by
              have := mayTouch_any (tx y) (tx x) w (by rw [tx_size, tx_size]; unfold maxLen; omega)
              rw [show (tx x).data.toList = x from rfl, show (tx y).data.toList = y from rfl, h2] at this; exact this
            have HE0 := hid (show Wo.sayTo ls (k + 1) = Wo.sayTo ls k ++ x by
              show Wo.sayTo ls k ++ (if 0 < k ∧ Wo.glue (ls.getD (k - 1) []) (ls.getD k []) = true then [32] else []) ++ ls.getD k [] = _
              rw [← HX.out, ← HY.out, h2, if_neg (by simp)]; simp)
            clear h2
            go_wp2_with (first | (go_at_call 45; refine (q _).mono ?_; rintro e w' ⟨rfl, rfl⟩) | (go_at_call 46; refine (q2 _).mono ?_; rintro e w' ⟨rfl, rfl⟩) | (go_at_call 48; refine (WriteString_any w.heap.size w.heap.size (Wo.sayTo ls k) x _ HB.out (by omega) (by omega) (by omega)).mono ?_; rintro e w2 ⟨rfl, HB2, hb2⟩))
            go_roundw
            case rel => exact ⟨k + 1, by omega, by go_num, by show Bu _ _ _ _; rw [HE0.out]; exact HB2.out, HW2, HL.out.trans hb2⟩
            case measure => simp [intOf]; omega
          · have q2 : ∀ w, Calls Tryz.prog 46 #[.string (tx y), .string (tx x)] w fun e w' => e = .returned (.bool false) ∧ w' = w := fun w => by
              have := mayTouch_any (tx y) (tx x) w (by rw [tx_size, tx_size]; unfold maxLen; omega)
              rw [show (tx x).data.toList = x from rfl, show (tx y).data.toList = y from rfl, h2] at this; exact this
            have HE0 := hid (show Wo.sayTo ls (k + 1) = (Wo.sayTo ls k ++ [32]) ++ x by
              show Wo.sayTo ls k ++ (if 0 < k ∧ Wo.glue (ls.getD (k - 1) []) (ls.getD k []) = true then [32] else []) ++ ls.getD k [] = _
              rw [← HX.out, ← HY.out, h2, if_pos ⟨hk0, rfl⟩])
            clear h2
            have hw2l : (Wo.sayTo ls k ++ [32]).length ≤ 1073741824 := by simp only [List.length_append, List.length_cons, List.length_nil]; omega
            go_wp2_with (first | (go_at_call 45; refine (q _).mono ?_; rintro e w' ⟨rfl, rfl⟩) | (go_at_call 46; refine (q2 _).mono ?_; rintro e w' ⟨rfl, rfl⟩) | (go_at_call 48; refine (WriteString_any w.heap.size w.heap.size (Wo.sayTo ls k ++ [32]) x _ HB1.out hw2l (by omega) (by omega)).mono ?_; rintro e w2 ⟨rfl, HB2, hb2⟩) | (go_at_call 47; refine (WriteByte_any w.heap.size w.heap.size (Wo.sayTo ls k) 32 _ HB.out (by omega) (by omega)).mono ?_; rintro e w1 ⟨rfl, HB1, hb1⟩; have hs1 := hb1.size))
            go_roundw
            case rel => exact ⟨k + 1, by omega, by go_num, by show Bu _ _ _ _; rw [HE0.out]; exact HB2.out, HW2, HL.out.trans (hb1.trans hb2)⟩
            case measure => simp [intOf]; omega
        · have HE0 := hid (show Wo.sayTo ls (k + 1) = Wo.sayTo ls k ++ x by
            show Wo.sayTo ls k ++ (if 0 < k ∧ Wo.glue (ls.getD (k - 1) []) (ls.getD k []) = true then [32] else []) ++ ls.getD k [] = _
            rw [← HX.out, if_neg (by omega)]; simp)
          have hk0I : decide ((0 : Int) < (k : Int)) = false := decide_eq_false (by omega)
          go_wp2_with (first | (go_at_call 45; refine (q _).mono ?_; rintro e w' ⟨rfl, rfl⟩) | (go_at_call 48; refine (WriteString_any w.heap.size w.heap.size (Wo.sayTo ls k) x _ HB.out (by omega) (by omega) (by omega)).mono ?_; rintro e w2 ⟨rfl, HB2, hb2⟩))
          go_roundw
          case rel => exact ⟨k + 1, by omega, by go_num, by show Bu _ _ _ _; rw [HE0.out]; exact HB2.out, HW2, HL.out.trans hb2⟩
          case measure => simp [intOf]; omega
    · have hkn : k = n := by omega
      have HE := hid (show allW ls = true from allW_getD.2 (fun i hi => HW.out i (by rw [← HN.out] at hi; omega)))
      have HS := hid (show Wo.sayTo ls k = Wo.sayL ls by rw [hkn, HN.out]; exact Wo.sayTo_all ls)
      clear hkn
      go_wp2_with (go_at_call 49; refine (String_any w.heap.size w.heap.size (Wo.sayTo ls k) _ HB.out (by omega)).mono ?_; rintro e w1 ⟨rfl, hb1⟩)
      go_ret2
      refine ⟨?_, HL.out.trans hb1⟩
      unfold sayS sayE
      rw [HE.out, if_pos rfl, if_pos rfl, ← HS.out]
      rfl

theorem Say_any (v : Value) (ls : List (List UInt8)) (w : World) (h : Txs w v ls) (hn : ls.length ≤ 60) (h4 : ∀ l ∈ ls, l.length ≤ 4000) :
    Calls Tryz.prog 27 #[v] w fun e w' => e = .returned (.tuple #[.string (tx (sayS ls)), .int .i64 (sayE ls)]) ∧ Below w.heap.size w w' := by
  obtain ⟨ao, cap, rfl, hr⟩ := h
  rcases hr with rfl | ⟨g, o, rfl, hg, hc⟩
  · exact Say_none ao cap w
  · exact Say_some ls g o cap w hg hc (by omega) h4
theorem Say_anyX (v : Value) (ls : List (List UInt8)) (w : World) (h : Txs w v ls) (hn : ls.length ≤ 100000) (h4 : ∀ l ∈ ls, l.length ≤ 4000) :
    Calls Tryz.prog 27 #[v] w fun e w' => e = .returned (.tuple #[.string (tx (sayS ls)), .int .i64 (sayE ls)]) ∧ Below w.heap.size w w' := by
  obtain ⟨ao, cap, rfl, hr⟩ := h
  rcases hr with rfl | ⟨g, o, rfl, hg, hc⟩
  · exact Say_none ao cap w
  · exact Say_some ls g o cap w hg hc hn h4
end Go.Proofs.YtagppgncanimaaaGreatDoor
namespace Go.Proofs.YtagppgncanimaaaGreatDoor
open Go.RowKit

/-- A path expression. -/
inductive Rx where
  | mk (op : Int) (name : List UInt8) (kids : List Rx)
def Rx.op : Rx → Int
  | .mk o _ _ => o
def Rx.name : Rx → List UInt8
  | .mk _ n _ => n
def Rx.kids : Rx → List Rx
  | .mk _ _ k => k
theorem Rx.ind {P : Rx → Prop} (h : ∀ r, (∀ k ∈ r.kids, P k) → P r) (r : Rx) : P r :=
  Rx.rec (motive_1 := P) (motive_2 := fun l => ∀ k ∈ l, P k) (fun o n ks ih => h (.mk o n ks) ih) (fun k hk => absurd hk (by simp)) (fun a l ha hl k hk => by
    rcases List.mem_cons.1 hk with rfl | hk
    · exact ha
    · exact hl k hk) r
/-- How many nodes it has. -/
def Rx.nodes : Rx → Nat
  | .mk _ _ ks => 1 + (ks.map Rx.nodes).sum
/-- How deep it is. -/
def Rx.deep : Rx → Nat
  | .mk _ _ ks => 1 + (ks.map Rx.deep).foldl max 0
/-- Do all of its nodes have it? -/
def Rx.all (p : Rx → Bool) : Rx → Bool
  | .mk o n ks => p (.mk o n ks) && (ks.map (Rx.all p)).all id
theorem Rx.nodes_eq (r : Rx) : r.nodes = 1 + (r.kids.map Rx.nodes).sum := by
  cases r
  rw [Rx.nodes]; rfl
theorem Rx.deep_eq (r : Rx) : r.deep = 1 + (r.kids.map Rx.deep).foldl max 0 := by
  cases r
  rw [Rx.deep]; rfl
theorem Rx.all_eq (p : Rx → Bool) (r : Rx) : Rx.all p r = (p r && (r.kids.map (Rx.all p)).all id) := by
  cases r
  rw [Rx.all]; rfl

/-- How deep the deepest of some is. -/
def deepL (ks : List Rx) : Nat := (ks.map Rx.deep).foldl max 0
/-- How many nodes some have together. -/
def nodesL (ks : List Rx) : Nat := (ks.map Rx.nodes).sum
theorem Rx.nodes_kids (r : Rx) : r.nodes = 1 + nodesL r.kids := r.nodes_eq
theorem Rx.deep_kids (r : Rx) : r.deep = 1 + deepL r.kids := r.deep_eq
theorem foldl_max (l : List Nat) : ∀ a, l.foldl max a = max a (l.foldl max 0) := by
  induction l with
  | nil => intro a; simp
  | cons x t ih =>
    intro a
    rw [List.foldl_cons, List.foldl_cons, ih, ih (max 0 x)]
    omega
theorem deepL_snoc (ks : List Rx) (k : Rx) : deepL (ks ++ [k]) = max (deepL ks) k.deep := by
  simp [deepL, List.foldl_append]
theorem nodesL_snoc (ks : List Rx) (k : Rx) : nodesL (ks ++ [k]) = nodesL ks + k.nodes := by
  simp [nodesL]
theorem deepL_cons (ks : List Rx) (k : Rx) : deepL (k :: ks) = max k.deep (deepL ks) := by
  unfold deepL
  rw [List.map_cons, List.foldl_cons, foldl_max]
  omega
theorem nodesL_cons (ks : List Rx) (k : Rx) : nodesL (k :: ks) = k.nodes + nodesL ks := by
  simp [nodesL]
theorem nodesL_append (a b : List Rx) : nodesL (a ++ b) = nodesL a + nodesL b := by simp [nodesL]
theorem deepL_append (a b : List Rx) : deepL (a ++ b) = max (deepL a) (deepL b) := by
  unfold deepL
  rw [List.map_append, List.foldl_append, foldl_max]
theorem nodesL_take {ks : List Rx} (j : Nat) : nodesL (ks.take j) ≤ nodesL ks := by
  have := nodesL_append (ks.take j) (ks.drop j)
  rw [List.take_append_drop] at this
  omega
theorem deepL_take {ks : List Rx} (j : Nat) : deepL (ks.take j) ≤ deepL ks := by
  have := deepL_append (ks.take j) (ks.drop j)
  rw [List.take_append_drop] at this
  omega
theorem deepL_mem {ks : List Rx} {k : Rx} (h : k ∈ ks) : k.deep ≤ deepL ks := by
  induction ks with
  | nil => cases h
  | cons a t ih =>
    rw [deepL_cons]
    rcases List.mem_cons.1 h with rfl | h
    · omega
    · have := ih h; omega
theorem nodesL_mem {ks : List Rx} {k : Rx} (h : k ∈ ks) : k.nodes ≤ nodesL ks := by
  induction ks with
  | nil => cases h
  | cons a t ih =>
    rw [nodesL_cons]
    rcases List.mem_cons.1 h with rfl | h
    · omega
    · have := ih h; omega
theorem Rx.deep_le (r : Rx) : r.deep ≤ r.nodes := by
  induction r using Rx.ind with
  | h r ih =>
    rw [r.deep_kids, r.nodes_kids]
    have : deepL r.kids ≤ nodesL r.kids := by
      generalize r.kids = ks at ih
      induction ks with
      | nil => simp [deepL, nodesL]
      | cons a t iht =>
        rw [deepL_cons, nodesL_cons]
        have h1 := ih a (by simp)
        have h2 := iht (fun k hk => ih k (List.mem_cons_of_mem _ hk))
        omega
    omega
theorem Rx.nodes_pos (r : Rx) : 1 ≤ r.nodes := by rw [r.nodes_kids]; omega
theorem Rx.deep_pos (r : Rx) : 1 ≤ r.deep := by rw [r.deep_kids]; omega

/-- A list of expressions, as it lies in memory. -/
inductive RxS (w : World) : Value → List Rx → Prop where
  | nil (ao : Option Addr) (cap : Nat) : RxS w (.slice ao 0 cap) []
  | some (g o cap : Nat) (ks : List Rx) (vs : List Value) (hg : g < w.heap.size) (hl : vs.length = ks.length)
      (hc : ∀ (i : Nat) (k : Rx) (v : Value), ks[i]? = .some k → vs[i]? = .some v → w.cell? ⟨g, o + i * 3, none⟩ = .some (.int .i64 k.op) ∧ w.cell? ⟨g, o + i * 3 + 1, none⟩ = .some (.string (tx k.name)) ∧ w.cell? ⟨g, o + i * 3 + 2, none⟩ = .some v)
      (hk : ∀ (i : Nat) (k : Rx) (v : Value), ks[i]? = .some k → vs[i]? = .some v → RxS w v k.kids) : RxS w (.slice (.some ⟨g, o, none⟩) ks.length cap) ks
theorem RxS.on {w w' : World} {v : Value} {ks : List Rx} (h : RxS w v ks) (hb : Below w.heap.size w w') : RxS w' v ks := by
  induction h with
  | nil ao cap => exact .nil ao cap
  | some g o cap ks vs hg hl hc _ ih =>
    refine .some g o cap ks vs (Nat.lt_of_lt_of_le hg hb.size) hl (fun i k v hk hv => ?_) ih
    obtain ⟨c0, c1, c2⟩ := hc i k v hk hv
    exact ⟨(hb.cell (by exact hg)).trans c0, (hb.cell (by exact hg)).trans c1, (hb.cell (by exact hg)).trans c2⟩
/-- One element of a list. -/
theorem RxS.at {w : World} {v : Value} {ks : List Rx} (h : RxS w v ks) : ∃ ao cap, v = .slice ao ks.length cap ∧ (ks = [] ∨ ∃ g o, ao = Option.some ⟨g, o, none⟩ ∧ g < w.heap.size ∧ ∀ (i : Nat) (k : Rx), ks[i]? = Option.some k → ∃ u un uc, w.cell? ⟨g, o + i * 3, none⟩ = Option.some (.int .i64 k.op) ∧ w.cell? ⟨g, o + i * 3 + 1, none⟩ = Option.some (.string (tx k.name)) ∧ w.cell? ⟨g, o + i * 3 + 2, none⟩ = Option.some (.slice u un uc) ∧ un = k.kids.length ∧ RxS w (.slice u un uc) k.kids) := by
  cases h with
  | nil ao cap => exact ⟨ao, cap, rfl, Or.inl rfl⟩
  | some g o cap ks vs hg hl hc hk =>
    refine ⟨_, cap, rfl, Or.inr ⟨g, o, rfl, hg, fun i k hi => ?_⟩⟩
    have hlt := (List.getElem?_eq_some_iff.1 hi).1
    have hv : vs[i]? = Option.some (vs[i]'(by omega)) := List.getElem?_eq_getElem _
    obtain ⟨c0, c1, c2⟩ := hc i k _ hi hv
    have hr := hk i k _ hi hv
    generalize vs[i]'(by omega) = v at c2 hr
    obtain ⟨u, uc, rfl⟩ : ∃ u uc, v = .slice u k.kids.length uc := by
      generalize k.kids = kk at hr
      cases hr with
      | nil ao cap => exact ⟨ao, cap, rfl⟩
      | some g o cap ks vs _ _ _ _ => exact ⟨_, cap, rfl⟩
    exact ⟨u, _, uc, c0, c1, c2, rfl, hr⟩
/-- A struct of an expression. -/
abbrev rxv (r : Rx) (v : Value) : Value := .agg #[.int .i64 r.op, .string (tx r.name), v]
abbrev rxo (o : Int) (n : List UInt8) (v : Value) : Obj := .cells #[.int .i64 o, .string (tx n), v] 25
end Go.Proofs.YtagppgncanimaaaGreatDoor
namespace Go.Proofs.YtagppgncanimaaaGreatDoor
open Go.RowKit

theorem deepL_le {ks : List Rx} {m : Int} (h0 : 0 ≤ m) (h : ∀ (i : Nat) (k : Rx), ks[i]? = some k → (k.deep : Int) ≤ m) : (deepL ks : Int) ≤ m := by
  induction ks with
  | nil => simpa [deepL] using h0
  | cons a t ih =>
    rw [deepL_cons]
    have h1 := h 0 a rfl
    have h2 := ih (fun i k hk => h (i + 1) k (by simpa using hk))
    omega
/-- Where a walk over an expression's Kids stands: the expression lies in the block that was made first. -/
abbrev boxed (w : World) (r : Rx) (v : Value) (wr : World) : Prop := Below (w.heap.size + 1) (w.alloc (rxo r.op r.name v)) wr
theorem boxed.cells {w wr : World} {r : Rx} {v : Value} (h : boxed w r v wr) : wr.cell? ⟨w.heap.size, 0, none⟩ = some (.int .i64 r.op) ∧ wr.cell? ⟨w.heap.size, 1, none⟩ = some (.string (tx r.name)) ∧ wr.cell? ⟨w.heap.size, 2, none⟩ = some v := by
  have hb := below_block h (new_0 w (rxo r.op r.name v)) (Nat.lt_succ_self _)
  exact ⟨by rw [cell_at hb]; rfl, by rw [cell_at hb]; rfl, by rw [cell_at hb]; rfl⟩
theorem boxed.low {w wr : World} {r : Rx} {v : Value} (h : boxed w r v wr) : Below w.heap.size w wr :=
  ((Below.refl w.heap.size w).alloc (Nat.le_refl _) (rxo r.op r.name v)).trans (h.mono (Nat.le_succ _))
theorem boxed.start (w : World) (r : Rx) (v : Value) : boxed w r v (w.alloc (rxo r.op r.name v)) := Below.refl _ _
theorem boxed.on {w wr w' : World} {r : Rx} {v : Value} (h : boxed w r v wr) (hb : Below wr.heap.size wr w') : boxed w r v w' := h.trans (hb.mono (by have := h.size; simpa using this))

theorem length_le (ks : List Rx) : ks.length ≤ nodesL ks := by
  induction ks with
  | nil => simp
  | cons a t ih => rw [nodesL_cons, List.length_cons]; have := a.nodes_pos; omega

set_option maxRecDepth 4000 in
set_option maxHeartbeats 2000000 in
theorem deeper_any (r : Rx) : ∀ (mo : Int) (w : World) (v : Value), -5 ≤ mo → mo ≤ 1000000 → r.nodes ≤ 1000000 → RxS w v r.kids →
    Calls Tryz.prog 34 #[.agg #[.int .i64 r.op, .string (tx r.name), v], .int .i64 mo] w fun e w' => e = .returned (.bool (decide (mo < (r.deep : Int)))) ∧ Below w.heap.size w w' := by
  induction r using Rx.ind with
  | h r ih =>
    intro mo w v hlo hhi hn hS
    have hdk := r.deep_kids
    have hnk := r.nodes_kids
    have hlk := length_le r.kids
    by_cases h0 : mo ≤ 0
    · have HE := hid (show decide (mo < (r.deep : Int)) = true by rw [decide_eq_true_eq]; omega)
      obtain ⟨ao, cap, rfl, -⟩ := hS.at
      clear ih hdk hnk hlk hn hS
      go_enter Tryz.func34, Tryz.ntmps34
      go_wp2
      go_ret
      exact ⟨by rw [HE.out]; rfl, (Below.refl _ _).alloc (Nat.le_refl _) _⟩
    · have h0' : (0 : Int) < mo := by omega
      obtain ⟨m1, hm1⟩ : ∃ m1 : Int, m1 = mo - 1 := ⟨_, rfl⟩
      have hw1 : IntKind.i64.wrap (mo - 1) = m1 := by rw [IntKind.wrap_i64]; omega
      have HM := hid hm1
      have HIH := hid (fun (k : Rx) (hk : k ∈ r.kids) (W : World) (u : Value) (hu : RxS W u k.kids) => ih k hk m1 W u (by omega) (by omega) (by have := nodesL_mem hk; omega) hu)
      have HS := hid hS
      have HR := hid hdk
      obtain ⟨ao, cap, rfl, hat⟩ := hS.at
      obtain ⟨n, hnn⟩ : ∃ n, n = r.kids.length := ⟨_, rfl⟩
      have HN := hid hnn
      have hnb : n ≤ 1000000 := by omega
      rw [← hnn] at HS ⊢
      have HAT := hid hat
      have HB0 := hid (boxed.start w r (.slice ao n cap))
      clear ih hdk hnk hlk hn hS hat hnn hm1 h0
      go_enter Tryz.func34, Tryz.ntmps34
      go_wp2_with fail
      go_loopw [5] (fun i wr => ∃ j : Nat, j ≤ n ∧ i = .int .i64 j ∧ Hid (∀ i k, i < j → r.kids[i]? = some k → (k.deep : Int) ≤ m1) ∧ Hid (boxed w r (.slice ao n cap) wr)) (fun i _ => n - (intOf i).toNat)
      case atStart => exact ⟨0, Nat.zero_le _, rfl, fun i k hi => absurd hi (Nat.not_lt_zero i), HB0⟩
      case round =>
        obtain ⟨j, hj, rfl, HD, HB⟩ := hrel
        obtain ⟨-, -, d2⟩ := HB.out.cells
        by_cases hlt : j < n
        · obtain ⟨k, hk⟩ : ∃ k, r.kids[j]? = some k := ⟨r.kids[j]'(by rw [← HN.out]; exact hlt), List.getElem?_eq_getElem _⟩
          obtain ⟨g, o, rfl, hg, hcell⟩ : ∃ g o, ao = some ⟨g, o, none⟩ ∧ g < w.heap.size ∧ ∀ (i : Nat) (k : Rx), r.kids[i]? = some k → ∃ u un uc, w.cell? ⟨g, o + i * 3, none⟩ = some (.int .i64 k.op) ∧ w.cell? ⟨g, o + i * 3 + 1, none⟩ = some (.string (tx k.name)) ∧ w.cell? ⟨g, o + i * 3 + 2, none⟩ = some (.slice u un uc) ∧ un = k.kids.length ∧ RxS w (.slice u un uc) k.kids := by
            rcases HAT.out with e | h
            · rw [e] at hk; simp at hk
            · exact h
          obtain ⟨u, un, uc, a0, a1, a2, -, hr⟩ := hcell j k hk
          have k0 := (HB.out.low.cell (p := ⟨g, o + j * 3, none⟩) (by exact hg)).trans a0
          have k1 := (HB.out.low.cell (p := ⟨g, o + j * 3 + 1, none⟩) (by exact hg)).trans a1
          have k2 := (HB.out.low.cell (p := ⟨g, o + j * 3 + 2, none⟩) (by exact hg)).trans a2
          have HK := hid hk
          have HC := hid (HIH.out k (List.mem_of_getElem? hk) wr (.slice u un uc) (hr.on HB.out.low))
          have hkI : (j : Int) < (n : Int) := by omega
          have hk0 : (0 : Int) ≤ (j : Int) := by omega
          clear hk a0 a1 a2 hr hcell
          by_cases hd : m1 < (k.deep : Int)
          · rw [decide_eq_true hd] at HC
            have HE := hid (show decide (mo < (r.deep : Int)) = true by
              rw [decide_eq_true_eq, HR.out]
              have := deepL_mem (List.mem_of_getElem? HK.out)
              have := HM.out
              omega)
            clear hd
            go_wp2_with fail
            refine HC.out.mono ?_
            rintro en w2 ⟨rfl, hb2⟩
            have B2 := hid (HB.out.on hb2)
            clear hb2
            go_wp2
            go_ret
            exact ⟨by rw [HE.out]; rfl, B2.out.low⟩
          · rw [decide_eq_false hd] at HC
            have HD2 := hid (show ∀ i k, i < j + 1 → r.kids[i]? = some k → (k.deep : Int) ≤ m1 from fun i x hi hx => by
              by_cases e : i = j
              · subst e
                rw [HK.out] at hx
                injection hx with hx
                rw [← hx]; omega
              · exact HD.out i x (by omega) hx)
            clear hd
            go_wp2_with fail
            refine HC.out.mono ?_
            rintro en w2 ⟨rfl, hb2⟩
            have B2 := hid (HB.out.on hb2)
            clear hb2
            go_wp2
            go_roundw
            case rel => exact ⟨j + 1, by omega, by go_num, HD2, B2⟩
            case measure => simp [intOf]; omega
        · have hkI : ¬ ((j : Int) < (n : Int)) := by omega
          have HE := hid (show decide (mo < (r.deep : Int)) = false by
            rw [decide_eq_false_iff_not, HR.out]
            have := deepL_le (ks := r.kids) (m := m1) (by have := HM.out; omega) (fun i k hk => HD.out i k (by have := (List.getElem?_eq_some_iff.1 hk).1; have := HN.out; omega) hk)
            have := HM.out
            omega)
          go_wp2
          go_ret
          exact ⟨by rw [HE.out]; rfl, HB.out.low⟩
end Go.Proofs.YtagppgncanimaaaGreatDoor
namespace Go.Proofs.YtagppgncanimaaaGreatDoor
open Go.RowKit

/-- What sized tells. -/
structure SzPost (r : Rx) (mo de a b : Int) : Prop where
  yes : (r.nodes : Int) ≤ mo → (r.deep : Int) ≤ de → a = r.nodes ∧ b = r.deep
  no : ¬ ((r.nodes : Int) ≤ mo ∧ (r.deep : Int) ≤ de) → a = mo + 1
  lo : 0 ≤ b
  hi : b ≤ max 0 de
/-- Where sized stands behind j Kids. -/
structure SzInv (r : Rx) (mo de : Int) (j : Nat) (a b : Int) : Prop where
  ge : 1 ≤ a
  le : a ≤ mo + 1
  lo : 0 ≤ b
  hi : b ≤ de - 1
  ex : (a = 1 + nodesL (r.kids.take j) ∧ b = deepL (r.kids.take j)) ∨ (a = mo + 1 ∧ ¬ ((r.nodes : Int) ≤ mo ∧ (r.deep : Int) ≤ de))
theorem take_snocR {ks : List Rx} {j : Nat} {k : Rx} (h : ks[j]? = some k) : ks.take (j + 1) = ks.take j ++ [k] := by
  rw [List.take_add_one, h]; rfl
theorem SzInv.next {r : Rx} {mo de : Int} {j : Nat} {a b m e : Int} {k : Rx} (h : SzInv r mo de j a b) (hk : r.kids[j]? = some k) (ha : a ≤ mo) (hde : 1 ≤ de) (hp : SzPost k (mo - a) (de - 1) m e) : SzInv r mo de (j + 1) (a + m) (if b < e then e else b) := by
  have ht := take_snocR hk
  have n1 : nodesL (r.kids.take (j + 1)) = nodesL (r.kids.take j) + k.nodes := by rw [ht, nodesL_snoc]
  have d1 : deepL (r.kids.take (j + 1)) = max (deepL (r.kids.take j)) k.deep := by rw [ht, deepL_snoc]
  have hm := List.mem_of_getElem? hk
  have hnm := nodesL_take (ks := r.kids) (j + 1)
  have hdm := deepL_mem hm
  have hn := r.nodes_kids
  have hd := r.deep_kids
  have hp1 := k.nodes_pos
  have hlo := hp.lo
  have hhi := hp.hi
  have h1 := h.lo
  have h2 := h.hi
  have h3 := h.ge
  have hb : 0 ≤ (if b < e then e else b) ∧ (if b < e then e else b) ≤ de - 1 := by split <;> omega
  by_cases hc : (k.nodes : Int) ≤ mo - a ∧ (k.deep : Int) ≤ de - 1
  · obtain ⟨rfl, rfl⟩ := hp.yes hc.1 hc.2
    refine ⟨by omega, by omega, hb.1, hb.2, ?_⟩
    rcases h.ex with ⟨e1, e2⟩ | ⟨e1, _⟩
    · refine Or.inl ⟨by omega, ?_⟩
      split <;> omega
    · omega
  · have := hp.no hc
    refine ⟨by omega, by omega, hb.1, hb.2, Or.inr ⟨by omega, ?_⟩⟩
    rcases h.ex with ⟨e1, e2⟩ | ⟨e1, q⟩
    · intro q
      omega
    · exact q
theorem SzInv.fin {r : Rx} {mo de : Int} {j : Nat} {a b : Int} (h : SzInv r mo de j a b) (hde : 1 ≤ de) (hx : j = r.kids.length ∨ mo < a) : SzPost r mo de a (b + 1) := by
  have hn := r.nodes_kids
  have hd := r.deep_kids
  have hnm := nodesL_take (ks := r.kids) j
  have hdm := deepL_take (ks := r.kids) j
  have h1 := h.lo
  have h2 := h.hi
  have h3 := h.le
  refine ⟨fun q1 q2 => ?_, fun q => ?_, by omega, by omega⟩
  · rcases h.ex with ⟨e1, e2⟩ | ⟨e1, q⟩
    · rcases hx with rfl | hx
      · rw [List.take_length] at e1 e2
        omega
      · omega
    · exact absurd ⟨q1, q2⟩ q
  · rcases h.ex with ⟨e1, e2⟩ | ⟨e1, _⟩
    · rcases hx with rfl | hx
      · rw [List.take_length] at e1 e2
        omega
      · omega
    · exact e1

set_option maxRecDepth 4000 in
set_option maxHeartbeats 2000000 in
theorem sized_any (r : Rx) : ∀ (mo de : Int) (w : World) (v : Value), 0 ≤ mo → mo ≤ 1000000 → -5 ≤ de → de ≤ 1000000 → RxS w v r.kids →
    Calls Tryz.prog 32 #[.agg #[.int .i64 r.op, .string (tx r.name), v], .int .i64 mo, .int .i64 de] w fun e w' => ∃ a b : Int, e = .returned (.tuple #[.int .i64 a, .int .i64 b]) ∧ Hid (SzPost r mo de a b) ∧ Below w.heap.size w w' := by
  induction r using Rx.ind with
  | h r ih =>
    intro mo de w v hm0 hm1 hd0 hd1 hS
    have hdk := r.deep_kids
    by_cases h0 : de ≤ 0
    · have hw1 : IntKind.i64.wrap (mo + 1) = mo + 1 := by rw [IntKind.wrap_i64]; omega
      have HE := hid (show SzPost r mo de (mo + 1) 0 from ⟨fun _ _ => by omega, fun _ => rfl, by omega, by omega⟩)
      obtain ⟨ao, cap, rfl, -⟩ := hS.at
      clear ih hdk hS
      go_enter Tryz.func32, Tryz.ntmps32
      go_wp2
      refine bodyPost_ret (v := .tuple #[.int .i64 (mo + 1), .int .i64 0]) (by simp [results, Tryz.results32, go_sem]) rfl ?_
      exact ⟨_, _, rfl, HE, (Below.refl _ _).alloc (Nat.le_refl _) _⟩
    · have h0' : (0 : Int) < de := by omega
      obtain ⟨d1, hd1e⟩ : ∃ d1 : Int, d1 = de - 1 := ⟨_, rfl⟩
      have hw1 : IntKind.i64.wrap (de - 1) = d1 := by rw [IntKind.wrap_i64]; omega
      have HD1 := hid hd1e
      have HIH := hid (fun (k : Rx) (hk : k ∈ r.kids) (W : World) (u : Value) (hu : RxS W u k.kids) (m : Int) (h1 : 0 ≤ m) (h2 : m ≤ 1000000) => ih k hk m d1 W u h1 h2 (by omega) (by omega) hu)
      obtain ⟨ao, cap, rfl, hat⟩ := hS.at
      obtain ⟨n, hnn⟩ : ∃ n, n = r.kids.length := ⟨_, rfl⟩
      have HN := hid hnn
      rw [← hnn]
      have HAT := hid hat
      have HB0 := hid (boxed.start w r (.slice ao n cap))
      have HI0 := hid (show SzInv r mo de 0 1 0 from ⟨by omega, by omega, by omega, by omega, Or.inl ⟨by simp [nodesL], by simp [deepL]⟩⟩)
      clear ih hdk hS hat hnn h0 hd1e
      go_enter Tryz.func32, Tryz.ntmps32
      go_wp2_with fail
      go_loopw [8, 9, 10] (fun va vb vi wr => ∃ (j : Nat) (a b : Int), j ≤ n ∧ va = .int .i64 a ∧ vb = .int .i64 b ∧ vi = .int .i64 j ∧ Hid ((j : Int) ≤ a) ∧ Hid (SzInv r mo de j a b) ∧ Hid (boxed w r (.slice ao n cap) wr)) (fun _ _ vi _ => n - (intOf vi).toNat)
      case atStart => exact ⟨0, 1, 0, Nat.zero_le _, rfl, rfl, rfl, (show (0 : Int) ≤ 1 by omega), HI0, HB0⟩
      case round =>
        obtain ⟨j, a, b, hj, rfl, rfl, rfl, HJA, HI, HB⟩ := hrel
        obtain ⟨-, -, c2⟩ := HB.out.cells
        have hja := HJA.out
        have hage := HI.out.ge
        have hale := HI.out.le
        have hblo := HI.out.lo
        have hbhi := HI.out.hi
        by_cases hlt : j < n
        · have hkI : (j : Int) < (n : Int) := by omega
          have hk0 : (0 : Int) ≤ (j : Int) := by omega
          by_cases ham : a ≤ mo
          · obtain ⟨k, hk⟩ : ∃ k, r.kids[j]? = some k := ⟨r.kids[j]'(by rw [← HN.out]; exact hlt), List.getElem?_eq_getElem _⟩
            obtain ⟨g, o, rfl, hg, hcell⟩ : ∃ g o, ao = some ⟨g, o, none⟩ ∧ g < w.heap.size ∧ ∀ (i : Nat) (k : Rx), r.kids[i]? = some k → ∃ u un uc, w.cell? ⟨g, o + i * 3, none⟩ = some (.int .i64 k.op) ∧ w.cell? ⟨g, o + i * 3 + 1, none⟩ = some (.string (tx k.name)) ∧ w.cell? ⟨g, o + i * 3 + 2, none⟩ = some (.slice u un uc) ∧ un = k.kids.length ∧ RxS w (.slice u un uc) k.kids := by
              rcases HAT.out with e | h
              · rw [e] at hk; simp at hk
              · exact h
            obtain ⟨u, un, uc, a0, a1, a2, -, hr⟩ := hcell j k hk
            have k0 := (HB.out.low.cell (p := ⟨g, o + j * 3, none⟩) (by exact hg)).trans a0
            have k1 := (HB.out.low.cell (p := ⟨g, o + j * 3 + 1, none⟩) (by exact hg)).trans a1
            have k2 := (HB.out.low.cell (p := ⟨g, o + j * 3 + 2, none⟩) (by exact hg)).trans a2
            have HK := hid hk
            obtain ⟨m2, hm2⟩ : ∃ m2 : Int, m2 = mo - a := ⟨_, rfl⟩
            have hw2 : IntKind.i64.wrap (mo - a) = m2 := by rw [IntKind.wrap_i64]; omega
            have HC := hid (HIH.out k (List.mem_of_getElem? hk) wr (.slice u un uc) (hr.on HB.out.low) m2 (by omega) (by omega))
            have HM2 := hid hm2
            clear hk a0 a1 a2 hr hcell hm2
            go_wp2_with fail
            refine HC.out.mono ?_
            rintro en w2 ⟨m, e, rfl, hp, hb2⟩
            have B2 := hid (HB.out.on hb2)
            have hp' := hp.out
            rw [HM2.out, HD1.out] at hp'
            have HNX := hid (HI.out.next HK.out ham (by omega) hp')
            have hmb : 1 ≤ m ∧ m ≤ mo - a + 1 ∧ 0 ≤ e ∧ e ≤ 1000000 := by
              have := hp'.lo
              have := hp'.hi
              have hkp := k.nodes_pos
              by_cases q : (k.nodes : Int) ≤ mo - a ∧ (k.deep : Int) ≤ de - 1
              · have := (hp'.yes q.1 q.2).1
                omega
              · have := hp'.no q
                omega
            have hw3 : IntKind.i64.wrap (a + m) = a + m := by rw [IntKind.wrap_i64]; omega
            have HJ2 := hid (show ((j + 1 : Nat) : Int) ≤ a + m by omega)
            clear hb2 hp hp'
            by_cases hbe : b < e
            · rw [if_pos hbe] at HNX
              go_wp2
              go_roundw
              case rel => exact ⟨j + 1, _, _, by omega, rfl, rfl, by go_num, HJ2, HNX, B2⟩
              case measure => simp [intOf]; omega
            · rw [if_neg hbe] at HNX
              go_wp2
              go_roundw
              case rel => exact ⟨j + 1, _, _, by omega, rfl, rfl, by go_num, HJ2, HNX, B2⟩
              case measure => simp [intOf]; omega
          · have HF := hid (HI.out.fin (by omega) (Or.inr (by omega)))
            have hw4 : IntKind.i64.wrap (b + 1) = b + 1 := by rw [IntKind.wrap_i64]; omega
            go_wp2
            refine bodyPost_ret (v := .tuple #[.int .i64 a, .int .i64 (b + 1)]) (by simp [results, Tryz.results32, go_sem]) rfl ?_
            exact ⟨_, _, rfl, HF, HB.out.low⟩
        · have hkI : ¬ ((j : Int) < (n : Int)) := by omega
          have HF := hid (HI.out.fin (by omega) (Or.inl (by have := HN.out; omega)))
          have hw4 : IntKind.i64.wrap (b + 1) = b + 1 := by rw [IntKind.wrap_i64]; omega
          go_wp2
          refine bodyPost_ret (v := .tuple #[.int .i64 a, .int .i64 (b + 1)]) (by simp [results, Tryz.results32, go_sem]) rfl ?_
          exact ⟨_, _, rfl, HF, HB.out.low⟩
end Go.Proofs.YtagppgncanimaaaGreatDoor
namespace Go.Proofs.YtagppgncanimaaaGreatDoor
open Go.RowKit

theorem own_some {w : World} {B : Nat} {e : TypeId} {size : Nat} {v : Value} {n : Nat} {xs : List Value} (h : w.ownsRow B e size v n xs) (hn : 0 < n) : ∃ g cap, v = .slice (some ⟨g, 0, none⟩) n cap ∧ g < w.heap.size ∧ ∀ j u, xs[j]? = some u → w.cell? ⟨g, j, none⟩ = some u := by
  have hc := fun {g : Nat} (hg : v.ownBlock = some g) => h.cells hg
  have hlt := h.lt
  rcases h.2 with ⟨rfl, h0⟩ | ⟨g, cap, cur, rfl, _⟩
  · omega
  · refine ⟨g, cap, rfl, (hlt g rfl).2, fun j u hj => ?_⟩
    have := hc (g := g) rfl j u hj
    have ea : (⟨g, 0, none⟩ : Addr).add j = ⟨g, j, none⟩ := by simp [Addr.add]; intro h; exact h.symm
    rw [ea] at this
    exact this
/-- The lines of a row: where the row lies, where each line lies. -/
theorem LinesAt.at {w : World} {B : Nat} {v : Value} {ls : List (List Wo.Wd)} (h : LinesAt w B v ls) (h0 : 0 < ls.length) : ∃ g cap, v = .slice (some ⟨g, 0, none⟩) ls.length cap ∧ g < w.heap.size ∧
    ∀ (i : Nat) (x : List Wo.Wd), ls[i]? = some x → 0 < x.length → ∃ g2 cap2, g2 < w.heap.size ∧ w.cell? ⟨g, i, none⟩ = some (.slice (some ⟨g2, 0, none⟩) x.length cap2) ∧ ∀ j u, (flatW x)[j]? = some u → w.cell? ⟨g2, j, none⟩ = some u := by
  obtain ⟨vs, ho, hl, hi⟩ := h
  obtain ⟨g, cap, rfl, hg, hc⟩ := own_some ho h0
  refine ⟨g, cap, rfl, hg, fun i x hx hxl => ?_⟩
  obtain ⟨u, hu, hown⟩ := hi i x hx
  obtain ⟨g2, cap2, rfl, hg2, hc2⟩ := own_some hown hxl
  exact ⟨g2, cap2, hg2, hc i _ hu, hc2⟩

/-- The text of alive, its words; what alive says. -/
abbrev aText : List UInt8 := [97, 45, 62, 98, 32, 60, 61, 50]
abbrev aWords : List Wo.Wd := [([97], 1, 1), ([45, 62], 1, 2), ([98], 1, 4), ([60, 61], 1, 6), ([50], 1, 8)]
abbrev aSaid : List (List UInt8) := [[97], [98], [45, 62]]
theorem a_read : Wo.read aText = [aWords] ∧ Wo.faultL aText = 0 ∧ Wo.faultC aText = 0 ∧ Wo.err aText = 0 := by decide
theorem a_said : sayS aSaid = [97, 32, 98, 45, 62] ∧ sayE aSaid = 0 := by decide

theorem txs_three (w : World) : Txs (w.alloc (.cells #[.string (tx [97]), .string (tx [98]), .string (tx [45, 62])] 9)) (.slice (some ⟨w.heap.size, 0, none⟩) 3 3) aSaid := by
  refine ⟨_, 3, rfl, Or.inr ⟨w.heap.size, 0, rfl, by simp, fun i hi => ?_⟩⟩
  rw [cell_at (new_0 w _)]
  have : i = 0 ∨ i = 1 ∨ i = 2 := by simp at hi; omega
  rcases this with rfl | rfl | rfl <;> rfl

end Go.Proofs.YtagppgncanimaaaGreatDoor
namespace Go.Proofs.YtagppgncanimaaaGreatDoor
namespace Wo

def decF (n : Nat) (c : UInt8) : Nat := 10 * n + (c.toNat - 48)
def decN (l : List UInt8) : Nat := l.foldl decF 0
theorem decN_snoc (l : List UInt8) (c : UInt8) : decN (l ++ [c]) = 10 * decN l + (c.toNat - 48) := by simp [decN, decF]
theorem foldl_ge (t : List UInt8) (n : Nat) : n * 10 ^ t.length ≤ t.foldl decF n := by
  induction t generalizing n with
  | nil => simp
  | cons a t ih =>
    have := ih (decF n a)
    show _ ≤ t.foldl decF (decF n a)
    refine Nat.le_trans ?_ this
    have : n * 10 ≤ decF n a := by unfold decF; omega
    rw [List.length_cons, Nat.pow_succ, Nat.mul_comm (10 ^ t.length) 10, ← Nat.mul_assoc]
    exact Nat.mul_le_mul_right _ this
theorem decN_mono (l t : List UInt8) : decN l ≤ decN (l ++ t) := by
  unfold decN
  rw [List.foldl_append]
  have := foldl_ge t (l.foldl decF 0)
  exact Nat.le_trans (Nat.le_mul_of_pos_right _ (Nat.pow_pos (by omega))) this
def allD (l : List UInt8) : Bool := l.all fun c => dg c.toNat
/-- Is it a number? Its value; the error. -/
def numB (l : List UInt8) : Bool := decide (l ≠ [] ∧ (l.length ≤ 1 ∨ (l.headD 0).toNat ≠ 48) ∧ allD l = true ∧ decN l ≤ 2147483647)
def numV (l : List UInt8) : Nat := if numB l then decN l else 0
def numE (l : List UInt8) : Nat := if numB l then 0 else 32
theorem num_bad {l : List UInt8} (h : numB l = false) : numV l = 0 ∧ numE l = 32 := by unfold numV numE; rw [h]; exact ⟨rfl, rfl⟩
theorem num_good {l : List UInt8} (h : numB l = true) : numV l = decN l ∧ numE l = 0 := by unfold numV numE; rw [h]; exact ⟨rfl, rfl⟩
theorem num_long {l : List UInt8} (h : 10 < l.length) : numB l = false := by
  refine decide_eq_false ?_
  rintro ⟨h0, h1, h2, h3⟩
  cases l with
  | nil => exact h0 rfl
  | cons a t =>
    simp only [List.headD_cons, List.length_cons] at h1 h
    have ha : dg a.toNat = true := by unfold allD at h2; rw [List.all_cons, Bool.and_eq_true] at h2; exact h2.1
    have ha' := of_decide_eq_true ha
    have : decN (a :: t) = t.foldl decF (a.toNat - 48) := by simp [decN, decF]
    rw [this] at h3
    have h4 := foldl_ge t (a.toNat - 48)
    have h5 : 10 ^ 10 ≤ 10 ^ t.length := Nat.pow_le_pow_right (by omega) (by omega)
    have h6 : 1 * 10 ^ t.length ≤ (a.toNat - 48) * 10 ^ t.length := Nat.mul_le_mul_right _ (by omega)
    have h7 : (10 : Nat) ^ 10 = 10000000000 := by decide
    omega

theorem decN_lt (l : List UInt8) (h : allD l = true) : decN l < 10 ^ l.length := by
  have key : ∀ (t : List UInt8) (n : Nat), allD t = true → t.foldl decF n < (n + 1) * 10 ^ t.length := by
    intro t
    induction t with
    | nil => intro n _; simp
    | cons a t ih =>
      intro n ht
      unfold allD at ht
      rw [List.all_cons, Bool.and_eq_true] at ht
      have ha := of_decide_eq_true ht.1
      have h1 := ih (decF n a) ht.2
      show t.foldl decF (decF n a) < _
      have h2 : decF n a + 1 ≤ (n + 1) * 10 := by unfold decF; omega
      rw [List.length_cons, Nat.pow_succ, Nat.mul_comm (10 ^ t.length) 10, ← Nat.mul_assoc]
      exact Nat.lt_of_lt_of_le h1 (Nat.mul_le_mul_right _ h2)
  have := key l 0 h
  simpa [decN] using this
theorem decN_ten (l : List UInt8) (h : allD l = true) (h10 : l.length ≤ 10) : decN l ≤ 9999999999 := by
  have h1 := decN_lt l h
  have h2 : 10 ^ l.length ≤ 10 ^ 10 := Nat.pow_le_pow_right (by omega) h10
  have h3 : (10 : Nat) ^ 10 = 10000000000 := by decide
  omega

/-- Is it a name? -/
def nameB (l : List UInt8) : Bool := decide (l ≠ [] ∧ l.length ≤ 64 ∧ dg (l.headD 0).toNat = false ∧ (l.headD 0).toNat ≠ 45 ∧ (l.all fun c => ltr c.toNat) = true)
theorem lets_all (l : List UInt8) : lets l = l.length ↔ (l.all fun c => ltr c.toNat) = true := by
  induction l with
  | nil => simp [lets]
  | cons a t ih =>
    have eq2 : ((a :: t).all fun c => ltr c.toNat) = true ↔ ltr a.toNat = true ∧ (t.all fun c => ltr c.toNat) = true := by rw [List.all_cons, Bool.and_eq_true]
    rw [eq2, lets_cons]
    constructor
    · intro h
      split at h
      · rename_i hx
        simp only [Bool.and_eq_true] at hx
        exact ⟨hx.1, ih.1 (by simp only [List.length_cons] at h; omega)⟩
      · simp at h
    · rintro ⟨h1, h2⟩
      have ha : arr (a :: t) = false := by
        cases t with
        | nil => rfl
        | cons b t =>
          rw [List.all_cons, Bool.and_eq_true] at h2
          show (a.toNat == 45 && b.toNat == 62) = false
          have : (b.toNat == 62) = false := by
            rw [beq_eq_false_iff_ne]
            intro e
            have := h2.1
            rw [e] at this
            exact absurd this (by decide)
          rw [this]; simp
      rw [if_pos (by rw [h1, ha]; rfl), ih.2 h2]; rfl
end Wo
end Go.Proofs.YtagppgncanimaaaGreatDoor
