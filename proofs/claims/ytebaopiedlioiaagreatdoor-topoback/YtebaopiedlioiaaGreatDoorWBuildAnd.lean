/-
  Number: the document's own; the law WordsKinds.
  Sign, Name, Number: the document's own; the law WordsKinds.
  Names, numbers, signs: the document's own.
  Names, numbers, signs: the program's.
  alive: one line's words, three words said.
  Say: words one behind the other.
  strings.Builder in this program: a byte, a text put behind what is there; the text of it all.
-/
import Derived.Test.YtebaopiedlioiaaGreatDoorWSkipAnd
import Derived.Lib.AppendStr
import Derived.Test.YtebaopiedlioiaaGreatDoorWMathAnd
namespace Go.Proofs.YtebaopiedlioiaaGreatDoor
open Go.RowKit Go.Shelf

/-- A builder that the call has made, holding the bytes of l. -/
abbrev Bu (B b : Nat) (l : List UInt8) (w : World) : Prop := Lib.IsBuilder 131 5 B b (Lib.byteCells l) w
theorem Tryz.sizeB : (Tryz.prog.info? 131).map (·.size) = some 2 := by kernel_rfl
theorem Tryz.liesB : liesAt Tryz.prog Tryz.prog.depth 131 (2 / Tryz.prog.cellsOf 131) 0 131 1 = true := by kernel_rfl

set_option maxRecDepth 100000 in
set_option maxHeartbeats 1000000 in
theorem check_used (b : Nat) (w : World) (h0 : w.cell? ⟨b, 0, none⟩ = some (.pointer (some ⟨b, 0, none⟩))) :
    Calls Tryz.prog 144 #[.pointer (some ⟨b, 0, none⟩)] w fun e w' => e = .returned (.tuple #[]) ∧ w' = w := by
  obtain ⟨j, hj, _⟩ := Option.map_eq_some_iff.1 Tryz.sizeB
  have q : ∀ w : World, _ := fun w => Lib.run_neq_ptr_same (P := Tryz.prog) w ⟨b, 0, none⟩ Tryz.underlying129 hj
  clear hj
  go_enter Tryz.func144, Tryz.ntmps144
  go_wp2
  go_end0
  exact ⟨rfl, rfl⟩

set_option maxRecDepth 100000 in
set_option maxHeartbeats 1000000 in
theorem check_fresh (b : Nat) (w : World) (h0 : w.cell? ⟨b, 0, none⟩ = some (.pointer none)) (hsh : w.shape? b = some (131, 2)) (hfz : w.frozen? ⟨b, 0, none⟩ = false) :
    Calls Tryz.prog 144 #[.pointer (some ⟨b, 0, none⟩)] w fun e w' => e = .returned (.tuple #[]) ∧ w' = w.setCell ⟨b, 0, none⟩ (.pointer (some ⟨b, 0, none⟩)) := by
  obtain ⟨j, hj, hjs⟩ := Option.map_eq_some_iff.1 Tryz.sizeB
  have q1 := Lib.run_to_unsafe (P := Tryz.prog) w ⟨b, 0, none⟩ Tryz.underlying129 Tryz.underlying216 hj (by rw [hjs]; decide) hsh (Nat.zero_lt_succ 1)
  have q2 := Lib.run_from_unsafe (P := Tryz.prog) w ⟨b, 0, none⟩ Tryz.underlying216 Tryz.underlying129 hj hsh Tryz.liesB
  have q3 : ∀ w : World, (callFunc 180 #[.pointer (some ⟨b, 0, none⟩)]).run Tryz.prog w = .ok (.value (.pointer (some ⟨b, 0, none⟩))) w := fun w => by
    rw [run_callFunc_extern Tryz.func180 (by kernel_rfl) (by kernel_rfl) (by kernel_rfl) (e := Extern.AbiNoEscape.same) (by kernel_rfl), Lib.run_noEscape]
    rfl
  have q : ∀ w : World, _ := fun w => Lib.run_neq_ptr_same (P := Tryz.prog) w ⟨b, 0, none⟩ Tryz.underlying129 hj
  clear hj hjs
  go_enter Tryz.func144, Tryz.ntmps144
  go_wp2
  go_end0
  exact ⟨rfl, rfl⟩

theorem check_any (B b : Nat) (l : List UInt8) (w : World) (h : Bu B b l w) :
    Calls Tryz.prog 144 #[.pointer (some ⟨b, 0, none⟩)] w fun e w' => e = .returned (.tuple #[]) ∧ Lib.BuilderAt 131 5 B b (.pointer (some ⟨b, 0, none⟩)) (Lib.byteCells l) w' ∧ Below B w w' := by
  rcases h with h | h
  · refine (check_fresh b w h.cell0 h.shape h.frozen0).mono ?_
    rintro e w' ⟨rfl, rfl⟩
    exact ⟨rfl, h.used _, (Below.refl B w).setCell (p := ⟨b, 0, none⟩) h.1 _⟩
  · refine (check_used b w h.cell0).mono ?_
    rintro e w' ⟨rfl, rfl⟩
    exact ⟨rfl, h, Below.refl B _⟩

/-- What a walk wants to know of a builder that has been written to. -/
theorem bu_cells {B b : Nat} {p : Value} {bs : List Value} {w : World} (h : Lib.BuilderAt 131 5 B b p bs w) : ∃ ao cap, w.cell? ⟨b, 1, none⟩ = some (.slice ao bs.length cap) ∧ w.frozen? ⟨b, 1, none⟩ = false ∧ w.heap[b]? = some (.cells #[p, .slice ao bs.length cap] 131 (0, 0)) ∧
    w.ownsRow B 5 1 (.slice ao bs.length cap) bs.length bs ∧ B ≤ b := by
  obtain ⟨hB, v, hbk, hown, _⟩ := h
  obtain ⟨ao, cap, rfl⟩ := own_form hown
  exact ⟨ao, cap, cell_at hbk, free_of hbk, hbk, hown, hB⟩
theorem bu_put {B b : Nat} {p : Value} {bs ys : List Value} {ao : Option Addr} {cap : Nat} {v' : Value} {w w2 : World} {o : Obj} (hbk : w.heap[b]? = some (.cells #[p, .slice ao bs.length cap] 131 (0, 0))) (hown : w.ownsRow B 5 1 (.slice ao bs.length cap) bs.length bs) (hB : B ≤ b)
    (hown2 : w2.ownsRow B 5 1 v' (bs.length + ys.length) (bs ++ ys)) (hg : (w.alloc o).grownBy w2 (Value.slice ao bs.length cap).ownBlock) :
    w2.heap[b]? = some (.cells #[p, .slice ao bs.length cap] 131 (0, 0)) ∧ Lib.BuilderAt 131 5 B b p (bs ++ ys) (w2.setCell ⟨b, 1, none⟩ v') ∧ (B ≤ w.heap.size → Below B w (w2.setCell ⟨b, 1, none⟩ v')) := by
  have hb2 := kept_block hg hown hbk (by decide)
  refine ⟨hb2, ?_, fun hBw => ?_⟩
  · exact Lib.BuilderAt.put hB hb2 (by rw [List.length_append]; exact hown2) (by decide)
  · have b1 : Below B w (w.alloc o) := (Below.refl _ _).alloc hBw _
    exact (b1.grown hg (Nat.le_trans hBw b1.size) (fun k hk => (hown.lt k hk).1) |>.setCell (p := ⟨b, 1, none⟩) hB _)

set_option maxRecDepth 100000 in
set_option maxHeartbeats 1000000 in
theorem WriteByte_any (B b : Nat) (l : List UInt8) (c : UInt8) (w : World) (h : Bu B b l w) (hl : l.length ≤ 1073741824) (hB : B ≤ w.heap.size) :
    Calls Tryz.prog 105 #[.pointer (some ⟨b, 0, none⟩), bv c] w fun e w' => e = .returned .nilIface ∧ Hid (Bu B b (l ++ [c]) w') ∧ Below B w w' := by
  obtain ⟨i0, hi, hz0, hz1, hz2⟩ := info_parts Tryz.infoU8
  have HI := hid hi
  have HZ0 := hid hz0
  have HZ1 := hid hz1
  have HZ2 := hid hz2
  clear hi hz0 hz1 hz2
  go_enter Tryz.func105, Tryz.ntmps105
  go_wp2_with fail
  refine (check_any B b l w h).mono ?_
  rintro e w1 ⟨rfl, h1, hb1⟩
  obtain ⟨ao, cap, c1, f1, hbk, hown, hBb⟩ := bu_cells h1
  have HBK := hid hbk
  have HOWN := hid hown
  have hs1 := hb1.size
  obtain ⟨m, hm⟩ : ∃ m, m = (Lib.byteCells l).length := ⟨_, rfl⟩
  have HM := hid hm
  rw [← hm] at c1 hbk
  have hml : m ≤ 1073741824 := by rw [hm, Lib.byteCells_length]; exact hl
  clear hbk hown hm h1 h
  go_wp2_with (first | (at_builtin; refine wpList_append_own_at _ rfl _ _ 87 rfl B 5 i0 (.int .u8 0) 1 1 Tryz.underlying87 HI.out HZ0.out HZ1.out HZ2.out rfl (by decide) (.slice ao m cap) m (Lib.byteCells l) rfl (by rw [HM.out]; exact HOWN.out.alloc _) ⟨w1.heap.size, 0, none⟩ 1 1 [bv c] rfl rfl (new_cells _ #[bv c] _ _ rfl) ?c2 ?c3 ?c4 ?c5 ?_))
  case c2 => simp [Value.oneCell']
  case c3 => unfold maxLen; omega
  case c4 => omega
  case c5 => simp; omega
  intro v' w2 hown2 hg2 _ _
  obtain ⟨a2, cap2, rfl⟩ := own_form hown2
  rw [HM.out] at hown2 hg2
  obtain ⟨hb2, hat, hbel⟩ := bu_put HBK.out HOWN.out hBb (ys := [bv c]) hown2 hg2
  have d1 := cell_at (o := 1) hb2
  have g1 := free_of (o := 1) hb2
  have HAT := hid hat
  have HBEL := hid (hbel (by omega))
  clear hb2 hat hbel hown2 hg2
  go_wp2
  go_ret
  rw [HM.out]
  refine ⟨rfl, ?_, hb1.trans HBEL.out⟩
  show Bu B b (l ++ [c]) _
  rw [Bu, Lib.byteCells_append]
  exact Or.inr HAT.out

theorem bu_put' {B b : Nat} {p : Value} {bs ys : List Value} {ao : Option Addr} {cap : Nat} {v' : Value} {w w2 : World} (hbk : w.heap[b]? = some (.cells #[p, .slice ao bs.length cap] 131 (0, 0))) (hown : w.ownsRow B 5 1 (.slice ao bs.length cap) bs.length bs) (hB : B ≤ b)
    (hown2 : w2.ownsRow B 5 1 v' (bs.length + ys.length) (bs ++ ys)) (hg : w.grownBy w2 (Value.slice ao bs.length cap).ownBlock) :
    w2.heap[b]? = some (.cells #[p, .slice ao bs.length cap] 131 (0, 0)) ∧ Lib.BuilderAt 131 5 B b p (bs ++ ys) (w2.setCell ⟨b, 1, none⟩ v') ∧ (B ≤ w.heap.size → Below B w (w2.setCell ⟨b, 1, none⟩ v')) := by
  have hb2 := (hg.block b (lt_of_block hbk) (fun q => own_ne hown hbk (by decide) q.symm)).trans hbk
  refine ⟨hb2, ?_, fun hBw => ?_⟩
  · exact Lib.BuilderAt.put hB hb2 (by rw [List.length_append]; exact hown2) (by decide)
  · exact ((Below.refl _ _).grown hg hBw (fun k hk => (hown.lt k hk).1) |>.setCell (p := ⟨b, 1, none⟩) hB _)

set_option maxRecDepth 100000 in
set_option maxHeartbeats 1000000 in
theorem WriteString_any (B b : Nat) (l t : List UInt8) (w : World) (h : Bu B b l w) (hl : l.length ≤ 1073741824) (ht : t.length ≤ 1073741824) (hB : B ≤ w.heap.size) :
    Calls Tryz.prog 104 #[.pointer (some ⟨b, 0, none⟩), .string (tx t)] w fun e w' => e = .returned (.tuple #[.int .i64 t.length, .nilIface]) ∧ Hid (Bu B b (l ++ t) w') ∧ Below B w w' := by
  obtain ⟨i0, hi, hz0, hz1, hz2⟩ := info_parts Tryz.infoU8
  have HI := hid hi
  have HZ0 := hid hz0
  have HZ1 := hid hz1
  have HZ2 := hid hz2
  clear hi hz0 hz1 hz2
  go_enter Tryz.func104, Tryz.ntmps104
  go_wp2_with fail
  refine (check_any B b l w h).mono ?_
  rintro e w1 ⟨rfl, h1, hb1⟩
  obtain ⟨ao, cap, c1, f1, hbk, hown, hBb⟩ := bu_cells h1
  have HBK := hid hbk
  have HOWN := hid hown
  have hs1 := hb1.size
  obtain ⟨m, hm⟩ : ∃ m, m = (Lib.byteCells l).length := ⟨_, rfl⟩
  have HM := hid hm
  rw [← hm] at c1 hbk
  have hml : m ≤ 1073741824 := by rw [hm, Lib.byteCells_length]; exact hl
  have htz : (tx t).size ≤ 1073741824 := by rw [tx_size]; exact ht
  clear hbk hown hm h1 h
  go_wp2_with (first | (at_builtin; refine Lib.wpList_append_own_string _ rfl _ _ 87 9 rfl B 5 i0 Tryz.underlying87 Tryz.underlying9 HI.out HZ0.out HZ1.out HZ2.out (.slice ao m cap) m (Lib.byteCells l) rfl (by rw [HM.out]; exact HOWN.out) (tx t) rfl ?c3 ?c4 ?c5 ?_))
  case c3 => unfold maxLen; omega
  case c4 => omega
  case c5 => omega
  intro v' w2 hown2 hg2 _
  obtain ⟨a2, cap2, rfl⟩ := own_form hown2
  rw [HM.out] at hown2 hg2
  have hys : (Lib.strCells (tx t)).length = (tx t).size := by rw [Lib.strCells_eq, Lib.byteCells_length, list_size]
  obtain ⟨hb2, hat, hbel⟩ := bu_put' HBK.out HOWN.out hBb (ys := Lib.strCells (tx t)) (by rw [hys]; exact hown2) hg2
  have d1 := cell_at (o := 1) hb2
  have g1 := free_of (o := 1) hb2
  have HAT := hid hat
  have HBEL := hid (hbel (by omega))
  clear hb2 hat hbel hown2 hg2 hys
  go_wp2
  go_ret2
  rw [HM.out]
  refine ⟨rfl, ?_, hb1.trans HBEL.out⟩
  show Bu B b (l ++ t) _
  rw [Bu, Lib.byteCells_append]
  exact Or.inr HAT.out

theorem Tryz.extraStr : Builder.Extra Tryz.prog Tryz.laysStr_ren := {
  sizeBuilder := by kernel_rfl
  liesBuilder := by kernel_rfl
  t5 := Tryz.underlying5
  a5 := Tryz.isAgg5
  z5 := Tryz.sizeOf5
  v5 := Tryz.zeroValue5
  infoByte := by kernel_rfl
  cellsByte := by kernel_rfl
  sizeByte := by kernel_rfl
  neB5 := by decide }
theorem Tryz.fStr : Tryz.laysStr_ren.f 169 = 70 := by kernel_rfl
theorem String_any (B b : Nat) (l : List UInt8) (w : World) (h : Bu B b l w) (hB : B ≤ w.heap.size) :
    Calls Tryz.prog 70 #[.pointer (some ⟨b, 0, none⟩)] w fun e w' => e = .returned (.string (tx l)) ∧ Below B w w' := by
  have q := Any.Builder_String_any Tryz.laysStr Tryz.extraStr B b l w h hB
  rw [Tryz.fStr] at q
  exact q
end Go.Proofs.YtebaopiedlioiaaGreatDoor
namespace Go.Proofs.YtebaopiedlioiaaGreatDoor
open Go.RowKit

/-- A slice of texts, wherever it lies; nil and empty ones too. -/
def Txs (w : World) (v : Value) (ls : List (List UInt8)) : Prop :=
  ∃ ao cap, v = .slice ao ls.length cap ∧ (ls = [] ∨ ∃ g o, ao = some ⟨g, o, none⟩ ∧ g < w.heap.size ∧ ∀ i, i < ls.length → w.cell? ⟨g, o + i, none⟩ = some (.string (tx (ls.getD i []))))
theorem Txs.nil (w : World) (cap : Nat) (ao : Option Addr) : Txs w (.slice ao 0 cap) [] := ⟨ao, cap, rfl, Or.inl rfl⟩
theorem Txs.below {w w' : World} {v : Value} {ls : List (List UInt8)} (h : Txs w v ls) (hb : Below w.heap.size w w') : Txs w' v ls := by
  obtain ⟨ao, cap, e, hr⟩ := h
  refine ⟨ao, cap, e, ?_⟩
  rcases hr with hr | ⟨g, o, ea, hg, hc⟩
  · exact Or.inl hr
  · exact Or.inr ⟨g, o, ea, Nat.lt_of_lt_of_le hg hb.size, fun i hi => by rw [hb.cell (by show g < w.heap.size; omega)]; exact hc i hi⟩

theorem sayTo_len (ls : List (List UInt8)) (h : ∀ l ∈ ls, l.length ≤ 4000) (k : Nat) : (Wo.sayTo ls k).length ≤ 4001 * k := by
  induction k with
  | zero => simp [Wo.sayTo]
  | succ k ih =>
    have hk : (ls.getD k []).length ≤ 4000 := by
      by_cases hk : k < ls.length
      · rw [List.getD_eq_getElem?_getD, List.getElem?_eq_getElem hk]
        exact h _ (List.getElem_mem hk)
      · rw [List.getD_eq_getElem?_getD, List.getElem?_eq_none (by omega)]; simp
    unfold Wo.sayTo
    split <;> simp only [List.length_append, List.length_cons, List.length_nil] <;> omega
theorem getD_len (ls : List (List UInt8)) (h : ∀ l ∈ ls, l.length ≤ 4000) (k : Nat) : (ls.getD k []).length ≤ 4000 := by
  by_cases hk : k < ls.length
  · rw [List.getD_eq_getElem?_getD, List.getElem?_eq_getElem hk]
    exact h _ (List.getElem_mem hk)
  · rw [List.getD_eq_getElem?_getD, List.getElem?_eq_none (by omega)]; simp

/-- Are all of them words? -/
def allW (ls : List (List UInt8)) : Bool := ls.all Wo.isW
theorem allW_getD {ls : List (List UInt8)} : allW ls = true ↔ ∀ i, i < ls.length → Wo.isW (ls.getD i []) = true := by
  unfold allW
  rw [List.all_eq_true]
  constructor
  · intro h i hi
    rw [List.getD_eq_getElem?_getD, List.getElem?_eq_getElem hi]
    exact h _ (List.getElem_mem hi)
  · intro h x hx
    obtain ⟨i, hi, rfl⟩ := List.mem_iff_getElem.1 hx
    have := h i hi
    rw [List.getD_eq_getElem?_getD, List.getElem?_eq_getElem hi] at this
    exact this
/-- What is said; the error. -/
def sayS (ls : List (List UInt8)) : List UInt8 := if allW ls then Wo.sayL ls else []
def sayE (ls : List (List UInt8)) : Nat := if allW ls then 0 else 31

set_option maxHeartbeats 1000000 in
theorem Say_none (ao : Option Addr) (cap : Nat) (w : World) : Calls Tryz.prog 103 #[.slice ao 0 cap] w fun e w' => e = .returned (.tuple #[.string (tx []), .int .i64 0]) ∧ Below w.heap.size w w' := by
  have hf := Lib.fresh_isBuilder 131 5 w
  go_enter Tryz.func103, Tryz.ntmps103
  go_wp2
  refine wp_loop_rounds 1 ?_
  rw [rounds_succ]
  go_wp2_with (go_at_call 70; refine (String_any w.heap.size w.heap.size [] _ hf (by simp)).mono ?_; rintro e w1 ⟨rfl, hb1⟩)
  go_ret2
  exact ⟨rfl, ((Below.refl _ _).alloc (Nat.le_refl _) _).trans hb1⟩

set_option maxRecDepth 4000 in
set_option maxHeartbeats 2000000 in
theorem Say_some (ls : List (List UInt8)) (g o cap : Nat) (w : World) (hg : g < w.heap.size) (hc : ∀ i, i < ls.length → w.cell? ⟨g, o + i, none⟩ = some (.string (tx (ls.getD i [])))) (hn : ls.length ≤ 100000) (h4 : ∀ l ∈ ls, l.length ≤ 4000) :
    Calls Tryz.prog 103 #[.slice (some ⟨g, o, none⟩) ls.length cap] w fun e w' => e = .returned (.tuple #[.string (tx (sayS ls)), .int .i64 (sayE ls)]) ∧ Below w.heap.size w w' := by
  have HC := hid hc
  have H4 := hid h4
  clear hc h4
  obtain ⟨n, hnn⟩ : ∃ n, n = ls.length := ⟨_, rfl⟩
  have HN := hid hnn
  rw [← hnn] at hn ⊢
  clear hnn
  have hf := hid (Lib.fresh_isBuilder 131 5 w)
  go_enter Tryz.func103, Tryz.ntmps103
  go_wp2
  go_loopw [9] (fun i wr => ∃ k : Nat, k ≤ n ∧ i = .int .i64 k ∧ Hid (Bu w.heap.size w.heap.size (Wo.sayTo ls k) wr) ∧ Hid (∀ j, j < k → Wo.isW (ls.getD j []) = true) ∧ Hid (Below w.heap.size w wr)) (fun i _ => n - (intOf i).toNat)
  case atStart => exact ⟨0, Nat.zero_le _, rfl, hf, fun j hj => absurd hj (Nat.not_lt_zero j), (Below.refl _ _).alloc (Nat.le_refl _) _⟩
  case round =>
    obtain ⟨k, hk, rfl, HB, HW, HL⟩ := hrel
    have hsz := HL.out.size
    by_cases hlt : k < n
    · have ck : wr.cell? ⟨g, o + k, none⟩ = some (.string (tx (ls.getD k []))) := by rw [HL.out.cell (by exact hg)]; exact HC.out k (by rw [← HN.out]; exact hlt)
      obtain ⟨x, hx⟩ : ∃ x, x = ls.getD k [] := ⟨_, rfl⟩
      have hxl := getD_len ls H4.out k
      rw [← hx] at ck hxl
      have HX := hid hx
      clear hx
      have hkI : (0 : Int) ≤ (k : Int) := by omega
      have hkI2 : (k : Int) < (n : Int) := by omega
      have hsl := sayTo_len ls H4.out k
      rcases bool_two (Wo.isW x) with h1 | h1
      · have q : ∀ w, Calls Tryz.prog 142 #[.string (tx x)] w fun e w' => e = .returned (.bool false) ∧ w' = w := fun w => by
          have := isWord_any (tx x) w (by rw [tx_size]; unfold maxLen; omega)
          rw [show (tx x).data.toList = x from rfl, h1] at this; exact this
        have HE := hid (show allW ls = false by
          cases hq : allW ls with
          | false => rfl
          | true => have := allW_getD.1 hq k (by rw [← HN.out]; exact hlt); rw [← HX.out, h1] at this; exact absurd this (by simp))
        clear h1
        go_wp2_with (go_at_call 142; refine (q _).mono ?_; rintro e w' ⟨rfl, rfl⟩)
        go_ret2
        refine ⟨?_, HL.out⟩
        unfold sayS sayE
        rw [HE.out]; rfl
      · have q : ∀ w, Calls Tryz.prog 142 #[.string (tx x)] w fun e w' => e = .returned (.bool true) ∧ w' = w := fun w => by
          have := isWord_any (tx x) w (by rw [tx_size]; unfold maxLen; omega)
          rw [show (tx x).data.toList = x from rfl, h1] at this; exact this
        have HW2 := hid (show ∀ j, j < k + 1 → Wo.isW (ls.getD j []) = true from fun j hj => by
          by_cases e : j = k
          · rw [e, ← HX.out]; exact h1
          · exact HW.out j (by omega))
        clear h1
        by_cases hk0 : 0 < k
        · obtain ⟨y, hy⟩ : ∃ y, y = ls.getD (k - 1) [] := ⟨_, rfl⟩
          have cy : wr.cell? ⟨g, o + (k - 1), none⟩ = some (.string (tx y)) := by
            rw [HL.out.cell (by exact hg), hy]
            exact HC.out (k - 1) (by rw [← HN.out]; omega)
          have hyl := getD_len ls H4.out (k - 1)
          rw [← hy] at hyl
          have hp1 : (0 : Int) ≤ (k : Int) - 1 := by omega
          have hp2 : (k : Int) - 1 < (n : Int) := by omega
          have hk0I : (0 : Int) < (k : Int) := by omega
          have HY := hid hy
          clear hy
          rcases bool_two (Wo.glue y x) with h2 | h2
          · have q2 : ∀ w, Calls Tryz.prog 143 #[.string (tx y), .string (tx x)] w fun e w' => e = .returned (.bool true) ∧ w' = w := fun w => by
              have := mayTouch_any (tx y) (tx x) w (by rw [tx_size, tx_size]; unfold maxLen; omega)
              rw [show (tx x).data.toList = x from rfl, show (tx y).data.toList = y from rfl, h2] at this; exact this
            have HE0 := hid (show Wo.sayTo ls (k + 1) = Wo.sayTo ls k ++ x by
              show Wo.sayTo ls k ++ (if 0 < k ∧ Wo.glue (ls.getD (k - 1) []) (ls.getD k []) = true then [32] else []) ++ ls.getD k [] = _
              rw [← HX.out, ← HY.out, h2, if_neg (by simp)]; simp)
            clear h2
            go_wp2_with (first | (go_at_call 142; refine (q _).mono ?_; rintro e w' ⟨rfl, rfl⟩) | (go_at_call 143; refine (q2 _).mono ?_; rintro e w' ⟨rfl, rfl⟩) | (go_at_call 104; refine (WriteString_any w.heap.size w.heap.size (Wo.sayTo ls k) x _ HB.out (by omega) (by omega) (by omega)).mono ?_; rintro e w2 ⟨rfl, HB2, hb2⟩))
            go_roundw
            case rel => exact ⟨k + 1, by omega, by go_num, by show Bu _ _ _ _; rw [HE0.out]; exact HB2.out, HW2, HL.out.trans hb2⟩
            case measure => simp [intOf]; omega
          · have q2 : ∀ w, Calls Tryz.prog 143 #[.string (tx y), .string (tx x)] w fun e w' => e = .returned (.bool false) ∧ w' = w := fun w => by
              have := mayTouch_any (tx y) (tx x) w (by rw [tx_size, tx_size]; unfold maxLen; omega)
              rw [show (tx x).data.toList = x from rfl, show (tx y).data.toList = y from rfl, h2] at this; exact this
            have HE0 := hid (show Wo.sayTo ls (k + 1) = (Wo.sayTo ls k ++ [32]) ++ x by
              show Wo.sayTo ls k ++ (if 0 < k ∧ Wo.glue (ls.getD (k - 1) []) (ls.getD k []) = true then [32] else []) ++ ls.getD k [] = _
              rw [← HX.out, ← HY.out, h2, if_pos ⟨hk0, rfl⟩])
            clear h2
            have hw2l : (Wo.sayTo ls k ++ [32]).length ≤ 1073741824 := by simp only [List.length_append, List.length_cons, List.length_nil]; omega
            go_wp2_with (first | (go_at_call 142; refine (q _).mono ?_; rintro e w' ⟨rfl, rfl⟩) | (go_at_call 143; refine (q2 _).mono ?_; rintro e w' ⟨rfl, rfl⟩) | (go_at_call 104; refine (WriteString_any w.heap.size w.heap.size (Wo.sayTo ls k ++ [32]) x _ HB1.out hw2l (by omega) (by omega)).mono ?_; rintro e w2 ⟨rfl, HB2, hb2⟩) | (go_at_call 105; refine (WriteByte_any w.heap.size w.heap.size (Wo.sayTo ls k) 32 _ HB.out (by omega) (by omega)).mono ?_; rintro e w1 ⟨rfl, HB1, hb1⟩; have hs1 := hb1.size))
            go_roundw
            case rel => exact ⟨k + 1, by omega, by go_num, by show Bu _ _ _ _; rw [HE0.out]; exact HB2.out, HW2, HL.out.trans (hb1.trans hb2)⟩
            case measure => simp [intOf]; omega
        · have HE0 := hid (show Wo.sayTo ls (k + 1) = Wo.sayTo ls k ++ x by
            show Wo.sayTo ls k ++ (if 0 < k ∧ Wo.glue (ls.getD (k - 1) []) (ls.getD k []) = true then [32] else []) ++ ls.getD k [] = _
            rw [← HX.out, if_neg (by omega)]; simp)
          have hk0I : decide ((0 : Int) < (k : Int)) = false := decide_eq_false (by omega)
          go_wp2_with (first | (go_at_call 142; refine (q _).mono ?_; rintro e w' ⟨rfl, rfl⟩) | (go_at_call 104; refine (WriteString_any w.heap.size w.heap.size (Wo.sayTo ls k) x _ HB.out (by omega) (by omega) (by omega)).mono ?_; rintro e w2 ⟨rfl, HB2, hb2⟩))
          go_roundw
          case rel => exact ⟨k + 1, by omega, by go_num, by show Bu _ _ _ _; rw [HE0.out]; exact HB2.out, HW2, HL.out.trans hb2⟩
          case measure => simp [intOf]; omega
    · have hkn : k = n := by omega
      have HE := hid (show allW ls = true from allW_getD.2 (fun i hi => HW.out i (by rw [← HN.out] at hi; omega)))
      have HS := hid (show Wo.sayTo ls k = Wo.sayL ls by rw [hkn, HN.out]; exact Wo.sayTo_all ls)
      clear hkn
      go_wp2_with (go_at_call 70; refine (String_any w.heap.size w.heap.size (Wo.sayTo ls k) _ HB.out (by omega)).mono ?_; rintro e w1 ⟨rfl, hb1⟩)
      go_ret2
      refine ⟨?_, HL.out.trans hb1⟩
      unfold sayS sayE
      rw [HE.out, if_pos rfl, if_pos rfl, ← HS.out]
      rfl

theorem Say_any (v : Value) (ls : List (List UInt8)) (w : World) (h : Txs w v ls) (hn : ls.length ≤ 60) (h4 : ∀ l ∈ ls, l.length ≤ 4000) :
    Calls Tryz.prog 103 #[v] w fun e w' => e = .returned (.tuple #[.string (tx (sayS ls)), .int .i64 (sayE ls)]) ∧ Below w.heap.size w w' := by
  obtain ⟨ao, cap, rfl, hr⟩ := h
  rcases hr with rfl | ⟨g, o, rfl, hg, hc⟩
  · exact Say_none ao cap w
  · exact Say_some ls g o cap w hg hc (by omega) h4
theorem Say_anyX (v : Value) (ls : List (List UInt8)) (w : World) (h : Txs w v ls) (hn : ls.length ≤ 100000) (h4 : ∀ l ∈ ls, l.length ≤ 4000) :
    Calls Tryz.prog 103 #[v] w fun e w' => e = .returned (.tuple #[.string (tx (sayS ls)), .int .i64 (sayE ls)]) ∧ Below w.heap.size w w' := by
  obtain ⟨ao, cap, rfl, hr⟩ := h
  rcases hr with rfl | ⟨g, o, rfl, hg, hc⟩
  · exact Say_none ao cap w
  · exact Say_some ls g o cap w hg hc hn h4
end Go.Proofs.YtebaopiedlioiaaGreatDoor
namespace Go.Proofs.YtebaopiedlioiaaGreatDoor
open Go.RowKit

theorem own_some {w : World} {B : Nat} {e : TypeId} {size : Nat} {v : Value} {n : Nat} {xs : List Value} (h : w.ownsRow B e size v n xs) (hn : 0 < n) : ∃ g cap, v = .slice (some ⟨g, 0, none⟩) n cap ∧ g < w.heap.size ∧ ∀ j u, xs[j]? = some u → w.cell? ⟨g, j, none⟩ = some u := by
  have hc := fun {g : Nat} (hg : v.ownBlock = some g) => h.cells hg
  have hlt := h.lt
  rcases h.2 with ⟨rfl, h0⟩ | ⟨g, cap, cur, rfl, _⟩
  · omega
  · refine ⟨g, cap, rfl, (hlt g rfl).2, fun j u hj => ?_⟩
    have := hc (g := g) rfl j u hj
    have ea : (⟨g, 0, none⟩ : Addr).add j = ⟨g, j, none⟩ := by simp [Addr.add]; intro h; exact h.symm
    rw [ea] at this
    exact this
/-- The lines of a row: where the row lies, where each line lies. -/
theorem LinesAt.at {w : World} {B : Nat} {v : Value} {ls : List (List Wo.Wd)} (h : LinesAt w B v ls) (h0 : 0 < ls.length) : ∃ g cap, v = .slice (some ⟨g, 0, none⟩) ls.length cap ∧ g < w.heap.size ∧
    ∀ (i : Nat) (x : List Wo.Wd), ls[i]? = some x → 0 < x.length → ∃ g2 cap2, g2 < w.heap.size ∧ w.cell? ⟨g, i, none⟩ = some (.slice (some ⟨g2, 0, none⟩) x.length cap2) ∧ ∀ j u, (flatW x)[j]? = some u → w.cell? ⟨g2, j, none⟩ = some u := by
  obtain ⟨vs, ho, hl, hi⟩ := h
  obtain ⟨g, cap, rfl, hg, hc⟩ := own_some ho h0
  refine ⟨g, cap, rfl, hg, fun i x hx hxl => ?_⟩
  obtain ⟨u, hu, hown⟩ := hi i x hx
  obtain ⟨g2, cap2, rfl, hg2, hc2⟩ := own_some hown hxl
  exact ⟨g2, cap2, hg2, hc i _ hu, hc2⟩

/-- The text of alive, its words; what alive says. -/
abbrev aText : List UInt8 := [97, 45, 62, 98, 32, 60, 61, 50]
abbrev aWords : List Wo.Wd := [([97], 1, 1), ([45, 62], 1, 2), ([98], 1, 4), ([60, 61], 1, 6), ([50], 1, 8)]
abbrev aSaid : List (List UInt8) := [[97], [98], [45, 62]]
theorem a_read : Wo.read aText = [aWords] ∧ Wo.faultL aText = 0 ∧ Wo.faultC aText = 0 ∧ Wo.err aText = 0 := by decide
theorem a_said : sayS aSaid = [97, 32, 98, 45, 62] ∧ sayE aSaid = 0 := by decide

theorem txs_three (w : World) : Txs (w.alloc (.cells #[.string (tx [97]), .string (tx [98]), .string (tx [45, 62])] 9)) (.slice (some ⟨w.heap.size, 0, none⟩) 3 3) aSaid := by
  refine ⟨_, 3, rfl, Or.inr ⟨w.heap.size, 0, rfl, by simp, fun i hi => ?_⟩⟩
  rw [cell_at (new_0 w _)]
  have : i = 0 ∨ i = 1 ∨ i = 2 := by simp at hi; omega
  rcases this with rfl | rfl | rfl <;> rfl

end Go.Proofs.YtebaopiedlioiaaGreatDoor
namespace Go.Proofs.YtebaopiedlioiaaGreatDoor
open Go.RowKit

theorem headD_at (s : ByteArray) (h : 0 < s.size) : s.data.toList.headD 0 = s[0] := by
  have := drop_at s 0 h
  rw [List.drop_zero] at this
  rw [this]; rfl
theorem take_snoc (s : ByteArray) (k : Nat) (h : k < s.size) : s.data.toList.take (k + 1) = s.data.toList.take k ++ [s[k]] := by
  rw [List.take_succ_eq_append_getElem (by simpa using h)]; rfl
theorem take_all (s : ByteArray) {k : Nat} (h : s.size ≤ k) : s.data.toList.take k = s.data.toList := List.take_of_length_le (by rw [list_size]; exact h)

set_option maxHeartbeats 1000000 in
theorem Name_any (s : ByteArray) (w : World) (hs : s.size ≤ maxLen) : Calls Tryz.prog 109 #[.string s] w fun e w' => e = .returned (.bool (Wo.nameB s.data.toList)) ∧ w' = w := by
  by_cases h0 : s.size = 0
  · have HI := hid (show Wo.nameB s.data.toList = false by rw [empty_of_size h0]; rfl)
    have hn : (s.toList == []) = true := by rw [toList_nil, h0]; rfl
    clear h0
    go_enter Tryz.func109, Tryz.ntmps109
    go_wp2
    go_ret
    exact ⟨ret_bool HI.out.symm, rfl⟩
  · have hn : (s.toList == []) = false := by rw [toList_nil]; exact decide_eq_false h0
    have hp : 0 < s.size := by omega
    have hh := headD_at s hp
    have hne : s.data.toList ≠ [] := fun e => h0 (by rw [Lib.size_eq, e]; rfl)
    by_cases h64 : 64 < s.size
    · have HI := hid (show Wo.nameB s.data.toList = false from decide_eq_false (fun h => by have := h.2.1; rw [list_size] at this; omega))
      have hI : (64 : Int) < (s.size : Int) := by omega
      clear h0 hh hne
      go_enter Tryz.func109, Tryz.ntmps109
      go_wp2
      go_ret
      exact ⟨ret_bool HI.out.symm, rfl⟩
    · have hI : decide ((64 : Int) < (s.size : Int)) = false := decide_eq_false (by omega)
      rcases bool_two (Wo.dg (s[0]'hp).toNat) with h1 | h1
      · have q : ∀ w, Calls Tryz.prog 149 #[bv (s[0]'hp)] w fun e w' => e = .returned (.bool false) ∧ w' = w := fun w => h1 ▸ digit_any (s[0]'hp) w
        by_cases h45 : (s[0]'hp).toNat = 45
        · have HI := hid (show Wo.nameB s.data.toList = false from decide_eq_false (fun h => by have := h.2.2.2.1; rw [hh] at this; exact this h45))
          have hc : (((s[0]'hp).toNat : Int) == 45) = true := by rw [beq_iff_eq]; omega
          clear h0 hh hne h1 h45
          go_enter Tryz.func109, Tryz.ntmps109
          go_wp2_with (go_at_call 149; refine (q _).mono ?_; rintro e w' ⟨rfl, rfl⟩)
          go_ret
          exact ⟨ret_bool HI.out.symm, rfl⟩
        · have hc : (((s[0]'hp).toNat : Int) == 45) = false := by rw [beq_eq_false_iff_ne]; omega
          have HI := hid (show Wo.nameB s.data.toList = ((Wo.lets s.data.toList : Int) == (s.size : Int)) by
            unfold Wo.nameB
            rw [Bool.eq_iff_iff, decide_eq_true_iff, beq_iff_eq, hh, ← Wo.lets_all, list_size]
            exact ⟨fun h => by have := h.2.2.2.2; omega, fun h => ⟨hne, by omega, h1, h45, by omega⟩⟩)
          clear h0 hh hne h1 h45
          go_enter Tryz.func109, Tryz.ntmps109
          go_wp2_with (first | (go_at_call 149; refine (q _).mono ?_; rintro e w' ⟨rfl, rfl⟩) | (go_at_call 150; refine (letters_any s _ hs).mono ?_; rintro e w' ⟨rfl, rfl⟩))
          go_ret
          exact ⟨ret_bool HI.out.symm, rfl⟩
      · have q : ∀ w, Calls Tryz.prog 149 #[bv (s[0]'hp)] w fun e w' => e = .returned (.bool true) ∧ w' = w := fun w => h1 ▸ digit_any (s[0]'hp) w
        have HI := hid (show Wo.nameB s.data.toList = false from decide_eq_false (fun h => by have := h.2.2.1; rw [hh, h1] at this; exact absurd this (by simp)))
        clear h0 hh hne h1
        go_enter Tryz.func109, Tryz.ntmps109
        go_wp2_with (go_at_call 149; refine (q _).mono ?_; rintro e w' ⟨rfl, rfl⟩)
        go_ret
        exact ⟨ret_bool HI.out.symm, rfl⟩

theorem all_cut {l : List UInt8} {f : UInt8 → Bool} {k : Nat} (h : l.all f = true) : (l.take k).all f = true := by
  rw [List.all_eq_true] at h ⊢
  exact fun x hx => h x (List.mem_of_mem_take hx)
theorem all_at {s : ByteArray} {f : UInt8 → Bool} {k : Nat} (h : s.data.toList.all f = true) (hk : k < s.size) : f (s[k]'hk) = true := by
  rw [List.all_eq_true] at h
  exact h _ (by have : s[k]'hk = s.data.toList[k]'(by rw [list_size]; exact hk) := rfl
                rw [this]; exact List.getElem_mem _)

set_option maxHeartbeats 2000000 in
theorem Number_any (s : ByteArray) (w : World) (hs : s.size ≤ maxLen) : Calls Tryz.prog 130 #[.string s] w fun e w' => e = .returned (.tuple #[.int .i64 (Wo.numV s.data.toList), .int .i64 (Wo.numE s.data.toList)]) ∧ w' = w := by
  unfold maxLen at hs
  by_cases h0 : s.size = 0
  · have e := Wo.num_bad (show Wo.numB s.data.toList = false by rw [empty_of_size h0]; rfl)
    rw [e.1, e.2]
    have hn : (s.toList == []) = true := by rw [toList_nil, h0]; rfl
    clear h0 e
    go_enter Tryz.func130, Tryz.ntmps130
    go_wp2
    go_ret2
    exact ⟨rfl, rfl⟩
  · have hn : (s.toList == []) = false := by rw [toList_nil]; exact decide_eq_false h0
    have hp : 0 < s.size := by omega
    have hh := headD_at s hp
    have hne : s.data.toList ≠ [] := fun e => h0 (by rw [Lib.size_eq, e]; rfl)
    by_cases hz : 1 < s.size ∧ (s[0]'hp).toNat = 48
    · have e := Wo.num_bad (show Wo.numB s.data.toList = false from decide_eq_false (fun h => by have := h.2.1; rw [hh, list_size] at this; omega))
      rw [e.1, e.2]
      obtain ⟨hz1, hz2⟩ := hz
      have hI : (1 : Int) < (s.size : Int) := by omega
      have hc : (((s[0]'hp).toNat : Int) == 48) = true := by rw [beq_iff_eq]; omega
      clear h0 hh hne e hz2
      go_enter Tryz.func130, Tryz.ntmps130
      go_wp2
      go_ret2
      exact ⟨rfl, rfl⟩
    · have HZ := hid hz
      have HH := hid hh
      have HNE := hid hne
      have hg : (1 < s.size ∧ (((s[0]'hp).toNat : Int) == 48) = false) ∨ ¬ 1 < s.size := by
        by_cases h1 : 1 < s.size
        · left; exact ⟨h1, by rw [beq_eq_false_iff_ne]; intro e; exact hz ⟨h1, by omega⟩⟩
        · right; exact h1
      clear h0 hh hne hz
      have hg' : ((1 : Int) < (s.size : Int) ∧ (((s[0]'hp).toNat : Int) == 48) = false) ∨ decide ((1 : Int) < (s.size : Int)) = false := by
        rcases hg with ⟨h1, h2⟩ | h1
        · exact Or.inl ⟨by omega, h2⟩
        · exact Or.inr (decide_eq_false (by omega))
      clear hg
      have hnum := hid (fun (h : Wo.allD s.data.toList = true) (h2 : Wo.decN s.data.toList ≤ 2147483647) => (show Wo.numB s.data.toList = true from decide_eq_true ⟨HNE.out, by rw [HH.out, list_size]; have := HZ.out; omega, h, h2⟩))
      rcases hg' with ⟨h1, hc⟩ | h1
      all_goals
        go_enter Tryz.func130, Tryz.ntmps130
        go_wp2
        go_loop [4, 20] (fun n i => ∃ k m : Nat, k ≤ s.size ∧ m ≤ 2147483647 ∧ i = .int .i64 k ∧ n = .int .i64 m ∧ Hid (m = Wo.decN (s.data.toList.take k)) ∧ Hid (Wo.allD (s.data.toList.take k) = true)) (fun _ i => s.size - (intOf i).toNat)
        case atStart => exact ⟨0, 0, Nat.zero_le _, Nat.zero_le _, rfl, rfl, rfl, rfl⟩
        case round =>
          obtain ⟨k, m, hk, hm, rfl, rfl, HM, HA⟩ := hrel
          by_cases hlt : k < s.size
          · have hkI : (0 : Int) ≤ (k : Int) := by omega
            have hkI2 : (k : Int) < (s.size : Int) := by omega
            have HT := hid (take_snoc s k hlt)
            rcases bool_two (Wo.dg (s[k]'hlt).toNat) with hd | hd
            · have q : ∀ w, Calls Tryz.prog 149 #[bv (s[k]'hlt)] w fun e w' => e = .returned (.bool false) ∧ w' = w := fun w => hd ▸ digit_any (s[k]'hlt) w
              have HE := hid (Wo.num_bad (show Wo.numB s.data.toList = false from decide_eq_false (fun h => by have := all_at h.2.2.1 hlt; rw [hd] at this; exact absurd this (by simp))))
              clear hd
              go_wp2_with (go_at_call 149; refine (q _).mono ?_; rintro e w' ⟨rfl, rfl⟩)
              go_ret2
              exact ⟨by rw [HE.out.1, HE.out.2]; rfl, rfl⟩
            · have q : ∀ w, Calls Tryz.prog 149 #[bv (s[k]'hlt)] w fun e w' => e = .returned (.bool true) ∧ w' = w := fun w => hd ▸ digit_any (s[k]'hlt) w
              have hdd := of_decide_eq_true hd
              have hd1 : (48 : Int) ≤ ((s[k]'hlt).toNat : Int) := by omega
              have hd2 : ((s[k]'hlt).toNat : Int) ≤ 57 := by omega
              have HN := hid (show 10 * m + ((s[k]'hlt).toNat - 48) = Wo.decN (s.data.toList.take (k + 1)) by rw [HT.out, Wo.decN_snoc, ← HM.out])
              have HA2 := hid (show Wo.allD (s.data.toList.take (k + 1)) = true by
                have := HA.out
                unfold Wo.allD at this ⊢
                rw [HT.out, List.all_append, this]; simp [hd])
              clear hd hdd
              by_cases hb : 2147483647 < 10 * m + ((s[k]'hlt).toNat - 48)
              · have hbI : (2147483647 : Int) < 10 * (m : Int) + (((s[k]'hlt).toNat : Int) - 48) := by omega
                have HE := hid (Wo.num_bad (show Wo.numB s.data.toList = false from decide_eq_false (fun h => by
                  have h1 := Wo.decN_mono (s.data.toList.take (k + 1)) (s.data.toList.drop (k + 1))
                  rw [List.take_append_drop, ← HN.out] at h1
                  have := h.2.2.2
                  omega)))
                clear hb
                go_wp2_with (go_at_call 149; refine (q _).mono ?_; rintro e w' ⟨rfl, rfl⟩)
                go_ret2
                exact ⟨by rw [HE.out.1, HE.out.2]; rfl, rfl⟩
              · have hbI : decide ((2147483647 : Int) < 10 * (m : Int) + (((s[k]'hlt).toNat : Int) - 48)) = false := decide_eq_false (by omega)
                go_wp2_with (go_at_call 149; refine (q _).mono ?_; rintro e w' ⟨rfl, rfl⟩)
                go_round
                case rel => exact ⟨k + 1, 10 * m + ((s[k]'hlt).toNat - 48), by omega, by omega, by go_num, by congr 1; omega, HN, HA2⟩
                case measure => simp [intOf]; omega
          · have HE := hid (show Wo.numV s.data.toList = m ∧ Wo.numE s.data.toList = 0 by
              have e1 := HM.out
              have e2 := HA.out
              rw [take_all s (by omega)] at e1 e2
              have := Wo.num_good (hnum.out e2 (by omega))
              exact ⟨by rw [this.1, e1], this.2⟩)
            go_wp2
            go_ret2
            exact ⟨by rw [HE.out.1, HE.out.2]; rfl, rfl⟩
end Go.Proofs.YtebaopiedlioiaaGreatDoor
namespace Go.Proofs.YtebaopiedlioiaaGreatDoor
open Go.RowKit

set_option maxHeartbeats 400000 in
theorem Rdigit_any (c : UInt8) (w : World) : Calls Tryz.prog 81 #[bv c] w fun e w' => e = .returned (.bool (Wo.dg c.toNat)) ∧ w' = w := by
  go_enter Tryz.func81, Tryz.ntmps81
  go_wp2
  all_goals
    go_ret
    refine ⟨ret_bool ?_, rfl⟩
    rw [Bool.eq_iff_iff]
    simp only [Wo.dg, decide_eq_true_eq, Bool.false_eq_true, false_iff]
    omega

set_option maxHeartbeats 1000000 in
theorem Rletter_any (c : UInt8) (w : World) : Calls Tryz.prog 80 #[bv c] w fun e w' => e = .returned (.bool (Wo.ltr c.toNat)) ∧ w' = w := by
  go_enter Tryz.func80, Tryz.ntmps80
  go_wp2_with (go_at_call 81; refine (Rdigit_any c _).mono ?_; rintro e w' ⟨rfl, rfl⟩)
  all_goals
    go_ret
    refine ⟨ret_bool ?_, rfl⟩
    try simp only [Wo.dg, decide_eq_true_eq] at *
    rw [Bool.eq_iff_iff]
    simp only [Wo.ltr, Bool.or_eq_true, decide_eq_true_eq, beq_iff_eq, true_iff]
    omega

abbrev tbl : ByteArray := ⟨#[40, 41, 44, 124, 42, 43, 63, 46, 36, 61, 60, 62]⟩
theorem sgl_tbl (x : Nat) : Wo.sgl x = true ↔ ∃ k, ∃ h : k < 12, (tbl[k]'h).toNat = x := by
  constructor
  · intro h
    simp [Wo.sgl] at h
    rcases h with h | h | h | h | h | h | h | h | h | h | h | h
    · exact ⟨0, by omega, h.symm⟩
    · exact ⟨1, by omega, h.symm⟩
    · exact ⟨2, by omega, h.symm⟩
    · exact ⟨3, by omega, h.symm⟩
    · exact ⟨4, by omega, h.symm⟩
    · exact ⟨5, by omega, h.symm⟩
    · exact ⟨6, by omega, h.symm⟩
    · exact ⟨7, by omega, h.symm⟩
    · exact ⟨8, by omega, h.symm⟩
    · exact ⟨9, by omega, h.symm⟩
    · exact ⟨10, by omega, h.symm⟩
    · exact ⟨11, by omega, h.symm⟩
  · rintro ⟨k, hk, rfl⟩
    have : k = 0 ∨ k = 1 ∨ k = 2 ∨ k = 3 ∨ k = 4 ∨ k = 5 ∨ k = 6 ∨ k = 7 ∨ k = 8 ∨ k = 9 ∨ k = 10 ∨ k = 11 := by omega
    rcases this with rfl | rfl | rfl | rfl | rfl | rfl | rfl | rfl | rfl | rfl | rfl | rfl <;> rfl

set_option maxHeartbeats 1000000 in
theorem single_any (c : UInt8) (w : World) : Calls Tryz.prog 141 #[bv c] w fun e w' => e = .returned (.bool (Wo.sgl c.toNat)) ∧ w' = w := by
  go_enter Tryz.func141, Tryz.ntmps141
  go_wp2
  go_loop [3] (fun i => ∃ k : Nat, k ≤ 12 ∧ i = .int .i64 k ∧ Hid (∀ j (h : j < 12), j < k → (tbl[j]'h).toNat ≠ c.toNat)) (fun i => 12 - (intOf i).toNat)
  case atStart => exact ⟨0, Nat.zero_le _, rfl, fun j _ hj => absurd hj (Nat.not_lt_zero j)⟩
  case round =>
    obtain ⟨k, hk, rfl, HJ⟩ := hrel
    by_cases hlt : k < 12
    · have hkI : (0 : Int) ≤ (k : Int) := by omega
      have hkI2 : (k : Int) < 12 := by omega
      by_cases hx : (tbl[k]'hlt).toNat = c.toNat
      · have HE := hid ((sgl_tbl c.toNat).2 ⟨k, hlt, hx⟩)
        have hb : (((tbl[k]'hlt).toNat : Int) == (c.toNat : Int)) = true := by rw [beq_iff_eq]; omega
        clear hx
        go_wp2
        go_ret
        exact ⟨ret_bool HE.out.symm, rfl⟩
      · have hb : (((tbl[k]'hlt).toNat : Int) == (c.toNat : Int)) = false := by rw [beq_eq_false_iff_ne]; omega
        have HJ2 := hid (show ∀ j (h : j < 12), j < k + 1 → (tbl[j]'h).toNat ≠ c.toNat from fun j h hj => by
          by_cases e : j = k
          · subst e; exact hx
          · exact HJ.out j h (by omega))
        clear hx
        go_wp2
        go_round
        case rel => exact ⟨k + 1, by omega, by go_num, HJ2⟩
        case measure => simp [intOf]; omega
    · have HE := hid (show Wo.sgl c.toNat = false by
        cases hq : Wo.sgl c.toNat with
        | false => rfl
        | true =>
          obtain ⟨j, hj, e⟩ := (sgl_tbl c.toNat).1 hq
          exact absurd e (HJ.out j hj (by omega)))
      go_wp2
      go_ret
      exact ⟨ret_bool HE.out.symm, rfl⟩

/-- Is it a sign of two bytes? -/
def dblL (l : List UInt8) : Bool := l == [61, 61] || l == [60, 61] || l == [62, 61] || l == [45, 62]
theorem dblL_two (l : List UInt8) : dblL l = match l with | [a, b] => Wo.dbl a.toNat b.toNat | _ => false := by
  match l with
  | [] => rfl
  | [a] => simp [dblL]
  | [a, b] => simp [dblL, Wo.dbl, b_eq]
  | a :: b :: c :: t => simp [dblL]
set_option maxHeartbeats 1000000 in
theorem double_any (s : ByteArray) (w : World) : Calls Tryz.prog 140 #[.string s] w fun e w' => e = .returned (.bool (dblL s.data.toList)) ∧ w' = w := by
  rw [show s.data.toList = s.toList from (Lib.toList_data s).symm]
  go_enter Tryz.func140, Tryz.ntmps140
  go_wp2
  all_goals
    go_ret
    refine ⟨ret_bool ?_, rfl⟩
    unfold dblL
    simp_all
end Go.Proofs.YtebaopiedlioiaaGreatDoor
namespace Go.Proofs.YtebaopiedlioiaaGreatDoor
open Go.RowKit

theorem sgn_two (l : List UInt8) : sgn l = (dblL l || (decide (l.length = 1) && Wo.sgl (l.headD 0).toNat)) := by
  rw [dblL_two]
  match l with
  | [] => rfl
  | [a] => simp [sgn]
  | [a, b] => simp [sgn]
  | a :: b :: c :: t => simp [sgn]

set_option maxHeartbeats 1000000 in
theorem RSign_any (s : ByteArray) (w : World) : Calls Tryz.prog 107 #[.string s] w fun e w' => e = .returned (.bool (sgn s.data.toList)) ∧ w' = w := by
  have HG := hid (sgn_two s.data.toList)
  rcases bool_two (dblL s.data.toList) with h | h
  · have q : ∀ w, Calls Tryz.prog 140 #[.string s] w fun e w' => e = .returned (.bool false) ∧ w' = w := fun w => h ▸ double_any s w
    by_cases h1 : s.size = 1
    · have hp : 0 < s.size := by omega
      have HI := hid (show sgn s.data.toList = Wo.sgl (s[0]'hp).toNat by rw [HG.out, h, headD_at s hp, list_size, h1]; simp)
      have hI : ((s.size : Int) == 1) = true := by rw [beq_iff_eq]; omega
      have hI0 : (0 : Int) < (s.size : Int) := by omega
      clear h h1
      go_enter Tryz.func107, Tryz.ntmps107
      go_wp2_with (first | (go_at_call 140; refine (q _).mono ?_; rintro e w' ⟨rfl, rfl⟩) | (go_at_call 141; refine (single_any (s[0]'hp) _).mono ?_; rintro e w' ⟨rfl, rfl⟩))
      go_ret
      exact ⟨ret_bool HI.out.symm, rfl⟩
    · have HI := hid (show sgn s.data.toList = false by rw [HG.out, h, list_size, decide_eq_false h1]; rfl)
      have hI : ((s.size : Int) == 1) = false := by rw [beq_eq_false_iff_ne]; omega
      clear h h1
      go_enter Tryz.func107, Tryz.ntmps107
      go_wp2_with (go_at_call 140; refine (q _).mono ?_; rintro e w' ⟨rfl, rfl⟩)
      go_ret
      exact ⟨ret_bool HI.out.symm, rfl⟩
  · have q : ∀ w, Calls Tryz.prog 140 #[.string s] w fun e w' => e = .returned (.bool true) ∧ w' = w := fun w => h ▸ double_any s w
    have HI := hid (show sgn s.data.toList = true by rw [HG.out, h]; rfl)
    clear h
    go_enter Tryz.func107, Tryz.ntmps107
    go_wp2_with (go_at_call 140; refine (q _).mono ?_; rintro e w' ⟨rfl, rfl⟩)
    go_ret
    exact ⟨ret_bool HI.out.symm, rfl⟩

set_option maxHeartbeats 2000000 in
theorem RName_any (s : ByteArray) (w : World) (hs : s.size ≤ maxLen) : Calls Tryz.prog 42 #[.string s] w fun e w' => e = .returned (.bool (Wo.nameB s.data.toList)) ∧ w' = w := by
  unfold maxLen at hs
  go_enter Tryz.func42, Tryz.ntmps42
  go_wp2
  go_loop [3] (fun i => ∃ k : Nat, k ≤ s.size ∧ i = .int .i64 k ∧ Hid ((s.data.toList.take k).all (fun c => Wo.ltr c.toNat) = true)) (fun i => s.size - (intOf i).toNat)
  case atStart => exact ⟨0, Nat.zero_le _, rfl, rfl⟩
  case round =>
    obtain ⟨k, hk, rfl, HA⟩ := hrel
    by_cases hlt : k < s.size
    · have hkI : (0 : Int) ≤ (k : Int) := by omega
      have hkI2 : (k : Int) < (s.size : Int) := by omega
      have HT := hid (take_snoc s k hlt)
      rcases bool_two (Wo.ltr (s[k]'hlt).toNat) with hd | hd
      · have q : ∀ w, Calls Tryz.prog 80 #[bv (s[k]'hlt)] w fun e w' => e = .returned (.bool false) ∧ w' = w := fun w => hd ▸ Rletter_any (s[k]'hlt) w
        have HE := hid (show Wo.nameB s.data.toList = false from decide_eq_false (fun h => by have := all_at h.2.2.2.2 hlt; rw [hd] at this; exact absurd this (by simp)))
        clear hd
        go_wp2_with (go_at_call 80; refine (q _).mono ?_; rintro e w' ⟨rfl, rfl⟩)
        go_ret
        exact ⟨ret_bool HE.out.symm, rfl⟩
      · have q : ∀ w, Calls Tryz.prog 80 #[bv (s[k]'hlt)] w fun e w' => e = .returned (.bool true) ∧ w' = w := fun w => hd ▸ Rletter_any (s[k]'hlt) w
        have HA2 := hid (show (s.data.toList.take (k + 1)).all (fun c => Wo.ltr c.toNat) = true by rw [HT.out, List.all_append, HA.out]; simp [hd])
        clear hd
        go_wp2_with (go_at_call 80; refine (q _).mono ?_; rintro e w' ⟨rfl, rfl⟩)
        go_round
        case rel => exact ⟨k + 1, by omega, by go_num, HA2⟩
        case measure => simp [intOf]; omega
    · have HA2 := hid (show s.data.toList.all (fun c => Wo.ltr c.toNat) = true by have := HA.out; rw [take_all s (by omega)] at this; exact this)
      by_cases h0 : s.size = 0
      · have HI := hid (show Wo.nameB s.data.toList = false by rw [empty_of_size h0]; rfl)
        have hn : (s.toList == []) = true := by rw [toList_nil, h0]; rfl
        clear h0
        go_wp2
        go_ret
        exact ⟨ret_bool HI.out.symm, rfl⟩
      · have hn : (s.toList == []) = false := by rw [toList_nil]; exact decide_eq_false h0
        have hp : 0 < s.size := by omega
        have hp0 : (0 : Int) < (s.size : Int) := by omega
        have hh := headD_at s hp
        have hne : s.data.toList ≠ [] := fun e => h0 (by rw [Lib.size_eq, e]; rfl)
        by_cases h64 : s.size ≤ 64
        · have hI : (s.size : Int) ≤ 64 := by omega
          rcases bool_two (Wo.dg (s[0]'hp).toNat) with h1 | h1
          · have q : ∀ w, Calls Tryz.prog 81 #[bv (s[0]'hp)] w fun e w' => e = .returned (.bool false) ∧ w' = w := fun w => h1 ▸ Rdigit_any (s[0]'hp) w
            have HI := hid (show Wo.nameB s.data.toList = (((s[0]'hp).toNat : Int) != 45) by
              unfold Wo.nameB
              rw [Bool.eq_iff_iff, decide_eq_true_iff, bne_iff_ne, hh, list_size]
              exact ⟨fun h => by have := h.2.2.2.1; omega, fun h => ⟨hne, by omega, h1, by omega, HA2.out⟩⟩)
            clear h0 hh hne h1
            go_wp2_with (go_at_call 81; refine (q _).mono ?_; rintro e w' ⟨rfl, rfl⟩)
            go_ret
            exact ⟨ret_bool HI.out.symm, rfl⟩
          · have q : ∀ w, Calls Tryz.prog 81 #[bv (s[0]'hp)] w fun e w' => e = .returned (.bool true) ∧ w' = w := fun w => h1 ▸ Rdigit_any (s[0]'hp) w
            have HI := hid (show Wo.nameB s.data.toList = false from decide_eq_false (fun h => by have := h.2.2.1; rw [hh, h1] at this; exact absurd this (by simp)))
            clear h0 hh hne h1
            go_wp2_with (go_at_call 81; refine (q _).mono ?_; rintro e w' ⟨rfl, rfl⟩)
            go_ret
            exact ⟨ret_bool HI.out.symm, rfl⟩
        · have HI := hid (show Wo.nameB s.data.toList = false from decide_eq_false (fun h => by have := h.2.1; rw [list_size] at this; omega))
          have hI : decide ((s.size : Int) ≤ 64) = false := decide_eq_false (by omega)
          clear h0 hh hne
          go_wp2
          go_ret
          exact ⟨ret_bool HI.out.symm, rfl⟩
end Go.Proofs.YtebaopiedlioiaaGreatDoor
namespace Go.Proofs.YtebaopiedlioiaaGreatDoor
open Go.RowKit

set_option maxHeartbeats 2000000 in
theorem RNumber_any (s : ByteArray) (w : World) : Calls Tryz.prog 62 #[.string s] w fun e w' => e = .returned (.tuple #[.int .i64 (Wo.numV s.data.toList), .int .i64 (Wo.numE s.data.toList)]) ∧ w' = w := by
  by_cases h0 : s.size = 0
  · have e := Wo.num_bad (show Wo.numB s.data.toList = false by rw [empty_of_size h0]; rfl)
    rw [e.1, e.2]
    have hn : (s.toList == []) = true := by rw [toList_nil, h0]; rfl
    clear h0 e
    go_enter Tryz.func62, Tryz.ntmps62
    go_wp2
    go_ret2
    exact ⟨rfl, rfl⟩
  · have hn : (s.toList == []) = false := by rw [toList_nil]; exact decide_eq_false h0
    have hp : 0 < s.size := by omega
    have hp0 : (0 : Int) < (s.size : Int) := by omega
    have hh := headD_at s hp
    have hne : s.data.toList ≠ [] := fun e => h0 (by rw [Lib.size_eq, e]; rfl)
    by_cases hz : 1 < s.size ∧ (s[0]'hp).toNat = 48
    · have e := Wo.num_bad (show Wo.numB s.data.toList = false from decide_eq_false (fun h => by have := h.2.1; rw [hh, list_size] at this; omega))
      rw [e.1, e.2]
      obtain ⟨hz1, hz2⟩ := hz
      have hI : (1 : Int) < (s.size : Int) := by omega
      have hc : (((s[0]'hp).toNat : Int) == 48) = true := by rw [beq_iff_eq]; omega
      clear h0 hh hne e hz2
      go_enter Tryz.func62, Tryz.ntmps62
      go_wp2
      go_ret2
      exact ⟨rfl, rfl⟩
    · have HZ := hid hz
      have HH := hid hh
      have HNE := hid hne
      have hg : ((((s[0]'hp).toNat : Int) == 48) = true ∧ decide ((1 : Int) < (s.size : Int)) = false) ∨ (((s[0]'hp).toNat : Int) == 48) = false := by
        by_cases h1 : (s[0]'hp).toNat = 48
        · left; exact ⟨by rw [beq_iff_eq]; omega, decide_eq_false (fun h => hz ⟨by omega, h1⟩)⟩
        · right; rw [beq_eq_false_iff_ne]; omega
      clear h0 hh hne hz
      by_cases h10 : 10 < s.size
      · have e := Wo.num_bad (Wo.num_long (l := s.data.toList) (by rw [list_size]; exact h10))
        rw [e.1, e.2]
        have hI : (10 : Int) < (s.size : Int) := by omega
        clear e
        rcases hg with ⟨hc, h1⟩ | hc
        all_goals
          go_enter Tryz.func62, Tryz.ntmps62
          go_wp2
          go_ret2
          exact ⟨rfl, rfl⟩
      · have hI : decide ((10 : Int) < (s.size : Int)) = false := decide_eq_false (by omega)
        have hnum := hid (fun (h : Wo.allD s.data.toList = true) (h2 : Wo.decN s.data.toList ≤ 2147483647) => (show Wo.numB s.data.toList = true from decide_eq_true ⟨HNE.out, by rw [HH.out, list_size]; have := HZ.out; omega, h, h2⟩))
        rcases hg with ⟨hc, h1⟩ | hc
        all_goals
          go_enter Tryz.func62, Tryz.ntmps62
          go_wp2
          go_loop [4, 5] (fun n i => ∃ k m : Nat, k ≤ s.size ∧ m ≤ 9999999999 ∧ i = .int .i64 k ∧ n = .int .i64 m ∧ Hid (m = Wo.decN (s.data.toList.take k)) ∧ Hid (Wo.allD (s.data.toList.take k) = true)) (fun _ i => s.size - (intOf i).toNat)
          case atStart => exact ⟨0, 0, Nat.zero_le _, Nat.zero_le _, rfl, rfl, rfl, rfl⟩
          case round =>
            obtain ⟨k, m, hk, hm, rfl, rfl, HM, HA⟩ := hrel
            by_cases hlt : k < s.size
            · have hkI : (0 : Int) ≤ (k : Int) := by omega
              have hkI2 : (k : Int) < (s.size : Int) := by omega
              have HT := hid (take_snoc s k hlt)
              rcases bool_two (Wo.dg (s[k]'hlt).toNat) with hd | hd
              · have q : ∀ w, Calls Tryz.prog 81 #[bv (s[k]'hlt)] w fun e w' => e = .returned (.bool false) ∧ w' = w := fun w => hd ▸ Rdigit_any (s[k]'hlt) w
                have HE := hid (Wo.num_bad (show Wo.numB s.data.toList = false from decide_eq_false (fun h => by have := all_at h.2.2.1 hlt; rw [hd] at this; exact absurd this (by simp))))
                clear hd
                go_wp2_with (go_at_call 81; refine (q _).mono ?_; rintro e w' ⟨rfl, rfl⟩)
                go_ret2
                exact ⟨by rw [HE.out.1, HE.out.2]; rfl, rfl⟩
              · have q : ∀ w, Calls Tryz.prog 81 #[bv (s[k]'hlt)] w fun e w' => e = .returned (.bool true) ∧ w' = w := fun w => hd ▸ Rdigit_any (s[k]'hlt) w
                have hdd := of_decide_eq_true hd
                have hd1 : (48 : Int) ≤ ((s[k]'hlt).toNat : Int) := by omega
                have hd2 : ((s[k]'hlt).toNat : Int) ≤ 57 := by omega
                have HN := hid (show m * 10 + ((s[k]'hlt).toNat - 48) = Wo.decN (s.data.toList.take (k + 1)) by rw [HT.out, Wo.decN_snoc, ← HM.out, Nat.mul_comm])
                have HA2 := hid (show Wo.allD (s.data.toList.take (k + 1)) = true by
                  have := HA.out
                  unfold Wo.allD at this ⊢
                  rw [HT.out, List.all_append, this]; simp [hd])
                have hle : m * 10 + ((s[k]'hlt).toNat - 48) ≤ 9999999999 := by
                  rw [HN.out]; exact Wo.decN_ten _ HA2.out (by rw [List.length_take]; omega)
                clear hd hdd
                go_wp2_with (go_at_call 81; refine (q _).mono ?_; rintro e w' ⟨rfl, rfl⟩)
                go_round
                case rel => exact ⟨k + 1, m * 10 + ((s[k]'hlt).toNat - 48), by omega, hle, by go_num, by congr 1; omega, HN, HA2⟩
                case measure => simp [intOf]; omega
            · have HM2 := hid (show m = Wo.decN s.data.toList by have := HM.out; rw [take_all s (by omega)] at this; exact this)
              have HA2 := hid (show Wo.allD s.data.toList = true by have := HA.out; rw [take_all s (by omega)] at this; exact this)
              by_cases hb : 2147483647 < m
              · have hbI : (2147483647 : Int) < (m : Int) := by omega
                have HE := hid (Wo.num_bad (show Wo.numB s.data.toList = false from decide_eq_false (fun h => by have := h.2.2.2; rw [← HM2.out] at this; omega)))
                clear hb
                go_wp2
                go_ret2
                exact ⟨by rw [HE.out.1, HE.out.2]; rfl, rfl⟩
              · have hbI : decide ((2147483647 : Int) < (m : Int)) = false := decide_eq_false (by omega)
                have HE := hid (Wo.num_good (hnum.out HA2.out (by rw [← HM2.out]; omega)))
                clear hb
                go_wp2
                go_ret2
                exact ⟨by rw [HE.out.1, HE.out.2, ← HM2.out]; rfl, rfl⟩

end Go.Proofs.YtebaopiedlioiaaGreatDoor
