/-
  The law TopoOwn: what is told is one's own.
  How long the names of classes are, and how many there are. Plain mathematics.
  The program's copyOf and Who.
  strings.Clone of any text, slices.Clone of texts (as in UCopy, for seats without package rules).
-/
import Derived.Test.YtkepgjijidebhaaGreatDoorCLay
import Derived.Test.YtkepgjijidebhaaGreatDoorUMathAnd
import Derived.Test.YtkepgjijidebhaaGreatDoorJInsAnd
import Derived.Test.YtkepgjijidebhaaGreatDoorJDocKAnd
import Derived.Test.YtkepgjijidebhaaGreatDoorJRdIAnd
import Derived.Test.YtkepgjijidebhaaGreatDoorJParBAnd
import Derived.Test.YtkepgjijidebhaaGreatDoorJDocEAnd
namespace Go.Proofs.YtkepgjijidebhaaGreatDoor
open Go.RowKit

theorem clone_wide (s : ByteArray) (w : World) (h0 : 0 < s.size) (hs : s.size ≤ 140737488355328) :
    Calls Tryz.prog 85 #[.string s] w fun e w' => e = .returned (.string s) ∧ Below w.heap.size w w' := by
  have hmk := run_make_row' (P := Tryz.prog) 87 5 (.int .u8 0) 1 Tryz.underlying87 Tryz.infoU8 rfl .i64 .i64 s.size (by omega) (by omega)
  have hblk : (w.alloc (.cells (madeCells #[.int .u8 0] s.size) 5)).heap[w.heap.size]? = some (.cells (madeCells #[.int .u8 0] s.size) 5 (0, 0)) := new_0 _ _
  have hsome : ∀ j, j < s.size → ((w.alloc (.cells (madeCells #[.int .u8 0] s.size) 5)).cell? ⟨w.heap.size, 0 + j, none⟩).isSome = true := fun j hj => by
      obtain ⟨v, hv⟩ := cells_some hblk (x := 0 + j) (by rw [size_madeCells]; omega)
      rw [hv]; rfl
  have hcp : ∀ ty, _ := fun ty => run_copy_string (P := Tryz.prog) (w.alloc (.cells (madeCells #[.int .u8 0] s.size) 5)) 87 9 ty 5 w.heap.size 0 s.size s.size s Tryz.underlying87 Tryz.sizeU8 (Nat.le_refl _) hsome (fun j _ => free_of hblk)
  have hb2 := block_setCells (cellsOf s) 0 _ _ hblk
  have hus : ∀ ty, _ := fun ty => Lib.run_unsafeString_row (P := Tryz.prog) ((w.alloc (.cells (madeCells #[.int .u8 0] s.size) 5)).setCells w.heap.size 0 (cellsOf s)) 168 3 ty 5 Tryz.underlying168 Tryz.cellsU8 w.heap.size s.size
    (by rw [shape_at hb2, setAll_size, size_madeCells]) s.data.toList (fun e => by rw [Lib.size_eq, e] at h0; exact absurd h0 (by simp)) (by rw [list_size]; exact Nat.le_refl _) (by rw [list_size]; omega) (fun j x hx => by
      have hj : j < s.data.toList.length := (List.getElem?_eq_some_iff.1 hx).1
      have := World.cell?_setCells_in w.heap.size (cellsOf s) 0 (w.alloc (.cells (madeCells #[.int .u8 0] s.size) 5)) (fun i hi => hsome i (by simpa [list_size] using hi)) j (by simpa using hj)
      have ea : (⟨w.heap.size, 0, none⟩ : Addr).add j = ⟨w.heap.size, 0 + j, none⟩ := by simp [Addr.add]; intro h; exact h.symm
      rw [ea, this]
      congr 1
      have e : s.data.toList[j] = x := (List.getElem?_eq_some_iff.1 hx).2
      simp only [List.getElem_map, e])
  rw [list_size] at hus
  have hnz : ((s.size : Int) == 0) = false := by rw [beq_eq_false_iff_ne]; omega
  have hI : (0 : Int) < (s.size : Int) := by omega
  clear hsome hblk
  go_enter Tryz.func85, Tryz.ntmps85
  go_wp2
  go_ret
  exact ⟨rfl, Lib.below_freeze (below_setCells (Nat.le_refl _) _ _ _ ((Below.refl _ _).alloc (Nat.le_refl _) _)) (p := ⟨w.heap.size, 0, none⟩) (Nat.le_refl _) _⟩
set_option maxHeartbeats 400000 in
theorem clone_empty (w : World) : Calls Tryz.prog 85 #[.string (tx [])] w fun e w' => e = .returned (.string (tx [])) ∧ Below w.heap.size w w' := by
  go_enter Tryz.func85, Tryz.ntmps85
  go_wp2
  go_ret
  exact ⟨rfl, Below.refl _ _⟩
set_option maxHeartbeats 400000 in
/-- strings.Clone, of any text. -/
theorem Clone_tx (l : List UInt8) (w : World) (hs : l.length ≤ 140737488355328) : Calls Tryz.prog 49 #[.string (tx l)] w fun e w' => e = .returned (.string (tx l)) ∧ Below w.heap.size w w' := by
  have HC := hid (show ∀ w', Calls Tryz.prog 85 #[.string (tx l)] w' fun e w'' => e = .returned (.string (tx l)) ∧ Below w'.heap.size w' w'' from fun w' => by
    cases l with
    | nil => exact clone_empty w'
    | cons a r => exact clone_wide _ w' (by rw [tx_size]; simp) (by rw [tx_size]; exact hs))
  go_enter Tryz.func49, Tryz.ntmps49
  go_wp2_with (go_at_call 85; refine (HC.out _).mono ?_; rintro e w' ⟨rfl, hb⟩)
  go_ret
  exact ⟨rfl, hb⟩
theorem Tryz.fClone : Tryz.laysClone_ren.f 16 = 86 := by kernel_rfl
theorem Tryz.tClone : Tryz.laysClone_ren.t 9 = 9 := by kernel_rfl

/-- Texts, alone in a block. -/
def Tbl (w : World) (g : Nat) (zs : List (List UInt8)) : Prop := ∃ cs, w.heap[g]? = some (.cells cs 9 (0, 0)) ∧ ∀ (i : Nat) (z : List UInt8), zs[i]? = some z → cs[i]? = some (.string (tx z))
theorem Tbl.cell {w : World} {g : Nat} {zs : List (List UInt8)} (h : Tbl w g zs) {i : Nat} {z : List UInt8} (hz : zs[i]? = some z) : w.cell? ⟨g, i, none⟩ = some (.string (tx z)) := by
  obtain ⟨cs, h1, h2⟩ := h
  rw [cell_at h1]
  exact h2 i z hz
theorem Tbl.lt {w : World} {g : Nat} {zs : List (List UInt8)} (h : Tbl w g zs) : g < w.heap.size := by
  obtain ⟨cs, h1, _⟩ := h
  rw [Array.getElem?_eq_some_iff] at h1
  exact h1.1
theorem Tbl.free {w : World} {g : Nat} {zs : List (List UInt8)} (h : Tbl w g zs) (k : Nat) : w.frozen? ⟨g, k, none⟩ = false := by
  obtain ⟨cs, h1, _⟩ := h
  exact free_of h1
theorem Tbl.below {w w' : World} {g B : Nat} {zs : List (List UInt8)} (h : Tbl w g zs) (hb : Below B w w') (hB : g < B) : Tbl w' g zs := by
  obtain ⟨cs, h1, h2⟩ := h
  exact ⟨cs, below_block hb h1 hB, h2⟩
/-- One of them, written again. -/
theorem Tbl.again {w : World} {g : Nat} {zs : List (List UInt8)} (h : Tbl w g zs) {i : Nat} {z : List UInt8} (hz : zs[i]? = some z) : Tbl (w.setCell ⟨g, i, none⟩ (.string (tx z))) g zs := by
  obtain ⟨cs, h1, h2⟩ := h
  refine ⟨_, block_set _ h1, fun j y hy => ?_⟩
  rw [Array.getElem?_setIfInBounds]
  split
  · rename_i e
    subst e
    have : y = z := Option.some.inj (hy.symm.trans hz)
    subst this
    have := h2 i y hy
    rw [if_pos (Array.getElem?_eq_some_iff.1 this).1]
  · exact h2 j y hy

/-- A slice of texts in a block of its own. -/
def Ported (w : World) (B : Nat) (v : Value) (zs : List (List UInt8)) : Prop := ∃ ao cap, v = .slice ao zs.length cap ∧ zs.length ≤ cap ∧ (zs = [] ∨ ∃ b, ao = some ⟨b, 0, none⟩ ∧ B ≤ b ∧ Tbl w b zs)
theorem Ported.txs {w : World} {B : Nat} {v : Value} {zs : List (List UInt8)} (h : Ported w B v zs) : Txs w v zs := by
  obtain ⟨ao, cap, e, _, q | ⟨b, ea, _, ht⟩⟩ := h
  · exact ⟨ao, cap, e, Or.inl q⟩
  · refine ⟨ao, cap, e, Or.inr ⟨b, 0, ea, ht.lt, fun i hi => ?_⟩⟩
    rw [Nat.zero_add]
    exact ht.cell (by rw [List.getD_eq_getElem?_getD, List.getElem?_eq_getElem hi]; rfl)

theorem Clone_texts {w : World} {v : Value} {zs : List (List UInt8)} (ht : Txs w v zs) (hn : zs.length * 16 ≤ 140737488355328) :
    Calls Tryz.prog 86 #[v] w fun e w' => ∃ v', e = .returned v' ∧ Ported w' w.heap.size v' zs ∧ Below w.heap.size w w' := by
  obtain ⟨ao, cap, rfl, hr⟩ := ht
  rw [← Tryz.fClone]
  cases ao with
  | none =>
    have h0 : zs = [] := by rcases hr with q | ⟨g, o, q, _⟩; exact q; cases q
    subst h0
    refine (Any.slices_Clone_string_nil Tryz.laysClone _ _ w).mono ?_
    rintro e w' ⟨rfl, rfl⟩
    exact ⟨_, rfl, ⟨none, 0, rfl, Nat.le_refl _, Or.inl rfl⟩, Below.refl _ _⟩
  | some ad =>
    by_cases h0 : zs = []
    · subst h0
      refine (Any.slices_Clone_string_zero Tryz.laysClone ad cap w).mono ?_
      rintro e w' ⟨v', rfl, ho, _, hb⟩
      refine ⟨v', rfl, ?_, hb⟩
      rcases ho.2 with ⟨h1, _⟩ | ⟨b, cp, cur, h1, _, _, hn, _, _, _⟩
      · exact ⟨_, _, h1, Nat.zero_le _, Or.inl rfl⟩
      · exact ⟨_, _, h1, Nat.zero_le _, Or.inl rfl⟩
    · obtain ⟨g, o, rfl, hg, hc⟩ : ∃ g o, ad = ⟨g, o, none⟩ ∧ g < w.heap.size ∧ ∀ i, i < zs.length → w.cell? ⟨g, o + i, none⟩ = some (.string (tx (zs.getD i []))) := by
        rcases hr with q | ⟨g, o, q, h1, h2⟩
        · exact absurd q h0
        · exact ⟨g, o, Option.some.inj q, h1, h2⟩
      have hk := Any.slices_Clone_string Tryz.laysClone g o zs.length cap (zs.map tx) w (by simp) hn (fun j hj => by
        rw [List.length_map] at hj
        rw [hc j hj]
        simp [List.getD_eq_getElem?_getD, List.getElem?_eq_getElem hj])
      refine hk.mono ?_
      rintro e w' ⟨v', rfl, ho, _, hb⟩
      refine ⟨v', rfl, ?_, hb⟩
      rw [Tryz.tClone] at ho
      rcases ho.2 with ⟨_, h1⟩ | ⟨b, cp, cur, rfl, hB, hh, hn2, _, _, htk⟩
      · have := List.length_pos_iff.2 h0; omega
      · refine ⟨_, _, rfl, hn2, Or.inr ⟨b, rfl, hB, cur, hh, fun i z hz => ?_⟩⟩
        have hi : i < zs.length := (List.getElem?_eq_some_iff.1 hz).1
        have : (cur.toList.take (zs.length * 1))[i]? = some (.string (tx z)) := by rw [htk]; simp [hi]; exact (List.getElem?_eq_some_iff.1 hz).2
        rw [List.getElem?_take, if_pos (by omega)] at this
        simpa using this

end Go.Proofs.YtkepgjijidebhaaGreatDoor
namespace Go.Proofs.YtkepgjijidebhaaGreatDoor
open Go.RowKit

set_option maxRecDepth 20000 in
set_option maxHeartbeats 2000000 in
theorem ocopyOf_any {w : World} {v : Value} {zs : List (List UInt8)} (h : Txs w v zs) (hn : zs.length ≤ 1000000) (hz : ∀ z ∈ zs, z.length ≤ 140737488355328) :
    Calls Tryz.prog 50 #[v] w fun e w' => ∃ v', e = .returned v' ∧ Ported w' w.heap.size v' zs ∧ Below w.heap.size w w' := by
  have HC := hid (Clone_texts h (by omega))
  have HZ := hid hz
  obtain ⟨ao0, cap0, rfl, -⟩ := h
  obtain ⟨n, hnn⟩ : ∃ n, n = zs.length := ⟨_, rfl⟩
  have HN := hid hnn
  rw [← hnn] at HC hn
  rw [← hnn]
  clear hz hnn
  go_enter Tryz.func50, Tryz.ntmps50
  go_wp2_with fail
  refine HC.out.mono ?_
  rintro en w1 ⟨v', rfl, ⟨ao, cap, rfl, hcap, hT⟩, hb1⟩
  rw [← HN.out] at hcap ⊢
  have HI := hid (show Below w.heap.size w w1 ∧ (zs = [] ∨ ∃ b, ao = some ⟨b, 0, none⟩ ∧ w.heap.size ≤ b ∧ Tbl w1 b zs) from ⟨hb1, hT⟩)
  clear hT hb1
  go_wp2_with fail
  go_loopw [4, 5, 10] (fun _ _ vi wr => ∃ j : Nat, j ≤ n ∧ vi = .int .i64 j ∧ Hid (Below w.heap.size w wr ∧ (zs = [] ∨ ∃ b, ao = some ⟨b, 0, none⟩ ∧ w.heap.size ≤ b ∧ Tbl wr b zs))) (fun _ _ vi _ => n - (intOf vi).toNat)
  case atStart => exact ⟨0, Nat.zero_le _, rfl, HI⟩
  case round =>
    obtain ⟨j, hj, rfl, HJ⟩ := hrel
    by_cases hlt : j < n
    · obtain ⟨z, hzj⟩ : ∃ z, zs[j]? = some z := ⟨_, List.getElem?_eq_getElem (by have := HN.out; omega)⟩
      obtain ⟨b, rfl, hb, hT⟩ := HJ.out.2.resolve_left (fun e => by rw [e] at hzj; simp at hzj)
      have k0 := hT.cell hzj
      have jI : (j : Int) < (n : Int) := by omega
      have j0 : (0 : Int) ≤ (j : Int) := by omega
      have HCL := hid (fun W => Clone_tx z W (HZ.out z (List.mem_of_getElem? hzj)))
      have HT := hid hT
      have HZJ := hid hzj
      clear hT hzj
      go_wp2_with fail
      refine (HCL.out _).mono ?_
      rintro en w2 ⟨rfl, hb2⟩
      have hT2 := HT.out.below hb2 HT.out.lt
      have k1 := hT2.cell HZJ.out
      have kf := hT2.free j
      have HN2 := hid (show Below w.heap.size w (w2.setCell ⟨b, j, none⟩ (.string (tx z))) ∧ (zs = [] ∨ ∃ b', some (⟨b, 0, none⟩ : Addr) = some ⟨b', 0, none⟩ ∧ w.heap.size ≤ b' ∧ Tbl (w2.setCell ⟨b, j, none⟩ (.string (tx z))) b' zs) from ⟨(HJ.out.1.trans (hb2.mono HJ.out.1.size)).setCell (by exact hb) _, .inr ⟨b, rfl, hb, hT2.again HZJ.out⟩⟩)
      clear hT2 hb2
      go_wp2
      go_roundw
      case rel => exact ⟨j + 1, by omega, by go_num, HN2⟩
      case measure => simp [intOf]; omega
    · have hI : ¬ (j : Int) < (n : Int) := by omega
      have hjn : j = n := by omega
      subst hjn
      have HPT := hid (show Ported wr w.heap.size (.slice ao j cap) zs from ⟨ao, cap, by rw [HN.out], by rw [← HN.out]; exact hcap, HJ.out.2⟩)
      go_wp2
      go_ret
      exact ⟨_, rfl, HPT.out, HJ.out.1⟩
/-- A device with its classes, as Who tells it. -/
abbrev whoO (n v : Value) : Obj := .cells #[n, v] 49
/-- What Who leaves. -/
def WhoQ (w : World) (d : Int) (ds : List (To.Dv × Value × Value)) (en : Ending) (w' : World) : Prop :=
  Below w.heap.size w w' ∧ ((d < 0 ∨ (ds.length : Int) ≤ d) ∧ en = .returned (.tuple #[.agg #[.string (tx []), .slice none 0 0], .bool false]) ∨ ∃ (k : Nat) (q : To.Dv × Value × Value) (v' : Value), d = k ∧ ds[k]? = some q ∧ en = .returned (.tuple #[.agg #[.string (tx q.1.name), v'], .bool true]) ∧ Ported w' w.heap.size v' q.1.cls)

set_option maxRecDepth 20000 in
set_option maxHeartbeats 2000000 in
theorem oWho_any {w : World} {wd : Value} {dv : Option Addr} {N dc : Nat} {vl : Value} {ds : List (To.Dv × Value × Value)} (hD : DvL w (.slice dv N dc) ds) (d : Int) (hn : ds.length ≤ maxLen) (hs : ∀ q ∈ ds, q.1.name.length ≤ 140737488355328 ∧ q.1.cls.length ≤ 1000000 ∧ ∀ z ∈ q.1.cls, z.length ≤ 140737488355328) (hl : ∃ a m c, vl = .slice a m c) (hw : ∃ i : Int, wd = .int .i64 i) :
    Calls Tryz.prog 23 #[.agg #[wd, .slice dv N dc, vl], .int .i64 d] w fun en w' => WhoQ w d ds en w' := by
  obtain ⟨la, lm, lc, rfl⟩ := hl
  obtain ⟨wi, rfl⟩ := hw
  obtain ⟨av, cap, e, hr⟩ := hD.form
  injection e with e1 e2 e3
  subst e1; subst e2; subst e3
  obtain ⟨n, hnn⟩ : ∃ n, n = ds.length := ⟨_, rfl⟩
  have HN := hid hnn
  have hn1 : n ≤ maxLen := by rw [hnn]; exact hn
  unfold maxLen at hn1
  have HR := hid hr
  have HD := hid hD
  have HSM := hid hs
  have HZB := hid (fun (x y : Obj) => (show Below w.heap.size w ((w.alloc x).alloc y) from ((Below.refl _ _).alloc (Nat.le_refl _) _).alloc (by simp) _))
  by_cases h0 : d < 0
  · have HQ := hid (fun (W : World) (hb : Below w.heap.size w W) => (show WhoQ w d ds (.returned (.tuple #[.agg #[.string (tx []), .slice none 0 0], .bool false])) W from ⟨hb, .inl ⟨.inl h0, rfl⟩⟩))
    clear hr hD hs hnn
    go_enter Tryz.func23, Tryz.ntmps23
    go_wp2
    refine bodyPost_ret (v := .tuple #[.agg #[.string (tx []), .slice none 0 0], .bool false]) (by simp [results, Tryz.results23, go_sem]) rfl ?_
    exact HQ.out _ (HZB.out _ _)
  · obtain ⟨k, rfl⟩ : ∃ k : Nat, d = k := ⟨d.toNat, by omega⟩
    by_cases h1 : k < n
    · obtain ⟨q, hq⟩ : ∃ q, ds[k]? = some q := ⟨_, List.getElem?_eq_getElem (by omega)⟩
      obtain ⟨G, o, rfl, hG, hc⟩ := hr.resolve_left (fun e => by rw [e] at hq; simp at hq)
      obtain ⟨a0, a1, a2⟩ := hc k q hq
      obtain ⟨hs1, hs2, hs3⟩ := hs q (List.mem_of_getElem? hq)
      obtain ⟨ht, hl⟩ := hD.cls q (List.mem_of_getElem? hq)
      obtain ⟨htp, hlp⟩ := hD.prt q (List.mem_of_getElem? hq)
      obtain ⟨ca, cc, hvc, -⟩ := id ht
      obtain ⟨pa, pc, hvp, -⟩ := htp
      have HCP := hid (fun (W : World) (hb : Below w.heap.size w W) => ocopyOf_any (ht.below hb) hs2 hs3)
      have HCL := hid (fun W => Clone_tx q.1.name W hs1)
      rw [hvc] at a1 HCP
      rw [hvp] at a2
      obtain ⟨nm, hnm⟩ : ∃ nm, nm = q.1.name := ⟨_, rfl⟩
      obtain ⟨cn, hcn⟩ : ∃ cn, cn = q.1.cls.length := ⟨_, rfl⟩
      obtain ⟨pn, hpn⟩ : ∃ pn, pn = q.1.prt.length := ⟨_, rfl⟩
      rw [← hnm] at a0 HCL
      rw [← hcn] at a1 HCP
      rw [← hpn] at a2
      have HNM := hid hnm
      have HQ := hid hq
      have kI : (k : Int) < (n : Int) := by omega
      have k0 : ¬ (k : Int) < 0 := by omega
      have k1 : ¬ (n : Int) ≤ (k : Int) := by omega
      have k2 : (0 : Int) ≤ (k : Int) := by omega
      rw [← hnn]
      obtain ⟨R, hR⟩ : ∃ R, R = w.heap.size + 1 := ⟨_, rfl⟩
      obtain ⟨X, hX⟩ : ∃ X, X = w.heap.size + 1 + 1 := ⟨_, rfl⟩
      have b0 := fun (x y : Obj) => (World.cell?_of_block (a := ⟨G, o + k * 3, none⟩) ((heap_old (w.alloc x) y (by simp; omega)).trans (heap_old w x hG))).trans a0
      have b1 := fun (x y : Obj) => (World.cell?_of_block (a := ⟨G, o + k * 3 + 1, none⟩) ((heap_old (w.alloc x) y (by simp; omega)).trans (heap_old w x hG))).trans a1
      have b2 := fun (x y : Obj) => (World.cell?_of_block (a := ⟨G, o + k * 3 + 2, none⟩) ((heap_old (w.alloc x) y (by simp; omega)).trans (heap_old w x hG))).trans a2
      obtain ⟨W3, hW3⟩ : ∃ W3, W3 = ((w.alloc (.cells #[.int .i64 wi, .slice (some ⟨G, o, none⟩) n dc, .slice la lm lc] 25)).alloc (.cells #[.string ⟨#[]⟩, .slice none 0 0] 49)).alloc (.cells #[.string (tx nm), .slice ca cn cc, .slice pa pn pc] 80) := ⟨_, rfl⟩
      have HBW := hid (show Below w.heap.size w W3 from by rw [hW3]; exact (((Below.refl _ _).alloc (Nat.le_refl _) _).alloc (by simp) _).alloc (by simp; omega) _)
      have hRb : W3.heap[R]? = some (.cells #[.string ⟨#[]⟩, .slice none 0 0] 49 (0, 0)) := by
        rw [hW3, hR, heap_old _ _ (by simp)]
        exact new_1 _ _ _
      have hXb : W3.heap[X]? = some (.cells #[.string (tx nm), .slice ca cn cc, .slice pa pn pc] 80 (0, 0)) := by
        rw [hW3, hX]
        have := new_0 ((w.alloc (.cells #[.int .i64 wi, .slice (some ⟨G, o, none⟩) n dc, .slice la lm lc] 25)).alloc (.cells #[.string ⟨#[]⟩, .slice none 0 0] 49)) (.cells #[.string (tx nm), .slice ca cn cc, .slice pa pn pc] 80)
        simpa using this
      have HK := hid (fun (W : World) (hb : Below W3.heap.size W3 W) => (by
        have x1 := (hb.block X (lt_of_block hXb)).trans hXb
        have x2 := (hb.block R (lt_of_block hRb)).trans hRb
        exact ⟨⟨by rw [cell_at x1]; rfl, by rw [cell_at x1]; rfl⟩, by rw [cell_at x2]; rfl, by rw [cell_at x2]; rfl, free_of x2, free_of x2⟩ : (W.cell? ⟨X, 0, none⟩ = some (.string (tx nm)) ∧ W.cell? ⟨X, 1, none⟩ = some (.slice ca cn cc)) ∧ W.cell? ⟨R, 0, none⟩ = some (.string ⟨#[]⟩) ∧ W.cell? ⟨R, 1, none⟩ = some (.slice none 0 0) ∧ W.frozen? ⟨R, 0, none⟩ = false ∧ W.frozen? ⟨R, 1, none⟩ = false))
      have hRw : w.heap.size ≤ R := by omega
      have HSK := hid (fun (W : World) (u v : Value) (h : W.cell? ⟨X, 0, none⟩ = some (.string (tx nm)) ∧ W.cell? ⟨X, 1, none⟩ = some (.slice ca cn cc)) => (by
        have e : ((W.setCell ⟨R, 0, none⟩ u).setCell ⟨R, 1, none⟩ v).heap[X]? = W.heap[X]? := by rw [Below.heap_setCell _ _ _ _ (by show X ≠ R; omega), Below.heap_setCell _ _ _ _ (by show X ≠ R; omega)]
        exact ⟨(World.cell?_of_block (by exact e)).trans h.1, (World.cell?_of_block (by exact e)).trans h.2⟩ : ((W.setCell ⟨R, 0, none⟩ u).setCell ⟨R, 1, none⟩ v).cell? ⟨X, 0, none⟩ = some (.string (tx nm)) ∧ ((W.setCell ⟨R, 0, none⟩ u).setCell ⟨R, 1, none⟩ v).cell? ⟨X, 1, none⟩ = some (.slice ca cn cc)))
      have hRW3 : R < W3.heap.size := lt_of_block hRb
      have HRB := hid (fun (W : World) (hb : Below W3.heap.size W3 W) => (hb.block R (lt_of_block hRb)).trans hRb)
      clear hXb hRb
      clear hr hD hs hq hc ht hvc hvp hnm hcn hpn hs1 hs2 hs3 hl hlp h0 h1 hnn
      go_enter Tryz.func23, Tryz.ntmps23
      go_upto_region 4 with fail
      rw [← hW3, ← hX, ← hR]
      clear hW3 hR hX b0 b1 b2
      have K0 := (HK.out _ (Below.refl _ _).drew).1
      go_wp2_with fail
      go_region_held3 (fun W => W.cell? ⟨X, 0, none⟩ = some (.string (tx nm)) ∧ W.cell? ⟨X, 1, none⟩ = some (.slice ca cn cc)) (first | exact K6 | exact K5 | exact K0 | exact HSK.out _ _ _ K6) (first | (go_at_call 50; refine (HCP.out _ HB5.out).mono ?_; rintro en w6 ⟨v', rfl, hP, hb6⟩; obtain ⟨ao, cp, hv, hP2⟩ := hP; subst hv; have HB6 := hid (HB5.out.trans (hb6.mono HB5.out.size)); have HB36 := hid (HB35.out.trans (hb6.mono HB35.out.size)); have HP6 := hid hP2; have HS6 := hid HB5.out.size; have HS35 := hid (show R < w5.heap.size from by have := HB35.out.size; omega); obtain ⟨K6, r0, r1, rf0, rf1⟩ := HK.out w6 HB36.out) | (go_at_call 49; refine (HCL.out _).mono ?_; rintro en w5 ⟨rfl, hb5⟩; have HB35 := hid (show Below W3.heap.size W3 w5 from ⟨hb5.os, hb5.tape, hb5.output, hb5.size, hb5.block⟩); have HB5 := hid (HBW.out.trans (HB35.out.mono HBW.out.size)); have K5 := (HK.out w5 HB35.out).1))
      have HFN := hid (show WhoQ w k ds (.returned (.tuple #[.agg #[.string (tx nm), .slice ao q.1.cls.length cp], .bool true])) ((w6.setCell ⟨R, 0, none⟩ (.string (tx nm))).setCell ⟨R, 1, none⟩ (.slice ao q.1.cls.length cp)) from by
        refine ⟨(HB6.out.setCell (by exact hRw) _).setCell (by exact hRw) _, .inr ⟨k, q, _, rfl, HQ.out, by rw [HNM.out], ao, cp, rfl, HP6.out.1, HP6.out.2.imp id fun ⟨b, e, hb, cs, hcs, hz⟩ => ⟨b, e, by have := HS6.out; omega, cs, ?_, hz⟩⟩⟩
        have hbR : b ≠ R := by have := HS35.out; omega
        rw [Below.heap_setCell _ _ _ _ (by exact hbR), Below.heap_setCell _ _ _ _ (by exact hbR)]
        exact hcs)
      obtain ⟨V, hV⟩ : ∃ V, V = (w6.setCell ⟨R, 0, none⟩ (.string (tx nm))).setCell ⟨R, 1, none⟩ (.slice ao q.1.cls.length cp) := ⟨_, rfl⟩
      have hvb : ∃ c0 c1, w6.heap[R]? = some (.cells #[c0, c1] 49 (0, 0)) := ⟨_, _, HRB.out w6 HB36.out⟩
      obtain ⟨c0, c1, hvb⟩ := hvb
      have hvv : V.heap[R]? = some (.cells #[.string (tx nm), .slice ao q.1.cls.length cp] 49 (0, 0)) := by rw [hV, block_set (o := 1) _ (block_set (o := 0) _ hvb)]; rfl
      have v0 : V.cell? ⟨R, 0, none⟩ = some (.string (tx nm)) := by rw [cell_at hvv]; rfl
      have v1 : V.cell? ⟨R, 1, none⟩ = some (.slice ao q.1.cls.length cp) := by rw [cell_at hvv]; rfl
      rw [hV] at v0 v1
      clear hvv hvb hV r0 r1 rf0 rf1
      go_wp2
      refine bodyPost_ret (v := .tuple #[.agg #[.string (tx nm), .slice ao q.1.cls.length cp], .bool true]) (by simp [results, Tryz.results23, go_sem, v0, v1]) rfl ?_
      exact HFN.out
    · have HQ := hid (fun (W : World) (hb : Below w.heap.size w W) => (show WhoQ w k ds (.returned (.tuple #[.agg #[.string (tx []), .slice none 0 0], .bool false])) W from ⟨hb, .inl ⟨.inr (by omega), rfl⟩⟩))
      have k1 : (n : Int) ≤ (k : Int) := by omega
      have k2 : ¬ (k : Int) < 0 := by omega
      have k3 : n ≤ k := by omega
      rw [← hnn]
      clear hr hD hs hnn h0 h1
      go_enter Tryz.func23, Tryz.ntmps23
      go_wp2
      refine bodyPost_ret (v := .tuple #[.agg #[.string (tx []), .slice none 0 0], .bool false]) (by simp [results, Tryz.results23, go_sem]) rfl ?_
      exact HQ.out _ (HZB.out _ _)
end Go.Proofs.YtkepgjijidebhaaGreatDoor
namespace Go.Proofs.YtkepgjijidebhaaGreatDoor
open Wo (Wd)

/-- All words of a line are short. -/
def ShortL (M : Nat) (l : List Wd) : Prop := ∀ x ∈ l, x.1.length ≤ M
theorem ShortL.tail {M : Nat} {l : List Wd} (h : ShortL M l) : ShortL M l.tail := fun x hx => h x (List.mem_of_mem_tail hx)
theorem put_memL {x : List UInt8} {l : List (List UInt8)} {z : List UInt8} (h : z ∈ Ru.put l x) : z = x ∨ z ∈ l := by
  by_cases hx : x ∈ l
  · rw [To.put_old hx] at h; exact .inr h
  · rw [To.put_new hx, List.mem_append] at h
    rcases h with h | h
    · exact .inr (List.mem_of_mem_take h)
    · rcases List.mem_cons.1 h with h | h
      · exact .inl h
      · exact .inr (List.mem_of_mem_drop h)
theorem lst_bound {e : Wd} (he : e.1 = []) {most M : Nat} : ∀ (n : Nat) (l : List Wd) (acc ns : List (List UInt8)) (t : List Wd), l.length ≤ n → ShortL M l → (∀ z ∈ acc, z.length ≤ M) → acc.length ≤ most → To.lst e most l acc = .ok (ns, t) → (∀ z ∈ ns, z.length ≤ M) ∧ ns.length ≤ most := by
  intro n
  induction n with
  | zero =>
    intro l acc ns t hn hl ha hm h
    have : l = [] := List.length_eq_zero_iff.1 (by omega)
    subst this
    rw [To.lst] at h; cases h
  | succ n ih =>
    intro l acc ns t hn hl ha hm h
    cases l with
    | nil => rw [To.lst] at h; cases h
    | cons w r =>
      rw [To.lst_eq he, show Ru.nx e (w :: r) = w from rfl] at h
      by_cases h1 : Wo.nameB w.1 = false
      · rw [if_pos h1] at h; cases h
      rw [if_neg h1] at h
      by_cases h2 : w.1 ∉ acc ∧ most ≤ acc.length
      · rw [if_pos h2] at h; cases h
      rw [if_neg h2] at h
      have hp1 : ∀ z ∈ Ru.put acc w.1, z.length ≤ M := fun z hz => by
        rcases put_memL hz with rfl | hz
        · exact hl w List.mem_cons_self
        · exact ha z hz
      have hp2 : (Ru.put acc w.1).length ≤ most := by
        rw [To.put_len]
        by_cases q : w.1 ∈ acc
        · rw [if_pos q]; exact hm
        · rw [if_neg q]
          have : ¬ most ≤ acc.length := fun k => h2 ⟨q, k⟩
          omega
      by_cases h3 : (Ru.nx e (w :: r).tail).1 = To.comma
      · rw [if_pos h3] at h
        exact ih _ _ _ _ (by simp only [List.length_cons, List.length_tail] at hn ⊢; omega) hl.tail.tail hp1 hp2 h
      · rw [if_neg h3] at h
        injection h with h
        injection h with h _
        rw [← h]; exact ⟨hp1, hp2⟩
theorem opt_bound {e : Wd} (he : e.1 = []) {most M : Nat} {kw : List UInt8} {l t : List Wd} {ns : List (List UInt8)} (hl : ShortL M l) (h : To.opt e most kw l = .ok (ns, t)) : (∀ z ∈ ns, z.length ≤ M) ∧ ns.length ≤ most := by
  unfold To.opt at h
  split at h
  · exact lst_bound he _ _ _ _ _ (Nat.le_refl _) hl.tail (fun z hz => by cases hz) (Nat.zero_le _) h
  · injection h with h
    injection h with h _
    rw [← h]; exact ⟨fun z hz => (by cases hz), Nat.zero_le _⟩
/-- A device's classes are few and short. -/
def ClsOk (M : Nat) (d : To.Dv) : Prop := (∀ z ∈ d.cls, z.length ≤ M) ∧ d.cls.length ≤ 16
theorem dev_bound {x e : Wd} (he : e.1 = []) {M : Nat} {ns : List (List UInt8)} {l : List Wd} {d : To.Dv} (hl : ShortL M l) (h : To.dev x e ns l = .ok d) : ClsOk M d := by
  unfold To.dev at h
  split at h
  · cases h
  · split at h
    · cases h
    · unfold To.devA at h
      split at h
      · cases h
      · rename_i cs r ho
        have hb := opt_bound he hl.tail ho
        unfold To.devB at h
        split at h
        · cases h
        · split at h
          · cases h
          · split at h
            · cases h
            · injection h with h
              rw [← h]; exact hb
theorem rdsT_bound {M : Nat} : ∀ (ls : List (List Wd)) (i : Nat) (s t : TSt), (∀ l ∈ ls, ShortL M l) → (∀ d ∈ s.ds, ClsOk M d) → rdsT i s ls = .ok t → ∀ d ∈ t.ds, ClsOk M d
  | [], i, s, t, _, hs, h => by rw [rdsT] at h; injection h with h; rw [← h]; exact hs
  | [] :: _, i, s, t, _, hs, h => by rw [rdsT] at h; injection h with h; rw [← h]; exact hs
  | (x :: r) :: ls, i, s, t, hl, hs, h => by
    rw [rdsT_cons] at h
    cases hL : linT i s x (Ru.endW (x :: r)) r with
    | error f => rw [hL] at h; cases h
    | ok s' =>
      rw [hL] at h
      refine rdsT_bound ls (i + 1) s' t (fun l hl' => hl l (List.mem_cons_of_mem _ hl')) ?_ h
      have hsh : ShortL M r := fun y hy => hl (x :: r) List.mem_cons_self y (List.mem_cons_of_mem _ hy)
      unfold linT at hL
      split at hL
      · split at hL
        · split at hL
          · cases hL
          · injection hL with hL; rw [← hL]; exact hs
        · cases hL
      · split at hL
        · cases hL
        · split at hL
          · split at hL
            · cases hL
            · rename_i d hd
              injection hL with hL
              rw [← hL]
              intro q hq
              rcases List.mem_append.1 hq with hq | hq
              · exact hs q hq
              · rw [List.mem_singleton.1 hq]
                exact dev_bound (Ru.endW_text _) hsh hd
          · split at hL
            · split at hL
              · cases hL
              · injection hL with hL; rw [← hL]; exact hs
            · cases hL
theorem prsT_bound {s : List UInt8} {t : TSt} (h : prsT s = .ok t) : t.ds ≠ [] ∧ ∀ d ∈ t.ds, ClsOk s.length d := by
  unfold prsT at h
  split at h
  · cases h
  · unfold readT at h
    split at h
    · cases h
    · split at h
      · cases h
      · rename_i s1 hs1
        split at h
        · cases h
        · rename_i hne
          injection h with h
          subst h
          exact ⟨hne, rdsT_bound _ _ _ _ (fun l hl x hx => ((read_boundsJ s).2 l hl).2.2 x hx |>.1) (fun d hd => by cases hd) hs1⟩
end Go.Proofs.YtkepgjijidebhaaGreatDoor
namespace Go.Proofs.YtkepgjijidebhaaGreatDoor
open Go.RowKit
open Wo (Wd)

set_option maxRecDepth 20000 in
set_option maxHeartbeats 4000000 in
theorem town_at (s t : ByteArray) (l : List UInt8) (w : World) (ht : t = tx l) (hl : l.length ≤ 1048576) (hs : (¬ 3000 < s.size ∧ t = s) ∨ (3000 < s.size ∧ t = s.extract 0 3000)) :
    Calls Tryz.prog 8 #[.string s] w fun e w' => e = .returned (.bool true) ∧ Below w.heap.size w w' := by
  have HAL := hid alive11
  have HP := hid (fun w' => oParse_any l w' hl)
  have HD := hid (fun w' => Dt.RParse11_any l w' hl)
  have HBD := hid (fun (t : TSt) (h : prsT l = .ok t) => prsT_bound h)
  have HLN := hid hl
  unfold PrsQ at HP
  unfold Dt.RPrsQ at HD
  rw [← ht] at HP HD
  obtain ⟨r, hr0⟩ : ∃ r, r = prsT l := ⟨_, rfl⟩
  rw [← hr0] at HP HD HBD
  clear ht hl hr0
  rcases hs with ⟨h, rfl⟩ | ⟨h, rfl⟩
  · have hI : ¬ ((3000 : Int) < (t.size : Int)) := by omega
    go_enter Tryz.func8, Tryz.ntmps8
    go_wp2_with fail
    refine (HP.out _).mono ?_
    rintro en w1 ⟨hb1, ⟨f, hf, rfl⟩ | ⟨t, vs, ds1, ls1, c1, c2, hr, hok, hof, rfl, p1, p2, p3, p4, hd, hk⟩⟩
    · subst hf
      have HB1 := hid hb1
      obtain ⟨W1, hW1⟩ : ∃ W1, W1 = w1.alloc (topJ (.int .i64 0) (.slice none 0 0) (.slice none 0 0)) := ⟨_, rfl⟩
      obtain ⟨N1, hN1⟩ : ∃ N1, N1 = w1.heap.size := ⟨_, rfl⟩
      have HBW1 := hid (show Below w.heap.size w W1 from by rw [hW1]; exact hb1.alloc hb1.size _)
      have HT1 := hid (show W1.heap[N1]? = some (topJ (.int .i64 0) (.slice none 0 0) (.slice none 0 0)) from by rw [hW1, hN1]; exact new_0 _ _)
      clear hb1
      go_wp2_with fail
      rw [← hN1, ← hW1]
      clear hN1 hW1
      refine (HD.out _).mono ?_
      rintro en w2 ⟨hb2, ⟨f2, hf2, rfl⟩ | ⟨t2, vs2, ns, ds2, ls2, x1, x2, hr2, _⟩⟩
      case inr => cases hr2
      injection hf2 with hf2
      subst hf2
      obtain ⟨W2, hW2⟩ : ∃ W2, W2 = w2.alloc (topJ (.int .i64 0) (.slice none 0 0) (.slice none 0 0)) := ⟨_, rfl⟩
      obtain ⟨N2, hN2⟩ : ∃ N2, N2 = w2.heap.size := ⟨_, rfl⟩
      have h12 : W2.heap[N1]? = some (topJ (.int .i64 0) (.slice none 0 0) (.slice none 0 0)) := by
        have h1 := (hb2.block N1 (lt_of_block HT1.out)).trans HT1.out
        rw [hW2, Below.heap_alloc _ _ _ (lt_of_block h1)]; exact h1
      have h22 : W2.heap[N2]? = some (topJ (.int .i64 0) (.slice none 0 0) (.slice none 0 0)) := by rw [hW2, hN2]; exact new_0 _ _
      have HBW2 := hid (show Below w.heap.size w W2 from by
        have := below_twoJ HBW1.out hb2
        rw [hW2]; exact this.alloc this.size _)
      obtain ⟨s0, s1, s2⟩ := topJ_cells h12
      obtain ⟨t0, t1, t2⟩ := topJ_cells h22
      have HS := hid (fun (W : World) => RSameT_any (w := W) (wd := 0) (wd' := 0) (ds := []) (ds' := []) (ls := []) (ls' := []) (vd := .slice none 0 0) (vl := .slice none 0 0) (vd' := .slice none 0 0) (vl' := .slice none 0 0) ⟨⟨none, 0, rfl, .inl rfl⟩, fun q hq => by simp at hq, fun q hq => by simp at hq⟩ ⟨none, 0, rfl, .inl rfl⟩ ⟨⟨none, 0, rfl, .inl rfl⟩, fun q hq => by simp at hq, fun q hq => by simp at hq⟩ ⟨none, 0, rfl, .inl rfl⟩ (by simp) (by simp))
      rw [show sameT 0 (([] : List (To.Dv × Value × Value)).map (·.1)) [] 0 (([] : List (To.Dv × Value × Value)).map (·.1)) [] = true from sameT_refl _ _ _] at HS
      have h12' := h12
      have h22' := h22
      clear h12 h22 hb2 HP HD
      have HWH := hid (fun (W : World) => oWho_any (w := W) (wd := .int .i64 0) (dv := none) (N := 0) (dc := 0) (vl := .slice none 0 0) (ds := []) ⟨⟨none, 0, rfl, .inl rfl⟩, fun q hq => by simp at hq, fun q hq => by simp at hq⟩ 0 (by simp) (fun q hq => by simp at hq) ⟨_, _, _, rfl⟩ ⟨_, rfl⟩)
      have hne1 : ((f.2.2 : Int) != (f.2.2 : Int)) = false := by simp
      have HT12 := hid (And.intro h12' h22')
      clear h12' h22'
      go_upto_region 5 with fail
      rw [← hN2, ← hW2]
      clear hN2 hW2
      go_wp2_with fail
      refine (HWH.out _).mono ?_
      rintro en w3 ⟨hb3, ⟨-, rfl⟩ | ⟨k, q, v', -, hq, _⟩⟩
      case inr => simp at hq
      obtain ⟨W3, hW3⟩ : ∃ W3, W3 = w3.alloc (.cells #[.string (tx []), .slice none 0 0] 49) := ⟨_, rfl⟩
      obtain ⟨N3, hN3⟩ : ∃ N3, N3 = w3.heap.size := ⟨_, rfl⟩
      have hB3 : Below W2.heap.size W2 W3 := by rw [hW3]; exact hb3.alloc hb3.size _
      have h33 : W3.heap[N3]? = some (.cells #[.string (tx []), .slice none 0 0] 49 (0, 0)) := by rw [hW3, hN3]; exact new_0 _ _
      have HB3 := hid (below_twoJ HBW2.out hB3)
      have x1 : W3.cell? ⟨N3, 1, none⟩ = some (.slice none 0 0) := by rw [cell_at h33]; rfl
      clear s0 s1 s2 t0 t1 t2
      obtain ⟨s0, s1, s2⟩ := topJ_cells ((hB3.block _ (lt_of_block HT12.out.1)).trans HT12.out.1)
      obtain ⟨t0, t1, t2⟩ := topJ_cells ((hB3.block _ (lt_of_block HT12.out.2)).trans HT12.out.2)
      clear hb3 hB3 h33
      go_upto_region 8 with fail
      rw [← hN3, ← hW3]
      clear hN3 hW3
      go_wp2_with fail
      refine wp_loop_rounds 1 ?_
      rw [rounds_succ]
      go_wp2_with fail
      refine (HS.out _).mono ?_
      rintro en w4 ⟨rfl, hb4⟩
      have HB4 := hid (below_twoJ HB3.out hb4)
      clear hb4 s0 s1 s2 t0 t1 t2 x1
      go_wp2_with (first | (go_at_call 12; refine (HAL.out _).mono ?_; rintro e w9 ⟨rfl, hb9⟩))
      go_ret
      exact ⟨rfl, below_twoJ HB4.out hb9⟩
    · subst hr
      have HB1 := hid hb1
      obtain ⟨av, ac, h1⟩ := own_formJ hd.row
      obtain ⟨bv, bc, h2⟩ := own_formJ hk
      obtain ⟨n1, hn1⟩ : ∃ n1, n1 = ds1.length := ⟨_, rfl⟩
      obtain ⟨m1, hm1⟩ : ∃ m1, m1 = ls1.length := ⟨_, rfl⟩
      rw [← hn1] at h1
      rw [← hm1] at h2
      subst h1; subst h2
      have HX1 := hid (show DvL w1 (.slice av n1 ac) ds1 ∧ LkV w1 (.slice bv m1 bc) (ls1.map lkz) from ⟨hd.lies, own_lkv hk⟩)
      have HY1 := hid (show ds1.Perm vs ∧ ds1.Pairwise (fun a b => ¬ b.1.name < a.1.name) ∧ ls1.Perm (t.ls.map (renL (posF vs ds1))) ∧ ls1.Pairwise (fun a b => ¬ ocE b.a b.p a.a a.p < 0) from ⟨p1, p2, p3, p4.imp (fun h => by first | exact h | exact Int.not_lt.2 h)⟩)
      have HOK := hid hok
      have HOF := hid hof
      obtain ⟨W1, hW1⟩ : ∃ W1, W1 = w1.alloc (topJ (.int .i64 t.wid) (.slice av n1 ac) (.slice bv m1 bc)) := ⟨_, rfl⟩
      obtain ⟨N1, hN1⟩ : ∃ N1, N1 = w1.heap.size := ⟨_, rfl⟩
      have HA1 := hid (show Below w1.heap.size w1 W1 from by rw [hW1]; exact (Below.refl _ _).alloc (Nat.le_refl _) _)
      have HBW1 := hid (show Below w.heap.size w W1 from by rw [hW1]; exact hb1.alloc hb1.size _)
      have HT1 := hid (show W1.heap[N1]? = some (topJ (.int .i64 t.wid) (.slice av n1 ac) (.slice bv m1 bc)) from by rw [hW1, hN1]; exact new_0 _ _)
      have HN1 := hid hn1
      clear hb1 p1 p2 p3 p4 hd hk hok hof hn1 hm1
      go_wp2_with fail
      rw [← hN1, ← hW1]
      clear hN1 hW1
      refine (HD.out _).mono ?_
      rintro en w2 ⟨hb2, ⟨f2, hf2, _⟩ | ⟨t2, vs2, ns, ds2, ls2, x1, x2, hr2, hok2, hsim, hof2, rfl, q1, q2, q3, q4, hd2, hk2⟩⟩
      case inl => cases hf2
      injection hr2 with hr2
      subst hr2
      obtain ⟨cv, cc, h1⟩ := own_formJ hd2.row
      obtain ⟨dv, dc, h2⟩ := own_formJ hk2
      obtain ⟨n2, hn2⟩ : ∃ n2, n2 = ds2.length := ⟨_, rfl⟩
      obtain ⟨m2, hm2⟩ : ∃ m2, m2 = ls2.length := ⟨_, rfl⟩
      rw [← hn2] at h1
      rw [← hm2] at h2
      subst h1; subst h2
      obtain ⟨HED, HEL⟩ := two_topos HOK.out hsim HOF.out hof2 HY1.out.1 q1 HY1.out.2.1 q2 HY1.out.2.2.1 q3 (HY1.out.2.2.2.imp (fun h => by first | exact h | exact Int.not_lt.2 h)) (q4.imp (fun h => by first | exact h | exact Int.not_lt.2 h))
      obtain ⟨W2, hW2⟩ : ∃ W2, W2 = w2.alloc (topJ (.int .i64 t.wid) (.slice cv n2 cc) (.slice dv m2 dc)) := ⟨_, rfl⟩
      have HN2 := hid hn2
      clear hm2
      obtain ⟨N2, hNb⟩ : ∃ N2, N2 = w2.heap.size := ⟨_, rfl⟩
      have h12 : W2.heap[N1]? = some (topJ (.int .i64 t.wid) (.slice av n1 ac) (.slice bv m1 bc)) := by
        have h1 := (hb2.block N1 (lt_of_block HT1.out)).trans HT1.out
        rw [hW2, Below.heap_alloc _ _ _ (lt_of_block h1)]; exact h1
      have h22 : W2.heap[N2]? = some (topJ (.int .i64 t.wid) (.slice cv n2 cc) (.slice dv m2 dc)) := by rw [hW2, hNb]; exact new_0 _ _
      have HA2 : Below w2.heap.size w2 W2 := by rw [hW2]; exact (Below.refl _ _).alloc (Nat.le_refl _) _
      have HBW2 := hid (show Below w.heap.size w W2 from by
        have := below_twoJ HBW1.out hb2
        rw [hW2]; exact this.alloc this.size _)
      obtain ⟨s0, s1, s2⟩ := topJ_cells h12
      obtain ⟨t0, t1, t2⟩ := topJ_cells h22
      have h12' := h12
      have h22' := h22
      clear h12 h22 hn2
      have hne1 : ¬ n1 = 0 := by
        have := HOF.out
        have hb := (HBD.out t rfl).1
        intro e
        rw [HN1.out, HY1.out.1.length_eq] at e
        rw [List.eq_nil_of_length_eq_zero e] at this
        exact hb this.symm
      have HT12 := hid (And.intro h12' h22')
      have HWH := hid (oWho_any (w := W2) (wd := .int .i64 t.wid) (vl := .slice bv m1 bc) (((HX1.out.1.below HA1.out).below hb2).below HA2) 0 (by have := HY1.out.1.length_eq; have := HOK.out.dl; rw [← HOF.out, List.length_map] at this; unfold maxLen; omega) (fun q hq => by
        have hm : q.1 ∈ t.ds := by rw [← HOF.out]; exact List.mem_map.2 ⟨q, HY1.out.1.mem_iff.1 hq, rfl⟩
        have h1 := HOK.out.sm q.1 hm
        have h2 := (HBD.out t rfl).2 q.1 hm
        have h3 := HLN.out
        exact ⟨by omega, by have := h2.2; omega, fun z hz => by have := h2.1 z hz; omega⟩) ⟨_, _, _, rfl⟩ ⟨_, rfl⟩)
      have hn12 : ¬ n2 = 0 := by rw [HN2.out]; rw [HN1.out] at hne1; have := congrArg List.length HED; rw [List.length_map, List.length_map] at this; omega
      have hn2I : (0 : Int) < (n2 : Int) := by omega
      have HN1' := hid hne1
      have HNN := hid HN1.out
      have HSS := hid (fun (W : World) (hW : Below W2.heap.size W2 W) => (by
        have h1 := RSameT_any (w := W) (wd := (t.wid : Int)) (wd' := (t.wid : Int)) ((((HX1.out.1.below HA1.out).below hb2).below HA2).below hW) ((((HX1.out.2.below HA1.out).below hb2).below HA2).below hW) ((hd2.lies.below HA2).below hW) (((own_lkv hk2).below HA2).below hW) (by have := HY1.out.1.length_eq; have := HOK.out.dl; rw [← HOF.out, List.length_map] at this; unfold maxLen; omega) (by rw [List.length_map]; have h1 := HY1.out.2.2.1.length_eq; rw [List.length_map] at h1; have := HOK.out.ll; unfold maxLen; omega)
        rw [HED, HEL, sameT_refl] at h1
        exact h1 : Calls Tryz.prog 11 #[.agg #[.int .i64 t.wid, .slice av n1 ac, .slice bv m1 bc], .agg #[.int .i64 t.wid, .slice cv n2 cc, .slice dv m2 dc]] W fun e w' => e = .returned (.bool true) ∧ Below W.heap.size W w'))
      clear h12' h22' hne1 hb2 HP HD q1 q2 q3 q4 hd2 hk2 hok2 hsim hof2 HED HEL HA2
      go_upto_region 5 with fail
      rw [← hNb, ← hW2]
      clear hNb hW2
      go_wp2_with fail
      refine HWH.out.mono ?_
      rintro en w3 ⟨hb3, ⟨hbad, _⟩ | ⟨k, q, v', -, hq, rfl, hP⟩⟩
      case inl => exact absurd hbad (by have := HNN.out; have := HN1'.out; omega)
      obtain ⟨ao, cp, rfl, hcp, hT⟩ := hP
      obtain ⟨m, hm⟩ : ∃ m, m = q.1.cls.length := ⟨_, rfl⟩
      have HMM := hid hm
      rw [← hm] at hcp ⊢
      obtain ⟨nm, hnm⟩ : ∃ nm, nm = q.1.name := ⟨_, rfl⟩
      rw [← hnm]
      obtain ⟨W3, hW3⟩ : ∃ W3, W3 = w3.alloc (.cells #[.string (tx nm), .slice ao m cp] 49) := ⟨_, rfl⟩
      obtain ⟨N3, hN3⟩ : ∃ N3, N3 = w3.heap.size := ⟨_, rfl⟩
      have hm16 : m ≤ 16 := by
        have hmem : q.1 ∈ t.ds := by rw [← HOF.out]; exact List.mem_map.2 ⟨q, HY1.out.1.mem_iff.1 (List.mem_of_getElem? hq), rfl⟩
        rw [hm]; exact ((HBD.out t rfl).2 q.1 hmem).2
      have I0 := hid (show Below W2.heap.size W2 W3 ∧ W3.heap[N3]? = some (.cells #[.string (tx nm), .slice ao m cp] 49 (0, 0)) ∧ (m = 0 ∨ ∃ b, ao = some ⟨b, 0, none⟩ ∧ W2.heap.size ≤ b ∧ b < N3 ∧ ∃ cs, W3.heap[b]? = some (.cells cs 9 (0, 0)) ∧ m ≤ cs.size) from by
        refine ⟨by rw [hW3]; exact hb3.alloc hb3.size _, by rw [hW3, hN3]; exact new_0 _ _, ?_⟩
        rcases hT with h0 | ⟨b, e, hb, hTb⟩
        · left; rw [hm, h0]; rfl
        · by_cases h0 : m = 0
          · exact .inl h0
          · right
            obtain ⟨cs, hcs, hz⟩ := id hTb
            refine ⟨b, e, hb, by rw [hN3]; exact hTb.lt, cs, by rw [hW3, Below.heap_alloc _ _ _ hTb.lt]; exact hcs, ?_⟩
            obtain ⟨z, hz'⟩ : ∃ z, q.1.cls[m - 1]? = some z := ⟨_, List.getElem?_eq_getElem (by omega)⟩
            have := (Array.getElem?_eq_some_iff.1 (hz (m - 1) z hz')).1
            omega)
      clear hT hb3 hm hnm hq s0 s1 s2 t0 t1 t2
      have x1 : W3.cell? ⟨N3, 1, none⟩ = some (.slice ao m cp) := by rw [cell_at I0.out.2.1]; rfl
      go_upto_region 8 with fail
      rw [← hN3, ← hW3]
      clear hN3 hW3
      go_wp2_with fail
      clear x1
      go_loopw [13, 44] (fun _ vi wr => ∃ j : Nat, j ≤ m ∧ vi = .int .i64 j ∧ Hid (Below W2.heap.size W2 wr ∧ wr.heap[N3]? = some (.cells #[.string (tx nm), .slice ao m cp] 49 (0, 0)) ∧ (m = 0 ∨ ∃ b, ao = some ⟨b, 0, none⟩ ∧ W2.heap.size ≤ b ∧ b < N3 ∧ ∃ cs, wr.heap[b]? = some (.cells cs 9 (0, 0)) ∧ m ≤ cs.size))) (fun _ vi _ => m - (intOf vi).toNat)
      case atStart => exact ⟨0, Nat.zero_le _, rfl, I0⟩
      case round =>
        obtain ⟨j, hj, rfl, HJ⟩ := hrel
        have x1 : wr.cell? ⟨N3, 1, none⟩ = some (.slice ao m cp) := by rw [cell_at HJ.out.2.1]; rfl
        by_cases hlt : j < m
        · obtain ⟨b, rfl, hb, hbN, cs, hcs, hsz⟩ := HJ.out.2.2.resolve_left (fun e => by omega)
          have jI : (j : Int) < (m : Int) := by omega
          have j0 : (0 : Int) ≤ (j : Int) := by omega
          have y0 : ∃ u, wr.cell? ⟨b, j, none⟩ = some u := by rw [cell_at hcs]; exact ⟨_, Array.getElem?_eq_getElem (by omega)⟩
          obtain ⟨u, y0⟩ := y0
          have yf : wr.frozen? ⟨b, j, none⟩ = false := free_of hcs
          have HN2 := hid (show Below W2.heap.size W2 (wr.setCell ⟨b, j, none⟩ (.string ⟨#[]⟩)) ∧ (wr.setCell ⟨b, j, none⟩ (.string ⟨#[]⟩)).heap[N3]? = some (.cells #[.string (tx nm), .slice (some ⟨b, 0, none⟩) m cp] 49 (0, 0)) ∧ (m = 0 ∨ ∃ b', (some ⟨b, 0, none⟩ : Option Addr) = some ⟨b', 0, none⟩ ∧ W2.heap.size ≤ b' ∧ b' < N3 ∧ ∃ cs, (wr.setCell ⟨b, j, none⟩ (.string ⟨#[]⟩)).heap[b']? = some (.cells cs 9 (0, 0)) ∧ m ≤ cs.size) from by
            refine ⟨HJ.out.1.setCell (by exact hb) _, by rw [Below.heap_setCell _ _ _ _ (by show N3 ≠ b; omega)]; exact HJ.out.2.1, .inr ⟨b, rfl, hb, hbN, _, block_set (o := j) _ hcs, by simpa using hsz⟩⟩)
          clear hcs
          go_wp2
          go_roundw
          case rel => exact ⟨j + 1, by omega, by go_num, HN2⟩
          case measure => simp [intOf]; omega
        · have hI : ¬ (j : Int) < (m : Int) := by omega
          have HB3 := hid (below_twoJ HBW2.out HJ.out.1)
          have HS := hid (HSS.out wr HJ.out.1)
          obtain ⟨s0, s1, s2⟩ := topJ_cells ((HJ.out.1.block _ (lt_of_block HT12.out.1)).trans HT12.out.1)
          obtain ⟨t0, t1, t2⟩ := topJ_cells ((HJ.out.1.block _ (lt_of_block HT12.out.2)).trans HT12.out.2)
          go_wp2_with fail
          refine HS.out.mono ?_
          rintro en w4 ⟨rfl, hb4⟩
          have HB4 := hid (below_twoJ HB3.out hb4)
          clear hb4 s0 s1 s2 t0 t1 t2
          go_wp2_with (first | (go_at_call 12; refine (HAL.out _).mono ?_; rintro e w9 ⟨rfl, hb9⟩))
          go_ret
          exact ⟨rfl, below_twoJ HB4.out hb9⟩
  · have hI : (3000 : Int) < (s.size : Int) := by omega
    have hI2 : (3000 : Int) ≤ (s.size : Int) := by omega
    go_enter Tryz.func8, Tryz.ntmps8
    go_wp2_with fail
    refine (HP.out _).mono ?_
    rintro en w1 ⟨hb1, ⟨f, hf, rfl⟩ | ⟨t, vs, ds1, ls1, c1, c2, hr, hok, hof, rfl, p1, p2, p3, p4, hd, hk⟩⟩
    · subst hf
      have HB1 := hid hb1
      obtain ⟨W1, hW1⟩ : ∃ W1, W1 = w1.alloc (topJ (.int .i64 0) (.slice none 0 0) (.slice none 0 0)) := ⟨_, rfl⟩
      obtain ⟨N1, hN1⟩ : ∃ N1, N1 = w1.heap.size := ⟨_, rfl⟩
      have HBW1 := hid (show Below w.heap.size w W1 from by rw [hW1]; exact hb1.alloc hb1.size _)
      have HT1 := hid (show W1.heap[N1]? = some (topJ (.int .i64 0) (.slice none 0 0) (.slice none 0 0)) from by rw [hW1, hN1]; exact new_0 _ _)
      clear hb1
      go_wp2_with fail
      rw [← hN1, ← hW1]
      clear hN1 hW1
      refine (HD.out _).mono ?_
      rintro en w2 ⟨hb2, ⟨f2, hf2, rfl⟩ | ⟨t2, vs2, ns, ds2, ls2, x1, x2, hr2, _⟩⟩
      case inr => cases hr2
      injection hf2 with hf2
      subst hf2
      obtain ⟨W2, hW2⟩ : ∃ W2, W2 = w2.alloc (topJ (.int .i64 0) (.slice none 0 0) (.slice none 0 0)) := ⟨_, rfl⟩
      obtain ⟨N2, hN2⟩ : ∃ N2, N2 = w2.heap.size := ⟨_, rfl⟩
      have h12 : W2.heap[N1]? = some (topJ (.int .i64 0) (.slice none 0 0) (.slice none 0 0)) := by
        have h1 := (hb2.block N1 (lt_of_block HT1.out)).trans HT1.out
        rw [hW2, Below.heap_alloc _ _ _ (lt_of_block h1)]; exact h1
      have h22 : W2.heap[N2]? = some (topJ (.int .i64 0) (.slice none 0 0) (.slice none 0 0)) := by rw [hW2, hN2]; exact new_0 _ _
      have HBW2 := hid (show Below w.heap.size w W2 from by
        have := below_twoJ HBW1.out hb2
        rw [hW2]; exact this.alloc this.size _)
      obtain ⟨s0, s1, s2⟩ := topJ_cells h12
      obtain ⟨t0, t1, t2⟩ := topJ_cells h22
      have HS := hid (fun (W : World) => RSameT_any (w := W) (wd := 0) (wd' := 0) (ds := []) (ds' := []) (ls := []) (ls' := []) (vd := .slice none 0 0) (vl := .slice none 0 0) (vd' := .slice none 0 0) (vl' := .slice none 0 0) ⟨⟨none, 0, rfl, .inl rfl⟩, fun q hq => by simp at hq, fun q hq => by simp at hq⟩ ⟨none, 0, rfl, .inl rfl⟩ ⟨⟨none, 0, rfl, .inl rfl⟩, fun q hq => by simp at hq, fun q hq => by simp at hq⟩ ⟨none, 0, rfl, .inl rfl⟩ (by simp) (by simp))
      rw [show sameT 0 (([] : List (To.Dv × Value × Value)).map (·.1)) [] 0 (([] : List (To.Dv × Value × Value)).map (·.1)) [] = true from sameT_refl _ _ _] at HS
      have h12' := h12
      have h22' := h22
      clear h12 h22 hb2 HP HD
      have HWH := hid (fun (W : World) => oWho_any (w := W) (wd := .int .i64 0) (dv := none) (N := 0) (dc := 0) (vl := .slice none 0 0) (ds := []) ⟨⟨none, 0, rfl, .inl rfl⟩, fun q hq => by simp at hq, fun q hq => by simp at hq⟩ 0 (by simp) (fun q hq => by simp at hq) ⟨_, _, _, rfl⟩ ⟨_, rfl⟩)
      have hne1 : ((f.2.2 : Int) != (f.2.2 : Int)) = false := by simp
      have HT12 := hid (And.intro h12' h22')
      clear h12' h22'
      go_upto_region 5 with fail
      rw [← hN2, ← hW2]
      clear hN2 hW2
      go_wp2_with fail
      refine (HWH.out _).mono ?_
      rintro en w3 ⟨hb3, ⟨-, rfl⟩ | ⟨k, q, v', -, hq, _⟩⟩
      case inr => simp at hq
      obtain ⟨W3, hW3⟩ : ∃ W3, W3 = w3.alloc (.cells #[.string (tx []), .slice none 0 0] 49) := ⟨_, rfl⟩
      obtain ⟨N3, hN3⟩ : ∃ N3, N3 = w3.heap.size := ⟨_, rfl⟩
      have hB3 : Below W2.heap.size W2 W3 := by rw [hW3]; exact hb3.alloc hb3.size _
      have h33 : W3.heap[N3]? = some (.cells #[.string (tx []), .slice none 0 0] 49 (0, 0)) := by rw [hW3, hN3]; exact new_0 _ _
      have HB3 := hid (below_twoJ HBW2.out hB3)
      have x1 : W3.cell? ⟨N3, 1, none⟩ = some (.slice none 0 0) := by rw [cell_at h33]; rfl
      clear s0 s1 s2 t0 t1 t2
      obtain ⟨s0, s1, s2⟩ := topJ_cells ((hB3.block _ (lt_of_block HT12.out.1)).trans HT12.out.1)
      obtain ⟨t0, t1, t2⟩ := topJ_cells ((hB3.block _ (lt_of_block HT12.out.2)).trans HT12.out.2)
      clear hb3 hB3 h33
      go_upto_region 8 with fail
      rw [← hN3, ← hW3]
      clear hN3 hW3
      go_wp2_with fail
      refine wp_loop_rounds 1 ?_
      rw [rounds_succ]
      go_wp2_with fail
      refine (HS.out _).mono ?_
      rintro en w4 ⟨rfl, hb4⟩
      have HB4 := hid (below_twoJ HB3.out hb4)
      clear hb4 s0 s1 s2 t0 t1 t2 x1
      go_wp2_with (first | (go_at_call 12; refine (HAL.out _).mono ?_; rintro e w9 ⟨rfl, hb9⟩))
      go_ret
      exact ⟨rfl, below_twoJ HB4.out hb9⟩
    · subst hr
      have HB1 := hid hb1
      obtain ⟨av, ac, h1⟩ := own_formJ hd.row
      obtain ⟨bv, bc, h2⟩ := own_formJ hk
      obtain ⟨n1, hn1⟩ : ∃ n1, n1 = ds1.length := ⟨_, rfl⟩
      obtain ⟨m1, hm1⟩ : ∃ m1, m1 = ls1.length := ⟨_, rfl⟩
      rw [← hn1] at h1
      rw [← hm1] at h2
      subst h1; subst h2
      have HX1 := hid (show DvL w1 (.slice av n1 ac) ds1 ∧ LkV w1 (.slice bv m1 bc) (ls1.map lkz) from ⟨hd.lies, own_lkv hk⟩)
      have HY1 := hid (show ds1.Perm vs ∧ ds1.Pairwise (fun a b => ¬ b.1.name < a.1.name) ∧ ls1.Perm (t.ls.map (renL (posF vs ds1))) ∧ ls1.Pairwise (fun a b => ¬ ocE b.a b.p a.a a.p < 0) from ⟨p1, p2, p3, p4.imp (fun h => by first | exact h | exact Int.not_lt.2 h)⟩)
      have HOK := hid hok
      have HOF := hid hof
      obtain ⟨W1, hW1⟩ : ∃ W1, W1 = w1.alloc (topJ (.int .i64 t.wid) (.slice av n1 ac) (.slice bv m1 bc)) := ⟨_, rfl⟩
      obtain ⟨N1, hN1⟩ : ∃ N1, N1 = w1.heap.size := ⟨_, rfl⟩
      have HA1 := hid (show Below w1.heap.size w1 W1 from by rw [hW1]; exact (Below.refl _ _).alloc (Nat.le_refl _) _)
      have HBW1 := hid (show Below w.heap.size w W1 from by rw [hW1]; exact hb1.alloc hb1.size _)
      have HT1 := hid (show W1.heap[N1]? = some (topJ (.int .i64 t.wid) (.slice av n1 ac) (.slice bv m1 bc)) from by rw [hW1, hN1]; exact new_0 _ _)
      have HN1 := hid hn1
      clear hb1 p1 p2 p3 p4 hd hk hok hof hn1 hm1
      go_wp2_with fail
      rw [← hN1, ← hW1]
      clear hN1 hW1
      refine (HD.out _).mono ?_
      rintro en w2 ⟨hb2, ⟨f2, hf2, _⟩ | ⟨t2, vs2, ns, ds2, ls2, x1, x2, hr2, hok2, hsim, hof2, rfl, q1, q2, q3, q4, hd2, hk2⟩⟩
      case inl => cases hf2
      injection hr2 with hr2
      subst hr2
      obtain ⟨cv, cc, h1⟩ := own_formJ hd2.row
      obtain ⟨dv, dc, h2⟩ := own_formJ hk2
      obtain ⟨n2, hn2⟩ : ∃ n2, n2 = ds2.length := ⟨_, rfl⟩
      obtain ⟨m2, hm2⟩ : ∃ m2, m2 = ls2.length := ⟨_, rfl⟩
      rw [← hn2] at h1
      rw [← hm2] at h2
      subst h1; subst h2
      obtain ⟨HED, HEL⟩ := two_topos HOK.out hsim HOF.out hof2 HY1.out.1 q1 HY1.out.2.1 q2 HY1.out.2.2.1 q3 (HY1.out.2.2.2.imp (fun h => by first | exact h | exact Int.not_lt.2 h)) (q4.imp (fun h => by first | exact h | exact Int.not_lt.2 h))
      obtain ⟨W2, hW2⟩ : ∃ W2, W2 = w2.alloc (topJ (.int .i64 t.wid) (.slice cv n2 cc) (.slice dv m2 dc)) := ⟨_, rfl⟩
      have HN2 := hid hn2
      clear hm2
      obtain ⟨N2, hNb⟩ : ∃ N2, N2 = w2.heap.size := ⟨_, rfl⟩
      have h12 : W2.heap[N1]? = some (topJ (.int .i64 t.wid) (.slice av n1 ac) (.slice bv m1 bc)) := by
        have h1 := (hb2.block N1 (lt_of_block HT1.out)).trans HT1.out
        rw [hW2, Below.heap_alloc _ _ _ (lt_of_block h1)]; exact h1
      have h22 : W2.heap[N2]? = some (topJ (.int .i64 t.wid) (.slice cv n2 cc) (.slice dv m2 dc)) := by rw [hW2, hNb]; exact new_0 _ _
      have HA2 : Below w2.heap.size w2 W2 := by rw [hW2]; exact (Below.refl _ _).alloc (Nat.le_refl _) _
      have HBW2 := hid (show Below w.heap.size w W2 from by
        have := below_twoJ HBW1.out hb2
        rw [hW2]; exact this.alloc this.size _)
      obtain ⟨s0, s1, s2⟩ := topJ_cells h12
      obtain ⟨t0, t1, t2⟩ := topJ_cells h22
      have h12' := h12
      have h22' := h22
      clear h12 h22 hn2
      have hne1 : ¬ n1 = 0 := by
        have := HOF.out
        have hb := (HBD.out t rfl).1
        intro e
        rw [HN1.out, HY1.out.1.length_eq] at e
        rw [List.eq_nil_of_length_eq_zero e] at this
        exact hb this.symm
      have HT12 := hid (And.intro h12' h22')
      have HWH := hid (oWho_any (w := W2) (wd := .int .i64 t.wid) (vl := .slice bv m1 bc) (((HX1.out.1.below HA1.out).below hb2).below HA2) 0 (by have := HY1.out.1.length_eq; have := HOK.out.dl; rw [← HOF.out, List.length_map] at this; unfold maxLen; omega) (fun q hq => by
        have hm : q.1 ∈ t.ds := by rw [← HOF.out]; exact List.mem_map.2 ⟨q, HY1.out.1.mem_iff.1 hq, rfl⟩
        have h1 := HOK.out.sm q.1 hm
        have h2 := (HBD.out t rfl).2 q.1 hm
        have h3 := HLN.out
        exact ⟨by omega, by have := h2.2; omega, fun z hz => by have := h2.1 z hz; omega⟩) ⟨_, _, _, rfl⟩ ⟨_, rfl⟩)
      have hn12 : ¬ n2 = 0 := by rw [HN2.out]; rw [HN1.out] at hne1; have := congrArg List.length HED; rw [List.length_map, List.length_map] at this; omega
      have hn2I : (0 : Int) < (n2 : Int) := by omega
      have HN1' := hid hne1
      have HNN := hid HN1.out
      have HSS := hid (fun (W : World) (hW : Below W2.heap.size W2 W) => (by
        have h1 := RSameT_any (w := W) (wd := (t.wid : Int)) (wd' := (t.wid : Int)) ((((HX1.out.1.below HA1.out).below hb2).below HA2).below hW) ((((HX1.out.2.below HA1.out).below hb2).below HA2).below hW) ((hd2.lies.below HA2).below hW) (((own_lkv hk2).below HA2).below hW) (by have := HY1.out.1.length_eq; have := HOK.out.dl; rw [← HOF.out, List.length_map] at this; unfold maxLen; omega) (by rw [List.length_map]; have h1 := HY1.out.2.2.1.length_eq; rw [List.length_map] at h1; have := HOK.out.ll; unfold maxLen; omega)
        rw [HED, HEL, sameT_refl] at h1
        exact h1 : Calls Tryz.prog 11 #[.agg #[.int .i64 t.wid, .slice av n1 ac, .slice bv m1 bc], .agg #[.int .i64 t.wid, .slice cv n2 cc, .slice dv m2 dc]] W fun e w' => e = .returned (.bool true) ∧ Below W.heap.size W w'))
      clear h12' h22' hne1 hb2 HP HD q1 q2 q3 q4 hd2 hk2 hok2 hsim hof2 HED HEL HA2
      go_upto_region 5 with fail
      rw [← hNb, ← hW2]
      clear hNb hW2
      go_wp2_with fail
      refine HWH.out.mono ?_
      rintro en w3 ⟨hb3, ⟨hbad, _⟩ | ⟨k, q, v', -, hq, rfl, hP⟩⟩
      case inl => exact absurd hbad (by have := HNN.out; have := HN1'.out; omega)
      obtain ⟨ao, cp, rfl, hcp, hT⟩ := hP
      obtain ⟨m, hm⟩ : ∃ m, m = q.1.cls.length := ⟨_, rfl⟩
      have HMM := hid hm
      rw [← hm] at hcp ⊢
      obtain ⟨nm, hnm⟩ : ∃ nm, nm = q.1.name := ⟨_, rfl⟩
      rw [← hnm]
      obtain ⟨W3, hW3⟩ : ∃ W3, W3 = w3.alloc (.cells #[.string (tx nm), .slice ao m cp] 49) := ⟨_, rfl⟩
      obtain ⟨N3, hN3⟩ : ∃ N3, N3 = w3.heap.size := ⟨_, rfl⟩
      have hm16 : m ≤ 16 := by
        have hmem : q.1 ∈ t.ds := by rw [← HOF.out]; exact List.mem_map.2 ⟨q, HY1.out.1.mem_iff.1 (List.mem_of_getElem? hq), rfl⟩
        rw [hm]; exact ((HBD.out t rfl).2 q.1 hmem).2
      have I0 := hid (show Below W2.heap.size W2 W3 ∧ W3.heap[N3]? = some (.cells #[.string (tx nm), .slice ao m cp] 49 (0, 0)) ∧ (m = 0 ∨ ∃ b, ao = some ⟨b, 0, none⟩ ∧ W2.heap.size ≤ b ∧ b < N3 ∧ ∃ cs, W3.heap[b]? = some (.cells cs 9 (0, 0)) ∧ m ≤ cs.size) from by
        refine ⟨by rw [hW3]; exact hb3.alloc hb3.size _, by rw [hW3, hN3]; exact new_0 _ _, ?_⟩
        rcases hT with h0 | ⟨b, e, hb, hTb⟩
        · left; rw [hm, h0]; rfl
        · by_cases h0 : m = 0
          · exact .inl h0
          · right
            obtain ⟨cs, hcs, hz⟩ := id hTb
            refine ⟨b, e, hb, by rw [hN3]; exact hTb.lt, cs, by rw [hW3, Below.heap_alloc _ _ _ hTb.lt]; exact hcs, ?_⟩
            obtain ⟨z, hz'⟩ : ∃ z, q.1.cls[m - 1]? = some z := ⟨_, List.getElem?_eq_getElem (by omega)⟩
            have := (Array.getElem?_eq_some_iff.1 (hz (m - 1) z hz')).1
            omega)
      clear hT hb3 hm hnm hq s0 s1 s2 t0 t1 t2
      have x1 : W3.cell? ⟨N3, 1, none⟩ = some (.slice ao m cp) := by rw [cell_at I0.out.2.1]; rfl
      go_upto_region 8 with fail
      rw [← hN3, ← hW3]
      clear hN3 hW3
      go_wp2_with fail
      clear x1
      go_loopw [13, 44] (fun _ vi wr => ∃ j : Nat, j ≤ m ∧ vi = .int .i64 j ∧ Hid (Below W2.heap.size W2 wr ∧ wr.heap[N3]? = some (.cells #[.string (tx nm), .slice ao m cp] 49 (0, 0)) ∧ (m = 0 ∨ ∃ b, ao = some ⟨b, 0, none⟩ ∧ W2.heap.size ≤ b ∧ b < N3 ∧ ∃ cs, wr.heap[b]? = some (.cells cs 9 (0, 0)) ∧ m ≤ cs.size))) (fun _ vi _ => m - (intOf vi).toNat)
      case atStart => exact ⟨0, Nat.zero_le _, rfl, I0⟩
      case round =>
        obtain ⟨j, hj, rfl, HJ⟩ := hrel
        have x1 : wr.cell? ⟨N3, 1, none⟩ = some (.slice ao m cp) := by rw [cell_at HJ.out.2.1]; rfl
        by_cases hlt : j < m
        · obtain ⟨b, rfl, hb, hbN, cs, hcs, hsz⟩ := HJ.out.2.2.resolve_left (fun e => by omega)
          have jI : (j : Int) < (m : Int) := by omega
          have j0 : (0 : Int) ≤ (j : Int) := by omega
          have y0 : ∃ u, wr.cell? ⟨b, j, none⟩ = some u := by rw [cell_at hcs]; exact ⟨_, Array.getElem?_eq_getElem (by omega)⟩
          obtain ⟨u, y0⟩ := y0
          have yf : wr.frozen? ⟨b, j, none⟩ = false := free_of hcs
          have HN2 := hid (show Below W2.heap.size W2 (wr.setCell ⟨b, j, none⟩ (.string ⟨#[]⟩)) ∧ (wr.setCell ⟨b, j, none⟩ (.string ⟨#[]⟩)).heap[N3]? = some (.cells #[.string (tx nm), .slice (some ⟨b, 0, none⟩) m cp] 49 (0, 0)) ∧ (m = 0 ∨ ∃ b', (some ⟨b, 0, none⟩ : Option Addr) = some ⟨b', 0, none⟩ ∧ W2.heap.size ≤ b' ∧ b' < N3 ∧ ∃ cs, (wr.setCell ⟨b, j, none⟩ (.string ⟨#[]⟩)).heap[b']? = some (.cells cs 9 (0, 0)) ∧ m ≤ cs.size) from by
            refine ⟨HJ.out.1.setCell (by exact hb) _, by rw [Below.heap_setCell _ _ _ _ (by show N3 ≠ b; omega)]; exact HJ.out.2.1, .inr ⟨b, rfl, hb, hbN, _, block_set (o := j) _ hcs, by simpa using hsz⟩⟩)
          clear hcs
          go_wp2
          go_roundw
          case rel => exact ⟨j + 1, by omega, by go_num, HN2⟩
          case measure => simp [intOf]; omega
        · have hI : ¬ (j : Int) < (m : Int) := by omega
          have HB3 := hid (below_twoJ HBW2.out HJ.out.1)
          have HS := hid (HSS.out wr HJ.out.1)
          obtain ⟨s0, s1, s2⟩ := topJ_cells ((HJ.out.1.block _ (lt_of_block HT12.out.1)).trans HT12.out.1)
          obtain ⟨t0, t1, t2⟩ := topJ_cells ((HJ.out.1.block _ (lt_of_block HT12.out.2)).trans HT12.out.2)
          go_wp2_with fail
          refine HS.out.mono ?_
          rintro en w4 ⟨rfl, hb4⟩
          have HB4 := hid (below_twoJ HB3.out hb4)
          clear hb4 s0 s1 s2 t0 t1 t2
          go_wp2_with (first | (go_at_call 12; refine (HAL.out _).mono ?_; rintro e w9 ⟨rfl, hb9⟩))
          go_ret
          exact ⟨rfl, below_twoJ HB4.out hb9⟩

theorem town_any (s : ByteArray) (w : World) : Calls Tryz.prog 8 #[.string s] w fun e w' => e = .returned (.bool true) ∧ Below w.heap.size w w' := by
  by_cases h : 3000 < s.size
  · exact town_at s _ (s.data.toList.take 3000) w (by rw [Lib.extract_eq]; rfl) (by rw [List.length_take]; omega) (Or.inr ⟨h, rfl⟩)
  · exact town_at s s s.data.toList w (by unfold tx; rfl) (by rw [list_size]; omega) (Or.inl ⟨h, rfl⟩)
end Go.Proofs.YtkepgjijidebhaaGreatDoor
