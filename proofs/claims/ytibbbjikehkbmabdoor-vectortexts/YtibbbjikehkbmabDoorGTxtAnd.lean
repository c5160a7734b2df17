/-
  slices.Insert of a stamp, there is room and it does not stand last.
  slices.Insert of stamps: what copy does, cells of a row; at the end.
  copyOf: a vector's copy in a row of one's own.
  A stamp's text, whatever its numbers: the program's and the document's.
  Text: a vector's text.
  strconv.Itoa of any device, strconv.FormatUint of any number.
  A stamp's text, where its numbers are small; strings.Join.
-/
import Derived.Test.YtibbbjikehkbmabDoorTLay
import Derived.Test.YtibbbjikehkbmabDoorGMathAnd
import Derived.Lib.AppendIntMem
import Derived.Shelf.Strconv.Itoa3
import Derived.Test.YtibbbjikehkbmabDoorTLayB
import Derived.Test.YtibbbjikehkbmabDoorGStepAnd
import Derived.Test.YtibbbjikehkbmabDoorGRangeAnd
import Derived.Maps.AppendAt
import Derived.Deep.Upon
import Derived.Laws.IdiomCopy
import Derived.Lib.AppendZerosOnto
import Derived.Lib.Overlaps
import Derived.Lib.SliceRun
import Derived.Laws.NewBlocks
import Derived.Laws.Externs
import Derived.Deep.RegionLaw
import Derived.Shelf.RegionOpenPlain
import Derived.Shelf.Spec.SlicesInsert
namespace Go.Proofs.YtibbbjikehkbmabDoor.Ve
open Go.RowKit

abbrev txV (l : List UInt8) : ByteArray := ⟨l.toArray⟩
theorem Tryd.fSmall : Tryd.laysSmall_ren.f 283 = 64 := by kernel_rfl
theorem Tryd.fItoaS : Tryd.laysItoaS_ren.f 171 = 37 := by kernel_rfl
theorem Tryd.fJoin : Tryd.laysJoin_ren.f 156 = 27 := by kernel_rfl
theorem small_any (i : Nat) (hi : i < 100) (w : World) : Calls Tryd.prog 64 #[.int .i64 i] w fun e w' => e = .returned (.string (txV (Lib.decDigits i))) ∧ w' = w := by
  have h := Any.internal_strconv_small Tryd.laysSmall i hi w
  rw [Tryd.fSmall] at h
  exact h
theorem itoa_small (i : Nat) (hi : i < 100) (w : World) : Calls Tryd.prog 37 #[.int .i64 i] w fun e w' => e = .returned (.string (txV (Lib.decDigits i))) ∧ w' = w := by
  have h := Any.strconv_Itoa_small Tryd.laysItoaS i hi w
  rw [Tryd.fItoaS] at h
  exact h
theorem fmtI_small (u : Nat) (hu : u < 100) (w : World) : Calls Tryd.prog 50 #[.int .u64 u, .int .i64 10] w fun e w' => e = .returned (.string (txV (Lib.decDigits u))) ∧ w' = w := by
  have HS := hid (fun w => small_any u hu w)
  have huI : (u : Int) < 100 := by omega
  have hw : IntKind.i64.wrap (u : Int) = (u : Int) := by rw [IntKind.wrap_i64]; omega
  go_enter Tryd.func50, Tryd.ntmps50
  go_wp2_with (first | (go_at_call 64; refine (HS.out _).mono ?_; rintro e w' ⟨rfl, e'⟩; have ew := e'.symm; clear e'; subst ew))
  go_ret
  exact ⟨rfl, rfl⟩
theorem fmt_small (u : Nat) (hu : u < 100) (w : World) : Calls Tryd.prog 38 #[.int .u64 u, .int .i64 10] w fun e w' => e = .returned (.string (txV (Lib.decDigits u))) ∧ w' = w := by
  have HS := hid (fun w => fmtI_small u hu w)
  go_enter Tryd.func38, Tryd.ntmps38
  go_wp2_with (first | (go_at_call 50; refine (HS.out _).mono ?_; rintro e w' ⟨rfl, e'⟩; have ew := e'.symm; clear e'; subst ew))
  go_ret
  exact ⟨rfl, rfl⟩
/-- A stamp's text. -/
def stT (s : Nat × Nat) : List UInt8 := Lib.decDigits s.1 ++ 58 :: Lib.decDigits s.2
theorem txV_add (a b : List UInt8) : txV a ++ txV b = txV (a ++ b) := by
  apply ByteArray.ext
  rw [ByteArray.data_append]
  simp
theorem dec_two {n : Nat} (h : n < 100) : (Lib.decDigits n).length ≤ 2 := by
  have key : ∀ k : Fin 100, (Lib.decDigits k.1).length ≤ 2 := by decide +kernel
  exact key ⟨n, by omega⟩
set_option maxRecDepth 20000 in
set_option maxHeartbeats 2000000 in
theorem textOf_small (d u : Nat) (hd : d < 100) (hu : u < 100) (w : World) : Calls Tryd.prog 26 #[.agg #[.int .i64 d, .int .u64 u]] w fun e w' => e = .returned (.string (txV (stT (d, u)))) ∧ Below w.heap.size w w' := by
  have HI := hid (fun w => itoa_small d hd w)
  have HU := hid (fun w => fmt_small u hu w)
  have hl1 := dec_two hd
  have hl2 := dec_two hu
  go_enter Tryd.func26, Tryd.ntmps26
  go_wp2_with fail
  go_quiet (first | (go_at_call 37; exact Calls.quiet_of_same (HI.out _)) | (go_at_call 38; exact Calls.quiet_of_same (HU.out _)))
  go_wp2
  go_ret
  refine ⟨?_, below_drewN (below_al _ _)⟩
  show Ending.returned (.string (txV (Lib.decDigits d) ++ txV [58] ++ txV (Lib.decDigits u))) = _
  rw [txV_add, txV_add, List.append_assoc]
  rfl
end Go.Proofs.YtibbbjikehkbmabDoor.Ve
namespace Go.Proofs.YtibbbjikehkbmabDoor.Ve
open Go.RowKit Go.Sort Go.Lib

theorem Tryd.fFmt10 : Tryd.laysFmt10_ren.f 285 = 66 := by kernel_rfl
theorem Tryd.fDigits : Tryd.laysDigits_ren.f 284 = 65 := by kernel_rfl
theorem Tryd.fItoa : Tryd.laysItoa_ren.f 171 = 37 := by kernel_rfl
/-- The table of the powers of ten stands in memory as it started. -/
abbrev PowTab (w : World) : Prop := Lib.TabIs Tryd.prog w "internal/strconv.uint64pow10" .u64 Lib.pow10Tab
theorem PowTab.below {w w' : World} (h : PowTab w) (hb : Below w.heap.size w w') : PowTab w' := by
  unfold PowTab Lib.TabIs World.var? at *
  cases hg : Tryd.prog.globalNamed "internal/strconv.uint64pow10" with
  | none => rw [hg] at h; cases h
  | some g =>
    rw [hg] at h
    simp only [Option.bind_some] at h ⊢
    have hlt : g < w.heap.size := by
      by_cases q : g < w.heap.size
      · exact q
      · rw [Array.getElem?_eq_none (by omega)] at h; cases h
    rw [hb.block g hlt]
    exact h
theorem below_growV (w : World) (k : Nat) (os : Array Obj) : Below w.heap.size w (Sort.grow (w.drewN k) os) := ⟨rfl, rfl, rfl, by simp [Sort.grow, World.drewN], fun _ hi => Sort.heap_grow_old (w.drewN k) os hi⟩
theorem itoaV_any (n : Nat) (hn : n ≤ 2147483647) {w : World} (h : PowTab w) : Calls Tryd.prog 37 #[.int .i64 n] w fun e w' => e = .returned (.string (txV (Lib.decDigits n))) ∧ Below w.heap.size w w' := by
  have hh := Any.strconv_Itoa Tryd.laysItoa n (by omega) (by omega) w h
  rw [Tryd.fItoa] at hh
  refine hh.mono ?_
  rintro e w' ⟨rfl, k, os, rfl⟩
  refine ⟨?_, below_growV w k os⟩
  unfold Lib.itoa
  rw [if_neg (by omega)]
  rfl
set_option maxRecDepth 100000 in
set_option maxHeartbeats 6400000 in
theorem fmtI_any (u : Nat) (hu64 : u < 18446744073709551616) {w : World} (h : PowTab w) : Calls Tryd.prog 50 #[.int .u64 u, .int .i64 10] w fun e w' => e = .returned (.string (txV (Lib.decDigits u))) ∧ Below w.heap.size w w' := by
  by_cases h100 : u < 100
  · exact (fmtI_small u h100 w).mono fun e w' ⟨h1, h2⟩ => ⟨h1, by rw [h2]; exact Below.refl _ _⟩
  · have hu1 : 1 ≤ u := by omega
    have uI : ¬ (u : Int) < 100 := by omega
    have hnd20 : Lib.nDigits u ≤ 20 := by have := Lib.numDigits_eq u hu1 hu64; split at this <;> omega
    have hal : Tryd.prog.arrayLen 102 = 24 := by simp [Program.arrayLen, Tryd.underlying102]
    have hH0 := Lib.holds_zero0 w 102 (Lib.nDigits u) (by omega)
    have hfmt := Any.internal_strconv_formatBase10 Tryd.laysFmt10 w.heap.size 0 24 u (Array.replicate (Lib.nDigits u) 0) (w.alloc (.cells Lib.zeros24 102)) hH0 (by rw [Array.size_replicate]; exact Lib.lt_pow_nDigits u) hu64 (by rw [Array.size_replicate]; omega)
    have hdig : ∀ W, PowTab W → Calls Tryd.prog 65 #[.int .u64 u] W fun e w' => e = .returned (.int .i64 (Lib.nDigits u)) ∧ w' = W := fun W hW => by
      have hh := Any.internal_strconv_numDigits Tryd.laysDigits u hu1 hu64 W hW
      rw [Tryd.fDigits] at hh
      exact hh
    rw [Array.size_replicate, Tryd.fFmt10] at hfmt
    have hsl : ∀ W, (Instr.sliceAt 102 (.pointer (some ⟨w.heap.size, 0, none⟩)) none (some (.int .i64 (Lib.nDigits u : Int))) none).run Tryd.prog W = .ok (.slice (some ⟨w.heap.size, 0, none⟩) (Lib.nDigits u) 24) W := fun W => by
      rw [run_sliceAt_array_h W 102 ⟨w.heap.size, 0, none⟩ (by simp [Program.arrayLen, Program.elem, Tryd.underlying102]) .i64 (Lib.nDigits u : Int) (by omega) (by rw [hal]; omega)]
      go_simp
    have HH0 := Lib.hid hH0
    have HFM := Lib.hid hfmt
    have HDG := Lib.hid hdig
    have HPT := Lib.hid (show PowTab (w.alloc (.cells Lib.zeros24 102)) from h.below (below_al _ _))
    clear hH0 hal hfmt hdig h
    go_enter Tryd.func50, Tryd.ntmps50
    go_wp2_with fail
    refine (HDG.out _ HPT.out).mono ?_
    rintro e w' ⟨rfl, e'⟩
    subst e'
    go_wp2_with fail
    refine HFM.out.mono ?_
    rintro e w' ⟨rfl, k, v', dk, rfl, hF⟩
    have hcv : (convert 72 9 (.slice (some ⟨w.heap.size, 0, none⟩) (Lib.nDigits u) 24)).run Tryd.prog ((putRow (fun (b : UInt8) => Value.int .u8 (b.toNat : Int)) (w.alloc (.cells Lib.zeros24 102)) w.heap.size 0 dk).drewN k) = .ok (.string ⟨(Lib.decDigits u).toArray⟩) ((putRow (fun (b : UInt8) => Value.int .u8 (b.toNat : Int)) (w.alloc (.cells Lib.zeros24 102)) w.heap.size 0 dk).drewN k) := by
      have h := run_convert_bytes_back (P := Tryd.prog) ((putRow (fun (b : UInt8) => Value.int .u8 (b.toNat : Int)) (w.alloc (.cells Lib.zeros24 102)) w.heap.size 0 dk).drewN k) 72 9 5 ⟨w.heap.size, 0, none⟩ 24 (Lib.decDigits u) Tryd.underlying72 Tryd.underlying5 Tryd.underlying9 (fun j hj => by
        rw [Lib.row_is_numeral hF j hj, Lib.add_plain, World.cell?_drewN]
        exact cell?_putRow (fun (b : UInt8) => Value.int .u8 (b.toNat : Int)) _ w.heap.size 0 _ dk HH0.out (by rw [hF.size, Array.size_replicate]) j (by rw [hF.size]; rw [Lib.decDigits_length] at hj; exact hj))
      rw [Lib.decDigits_length] at h
      exact h
    go_wp2
    go_ret
    obtain ⟨os, eo⟩ := Lib.fin_at w (.cells Lib.zeros24 102) dk k 0
    exact ⟨rfl, by rw [eo]; exact below_growV _ _ _⟩
theorem fmt_any (u : Nat) (hu64 : u < 18446744073709551616) {w : World} (h : PowTab w) : Calls Tryd.prog 38 #[.int .u64 u, .int .i64 10] w fun e w' => e = .returned (.string (txV (Lib.decDigits u))) ∧ Below w.heap.size w w' := by
  have HS := Lib.hid (fmtI_any u hu64 h)
  clear h
  go_enter Tryd.func38, Tryd.ntmps38
  go_wp2_with fail
  refine HS.out.mono ?_
  rintro e w' ⟨rfl, hb⟩
  go_wp2
  go_ret
  exact ⟨rfl, hb⟩
end Go.Proofs.YtibbbjikehkbmabDoor.Ve
namespace Go.Proofs.YtibbbjikehkbmabDoor.Ve
open Go.RowKit

/-- A stamp's text; the parts so far. -/
def stS (s : St) : List UInt8 := stT (s.1.toNat, s.2)
def partsL (l : List St) (k : Nat) : List Value := (l.take k).map (fun s => Value.string (txV (stS s))) ++ List.replicate (l.length - k) (.string ⟨#[]⟩)
def partsA (l : List St) (k : Nat) : Array Value := (partsL l k).toArray
theorem partsL_len (l : List St) (k : Nat) (hk : k ≤ l.length) : (partsL l k).length = l.length := by
  unfold partsL
  rw [List.length_append, List.length_map, List.length_take, List.length_replicate]
  omega
theorem partsL_get {l : List St} {k i : Nat} {s : St} (hs : l[i]? = some s) (hi : i < k) : (partsL l k)[i]? = some (.string (txV (stS s))) := by
  have hlt := (List.getElem?_eq_some_iff.1 hs).1
  unfold partsL
  rw [List.getElem?_append_left (by rw [List.length_map, List.length_take]; omega), List.getElem?_map, List.getElem?_take, if_pos hi, hs]
  rfl
theorem partsL_at {l : List St} {k : Nat} (hk : k < l.length) : (partsL l k)[k]? = some (.string ⟨#[]⟩) := by
  unfold partsL
  rw [List.getElem?_append_right (by rw [List.length_map, List.length_take]; omega), List.length_map, List.length_take, List.getElem?_replicate, if_pos (by omega)]
theorem partsL_set {l : List St} {k : Nat} {s : St} (hs : l[k]? = some s) : (partsL l k).set k (.string (txV (stS s))) = partsL l (k + 1) := by
  have hlt := (List.getElem?_eq_some_iff.1 hs).1
  apply List.ext_getElem?
  intro i
  rw [List.getElem?_set]
  rcases Nat.lt_trichotomy i k with q | q | q
  · rw [if_neg (by omega)]
    obtain ⟨t, ht⟩ : ∃ t, l[i]? = some t := ⟨_, List.getElem?_eq_getElem (by omega)⟩
    rw [partsL_get ht q, partsL_get ht (by omega)]
  · subst q
    rw [if_pos rfl, if_pos (by rw [partsL_len l i (by omega)]; exact hlt), partsL_get hs (by omega)]
  · rw [if_neg (by omega)]
    unfold partsL
    rw [List.getElem?_append_right (by rw [List.length_map, List.length_take]; omega), List.getElem?_append_right (by rw [List.length_map, List.length_take]; omega)]
    simp only [List.length_map, List.length_take, List.getElem?_replicate]
    by_cases h : i < l.length
    · rw [if_pos (by omega), if_pos (by omega)]
    · rw [if_neg (by omega), if_neg (by omega)]
theorem partsA_set {l : List St} {k : Nat} {s : St} (hs : l[k]? = some s) : (partsA l k).setIfInBounds k (.string (txV (stS s))) = partsA l (k + 1) := by
  unfold partsA
  rw [List.setIfInBounds_toArray, partsL_set hs]
theorem Tryd.infoStrV : (Tryd.prog.info? 9).map (fun i => (i.zero, i.size, i.bytes)) = some (some (.string ⟨#[]⟩), 1, 16) := by kernel_rfl
theorem run_parts {l : List St} {n : Nat} (hn : n = l.length) (h256 : n ≤ 256) (w : World) : (Instr.makeSlice 56 (.int .i64 (n : Int)) (.int .i64 (n : Int))).run Tryd.prog w = .ok (.slice (some ⟨w.heap.size, 0, none⟩) n n) (w.alloc (.cells (partsA l 0) 9)) := by
  obtain ⟨i, hi, hz0, hz1, hz2⟩ := info_parts Tryd.infoStrV
  have := run_make (P := Tryd.prog) w 56 9 i (.string ⟨#[]⟩) Tryd.underlying56 hi hz0 .i64 .i64 (n : Int) (n : Int) (by omega) (by omega) (by rw [hz2]; omega) (by omega)
  rw [this, hz1, Nat.mul_one, show ((n : Int)).toNat = n by omega]
  have e : madeCells (Value.string ⟨#[]⟩).cells n = partsA l 0 := by
    apply Array.ext_getElem?
    intro j
    unfold partsA partsL
    by_cases hj : j < n
    · simp [madeCells, hj, Nat.mod_one, ← hn, Value.cells]
    · rw [Array.getElem?_eq_none (by rw [size_madeCells]; first | omega | (show 1 * n ≤ j; omega) | (show n * 1 ≤ j; omega) | (simp; omega)), Array.getElem?_eq_none (by simp; omega)]
  rw [e]
/-- A vector's text. -/
def vtx (l : List St) : List UInt8 := if l = [] then [45] else Lib.join (l.map stS) [32]
theorem Tryd.extraJoin : Builder.Extra Tryd.prog Tryd.laysJoin_ren := {
  sizeBuilder := by kernel_rfl
  liesBuilder := by kernel_rfl
  t5 := Tryd.underlying5
  a5 := Tryd.isAgg5
  z5 := Tryd.sizeOf5
  v5 := Tryd.zeroValue5
  infoByte := by kernel_rfl
  cellsByte := by kernel_rfl
  sizeByte := by kernel_rfl
  neB5 := by decide }
theorem join_lenV {xs : List (List UInt8)} (h : ∀ x ∈ xs, x.length ≤ 24) : (Lib.join xs [32]).length ≤ 25 * xs.length := by
  have key : ∀ (l : List (List UInt8)), (∀ x ∈ l, x.length ≤ 24) → (Lib.joinTail [32] l).length ≤ 25 * l.length := by
    intro l
    induction l with
    | nil => intro _; simp [Lib.joinTail]
    | cons y l ih =>
      intro h
      have h1 := h y (by simp)
      have h2 := ih (fun x hx => h x (by simp [hx]))
      simp only [Lib.joinTail, List.map_cons, List.flatten_cons, List.length_append, List.length_cons, List.length_nil] at h2 ⊢
      omega
  cases xs with
  | nil => simp [Lib.join_nil]
  | cons y l =>
    have h1 := h y (by simp)
    have h2 := key l (fun x hx => h x (by simp [hx]))
    rw [Lib.join_cons, List.length_append, List.length_cons]
    omega
theorem join_parts {W : World} {l : List St} {n P : Nat} (hP : W.heap[P]? = some (.cells (partsA l n) 9 (0, 0))) (hn : n = l.length) (h256 : n ≤ 256) (hlen : ∀ s ∈ l, (stS s).length ≤ 24) :
    Calls Tryd.prog 27 #[.slice (some ⟨P, 0, none⟩) n n, .string ⟨#[32]⟩] W fun e w' => e = .returned (.string (txV (Lib.join (l.map stS) [32]))) ∧ Below W.heap.size W w' := by
  have hm : ((l.map stS).map txV).map (fun b => b.data.toList) = l.map stS := by rw [List.map_map]; simp [Function.comp_def]
  have hl : ((l.map stS).map txV).length = n := by simp [hn]
  have h := Any.strings_Join Tryd.laysJoin Tryd.extraJoin P 0 n ((l.map stS).map txV) ⟨#[32]⟩ W (fun j x hx => by
    rw [List.getElem?_map, List.getElem?_map] at hx
    cases hs : l[j]? with
    | none => rw [hs] at hx; cases hx
    | some s =>
      rw [hs] at hx
      cases hx
      have hj := (List.getElem?_eq_some_iff.1 hs).1
      rw [cell_at hP, Nat.zero_add]
      unfold partsA
      rw [List.getElem?_toArray]
      exact partsL_get hs (by omega)) (lt_of_block hP) (by rw [hl]; omega) (by rw [hl]; exact Nat.le_refl _) (by
    show (Lib.join (((l.map stS).map txV).map (fun b => b.data.toList)) [32]).length ≤ _
    rw [hm]
    have := join_lenV (xs := l.map stS) (fun x hx => by
      obtain ⟨s, hs, rfl⟩ := List.mem_map.1 hx
      exact hlen s hs)
    rw [List.length_map] at this
    omega)
  rw [Tryd.fJoin, hl] at h
  refine h.mono fun e w' ⟨he, hw⟩ => ⟨?_, hw⟩
  rw [he]
  show Ending.returned (Value.string ⟨(Lib.join (((l.map stS).map txV).map (fun b => b.data.toList)) [32]).toArray⟩) = _
  rw [hm]
set_option maxRecDepth 20000 in
set_option maxHeartbeats 2000000 in
theorem Text_ok {w : World} {v : Value} {l : List St} (h : VecV w v l) (hr : Right l) (h0 : l ≠ []) (hlen : ∀ s ∈ l, (stS s).length ≤ 24)
    (HT : Hid (∀ s ∈ l, ∀ W, Below w.heap.size w W → Calls Tryd.prog 26 #[.agg #[.int .i64 s.1, .int .u64 (s.2 : Int)]] W fun e w' => e = .returned (.string (txV (stS s))) ∧ Below W.heap.size W w')) :
    Calls Tryd.prog 12 #[v] w fun e w' => e = .returned (.tuple #[.string (txV (vtx l)), .int .i64 0]) ∧ Below w.heap.size w w' := by
  have h256 := right_len hr
  have HC := hid (fun W u (hv : VecsV W u [l]) => Check_any hv (by simp [maxLen]) (fun x hx => by simp at hx; subst hx; unfold maxLen; omega))
  rw [chkN_ok (fun x hx => by simp at hx; subst hx; exact hr)] at HC
  obtain ⟨ao, c, rfl, hcap, -, hrow⟩ := h
  obtain ⟨g, o, rfl, hg, hc⟩ := hrow.resolve_left h0
  obtain ⟨n, hn⟩ : ∃ n, n = l.length := ⟨_, rfl⟩
  rw [← hn] at h256 hcap ⊢
  have HN := hid hn
  have HROW := hid hrow
  have hn0 : n ≠ 0 := fun e => h0 (List.eq_nil_of_length_eq_zero (by rw [← hn]; exact e))
  have hn0I : ((n : Int) == 0) = false := by rw [beq_eq_false_iff_ne]; omega
  have hn0N : (n == 0) = false := by rw [beq_eq_false_iff_ne]; exact hn0
  have hmk := run_parts hn h256
  have hv : VecsV (w.alloc (.cells #[.slice (some ⟨g, o, none⟩) n c] 23)) (.slice (some ⟨w.heap.size, 0, none⟩) 1 1) [l] := ⟨some ⟨w.heap.size, 0, none⟩, 1, rfl, Nat.le_refl _, fun q => (by cases q), Or.inr ⟨w.heap.size, 0, rfl, by simp, fun j x hj => by
    have hj0 : j = 0 := by
      have := (List.getElem?_eq_some_iff.1 hj).1
      simpa using this
    subst hj0
    have : l = x := by simpa using hj
    subst this
    exact ⟨.slice (some ⟨g, o, none⟩) n c, cell_news 0, VecV.below (w := w) ⟨_, c, by rw [hn], by rw [← hn]; exact hcap, fun q => (by cases q), hrow⟩ (below_al _ _)⟩⟩⟩
  have HV := hid hv
  clear hn hrow hc hv
  go_enter Tryd.func12, Tryd.ntmps12
  go_wp2_with fail
  refine (HC.out _ _ HV.out).mono ?_
  rintro e W1 ⟨rfl, hb1⟩
  have HB1 := hid (below_tr (below_al _ _) hb1)
  clear hb1
  go_wp2_with fail
  obtain ⟨W2, hW2⟩ : ∃ W2, W1.alloc (.cells (partsA l 0) 9) = W2 := ⟨_, rfl⟩
  have HP0 := hid (show W2.heap[W1.heap.size]? = some (.cells (partsA l 0) 9 (0, 0)) by rw [← hW2]; exact new_0 _ _)
  have HB2 := hid (show Below w.heap.size w W2 by rw [← hW2]; exact HB1.out.alloc HB1.out.size _)
  have hz1 := HB1.out.size
  rw [hW2]
  clear hW2 hmk
  go_loopw [6, 7, 22] (fun _ _ vc wr => ∃ k : Nat, k ≤ n ∧ vc = .int .i64 k ∧ Hid (wr.heap[W1.heap.size]? = some (.cells (partsA l k) 9 (0, 0))) ∧ Hid (Below w.heap.size w wr)) (fun _ _ vc _ => n - (intOf vc).toNat)
  case atStart => exact ⟨0, Nat.zero_le _, rfl, HP0.out, HB2.out⟩
  case round =>
    obtain ⟨k, hk, rfl, HP, HB⟩ := hrel
    by_cases hlt : k < n
    · obtain ⟨s, hs⟩ : ∃ s, l[k]? = some s := ⟨_, List.getElem?_eq_getElem (by have := HN.out; omega)⟩
      obtain ⟨g', o', e, hg', hc⟩ := (HROW.out.below HB.out).resolve_left (fun e => by rw [e] at hs; simp at hs)
      injection e with e
      injection e with e1 e2 _
      subst e1 e2
      obtain ⟨c0, c1⟩ := hc k _ hs
      have kI : (k : Int) < (n : Int) := by omega
      have k0 : (0 : Int) ≤ (k : Int) := by omega
      have HTS := hid (fun W hb => HT.out s (List.mem_of_getElem? hs) W hb)
      have HSET := hid (partsA_set hs)
      have HAT := hid (show (partsA l k)[k]? = some (.string ⟨#[]⟩) by unfold partsA; rw [List.getElem?_toArray]; exact partsL_at (by have := HN.out; omega))
      have hPs := lt_of_block HP.out
      obtain ⟨d, u⟩ := s
      simp only at c0 c1
      clear hs hc hlt
      go_wp2_with fail
      refine (HTS.out _ (HB.out.alloc HB.out.size _)).mono ?_
      rintro e w3 ⟨rfl, hb3⟩
      have hP3 : w3.heap[W1.heap.size]? = some (.cells (partsA l k) 9 (0, 0)) := below_block hb3 (new_old _ _ HP.out) (by simp; omega)
      have HP3 := hid hP3
      have q1 : w3.cell? ⟨W1.heap.size, k, none⟩ = some (.string ⟨#[]⟩) := by rw [cell_at hP3]; exact HAT.out
      have q2 := free_of (o := k) hP3
      have HB3 := hid ((HB.out.alloc HB.out.size (.cells #[.int .i64 d, .int .u64 (u : Int)] 33)).trans (hb3.mono (by have := HB.out.size; simp; omega)))
      clear hb3 hP3
      go_wp2
      go_roundw
      case rel => exact ⟨k + 1, by omega, by go_num, hid (by rw [block_set _ HP3.out, HSET.out]), HB3.out.setCell (p := ⟨W1.heap.size, k, none⟩) hz1 _⟩
      case measure => simp [intOf]; omega
    · have hkn : k = n := by omega
      have kI : ¬ (k : Int) < (n : Int) := by omega
      subst hkn
      have HJ := hid (join_parts HP.out HN.out h256 hlen)
      have HE := hid (show vtx l = Lib.join (l.map stS) [32] by unfold vtx; rw [if_neg h0])
      go_wp2_with fail
      refine HJ.out.mono ?_
      rintro e w3 ⟨rfl, hb3⟩
      have HB3 := hid (HB.out.trans (hb3.mono HB.out.size))
      clear hb3
      go_wp2
      go_ret2
      exact ⟨by rw [HE.out]; rfl, HB3.out⟩
end Go.Proofs.YtibbbjikehkbmabDoor.Ve
namespace Go.Proofs.YtibbbjikehkbmabDoor.Ve
open Go.RowKit

theorem dec_20 {u : Nat} (h : u < 18446744073709551616) : (Lib.decDigits u).length ≤ 20 := by
  by_cases h0 : u < 100
  · have := dec_two h0; omega
  · rw [Lib.decDigits_length]
    have := Lib.numDigits_eq u (by omega) h
    split at this <;> omega
theorem PowTab.drew {w : World} (h : PowTab w) : PowTab w.drew := h.below (Below.refl _ _).drew
set_option maxRecDepth 20000 in
set_option maxHeartbeats 2000000 in
theorem textOf_any (d u : Nat) (hd : d < 256) (hu : u < 18446744073709551616) {w : World} (hp : PowTab w) : Calls Tryd.prog 26 #[.agg #[.int .i64 d, .int .u64 u]] w fun e w' => e = .returned (.string (txV (stT (d, u)))) ∧ Below w.heap.size w w' := by
  have HI := hid (fun (w : World) (h : PowTab w) => itoaV_any d (by omega) h)
  have HU := hid (fun (w : World) (h : PowTab w) => fmt_any u hu h)
  have hl1 := dec_20 (u := d) (by omega)
  have hl2 := dec_20 hu
  have hl3 : ¬ 9223372036854775807 < (Lib.decDigits d).length + 1 := by omega
  have hl4 : ¬ 9223372036854775807 < (Lib.decDigits d).length + 1 + (Lib.decDigits u).length := by omega
  have hP := hp.below (below_al w (.cells #[.int .i64 d, .int .u64 u] 33))
  have HB1 := hid (below_al w (.cells #[.int .i64 d, .int .u64 u] 33))
  have c0 : (w.alloc (.cells #[.int .i64 d, .int .u64 u] 33)).cell? ⟨w.heap.size, 0, none⟩ = some (.int .i64 d) := cell_news 0
  have c1 : (w.alloc (.cells #[.int .i64 d, .int .u64 u] 33)).cell? ⟨w.heap.size, 1, none⟩ = some (.int .u64 u) := cell_news 1
  clear hp
  go_enter Tryd.func26, Tryd.ntmps26
  go_wp2_with fail
  go_region_held2 (fun W => W.cell? ⟨w.heap.size, 0, none⟩ = some (.int .i64 d) ∧ W.cell? ⟨w.heap.size, 1, none⟩ = some (.int .u64 u)) (first | exact ⟨c0, c1⟩ | exact hS3 | exact hS2) (first | (go_at_call 37; refine (HI.out _ (by exact hP.drew)).mono ?_; rintro en w2 ⟨rfl, hb2⟩; have B2 := hid (below_tr (Below.refl _ _).drew hb2); have P2 := hP.below B2.out; have hS2 := And.intro ((B2.out.cell (block_oldS c0)).trans c0) ((B2.out.cell (block_oldS c1)).trans c1); clear hb2) | (go_at_call 38; refine (HU.out _ (by exact P2)).mono ?_; rintro en w3 ⟨rfl, hb3⟩; have B3 := hid (below_tr B2.out hb3); have hS3 := And.intro ((B3.out.cell (block_oldS c0)).trans c0) ((B3.out.cell (block_oldS c1)).trans c1); clear hb3))
  go_wp2
  go_ret
  refine ⟨?_, below_tr HB1.out B3.out⟩
  show Ending.returned (.string (txV (Lib.decDigits d) ++ txV [58] ++ txV (Lib.decDigits u))) = _
  rw [txV_add, txV_add, List.append_assoc]
  rfl
set_option maxRecDepth 20000 in
set_option maxHeartbeats 2000000 in
theorem Rstamp_any (d u : Nat) (hd : d < 256) (hu : u < 18446744073709551616) {w : World} (hp : PowTab w) : Calls Tryd.prog 28 #[.agg #[.int .i64 d, .int .u64 u]] w fun e w' => e = .returned (.string (txV (stT (d, u)))) ∧ Below w.heap.size w w' := by
  have HI := hid (fun (w : World) (h : PowTab w) => itoaV_any d (by omega) h)
  have HU := hid (fun (w : World) (h : PowTab w) => fmt_any u hu h)
  have hl1 := dec_20 (u := d) (by omega)
  have hl2 := dec_20 hu
  have hl3 : ¬ 9223372036854775807 < (Lib.decDigits d).length + 1 := by omega
  have hl4 : ¬ 9223372036854775807 < (Lib.decDigits d).length + 1 + (Lib.decDigits u).length := by omega
  have hP := hp.below (below_al w (.cells #[.int .i64 d, .int .u64 u] 33))
  have HB1 := hid (below_al w (.cells #[.int .i64 d, .int .u64 u] 33))
  have c0 : (w.alloc (.cells #[.int .i64 d, .int .u64 u] 33)).cell? ⟨w.heap.size, 0, none⟩ = some (.int .i64 d) := cell_news 0
  have c1 : (w.alloc (.cells #[.int .i64 d, .int .u64 u] 33)).cell? ⟨w.heap.size, 1, none⟩ = some (.int .u64 u) := cell_news 1
  clear hp
  go_enter Tryd.func28, Tryd.ntmps28
  go_wp2_with fail
  go_region_held2 (fun W => W.cell? ⟨w.heap.size, 0, none⟩ = some (.int .i64 d) ∧ W.cell? ⟨w.heap.size, 1, none⟩ = some (.int .u64 u)) (first | exact ⟨c0, c1⟩ | exact hS3 | exact hS2) (first | (go_at_call 37; refine (HI.out _ (by exact hP.drew)).mono ?_; rintro en w2 ⟨rfl, hb2⟩; have B2 := hid (below_tr (Below.refl _ _).drew hb2); have P2 := hP.below B2.out; have hS2 := And.intro ((B2.out.cell (block_oldS c0)).trans c0) ((B2.out.cell (block_oldS c1)).trans c1); clear hb2) | (go_at_call 38; refine (HU.out _ (by exact P2)).mono ?_; rintro en w3 ⟨rfl, hb3⟩; have B3 := hid (below_tr B2.out hb3); have hS3 := And.intro ((B3.out.cell (block_oldS c0)).trans c0) ((B3.out.cell (block_oldS c1)).trans c1); clear hb3))
  go_wp2
  go_ret
  refine ⟨?_, below_tr HB1.out B3.out⟩
  show Ending.returned (.string (txV (Lib.decDigits d) ++ txV [58] ++ txV (Lib.decDigits u))) = _
  rw [txV_add, txV_add, List.append_assoc]
  rfl
end Go.Proofs.YtibbbjikehkbmabDoor.Ve
namespace Go.Proofs.YtibbbjikehkbmabDoor.Ve
open Go.RowKit

theorem row_cells {w : World} {g o : Nat} {l : List St} (h : RowIn w (some ⟨g, o, none⟩) l) (j : Nat) (u : Value) (hj : (flatS l)[j]? = some u) : w.cell? ((⟨g, o, none⟩ : Addr).add j) = some u := by
  have hlt := (List.getElem?_eq_some_iff.1 hj).1
  rw [flatS_len] at hlt
  rw [addr_addS]
  rcases h with rfl | ⟨g', o', e, hg, hc⟩
  · simp at hlt
  · injection e with e
    injection e with e1 e2 _
    subst e1 e2
    obtain ⟨i, hi⟩ : ∃ i, i = j / 2 := ⟨_, rfl⟩
    obtain ⟨s, hs⟩ : ∃ s, l[i]? = some s := ⟨_, List.getElem?_eq_getElem (by omega)⟩
    obtain ⟨f0, f1⟩ := flatS_get hs
    obtain ⟨c0, c1⟩ := hc i s hs
    rcases Nat.mod_two_eq_zero_or_one j with q | q
    · have : j = i * 2 := by omega
      subst this
      rw [f0] at hj
      rw [c0, hj]
    · have : j = i * 2 + 1 := by omega
      subst this
      rw [f1] at hj
      rw [← Nat.add_assoc, c1, hj]
theorem own_mono {w : World} {B B' : Nat} {v : Value} {l : List St} (h : OwnS w B v l) (hb : B' ≤ B) : OwnS w B' v l := by
  obtain ⟨h1, h2⟩ := h
  refine ⟨h1, ?_⟩
  rcases h2 with h2 | ⟨g, cap, cur, e, hB, hh, r⟩
  · exact Or.inl h2
  · exact Or.inr ⟨g, cap, cur, e, Nat.le_trans hb hB, hh, r⟩
/-- append, under a name that the walk leaves. -/
def appC (ts : Array TypeId) (ty : TypeId) (args : Array Value) : Sem Value := Builtin.append_ ts ty args
theorem appC_fold {ts : Array TypeId} {ty : TypeId} {args : Array Value} : Builtin.append_ ts ty args = appC ts ty args := rfl
/-- All of a vector behind nothing. -/
theorem copy_run {w : World} {a : Option Addr} {n c : Nat} {l : List St} (h : VecV w (.slice a n c) l) (hl : l.length * 16 ≤ 140737488355328) :
    ∃ a' c' w', (appC #[23, 23] 23 #[.slice none 0 0, .slice a n c]).run Tryd.prog w = .ok (.slice a' n c') w' ∧ Hid (OwnS w' w.heap.size (.slice a' n c') l ∧ Below w.heap.size w w') := by
  obtain ⟨ao, c0, e, hc, hn, hr⟩ := h
  injection e with e1 e2 e3
  subst e1 e2 e3
  obtain ⟨i0, hi, hz0, hz1, hz2⟩ := info_parts info_stamp
  by_cases h0 : l = []
  · subst h0
    refine ⟨none, 0, w, ?_, World.ownsRow_nil _ _ _ _, Below.refl _ _⟩
    have hs : Src Tryd.prog i0.size 23 (.slice a 0 c) 0 [] w := by
      refine ⟨Or.inl ⟨_, Tryd.underlying23⟩, fun w' => ?_, ?_, ?_, by simp, fun u hu => by cases hu⟩
      · simp [Builtin.lenOf]
      · cases a <;> simp [Builtin.firstCells, loadCells, loadCellsFrom, go_sem]
      · cases a <;> simp [Builtin.firstCells, loadCells, loadCellsFrom, go_sem]
    exact run_append_nothing (P := Tryd.prog) w 23 23 23 33 i0 Tryd.underlying23 hi none 0 0 (Nat.le_refl _) (.slice a 0 c) hs
  · obtain ⟨g, o, rfl, hg, hcell⟩ := hr.resolve_left h0
    obtain ⟨v', w2, hrun, hown, hgr, _, _⟩ := run_append_own_at (P := Tryd.prog) w w.heap.size 23 23 33 i0 (.agg #[.int .i64 0, .int .u64 0]) 2 16 Tryd.underlying23 hi hz0 hz1 hz2 rfl (by decide) (.slice none 0 0) 0 [] (World.ownsRow_nil _ _ _ _) ⟨g, o, none⟩ l.length c (flatS l) (flatS_len l) (row_cells hr) (flatS_one l) (by unfold maxLen; omega) (by omega) (Nat.le_refl _)
    have ho : OwnS w2 w.heap.size v' l := by
      unfold OwnS
      rw [Nat.zero_add, List.nil_append] at hown
      exact hown
    obtain ⟨a', c', e'⟩ := ho.form
    subst e'
    exact ⟨a', c', w2, hrun, ho, (Below.refl _ w).grown hgr (Nat.le_refl _) (fun q hq => by cases hq)⟩
attribute [local go_sem ↓] appC_fold
theorem copyOf_any {w : World} {v : Value} {l : List St} (h : VecV w v l) (hl : l.length * 16 ≤ 140737488355328) :
    Calls Tryd.prog 18 #[v] w fun e w' => ∃ v', e = .returned v' ∧ OwnS w' w.heap.size v' l ∧ Below w.heap.size w w' := by
  obtain ⟨ao, c, e, -⟩ := id h
  obtain ⟨n, hn⟩ : ∃ n, n = l.length := ⟨_, rfl⟩
  rw [← hn] at e
  subst e
  obtain ⟨a', c', w', hrun, H⟩ := copy_run h hl
  clear h hn
  go_enter Tryd.func18, Tryd.ntmps18
  go_wp2
  go_ret
  exact ⟨_, rfl, H.out.1, H.out.2⟩
end Go.Proofs.YtibbbjikehkbmabDoor.Ve
namespace Go.Proofs.YtibbbjikehkbmabDoor.Ve
open Go.RowKit

theorem run_copy_wide {P : Program} (w : World) (dT sT ty elem : TypeId) (size b o dLen dCap : Nat) (a : Addr) (sLen sCap : Nat) (cs : List Value)
    (hu : P.underlying dT = some (.slice elem)) (hs : (P.info? elem).map (·.size) = some size) (hn : cs.length = Nat.min sLen dLen * size)
    (hsrc : ∀ j v, cs[j]? = some v → w.cell? (a.add j) = some v) (hc : ∀ j, j < cs.length → (w.cell? ⟨b, o + j, none⟩).isSome = true) (hf : ∀ j, j < cs.length → w.frozen? ⟨b, o + j, none⟩ = false) (h1 : ∀ v ∈ cs, v.oneCell' = true) :
    (Builtin.copy_ #[dT, sT] ty #[.slice (some ⟨b, o, none⟩) dLen dCap, .slice (some a) sLen sCap]).run P w = .ok (goInt (Nat.min sLen dLen)) (w.setCells b o cs) := by
  have hl := run_loadCells_list (P := P) w a cs hsrc
  have hst := run_storeCells_cells (P := P) b o cs 0 w (by simpa using hc) (by simpa using hf) h1
  cases hq : P.info? elem with
  | none => simp [hq] at hs
  | some i =>
    have hi : i.size = size := by simpa [hq] using hs
    simp [Builtin.copy_, run_underlying hu, Builtin.lenOf, Builtin.firstCells, sizeOf, typeInfo, hq, hi, ← hn, hl, hst]
theorem grown_refl (w : World) (r : Option Nat) : w.grownBy w r := ⟨rfl, rfl, rfl, Nat.le_refl _, fun _ _ _ => rfl⟩
theorem grown_two {a b c : World} {r : Option Nat} (h : a.grownBy b r) (k : b.grownBy c r) : a.grownBy c r :=
  ⟨k.os.trans h.os, k.tape.trans h.tape, k.output.trans h.output, Nat.le_trans h.size k.size, fun i hi hne => (k.block i (Nat.lt_of_lt_of_le hi h.size) hne).trans (h.block i hi hne)⟩
theorem grown_cell (w : World) (g o : Nat) (v : Value) : w.grownBy (w.setCell ⟨g, o, none⟩ v) (some g) := ⟨rfl, rfl, rfl, by simp, fun i _ hne => Below.heap_setCell _ _ _ _ (fun e => hne (by rw [e]))⟩
theorem grown_setCells (g : Nat) : ∀ (vs : List Value) (o : Nat) (w : World), w.grownBy (w.setCells g o vs) (some g)
  | [], _, w => grown_refl w _
  | v :: r, o, w => grown_two (grown_cell w g o v) (grown_setCells g r (o + 1) _)
theorem grown_drw (w : World) (r : Option Nat) : w.grownBy w.drew r := ⟨rfl, rfl, rfl, Nat.le_refl _, fun _ _ _ => rfl⟩
theorem own_of_cells {w : World} {B g cap n : Nat} {cur : Array Value} {xs : List Value} (hh : w.heap[g]? = some (.cells cur 33 (0, 0))) (hB : B ≤ g) (hn : n ≤ cap) (hm : cap ≤ maxLen) (hs : cur.size = cap * 2) (hl : xs.length = n * 2)
    (hc : ∀ (j : Nat) (u : Value), xs[j]? = some u → w.cell? ⟨g, j, none⟩ = some u) : w.ownsRow B 33 2 (.slice (some ⟨g, 0, none⟩) n cap) n xs := by
  refine ⟨hl, Or.inr ⟨g, cap, cur, rfl, hB, hh, hn, hm, hs, ?_⟩⟩
  apply List.ext_getElem?
  intro j
  by_cases hj : j < xs.length
  · have := hc j _ (List.getElem?_eq_getElem hj)
    rw [cell_at hh] at this
    rw [List.getElem?_take, if_pos (by omega), Array.getElem?_toList, this, List.getElem?_eq_getElem hj]
  · rw [List.getElem?_take, if_neg (by omega), List.getElem?_eq_none (by omega)]
theorem flatS_take (ps : List St) : ∀ k, flatS (ps.take k) = (flatS ps).take (k * 2) := by
  induction ps with
  | nil => intro k; simp [flatS]
  | cons a r ih =>
    intro k
    cases k with
    | zero => simp [flatS]
    | succ k =>
      have e : flatS (a :: r) = .int .i64 a.1 :: .int .u64 (a.2 : Int) :: flatS r := rfl
      rw [e, List.take_succ_cons, show (k + 1) * 2 = k * 2 + 1 + 1 by omega]
      simp only [List.take_succ_cons]
      rw [← ih k]
      rfl
theorem flatS_drop (ps : List St) : ∀ k, flatS (ps.drop k) = (flatS ps).drop (k * 2) := by
  induction ps with
  | nil => intro k; simp [flatS]
  | cons a r ih =>
    intro k
    cases k with
    | zero => simp [flatS]
    | succ k =>
      have e : flatS (a :: r) = .int .i64 a.1 :: .int .u64 (a.2 : Int) :: flatS r := rfl
      rw [e, List.drop_succ_cons, show (k + 1) * 2 = k * 2 + 1 + 1 by omega]
      simp only [List.drop_succ_cons]
      exact ih k
/-- The two cells of a stamp. -/
abbrev twoC (q : St) : List Value := [.int .i64 q.1, .int .u64 (q.2 : Int)]
theorem sizeStampI : (Tryd.prog.info? 33).map (·.size) = some 2 := by kernel_rfl
/-- append takes what it appends by its own type; a row's other name is all the same. -/
theorem app_named (ty : TypeId) (b : Option Addr) (n c : Nat) (x : Value) (w : World) : (Builtin.append_ #[23, 22] ty #[.slice b n c, x]).run Tryd.prog w = (Builtin.append_ #[23, 23] ty #[.slice b n c, x]).run Tryd.prog w := by
  have h1 := Tryd.underlying23
  have h2 := Tryd.underlying22
  simp [Builtin.append_, run_underlying h1, run_underlying h2]
attribute [local go_sem ↓] appC_fold
set_option maxRecDepth 20000 in
set_option maxHeartbeats 2000000 in
/-- At the end. -/
theorem Insert_end {w : World} {B n vb : Nat} {ao : Option Addr} {c : Nat} {ps : List St} {q : St} (hown : w.ownsRow B 33 2 (.slice ao n c) n (flatS ps)) (hB : B ≤ w.heap.size) (h60 : n ≤ 4096)
    (hv : w.heap[vb]? = some (.cells #[.int .i64 q.1, .int .u64 (q.2 : Int)] 33 (0, 0))) :
    Calls Tryd.prog 20 #[.slice ao n c, .int .i64 (n : Int), .slice (some ⟨vb, 0, none⟩) 1 1] w fun e w' => ∃ bo bc, e = .returned (.slice bo (n + 1) bc) ∧ Hid (w'.ownsRow B 33 2 (.slice bo (n + 1) bc) (n + 1) (flatS (ps ++ [q])) ∧ w.grownBy w' (Value.slice ao n c).ownBlock) := by
  obtain ⟨i0, hi, hz0, hz1, hz2⟩ := info_parts info_stamp
  obtain ⟨v', w2, hrun, ho, hgr, _, _⟩ := run_append_own_at (P := Tryd.prog) w B 23 23 33 i0 (.agg #[.int .i64 0, .int .u64 0]) 2 16 Tryd.underlying23 hi hz0 hz1 hz2 rfl (by decide) (.slice ao n c) n (flatS ps) hown ⟨vb, 0, none⟩ 1 1 (twoC q) rfl (fun j u hj => by
    rw [addr_addS, Nat.zero_add, cell_at hv]
    simpa using hj) (by simp [Value.oneCell']) (by unfold maxLen; omega) (by omega) hB
  rw [← app_named] at hrun
  have e : flatS (ps ++ [q]) = flatS ps ++ twoC q := by rw [flatS_append]; rfl
  have hfin : ∃ bo bc, v' = .slice bo (n + 1) bc ∧ Hid (w2.ownsRow B 33 2 (.slice bo (n + 1) bc) (n + 1) (flatS (ps ++ [q])) ∧ w.grownBy w2 (Value.slice ao n c).ownBlock) := by
    rcases ho.2 with ⟨_, h0⟩ | ⟨g, cap, cur, rfl, _⟩
    · omega
    · exact ⟨_, _, rfl, by rw [e]; exact ho, hgr⟩
  obtain ⟨bo, bc, rfl, HF⟩ := hfin
  have hsl : (ao = none ∧ n = 0 ∧ c = 0) ∨ (∃ g, ao = some ⟨g, 0, none⟩ ∧ n ≤ c) := by
    rcases hown.2 with ⟨e, h0⟩ | ⟨g, cap, cur, e, hB, hh, hn, _⟩
    · injection e with e1 e2 e3
      exact Or.inl ⟨e1, e2, e3⟩
    · injection e with e1 e2 e3
      subst e3
      exact Or.inr ⟨g, e1, hn⟩
  have hap : (appC #[23, 22] 23 #[.slice ao n c, .slice (some ⟨vb, 0, none⟩) 1 1]).run Tryd.prog w = .ok (.slice bo (n + 1) bc) w2 := hrun
  clear hown hv hrun ho hgr e hi hz0 hz1 hz2
  rcases hsl with ⟨rfl, rfl, rfl⟩ | ⟨g, rfl, hnc⟩
  · go_enter Tryd.func20, Tryd.ntmps20
    go_wp2
    go_ret
    exact ⟨bo, bc, rfl, HF⟩
  · by_cases hcn : c = n
    · subst hcn
      go_enter Tryd.func20, Tryd.ntmps20
      go_wp2
      go_ret
      exact ⟨bo, bc, rfl, HF⟩
    · have hlt : n < c := by omega
      go_enter Tryd.func20, Tryd.ntmps20
      go_wp2
      go_ret
      exact ⟨bo, bc, rfl, HF⟩
end Go.Proofs.YtibbbjikehkbmabDoor.Ve
namespace Go.Proofs.YtibbbjikehkbmabDoor.Ve
open Go.RowKit

theorem own_parts {w : World} {B g n c : Nat} {xs : List Value} (h : w.ownsRow B 33 2 (.slice (some ⟨g, 0, none⟩) n c) n xs) : ∃ cur, B ≤ g ∧ w.heap[g]? = some (.cells cur 33 (0, 0)) ∧ n ≤ c ∧ c ≤ maxLen ∧ cur.size = c * 2 ∧ (∀ (j : Nat) (u : Value), xs[j]? = some u → w.cell? ⟨g, j, none⟩ = some u) ∧ ∀ j, j < c * 2 → (w.cell? ⟨g, j, none⟩).isSome = true := by
  rcases h.2 with ⟨e, _⟩ | ⟨g', cap, cur, e, hB, hh, hn, hm, hs, ht⟩
  · cases e
  · injection e with e1 e2 e3
    injection e1 with e1
    injection e1 with e1 _ _
    subst e1 e3
    refine ⟨cur, hB, hh, hn, hm, hs, fun j u hj => ?_, fun j hj => ?_⟩
    · rw [cell_at hh, ← Array.getElem?_toList]
      rw [← ht, List.getElem?_take] at hj
      split at hj
      · exact hj
      · cases hj
    · rw [cell_at hh, Array.getElem?_eq_getElem (by omega)]; rfl

set_option maxRecDepth 20000 in
set_option maxHeartbeats 4000000 in
theorem Insert_shift {w : World} {B g n c k vb : Nat} {ps : List St} {q : St} (hown : w.ownsRow B 33 2 (.slice (some ⟨g, 0, none⟩) n c) n (flatS ps)) (hl : ps.length = n) (hk : k < n) (hroom : n + 1 ≤ c) (h60 : n ≤ 4096)
    (hv : w.heap[vb]? = some (.cells #[.int .i64 q.1, .int .u64 (q.2 : Int)] 33 (0, 0))) (hne : vb ≠ g) :
    Calls Tryd.prog 20 #[.slice (some ⟨g, 0, none⟩) n c, .int .i64 (k : Int), .slice (some ⟨vb, 0, none⟩) 1 1] w fun e w' => e = .returned (.slice (some ⟨g, 0, none⟩) (n + 1) c) ∧ Hid (w'.ownsRow B 33 2 (.slice (some ⟨g, 0, none⟩) (n + 1) c) (n + 1) (flatS (ps.take k ++ q :: ps.drop k)) ∧ w.grownBy w' (some g)) := by
  have mixed := mixedV
  obtain ⟨cur, hB, hh, hnc, hm, hs, hcs, hsome⟩ := own_parts hown
  have hfz : ∀ j, w.frozen? ⟨g, j, none⟩ = false := fun j => free_of hh
  have hvfz : ∀ j, w.frozen? ⟨vb, j, none⟩ = false := fun j => free_of hv
  have h1c : ∀ u ∈ flatS ps, u.oneCell' = true := flatS_one ps
  have h1v : ∀ u ∈ twoC q, u.oneCell' = true := flatS_one [q]
  have hfl := flatS_len ps
  have hvs : ∀ (j : Nat) (u : Value), (twoC q)[j]? = some u → w.cell? ⟨vb, j, none⟩ = some u := fun j u hj => by rw [cell_at hv]; simpa using hj
  have hov : ∀ lb cb, (callFunc 34 #[.slice (some ⟨vb, 0, none⟩) 1 1, .slice (some ⟨g, (k + 1) * 2, none⟩) lb cb]).run Tryd.prog w = .ok (.value (.bool false)) w := fun lb cb => by
    rw [run_callFunc_extern Tryd.func34 (by kernel_rfl) (by kernel_rfl) (by kernel_rfl) (e := Extern.SlicesOverlaps.overlaps #[22, 22] #[4]) (by kernel_rfl),
      Lib.run_overlaps_apart w 22 4 33 Tryd.underlying22 2 Tryd.sizeOf33 ⟨vb, 0, none⟩ ⟨g, (k + 1) * 2, none⟩ 1 1 lb cb hne 33 33 2 (c * 2) (by rw [shape_at hv]; rfl) (by rw [shape_at hh, hs]) (by omega) (hvfz _) (hvfz _)]
    rfl
  have hdl : ((flatS ps).drop (k * 2)).length = (n - k) * 2 := by rw [List.length_drop, hfl, hl]; omega
  have hcp1 : ∀ ty dc sc, (Builtin.copy_ #[23, 23] ty #[.slice (some ⟨g, (k + 1) * 2, none⟩) (n - k) dc, .slice (some ⟨g, k * 2, none⟩) (n + 1 - k) sc]).run Tryd.prog w.drew = .ok (goInt (Nat.min (n + 1 - k) (n - k))) (w.drew.setCells g ((k + 1) * 2) ((flatS ps).drop (k * 2))) := fun ty dc sc =>
    run_copy_wide w.drew _ _ ty 33 2 g ((k + 1) * 2) (n - k) dc ⟨g, k * 2, none⟩ (n + 1 - k) sc _ Tryd.underlying23 sizeStampI (by rw [hdl]; congr 1; simp only [Nat.min_def]; split <;> omega)
      (fun j u hj => by rw [addr_addS]; exact hcs (k * 2 + j) u (by rwa [List.getElem?_drop] at hj))
      (fun j hj => hsome _ (by omega)) (fun j hj => hfz _) (fun u hu => h1c u (List.mem_of_mem_drop hu))
  obtain ⟨W1, hW1⟩ : ∃ W1, W1 = w.drew.setCells g ((k + 1) * 2) ((flatS ps).drop (k * 2)) := ⟨_, rfl⟩
  have hb1 := block_setCells ((flatS ps).drop (k * 2)) ((k + 1) * 2) w.drew cur hh
  rw [← hW1] at hcp1 hb1
  have hsz1 : (setAll cur ((k + 1) * 2) ((flatS ps).drop (k * 2))).size = c * 2 := by rw [setAll_size, hs]
  have hcp2 : ∀ (W : World), (∀ x, W.cell? x = W1.cell? x) → (∀ x, W.frozen? x = W1.frozen? x) → ∀ ty dc, (Builtin.copy_ #[23, 22] ty #[.slice (some ⟨g, k * 2, none⟩) (n + 1 - k) dc, .slice (some ⟨vb, 0, none⟩) 1 1]).run Tryd.prog W = .ok (goInt (Nat.min 1 (n + 1 - k))) (W.setCells g (k * 2) (twoC q)) := fun W hWc hWf ty dc =>
    run_copy_wide W _ _ ty 33 2 g (k * 2) (n + 1 - k) dc ⟨vb, 0, none⟩ 1 1 (twoC q) Tryd.underlying23 sizeStampI (by rw [show Nat.min 1 (n + 1 - k) = 1 by simp only [Nat.min_def]; split <;> omega]; rfl)
      (fun j u hj => by
        rw [addr_addS, Nat.zero_add, hWc, hW1, World.cell?_setCells_out g _ _ _ _ (fun h _ => absurd h hne)]
        exact hvs j u hj)
      (fun j hj => by
        have : j < 2 := hj
        rw [hWc, cell_at hb1, Array.getElem?_eq_getElem (by rw [hsz1]; omega)]; rfl) (fun j hj => by rw [hWf]; exact free_of hb1) h1v
  have HFIN := hid (show ∀ W : World, (∀ x, W.cell? x = W1.cell? x) → W.heap[g]? = W1.heap[g]? → (W.setCells g (k * 2) (twoC q)).ownsRow B 33 2 (.slice (some ⟨g, 0, none⟩) (n + 1) c) (n + 1) (flatS (ps.take k ++ q :: ps.drop k)) from fun W hWc hWh => by
    have hb2 := block_setCells (twoC q) (k * 2) W _ (hWh.trans hb1)
    refine own_of_cells hb2 hB hroom hm (by rw [setAll_size, hsz1]) (by rw [flatS_len]; simp [hl]; omega) (fun j u hj => ?_)
    have e : flatS (ps.take k ++ q :: ps.drop k) = (flatS ps).take (k * 2) ++ twoC q ++ (flatS ps).drop (k * 2) := by
      rw [flatS_append, flatS_take, List.append_assoc]
      show _ ++ (twoC q ++ flatS (ps.drop k)) = _
      rw [flatS_drop]
    rw [e] at hj
    have hsome2 : ∀ i, i < c * 2 → (W.cell? ⟨g, i, none⟩).isSome = true := fun i hi => by rw [hWc, cell_at hb1, Array.getElem?_eq_getElem (by rw [hsz1]; omega)]; rfl
    have htl : ((flatS ps).take (k * 2)).length = k * 2 := by rw [List.length_take, hfl, hl]; omega
    by_cases h1 : j < k * 2
    · rw [World.cell?_setCells_out g _ _ _ _ (fun _ _ => Or.inl h1), hWc, hW1, World.cell?_setCells_out g _ _ _ _ (fun _ _ => Or.inl (by show j < (k + 1) * 2; omega))]
      rw [List.append_assoc, List.getElem?_append_left (by omega), List.getElem?_take, if_pos h1] at hj
      exact hcs j u hj
    · by_cases h2 : j < k * 2 + 2
      · have hin := World.cell?_setCells_in g (twoC q) (k * 2) W (fun i hi => hsome2 _ (by have : i < 2 := hi; omega)) (j - k * 2) (by show j - k * 2 < 2; omega)
        rw [show k * 2 + (j - k * 2) = j by omega] at hin
        rw [hin]
        rw [List.getElem?_append_left (by rw [List.length_append, htl]; show j < k * 2 + 2; omega), List.getElem?_append_right (by omega), htl] at hj
        rw [List.getElem?_eq_getElem (by show j - k * 2 < 2; omega)] at hj
        exact hj
      · have hin := World.cell?_setCells_in g ((flatS ps).drop (k * 2)) ((k + 1) * 2) w.drew (fun i hi => hsome _ (by omega)) (j - (k + 1) * 2) (by
          have := (List.getElem?_eq_some_iff.1 hj).1
          simp only [List.length_append, htl, hdl] at this
          have e4 : (twoC q).length = 2 := rfl
          omega)
        rw [show (k + 1) * 2 + (j - (k + 1) * 2) = j by omega] at hin
        rw [World.cell?_setCells_out g _ _ _ _ (fun _ _ => Or.inr (by show k * 2 + 2 ≤ j; omega)), hWc, hW1, hin]
        rw [List.getElem?_append_right (by rw [List.length_append, htl]; show k * 2 + 2 ≤ j; omega), List.length_append, htl, show k * 2 + (twoC q).length = (k + 1) * 2 by show k * 2 + 2 = _; omega] at hj
        rw [List.getElem?_eq_getElem (by rw [hdl]; have := (List.getElem?_eq_some_iff.1 hj).1; rw [hdl] at this; exact this)] at hj
        exact hj)
  have HGR := hid (show ∀ W : World, w.grownBy W (some g) → w.grownBy (W.setCells g (k * 2) (twoC q)) (some g) from fun W hg => grown_two hg (grown_setCells g _ _ _))
  have HG1 := hid (show w.grownBy W1 (some g) by rw [hW1]; exact grown_two (grown_drw w _) (grown_setCells g _ _ _))
  have hz2 : ¬ ((k : Int) = (n : Int)) := by omega
  have hw1 : IntKind.i64.wrap ((k : Int) + 1) = (k : Int) + 1 := by rw [IntKind.wrap_i64]; omega
  have hb0 : (0 : Int) ≤ (k : Int) + 1 := by omega
  have hin : k ≤ n := by omega
  have htn : ((k : Int) + 1).toNat = k + 1 := by omega
  have hb2 : ¬ (c = k + 1) := by omega
  have hb3 : (k : Int) ≤ (n : Int) + 1 := by omega
  have hb4 : ¬ (c = k) := by omega
  have hcb : (c : Int) ≤ 9223372036854775807 := by unfold maxLen at hm; omega
  clear hown hv hh hcs hsome hfz hvfz h1c h1v hvs hb1 hsz1 hs 
  go_enter Tryd.func20, Tryd.ntmps20
  go_wp2_with (simp only [hov])
  go_region_law_o (refine step_copy_runI rfl _ _ 23 23 rfl _ _ (by simp [Act.eval, Act.put]) (by simp [Act.eval, Act.put]) (hcp1 _ _ _) ?_)
  go_wp2_with (at_builtin; refine wpList_copy_runI _ rfl _ _ 23 22 rfl _ _ rfl rfl (hcp2 _ (fun _ => rfl) (fun _ => rfl) _ _) ?_)
  go_ret
  exact ⟨rfl, HFIN.out _ (fun _ => by rw [hW1]) (by rw [hW1]), HGR.out _ (hW1 ▸ HG1.out)⟩
end Go.Proofs.YtibbbjikehkbmabDoor.Ve
