/-
  Text: a vector's text.
-/
import Derived.Test.YtibbbjikehkbmabDoorGTxt
import Derived.Test.YtibbbjikehkbmabDoorGChk
import Derived.Test.YtibbbjikehkbmabDoorGQuiet
namespace Go.Proofs.YtibbbjikehkbmabDoor.Ve
open Go.RowKit

/-- A stamp's text; the parts so far. -/
def stS (s : St) : List UInt8 := stT (s.1.toNat, s.2)
def partsL (l : List St) (k : Nat) : List Value := (l.take k).map (fun s => Value.string (txV (stS s))) ++ List.replicate (l.length - k) (.string ⟨#[]⟩)
def partsA (l : List St) (k : Nat) : Array Value := (partsL l k).toArray
theorem partsL_len (l : List St) (k : Nat) (hk : k ≤ l.length) : (partsL l k).length = l.length := by
  unfold partsL
  rw [List.length_append, List.length_map, List.length_take, List.length_replicate]
  omega
theorem partsL_get {l : List St} {k i : Nat} {s : St} (hs : l[i]? = some s) (hi : i < k) : (partsL l k)[i]? = some (.string (txV (stS s))) := by
  have hlt := (List.getElem?_eq_some_iff.1 hs).1
  unfold partsL
  rw [List.getElem?_append_left (by rw [List.length_map, List.length_take]; omega), List.getElem?_map, List.getElem?_take, if_pos hi, hs]
  rfl
theorem partsL_at {l : List St} {k : Nat} (hk : k < l.length) : (partsL l k)[k]? = some (.string ⟨#[]⟩) := by
  unfold partsL
  rw [List.getElem?_append_right (by rw [List.length_map, List.length_take]; omega), List.length_map, List.length_take, List.getElem?_replicate, if_pos (by omega)]
theorem partsL_set {l : List St} {k : Nat} {s : St} (hs : l[k]? = some s) : (partsL l k).set k (.string (txV (stS s))) = partsL l (k + 1) := by
  have hlt := (List.getElem?_eq_some_iff.1 hs).1
  apply List.ext_getElem?
  intro i
  rw [List.getElem?_set]
  rcases Nat.lt_trichotomy i k with q | q | q
  · rw [if_neg (by omega)]
    obtain ⟨t, ht⟩ : ∃ t, l[i]? = some t := ⟨_, List.getElem?_eq_getElem (by omega)⟩
    rw [partsL_get ht q, partsL_get ht (by omega)]
  · subst q
    rw [if_pos rfl, if_pos (by rw [partsL_len l i (by omega)]; exact hlt), partsL_get hs (by omega)]
  · rw [if_neg (by omega)]
    unfold partsL
    rw [List.getElem?_append_right (by rw [List.length_map, List.length_take]; omega), List.getElem?_append_right (by rw [List.length_map, List.length_take]; omega)]
    simp only [List.length_map, List.length_take, List.getElem?_replicate]
    by_cases h : i < l.length
    · rw [if_pos (by omega), if_pos (by omega)]
    · rw [if_neg (by omega), if_neg (by omega)]
theorem partsA_set {l : List St} {k : Nat} {s : St} (hs : l[k]? = some s) : (partsA l k).setIfInBounds k (.string (txV (stS s))) = partsA l (k + 1) := by
  unfold partsA
  rw [List.setIfInBounds_toArray, partsL_set hs]
theorem Tryd.infoStrV : (Tryd.prog.info? 9).map (fun i => (i.zero, i.size, i.bytes)) = some (some (.string ⟨#[]⟩), 1, 16) := by kernel_rfl
theorem run_parts {l : List St} {n : Nat} (hn : n = l.length) (h256 : n ≤ 256) (w : World) : (Instr.makeSlice 56 (.int .i64 (n : Int)) (.int .i64 (n : Int))).run Tryd.prog w = .ok (.slice (some ⟨w.heap.size, 0, none⟩) n n) (w.alloc (.cells (partsA l 0) 9)) := by
  obtain ⟨i, hi, hz0, hz1, hz2⟩ := info_parts Tryd.infoStrV
  have := run_make (P := Tryd.prog) w 56 9 i (.string ⟨#[]⟩) Tryd.underlying56 hi hz0 .i64 .i64 (n : Int) (n : Int) (by omega) (by omega) (by rw [hz2]; omega) (by omega)
  rw [this, hz1, Nat.mul_one, show ((n : Int)).toNat = n by omega]
  have e : madeCells (Value.string ⟨#[]⟩).cells n = partsA l 0 := by
    apply Array.ext_getElem?
    intro j
    unfold partsA partsL
    by_cases hj : j < n
    · simp [madeCells, hj, Nat.mod_one, ← hn, Value.cells]
    · rw [Array.getElem?_eq_none (by rw [size_madeCells]; first | omega | (show 1 * n ≤ j; omega) | (show n * 1 ≤ j; omega) | (simp; omega)), Array.getElem?_eq_none (by simp; omega)]
  rw [e]
/-- A vector's text. -/
def vtx (l : List St) : List UInt8 := if l = [] then [45] else Lib.join (l.map stS) [32]
theorem Tryd.extraJoin : Builder.Extra Tryd.prog Tryd.laysJoin_ren := {
  sizeBuilder := by kernel_rfl
  liesBuilder := by kernel_rfl
  t5 := Tryd.underlying5
  a5 := Tryd.isAgg5
  z5 := Tryd.sizeOf5
  v5 := Tryd.zeroValue5
  infoByte := by kernel_rfl
  cellsByte := by kernel_rfl
  sizeByte := by kernel_rfl
  neB5 := by decide }
theorem join_lenV {xs : List (List UInt8)} (h : ∀ x ∈ xs, x.length ≤ 24) : (Lib.join xs [32]).length ≤ 25 * xs.length := by
  have key : ∀ (l : List (List UInt8)), (∀ x ∈ l, x.length ≤ 24) → (Lib.joinTail [32] l).length ≤ 25 * l.length := by
    intro l
    induction l with
    | nil => intro _; simp [Lib.joinTail]
    | cons y l ih =>
      intro h
      have h1 := h y (by simp)
      have h2 := ih (fun x hx => h x (by simp [hx]))
      simp only [Lib.joinTail, List.map_cons, List.flatten_cons, List.length_append, List.length_cons, List.length_nil] at h2 ⊢
      omega
  cases xs with
  | nil => simp [Lib.join_nil]
  | cons y l =>
    have h1 := h y (by simp)
    have h2 := key l (fun x hx => h x (by simp [hx]))
    rw [Lib.join_cons, List.length_append, List.length_cons]
    omega
theorem join_parts {W : World} {l : List St} {n P : Nat} (hP : W.heap[P]? = some (.cells (partsA l n) 9 (0, 0))) (hn : n = l.length) (h256 : n ≤ 256) (hlen : ∀ s ∈ l, (stS s).length ≤ 24) :
    Calls Tryd.prog 27 #[.slice (some ⟨P, 0, none⟩) n n, .string ⟨#[32]⟩] W fun e w' => e = .returned (.string (txV (Lib.join (l.map stS) [32]))) ∧ Below W.heap.size W w' := by
  have hm : ((l.map stS).map txV).map (fun b => b.data.toList) = l.map stS := by rw [List.map_map]; simp [Function.comp_def]
  have hl : ((l.map stS).map txV).length = n := by simp [hn]
  have h := Any.strings_Join Tryd.laysJoin Tryd.extraJoin P 0 n ((l.map stS).map txV) ⟨#[32]⟩ W (fun j x hx => by
    rw [List.getElem?_map, List.getElem?_map] at hx
    cases hs : l[j]? with
    | none => rw [hs] at hx; cases hx
    | some s =>
      rw [hs] at hx
      cases hx
      have hj := (List.getElem?_eq_some_iff.1 hs).1
      rw [cell_at hP, Nat.zero_add]
      unfold partsA
      rw [List.getElem?_toArray]
      exact partsL_get hs (by omega)) (lt_of_block hP) (by rw [hl]; omega) (by rw [hl]; exact Nat.le_refl _) (by
    show (Lib.join (((l.map stS).map txV).map (fun b => b.data.toList)) [32]).length ≤ _
    rw [hm]
    have := join_lenV (xs := l.map stS) (fun x hx => by
      obtain ⟨s, hs, rfl⟩ := List.mem_map.1 hx
      exact hlen s hs)
    rw [List.length_map] at this
    omega)
  rw [Tryd.fJoin, hl] at h
  refine h.mono fun e w' ⟨he, hw⟩ => ⟨?_, hw⟩
  rw [he]
  show Ending.returned (Value.string ⟨(Lib.join (((l.map stS).map txV).map (fun b => b.data.toList)) [32]).toArray⟩) = _
  rw [hm]
set_option maxRecDepth 20000 in
set_option maxHeartbeats 2000000 in
theorem Text_ok {w : World} {v : Value} {l : List St} (h : VecV w v l) (hr : Right l) (h0 : l ≠ []) (hlen : ∀ s ∈ l, (stS s).length ≤ 24)
    (HT : Hid (∀ s ∈ l, ∀ W, Below w.heap.size w W → Calls Tryd.prog 26 #[.agg #[.int .i64 s.1, .int .u64 (s.2 : Int)]] W fun e w' => e = .returned (.string (txV (stS s))) ∧ Below W.heap.size W w')) :
    Calls Tryd.prog 12 #[v] w fun e w' => e = .returned (.tuple #[.string (txV (vtx l)), .int .i64 0]) ∧ Below w.heap.size w w' := by
  have h256 := right_len hr
  have HC := hid (fun W u (hv : VecsV W u [l]) => Check_any hv (by simp [maxLen]) (fun x hx => by simp at hx; subst hx; unfold maxLen; omega))
  rw [chkN_ok (fun x hx => by simp at hx; subst hx; exact hr)] at HC
  obtain ⟨ao, c, rfl, hcap, -, hrow⟩ := h
  obtain ⟨g, o, rfl, hg, hc⟩ := hrow.resolve_left h0
  obtain ⟨n, hn⟩ : ∃ n, n = l.length := ⟨_, rfl⟩
  rw [← hn] at h256 hcap ⊢
  have HN := hid hn
  have HROW := hid hrow
  have hn0 : n ≠ 0 := fun e => h0 (List.eq_nil_of_length_eq_zero (by rw [← hn]; exact e))
  have hn0I : ((n : Int) == 0) = false := by rw [beq_eq_false_iff_ne]; omega
  have hn0N : (n == 0) = false := by rw [beq_eq_false_iff_ne]; exact hn0
  have hmk := run_parts hn h256
  have hv : VecsV (w.alloc (.cells #[.slice (some ⟨g, o, none⟩) n c] 23)) (.slice (some ⟨w.heap.size, 0, none⟩) 1 1) [l] := ⟨some ⟨w.heap.size, 0, none⟩, 1, rfl, Nat.le_refl _, fun q => (by cases q), Or.inr ⟨w.heap.size, 0, rfl, by simp, fun j x hj => by
    have hj0 : j = 0 := by
      have := (List.getElem?_eq_some_iff.1 hj).1
      simpa using this
    subst hj0
    have : l = x := by simpa using hj
    subst this
    exact ⟨.slice (some ⟨g, o, none⟩) n c, cell_news 0, VecV.below (w := w) ⟨_, c, by rw [hn], by rw [← hn]; exact hcap, fun q => (by cases q), hrow⟩ (below_al _ _)⟩⟩⟩
  have HV := hid hv
  clear hn hrow hc hv
  go_enter Tryd.func12, Tryd.ntmps12
  go_wp2_with fail
  refine (HC.out _ _ HV.out).mono ?_
  rintro e W1 ⟨rfl, hb1⟩
  have HB1 := hid (below_tr (below_al _ _) hb1)
  clear hb1
  go_wp2_with fail
  obtain ⟨W2, hW2⟩ : ∃ W2, W1.alloc (.cells (partsA l 0) 9) = W2 := ⟨_, rfl⟩
  have HP0 := hid (show W2.heap[W1.heap.size]? = some (.cells (partsA l 0) 9 (0, 0)) by rw [← hW2]; exact new_0 _ _)
  have HB2 := hid (show Below w.heap.size w W2 by rw [← hW2]; exact HB1.out.alloc HB1.out.size _)
  have hz1 := HB1.out.size
  rw [hW2]
  clear hW2 hmk
  go_loopw [6, 7, 22] (fun _ _ vc wr => ∃ k : Nat, k ≤ n ∧ vc = .int .i64 k ∧ Hid (wr.heap[W1.heap.size]? = some (.cells (partsA l k) 9 (0, 0))) ∧ Hid (Below w.heap.size w wr)) (fun _ _ vc _ => n - (intOf vc).toNat)
  case atStart => exact ⟨0, Nat.zero_le _, rfl, HP0.out, HB2.out⟩
  case round =>
    obtain ⟨k, hk, rfl, HP, HB⟩ := hrel
    by_cases hlt : k < n
    · obtain ⟨s, hs⟩ : ∃ s, l[k]? = some s := ⟨_, List.getElem?_eq_getElem (by have := HN.out; omega)⟩
      obtain ⟨g', o', e, hg', hc⟩ := (HROW.out.below HB.out).resolve_left (fun e => by rw [e] at hs; simp at hs)
      injection e with e
      injection e with e1 e2 _
      subst e1 e2
      obtain ⟨c0, c1⟩ := hc k _ hs
      have kI : (k : Int) < (n : Int) := by omega
      have k0 : (0 : Int) ≤ (k : Int) := by omega
      have HTS := hid (fun W hb => HT.out s (List.mem_of_getElem? hs) W hb)
      have HSET := hid (partsA_set hs)
      have HAT := hid (show (partsA l k)[k]? = some (.string ⟨#[]⟩) by unfold partsA; rw [List.getElem?_toArray]; exact partsL_at (by have := HN.out; omega))
      have hPs := lt_of_block HP.out
      obtain ⟨d, u⟩ := s
      simp only at c0 c1
      clear hs hc hlt
      go_wp2_with fail
      refine (HTS.out _ (HB.out.alloc HB.out.size _)).mono ?_
      rintro e w3 ⟨rfl, hb3⟩
      have hP3 : w3.heap[W1.heap.size]? = some (.cells (partsA l k) 9 (0, 0)) := below_block hb3 (new_old _ _ HP.out) (by simp; omega)
      have HP3 := hid hP3
      have q1 : w3.cell? ⟨W1.heap.size, k, none⟩ = some (.string ⟨#[]⟩) := by rw [cell_at hP3]; exact HAT.out
      have q2 := free_of (o := k) hP3
      have HB3 := hid ((HB.out.alloc HB.out.size (.cells #[.int .i64 d, .int .u64 (u : Int)] 33)).trans (hb3.mono (by have := HB.out.size; simp; omega)))
      clear hb3 hP3
      go_wp2
      go_roundw
      case rel => exact ⟨k + 1, by omega, by go_num, hid (by rw [block_set _ HP3.out, HSET.out]), HB3.out.setCell (p := ⟨W1.heap.size, k, none⟩) hz1 _⟩
      case measure => simp [intOf]; omega
    · have hkn : k = n := by omega
      have kI : ¬ (k : Int) < (n : Int) := by omega
      subst hkn
      have HJ := hid (join_parts HP.out HN.out h256 hlen)
      have HE := hid (show vtx l = Lib.join (l.map stS) [32] by unfold vtx; rw [if_neg h0])
      go_wp2_with fail
      refine HJ.out.mono ?_
      rintro e w3 ⟨rfl, hb3⟩
      have HB3 := hid (HB.out.trans (hb3.mono HB.out.size))
      clear hb3
      go_wp2
      go_ret2
      exact ⟨by rw [HE.out]; rfl, HB3.out⟩
end Go.Proofs.YtibbbjikehkbmabDoor.Ve
