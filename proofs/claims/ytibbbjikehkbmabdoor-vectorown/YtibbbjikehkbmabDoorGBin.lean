/-
  slices.BinarySearchFunc of a vector, by devices.
-/
import Derived.Test.YtibbbjikehkbmabDoorGNextA
import Derived.Test.YtibbbjikehkbmabDoorGChk
import Derived.Test.YtibbbjikehkbmabDoorGOwn
import Derived.Deep.LoopGhost
import Derived.Deep.Draws
import Derived.Sort.Walk0
namespace Go.Proofs.YtibbbjikehkbmabDoor.Ve
open Go.RowKit

/-- How many stamps stand ahead of a device. -/
def lowI (l : List St) (d : Int) : Nat := (l.filter fun t => decide (t.1 < d)).length
theorem lowI_eq {l : List St} {d : Int} {k : Nat} (hk : k ≤ l.length) (h1 : ∀ i s, l[i]? = some s → i < k → s.1 < d) (h2 : ∀ i s, l[i]? = some s → k ≤ i → ¬ s.1 < d) : lowI l d = k := by
  unfold lowI
  have e : l = l.take k ++ l.drop k := (List.take_append_drop k l).symm
  have f1 : (l.take k).filter (fun t => decide (t.1 < d)) = l.take k := by
    rw [List.filter_eq_self]
    intro t ht
    obtain ⟨i, hi⟩ := List.getElem?_of_mem ht
    rw [List.getElem?_take] at hi
    split at hi
    · rename_i hik
      simpa using h1 i t hi hik
    · cases hi
  have f2 : (l.drop k).filter (fun t => decide (t.1 < d)) = [] := by
    rw [List.filter_eq_nil_iff]
    intro t ht
    obtain ⟨i, hi⟩ := List.getElem?_of_mem ht
    rw [List.getElem?_drop] at hi
    simpa using h2 (k + i) t hi (by omega)
  rw [e, List.filter_append, f1, f2, List.append_nil, List.length_take]
  omega
theorem fnd_at {l : List St} (hr : Right l) {d : Int} {k : Nat} (h1 : ∀ i s, l[i]? = some s → i < k → s.1 < d) (h2 : ∀ i s, l[i]? = some s → k ≤ i → ¬ s.1 < d) : (fndP l d).2 = match l[k]? with | some s => decide (s.1 = d) | none => false := by
  cases hs : l[k]? with
  | none =>
    have : k ≥ l.length := by
      rcases Nat.lt_or_ge k l.length with q | q
      · rw [List.getElem?_eq_getElem q] at hs; cases hs
      · exact q
    rw [get_no (k := l.length) rfl (fun i hi t ht => by have := h1 i t ht (by omega); omega)]
  | some s =>
    by_cases e : s.1 = d
    · rw [get_at (fun i hi t ht => by have := h1 i t ht hi; omega) hs e]
      exact (decide_eq_true e).symm
    · have hno : ∀ i, i < l.length → ∀ t, l[i]? = some t → t.1 ≠ d := fun i _ t ht => by
        rcases Nat.lt_trichotomy i k with q | q | q
        · have := h1 i t ht q; omega
        · subst q; rw [hs] at ht; cases ht; exact e
        · have := right_lt hr hs ht q
          have := h2 k s hs (Nat.le_refl _)
          omega
      rw [get_no (k := l.length) rfl hno]
      exact (decide_eq_false e).symm
structure BinAt (w : World) (l : List St) (d u : Int) (B : Nat) (lo hi : Nat) (wr : World) : Prop where
  low : Below w.heap.size w wr
  bx : wr.cell? ⟨B, 0, none⟩ = some (.int .i64 d) ∧ wr.cell? ⟨B, 1, none⟩ = some (.int .u64 u)
  lt : B < wr.heap.size
  no : ∀ i s, l[i]? = some s → i < lo → s.1 < d
  yes : ∀ i s, l[i]? = some s → hi ≤ i → ¬ s.1 < d
set_option maxRecDepth 20000 in
set_option maxHeartbeats 4000000 in
theorem Bin_any {w : World} {v : Value} {l : List St} (h : VecV w v l) (hr : Right l) (d u : Int) :
    Calls Tryd.prog 32 #[v, .agg #[.int .i64 d, .int .u64 u], .func (.func 33) #[] #[]] w fun e w' => e = .returned (.tuple #[.int .i64 (lowI l d : Nat), .bool (fndP l d).2]) ∧ Below w.heap.size w w' := by
  obtain ⟨ao, c, rfl, -, -, hrow⟩ := h
  obtain ⟨n, hn⟩ : ∃ n, n = l.length := ⟨_, rfl⟩
  have HN := hid hn
  have HR := hid hr
  have HROW := hid hrow
  have h256 := right_len hr
  rw [← hn] at h256 ⊢
  have hent := Tryd.entBy
  have HBY := hid byDev_any
  have HI0 := hid (show BinAt w l d u w.heap.size 0 n (w.alloc (.cells #[.int .i64 d, .int .u64 u] 33)) from ⟨below_al _ _, ⟨cell_news 0, cell_news 1⟩, by simp, fun i s _ hi => by omega, fun i s hs hi => by
    have := (List.getElem?_eq_some_iff.1 hs).1
    omega⟩)
  clear hn hr hrow
  go_enter Tryd.func32, Tryd.ntmps32
  go_wp2_with fail
  go_loopw [9, 10, 11] (fun vi vj _ wr => ∃ lo hi : Nat, vi = .int .i64 lo ∧ vj = .int .i64 hi ∧ lo ≤ hi ∧ hi ≤ n ∧ Hid (BinAt w l d u w.heap.size lo hi wr)) (fun vi vj _ _ => (intOf vj).toNat - (intOf vi).toNat)
  case atStart => exact ⟨0, n, rfl, rfl, Nat.zero_le _, Nat.le_refl _, HI0.out⟩
  case round =>
    obtain ⟨lo, hi, rfl, rfl, hlh, hin, HI⟩ := hrel
    have b0 := HI.out.bx.1
    have b1 := HI.out.bx.2
    by_cases hlt : lo < hi
    · obtain ⟨h, hh⟩ : ∃ h, h = (lo + hi) / 2 := ⟨_, rfl⟩
      have hq : ((lo : Int) + (hi : Int)) / 2 = (h : Int) := by omega
      have h1 : lo ≤ h := by omega
      have h2 : h < hi := by omega
      clear hh
      obtain ⟨s, hs⟩ : ∃ s, l[h]? = some s := ⟨_, List.getElem?_eq_getElem (by have := HN.out; omega)⟩
      obtain ⟨g, o, rfl, hg, hc⟩ := (HROW.out.below HI.out.low).resolve_left (fun e => by rw [e] at hs; simp at hs)
      obtain ⟨c0, c1⟩ := hc h s hs
      have hI0 : (0 : Int) ≤ (h : Int) := by omega
      have hI1 : (h : Int) < (n : Int) := by omega
      have HC := hid (HBY.out s.1 d (s.2 : Int) u)
      have HS := hid hs
      obtain ⟨x, y⟩ := s
      simp only at c0 c1 HC
      obtain ⟨r, hr⟩ : ∃ r, r = cmpD x d := ⟨_, rfl⟩
      rw [← hr] at HC
      have HCD := hid hr
      clear hc hs hr
      go_wp2_with fail
      go_region_held2 (fun W => W.cell? ⟨g, o + h * 2, none⟩ = some (.int .i64 x) ∧ W.cell? ⟨g, o + h * 2 + 1, none⟩ = some (.int .u64 (y : Int)) ∧ W.cell? ⟨w.heap.size, 0, none⟩ = some (.int .i64 d) ∧ W.cell? ⟨w.heap.size, 1, none⟩ = some (.int .u64 u)) (first | exact ⟨c0, c1, b0, b1⟩ | exact hS2) (first | (go_at_call 33; refine (HC.out _).mono ?_; rintro en w2 ⟨rfl, hb2⟩; have B2 := hid hb2; have hS2 := And.intro ((hb2.cell (block_oldS c0)).trans c0) (And.intro ((hb2.cell (block_oldS c1)).trans c1) (And.intro ((hb2.cell (block_oldS b0)).trans b0) ((hb2.cell (block_oldS b1)).trans b1))); clear hb2))
      have hS2 := hS2
      have HB2 := hid (undrew B2.out)
      have HBX := hid hS2
      clear hS2
      rcases Int.lt_or_le x d with hx | hx
      · have hr : r = -1 := by rw [HCD.out]; unfold cmpD; rw [if_pos hx]
        subst hr
        have HN2 := hid (show BinAt w l d u w.heap.size (h + 1) hi w2 from ⟨HI.out.low.trans (HB2.out.mono HI.out.low.size), ⟨HBX.out.2.2.1, HBX.out.2.2.2⟩, Nat.lt_of_lt_of_le HI.out.lt HB2.out.size, fun i s hs hi => by
          by_cases q : i = h
          · subst q; rw [HS.out] at hs; cases hs; exact hx
          · have := right_lt HR.out hs HS.out (by omega); simp only at this; omega, HI.out.yes⟩)
        clear hx
        go_wp2
        go_roundw
        case rel => exact ⟨h + 1, hi, by go_num, rfl, by omega, by omega, HN2⟩
        case measure => simp [intOf]; omega
      · have hr : r = 0 ∨ r = 1 := by
          rw [HCD.out]; unfold cmpD
          rw [if_neg (by omega)]
          by_cases q : d < x
          · rw [if_pos q]; exact Or.inr rfl
          · rw [if_neg q]; exact Or.inl rfl
        have HN2 := hid (show BinAt w l d u w.heap.size lo h w2 from ⟨HI.out.low.trans (HB2.out.mono HI.out.low.size), ⟨HBX.out.2.2.1, HBX.out.2.2.2⟩, Nat.lt_of_lt_of_le HI.out.lt HB2.out.size, HI.out.no, fun i s hs hi => by
          by_cases q : i = h
          · subst q; rw [HS.out] at hs; cases hs; simp only; omega
          · have := right_lt HR.out HS.out hs (by omega); simp only at this; omega⟩)
        clear hx
        rcases hr with hr | hr
        all_goals
          subst hr
          go_wp2
          go_roundw
          case rel => exact ⟨lo, h, rfl, by go_num, by omega, by omega, HN2⟩
          case measure => simp [intOf]; omega
    · have he : hi = lo := by omega
      subst he
      have hI : ¬ ((hi : Int) < (hi : Int)) := by omega
      have HLO := hid (lowI_eq (by rw [← HN.out]; exact hin) HI.out.no HI.out.yes)
      have HFD := hid (fnd_at HR.out HI.out.no HI.out.yes)
      by_cases hn : hi < n
      · obtain ⟨s, hs⟩ : ∃ s, l[hi]? = some s := ⟨_, List.getElem?_eq_getElem (by have := HN.out; omega)⟩
        obtain ⟨g, o, rfl, hg, hc⟩ := (HROW.out.below HI.out.low).resolve_left (fun e => by rw [e] at hs; simp at hs)
        obtain ⟨c0, c1⟩ := hc hi s hs
        have hI0 : (0 : Int) ≤ (hi : Int) := by omega
        have hI1 : (hi : Int) < (n : Int) := by omega
        have HC := hid (HBY.out s.1 d (s.2 : Int) u)
        have hfd := HFD.out
        rw [hs] at hfd
        have HS := hid hs
        obtain ⟨x, y⟩ := s
        simp only at c0 c1 HC hfd
        have HFD := hid hfd
        have hxd : ¬ x < d := HI.out.yes hi _ HS.out (Nat.le_refl _)
        obtain ⟨r, hr⟩ : ∃ r, r = cmpD x d := ⟨_, rfl⟩
        rw [← hr] at HC
        have HCD := hid hr
        clear hc hs hr hfd
        go_wp2_with fail
        go_region_held2 (fun W => W.cell? ⟨g, o + hi * 2, none⟩ = some (.int .i64 x) ∧ W.cell? ⟨g, o + hi * 2 + 1, none⟩ = some (.int .u64 (y : Int)) ∧ W.cell? ⟨w.heap.size, 0, none⟩ = some (.int .i64 d) ∧ W.cell? ⟨w.heap.size, 1, none⟩ = some (.int .u64 u)) (first | exact ⟨c0, c1, b0, b1⟩ | exact hS2) (first | (go_at_call 33; refine (HC.out _).mono ?_; rintro en w2 ⟨rfl, hb2⟩; have B2 := hid hb2; have hS2 := And.intro ((hb2.cell (block_oldS c0)).trans c0) (And.intro ((hb2.cell (block_oldS c1)).trans c1) (And.intro ((hb2.cell (block_oldS b0)).trans b0) ((hb2.cell (block_oldS b1)).trans b1))); clear hb2))
        by_cases e : x = d
        · have hr : r = 0 := by rw [HCD.out]; unfold cmpD; rw [if_neg (by omega), if_neg (by omega)]
          subst hr
          have HE := hid (show (fndP l d).2 = true by rw [HFD.out]; exact decide_eq_true e)
          clear e hxd
          go_wp2
          go_ret2
          exact ⟨by rw [HE.out, HLO.out]; rfl, HI.out.low.trans ((undrew B2.out).mono HI.out.low.size)⟩
        · have hr : r = 1 := by rw [HCD.out]; unfold cmpD; rw [if_neg (by omega), if_pos (by omega)]
          subst hr
          have HE := hid (show (fndP l d).2 = false by rw [HFD.out]; exact decide_eq_false e)
          clear e hxd
          go_wp2
          go_ret2
          exact ⟨by rw [HE.out, HLO.out]; rfl, HI.out.low.trans ((undrew B2.out).mono HI.out.low.size)⟩
      · have hn0 : hi = n := by omega
        have hI1 : ¬ (hi : Int) < (n : Int) := by omega
        have hnone : l[hi]? = none := List.getElem?_eq_none (by have := HN.out; omega)
        have hfd := HFD.out
        rw [hnone] at hfd
        have HE := hid hfd
        clear hn0 hnone hfd
        go_wp2_with fail
        go_quiet (fail)
        go_wp2
        go_ret2
        exact ⟨by rw [HE.out, HLO.out]; rfl, below_drewN HI.out.low⟩
theorem find_any {w : World} {v : Value} {l : List St} (h : VecV w v l) (hr : Right l) (d : Int) :
    Calls Tryd.prog 19 #[v, .int .i64 d] w fun e w' => e = .returned (.tuple #[.int .i64 (lowI l d : Nat), .bool (fndP l d).2]) ∧ Below w.heap.size w w' := by
  have HB := hid (Bin_any h hr d 0)
  obtain ⟨ao, c, rfl, -⟩ := h
  obtain ⟨n, hn⟩ : ∃ n, n = l.length := ⟨_, rfl⟩
  rw [← hn] at HB ⊢
  clear hn hr
  go_enter Tryd.func19, Tryd.ntmps19
  go_wp2_with fail
  refine HB.out.mono ?_
  rintro e w1 ⟨rfl, hb⟩
  go_wp2
  go_ret2
  exact ⟨by rfl, hb⟩
end Go.Proofs.YtibbbjikehkbmabDoor.Ve
