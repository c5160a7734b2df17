/-
  Say: words one behind the other.
-/
import Derived.Test.YtalmcdhohoplpaaDoorWBuild
namespace Go.Proofs.YtalmcdhohoplpaaDoor
open Go.RowKit

/-- A slice of texts, wherever it lies; nil and empty ones too. -/
def Txs (w : World) (v : Value) (ls : List (List UInt8)) : Prop :=
  ∃ ao cap, v = .slice ao ls.length cap ∧ (ls = [] ∨ ∃ g o, ao = some ⟨g, o, none⟩ ∧ g < w.heap.size ∧ ∀ i, i < ls.length → w.cell? ⟨g, o + i, none⟩ = some (.string (tx (ls.getD i []))))
theorem Txs.nil (w : World) (cap : Nat) (ao : Option Addr) : Txs w (.slice ao 0 cap) [] := ⟨ao, cap, rfl, Or.inl rfl⟩
theorem Txs.below {w w' : World} {v : Value} {ls : List (List UInt8)} (h : Txs w v ls) (hb : Below w.heap.size w w') : Txs w' v ls := by
  obtain ⟨ao, cap, e, hr⟩ := h
  refine ⟨ao, cap, e, ?_⟩
  rcases hr with hr | ⟨g, o, ea, hg, hc⟩
  · exact Or.inl hr
  · exact Or.inr ⟨g, o, ea, Nat.lt_of_lt_of_le hg hb.size, fun i hi => by rw [hb.cell (by show g < w.heap.size; omega)]; exact hc i hi⟩

theorem sayTo_len (ls : List (List UInt8)) (h : ∀ l ∈ ls, l.length ≤ 4000) (k : Nat) : (Wo.sayTo ls k).length ≤ 4001 * k := by
  induction k with
  | zero => simp [Wo.sayTo]
  | succ k ih =>
    have hk : (ls.getD k []).length ≤ 4000 := by
      by_cases hk : k < ls.length
      · rw [List.getD_eq_getElem?_getD, List.getElem?_eq_getElem hk]
        exact h _ (List.getElem_mem hk)
      · rw [List.getD_eq_getElem?_getD, List.getElem?_eq_none (by omega)]; simp
    unfold Wo.sayTo
    split <;> simp only [List.length_append, List.length_cons, List.length_nil] <;> omega
theorem getD_len (ls : List (List UInt8)) (h : ∀ l ∈ ls, l.length ≤ 4000) (k : Nat) : (ls.getD k []).length ≤ 4000 := by
  by_cases hk : k < ls.length
  · rw [List.getD_eq_getElem?_getD, List.getElem?_eq_getElem hk]
    exact h _ (List.getElem_mem hk)
  · rw [List.getD_eq_getElem?_getD, List.getElem?_eq_none (by omega)]; simp

/-- Are all of them words? -/
def allW (ls : List (List UInt8)) : Bool := ls.all Wo.isW
theorem allW_getD {ls : List (List UInt8)} : allW ls = true ↔ ∀ i, i < ls.length → Wo.isW (ls.getD i []) = true := by
  unfold allW
  rw [List.all_eq_true]
  constructor
  · intro h i hi
    rw [List.getD_eq_getElem?_getD, List.getElem?_eq_getElem hi]
    exact h _ (List.getElem_mem hi)
  · intro h x hx
    obtain ⟨i, hi, rfl⟩ := List.mem_iff_getElem.1 hx
    have := h i hi
    rw [List.getD_eq_getElem?_getD, List.getElem?_eq_getElem hi] at this
    exact this
/-- What is said; the error. -/
def sayS (ls : List (List UInt8)) : List UInt8 := if allW ls then Wo.sayL ls else []
def sayE (ls : List (List UInt8)) : Nat := if allW ls then 0 else 31

set_option maxHeartbeats 1000000 in
theorem Say_none (ao : Option Addr) (cap : Nat) (w : World) : Calls Tryd.prog 20 #[.slice ao 0 cap] w fun e w' => e = .returned (.tuple #[.string (tx []), .int .i64 0]) ∧ Below w.heap.size w w' := by
  have hf := Lib.fresh_isBuilder 58 5 w
  go_enter Tryd.func20, Tryd.ntmps20
  go_wp2
  refine wp_loop_rounds 1 ?_
  rw [rounds_succ]
  go_wp2_with (go_at_call 34; refine (String_any w.heap.size w.heap.size [] _ hf (by simp)).mono ?_; rintro e w1 ⟨rfl, hb1⟩)
  go_ret2
  exact ⟨rfl, ((Below.refl _ _).alloc (Nat.le_refl _) _).trans hb1⟩

set_option maxRecDepth 4000 in
set_option maxHeartbeats 2000000 in
theorem Say_some (ls : List (List UInt8)) (g o cap : Nat) (w : World) (hg : g < w.heap.size) (hc : ∀ i, i < ls.length → w.cell? ⟨g, o + i, none⟩ = some (.string (tx (ls.getD i [])))) (hn : ls.length ≤ 60) (h4 : ∀ l ∈ ls, l.length ≤ 4000) :
    Calls Tryd.prog 20 #[.slice (some ⟨g, o, none⟩) ls.length cap] w fun e w' => e = .returned (.tuple #[.string (tx (sayS ls)), .int .i64 (sayE ls)]) ∧ Below w.heap.size w w' := by
  have HC := hid hc
  have H4 := hid h4
  clear hc h4
  obtain ⟨n, hnn⟩ : ∃ n, n = ls.length := ⟨_, rfl⟩
  have HN := hid hnn
  rw [← hnn] at hn ⊢
  clear hnn
  have hf := hid (Lib.fresh_isBuilder 58 5 w)
  go_enter Tryd.func20, Tryd.ntmps20
  go_wp2
  go_loopw [9] (fun i wr => ∃ k : Nat, k ≤ n ∧ i = .int .i64 k ∧ Hid (Bu w.heap.size w.heap.size (Wo.sayTo ls k) wr) ∧ Hid (∀ j, j < k → Wo.isW (ls.getD j []) = true) ∧ Hid (Below w.heap.size w wr)) (fun i _ => n - (intOf i).toNat)
  case atStart => exact ⟨0, Nat.zero_le _, rfl, hf, fun j hj => absurd hj (Nat.not_lt_zero j), (Below.refl _ _).alloc (Nat.le_refl _) _⟩
  case round =>
    obtain ⟨k, hk, rfl, HB, HW, HL⟩ := hrel
    have hsz := HL.out.size
    by_cases hlt : k < n
    · have ck : wr.cell? ⟨g, o + k, none⟩ = some (.string (tx (ls.getD k []))) := by rw [HL.out.cell (by exact hg)]; exact HC.out k (by rw [← HN.out]; exact hlt)
      obtain ⟨x, hx⟩ : ∃ x, x = ls.getD k [] := ⟨_, rfl⟩
      have hxl := getD_len ls H4.out k
      rw [← hx] at ck hxl
      have HX := hid hx
      clear hx
      have hkI : (0 : Int) ≤ (k : Int) := by omega
      have hkI2 : (k : Int) < (n : Int) := by omega
      have hsl := sayTo_len ls H4.out k
      rcases bool_two (Wo.isW x) with h1 | h1
      · have q : ∀ w, Calls Tryd.prog 30 #[.string (tx x)] w fun e w' => e = .returned (.bool false) ∧ w' = w := fun w => by
          have := isWord_any (tx x) w (by rw [tx_size]; unfold maxLen; omega)
          rw [show (tx x).data.toList = x from rfl, h1] at this; exact this
        have HE := hid (show allW ls = false by
          cases hq : allW ls with
          | false => rfl
          | true => have := allW_getD.1 hq k (by rw [← HN.out]; exact hlt); rw [← HX.out, h1] at this; exact absurd this (by simp))
        clear h1
        go_wp2_with (go_at_call 30; refine (q _).mono ?_; rintro e w' ⟨rfl, rfl⟩)
        go_ret2
        refine ⟨?_, HL.out⟩
        unfold sayS sayE
        rw [HE.out]; rfl
      · have q : ∀ w, Calls Tryd.prog 30 #[.string (tx x)] w fun e w' => e = .returned (.bool true) ∧ w' = w := fun w => by
          have := isWord_any (tx x) w (by rw [tx_size]; unfold maxLen; omega)
          rw [show (tx x).data.toList = x from rfl, h1] at this; exact this
        have HW2 := hid (show ∀ j, j < k + 1 → Wo.isW (ls.getD j []) = true from fun j hj => by
          by_cases e : j = k
          · rw [e, ← HX.out]; exact h1
          · exact HW.out j (by omega))
        clear h1
        by_cases hk0 : 0 < k
        · obtain ⟨y, hy⟩ : ∃ y, y = ls.getD (k - 1) [] := ⟨_, rfl⟩
          have cy : wr.cell? ⟨g, o + (k - 1), none⟩ = some (.string (tx y)) := by
            rw [HL.out.cell (by exact hg), hy]
            exact HC.out (k - 1) (by rw [← HN.out]; omega)
          have hyl := getD_len ls H4.out (k - 1)
          rw [← hy] at hyl
          have hp1 : (0 : Int) ≤ (k : Int) - 1 := by omega
          have hp2 : (k : Int) - 1 < (n : Int) := by omega
          have hk0I : (0 : Int) < (k : Int) := by omega
          have HY := hid hy
          clear hy
          rcases bool_two (Wo.glue y x) with h2 | h2
          · have q2 : ∀ w, Calls Tryd.prog 31 #[.string (tx y), .string (tx x)] w fun e w' => e = .returned (.bool true) ∧ w' = w := fun w => by
              have := mayTouch_any (tx y) (tx x) w (by rw [tx_size, tx_size]; unfold maxLen; omega)
              rw [show (tx x).data.toList = x from rfl, show (tx y).data.toList = y from rfl, h2] at this; exact this
            have HE0 := hid (show Wo.sayTo ls (k + 1) = Wo.sayTo ls k ++ x by
              show Wo.sayTo ls k ++ (if 0 < k ∧ Wo.glue (ls.getD (k - 1) []) (ls.getD k []) = true then [32] else []) ++ ls.getD k [] = _
              rw [← HX.out, ← HY.out, h2, if_neg (by simp)]; simp)
            clear h2
            go_wp2_with (first | (go_at_call 30; refine (q _).mono ?_; rintro e w' ⟨rfl, rfl⟩) | (go_at_call 31; refine (q2 _).mono ?_; rintro e w' ⟨rfl, rfl⟩) | (go_at_call 33; refine (WriteString_any w.heap.size w.heap.size (Wo.sayTo ls k) x _ HB.out (by omega) (by omega) (by omega)).mono ?_; rintro e w2 ⟨rfl, HB2, hb2⟩))
            go_roundw
            case rel => exact ⟨k + 1, by omega, by go_num, by show Bu _ _ _ _; rw [HE0.out]; exact HB2.out, HW2, HL.out.trans hb2⟩
            case measure => simp [intOf]; omega
          · have q2 : ∀ w, Calls Tryd.prog 31 #[.string (tx y), .string (tx x)] w fun e w' => e = .returned (.bool false) ∧ w' = w := fun w => by
              have := mayTouch_any (tx y) (tx x) w (by rw [tx_size, tx_size]; unfold maxLen; omega)
              rw [show (tx x).data.toList = x from rfl, show (tx y).data.toList = y from rfl, h2] at this; exact this
            have HE0 := hid (show Wo.sayTo ls (k + 1) = (Wo.sayTo ls k ++ [32]) ++ x by
              show Wo.sayTo ls k ++ (if 0 < k ∧ Wo.glue (ls.getD (k - 1) []) (ls.getD k []) = true then [32] else []) ++ ls.getD k [] = _
              rw [← HX.out, ← HY.out, h2, if_pos ⟨hk0, rfl⟩])
            clear h2
            have hw2l : (Wo.sayTo ls k ++ [32]).length ≤ 1073741824 := by simp only [List.length_append, List.length_cons, List.length_nil]; omega
            go_wp2_with (first | (go_at_call 30; refine (q _).mono ?_; rintro e w' ⟨rfl, rfl⟩) | (go_at_call 31; refine (q2 _).mono ?_; rintro e w' ⟨rfl, rfl⟩) | (go_at_call 33; refine (WriteString_any w.heap.size w.heap.size (Wo.sayTo ls k ++ [32]) x _ HB1.out hw2l (by omega) (by omega)).mono ?_; rintro e w2 ⟨rfl, HB2, hb2⟩) | (go_at_call 32; refine (WriteByte_any w.heap.size w.heap.size (Wo.sayTo ls k) 32 _ HB.out (by omega) (by omega)).mono ?_; rintro e w1 ⟨rfl, HB1, hb1⟩; have hs1 := hb1.size))
            go_roundw
            case rel => exact ⟨k + 1, by omega, by go_num, by show Bu _ _ _ _; rw [HE0.out]; exact HB2.out, HW2, HL.out.trans (hb1.trans hb2)⟩
            case measure => simp [intOf]; omega
        · have HE0 := hid (show Wo.sayTo ls (k + 1) = Wo.sayTo ls k ++ x by
            show Wo.sayTo ls k ++ (if 0 < k ∧ Wo.glue (ls.getD (k - 1) []) (ls.getD k []) = true then [32] else []) ++ ls.getD k [] = _
            rw [← HX.out, if_neg (by omega)]; simp)
          have hk0I : decide ((0 : Int) < (k : Int)) = false := decide_eq_false (by omega)
          go_wp2_with (first | (go_at_call 30; refine (q _).mono ?_; rintro e w' ⟨rfl, rfl⟩) | (go_at_call 33; refine (WriteString_any w.heap.size w.heap.size (Wo.sayTo ls k) x _ HB.out (by omega) (by omega) (by omega)).mono ?_; rintro e w2 ⟨rfl, HB2, hb2⟩))
          go_roundw
          case rel => exact ⟨k + 1, by omega, by go_num, by show Bu _ _ _ _; rw [HE0.out]; exact HB2.out, HW2, HL.out.trans hb2⟩
          case measure => simp [intOf]; omega
    · have hkn : k = n := by omega
      have HE := hid (show allW ls = true from allW_getD.2 (fun i hi => HW.out i (by rw [← HN.out] at hi; omega)))
      have HS := hid (show Wo.sayTo ls k = Wo.sayL ls by rw [hkn, HN.out]; exact Wo.sayTo_all ls)
      clear hkn
      go_wp2_with (go_at_call 34; refine (String_any w.heap.size w.heap.size (Wo.sayTo ls k) _ HB.out (by omega)).mono ?_; rintro e w1 ⟨rfl, hb1⟩)
      go_ret2
      refine ⟨?_, HL.out.trans hb1⟩
      unfold sayS sayE
      rw [HE.out, if_pos rfl, if_pos rfl, ← HS.out]
      rfl

theorem Say_any (v : Value) (ls : List (List UInt8)) (w : World) (h : Txs w v ls) (hn : ls.length ≤ 60) (h4 : ∀ l ∈ ls, l.length ≤ 4000) :
    Calls Tryd.prog 20 #[v] w fun e w' => e = .returned (.tuple #[.string (tx (sayS ls)), .int .i64 (sayE ls)]) ∧ Below w.heap.size w w' := by
  obtain ⟨ao, cap, rfl, hr⟩ := h
  rcases hr with rfl | ⟨g, o, rfl, hg, hc⟩
  · exact Say_none ao cap w
  · exact Say_some ls g o cap w hg hc hn h4
end Go.Proofs.YtalmcdhohoplpaaDoor
