/-
  The comparison of two rows of texts; alive.
-/
import Derived.Test.YtenlmigdlibgeaaCutC
namespace Go.Proofs.Ytenlmigdlibgeaa
open Go.RowKit

/-- A slice of texts, wherever it lies; nil and empty ones too. -/
def Row (w : World) (v : Value) (ls : List (List UInt8)) : Prop :=
  ∃ ao cap, v = .slice ao ls.length cap ∧ (ls = [] ∨ ∃ g o, ao = some ⟨g, o, none⟩ ∧ g < w.heap.size ∧ ∀ i (h : i < ls.length), w.cell? ⟨g, o + i, none⟩ = some (sv ls[i]))
theorem Row.nil (w : World) : Row w (.slice none 0 0) [] := ⟨none, 0, rfl, Or.inl rfl⟩
theorem Texts.row {w : World} {v : Value} {ls : List (List UInt8)} (h : Texts w v ls) : Row w v ls := by
  obtain ⟨g, cap, cs, e, hg, hc⟩ := h
  refine ⟨_, cap, e, Or.inr ⟨g, 0, rfl, lt_of_block hg, fun i hi => ?_⟩⟩
  rw [Nat.zero_add]
  unfold World.cell?
  rw [hg]
  exact hc i hi
theorem Row.below {w w' : World} {v : Value} {ls : List (List UInt8)} (h : Row w v ls) {B : Nat} (hb : Below B w w') (hB : w.heap.size ≤ B) : Row w' v ls := by
  obtain ⟨ao, cap, e, hr⟩ := h
  refine ⟨ao, cap, e, ?_⟩
  rcases hr with hr | ⟨g, o, ea, hg, hc⟩
  · exact Or.inl hr
  · exact Or.inr ⟨g, o, ea, Nat.lt_of_lt_of_le hg hb.size, fun i hi => by rw [hb.cell (by show g < B; omega)]; exact hc i hi⟩

set_option maxHeartbeats 400000 in
theorem Texts_len (a1 a2 : Option Addr) (n m c d : Nat) (w : World) (h : n ≠ m) :
    Calls Try.prog 18 #[.slice a1 n c, .slice a2 m d] w fun e w' => e = .returned (.bool false) ∧ Below w.heap.size w w' := by
  have hne : ((n : Int) != (m : Int)) = true := by rw [bne_iff_ne]; omega
  go_enter Try.func18, Try.ntmps18
  go_wp2
  go_ret
  exact ⟨rfl, Below.refl _ _⟩

set_option maxHeartbeats 400000 in
theorem Texts_none (a1 a2 : Option Addr) (c d : Nat) (w : World) :
    Calls Try.prog 18 #[.slice a1 0 c, .slice a2 0 d] w fun e w' => e = .returned (.bool true) ∧ Below w.heap.size w w' := by
  go_enter Try.func18, Try.ntmps18
  go_wp2
  refine wp_loop_rounds 1 ?_
  rw [rounds_succ]
  go_wp2
  go_ret
  exact ⟨rfl, Below.refl _ _⟩

set_option maxHeartbeats 1000000 in
theorem Texts_some (L M : Nat → List UInt8) (g o g' o' n c d : Nat) (w : World) (hn : n ≤ 1000000) (h1 : ∀ i, i < n → w.cell? ⟨g, o + i, none⟩ = some (sv (L i))) (h2 : ∀ i, i < n → w.cell? ⟨g', o' + i, none⟩ = some (sv (M i))) :
    Calls Try.prog 18 #[.slice (some ⟨g, o, none⟩) n c, .slice (some ⟨g', o', none⟩) n d] w fun e w' => e = .returned (.bool (decide (∀ i, i < n → L i = M i))) ∧ Below w.heap.size w w' := by
  have H1 : Hid (∀ i, i < n → w.cell? ⟨g, o + i, none⟩ = some (sv (L i))) := h1
  have H2 : Hid (∀ i, i < n → w.cell? ⟨g', o' + i, none⟩ = some (sv (M i))) := h2
  clear h1 h2
  have hne : ((n : Int) != (n : Int)) = false := by simp
  go_enter Try.func18, Try.ntmps18
  go_wp2
  go_loopw [5] (fun i wr => ∃ k : Nat, k ≤ n ∧ i = .int .i64 k ∧ Hid (∀ i, i < k → L i = M i) ∧ (∀ a, wr.cell? a = w.cell? a) ∧ Below w.heap.size w wr) (fun i _ => n - (intOf i).toNat)
  case atStart => exact ⟨0, Nat.zero_le _, rfl, fun i hi => absurd hi (Nat.not_lt_zero i), fun _ => rfl, Below.refl _ _⟩
  case round =>
    obtain ⟨k, hk, rfl, hsame, hcl, hbl⟩ := hrel
    by_cases hlt : k < n
    · have c1 : wr.cell? ⟨g, o + k, none⟩ = some (sv (L k)) := (hcl _).trans (H1.out k hlt)
      have c2 : wr.cell? ⟨g', o' + k, none⟩ = some (sv (M k)) := (hcl _).trans (H2.out k hlt)
      have HCL : Hid (∀ a, wr.cell? a = w.cell? a) := hcl
      clear hcl
      have hkI : (0 : Int) ≤ (k : Int) := by omega
      have hkI2 : (k : Int) < (n : Int) := by omega
      go_wp2
      go_quiet (fail)
      go_wp2
      · rename_i hx
        have hq : ¬ L k = M k := by simpa using hx
        go_ret
        refine ⟨?_, below_drewN' hbl⟩
        have : decide (∀ i, i < n → L i = M i) = false := decide_eq_false (fun h => hq (h k hlt))
        rw [this]; rfl
      · rename_i hx
        have hq : L k = M k := by simpa using hx
        go_roundw
        case rel =>
          refine ⟨k + 1, by omega, by go_num, fun i hi => ?_, HCL.out, below_drewN' hbl⟩
          by_cases e : i = k
          · rw [e]; exact hq
          · exact hsame.out i (by omega)
        case measure => simp [intOf]; omega
    · have hkn : k = n := by omega
      subst hkn
      clear hcl
      go_wp2
      go_ret
      refine ⟨?_, hbl⟩
      have : decide (∀ i, i < k → L i = M i) = true := decide_eq_true hsame.out
      rw [this]; rfl

theorem list_eq_iff {l m : List (List UInt8)} (h : l.length = m.length) : (∀ i, i < l.length → l.getD i [] = m.getD i []) ↔ l = m := by
  constructor
  · intro H
    apply List.ext_getElem h
    intro i h1 h2
    have := H i h1
    simpa [List.getD_eq_getElem?_getD, List.getElem?_eq_getElem h1, List.getElem?_eq_getElem h2] using this
  · rintro rfl i _; rfl

theorem Texts_rows (v1 v2 : Value) (l1 l2 : List (List UInt8)) (w : World) (h1 : Row w v1 l1) (h2 : Row w v2 l2) (hn : l1.length ≤ 1000000) :
    Calls Try.prog 18 #[v1, v2] w fun e w' => e = .returned (.bool (decide (l1 = l2))) ∧ Below w.heap.size w w' := by
  obtain ⟨a1, c1, rfl, r1⟩ := h1
  obtain ⟨a2, c2, rfl, r2⟩ := h2
  by_cases hl : l1.length = l2.length
  · rcases r1 with rfl | ⟨g, o, rfl, _, hc1⟩
    · have e2 : l2 = [] := by cases l2 with | nil => rfl | cons => simp at hl
      subst e2
      exact Texts_none a1 a2 c1 c2 w
    · rcases r2 with rfl | ⟨g', o', rfl, _, hc2⟩
      · have e1 : l1 = [] := by cases l1 with | nil => rfl | cons => simp at hl
        subst e1
        exact Texts_none _ a2 c1 c2 w
      · have := Texts_some (fun i => l1.getD i []) (fun i => l2.getD i []) g o g' o' l1.length c1 c2 w hn
          (fun i hi => by rw [hc1 i hi]; simp only [List.getD_eq_getElem?_getD, List.getElem?_eq_getElem hi, Option.getD_some])
          (fun i hi => by have hi' : i < l2.length := hl ▸ hi
                          rw [hc2 i hi']; simp only [List.getD_eq_getElem?_getD, List.getElem?_eq_getElem hi', Option.getD_some])
        rw [← hl]
        refine this.mono ?_
        rintro e w' ⟨rfl, hb⟩
        refine ⟨?_, hb⟩
        congr 2
        exact decide_eq_decide.2 (list_eq_iff hl)
  · have : decide (l1 = l2) = false := decide_eq_false (fun e => hl (by rw [e]))
    rw [this]
    exact Texts_len a1 a2 _ _ c1 c2 w hl

theorem Row.two (w : World) (x y : List UInt8) : Row (w.alloc (.cells #[sv x, sv y] 9)) (.slice (some ⟨w.heap.size, 0, none⟩) 2 2) [x, y] := by
  refine ⟨_, 2, rfl, Or.inr ⟨w.heap.size, 0, rfl, by simp, fun i hi => ?_⟩⟩
  have h := new_0 w (.cells #[sv x, sv y] 9)
  have : i = 0 ∨ i = 1 := by simp at hi; omega
  unfold World.cell?
  rcases this with rfl | rfl <;> (rw [h]; rfl)

set_option maxHeartbeats 1000000 in
theorem alive_any (w : World) : Calls Try.prog 12 #[] w fun e w' => e = .returned (.bool true) ∧ Below w.heap.size w w' := by
  go_enter Try.func12, Try.ntmps12
  go_wp2_with fail
  have m := Meet_ok ⟨#[49, 120, 120]⟩ ⟨#[120, 48, 120]⟩ w (by decide) (by decide) rfl (by decide)
  rw [show (⟨(Cu.meetL (⟨#[49, 120, 120]⟩ : ByteArray).data.toList (⟨#[120, 48, 120]⟩ : ByteArray).data.toList).toArray⟩ : ByteArray) = ⟨#[49, 48, 120]⟩ from by decide] at m
  refine m.mono ?_
  clear m
  rintro e w1 ⟨rfl, hb1⟩
  go_wp2_with fail
  have m := Cut_ok ⟨#[120, 120, 120]⟩ ⟨#[49, 48, 120]⟩ w1 (by decide) (by decide) rfl
  rw [show Cu.cutL (⟨#[120, 120, 120]⟩ : ByteArray).data.toList (⟨#[49, 48, 120]⟩ : ByteArray).data.toList = [[48, 120, 120], [49, 49, 120]] from by decide] at m
  refine m.mono ?_
  clear m
  rintro e w2 ⟨v2, rfl, htx, hb2⟩
  have R1 : Hid (Row w2 v2 [[48, 120, 120], [49, 49, 120]]) := htx.row
  clear htx
  go_wp2_with fail
  have m := Texts_rows v2 (.slice (some ⟨w2.heap.size, 0, none⟩) 2 2) [[48, 120, 120], [49, 49, 120]] [[48, 120, 120], [49, 49, 120]] (w2.alloc (.cells #[sv [48, 120, 120], sv [49, 49, 120]] 9)) (R1.out.below ((Below.refl _ _).alloc (Nat.le_refl _) _) (Nat.le_refl _)) (Row.two _ _ _) (by simp)
  rw [show decide ([[48, 120, 120], [49, 49, 120]] = ([[48, 120, 120], [49, 49, 120]] : List (List UInt8))) = true from decide_eq_true rfl] at m
  refine m.mono ?_
  clear m
  rintro e w3 ⟨rfl, hb3⟩
  go_wp2
  go_ret
  exact ⟨rfl, (hb1.trans (hb2.mono hb1.size)).trans (((Below.refl _ _).alloc (Nat.le_trans hb1.size hb2.size) _).trans (hb3.mono (by simp; exact Nat.le_trans (Nat.le_trans hb1.size hb2.size) (Nat.le_succ _))))⟩
end Go.Proofs.Ytenlmigdlibgeaa
