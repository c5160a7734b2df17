/-
  alive: one line's words, three words said.
-/
import Derived.Test.YtalmcdhohoplpaaDoorWSay
namespace Go.Proofs.YtalmcdhohoplpaaDoor
open Go.RowKit

theorem own_some {w : World} {B : Nat} {e : TypeId} {size : Nat} {v : Value} {n : Nat} {xs : List Value} (h : w.ownsRow B e size v n xs) (hn : 0 < n) : ∃ g cap, v = .slice (some ⟨g, 0, none⟩) n cap ∧ g < w.heap.size ∧ ∀ j u, xs[j]? = some u → w.cell? ⟨g, j, none⟩ = some u := by
  have hc := fun {g : Nat} (hg : v.ownBlock = some g) => h.cells hg
  have hlt := h.lt
  rcases h.2 with ⟨rfl, h0⟩ | ⟨g, cap, cur, rfl, _⟩
  · omega
  · refine ⟨g, cap, rfl, (hlt g rfl).2, fun j u hj => ?_⟩
    have := hc (g := g) rfl j u hj
    have ea : (⟨g, 0, none⟩ : Addr).add j = ⟨g, j, none⟩ := by simp [Addr.add]; intro h; exact h.symm
    rw [ea] at this
    exact this
/-- The lines of a row: where the row lies, where each line lies. -/
theorem LinesAt.at {w : World} {B : Nat} {v : Value} {ls : List (List Wo.Wd)} (h : LinesAt w B v ls) (h0 : 0 < ls.length) : ∃ g cap, v = .slice (some ⟨g, 0, none⟩) ls.length cap ∧ g < w.heap.size ∧
    ∀ (i : Nat) (x : List Wo.Wd), ls[i]? = some x → 0 < x.length → ∃ g2 cap2, g2 < w.heap.size ∧ w.cell? ⟨g, i, none⟩ = some (.slice (some ⟨g2, 0, none⟩) x.length cap2) ∧ ∀ j u, (flatW x)[j]? = some u → w.cell? ⟨g2, j, none⟩ = some u := by
  obtain ⟨vs, ho, hl, hi⟩ := h
  obtain ⟨g, cap, rfl, hg, hc⟩ := own_some ho h0
  refine ⟨g, cap, rfl, hg, fun i x hx hxl => ?_⟩
  obtain ⟨u, hu, hown⟩ := hi i x hx
  obtain ⟨g2, cap2, rfl, hg2, hc2⟩ := own_some hown hxl
  exact ⟨g2, cap2, hg2, hc i _ hu, hc2⟩

/-- The text of alive, its words; what alive says. -/
abbrev aText : List UInt8 := [97, 45, 62, 98, 32, 60, 61, 50]
abbrev aWords : List Wo.Wd := [([97], 1, 1), ([45, 62], 1, 2), ([98], 1, 4), ([60, 61], 1, 6), ([50], 1, 8)]
abbrev aSaid : List (List UInt8) := [[97], [98], [45, 62]]
theorem a_read : Wo.read aText = [aWords] ∧ Wo.faultL aText = 0 ∧ Wo.faultC aText = 0 ∧ Wo.err aText = 0 := by decide
theorem a_said : sayS aSaid = [97, 32, 98, 45, 62] ∧ sayE aSaid = 0 := by decide

theorem txs_three (w : World) : Txs (w.alloc (.cells #[.string (tx [97]), .string (tx [98]), .string (tx [45, 62])] 9)) (.slice (some ⟨w.heap.size, 0, none⟩) 3 3) aSaid := by
  refine ⟨_, 3, rfl, Or.inr ⟨w.heap.size, 0, rfl, by simp, fun i hi => ?_⟩⟩
  rw [cell_at (new_0 w _)]
  have : i = 0 ∨ i = 1 ∨ i = 2 := by simp at hi; omega
  rcases this with rfl | rfl | rfl <;> rfl

set_option maxRecDepth 4000 in
set_option maxHeartbeats 2000000 in
theorem alive_any (w : World) : Calls Tryd.prog 9 #[] w fun e w' => e = .returned (.bool true) ∧ Below w.heap.size w w' := by
  have q := Lines_any aText w (by decide)
  rw [a_read.1, a_read.2.1, a_read.2.2.1, a_read.2.2.2] at q
  go_enter Tryd.func9, Tryd.ntmps9
  go_wp2_with fail
  refine q.mono ?_
  clear q
  rintro e w1 ⟨v, rfl, HL, hb1⟩
  go_wp2_with fail
  have q := Say_any (.slice (some ⟨w1.heap.size, 0, none⟩) 3 3) aSaid _ (txs_three w1) (by decide) (by decide)
  rw [a_said.1, a_said.2] at q
  refine q.mono ?_
  clear q
  rintro e w2 ⟨rfl, hb2⟩
  have HB := hid (((Below.refl _ _).alloc (Nat.le_refl _) _).trans (hb2.mono (by simp)) : Below w1.heap.size w1 w2)
  obtain ⟨g, cap, rfl, hg, hi⟩ := (HL.out.below HB.out).at (by decide)
  obtain ⟨g2, cap2, hg2, c0, hc⟩ := hi 0 aWords rfl (by decide)
  have c3 := hc 3 _ rfl
  have c4 := hc 4 _ rfl
  have c5 := hc 5 _ rfl
  have c12 := hc 12 _ rfl
  clear hi hc hb2
  go_wp2
  go_ret
  exact ⟨rfl, hb1.trans (HB.out.mono hb1.size)⟩
end Go.Proofs.YtalmcdhohoplpaaDoor
