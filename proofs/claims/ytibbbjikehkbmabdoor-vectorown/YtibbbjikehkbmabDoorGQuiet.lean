/-
  A quiet region in a round of a loop over an iterator: one walk in the order of the text serves every order. What bears the steps of an iterator.
-/
import Derived.Test.YtibbbjikehkbmabDoorGRange
namespace Go.Proofs.YtibbbjikehkbmabDoor.Ve
open Go.RowKit Go.Shelf

def noDefer (ops : Array Oper) : Bool := ops.all fun o => match o.op with | .defer _ => false | _ => true
theorem noDefer_at {ops : Array Oper} (h : noDefer ops = true) {i : Nat} {o : Oper} (ho : ops[i]? = some o) : ∀ c, o.op ≠ .defer c := by
  intro c e
  unfold noDefer at h
  rw [Array.all_eq_true] at h
  obtain ⟨hlt, hi⟩ := Array.getElem?_eq_some_iff.1 ho
  have := h i hlt
  rw [hi, e] at this
  cases this
theorem op_round {F : Fence} {n : Nat} {P : Program} {ops : Array Oper} {Q : Exit → Act → World → Prop} {i : Nat} {K : Act → World → Prop} {a : Act} {w : World} (l : Nat) (hd : noDefer ops = true) (h : wpOpIn F n P ops Q i K a w) : wpOpIn (F.inRound l) n P ops Q i K a w := by
  unfold wpOpIn at h ⊢
  cases ho : ops[i]? with
  | none => rw [ho] at h; exact h
  | some o =>
    rw [ho] at h
    simp only at h ⊢
    split at h
    · rename_i hw
      rw [if_pos hw]
      have hp := noDefer_at hd ho
      obtain ⟨h1, h2⟩ := h
      refine ⟨h1, ?_⟩
      rw [Oper.semAt_plain _ _ _ hp] at h2 ⊢
      exact h2
    · rename_i hw
      rw [if_neg hw]
      exact h
theorem any_round {F : Fence} {n : Nat} {P : Program} {md : Region.Mode} {ops : Array Oper} {Q : Exit → Act → World → Prop} (l : Nat) (hd : noDefer ops = true) : ∀ (fuel : Nat) (listed : Array Bool) (a : Act) (w : World), wpAnyIn F n P md ops Q fuel listed a w → wpAnyIn (F.inRound l) n P md ops Q fuel listed a w
  | 0, _, _, _, h => h
  | fuel + 1, _, _, _, h => ⟨h.1, fun i hi => op_round l hd (wpOpIn_mono (fun a w hh => any_round l hd fuel _ a w hh) (h.2 i hi))⟩
theorem region_round {n : Nat} {P : Program} {id : Nat} {Q : Exit → Act → World → Prop} {a : Act} {w : World} {ops : List Oper} (l : Nat) (hm : P.follows .mixedOrders = true) (hB : Region.lexB .any ops.toArray = true) (hd : noDefer ops.toArray = true)
    (h : wpQuietIn Fence.wide n P ops.toArray (fun w' => ∃ n, w' = w.drewN n) (fun a' => ∀ w', (∃ n, w' = w.drewN n) → Q .normal a' w') ops a) : (Code.region id ops.toArray true).wpIn (Fence.wide.inRound l) n P Q a w := by
  simp only [Region.lexB, Bool.and_eq_true] at hB
  refine wpIn_region_any hm (any_round l hd _ _ _ _ (wpAnyIn_of_quiet (C := fun w' => ∃ n, w' = w.drewN n) (Q := fun a' => ∀ w', (∃ n, w' = w.drewN n) → Q .normal a' w') rfl (fun _ w' hw' h => h w' hw') _ _ _ _ ⟨1, rfl⟩ ?_))
  have := wpAnyQIn_lex (F := Fence.wide) (n := n) (C := fun w' => ∃ n, w' = w.drewN n) (md := .any) hB.1 ops 0 (Array.replicate ops.toArray.size false) a (by simp) (by simpa using hB.2) h
  simpa using this
theorem bears_below {α : Type} {ba bb n0 : Nat} {w : World} (h1 : n0 ≤ ba) (h2 : n0 ≤ bb) (hn : n0 ≤ w.heap.size) : Bears (fun q => q = ba ∨ q = bb) (fun (_ : List α) W => Below n0 w W) := fun _ A B hs ⟨r, hg, hr⟩ =>
  hs.grown hg (Nat.le_trans hn hs.size) (fun q hq => by rcases hr q hq with e | e <;> omega)
theorem bears_boxed {α : Type} {own : Nat → Prop} {b : Nat} {ty : TypeId} (f : List α → Value) (hb : ¬ own b) : Bears own (fun s W => Boxed W b ty (f s)) := fun _ _ _ hs ⟨_, hg, hr⟩ =>
  (hg.block b hs.lt (fun e => hb (hr b e.symm))).trans hs
theorem bears_pure {α : Type} {own : Nat → Prop} (p : List α → Prop) : Bears own (fun s _ => p s) := fun _ _ _ hs _ => hs
theorem boxed_new {W : World} {n : Nat} {t : TypeId} {v : Value} (h : n = W.heap.size) : Boxed (W.alloc (.cells #[v] t)) n t v := by subst h; exact Boxed.new W t v
theorem Boxed.on {w w' : World} {b n : Nat} {ty : TypeId} {v : Value} (h : Boxed w b ty v) (hb : Below n w w') (hn : b < n) : Boxed w' b ty v := (hb.block b hn).trans h
/-- Two boxes are written. -/
theorem set_two {w W W' : World} {B b4 b5 nq : Nat} {t4 t5 : TypeId} {u u' v v' : Value} (hne : b4 ≠ b5) (h4 : w.heap.size ≤ b4) (h5 : w.heap.size ≤ b5) (hd : Boxed W b4 t4 u ∧ Boxed W b5 t5 u') (hb : Below w.heap.size w W) (e : W' = ((W.drewN nq).setCell ⟨b4, 0, none⟩ v).setCell ⟨b5, 0, none⟩ v') :
    KeepsFrom B W W' ∧ (Boxed W' b4 t4 v ∧ Boxed W' b5 t5 v') ∧ Below w.heap.size w W' := by
  subst e
  obtain ⟨d4, d5⟩ := hd
  have d4 : Boxed (W.drewN nq) b4 t4 u := d4
  have d5 : Boxed (W.drewN nq) b5 t5 u' := d5
  have k : KeepsOthers W (W.drewN nq) := KeepsOthers.of_grownBy (grown_of_below none (below_drewN (Below.refl _ W))) (fun j o ej _ => by cases ej)
  exact ⟨((k.trans (KeepsOthers.setCell _ _ _)).trans (KeepsOthers.setCell _ _ _)).from _, ⟨(d4.set v).other hne _, (d5.other (fun e => hne e.symm) _).set v'⟩, ((below_drewN hb).setCell (p := ⟨b4, 0, none⟩) h4 _).setCell (p := ⟨b5, 0, none⟩) h5 _⟩
/-- A row of two vectors that was just laid. -/
theorem vecs_two {w : World} {va vb : Value} {a b : List St} {t : TypeId} {n : Nat} (hn : n = w.heap.size) (ha : VecV w va a) (hb : VecV w vb b) : VecsV (w.alloc (.cells #[va, vb] t)) (.slice (some ⟨n, 0, none⟩) 2 2) [a, b] := by
  subst hn
  refine ⟨some ⟨w.heap.size, 0, none⟩, 2, rfl, Nat.le_refl _, fun q => (by cases q), Or.inr ⟨w.heap.size, 0, rfl, by simp, fun j l hj => ?_⟩⟩
  rcases j with _ | _ | j
  · have : a = l := by simpa using hj
    subst this
    exact ⟨va, cell_news 0, ha.below (below_al _ _)⟩
  · have : b = l := by simpa using hj
    subst this
    exact ⟨vb, cell_news 1, hb.below (below_al _ _)⟩
  · simp at hj
end Go.Proofs.YtibbbjikehkbmabDoor.Ve
