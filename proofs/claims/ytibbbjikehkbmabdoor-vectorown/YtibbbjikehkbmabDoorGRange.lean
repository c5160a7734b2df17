/-
  A range over a function that writes variables of its own: such an iterator turns, between two rounds, blocks that it owns; the loop's invariant bears that.
-/
import Derived.Test.YtibbbjikehkbmabDoorGView
import Derived.RangeFuncNested
import Derived.RangeFuncBound
import Derived.RangeFuncCalls
import Derived.RangeFuncLeaves
import Derived.RangeFuncBox
import Derived.Shelf.Abstract
import Derived.Shelf.RegionOpen
import Derived.OwnWalkIn
import Derived.TacticsInMore
import Derived.LoopNIn
import Derived.LoopIn
namespace Go.Proofs.YtibbbjikehkbmabDoor.Ve
open Go.RowKit Go.Shelf

/-- A step of the iterator: blocks are laid, or one of its own is turned. -/
def StepsOwn (own : Nat → Prop) (A B : World) : Prop := ∃ r, A.grownBy B r ∧ ∀ b, r = some b → own b
/-- What bears such steps. -/
def Bears {α : Type} (own : Nat → Prop) (J : List α → World → Prop) : Prop := ∀ s A B, J s A → StepsOwn own A B → J s B
theorem Bears.and {α : Type} {own : Nat → Prop} {J K : List α → World → Prop} (h : Bears own J) (k : Bears own K) : Bears own (fun s W => J s W ∧ K s W) := fun s A B hs st => ⟨h s A B hs.1 st, k s A B hs.2 st⟩
theorem bears_block {α : Type} {own : Nat → Prop} {b : Nat} {o : Obj} (hb : ¬ own b) : Bears own (fun (_ : List α) W => W.heap[b]? = some o) := fun _ _ _ hs ⟨_, hg, hr⟩ =>
  (hg.block b (lt_of_block hs) (fun e => hb (hr b e.symm))).trans hs
theorem steps_none {own : Nat → Prop} {A B : World} (h : A.grownBy B none) : StepsOwn own A B := ⟨none, h, fun b e => (by cases e)⟩
theorem steps_below {own : Nat → Prop} {A B : World} (h : Below A.heap.size A B) : StepsOwn own A B := steps_none (grown_of_below none h)
theorem steps_set {own : Nat → Prop} {A : World} {b : Nat} (v : Value) (h : own b) : StepsOwn own A (A.setCell ⟨b, 0, none⟩ v) := ⟨some b, grownBy_setCell' A b v, fun c e => (by cases e; exact h)⟩

/-- The contract of such an iterator, made in w. -/
def SeqOwn {α : Type} (own : Nat → Prop) (n : Nat) (P : Program) (g : Nat) (lb : Array Value) (encs : α → Array Value) (Kp : World → World → Prop) (S Sp : List α → Prop) (N : Nat) (w : World) : Prop :=
  ∀ (l : Nat) (J Jx : List α → World → Prop) (W : World), Below w.heap.size w W → Bears own J → Bears own Jx →
    (∀ pre x W1, J pre W1 → pre.length < N → YieldAt Fence.wide (n - 1) P l (encs x) W1 fun e W2 =>
      (e = .returned (.bool true) ∧ J (pre ++ [x]) W2 ∧ Kp W1 W2) ∨ (e = .returned (.bool false) ∧ Jx (pre ++ [x]) W2)) →
    J [] W →
    CallsIn Fence.wide n P g (#[.func (.yield l) #[] #[]] ++ lb) W fun e W2 => (∃ v, e = .returned v) ∧ ((∃ xs, S xs ∧ J xs W2) ∨ (∃ pre, Sp pre ∧ Jx pre W2))

/-- The record of a loop, in a state. -/
def recO (fn : FuncId) (tm : Array Value) (ps : Array Tmp) (assign body : Code) (d : Nat) (st : LoopState) (pe : Option Code) : Loop := { state := st, pending := pe, fn := fn, tmps := tm, params := ps, assign := assign, body := body, defers := d }
/-- Where the loop's record and its deferred calls lie. -/
def AtLoop (D : Nat) (r : Loop) (W : World) : Prop := W.heap[D + 1]? = some (.loop r) ∧ W.heap[D]? = some (.deferred (some []))
theorem AtLoop.turn {D : Nat} {r r' : Loop} {W : World} (h : AtLoop D r W) : AtLoop D r' (W.putObj (D + 1) (.loop r')) :=
  ⟨World.putObj_heap_same (lt_of_block h.1), (World.putObj_heap_other (by omega)).trans h.2⟩
theorem AtLoop.keep {D B : Nat} {r : Loop} {W W' : World} (h : AtLoop D r W) (hk : KeepsFrom B W W') (hB : B ≤ D) : AtLoop D r W' := ⟨hk.same _ _ (by omega) h.1 rfl, hk.same _ _ hB h.2 rfl⟩
theorem AtLoop.steps {D : Nat} {r : Loop} {W W' : World} {own : Nat → Prop} (h : AtLoop D r W) (ho : ∀ b, own b → b < D) (hs : StepsOwn own W W') : AtLoop D r W' := by
  obtain ⟨q, hg, hr⟩ := hs
  exact ⟨(hg.block _ (lt_of_block h.1) (fun e => by have := ho _ (hr _ e.symm); omega)).trans h.1, (hg.block _ (lt_of_block h.2) (fun e => by have := ho _ (hr _ e.symm); omega)).trans h.2⟩

/-- The loop, where its rounds go on or end by a return. -/
theorem range_own {n : Nat} {P : Program} {α : Type} {g : Operand} {ps : Array Tmp} {assign body : Code} {Q : Exit → Act → World → Prop} {a : Act} {w : World} {own : Nat → Prop}
    (h1 : 1 ≤ n) {gf : Nat} {lb : Array Value} (hg : a.eval g = .func (.func gf) #[] lb) (eg : ∀ args w, (callFunc gf args).run P w = .ok (.enter gf args) w)
    {encs : α → Array Value} {Kp : World → World → Prop} {S Sp : List α → Prop} {N : Nat} (ho : ∀ b, own b → b < w.heap.size) (hseq : SeqOwn own (n - 1) P gf lb encs Kp S Sp N w)
    (hKt : ∀ {A B C : World}, Kp A B → Kp B C → Kp A C) (hKb : ∀ (W : World) (l : Nat) (o o' : Obj), w.heap.size ≤ l → W.heap[l]? = some o → o.isCells = false → Kp W (W.putObj l o')) (hps : ∀ x, (encs x).size = ps.size)
    (I Ix : List α → World → Prop) (hI : OwnFrom w.heap.size I) (hIx : OwnFrom w.heap.size Ix) (bI : Bears own I) (bIx : Bears own Ix) (h0 : I [] w) (a₁ : α → Act)
    (hassign : ∀ (l : Nat) (x : α) (W : World) (K : Act → World → Prop), K (a₁ x) W →
      assign.wpIn (Fence.wide.inRound l) (n - 1 - 1) P (Exit.then K (fun _ _ _ => False)) { tmps := (ps.zip (encs x)).foldl (fun t (p, v) => t.setIfInBounds p v) a.tmps, defers := [] } W)
    (hbody : ∀ (l : Nat) (pre : List α) (x : α) (W : World), I pre W → pre.length < N → body.wpIn (Fence.wide.inRound l) (n - 1 - 1) P (ownPostG w.heap.size Kp I (fun c pre W => c = .ret ∧ Ix pre W) (pre ++ [x]) W) (a₁ x) W)
    (hdone : ∀ (D : Nat) (xs : List α) (W : World), w.heap.size ≤ D → S xs → I xs W → W.heap[D]? = some (.deferred (some [])) → Q .normal { a with defers := { target := .collected D, args := #[] } :: a.defers } W)
    (hstop : ∀ (D : Nat) (pre : List α) (W : World), w.heap.size ≤ D → Sp pre → Ix pre W → W.heap[D]? = some (.deferred (some [])) → Code.ret.wpIn Fence.wide n P Q { a with defers := { target := .collected D, args := #[] } :: a.defers } W) :
    (Code.rangeFunc g ps assign body).wpIn Fence.wide n P Q a w := by
  refine wpIn_rangeFunc fun fn hfn => ?_
  obtain ⟨R, hR⟩ : ∃ R : LoopState → Option Code → Loop, R = recO fn a.tmps ps assign body w.heap.size := ⟨_, rfl⟩
  obtain ⟨W1, hW1⟩ : ∃ W1, (w.alloc (.deferred (some []))).alloc (.loop (R .ready none)) = W1 := ⟨_, rfl⟩
  have hat : AtLoop w.heap.size (R .ready none) W1 := by
    rw [← hW1]
    exact ⟨new_1 _ _ _, new_old _ _ (new_0 _ _)⟩
  have hlow : Below w.heap.size w W1 := by rw [← hW1]; exact ((Below.refl _ w).alloc (Nat.le_refl _) _).alloc (by simp) _
  have hI1 : I [] W1 := by rw [← hW1]; exact hI.alloc _ (hI.alloc _ h0)
  refine ⟨w.heap.size + 1, [{ target := .collected w.heap.size, args := #[] }], W1, { target := .fn (.func gf) lb, args := #[.func (.yield (w.heap.size + 1)) #[] #[]] }, W1, gf,
    #[.func (.yield (w.heap.size + 1)) #[] #[]] ++ lb, W1, ?enter, ?res, ?leads, ?inv, fun _ => h1, ?call⟩
  case enter => rw [← hW1, hR]; exact run_enterLoop_outer _ _ _ _ _
  case res =>
    simp only [resolve, hg]
    simp [go_sem]
  case leads => exact fun _ _ => trivial
  case inv => simp [invoke, go_sem, eg]
  case call =>
    refine (hseq (w.heap.size + 1) (fun pre W => I pre W ∧ AtLoop w.heap.size (R .ready none) W) (fun pre W => Ix pre W ∧ AtLoop w.heap.size (R .done (some .ret)) W) W1 hlow
      (bI.and fun _ _ _ hs st => hs.steps ho st) (bIx.and fun _ _ _ hs st => hs.steps ho st) ?round ⟨hI1, hat⟩).mono ?behind
    case round =>
      rintro pre x W ⟨hi, hl⟩ hlen
      have hy := run_yield (P := P) (args := encs x) hl.1 (by rw [hR]; exact hps x)
      rw [hR] at hy
      refine ⟨fn, _, assign, body, hy, roundIn_of_wpIn hfn (hassign _ x W _ ⟨_, run_beginRound hl.1 (by rw [hR]; rfl), ?_⟩)⟩
      have hbusy : AtLoop w.heap.size { R .ready none with state := .busy } (W.putObj (w.heap.size + 1) (.loop { R .ready none with state := .busy })) := hl.turn
      refine wpIn_mono (hbody _ pre x _ (hI.putObj _ hi (by omega) hl.1 rfl) hlen) ?_
      have hK0 := hKb W (w.heap.size + 1) _ (.loop { R .ready none with state := .busy }) (by omega) hl.1 rfl
      rintro e a3 W3 hp
      cases e with
      | normal =>
        obtain ⟨hk3, hkp3, hi3⟩ := hp
        have h3 := hbusy.keep hk3 (Nat.le_refl _)
        have he := run_endRound (P := P) none h3.1
        rw [hR] at he h3
        refine ⟨_, _, he, .inl ⟨rfl, ⟨hI.putObj _ hi3 (by omega) h3.1 rfl, ?_⟩, hKt (hKt hK0 hkp3) (hKb _ _ _ _ (by omega) h3.1 rfl)⟩⟩
        rw [hR]
        exact h3.turn
      | ret =>
        obtain ⟨hk3, -, hi3⟩ := hp
        have h3 := hbusy.keep hk3 (Nat.le_refl _)
        have he := run_endRound (P := P) (some .ret) h3.1
        rw [hR] at he h3
        refine ⟨_, _, he, .inr ⟨rfl, hIx.putObj _ hi3 (by omega) h3.1 rfl, ?_⟩⟩
        rw [hR]
        exact h3.turn
      | exit id => exact absurd hp.2.1 (by simp)
      | goto t => exact absurd hp.2.1 (by simp)
      | panic ch => exact hp.elim
      | outgrown => exact hp.elim
    case behind =>
      rintro e W2 ⟨⟨v, rfl⟩, ⟨xs, hS, hi, hl⟩ | ⟨pre, hSp, hi, hl⟩⟩
      · have he := run_endLoop (P := P) hl.1 (by rw [hR]; exact fun h => (by cases h))
        rw [hR] at he
        refine ⟨none, _, he, hdone _ xs _ (Nat.le_refl _) hS (hI.putObj _ hi (by omega) hl.1 rfl) ?_⟩
        exact (World.putObj_heap_other (by omega)).trans hl.2
      · have he := run_endLoop (P := P) hl.1 (by rw [hR]; exact fun h => (by cases h))
        rw [hR] at he
        refine ⟨some .ret, _, he, hstop _ pre _ (Nat.le_refl _) hSp (hIx.putObj _ hi (by omega) hl.1 rfl) ?_⟩
        exact (World.putObj_heap_other (by omega)).trans hl.2
end Go.Proofs.YtibbbjikehkbmabDoor.Ve
