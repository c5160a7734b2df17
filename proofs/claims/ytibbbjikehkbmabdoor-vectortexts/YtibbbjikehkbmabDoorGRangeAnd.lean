/-
  A quiet region in a round of a loop over an iterator: one walk in the order of the text serves every order. What bears the steps of an iterator.
  together: the iterator over two rising rows.
  next: what stands ahead of all others.
  What stands next in two rising rows; rows cut at a place.
  A range over a function that writes variables of its own: such an iterator turns, between two rounds, blocks that it owns; the loop's invariant bears that.
-/
import Derived.Test.YtibbbjikehkbmabDoorGMathAnd
import Derived.RangeFuncNested
import Derived.RangeFuncBound
import Derived.RangeFuncCalls
import Derived.RangeFuncLeaves
import Derived.RangeFuncBox
import Derived.Shelf.Abstract
import Derived.Shelf.RegionOpen
import Derived.OwnWalkIn
import Derived.TacticsInMore
import Derived.LoopNIn
import Derived.LoopIn
namespace Go.Proofs.YtibbbjikehkbmabDoor.Ve
open Go.RowKit Go.Shelf

/-- A step of the iterator: blocks are laid, or one of its own is turned. -/
def StepsOwn (own : Nat → Prop) (A B : World) : Prop := ∃ r, A.grownBy B r ∧ ∀ b, r = some b → own b
/-- What bears such steps. -/
def Bears {α : Type} (own : Nat → Prop) (J : List α → World → Prop) : Prop := ∀ s A B, J s A → StepsOwn own A B → J s B
theorem Bears.and {α : Type} {own : Nat → Prop} {J K : List α → World → Prop} (h : Bears own J) (k : Bears own K) : Bears own (fun s W => J s W ∧ K s W) := fun s A B hs st => ⟨h s A B hs.1 st, k s A B hs.2 st⟩
theorem bears_block {α : Type} {own : Nat → Prop} {b : Nat} {o : Obj} (hb : ¬ own b) : Bears own (fun (_ : List α) W => W.heap[b]? = some o) := fun _ _ _ hs ⟨_, hg, hr⟩ =>
  (hg.block b (lt_of_block hs) (fun e => hb (hr b e.symm))).trans hs
theorem steps_none {own : Nat → Prop} {A B : World} (h : A.grownBy B none) : StepsOwn own A B := ⟨none, h, fun b e => (by cases e)⟩
theorem steps_below {own : Nat → Prop} {A B : World} (h : Below A.heap.size A B) : StepsOwn own A B := steps_none (grown_of_below none h)
theorem steps_set {own : Nat → Prop} {A : World} {b : Nat} (v : Value) (h : own b) : StepsOwn own A (A.setCell ⟨b, 0, none⟩ v) := ⟨some b, grownBy_setCell' A b v, fun c e => (by cases e; exact h)⟩

/-- The contract of such an iterator, made in w. -/
def SeqOwn {α : Type} (own : Nat → Prop) (n : Nat) (P : Program) (g : Nat) (lb : Array Value) (encs : α → Array Value) (Kp : World → World → Prop) (S Sp : List α → Prop) (N : Nat) (w : World) : Prop :=
  ∀ (l : Nat) (J Jx : List α → World → Prop) (W : World), Below w.heap.size w W → Bears own J → Bears own Jx →
    (∀ pre x W1, J pre W1 → pre.length < N → YieldAt Fence.wide (n - 1) P l (encs x) W1 fun e W2 =>
      (e = .returned (.bool true) ∧ J (pre ++ [x]) W2 ∧ Kp W1 W2) ∨ (e = .returned (.bool false) ∧ Jx (pre ++ [x]) W2)) →
    J [] W →
    CallsIn Fence.wide n P g (#[.func (.yield l) #[] #[]] ++ lb) W fun e W2 => (∃ v, e = .returned v) ∧ ((∃ xs, S xs ∧ J xs W2) ∨ (∃ pre, Sp pre ∧ Jx pre W2))

/-- The record of a loop, in a state. -/
def recO (fn : FuncId) (tm : Array Value) (ps : Array Tmp) (assign body : Code) (d : Nat) (st : LoopState) (pe : Option Code) : Loop := { state := st, pending := pe, fn := fn, tmps := tm, params := ps, assign := assign, body := body, defers := d }
/-- Where the loop's record and its deferred calls lie. -/
def AtLoop (D : Nat) (r : Loop) (W : World) : Prop := W.heap[D + 1]? = some (.loop r) ∧ W.heap[D]? = some (.deferred (some []))
theorem AtLoop.turn {D : Nat} {r r' : Loop} {W : World} (h : AtLoop D r W) : AtLoop D r' (W.putObj (D + 1) (.loop r')) :=
  ⟨World.putObj_heap_same (lt_of_block h.1), (World.putObj_heap_other (by omega)).trans h.2⟩
theorem AtLoop.keep {D B : Nat} {r : Loop} {W W' : World} (h : AtLoop D r W) (hk : KeepsFrom B W W') (hB : B ≤ D) : AtLoop D r W' := ⟨hk.same _ _ (by omega) h.1 rfl, hk.same _ _ hB h.2 rfl⟩
theorem AtLoop.steps {D : Nat} {r : Loop} {W W' : World} {own : Nat → Prop} (h : AtLoop D r W) (ho : ∀ b, own b → b < D) (hs : StepsOwn own W W') : AtLoop D r W' := by
  obtain ⟨q, hg, hr⟩ := hs
  exact ⟨(hg.block _ (lt_of_block h.1) (fun e => by have := ho _ (hr _ e.symm); omega)).trans h.1, (hg.block _ (lt_of_block h.2) (fun e => by have := ho _ (hr _ e.symm); omega)).trans h.2⟩

/-- The loop, where its rounds go on or end by a return. -/
theorem range_own {n : Nat} {P : Program} {α : Type} {g : Operand} {ps : Array Tmp} {assign body : Code} {Q : Exit → Act → World → Prop} {a : Act} {w : World} {own : Nat → Prop}
    (h1 : 1 ≤ n) {gf : Nat} {lb : Array Value} (hg : a.eval g = .func (.func gf) #[] lb) (eg : ∀ args w, (callFunc gf args).run P w = .ok (.enter gf args) w)
    {encs : α → Array Value} {Kp : World → World → Prop} {S Sp : List α → Prop} {N : Nat} (ho : ∀ b, own b → b < w.heap.size) (hseq : SeqOwn own (n - 1) P gf lb encs Kp S Sp N w)
    (hKt : ∀ {A B C : World}, Kp A B → Kp B C → Kp A C) (hKb : ∀ (W : World) (l : Nat) (o o' : Obj), w.heap.size ≤ l → W.heap[l]? = some o → o.isCells = false → Kp W (W.putObj l o')) (hps : ∀ x, (encs x).size = ps.size)
    (I Ix : List α → World → Prop) (hI : OwnFrom w.heap.size I) (hIx : OwnFrom w.heap.size Ix) (bI : Bears own I) (bIx : Bears own Ix) (h0 : I [] w) (a₁ : α → Act)
    (hassign : ∀ (l : Nat) (x : α) (W : World) (K : Act → World → Prop), K (a₁ x) W →
      assign.wpIn (Fence.wide.inRound l) (n - 1 - 1) P (Exit.then K (fun _ _ _ => False)) { tmps := (ps.zip (encs x)).foldl (fun t (p, v) => t.setIfInBounds p v) a.tmps, defers := [] } W)
    (hbody : ∀ (l : Nat) (pre : List α) (x : α) (W : World), I pre W → pre.length < N → body.wpIn (Fence.wide.inRound l) (n - 1 - 1) P (ownPostG w.heap.size Kp I (fun c pre W => c = .ret ∧ Ix pre W) (pre ++ [x]) W) (a₁ x) W)
    (hdone : ∀ (D : Nat) (xs : List α) (W : World), w.heap.size ≤ D → S xs → I xs W → W.heap[D]? = some (.deferred (some [])) → Q .normal { a with defers := { target := .collected D, args := #[] } :: a.defers } W)
    (hstop : ∀ (D : Nat) (pre : List α) (W : World), w.heap.size ≤ D → Sp pre → Ix pre W → W.heap[D]? = some (.deferred (some [])) → Code.ret.wpIn Fence.wide n P Q { a with defers := { target := .collected D, args := #[] } :: a.defers } W) :
    (Code.rangeFunc g ps assign body).wpIn Fence.wide n P Q a w := by
  refine wpIn_rangeFunc fun fn hfn => ?_
  obtain ⟨R, hR⟩ : ∃ R : LoopState → Option Code → Loop, R = recO fn a.tmps ps assign body w.heap.size := ⟨_, rfl⟩
  obtain ⟨W1, hW1⟩ : ∃ W1, (w.alloc (.deferred (some []))).alloc (.loop (R .ready none)) = W1 := ⟨_, rfl⟩
  have hat : AtLoop w.heap.size (R .ready none) W1 := by
    rw [← hW1]
    exact ⟨new_1 _ _ _, new_old _ _ (new_0 _ _)⟩
  have hlow : Below w.heap.size w W1 := by rw [← hW1]; exact ((Below.refl _ w).alloc (Nat.le_refl _) _).alloc (by simp) _
  have hI1 : I [] W1 := by rw [← hW1]; exact hI.alloc _ (hI.alloc _ h0)
  refine ⟨w.heap.size + 1, [{ target := .collected w.heap.size, args := #[] }], W1, { target := .fn (.func gf) lb, args := #[.func (.yield (w.heap.size + 1)) #[] #[]] }, W1, gf,
    #[.func (.yield (w.heap.size + 1)) #[] #[]] ++ lb, W1, ?enter, ?res, ?leads, ?inv, fun _ => h1, ?call⟩
  case enter => rw [← hW1, hR]; exact run_enterLoop_outer _ _ _ _ _
  case res =>
    simp only [resolve, hg]
    simp [go_sem]
  case leads => exact fun _ _ => trivial
  case inv => simp [invoke, go_sem, eg]
  case call =>
    refine (hseq (w.heap.size + 1) (fun pre W => I pre W ∧ AtLoop w.heap.size (R .ready none) W) (fun pre W => Ix pre W ∧ AtLoop w.heap.size (R .done (some .ret)) W) W1 hlow
      (bI.and fun _ _ _ hs st => hs.steps ho st) (bIx.and fun _ _ _ hs st => hs.steps ho st) ?round ⟨hI1, hat⟩).mono ?behind
    case round =>
      rintro pre x W ⟨hi, hl⟩ hlen
      have hy := run_yield (P := P) (args := encs x) hl.1 (by rw [hR]; exact hps x)
      rw [hR] at hy
      refine ⟨fn, _, assign, body, hy, roundIn_of_wpIn hfn (hassign _ x W _ ⟨_, run_beginRound hl.1 (by rw [hR]; rfl), ?_⟩)⟩
      have hbusy : AtLoop w.heap.size { R .ready none with state := .busy } (W.putObj (w.heap.size + 1) (.loop { R .ready none with state := .busy })) := hl.turn
      refine wpIn_mono (hbody _ pre x _ (hI.putObj _ hi (by omega) hl.1 rfl) hlen) ?_
      have hK0 := hKb W (w.heap.size + 1) _ (.loop { R .ready none with state := .busy }) (by omega) hl.1 rfl
      rintro e a3 W3 hp
      cases e with
      | normal =>
        obtain ⟨hk3, hkp3, hi3⟩ := hp
        have h3 := hbusy.keep hk3 (Nat.le_refl _)
        have he := run_endRound (P := P) none h3.1
        rw [hR] at he h3
        refine ⟨_, _, he, .inl ⟨rfl, ⟨hI.putObj _ hi3 (by omega) h3.1 rfl, ?_⟩, hKt (hKt hK0 hkp3) (hKb _ _ _ _ (by omega) h3.1 rfl)⟩⟩
        rw [hR]
        exact h3.turn
      | ret =>
        obtain ⟨hk3, -, hi3⟩ := hp
        have h3 := hbusy.keep hk3 (Nat.le_refl _)
        have he := run_endRound (P := P) (some .ret) h3.1
        rw [hR] at he h3
        refine ⟨_, _, he, .inr ⟨rfl, hIx.putObj _ hi3 (by omega) h3.1 rfl, ?_⟩⟩
        rw [hR]
        exact h3.turn
      | exit id => exact absurd hp.2.1 (by simp)
      | goto t => exact absurd hp.2.1 (by simp)
      | panic ch => exact hp.elim
      | outgrown => exact hp.elim
    case behind =>
      rintro e W2 ⟨⟨v, rfl⟩, ⟨xs, hS, hi, hl⟩ | ⟨pre, hSp, hi, hl⟩⟩
      · have he := run_endLoop (P := P) hl.1 (by rw [hR]; exact fun h => (by cases h))
        rw [hR] at he
        refine ⟨none, _, he, hdone _ xs _ (Nat.le_refl _) hS (hI.putObj _ hi (by omega) hl.1 rfl) ?_⟩
        exact (World.putObj_heap_other (by omega)).trans hl.2
      · have he := run_endLoop (P := P) hl.1 (by rw [hR]; exact fun h => (by cases h))
        rw [hR] at he
        refine ⟨some .ret, _, he, hstop _ pre _ (Nat.le_refl _) hSp (hIx.putObj _ hi (by omega) hl.1 rfl) ?_⟩
        exact (World.putObj_heap_other (by omega)).trans hl.2
end Go.Proofs.YtibbbjikehkbmabDoor.Ve
namespace Go.Proofs.YtibbbjikehkbmabDoor.Ve
open Go.RowKit

/-- How many of either row stand ahead of all others. -/
def nxt : List St → List St → Nat × Nat
  | [], _ => (0, 1)
  | _ :: _, [] => (1, 0)
  | s :: _, t :: _ => (if s.1 ≤ t.1 then 1 else 0, if t.1 ≤ s.1 then 1 else 0)
/-- Two rows gone through at once. -/
def stepsN : Nat → List St → List St → List (Option St × Option St)
  | 0, _, _ => []
  | n + 1, a, b => if a = [] ∧ b = [] then [] else ((a.take (nxt a b).1).head?, (b.take (nxt a b).2).head?) :: stepsN n (a.drop (nxt a b).1) (b.drop (nxt a b).2)
theorem nxt_le {a b : List St} (h : ¬ (a = [] ∧ b = [])) : (nxt a b).1 ≤ a.length ∧ (nxt a b).2 ≤ b.length ∧ 1 ≤ (nxt a b).1 + (nxt a b).2 ∧ (nxt a b).1 ≤ 1 ∧ (nxt a b).2 ≤ 1 := by
  cases a with
  | nil =>
    cases b with
    | nil => exact absurd ⟨rfl, rfl⟩ h
    | cons t b => simp [nxt]
  | cons s a =>
    cases b with
    | nil => simp [nxt]
    | cons t b =>
      simp only [nxt, List.length_cons]
      by_cases h1 : s.1 ≤ t.1 <;> by_cases h2 : t.1 ≤ s.1 <;> simp [h1, h2] <;> omega
theorem head_list {l : List St} {f : Nat} (hf : f ≤ 1) : (l.take f).head?.toList = l.take f := by
  have : (l.take f).length ≤ 1 := by rw [List.length_take]; omega
  cases h : l.take f with
  | nil => rfl
  | cons x r =>
    rw [h] at this
    have : r = [] := by cases r with | nil => rfl | cons y r => simp at this
    subst this
    rfl
/-- How many rounds there are at most, and what goes on. -/
def stepsV (a b : List St) : List (Option St × Option St) := stepsN (a.length + b.length) a b
theorem stepsV_nil : stepsV [] [] = [] := rfl
theorem stepsV_next {a b : List St} (h : ¬ (a = [] ∧ b = [])) : stepsV a b = ((a.take (nxt a b).1).head?, (b.take (nxt a b).2).head?) :: stepsV (a.drop (nxt a b).1) (b.drop (nxt a b).2) := by
  have gen : ∀ (n m : Nat) (a b : List St), a.length + b.length ≤ n → a.length + b.length ≤ m → stepsN n a b = stepsN m a b := by
    intro n
    induction n with
    | zero =>
      intro m a b h1 h2
      have ha : a = [] := List.eq_nil_of_length_eq_zero (by omega)
      have hb : b = [] := List.eq_nil_of_length_eq_zero (by omega)
      subst ha hb
      cases m <;> simp [stepsN]
    | succ n ih =>
      intro m a b h1 h2
      by_cases hab : a = [] ∧ b = []
      · obtain ⟨rfl, rfl⟩ := hab
        cases m <;> simp [stepsN]
      · obtain ⟨q1, q2, q3, q4, q5⟩ := nxt_le hab
        cases m with
        | zero =>
          have ha : a = [] := List.eq_nil_of_length_eq_zero (by omega)
          have hb : b = [] := List.eq_nil_of_length_eq_zero (by omega)
          exact absurd ⟨ha, hb⟩ hab
        | succ m =>
          rw [stepsN, stepsN, if_neg hab, if_neg hab]
          rw [ih m _ _ (by simp; omega) (by simp; omega)]
  obtain ⟨q1, q2, q3, q4, q5⟩ := nxt_le h
  obtain ⟨n, hn⟩ : ∃ n, a.length + b.length = n + 1 := ⟨a.length + b.length - 1, by omega⟩
  unfold stepsV
  rw [hn, stepsN, if_neg h]
  rw [gen n _ _ _ (by simp; omega) (Nat.le_refl _)]
theorem stepsV_len {a b : List St} : (stepsV a b).length ≤ a.length + b.length := by
  have gen : ∀ (n : Nat) (a b : List St), (stepsN n a b).length ≤ n := by
    intro n
    induction n with
    | zero => intro a b; exact Nat.le_refl _
    | succ n ih =>
      intro a b
      rw [stepsN]
      split
      · simp
      · simp only [List.length_cons]
        have := ih (a.drop (nxt a b).1) (b.drop (nxt a b).2)
        omega
  exact gen _ _ _

theorem sizeStamp (w : World) : (sizeOf (Tryd.prog.elem 22)).run Tryd.prog w = .ok 2 w := by
  have e : Tryd.prog.elem 22 = 33 := by kernel_rfl
  rw [e]
  simp [go_sem]
theorem undS : Tryd.prog.underlying 22 = some (.slice (Tryd.prog.elem 22)) := by kernel_rfl
theorem cut_take {w : World} {ao : Option Addr} {n c f : Nat} {l : List St} (h : VecV w (.slice ao n c) l) (hf : f ≤ l.length) : ∃ a c', (∀ W, (Instr.slice 22 (.slice ao n c) none (some (.int .i64 (f : Int))) none).run Tryd.prog W = .ok (.slice a f c') W) ∧ VecV w (.slice a f c') (l.take f) := by
  obtain ⟨ao', c1, e, hc, hn, hr⟩ := h
  injection e with e1 e2 e3
  subst e1 e2 e3
  refine ⟨ao, c, fun W => ?_, ao, c, by rw [List.length_take, Nat.min_eq_left hf], by rw [List.length_take]; omega, hn, hr.take f⟩
  rw [run_slice_h W 22 ao l.length c undS .i64 (f : Int) (by omega) (by omega), sizeStamp]
  simp [Result.andThen, sliced]
  intro _
  cases ao <;> simp [Addr.add]
theorem cut_drop {w : World} {ao : Option Addr} {n c f : Nat} {l : List St} (h : VecV w (.slice ao n c) l) (hf : f ≤ l.length) : ∃ a c', (∀ W, (Instr.slice 22 (.slice ao n c) (some (.int .i64 (f : Int))) none none).run Tryd.prog W = .ok (.slice a (l.length - f) c') W) ∧ VecV w (.slice a (l.length - f) c') (l.drop f) := by
  obtain ⟨ao', c1, e, hc, hn, hr⟩ := h
  injection e with e1 e2 e3
  subst e1 e2 e3
  refine ⟨if c = f then ao else ao.map (·.add (f * 2)), c - f, fun W => ?_, if c = f then ao else ao.map (·.add (f * 2)), c - f, by rw [List.length_drop], by rw [List.length_drop]; omega, fun q => ?_, ?_⟩
  · rw [run_slice_l W 22 ao l.length c undS .i64 (f : Int) (by omega) (by omega), sizeStamp]
    simp [Result.andThen, sliced]
  · split at q
    · rename_i hcf; omega
    · cases ao with
      | none => rw [hn rfl]; omega
      | some p => cases q
  · split
    · rename_i hcf
      left
      exact List.drop_eq_nil_of_le (by omega)
    · cases ao with
      | none =>
        rcases hr with rfl | ⟨g, o, e, _⟩
        · left; simp
        · cases e
      | some p =>
        rcases hr with rfl | ⟨g, o, e, hg, hcell⟩
        · left; simp
        · injection e with e
          subst e
          have := RowIn.drop (Or.inr ⟨g, o, rfl, hg, hcell⟩) f
          rw [Option.map_some, addr_addS]
          exact this
end Go.Proofs.YtibbbjikehkbmabDoor.Ve
namespace Go.Proofs.YtibbbjikehkbmabDoor.Ve
open Go.RowKit

theorem Tryd.entBy : ∀ args w, (callFunc 33 args).run Tryd.prog w = .ok (.enter 33 args) w := fun _ _ => by kernel_rfl

set_option maxRecDepth 20000 in
set_option maxHeartbeats 4000000 in
theorem next_any {w : World} {va vb : Value} {a b : List St} (ha : VecV w va a) (hb : VecV w vb b) (hna : a.length ≤ 256) (hnb : b.length ≤ 256) :
    Calls Tryd.prog 62 #[va, vb, .func (.func 33) #[] #[]] w fun e w' => e = .returned (.tuple #[.int .i64 ((nxt a b).1 : Nat), .int .i64 ((nxt a b).2 : Nat)]) ∧ Below w.heap.size w w' := by
  obtain ⟨ao, ca, rfl, hca, -, ra⟩ := ha
  obtain ⟨bo, cb, rfl, hcb, -, rb⟩ := hb
  have hent := Tryd.entBy
  cases a with
  | nil =>
    go_enter Tryd.func62, Tryd.ntmps62
    go_wp2
    go_ret2
    exact ⟨rfl, Below.refl _ _⟩
  | cons s a =>
    obtain ⟨n, hn⟩ : ∃ n, n = (s :: a).length := ⟨_, rfl⟩
    have hn1 : 1 ≤ n := by rw [hn]; simp
    have hna' : ((n : Int) == 0) = false := by rw [beq_eq_false_iff_ne]; omega
    have hna2 : (n == 0) = false := by rw [beq_eq_false_iff_ne]; omega
    have hnI : (0 : Int) < (n : Int) := by omega
    have hn0 : 0 < n := hn1
    cases b with
    | nil =>
      rw [← hn]
      clear hn
      go_enter Tryd.func62, Tryd.ntmps62
      go_wp2
      go_ret2
      exact ⟨rfl, Below.refl _ _⟩
    | cons t b =>
      obtain ⟨m, hm⟩ : ∃ m, m = (t :: b).length := ⟨_, rfl⟩
      have hm1 : 1 ≤ m := by rw [hm]; simp
      have hmb' : ((m : Int) == 0) = false := by rw [beq_eq_false_iff_ne]; omega
      have hmb2 : (m == 0) = false := by rw [beq_eq_false_iff_ne]; omega
      have hmI : (0 : Int) < (m : Int) := by omega
      have hm0 : 0 < m := hm1
      rw [← hn, ← hm]
      obtain ⟨g, o, rfl, hg, hc⟩ := ra.resolve_left (by simp)
      obtain ⟨g', o', rfl, hg', hc'⟩ := rb.resolve_left (by simp)
      obtain ⟨c0, c1⟩ := hc 0 s rfl
      obtain ⟨d0, d1⟩ := hc' 0 t rfl
      rw [Nat.zero_mul, Nat.add_zero] at c0 c1 d0 d1
      have HN := hid (show nxt (s :: a) (t :: b) = (if s.1 ≤ t.1 then 1 else 0, if t.1 ≤ s.1 then 1 else 0) from rfl)
      obtain ⟨d, u⟩ := s
      obtain ⟨d', u'⟩ := t
      simp only at c0 c1 d0 d1 HN
      have HC := hid (byDev_any d d' (u : Int) (u' : Int))
      obtain ⟨r, hr⟩ : ∃ r, r = cmpD d d' := ⟨_, rfl⟩
      rw [← hr] at HC
      have HCD := hid hr
      clear hn hm hc hc' hr
      go_enter Tryd.func62, Tryd.ntmps62
      go_wp2_with fail
      go_region_held2 (fun W => W.cell? ⟨g, o, none⟩ = some (.int .i64 d) ∧ W.cell? ⟨g, o + 1, none⟩ = some (.int .u64 (u : Int)) ∧ W.cell? ⟨g', o', none⟩ = some (.int .i64 d') ∧ W.cell? ⟨g', o' + 1, none⟩ = some (.int .u64 (u' : Int))) (first | exact ⟨c0, c1, d0, d1⟩ | exact hS2) (first | (go_at_call 33; refine (HC.out _).mono ?_; rintro en w2 ⟨rfl, hb2⟩; have B2 := hid hb2; have hS2 := And.intro ((hb2.cell (block_oldS c0)).trans c0) (And.intro ((hb2.cell (block_oldS c1)).trans c1) (And.intro ((hb2.cell (block_oldS d0)).trans d0) ((hb2.cell (block_oldS d1)).trans d1))); clear hb2))
      rcases Int.lt_trichotomy d d' with h | h | h
      · have hr : r = -1 := by rw [HCD.out]; unfold cmpD; rw [if_pos h]
        subst hr
        have HE := hid (show nxt ((d, u) :: a) ((d', u') :: b) = (1, 0) by rw [HN.out, if_pos (by omega), if_neg (by omega)])
        go_wp2
        go_ret2
        exact ⟨by rw [HE.out]; rfl, (Below.refl w.heap.size w).drew.trans (show Below w.heap.size w.drew w2 from B2.out)⟩
      · have hr : r = 0 := by rw [HCD.out]; unfold cmpD; rw [if_neg (by omega), if_neg (by omega)]
        subst hr
        have HE := hid (show nxt ((d, u) :: a) ((d', u') :: b) = (1, 1) by rw [HN.out, if_pos (by omega), if_pos (by omega)])
        go_wp2
        go_ret2
        exact ⟨by rw [HE.out]; rfl, (Below.refl w.heap.size w).drew.trans (show Below w.heap.size w.drew w2 from B2.out)⟩
      · have hr : r = 1 := by rw [HCD.out]; unfold cmpD; rw [if_neg (by omega), if_pos h]
        subst hr
        have HE := hid (show nxt ((d, u) :: a) ((d', u') :: b) = (0, 1) by rw [HN.out, if_neg (by omega), if_pos (by omega)])
        go_wp2
        go_ret2
        exact ⟨by rw [HE.out]; rfl, (Below.refl w.heap.size w).drew.trans (show Below w.heap.size w.drew w2 from B2.out)⟩
end Go.Proofs.YtibbbjikehkbmabDoor.Ve
namespace Go.Proofs.YtibbbjikehkbmabDoor.Ve
open Go.RowKit Go.Shelf
attribute [local go_sem] Oper.semAt_some

abbrev cmpV : Value := .func (.func 33) #[] #[]
theorem together_any (va vb : Value) (ao bo : Option Addr) (n m ca cb : Nat) (ha : va = .slice ao n ca) (hb : vb = .slice bo m cb) (w : World) : Calls Tryd.prog 48 #[va, vb, cmpV] w fun e w' =>
    e = .returned (.func (.func 61) #[] #[.pointer (some ⟨w.heap.size, 0, none⟩), .pointer (some ⟨w.heap.size + 1, 0, none⟩), .pointer (some ⟨w.heap.size + 1 + 1, 0, none⟩)]) ∧
    w' = ((w.alloc (.cells #[va] 22)).alloc (.cells #[vb] 22)).alloc (.cells #[cmpV] 65) := by
  subst ha hb
  go_enter Tryd.func48, Tryd.ntmps48
  go_wp2
  go_ret
  exact ⟨rfl, rfl⟩
/-- What a round hands over: of either row one thing or none. -/
abbrev It (w0 : World) : Type := { it : Value × Value × Option St × Option St // VecV w0 it.1 it.2.2.1.toList ∧ VecV w0 it.2.1 it.2.2.2.toList ∧ it.2.2 ≠ (none, none) }
theorem some_step {la lb : List St} {f h : Nat} (h1 : f ≤ la.length) (h2 : h ≤ lb.length) (h3 : 1 ≤ f + h) : ((la.take f).head?, (lb.take h).head?) ≠ (none, none) := by
  intro e
  have e1 : (la.take f).head? = none := congrArg Prod.fst e
  have e2 : (lb.take h).head? = none := congrArg Prod.snd e
  rw [List.head?_eq_none_iff] at e1 e2
  have l1 := congrArg List.length e1
  have l2 := congrArg List.length e2
  rw [List.length_take, List.length_nil] at l1 l2
  omega
def pairs {w0 : World} (xs : List (It w0)) : List (Option St × Option St) := xs.map fun x => x.1.2.2
theorem pairs_snoc {w0 : World} (xs : List (It w0)) (x : It w0) : pairs (xs ++ [x]) = pairs xs ++ [x.1.2.2] := by simp [pairs]
/-- What a round keeps. -/
def KIt (n0 ba bb bc : Nat) (A B : World) : Prop := Below n0 A B ∧ ∀ b, b = ba ∨ b = bb ∨ b = bc → ∀ ty v, Boxed A b ty v → Boxed B b ty v
theorem KIt.trans {n0 ba bb bc : Nat} {A B C : World} (h : KIt n0 ba bb bc A B) (k : KIt n0 ba bb bc B C) : KIt n0 ba bb bc A C := ⟨h.1.trans k.1, fun b hb ty v hv => k.2 b hb ty v (h.2 b hb ty v hv)⟩
theorem kIt_b {n0 ba bb bc : Nat} (W : World) (l : Nat) (o o' : Obj) (hn : n0 ≤ l) (h : W.heap[l]? = some o) (hc : o.isCells = false) : KIt n0 ba bb bc W (W.putObj l o') :=
  ⟨(Below.refl n0 W).grown (grownBy_putObj' W l o') (by have := lt_of_block h; omega) (fun k e => by cases e; exact hn), fun b _ ty v hv =>
    hv.kept (grownBy_putObj' W l o') (fun e => by
      obtain rfl : b = l := by simpa using e
      rw [show W.heap[b]? = _ from hv] at h
      cases h
      cases hc)⟩
theorem two_endsO {e : Ending} {p q : Prop} (h : (e = .returned (.bool true) ∧ p) ∨ (e = .returned (.bool false) ∧ q)) : ∃ b, e = .returned (.bool b) ∧ Hid ((b = true ∧ p) ∨ (b = false ∧ q)) := by
  rcases h with ⟨h, hp⟩ | ⟨h, hq⟩
  · exact ⟨true, h, Or.inl ⟨rfl, hp⟩⟩
  · exact ⟨false, h, Or.inr ⟨rfl, hq⟩⟩
theorem boxed_below {w w' : World} {b : Nat} {ty : TypeId} {v : Value} (h : Boxed w b ty v) (hb : Below w.heap.size w w') : Boxed w' b ty v := (hb.block b h.lt).trans h
/-- How long the row in a box is. -/
def boxLen (w : World) (b : Nat) : Nat := match w.cell? ⟨b, 0, none⟩ with | some (.slice _ n _) => n | _ => 0
theorem boxLen_of {w : World} {b n c : Nat} {ty : TypeId} {a : Option Addr} (h : Boxed w b ty (.slice a n c)) : boxLen w b = n := by unfold boxLen; rw [h.cell]
/-- Where the iterator stands. -/
structure TogI (w0 : World) (a b : List St) (ba bb bc : Nat) (J : List (It w0) → World → Prop) (pre : List (It w0)) (la lb : List St) (va vb : Value) (wr : World) : Prop where
  inv : J pre wr
  low : Below w0.heap.size w0 wr
  ra : VecV w0 va la
  rb : VecV w0 vb lb
  xa : Boxed wr ba 22 va
  xb : Boxed wr bb 22 vb
  xc : Boxed wr bc 65 cmpV
  all : pairs pre ++ stepsV la lb = stepsV a b
  lens : la.length ≤ 256 ∧ lb.length ≤ 256

theorem TogI.next {w0 w3 : World} {a b la lb : List St} {ba bb bc f h : Nat} {J : List (It w0) → World → Prop} {pre : List (It w0)} {X : It w0} {va vb va' vb' : Value} (bJ : Bears (fun q => q = ba ∨ q = bb) J) (n0 : w0.heap.size ≤ ba ∧ w0.heap.size ≤ bb ∧ ba ≠ bb ∧ ba ≠ bc ∧ bb ≠ bc)
    (hj : J (pre ++ [X]) w3) (low : Below w0.heap.size w0 w3) (xa : Boxed w3 ba 22 va) (xb : Boxed w3 bb 22 vb) (xc : Boxed w3 bc 65 cmpV) (hX : X.1.2.2 = ((la.take f).head?, (lb.take h).head?)) (ra : VecV w0 va' (la.drop f)) (rb : VecV w0 vb' (lb.drop h))
    (hst : pairs pre ++ (((la.take f).head?, (lb.take h).head?) :: stepsV (la.drop f) (lb.drop h)) = stepsV a b) (hl : (la.drop f).length ≤ 256 ∧ (lb.drop h).length ≤ 256) :
    TogI w0 a b ba bb bc J (pre ++ [X]) (la.drop f) (lb.drop h) va' vb' ((w3.setCell ⟨ba, 0, none⟩ va').setCell ⟨bb, 0, none⟩ vb').drew ∧ TogI w0 a b ba bb bc J (pre ++ [X]) (la.drop f) (lb.drop h) va' vb' ((w3.setCell ⟨bb, 0, none⟩ vb').setCell ⟨ba, 0, none⟩ va').drew := by
  have hd : J (pre ++ [X]) w3.drew := bJ _ _ _ hj (steps_none ⟨rfl, rfl, rfl, Nat.le_refl _, fun _ _ _ => rfl⟩)
  have lowd : Below w0.heap.size w0 w3.drew := low.trans (Below.refl w0.heap.size w3).drew
  have xa : Boxed w3.drew ba 22 va := xa
  have xb : Boxed w3.drew bb 22 vb := xb
  have xc : Boxed w3.drew bc 65 cmpV := xc
  have hall : pairs (pre ++ [X]) ++ stepsV (la.drop f) (lb.drop h) = stepsV a b := by
    rw [pairs_snoc, hX, List.append_assoc]; exact hst
  obtain ⟨p1, p2, p3, p4, p5⟩ := n0
  constructor
  · exact ⟨bJ _ _ _ (bJ _ _ _ hd (steps_set _ (Or.inl rfl))) (steps_set _ (Or.inr rfl)), (lowd.setCell (p := ⟨ba, 0, none⟩) p1 _).setCell (p := ⟨bb, 0, none⟩) p2 _, ra, rb, (xa.set _).other p3 _, (xb.other (fun e => p3 e.symm) _).set _, (xc.other (fun e => p4 e.symm) _).other (fun e => p5 e.symm) _, hall, hl⟩
  · exact ⟨bJ _ _ _ (bJ _ _ _ hd (steps_set _ (Or.inr rfl))) (steps_set _ (Or.inl rfl)), (lowd.setCell (p := ⟨bb, 0, none⟩) p2 _).setCell (p := ⟨ba, 0, none⟩) p1 _, ra, rb, (xa.other p3 _).set _, (xb.set _).other (fun e => p3 e.symm) _, (xc.other (fun e => p5 e.symm) _).other (fun e => p4 e.symm) _, hall, hl⟩

set_option maxRecDepth 100000 in
set_option maxHeartbeats 2000000 in
theorem tog_stops {nn : Nat} (hn : 2 ≤ nn) {w0 w : World} {a b : List St} {va vb : Value} {ba bb bc : Nat} (hw : Below w0.heap.size w0 w) (ha : VecV w0 va a) (hb : VecV w0 vb b) (la : a.length ≤ 256) (lb : b.length ≤ 256)
    (xa : Boxed w ba 22 va) (xb : Boxed w bb 22 vb) (xc : Boxed w bc 65 cmpV) (n0 : w0.heap.size ≤ ba ∧ w0.heap.size ≤ bb ∧ ba ≠ bb ∧ ba ≠ bc ∧ bb ≠ bc) :
    SeqOwn (fun q => q = ba ∨ q = bb) nn Tryd.prog 61 #[.pointer (some ⟨ba, 0, none⟩), .pointer (some ⟨bb, 0, none⟩), .pointer (some ⟨bc, 0, none⟩)] (fun x : It w0 => #[x.1.1, x.1.2.1]) (KIt w0.heap.size ba bb bc)
      (fun xs => pairs xs = stepsV a b) (fun pre => pairs pre <+: stepsV a b) (a.length + b.length) w := fun l J Jx W hW bJ bJx hY h0 => by
  have HI0 := hid (show TogI w0 a b ba bb bc J [] a b va vb W from ⟨h0, hw.trans (hW.mono hw.size), ha, hb, boxed_below xa hW, boxed_below xb hW, boxed_below xc hW, rfl, la, lb⟩)
  have HBJ := hid bJ
  have HBX := hid bJx
  have HY := hid hY
  obtain ⟨a0, c0, rfl, -⟩ := ha
  obtain ⟨b0, d0, rfl, -⟩ := hb
  have hnn1 : 1 ≤ nn := by omega
  clear h0 bJ bJx hY xa xb xc hW hw
  refine callsIn_of_wp Tryd.func61 rfl trivial ?_ rfl
  simp only [Tryd.ntmps61, List.size_toArray, List.length_cons, List.length_nil, Nat.reduceAdd, Nat.reduceSub, Array.replicate_succ, Array.replicate_zero, List.push_toArray, List.append_toArray, List.nil_append, List.cons_append]
  gi_wp2
  gi_loopw [] (fun wr => ∃ (pre : List (It w0)) (la lb : List St) (ao bo : Option Addr) (n m ca cb : Nat), Hid (n = la.length ∧ m = lb.length) ∧ Hid (TogI w0 a b ba bb bc J pre la lb (.slice ao n ca) (.slice bo m cb) wr)) (fun wr => boxLen wr ba + boxLen wr bb)
  case atStart => exact ⟨[], a, b, _, _, _, _, _, _, ⟨rfl, rfl⟩, HI0.out⟩
  case round =>
    obtain ⟨pre, la, lb, ao, bo, n, m, ca, cb, HNM, HI⟩ := hrel
    have cA := HI.out.xa.cell
    have cB := HI.out.xb.cell
    have cC := HI.out.xc.cell
    by_cases hz : n = 0 ∧ m = 0
    · obtain ⟨rfl, rfl⟩ := hz
      have hla : la = [] := List.eq_nil_of_length_eq_zero HNM.out.1.symm
      have hlb : lb = [] := List.eq_nil_of_length_eq_zero HNM.out.2.symm
      have HS := hid (show pairs pre = stepsV a b by
        have := HI.out.all
        rw [hla, hlb, stepsV_nil, List.append_nil] at this
        exact this)
      clear hla hlb
      gi_wp2
      go_end0
      exact ⟨⟨_, rfl⟩, .inl ⟨pre, HS.out, HI.out.inv⟩⟩
    · obtain ⟨f, hf⟩ : ∃ f, f = (nxt la lb).1 := ⟨_, rfl⟩
      obtain ⟨h, hh⟩ : ∃ h, h = (nxt la lb).2 := ⟨_, rfl⟩
      have hne : ¬ (la = [] ∧ lb = []) := fun q => hz ⟨by rw [HNM.out.1, q.1]; rfl, by rw [HNM.out.2, q.2]; rfl⟩
      obtain ⟨q1, q2, q3, q4, q5⟩ := nxt_le hne
      have hst := stepsV_next hne
      rw [← hf, ← hh] at hst
      rw [← hf] at q1 q3 q4
      rw [← hh] at q2 q3 q5
      have HNX := hid (next_any (w := wr) (HI.out.ra.below HI.out.low) (HI.out.rb.below HI.out.low) HI.out.lens.1 HI.out.lens.2)
      rw [← hf, ← hh] at HNX
      obtain ⟨ta, tca, hta, vta⟩ := cut_take HI.out.ra q1
      obtain ⟨tb, tcb, htb, vtb⟩ := cut_take HI.out.rb q2
      obtain ⟨da, dca, hda, vda⟩ := cut_drop HI.out.ra q1
      obtain ⟨db, dcb, hdb, vdb⟩ := cut_drop HI.out.rb q2
      obtain ⟨n1, hn1⟩ : ∃ n1, n1 = la.length - f := ⟨_, rfl⟩
      obtain ⟨m1, hm1⟩ : ∃ m1, m1 = lb.length - h := ⟨_, rfl⟩
      rw [← hn1] at hda vda
      rw [← hm1] at hdb vdb
      have HL := hid (show n1 = (la.drop f).length ∧ m1 = (lb.drop h).length by rw [List.length_drop, List.length_drop]; exact ⟨hn1, hm1⟩)
      have HDN := hid (show n1 + m1 < n + m by have := HNM.out; omega)
      have HVA := hid (show VecV w0 (.slice ta f tca) (la.take f).head?.toList by rw [head_list q4]; exact vta)
      have HVB := hid (show VecV w0 (.slice tb h tcb) (lb.take h).head?.toList by rw [head_list q5]; exact vtb)
      have HSS := hid (some_step q1 q2 q3)
      have HDA := hid vda
      have HDB := hid vdb
      have HST := hid (show pairs pre ++ (((la.take f).head?, (lb.take h).head?) :: stepsV (la.drop f) (lb.drop h)) = stepsV a b by rw [← hst]; exact HI.out.all)
      have hlen : pre.length < a.length + b.length := by
        have := congrArg List.length HST.out
        rw [List.length_append, List.length_cons, pairs, List.length_map] at this
        have := stepsV_len (a := a) (b := b)
        omega
      have HLEN := hid hlen
      have HDR := hid (show (la.drop f).length ≤ 256 ∧ (lb.drop h).length ≤ 256 by rw [List.length_drop, List.length_drop]; have := HI.out.lens; omega)
      have hab : ba ≠ bb := n0.2.2.1
      have hmx : Tryd.prog.follows .mixedOrders = true := by kernel_rfl
      have hd1 : 1 ≤ nn - 1 := by omega
      clear hf hh hne hst q1 q2 q3 q4 q5 vta vtb vda vdb hn1 hm1 hlen
      by_cases hn0 : 0 < n
      · have hn0I : (0 : Int) < (n : Int) := by omega
        gi_wp2_with (refine ⟨trivial, ?_⟩; gi_at_call 62; refine (callsIn_wide.2 HNX.out).mono ?_; rintro e w2 ⟨rfl, hb2⟩)

        have HB2 := hid hb2
        have xa2 := boxed_below HI.out.xa hb2
        have xb2 := boxed_below HI.out.xb hb2
        have xc2 := boxed_below HI.out.xc hb2
        have hJ2 : J pre w2.drew := HBJ.out _ _ _ (HBJ.out _ _ _ HI.out.inv (steps_below hb2)) (steps_none ⟨rfl, rfl, rfl, Nat.le_refl _, fun _ _ _ => rfl⟩)
        have HLOW2 := hid (HI.out.low.trans (hb2.mono HI.out.low.size))
        obtain ⟨X, hX⟩ : ∃ X : It w0, X.1 = (.slice ta f tca, .slice tb h tcb, (la.take f).head?, (lb.take h).head?) := ⟨⟨_, HVA.out, HVB.out, HSS.out⟩, rfl⟩
        have HX := hid hX
        have hYX := HY.out pre X w2.drew hJ2 HLEN.out
        rw [hX] at hYX
        obtain ⟨fn, tmps, assign, body, hy, hR⟩ := hYX.mono (fun e w hh => two_endsO hh)
        have cA := xa2.cell
        have cB := xb2.cell
        have cC := xc2.cell
        have HXA := hid xa2
        have HXB := hid xb2
        have HXC := hid xc2
        clear hb2 hJ2 hYX hX xa2 xb2 xc2
        gi_wp2
        gi_region_with_o (refine hR.mono ?_; rintro e w3 ⟨bl, rfl, HE⟩)
        all_goals (rcases HE.out with ⟨rfl, hj, hkb⟩ | ⟨rfl, hjx⟩)
        all_goals gi_wp2
        all_goals first
          | (exact absurd (show (!true) = true by assumption) (by decide))
          | (exact absurd (show (!false) = false by assumption) (by decide))
          | (refine bodyPost_ret (results_none rfl _ _ _) rfl ?_
             exact ⟨⟨_, rfl⟩, .inr ⟨_, ⟨stepsV (la.drop f) (lb.drop h), by rw [pairs_snoc, List.append_assoc, HX.out]; exact HST.out⟩, hjx⟩⟩)
          | skip
        all_goals
          have xa3 := hkb.2 ba (Or.inl rfl) _ _ (show Boxed w2.drew ba 22 (.slice ao n ca) from HXA.out)
          have xb3 := hkb.2 bb (Or.inr (Or.inl rfl)) _ _ (show Boxed w2.drew bb 22 (.slice bo m cb) from HXB.out)
          have xc3 := hkb.2 bc (Or.inr (Or.inr rfl)) _ _ (show Boxed w2.drew bc 65 cmpV from HXC.out)
          have HTN := hid (TogI.next (f := f) (h := h) (la := la) (lb := lb) (X := X) (pre := pre) (va' := .slice da n1 dca) (vb' := .slice db m1 dcb) HBJ.out n0 hj ((HLOW2.out.trans (Below.refl _ w2).drew).trans hkb.1) xa3 xb3 xc3 (by rw [HX.out]) HDA.out HDB.out HST.out HDR.out)
          have cA := xa3.cell
          have cB := xb3.cell
          have fA := xa3.frozen
          have fB := xb3.frozen
          have cBa : (w3.drew.setCell ⟨ba, 0, none⟩ (.slice da n1 dca)).cell? ⟨bb, 0, none⟩ = some (.slice bo m cb) := (Boxed.other (show Boxed w3.drew bb 22 (.slice bo m cb) from xb3) (fun e => hab e.symm) _).cell
          have fBa : (w3.drew.setCell ⟨ba, 0, none⟩ (.slice da n1 dca)).frozen? ⟨bb, 0, none⟩ = false := (Boxed.other (show Boxed w3.drew bb 22 (.slice bo m cb) from xb3) (fun e => hab e.symm) _).frozen
          have cAb : (w3.drew.setCell ⟨bb, 0, none⟩ (.slice db m1 dcb)).cell? ⟨ba, 0, none⟩ = some (.slice ao n ca) := (Boxed.other (show Boxed w3.drew ba 22 (.slice ao n ca) from xa3) hab _).cell
          have fAb : (w3.drew.setCell ⟨bb, 0, none⟩ (.slice db m1 dcb)).frozen? ⟨ba, 0, none⟩ = false := (Boxed.other (show Boxed w3.drew ba 22 (.slice ao n ca) from xa3) hab _).frozen
          have HM1 := hid (show boxLen w3 ba + boxLen w3 bb = n + m by rw [boxLen_of xa3, boxLen_of xb3])
          clear hj hkb xa3 xb3 xc3
          gi_wp2
          gi_region_o
          all_goals gi_wp2
          all_goals go_roundw
          all_goals first
            | (with_reducible exact ⟨pre ++ [X], la.drop f, lb.drop h, _, _, n1, m1, _, _, HL, hid HTN.out.1⟩)
            | (with_reducible exact ⟨pre ++ [X], la.drop f, lb.drop h, _, _, n1, m1, _, _, HL, hid HTN.out.2⟩)
            | (rw [boxLen_of HTN.out.1.xa, boxLen_of HTN.out.1.xb, boxLen_of HI.out.xa, boxLen_of HI.out.xb]; exact HDN.out)
            | (rw [boxLen_of HTN.out.2.xa, boxLen_of HTN.out.2.xb, boxLen_of HI.out.xa, boxLen_of HI.out.xb]; exact HDN.out)
      · have hn0' : n = 0 := by omega
        have hm0 : 0 < m := by omega
        have hm0I : (0 : Int) < (m : Int) := by omega
        subst hn0'
        gi_wp2_with (refine ⟨trivial, ?_⟩; gi_at_call 62; refine (callsIn_wide.2 HNX.out).mono ?_; rintro e w2 ⟨rfl, hb2⟩)
        have HB2 := hid hb2
        have xa2 := boxed_below HI.out.xa hb2
        have xb2 := boxed_below HI.out.xb hb2
        have xc2 := boxed_below HI.out.xc hb2
        have hJ2 : J pre w2.drew := HBJ.out _ _ _ (HBJ.out _ _ _ HI.out.inv (steps_below hb2)) (steps_none ⟨rfl, rfl, rfl, Nat.le_refl _, fun _ _ _ => rfl⟩)
        have HLOW2 := hid (HI.out.low.trans (hb2.mono HI.out.low.size))
        obtain ⟨X, hX⟩ : ∃ X : It w0, X.1 = (.slice ta f tca, .slice tb h tcb, (la.take f).head?, (lb.take h).head?) := ⟨⟨_, HVA.out, HVB.out, HSS.out⟩, rfl⟩
        have HX := hid hX
        have hYX := HY.out pre X w2.drew hJ2 HLEN.out
        rw [hX] at hYX
        obtain ⟨fn, tmps, assign, body, hy, hR⟩ := hYX.mono (fun e w hh => two_endsO hh)
        have cA := xa2.cell
        have cB := xb2.cell
        have cC := xc2.cell
        have HXA := hid xa2
        have HXB := hid xb2
        have HXC := hid xc2
        clear hb2 hJ2 hYX hX xa2 xb2 xc2
        gi_wp2
        gi_region_with_o (refine hR.mono ?_; rintro e w3 ⟨bl, rfl, HE⟩)
        all_goals (rcases HE.out with ⟨rfl, hj, hkb⟩ | ⟨rfl, hjx⟩)
        all_goals gi_wp2
        all_goals first
          | (exact absurd (show (!true) = true by assumption) (by decide))
          | (exact absurd (show (!false) = false by assumption) (by decide))
          | (refine bodyPost_ret (results_none rfl _ _ _) rfl ?_
             exact ⟨⟨_, rfl⟩, .inr ⟨_, ⟨stepsV (la.drop f) (lb.drop h), by rw [pairs_snoc, List.append_assoc, HX.out]; exact HST.out⟩, hjx⟩⟩)
          | skip
        all_goals
          have xa3 := hkb.2 ba (Or.inl rfl) _ _ (show Boxed w2.drew ba 22 (.slice ao 0 ca) from HXA.out)
          have xb3 := hkb.2 bb (Or.inr (Or.inl rfl)) _ _ (show Boxed w2.drew bb 22 (.slice bo m cb) from HXB.out)
          have xc3 := hkb.2 bc (Or.inr (Or.inr rfl)) _ _ (show Boxed w2.drew bc 65 cmpV from HXC.out)
          have HTN := hid (TogI.next (f := f) (h := h) (la := la) (lb := lb) (X := X) (pre := pre) (va' := .slice da n1 dca) (vb' := .slice db m1 dcb) HBJ.out n0 hj ((HLOW2.out.trans (Below.refl _ w2).drew).trans hkb.1) xa3 xb3 xc3 (by rw [HX.out]) HDA.out HDB.out HST.out HDR.out)
          have cA := xa3.cell
          have cB := xb3.cell
          have fA := xa3.frozen
          have fB := xb3.frozen
          have cBa : (w3.drew.setCell ⟨ba, 0, none⟩ (.slice da n1 dca)).cell? ⟨bb, 0, none⟩ = some (.slice bo m cb) := (Boxed.other (show Boxed w3.drew bb 22 (.slice bo m cb) from xb3) (fun e => hab e.symm) _).cell
          have fBa : (w3.drew.setCell ⟨ba, 0, none⟩ (.slice da n1 dca)).frozen? ⟨bb, 0, none⟩ = false := (Boxed.other (show Boxed w3.drew bb 22 (.slice bo m cb) from xb3) (fun e => hab e.symm) _).frozen
          have cAb : (w3.drew.setCell ⟨bb, 0, none⟩ (.slice db m1 dcb)).cell? ⟨ba, 0, none⟩ = some (.slice ao 0 ca) := (Boxed.other (show Boxed w3.drew ba 22 (.slice ao 0 ca) from xa3) hab _).cell
          have fAb : (w3.drew.setCell ⟨bb, 0, none⟩ (.slice db m1 dcb)).frozen? ⟨ba, 0, none⟩ = false := (Boxed.other (show Boxed w3.drew ba 22 (.slice ao 0 ca) from xa3) hab _).frozen
          have HM1 := hid (show boxLen w3 ba + boxLen w3 bb = 0 + m by rw [boxLen_of xa3, boxLen_of xb3])
          clear hj hkb xa3 xb3 xc3
          gi_wp2
          gi_region_o
          all_goals gi_wp2
          all_goals go_roundw
          all_goals first
            | (with_reducible exact ⟨pre ++ [X], la.drop f, lb.drop h, _, _, n1, m1, _, _, HL, hid HTN.out.1⟩)
            | (with_reducible exact ⟨pre ++ [X], la.drop f, lb.drop h, _, _, n1, m1, _, _, HL, hid HTN.out.2⟩)
            | (rw [boxLen_of HTN.out.1.xa, boxLen_of HTN.out.1.xb, boxLen_of HI.out.xa, boxLen_of HI.out.xb]; exact HDN.out)
            | (rw [boxLen_of HTN.out.2.xa, boxLen_of HTN.out.2.xb, boxLen_of HI.out.xa, boxLen_of HI.out.xb]; exact HDN.out)
end Go.Proofs.YtibbbjikehkbmabDoor.Ve
namespace Go.Proofs.YtibbbjikehkbmabDoor.Ve
open Go.RowKit Go.Shelf

def noDefer (ops : Array Oper) : Bool := ops.all fun o => match o.op with | .defer _ => false | _ => true
theorem noDefer_at {ops : Array Oper} (h : noDefer ops = true) {i : Nat} {o : Oper} (ho : ops[i]? = some o) : ∀ c, o.op ≠ .defer c := by
  intro c e
  unfold noDefer at h
  rw [Array.all_eq_true] at h
  obtain ⟨hlt, hi⟩ := Array.getElem?_eq_some_iff.1 ho
  have := h i hlt
  rw [hi, e] at this
  cases this
theorem op_round {F : Fence} {n : Nat} {P : Program} {ops : Array Oper} {Q : Exit → Act → World → Prop} {i : Nat} {K : Act → World → Prop} {a : Act} {w : World} (l : Nat) (hd : noDefer ops = true) (h : wpOpIn F n P ops Q i K a w) : wpOpIn (F.inRound l) n P ops Q i K a w := by
  unfold wpOpIn at h ⊢
  cases ho : ops[i]? with
  | none => rw [ho] at h; exact h
  | some o =>
    rw [ho] at h
    simp only at h ⊢
    split at h
    · rename_i hw
      rw [if_pos hw]
      have hp := noDefer_at hd ho
      obtain ⟨h1, h2⟩ := h
      refine ⟨h1, ?_⟩
      rw [Oper.semAt_plain _ _ _ hp] at h2 ⊢
      exact h2
    · rename_i hw
      rw [if_neg hw]
      exact h
theorem any_round {F : Fence} {n : Nat} {P : Program} {md : Region.Mode} {ops : Array Oper} {Q : Exit → Act → World → Prop} (l : Nat) (hd : noDefer ops = true) : ∀ (fuel : Nat) (listed : Array Bool) (a : Act) (w : World), wpAnyIn F n P md ops Q fuel listed a w → wpAnyIn (F.inRound l) n P md ops Q fuel listed a w
  | 0, _, _, _, h => h
  | fuel + 1, _, _, _, h => ⟨h.1, fun i hi => op_round l hd (wpOpIn_mono (fun a w hh => any_round l hd fuel _ a w hh) (h.2 i hi))⟩
theorem region_round {n : Nat} {P : Program} {id : Nat} {Q : Exit → Act → World → Prop} {a : Act} {w : World} {ops : List Oper} (l : Nat) (hm : P.follows .mixedOrders = true) (hB : Region.lexB .any ops.toArray = true) (hd : noDefer ops.toArray = true)
    (h : wpQuietIn Fence.wide n P ops.toArray (fun w' => ∃ n, w' = w.drewN n) (fun a' => ∀ w', (∃ n, w' = w.drewN n) → Q .normal a' w') ops a) : (Code.region id ops.toArray true).wpIn (Fence.wide.inRound l) n P Q a w := by
  simp only [Region.lexB, Bool.and_eq_true] at hB
  refine wpIn_region_any hm (any_round l hd _ _ _ _ (wpAnyIn_of_quiet (C := fun w' => ∃ n, w' = w.drewN n) (Q := fun a' => ∀ w', (∃ n, w' = w.drewN n) → Q .normal a' w') rfl (fun _ w' hw' h => h w' hw') _ _ _ _ ⟨1, rfl⟩ ?_))
  have := wpAnyQIn_lex (F := Fence.wide) (n := n) (C := fun w' => ∃ n, w' = w.drewN n) (md := .any) hB.1 ops 0 (Array.replicate ops.toArray.size false) a (by simp) (by simpa using hB.2) h
  simpa using this
theorem bears_below {α : Type} {ba bb n0 : Nat} {w : World} (h1 : n0 ≤ ba) (h2 : n0 ≤ bb) (hn : n0 ≤ w.heap.size) : Bears (fun q => q = ba ∨ q = bb) (fun (_ : List α) W => Below n0 w W) := fun _ A B hs ⟨r, hg, hr⟩ =>
  hs.grown hg (Nat.le_trans hn hs.size) (fun q hq => by rcases hr q hq with e | e <;> omega)
theorem bears_boxed {α : Type} {own : Nat → Prop} {b : Nat} {ty : TypeId} (f : List α → Value) (hb : ¬ own b) : Bears own (fun s W => Boxed W b ty (f s)) := fun _ _ _ hs ⟨_, hg, hr⟩ =>
  (hg.block b hs.lt (fun e => hb (hr b e.symm))).trans hs
theorem bears_pure {α : Type} {own : Nat → Prop} (p : List α → Prop) : Bears own (fun s _ => p s) := fun _ _ _ hs _ => hs
theorem boxed_new {W : World} {n : Nat} {t : TypeId} {v : Value} (h : n = W.heap.size) : Boxed (W.alloc (.cells #[v] t)) n t v := by subst h; exact Boxed.new W t v
theorem Boxed.on {w w' : World} {b n : Nat} {ty : TypeId} {v : Value} (h : Boxed w b ty v) (hb : Below n w w') (hn : b < n) : Boxed w' b ty v := (hb.block b hn).trans h
/-- Two boxes are written. -/
theorem set_two {w W W' : World} {B b4 b5 nq : Nat} {t4 t5 : TypeId} {u u' v v' : Value} (hne : b4 ≠ b5) (h4 : w.heap.size ≤ b4) (h5 : w.heap.size ≤ b5) (hd : Boxed W b4 t4 u ∧ Boxed W b5 t5 u') (hb : Below w.heap.size w W) (e : W' = ((W.drewN nq).setCell ⟨b4, 0, none⟩ v).setCell ⟨b5, 0, none⟩ v') :
    KeepsFrom B W W' ∧ (Boxed W' b4 t4 v ∧ Boxed W' b5 t5 v') ∧ Below w.heap.size w W' := by
  subst e
  obtain ⟨d4, d5⟩ := hd
  have d4 : Boxed (W.drewN nq) b4 t4 u := d4
  have d5 : Boxed (W.drewN nq) b5 t5 u' := d5
  have k : KeepsOthers W (W.drewN nq) := KeepsOthers.of_grownBy (grown_of_below none (below_drewN (Below.refl _ W))) (fun j o ej _ => by cases ej)
  exact ⟨((k.trans (KeepsOthers.setCell _ _ _)).trans (KeepsOthers.setCell _ _ _)).from _, ⟨(d4.set v).other hne _, (d5.other (fun e => hne e.symm) _).set v'⟩, ((below_drewN hb).setCell (p := ⟨b4, 0, none⟩) h4 _).setCell (p := ⟨b5, 0, none⟩) h5 _⟩
/-- A row of two vectors that was just laid. -/
theorem vecs_two {w : World} {va vb : Value} {a b : List St} {t : TypeId} {n : Nat} (hn : n = w.heap.size) (ha : VecV w va a) (hb : VecV w vb b) : VecsV (w.alloc (.cells #[va, vb] t)) (.slice (some ⟨n, 0, none⟩) 2 2) [a, b] := by
  subst hn
  refine ⟨some ⟨w.heap.size, 0, none⟩, 2, rfl, Nat.le_refl _, fun q => (by cases q), Or.inr ⟨w.heap.size, 0, rfl, by simp, fun j l hj => ?_⟩⟩
  rcases j with _ | _ | j
  · have : a = l := by simpa using hj
    subst this
    exact ⟨va, cell_news 0, ha.below (below_al _ _)⟩
  · have : b = l := by simpa using hj
    subst this
    exact ⟨vb, cell_news 1, hb.below (below_al _ _)⟩
  · simp at hj
end Go.Proofs.YtibbbjikehkbmabDoor.Ve
