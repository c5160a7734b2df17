/-
  Rows of lines in memory; what holds while a text is read line by line.
-/
import Derived.Test.YtalmcdhohoplpaaDoorWLine
namespace Go.Proofs.YtalmcdhohoplpaaDoor
open Go.RowKit

theorem Tryd.infoWords : (Tryd.prog.info? 43).map (fun i => (i.zero, i.size, i.bytes)) = some (some (.slice none 0 0), 1, 24) := by kernel_rfl

/-- A row that is owned lies in no block of another type. -/
theorem own_ne {w : World} {B : Nat} {e T : TypeId} {size : Nat} {v : Value} {n : Nat} {xs : List Value} {b : Nat} {cs : Array Value} {fr : Nat × Nat} (hown : w.ownsRow B e size v n xs) (hb : w.heap[b]? = some (.cells cs T fr)) (hTe : T ≠ e) : v.ownBlock ≠ some b := by
  rcases hown.2 with ⟨rfl, _⟩ | ⟨g, cap, cur, rfl, _, hg, _⟩
  · simp [Value.ownBlock]
  · intro h
    simp only [Value.ownBlock, Option.some.injEq] at h
    subst h
    rw [hg] at hb
    simp only [Option.some.injEq, Obj.cells.injEq] at hb
    exact hTe hb.2.1.symm
/-- Two rows of other elements lie apart. -/
theorem own_apart {w : World} {B B' : Nat} {e e' : TypeId} {size size' : Nat} {v v' : Value} {n n' : Nat} {xs xs' : List Value} (h : w.ownsRow B e size v n xs) (h' : w.ownsRow B' e' size' v' n' xs') (hee : e ≠ e') : v'.ownBlock = none ∨ v'.ownBlock ≠ v.ownBlock := by
  rcases h'.2 with ⟨rfl, _⟩ | ⟨g, cap, cur, rfl, _, hg, _⟩
  · left; rfl
  · right
    intro e
    exact own_ne h hg (Ne.symm hee) (e.symm.trans rfl)

/-- A row of lines: each line a row of words. -/
def LinesAt (w : World) (B : Nat) (v : Value) (ls : List (List Wo.Wd)) : Prop :=
  ∃ vs : List Value, w.ownsRow B 43 1 v ls.length vs ∧ vs.length = ls.length ∧ ∀ (i : Nat) (x : List Wo.Wd), ls[i]? = some x → ∃ u, vs[i]? = some u ∧ w.ownsRow B 45 3 u x.length (flatW x)
theorem LinesAt.nil (w : World) (B : Nat) : LinesAt w B (.slice none 0 0) [] := ⟨[], World.ownsRow_nil _ _ _ _, rfl, fun i x h => by simp at h⟩
theorem own_form {w : World} {B : Nat} {e : TypeId} {size : Nat} {v : Value} {n : Nat} {xs : List Value} (h : w.ownsRow B e size v n xs) : ∃ ao cap, v = .slice ao n cap := by
  rcases h.2 with ⟨rfl, rfl⟩ | ⟨g, cap, cur, rfl, _⟩
  · exact ⟨none, 0, rfl⟩
  · exact ⟨_, _, rfl⟩
theorem LinesAt.form {w : World} {B : Nat} {v : Value} {ls : List (List Wo.Wd)} (h : LinesAt w B v ls) : ∃ ao cap, v = .slice ao ls.length cap := by
  obtain ⟨vs, ho, _⟩ := h
  exact own_form ho
theorem words_ne : 43 ≠ 45 := by decide
theorem LinesAt.kept {w w' : World} {B : Nat} {v : Value} {ls : List (List Wo.Wd)} (h : LinesAt w B v ls) {b : Nat} {cs : Array Value} {T : TypeId} {fr : Nat × Nat} (hb : w.heap[b]? = some (.cells cs T fr)) (h1 : T ≠ 43) (h2 : T ≠ 45) (hg : w.grownBy w' (some b)) : LinesAt w' B v ls := by
  obtain ⟨vs, ho, hl, hi⟩ := h
  refine ⟨vs, ho.kept hg (Or.inr (own_ne ho hb h1)), hl, fun i x hx => ?_⟩
  obtain ⟨u, hu, hu2⟩ := hi i x hx
  exact ⟨u, hu, hu2.kept hg (Or.inr (own_ne hu2 hb h2))⟩
theorem LinesAt.below {w w' : World} {B : Nat} {v : Value} {ls : List (List Wo.Wd)} (h : LinesAt w B v ls) (hb : Below w.heap.size w w') : LinesAt w' B v ls := by
  obtain ⟨vs, ho, hl, hi⟩ := h
  have hk : ∀ {e size v n xs}, w.ownsRow B e size v n xs → w'.ownsRow B e size v n xs := fun h => h.kept (grown_of_below none hb) (by rename_i v _ _; cases v.ownBlock <;> simp)
  exact ⟨vs, hk ho, hl, fun i x hx => by obtain ⟨u, hu, hu2⟩ := hi i x hx; exact ⟨u, hu, hk hu2⟩⟩
theorem LinesAt.snoc {w w' : World} {B : Nat} {v v' : Value} {ls : List (List Wo.Wd)} {vs : List Value} (ho : w.ownsRow B 43 1 v ls.length vs) (hl : vs.length = ls.length)
    (hi : ∀ (i : Nat) (x : List Wo.Wd), ls[i]? = some x → ∃ u, vs[i]? = some u ∧ w.ownsRow B 45 3 u x.length (flatW x)) {u : Value} {x : List Wo.Wd} (hu : w.ownsRow B 45 3 u x.length (flatW x))
    (ho' : w'.ownsRow B 43 1 v' (ls.length + 1) (vs ++ [u])) (hg : w.grownBy w' v.ownBlock) : LinesAt w' B v' (ls ++ [x]) := by
  refine ⟨vs ++ [u], by rw [List.length_append, List.length_singleton]; exact ho', by simp [hl], fun i y hy => ?_⟩
  have hk : ∀ {u n xs}, w.ownsRow B 45 3 u n xs → w'.ownsRow B 45 3 u n xs := fun h => h.kept hg (own_apart ho h words_ne)
  by_cases hil : i < ls.length
  · rw [List.getElem?_append_left hil] at hy
    obtain ⟨q, hq, hq2⟩ := hi i y hy
    exact ⟨q, by rw [List.getElem?_append_left (by omega)]; exact hq, hk hq2⟩
  · have : i = ls.length := by
      have := (List.getElem?_eq_some_iff.1 hy).1
      simp at this; omega
    subst this
    simp at hy
    subst hy
    exact ⟨u, by rw [← hl]; simp, hk hu⟩

/-- What holds while a text is read: N is where the call's own blocks begin. -/
structure RInv (w : World) (s : List UInt8) (v : Value) (ls : List (List Wo.Wd)) (n : Nat) (t : List UInt8) (more : Bool) (wr : World) : Prop where
  l : wr.heap[w.heap.size]? = some (.cells #[v] 22 (0, 0))
  p : wr.heap[w.heap.size + 1]? = some (.cells #[.int .i64 0, .int .i64 0] 49 (0, 0))
  e : wr.heap[w.heap.size + 2]? = some (.cells #[.int .i64 0] 23 (0, 0))
  r : ∃ c u, Rd wr (w.heap.size + 3) n c u
  rows : LinesAt wr w.heap.size v ls
  below : Below w.heap.size w wr
  all : Wo.rd (Wo.lns s) 1 = (ls ++ (Wo.rd (if more then Wo.lns t else []) (n + 1)).1, (Wo.rd (if more then Wo.lns t else []) (n + 1)).2)
  len : n + t.length ≤ s.length + 1
  lenM : more = true → n + t.length ≤ s.length
  few : ls.length ≤ n

theorem below_grow {B r : Nat} {w w1 w2 : World} (h : Below B w w1) (g : w1.grownBy w2 (some r)) (h1 : B ≤ w1.heap.size) (h2 : B ≤ r) : Below B w w2 :=
  h.grown g h1 (fun k hk => by simp at hk; omega)
theorem block_grow {w w1 : World} {b r : Nat} {x : Obj} (h : w.heap[b]? = some x) (g : w.grownBy w1 (some r)) (hne : b ≠ r) : w1.heap[b]? = some x :=
  (g.block b (lt_of_block h) (fun e => hne (by simpa using e))).trans h

section
variable {w : World} {s : List UInt8} {v : Value} {ls : List (List Wo.Wd)} {n : Nat} {t : List UInt8} {more : Bool} {wr : World}
theorem RInv.fault (h : RInv w s v ls n t more wr) {line : List UInt8} {rest : List (List UInt8)} (hl : (if more then Wo.lns t else []) = line :: rest) {c : Nat} (hc : (Wo.tk line 1).2 = some c) : (Wo.rd (Wo.lns s) 1).2 = some (n + 1, c) := by
  rw [h.all, hl, Wo.rd_fault hc]
/-- A line without words. -/
theorem RInv.next0 (h : RInv w s v ls n t more wr) {line : List UInt8} {t' : List UInt8} {more' : Bool} (hl : (if more then Wo.lns t else []) = line :: (if more' then Wo.lns t' else [])) (h2 : (Wo.tk line 1).2 = none) (h1 : (Wo.tk line 1).1 = [])
    (hlen : n + 1 + t'.length ≤ s.length + 1) (hlenM : more' = true → n + 1 + t'.length ≤ s.length) {w1 : World} {c : Nat} {u : List UInt8} (hr : Rd w1 (w.heap.size + 3) (n + 1) c u) (hg : wr.grownBy w1 (some (w.heap.size + 3))) : RInv w s v ls (n + 1) t' more' w1 := {
  l := block_grow h.l hg (by omega)
  p := block_grow h.p hg (by omega)
  e := block_grow h.e hg (by omega)
  r := ⟨c, u, hr⟩
  rows := by obtain ⟨c0, u0, h0⟩ := h.r; exact h.rows.kept h0 (by decide) (by decide) hg
  below := below_grow h.below hg (Nat.le_of_lt (lt_of_block h.l)) (by omega)
  all := by rw [h.all, hl, Wo.rd_none h2 h1]
  len := hlen
  lenM := hlenM
  few := by have := h.few; omega }
/-- A line with words. -/
theorem RInv.next1 (h : RInv w s v ls n t more wr) {line : List UInt8} {t' : List UInt8} {more' : Bool} (hl : (if more then Wo.lns t else []) = line :: (if more' then Wo.lns t' else [])) (h2 : (Wo.tk line 1).2 = none) (h1 : (Wo.tk line 1).1 ≠ [])
    (hlen : n + 1 + t'.length ≤ s.length + 1) (hlenM : more' = true → n + 1 + t'.length ≤ s.length) {w1 w2 : World} {c : Nat} {u : List UInt8} (hr : Rd w1 (w.heap.size + 3) (n + 1) c u) (hg : wr.grownBy w1 (some (w.heap.size + 3)))
    {x v' : Value} (hx : w1.ownsRow w.heap.size 45 3 x (Wo.tk line 1).1.length (flatW (Wo.wds (n + 1) (Wo.tk line 1).1))) {vs : List Value} (hvs : w1.ownsRow w.heap.size 43 1 v ls.length vs) (hvl : vs.length = ls.length)
    (hvi : ∀ (i : Nat) (x : List Wo.Wd), ls[i]? = some x → ∃ u, vs[i]? = some u ∧ w1.ownsRow w.heap.size 45 3 u x.length (flatW x))
    {o : Obj} (ho : w2.ownsRow w.heap.size 43 1 v' (ls.length + 1) (vs ++ [x])) (hg2 : (w1.alloc o).grownBy w2 v.ownBlock) : RInv w s v' (ls ++ [Wo.wds (n + 1) (Wo.tk line 1).1]) (n + 1) t' more' (w2.setCell ⟨w.heap.size, 0, none⟩ v') := by
  have b1 := below_grow h.below hg (Nat.le_of_lt (lt_of_block h.l)) (by omega)
  have k0 := new_old w1 o (block_grow h.l hg (by omega))
  have k1 := new_old w1 o (block_grow h.p hg (by omega))
  have k2 := new_old w1 o (block_grow h.e hg (by omega))
  have k3 : (w1.alloc o).heap[w.heap.size + 3]? = _ := new_old w1 o hr
  have hva := hvs.alloc o
  have m0 := (hg2.block _ (lt_of_block k0) (fun e => own_ne hva k0 (by decide) e.symm)).trans k0
  have m1 := (hg2.block _ (lt_of_block k1) (fun e => own_ne hva k1 (by decide) e.symm)).trans k1
  have m2 := (hg2.block _ (lt_of_block k2) (fun e => own_ne hva k2 (by decide) e.symm)).trans k2
  have m3 := (hg2.block _ (lt_of_block k3) (fun e => own_ne hva k3 (by decide) e.symm)).trans k3
  have hlr : (Wo.wds (n + 1) (Wo.tk line 1).1).length = (Wo.tk line 1).1.length := by simp [Wo.wds]
  have hx' : (w1.alloc o).ownsRow w.heap.size 45 3 x (Wo.wds (n + 1) (Wo.tk line 1).1).length (flatW (Wo.wds (n + 1) (Wo.tk line 1).1)) := by rw [hlr]; exact hx.alloc o
  have hrows := LinesAt.snoc hva hvl (fun i y hy => by obtain ⟨q, hq, hq2⟩ := hvi i y hy; exact ⟨q, hq, hq2.alloc o⟩) hx' ho hg2
  exact {
    l := block_set _ m0
    p := block_other _ m1 (by omega)
    e := block_other _ m2 (by omega)
    r := ⟨c, u, block_other _ m3 (by omega)⟩
    rows := hrows.kept m0 (by decide) (by decide) (grown_cell _ _ _ _)
    below := by
      refine Below.setCell (p := ⟨w.heap.size, 0, none⟩) ?_ (Nat.le_refl w.heap.size) _
      have b2 : Below w.heap.size w (w1.alloc o) := b1.alloc b1.size _
      exact b2.grown hg2 b2.size (fun k hk => (hva.lt k hk).1)
    all := by rw [h.all, hl, Wo.rd_some h2 h1]; simp
    len := hlen
    lenM := hlenM
    few := by have := h.few; simp; omega }
end
end Go.Proofs.YtalmcdhohoplpaaDoor
