/-
  A table in memory.
-/
import Derived.Test.YtffngpdngjfcfaaBMath
import Derived.Test.YtffngpdngjfcfaaBKeys
import Derived.Defers
import Derived.Recover
import Derived.Deep.RegionHeld3
import Derived.Deep.RegionWith
import Derived.Deep.DrawnRows
import Derived.Deep.AppendLies
import Derived.Deep.QuietTactic
import Derived.BigQuiet
import Derived.Maps.OwnSet
namespace Go.Proofs.Ytffngpdngjfcfaa
open Go.RowKit Go.Maps
open Bd (Nd)

theorem keep {p : Prop} (h : p) : Hid p := h
theorem two_bool (b : Bool) : b = false ∨ b = true := by cases b <;> simp
theorem block_lt {w : World} {b : Nat} {o : Obj} (h : w.heap[b]? = some o) : b < w.heap.size := (Array.getElem?_eq_some_iff.1 h).1
theorem not_frozen {w : World} {b o : Nat} {cs : Array Value} {t : TypeId} (h : w.heap[b]? = some (.cells cs t (0, 0))) : w.frozen? ⟨b, o, none⟩ = false := by
  simp [World.frozen?, h]
theorem set_block {w : World} {b o : Nat} {cs : Array Value} {t : TypeId} (u : Value) (h : w.heap[b]? = some (.cells cs t (0, 0))) :
    (w.setCell ⟨b, o, none⟩ u).heap[b]? = some (.cells (cs.setIfInBounds o u) t (0, 0)) := by
  have hlt := lt_of_block h
  have h' : w.heap[b] = .cells cs t (0, 0) := by simpa [Array.getElem?_eq_getElem hlt] using h
  show (w.heap.modify b _)[b]? = _
  rw [Array.getElem?_eq_getElem (by simpa using hlt), Array.getElem_modify_self, h']
  rfl
theorem cell_at {w : World} {b o : Nat} {cs : Array Value} {t : TypeId} {r : Nat × Nat} (h : w.heap[b]? = some (.cells cs t r)) : w.cell? ⟨b, o, none⟩ = cs[o]? := by
  simp [World.cell?, h]

/-- The cells of nodes one behind the other. -/
def flat (L : List Nd) : List Value := L.flatMap fun x => [i6 x.1, i6 x.2.1, i6 x.2.2]
def nums (l : List Nat) : List Value := l.map i6
def ndV (x : Nd) : Value := .agg #[i6 x.1, i6 x.2.1, i6 x.2.2]
theorem flat_snoc (L : List Nd) (x : Nd) : flat (L ++ [x]) = flat L ++ [i6 x.1, i6 x.2.1, i6 x.2.2] := by simp [flat]
theorem flat_length (L : List Nd) : (flat L).length = L.length * 3 := by
  induction L with
  | nil => rfl
  | cons x l ih => simp [flat] at ih ⊢; omega
theorem nums_length (l : List Nat) : (nums l).length = l.length := by simp [nums]
theorem flat_at {L : List Nd} {i : Nat} {x : Nd} (h : L[i]? = some x) : (flat L)[i * 3]? = some (i6 x.1) ∧ (flat L)[i * 3 + 1]? = some (i6 x.2.1) ∧ (flat L)[i * 3 + 2]? = some (i6 x.2.2) := by
  induction L generalizing i with
  | nil => simp at h
  | cons y l ih =>
    cases i with
    | zero =>
      simp at h
      subst h
      simp [flat]
    | succ i =>
      have := ih (i := i) (by simpa using h)
      have e : ∀ j, (flat (y :: l))[(i + 1) * 3 + j]? = (flat l)[i * 3 + j]? := by
        intro j
        have : (i + 1) * 3 + j = (i * 3 + j) + 3 := by omega
        rw [this]
        simp [flat]
      exact ⟨by rw [← Nat.add_zero ((i + 1) * 3), e]; exact this.1, by rw [e]; exact this.2.1, by rw [e]; exact this.2.2⟩
theorem i6_inj {a b : Nat} (h : i6 a = i6 b) : a = b := by
  have : (a : Int) = (b : Int) := by cases h; rfl
  omega
theorem ndV_inj {x y : Nd} (h : ndV x = ndV y) : x = y := by
  obtain ⟨a, b, c⟩ := x
  obtain ⟨a', b', c'⟩ := y
  simp [ndV] at h
  obtain ⟨h1, h2, h3⟩ := h
  simp
  omega

/-- What the map of nodes says. -/
def AtMap (L : List Nd) (f : Value → Option Int) : Prop := ∀ x : Nd, (∀ i, L[i]? = some x → f (ndV x) = some ((i + 2 : Nat) : Int)) ∧ (x ∉ L → f (ndV x) = none)
def RefMap (first : Nat) (roots : List Nat) (f : Value → Option Int) : Prop := ∀ n : Nat, (∀ i, roots[i]? = some n → f (i6 n) = some ((first + i : Nat) : Int)) ∧ (n ∉ roots → f (i6 n) = none)

theorem AtMap.snoc {L : List Nd} {f f' : Value → Option Int} (h : AtMap L f) {x : Nd} (hx : x ∉ L) (hu : Upd f (ndV x) (some ((L.length + 2 : Nat) : Int)) f') : AtMap (L ++ [x]) f' := by
  intro y
  by_cases e : y = x
  · subst e
    refine ⟨?_, fun hn => absurd (by simp) hn⟩
    intro i hi
    rcases Nat.lt_or_ge i L.length with h1 | h1
    · rw [List.getElem?_append_left h1] at hi
      exact absurd (List.mem_of_getElem? hi) hx
    · have h2 := Bd.getElem?_lt hi
      simp at h2
      have : i = L.length := by omega
      subst this
      exact hu.1
  · have hne : ndV y ≠ ndV x := fun h => e (ndV_inj h)
    rw [hu.2 _ hne]
    refine ⟨?_, fun hn => (h y).2 (fun hm => hn (by simp [hm]))⟩
    intro i hi
    rcases Nat.lt_or_ge i L.length with h1 | h1
    · rw [List.getElem?_append_left h1] at hi
      exact (h y).1 i hi
    · rw [List.getElem?_append_right h1] at hi
      have h2 := Bd.getElem?_lt hi
      have : i - L.length = 0 := by simp at h2; omega
      rw [this] at hi
      simp at hi
      exact absurd hi.symm e
theorem RefMap.snoc {first : Nat} {roots : List Nat} {f f' : Value → Option Int} (h : RefMap first roots f) {x : Nat} (hx : x ∉ roots) (hu : Upd f (i6 x) (some ((first + roots.length : Nat) : Int)) f') : RefMap first (roots ++ [x]) f' := by
  intro y
  by_cases e : y = x
  · subst e
    refine ⟨?_, fun hn => absurd (by simp) hn⟩
    intro i hi
    rcases Nat.lt_or_ge i roots.length with h1 | h1
    · rw [List.getElem?_append_left h1] at hi
      exact absurd (List.mem_of_getElem? hi) hx
    · have h2 := Bd.getElem?_lt hi
      simp at h2
      have : i = roots.length := by omega
      subst this
      exact hu.1
  · have hne : i6 y ≠ i6 x := fun h => e (i6_inj h)
    rw [hu.2 _ hne]
    refine ⟨?_, fun hn => (h y).2 (fun hm => hn (by simp [hm]))⟩
    intro i hi
    rcases Nat.lt_or_ge i roots.length with h1 | h1
    · rw [List.getElem?_append_left h1] at hi
      exact (h y).1 i hi
    · rw [List.getElem?_append_right h1] at hi
      have h2 := Bd.getElem?_lt hi
      have : i - roots.length = 0 := by simp at h2; omega
      rw [this] at hi
      simp at hi
      exact absurd hi.symm e

/-- Where a table's parts lie: the struct's block, those of the two maps, the two slices. -/
structure Lay where
  tb : Nat
  mb : Nat
  rm : Nat
  ls : Value
  rs : Value
/-- What a table holds. -/
structure St where
  L : List Nd
  roots : List Nat
  first : Nat
  bits : Nat
  limit : Nat

def Lay.own (y : Lay) (k : Nat) : Prop := k = y.tb ∨ k = y.mb ∨ k = y.rm ∨ y.ls.ownBlock = some k ∨ y.rs.ownBlock = some k

structure Tab (w : World) (y : Lay) (s : St) : Prop where
  cells : w.heap[y.tb]? = some (.cells #[i6 s.first, y.rs, .map (some y.rm), y.ls, .map (some y.mb), i6 s.bits, i6 s.limit, .pointer (some ⟨y.tb, 0, none⟩)] 51 (0, 0))
  list : w.ownsRow 0 82 3 y.ls s.L.length (flat s.L)
  roots : w.ownsRow 0 3 1 y.rs s.roots.length (nums s.roots)
  nodes : ∃ f, MapOf Try.prog 82 3 w y.mb s.L.length f ∧ AtMap s.L f
  refs : ∃ f, MapOf Try.prog 3 25 w y.rm s.roots.length f ∧ RefMap s.first s.roots f
  two : y.mb ≠ y.rm
  okay : Bd.Okay s.bits s.L
  small : s.L.length ≤ 1073741824 ∧ s.roots.length ≤ 1073741824 ∧ s.first ≤ 1099511627776 ∧ s.limit ≤ 1048576 ∧ 1 ≤ s.bits
  valid : s.roots.Nodup ∧ ∀ n, n ∈ s.roots → 2 ≤ n ∧ n < s.L.length + 2

theorem Lay.own_tb (y : Lay) : y.own y.tb := Or.inl rfl
theorem Lay.own_mb (y : Lay) : y.own y.mb := Or.inr (Or.inl rfl)
theorem Lay.own_rm (y : Lay) : y.own y.rm := Or.inr (Or.inr (Or.inl rfl))
theorem Lay.own_ls (y : Lay) {k : Nat} (h : y.ls.ownBlock = some k) : y.own k := Or.inr (Or.inr (Or.inr (Or.inl h)))
theorem Lay.own_rs (y : Lay) {k : Nat} (h : y.rs.ownBlock = some k) : y.own k := Or.inr (Or.inr (Or.inr (Or.inr h)))

theorem owned_cells {w : World} {base : Nat} {e : TypeId} {size : Nat} {v : Value} {n : Nat} {xs : List Value} (h : w.ownsRow base e size v n xs) {g : Nat} (hg : v.ownBlock = some g) : ∃ cur, w.heap[g]? = some (.cells cur e (0, 0)) := by
  rcases h.2 with ⟨rfl, _⟩ | ⟨g', cap, cur, rfl, _, hgg, _⟩
  · simp [Value.ownBlock] at hg
  · simp [Value.ownBlock] at hg
    subst hg
    exact ⟨cur, hgg⟩
theorem map_block {P : Program} {k e : TypeId} {w : World} {b sz : Nat} {f : Value → Option Int} (h : MapOf P k e w b sz f) : ∃ es c, w.heap[b]? = some (.map es c) := by
  obtain ⟨D, ⟨es, c, h, _⟩, _⟩ := h
  exact ⟨es, c, h⟩

theorem Tab.lt {w : World} {y : Lay} {s : St} (h : Tab w y s) {k : Nat} (hk : y.own k) : k < w.heap.size := by
  rcases hk with rfl | rfl | rfl | hk | hk
  · exact block_lt h.cells
  · obtain ⟨f, hf, _⟩ := h.nodes; exact hf.lt
  · obtain ⟨f, hf, _⟩ := h.refs; exact hf.lt
  · exact (h.list.lt k hk).2
  · exact (h.roots.lt k hk).2
/-- The parts are apart. -/
theorem Tab.apart {w : World} {y : Lay} {s : St} (h : Tab w y s) : y.mb ≠ y.tb ∧ y.rm ≠ y.tb ∧ y.ls.ownBlock ≠ some y.tb ∧ y.rs.ownBlock ≠ some y.tb ∧ y.ls.ownBlock ≠ some y.mb ∧ y.rs.ownBlock ≠ some y.mb ∧
    y.ls.ownBlock ≠ some y.rm ∧ y.rs.ownBlock ≠ some y.rm ∧ (∀ g, y.ls.ownBlock = some g → y.rs.ownBlock ≠ some g) := by
  obtain ⟨f, hf, _⟩ := h.nodes
  obtain ⟨es, c, hm⟩ := map_block hf
  obtain ⟨f', hf', _⟩ := h.refs
  obtain ⟨es', c', hr⟩ := map_block hf'
  refine ⟨?_, ?_, ?_, ?_, ?_, ?_, ?_, ?_, ?_⟩
  · intro e; rw [e, h.cells] at hm; cases hm
  · intro e; rw [e, h.cells] at hr; cases hr
  · intro e; obtain ⟨cur, hc⟩ := owned_cells h.list e; rw [h.cells] at hc; simp at hc
  · intro e; obtain ⟨cur, hc⟩ := owned_cells h.roots e; rw [h.cells] at hc; simp at hc
  · intro e; obtain ⟨cur, hc⟩ := owned_cells h.list e; rw [hm] at hc; cases hc
  · intro e; obtain ⟨cur, hc⟩ := owned_cells h.roots e; rw [hm] at hc; cases hc
  · intro e; obtain ⟨cur, hc⟩ := owned_cells h.list e; rw [hr] at hc; cases hc
  · intro e; obtain ⟨cur, hc⟩ := owned_cells h.roots e; rw [hr] at hc; cases hc
  · intro g e e'
    obtain ⟨cur, hc⟩ := owned_cells h.list e
    obtain ⟨cur', hc'⟩ := owned_cells h.roots e'
    rw [hc] at hc'
    simp at hc'

theorem row_same {w w' : World} {base : Nat} {e : TypeId} {size : Nat} {v : Value} {n : Nat} {xs : List Value} (h : w.ownsRow base e size v n xs) (hb : ∀ g, v.ownBlock = some g → w'.heap[g]? = w.heap[g]?) : w'.ownsRow base e size v n xs := by
  refine ⟨h.1, ?_⟩
  rcases h.2 with hn | ⟨g, cap, cur, rfl, h1, h2, rest⟩
  · exact Or.inl hn
  · exact Or.inr ⟨g, cap, cur, rfl, h1, (hb g rfl).trans h2, rest⟩

/-- A table whose blocks are as they were. -/
theorem Tab.same {w w' : World} {y : Lay} {s : St} (h : Tab w y s) (hb : ∀ k, y.own k → w'.heap[k]? = w.heap[k]?) : Tab w' y s := by
  obtain ⟨f, hf, ha⟩ := h.nodes
  obtain ⟨f', hf', ha'⟩ := h.refs
  exact { cells := (hb _ y.own_tb).trans h.cells, list := row_same h.list fun g hg => hb g (y.own_ls hg), roots := row_same h.roots fun g hg => hb g (y.own_rs hg),
          nodes := ⟨f, hf.same (hb _ y.own_mb), ha⟩, refs := ⟨f', hf'.same (hb _ y.own_rm), ha'⟩, two := h.two, okay := h.okay, small := h.small, valid := h.valid }
theorem Tab.below {w w' : World} {y : Lay} {s : St} (h : Tab w y s) (hb : Below w.heap.size w w') : Tab w' y s := h.same fun k hk => hb.block k (h.lt hk)

/-- What a call may do to a table's blocks, and to those of X; and what it leaves alone. -/
structure Moves (X : Nat → Prop) (w : World) (y : Lay) (w' : World) (y' : Lay) : Prop where
  tb : y'.tb = y.tb
  own : ∀ k, y'.own k → y.own k ∨ w.heap.size ≤ k
  os : w'.os = w.os
  tape : w'.tape = w.tape
  output : w'.output = w.output
  size : w.heap.size ≤ w'.heap.size
  block : ∀ k, k < w.heap.size → ¬ y.own k → ¬ X k → w'.heap[k]? = w.heap[k]?

def noX : Nat → Prop := fun _ => False
theorem Moves.refl (X : Nat → Prop) (w : World) (y : Lay) : Moves X w y w y := ⟨rfl, fun _ h => Or.inl h, rfl, rfl, rfl, Nat.le_refl _, fun _ _ _ _ => rfl⟩
theorem Moves.trans {X : Nat → Prop} {w w1 w2 : World} {y y1 y2 : Lay} (h : Moves X w y w1 y1) (h' : Moves X w1 y1 w2 y2) : Moves X w y w2 y2 := by
  refine ⟨h'.tb.trans h.tb, ?_, h'.os.trans h.os, h'.tape.trans h.tape, h'.output.trans h.output, Nat.le_trans h.size h'.size, ?_⟩
  · intro k hk
    rcases h'.own k hk with h1 | h1
    · exact h.own k h1
    · exact Or.inr (Nat.le_trans h.size h1)
  · intro k hk hn hx
    have h1 := h.block k hk hn hx
    refine (h'.block k (Nat.lt_of_lt_of_le hk h.size) ?_ hx).trans h1
    intro ho
    rcases h.own k ho with h2 | h2
    · exact hn h2
    · omega
theorem Moves.more {X X' : Nat → Prop} {w w' : World} {y y' : Lay} (h : Moves X w y w' y') (hx : ∀ k, X k → X' k) : Moves X' w y w' y' :=
  { h with block := fun k hk hn hn' => h.block k hk hn fun hx' => hn' (hx k hx') }
theorem moves_below {X : Nat → Prop} {w w' : World} (y : Lay) (h : Below w.heap.size w w') : Moves X w y w' y :=
  ⟨rfl, fun _ hk => Or.inl hk, h.os, h.tape, h.output, h.size, fun k hk _ _ => h.block k hk⟩
end Go.Proofs.Ytffngpdngjfcfaa
