/-
  Rows of stamps of one's own, and what the document's put makes, place by place.
-/
import Derived.Test.YtibbbjikehkbmabDoorGDev
namespace Go.Proofs.YtibbbjikehkbmabDoor.Ve
open Go.RowKit

/-- A row of stamps of one's own. -/
def OwnS (w : World) (B : Nat) (v : Value) (l : List St) : Prop := w.ownsRow B 33 2 v l.length (flatS l)
theorem OwnS.on {w w' : World} {B : Nat} {v : Value} {l : List St} (h : OwnS w B v l) (hb : Below w.heap.size w w') : OwnS w' B v l := own_keptS h hb
theorem OwnS.vec {w : World} {B : Nat} {v : Value} {l : List St} (h : OwnS w B v l) : VecV w v l := vec_of_own h
theorem OwnS.form {w : World} {B : Nat} {v : Value} {l : List St} (h : OwnS w B v l) : ∃ a c, v = .slice a l.length c := by
  obtain ⟨a, c, e, _⟩ := h.vec
  exact ⟨a, c, e⟩
theorem OwnS.next {w W w6 : World} {B n : Nat} {o : Obj} {v v' : Value} {l : List St} {s : St} (hB : Below B w W) (hBW : B ≤ W.heap.size) (h : OwnS W B v l) (hn : n = l.length + 1) (ho : w6.ownsRow B 33 2 v' n (flatS l ++ [.int .i64 s.1, .int .u64 (s.2 : Int)])) (hg : (W.alloc o).grownBy w6 v.ownBlock) : OwnS w6 B v' (l ++ [s]) ∧ Below B w w6 ∧ ∃ a c, v' = .slice a (l.length + 1) c := by
  subst hn
  have e : flatS (l ++ [s]) = flatS l ++ [.int .i64 s.1, .int .u64 (s.2 : Int)] := flatS_append _ _
  have h6 : OwnS w6 B v' (l ++ [s]) := by
    unfold OwnS
    rw [e, List.length_append]
    exact ho
  refine ⟨h6, ?_, ?_⟩
  · exact (hB.alloc hBW _).grown hg (by simp; omega) (fun q hq => (h.lt q hq).1)
  · obtain ⟨a, c, e, _⟩ := h6.vec
    rw [List.length_append] at e
    exact ⟨a, c, e⟩

theorem OwnS.row {w : World} {B m c : Nat} {a : Option Addr} {l : List St} (h : OwnS w B (.slice a m c) l) (hm : m = l.length) : w.ownsRow B 33 2 (.slice a m c) m (flatS l) := by
  unfold OwnS at h
  rw [← hm] at h
  exact h
theorem OwnS.drewN {w : World} {B : Nat} {v : Value} {l : List St} (h : OwnS w B v l) (k : Nat) : OwnS (w.drewN k) B v l := h.on (below_drewN (Below.refl _ _))
theorem OwnS.at_ {w : World} {B m c : Nat} {a : Option Addr} {l : List St} (h : OwnS w B (.slice a m c) l) (hm : m = l.length) (k : Nat) : (w.drewN k).ownsRow B 33 2 (.slice a m c) m (flatS l) := (h.drewN k).row hm
theorem OwnS.next' {w W w6 : World} {m c : Nat} {o : Obj} {a : Option Addr} {v' : Value} {l : List St} {s : St} {k : Nat} (h : OwnS W w.heap.size (.slice a m c) l) (hB : Below w.heap.size w W) (hm : m = l.length) (ho : w6.ownsRow w.heap.size 33 2 v' (m + 1) (flatS l ++ [.int .i64 s.1, .int .u64 (s.2 : Int)])) (hg : ((W.drewN k).alloc o).grownBy w6 (Value.slice a m c).ownBlock) : OwnS w6 w.heap.size v' (l ++ [s]) ∧ Below w.heap.size w w6 ∧ ∃ a c, v' = .slice a (m + 1) c := by
  have := (h.drewN k).next (below_drewN hB) hB.size (n := m + 1) (by omega) ho hg
  rw [← hm] at this
  exact this
theorem RowIn.at_ {w : World} {g o : Nat} {l : List St} (h : RowIn w (some ⟨g, o, none⟩) l) {k : Nat} {s : St} (hs : l[k]? = some s) : w.cell? ⟨g, o + k * 2, none⟩ = some (.int .i64 s.1) ∧ w.cell? ⟨g, o + k * 2 + 1, none⟩ = some (.int .u64 (s.2 : Int)) := by
  obtain ⟨g', o', e, _, hc⟩ := h.resolve_left (fun e => by rw [e] at hs; simp at hs)
  injection e with e
  injection e with e1 e2 _
  subst e1
  subst e2
  exact hc k s hs

/-- Has something at least as great stood there? What put has made so far. -/
def dn (l : List St) (d : Int) (k : Nat) : Bool := (l.take k).any fun t => decide (d ≤ t.1)
def pk (l : List St) (s : St) (k : Nat) : List St := (l.take k).filter (fun t => decide (t.1 < s.1)) ++ (if dn l s.1 k then [s] else []) ++ (l.take k).filter (fun t => decide (s.1 < t.1))
theorem take_snocS {l : List St} {k : Nat} {x : St} (hx : l[k]? = some x) : l.take (k + 1) = l.take k ++ [x] := by
  rw [List.take_add_one, hx]; rfl
theorem dn_zero (l : List St) (d : Int) : dn l d 0 = false := by simp [dn]
theorem pk_zero (l : List St) (s : St) : pk l s 0 = [] := by simp [pk, dn]
theorem dn_succ {l : List St} {k : Nat} {x : St} (hx : l[k]? = some x) (d : Int) : dn l d (k + 1) = (dn l d k || decide (d ≤ x.1)) := by
  unfold dn; rw [take_snocS hx, List.any_append]; simp
theorem dn_true {l : List St} {k : Nat} {x : St} {d : Int} (hr : Right l) (hx : l[k]? = some x) (h : dn l d k = true) : d < x.1 := by
  unfold dn at h
  rw [List.any_eq_true] at h
  obtain ⟨t, ht, hd⟩ := h
  obtain ⟨i, hi⟩ := List.getElem?_of_mem ht
  rw [List.getElem?_take] at hi
  split at hi
  · rename_i hik
    have := right_lt hr hi hx hik
    simp at hd
    omega
  · cases hi
theorem dn_false {l : List St} {k : Nat} {d : Int} (h : dn l d k = false) : ∀ t ∈ l.take k, t.1 < d := by
  unfold dn at h
  rw [List.any_eq_false] at h
  intro t ht
  have := h t ht
  simp at this
  exact this
theorem filter_none {l : List St} {d : Int} (h : ∀ t ∈ l, t.1 < d) : l.filter (fun t => decide (d < t.1)) = [] := by
  rw [List.filter_eq_nil_iff]
  intro t ht
  have := h t ht
  simp
  omega
theorem pk_a {l : List St} {k : Nat} {x s : St} (hx : l[k]? = some x) (h : dn l s.1 k = false) (hs : x.1 < s.1) : pk l s (k + 1) = pk l s k ++ [x] ∧ dn l s.1 (k + 1) = false := by
  have hd : dn l s.1 (k + 1) = false := by rw [dn_succ hx, h]; simp; omega
  refine ⟨?_, hd⟩
  unfold pk
  rw [hd, h, take_snocS hx, List.filter_append, List.filter_append, filter_none (dn_false h)]
  have h1 : decide (x.1 < s.1) = true := decide_eq_true hs
  have h2 : decide (s.1 < x.1) = false := decide_eq_false (by omega)
  simp [h1, h2]
theorem pk_b {l : List St} {k : Nat} {x s : St} (hx : l[k]? = some x) (h : dn l s.1 k = false) (hs : x.1 = s.1) : pk l s (k + 1) = pk l s k ++ [s] ∧ dn l s.1 (k + 1) = true := by
  have hd : dn l s.1 (k + 1) = true := by rw [dn_succ hx, h]; simp; omega
  refine ⟨?_, hd⟩
  unfold pk
  rw [hd, h, take_snocS hx, List.filter_append, List.filter_append, filter_none (dn_false h)]
  have h1 : decide (x.1 < s.1) = false := decide_eq_false (by omega)
  have h2 : decide (s.1 < x.1) = false := decide_eq_false (by omega)
  simp [h1, h2]
theorem pk_c {l : List St} {k : Nat} {x s : St} (hx : l[k]? = some x) (h : dn l s.1 k = false) (hs : s.1 < x.1) : pk l s (k + 1) = (pk l s k ++ [s]) ++ [x] ∧ dn l s.1 (k + 1) = true := by
  have hd : dn l s.1 (k + 1) = true := by rw [dn_succ hx, h]; simp; omega
  refine ⟨?_, hd⟩
  unfold pk
  rw [hd, h, take_snocS hx, List.filter_append, List.filter_append, filter_none (dn_false h)]
  have h1 : decide (x.1 < s.1) = false := decide_eq_false (by omega)
  have h2 : decide (s.1 < x.1) = true := decide_eq_true hs
  simp [h1, h2]
theorem pk_d {l : List St} {k : Nat} {x s : St} (hr : Right l) (hx : l[k]? = some x) (h : dn l s.1 k = true) : pk l s (k + 1) = pk l s k ++ [x] ∧ dn l s.1 (k + 1) = true := by
  have hs := dn_true hr hx h
  have hd : dn l s.1 (k + 1) = true := by rw [dn_succ hx, h]; rfl
  refine ⟨?_, hd⟩
  unfold pk
  rw [hd, h, take_snocS hx, List.filter_append, List.filter_append]
  have h1 : decide (x.1 < s.1) = false := decide_eq_false (by omega)
  have h2 : decide (s.1 < x.1) = true := decide_eq_true hs
  simp [h1, h2]
theorem pk_end {l : List St} {s : St} {k : Nat} (hk : k = l.length) (h : dn l s.1 k = true) : pk l s k = putV l s := by
  unfold pk putV
  rw [h, hk, List.take_length]
  simp
theorem pk_last {l : List St} {s : St} {k : Nat} (hk : k = l.length) (h : dn l s.1 k = false) : pk l s k ++ [s] = putV l s := by
  have hf := filter_none (dn_false h)
  unfold pk putV
  rw [h, hf]
  rw [hk, List.take_length] at hf ⊢
  rw [hf]
  simp
theorem pk_len {l : List St} {s : St} {k : Nat} (hr : Right l) : (pk l s k).length ≤ 513 := by
  have := right_len hr
  unfold pk
  rw [List.length_append, List.length_append]
  have h1 := List.length_filter_le (fun t : St => decide (t.1 < s.1)) (l.take k)
  have h2 := List.length_filter_le (fun t : St => decide (s.1 < t.1)) (l.take k)
  have h3 : (l.take k).length ≤ 256 := by rw [List.length_take]; omega
  split <;> simp <;> omega
/-- Where a device's version is found. -/
def fndP (v : List St) (d : Int) : Nat × Bool := match getV v d with | some n => (n, true) | none => (0, false)
theorem get_at {v : List St} {d : Int} {k : Nat} {s : St} (h : ∀ i, i < k → ∀ t, v[i]? = some t → t.1 ≠ d) (hs : v[k]? = some s) (e : s.1 = d) : fndP v d = (s.2, true) := by
  have : getV v d = some s.2 := by
    unfold getV
    have hv : v = v.take k ++ s :: v.drop (k + 1) := by
      have hk := (List.getElem?_eq_some_iff.1 hs).1
      have hs' := (List.getElem?_eq_some_iff.1 hs).2
      rw [← hs', ← List.drop_eq_getElem_cons hk, List.take_append_drop]
    rw [hv, List.find?_append, List.find?_eq_none.2 (by
      intro t ht
      obtain ⟨i, hi⟩ := List.getElem?_of_mem ht
      rw [List.getElem?_take] at hi
      split at hi
      · rename_i hik
        have := h i hik t hi
        simpa using this
      · cases hi)]
    simp [e]
  unfold fndP
  rw [this]
theorem get_no {v : List St} {d : Int} {k : Nat} (hk : k = v.length) (h : ∀ i, i < k → ∀ t, v[i]? = some t → t.1 ≠ d) : fndP v d = (0, false) := by
  have : getV v d = none := by
    unfold getV
    rw [List.find?_eq_none.2]
    · rfl
    · intro t ht
      obtain ⟨i, hi⟩ := List.getElem?_of_mem ht
      have := h i (by rw [hk]; exact (List.getElem?_eq_some_iff.1 hi).1) t hi
      simpa using this
  unfold fndP
  rw [this]
end Go.Proofs.YtibbbjikehkbmabDoor.Ve
