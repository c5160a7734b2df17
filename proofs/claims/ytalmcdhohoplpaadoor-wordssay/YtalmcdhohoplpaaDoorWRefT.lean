/-
  The document's own reckoning of a text: Lines.
-/
import Derived.Test.YtalmcdhohoplpaaDoorWRefLn
namespace Go.Proofs.YtalmcdhohoplpaaDoor
open Go.RowKit

theorem tk_col (l : List UInt8) (c d : Nat) (h : (Wo.tk l c).2 = some d) : c ≤ d ∧ d ≤ c + l.length := by
  generalize hn : l.length = n
  induction n using Nat.strongRecOn generalizing l c with
  | ind n ih =>
    cases l with
    | nil => rw [Wo.tk_nil] at h; cases h
    | cons a t =>
      simp only [List.length_cons] at hn
      by_cases h35 : a.toNat = 35
      · rw [Wo.tk_hash _ _ _ h35] at h; cases h
      · cases hb : Wo.blk a.toNat with
        | true =>
          rw [Wo.tk_blank _ _ _ h35 hb] at h
          have := ih t.length (by omega) t (c + 1) h rfl
          omega
        | false =>
          by_cases h0 : Wo.fst (a :: t) = 0
          · rw [Wo.tk_fault _ _ _ h35 hb h0] at h
            simp only [Option.some.injEq] at h
            omega
          · rw [Wo.tk_word _ _ _ h35 hb h0] at h
            have hle := Wo.fst_le (a :: t)
            simp only [List.length_cons] at hle
            have := ih ((a :: t).drop (Wo.fst (a :: t))).length (by rw [List.length_drop, List.length_cons]; omega) _ _ h rfl
            rw [List.length_drop, List.length_cons] at this
            omega

/-- The lines from a place on. -/
def fromL (l : List UInt8) (f : Nat) : List (List UInt8) := if f ≤ l.length then Wo.lns (l.drop f) else []
def seg (l : List UInt8) (f k : Nat) : List UInt8 := (l.drop f).take (k - f)
theorem seg_len (l : List UInt8) (f k : Nat) : (seg l f k).length ≤ l.length := by unfold seg; rw [List.length_take, List.length_drop]; omega
theorem seg_zero (l : List UInt8) (f : Nat) : seg l f f = [] := by simp [seg]
theorem seg_snoc {l : List UInt8} {f k : Nat} {c : UInt8} (hf : f ≤ k) (hc : l[k]? = some c) : seg l f (k + 1) = seg l f k ++ [c] := by
  unfold seg
  have hk : k < l.length := (List.getElem?_eq_some_iff.1 hc).1
  have e : k + 1 - f = (k - f) + 1 := by omega
  have hlt : k - f < (l.drop f).length := by rw [List.length_drop]; omega
  rw [e, List.take_succ_eq_append_getElem hlt]
  congr 2
  rw [List.getElem_drop]
  have : f + (k - f) = k := by omega
  have h2 := (List.getElem?_eq_some_iff.1 hc).2
  simp only [this, h2]
theorem from_cut {l : List UInt8} {f k : Nat} {c : UInt8} (hf : f ≤ k) (hc : l[k]? = some c) (h10 : c.toNat = 10) (hs : ∀ a ∈ seg l f k, a.toNat ≠ 10) : fromL l f = seg l f k :: fromL l (k + 1) := by
  have hk : k < l.length := (List.getElem?_eq_some_iff.1 hc).1
  unfold fromL
  rw [if_pos (by omega), if_pos (by omega)]
  have e : l.drop f = seg l f k ++ c :: l.drop (k + 1) := by
    unfold seg
    have h1 : (l.drop f).drop (k - f) = c :: l.drop (k + 1) := by
      rw [List.drop_drop]
      have : f + (k - f) = k := by omega
      rw [this, List.drop_eq_getElem_cons hk, (List.getElem?_eq_some_iff.1 hc).2]
    rw [← h1, List.take_append_drop]
  rw [e]
  exact Wo.lns_cut _ _ c hs h10
theorem from_last {l : List UInt8} {f : Nat} (hf : f ≤ l.length) (hs : ∀ a ∈ seg l f l.length, a.toNat ≠ 10) : fromL l f = seg l f l.length :: fromL l (l.length + 1) := by
  unfold fromL
  rw [if_pos hf, if_neg (by omega)]
  have e : l.drop f = seg l f l.length := by unfold seg; rw [List.take_of_length_le (by rw [List.length_drop]; omega)]
  rw [e]
  exact Wo.lns_last _ hs
theorem ext_seg (l : List UInt8) {f k : Nat} : (tx l).extract f k = tx (seg l f k) := by
  rw [Lib.extract_eq]; rfl
theorem at_bytes (l : List UInt8) (s : ByteArray) (h : s.data.toList = l) {k : Nat} (hk : k < s.size) : l[k]? = some (s[k]'hk) := by
  rw [← h]
  exact List.getElem?_eq_getElem (by rw [list_size]; exact hk)

/-- What holds while a text is reckoned. -/
structure TInv (w : World) (l : List UInt8) (v : Value) (ls : List (List Wo.Wd)) (f n k : Nat) (wr : World) : Prop where
  rows : LinesAt wr w.heap.size v ls
  below : Below w.heap.size w wr
  all : Wo.rd (Wo.lns l) 1 = (ls ++ (Wo.rd (fromL l f) n).1, (Wo.rd (fromL l f) n).2)
  clean : ∀ a ∈ seg l f k, a.toNat ≠ 10
  le : f ≤ k
  num : n ≤ f + 1
  few : ls.length ≤ f
  fin : k ≤ l.length ∨ (k = l.length + 1 ∧ f = l.length + 1)
theorem TInv.start (w : World) (l : List UInt8) : TInv w l (.slice none 0 0) [] 0 1 0 w := {
  rows := LinesAt.nil _ _
  below := Below.refl _ _
  all := by simp [fromL]
  clean := by rw [seg_zero]; simp
  le := Nat.le_refl _
  num := by omega
  few := by simp
  fin := Or.inl (Nat.zero_le _) }
section
variable {w : World} {l : List UInt8} {v : Value} {ls : List (List Wo.Wd)} {f n k : Nat} {wr : World}
theorem TInv.step (h : TInv w l v ls f n k wr) {c : UInt8} (hc : l[k]? = some c) (h10 : c.toNat ≠ 10) : TInv w l v ls f n (k + 1) wr := {
  h with
  clean := by
    rw [seg_snoc h.le hc]
    intro a ha
    rcases List.mem_append.1 ha with ha | ha
    · exact h.clean a ha
    · rw [List.mem_singleton] at ha; subst ha; exact h10
  le := by have := h.le; omega
  fin := Or.inl (List.getElem?_eq_some_iff.1 hc).1 }
theorem TInv.cut (h : TInv w l v ls f n k wr) (hk : (∃ c, l[k]? = some c ∧ c.toNat = 10) ∨ k = l.length) : fromL l f = seg l f k :: fromL l (k + 1) := by
  rcases hk with ⟨c, hc, h10⟩ | rfl
  · exact from_cut h.le hc h10 h.clean
  · exact from_last h.le h.clean
theorem TInv.finK (h : TInv w l v ls f n k wr) (hk : (∃ c, l[k]? = some c ∧ c.toNat = 10) ∨ k = l.length) : k + 1 ≤ l.length ∨ (k + 1 = l.length + 1 ∧ k + 1 = l.length + 1) := by
  rcases hk with ⟨c, hc, _⟩ | rfl
  · exact Or.inl (List.getElem?_eq_some_iff.1 hc).1
  · exact Or.inr ⟨rfl, rfl⟩
theorem TInv.next0 (h : TInv w l v ls f n k wr) (hk : (∃ c, l[k]? = some c ∧ c.toNat = 10) ∨ k = l.length) (h2 : (Wo.tk (seg l f k) 1).2 = none) (h1 : (Wo.tk (seg l f k) 1).1 = []) {w1 : World} (hb : Below wr.heap.size wr w1) : TInv w l v ls (k + 1) (n + 1) (k + 1) w1 := {
  rows := h.rows.below hb
  below := h.below.trans (hb.mono h.below.size)
  all := by rw [h.all, h.cut hk, Wo.rd_none h2 h1]
  clean := by rw [seg_zero]; simp
  le := Nat.le_refl _
  num := by have := h.num; have := h.le; omega
  few := by have := h.few; have := h.le; omega
  fin := h.finK hk }
theorem TInv.next1 (h : TInv w l v ls f n k wr) (hk : (∃ c, l[k]? = some c ∧ c.toNat = 10) ∨ k = l.length) (h2 : (Wo.tk (seg l f k) 1).2 = none) (h1 : (Wo.tk (seg l f k) 1).1 ≠ []) {w1 w2 : World} (hb : Below wr.heap.size wr w1)
    {x v' : Value} (hx : w1.ownsRow w.heap.size 45 3 x (Wo.tk (seg l f k) 1).1.length (flatW (Wo.wds n (Wo.tk (seg l f k) 1).1))) {vs : List Value} (hvs : w1.ownsRow w.heap.size 43 1 v ls.length vs) (hvl : vs.length = ls.length)
    (hvi : ∀ (i : Nat) (x : List Wo.Wd), ls[i]? = some x → ∃ u, vs[i]? = some u ∧ w1.ownsRow w.heap.size 45 3 u x.length (flatW x))
    {o : Obj} (ho : w2.ownsRow w.heap.size 43 1 v' (ls.length + 1) (vs ++ [x])) (hg2 : (w1.alloc o).grownBy w2 v.ownBlock) : TInv w l v' (ls ++ [Wo.wds n (Wo.tk (seg l f k) 1).1]) (k + 1) (n + 1) (k + 1) w2 := by
  have hlr : (Wo.wds n (Wo.tk (seg l f k) 1).1).length = (Wo.tk (seg l f k) 1).1.length := by simp [Wo.wds]
  have hva := hvs.alloc o
  have hx' : (w1.alloc o).ownsRow w.heap.size 45 3 x (Wo.wds n (Wo.tk (seg l f k) 1).1).length (flatW (Wo.wds n (Wo.tk (seg l f k) 1).1)) := by rw [hlr]; exact hx.alloc o
  have hrows := LinesAt.snoc hva hvl (fun i y hy => by obtain ⟨q, hq, hq2⟩ := hvi i y hy; exact ⟨q, hq, hq2.alloc o⟩) hx' ho hg2
  have b1 : Below w.heap.size w w1 := h.below.trans (hb.mono h.below.size)
  have b2 : Below w.heap.size w (w1.alloc o) := b1.alloc b1.size _
  exact {
    rows := hrows
    below := b2.grown hg2 b2.size (fun i hi => (hva.lt i hi).1)
    all := by rw [h.all, h.cut hk, Wo.rd_some h2 h1]; simp
    clean := by rw [seg_zero]; simp
    le := Nat.le_refl _
    num := by have := h.num; have := h.le; omega
    few := by have := h.few; have := h.le; simp; omega
    fin := h.finK hk }
theorem TInv.fault (h : TInv w l v ls f n k wr) (hk : (∃ c, l[k]? = some c ∧ c.toNat = 10) ∨ k = l.length) {c : Nat} (h2 : (Wo.tk (seg l f k) 1).2 = some c) : (Wo.rd (Wo.lns l) 1).2 = some (n, c) := by
  rw [h.all, h.cut hk, Wo.rd_fault h2]
theorem TInv.done (h : TInv w l v ls f n k wr) (hk : l.length < k) : (Wo.rd (Wo.lns l) 1).2 = none ∧ (Wo.rd (Wo.lns l) 1).1 = ls := by
  have hf : f = l.length + 1 := by rcases h.fin with h' | h' <;> omega
  have e : fromL l f = [] := by unfold fromL; rw [if_neg (by omega)]
  rw [h.all, e]
  exact ⟨rfl, by simp [Wo.rd]⟩
end
end Go.Proofs.YtalmcdhohoplpaaDoor
