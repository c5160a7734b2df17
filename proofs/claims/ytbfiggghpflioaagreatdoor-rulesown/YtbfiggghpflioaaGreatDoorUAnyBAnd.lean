/-
  The document's Order: its row so far.
  The law RulesAny: a table's order hangs on no order of its rules.
-/
import Derived.Laws.AppendOwnNone
import Derived.Shelf.RegionOpenPlain
import Derived.Test.YtbfiggghpflioaaGreatDoorUStWAnd
import Derived.Test.YtbfiggghpflioaaGreatDoorUPrintAnd
namespace Go.Proofs.YtbfiggghpflioaaGreatDoor
open Go.RowKit

/-- The cells of rules. -/
def flatV (rs : List (Raw × Value)) : List Value := rs.flatMap fun q => [.int .i64 q.1.prio, .string (tx q.1.mat), .int .i64 q.1.kind, q.2]
theorem flatV_len (rs : List (Raw × Value)) : (flatV rs).length = rs.length * 4 := by
  induction rs with
  | nil => rfl
  | cons q r ih =>
    show (_ :: _ :: _ :: _ :: flatV r).length = _
    simp only [List.length_cons, ih]; omega
theorem flatV_get {rs : List (Raw × Value)} : ∀ {i : Nat} {q : Raw × Value}, rs[i]? = some q → (flatV rs)[i * 4]? = some (.int .i64 q.1.prio) ∧ (flatV rs)[i * 4 + 1]? = some (.string (tx q.1.mat)) ∧ (flatV rs)[i * 4 + 2]? = some (.int .i64 q.1.kind) ∧ (flatV rs)[i * 4 + 3]? = some q.2 := by
  induction rs with
  | nil => intro i q h; simp at h
  | cons a r ih =>
    intro i q h
    have e : flatV (a :: r) = .int .i64 a.1.prio :: .string (tx a.1.mat) :: .int .i64 a.1.kind :: a.2 :: flatV r := rfl
    rw [e]
    cases i with
    | zero =>
      have : a = q := by simpa using h
      subst this
      exact ⟨rfl, rfl, rfl, rfl⟩
    | succ i =>
      obtain ⟨h0, h1, h2, h3⟩ := ih (by simpa using h)
      rw [show (i + 1) * 4 = i * 4 + 1 + 1 + 1 + 1 by omega]
      exact ⟨by simpa using h0, by simpa using h1, by simpa using h2, by simpa using h3⟩
theorem flatV_one {rs : List (Raw × Value)} (h : ∀ q ∈ rs, ∃ ao n c, q.2 = .slice ao n c) : ∀ u ∈ flatV rs, u.oneCell' = true := by
  intro u hu
  obtain ⟨q, hq, hu⟩ := List.mem_flatMap.1 hu
  obtain ⟨ao, n, c, e⟩ := h q hq
  simp only [List.mem_cons, List.not_mem_nil, or_false] at hu
  rcases hu with rfl | rfl | rfl | rfl
  · rfl
  · rfl
  · rfl
  · rw [e]; rfl
theorem flatV_append (a b : List (Raw × Value)) : flatV (a ++ b) = flatV a ++ flatV b := by simp [flatV]
/-- A row of rules that was built is one to be read. -/
theorem own_view {w : World} {B : Nat} {v : Value} {rs : List (Raw × Value)} (h : w.ownsRow B 28 4 v rs.length (flatV rs)) (hne : rs ≠ []) : ∃ g cap, v = .slice (some ⟨g, 0, none⟩) rs.length cap ∧ g < w.heap.size ∧ B ≤ g ∧ ∀ (j : Nat) (u : Value), (flatV rs)[j]? = some u → w.cell? ⟨g, j, none⟩ = some u := by
  rcases h.2 with ⟨_, h0⟩ | ⟨g, cap, cur, e, hB, hh, hn, _, _, ht⟩
  · exact absurd (List.length_eq_zero_iff.1 h0) hne
  · refine ⟨g, cap, e, lt_of_block hh, hB, fun j u hj => ?_⟩
    rw [cell_at hh, ← Array.getElem?_toList]
    have hjl := (List.getElem?_eq_some_iff.1 hj).1
    rw [← ht, List.getElem?_take] at hj
    split at hj
    · exact hj
    · cases hj
theorem own_raw {w : World} {g : Nat} {rs : List (Raw × Value)} (hg : g < w.heap.size) (h : ∀ (j : Nat) (u : Value), (flatV rs)[j]? = some u → w.cell? ⟨g, j, none⟩ = some u) (hp : ∀ q ∈ rs, Txs w q.2 q.1.ports ∧ ∀ p ∈ q.1.ports, p.length ≤ maxLen) : RawView w g 0 rs :=
  ⟨hg, fun i q hq => by
    obtain ⟨h0, h1, h2, h3⟩ := flatV_get hq
    rw [Nat.zero_add]
    exact ⟨h _ _ h0, h _ _ h1, h _ _ h2, h _ _ h3⟩, hp⟩

theorem wpList_append_srcR {P : Program} (w : World) {ops : Array Oper} {rest : List Oper} {o : Oper} {a : Act} {Q : Exit → Act → World → Prop} (hgd : o.guard = none) (s x : Operand) (t : TypeId)
    (ho : o.op = .call { callee := .builtin .append, args := #[s, x], argTypes := #[t, t] })
    (base : Nat) (e : TypeId) (i : TypeInfo) (z : Value) (size bytes : Nat) (ht : P.underlying t = some (.slice e)) (hi : P.info? e = some i) (hz : i.zero = some z)
    (hsize : i.size = size) (hby : i.bytes = bytes) (hzs : z.cells.size = size) (hsz : 0 < size)
    (v : Value) (n : Nat) (xs : List Value) (hs : a.eval s = v) (hown : w.ownsRow base e size v n xs)
    (vx : Value) (m : Nat) (news : List Value) (hx : a.eval x = vx) (hsrc : (vx = .slice none 0 0 ∧ m = 0 ∧ news = []) ∨ ∃ ad c, vx = .slice (some ad) m c ∧ news.length = m * size ∧ ∀ j u, news[j]? = some u → w.cell? (ad.add j) = some u) (h1 : ∀ u ∈ news, u.oneCell' = true)
    (h63 : n + m ≤ maxLen) (hbytes : (n + m) * bytes ≤ 140737488355328) (hbase : base ≤ w.heap.size)
    (h : ∀ v' w', w'.ownsRow base e size v' (n + m) (xs ++ news) → w.grownBy w' v.ownBlock → wpList P ops Q rest (a.put o.dst v') w') :
    wpList P ops Q (o :: rest) a w := by
  rcases hsrc with ⟨rfl, rfl, rfl⟩ | ⟨ad, c, rfl, hl, hc⟩
  · refine wpList_append_own_none hgd s x t ho base e i size ht hi v n xs hs hown hx ?_
    exact h v w (by simpa using hown) (grown_refl _ _)
  · refine wpList_append_own_at w hgd s x t ho base e i z size bytes ht hi hz hsize hby hzs hsz v n xs hs hown ad m c news hx hl hc h1 h63 hbytes hbase ?_
    intro v' w' h1 h2 _ _
    exact h v' w' h1 h2

/-- Where the building of the turned row stands. -/
structure BackAt (w : World) (ps : List (Raw × Value)) (j : Nat) (vb : Value) (wr : World) : Prop where
  low : Below w.heap.size w wr
  own : wr.ownsRow w.heap.size 28 4 vb j (flatV (ps.take j).reverse)
theorem BackAt.drew {w wr : World} {ps : List (Raw × Value)} {j : Nat} {vb : Value} (h : BackAt w ps j vb wr) : BackAt w ps j vb wr.drew := ⟨h.low.drew, h.own⟩
theorem take_back {ps : List (Raw × Value)} {j : Nat} {q : Raw × Value} (h : ps[j]? = some q) : (ps.take (j + 1)).reverse = q :: (ps.take j).reverse := by
  rw [List.take_add_one, h]
  simp
theorem grown_below {w a b : World} {row : Option Nat} {B : Nat} (h : Below B w a) (hg : a.grownBy b row) (hB : B ≤ a.heap.size) (hr : ∀ k, row = some k → B ≤ k) : Below B w b := h.grown hg hB hr

end Go.Proofs.YtbfiggghpflioaaGreatDoor
namespace Go.Proofs.YtbfiggghpflioaaGreatDoor
open Go.RowKit

/-- The rules at some places. -/
def rowOf (ps : List (Raw × Value)) (S : List Nat) : List (Raw × Value) := S.map fun i => ps.getD i (⟨0, [], 0, []⟩, .slice none 0 0)
theorem rowOf_len (ps : List (Raw × Value)) (S : List Nat) : (rowOf ps S).length = S.length := by simp [rowOf]
theorem rowOf_get {ps : List (Raw × Value)} {S : List Nat} {t y : Nat} {q : Raw × Value} (hy : S[t]? = some y) (hq : ps[y]? = some q) : (rowOf ps S)[t]? = some q := by
  unfold rowOf
  rw [List.getElem?_map, hy]
  simp [List.getD_eq_getElem?_getD, hq]
theorem rowOf_append (ps : List (Raw × Value)) (A B : List Nat) : rowOf ps (A ++ B) = rowOf ps A ++ rowOf ps B := by simp [rowOf]
/-- Where the document's Order stands: the rules at S are its row so far. -/
structure DocAt (w : World) (ps : List (Raw × Value)) (j : Nat) (vo : Value) (S : List Nat) (wr : World) : Prop where
  low : Below w.heap.size w wr
  own : wr.ownsRow w.heap.size 28 4 vo j (flatV (rowOf ps S))
  up : St.Up (cmpAt ps) S
  perm : S.Perm (List.range' 0 j)
theorem DocAt.len {w wr : World} {ps : List (Raw × Value)} {j : Nat} {vo : Value} {S : List Nat} (h : DocAt w ps j vo S wr) : S.length = j := by rw [h.perm.length_eq]; simp
theorem DocAt.mem {w wr : World} {ps : List (Raw × Value)} {j : Nat} {vo : Value} {S : List Nat} (h : DocAt w ps j vo S wr) {x : Nat} (hx : x ∈ S) : x < j := by
  have := h.perm.mem_iff.1 hx
  rw [List.mem_range'_1] at this
  omega
theorem own_kept {w w' : World} {B : Nat} {v : Value} {n : Nat} {xs : List Value} (h : w.ownsRow B 28 4 v n xs) (hb : Below w.heap.size w w') : w'.ownsRow B 28 4 v n xs := by
  obtain ⟨h1, h2⟩ := h
  refine ⟨h1, ?_⟩
  rcases h2 with h2 | ⟨g, cap, cur, e, hB, hh, r⟩
  · exact Or.inl h2
  · exact Or.inr ⟨g, cap, cur, e, hB, below_block hb hh (lt_of_block hh), r⟩
/-- A row's cells, for reading: none, or from an address on. -/
theorem own_cells {w : World} {B : Nat} {bo : Option Addr} {n c : Nat} {xs : List Value} (h : w.ownsRow B 28 4 (.slice bo n c) n xs) : (bo = none ∧ n = 0 ∧ c = 0) ∨ ∃ g, bo = some ⟨g, 0, none⟩ ∧ B ≤ g ∧ n ≤ c ∧ g < w.heap.size ∧ ∀ (j : Nat) (u : Value), xs[j]? = some u → w.cell? ⟨g, j, none⟩ = some u := by
  rcases h.2 with ⟨e, h0⟩ | ⟨g, cap, cur, e, hB, hh, hn, _, _, ht⟩
  · injection e with e1 e2 e3
    exact Or.inl ⟨e1, e2, e3⟩
  · injection e with e1 e2 e3
    refine Or.inr ⟨g, e1, hB, by omega, lt_of_block hh, fun j u hj => ?_⟩
    rw [cell_at hh, ← Array.getElem?_toList]
    rw [← ht, List.getElem?_take] at hj
    split at hj
    · exact hj
    · cases hj
end Go.Proofs.YtbfiggghpflioaaGreatDoor
