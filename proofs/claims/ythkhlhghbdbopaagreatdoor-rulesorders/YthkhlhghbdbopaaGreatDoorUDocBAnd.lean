/-
  The document's action of a line.
  The document's put: a text among others, rising, once.
  The document's reader of a line: Word, Fail, Must.
-/
import Derived.Test.YthkhlhghbdbopaaGreatDoorURdsAAnd
namespace Go.Proofs.YthkhlhghbdbopaaGreatDoor
open Go.RowKit
open Wo (Wd)

/-- A line in memory, with its bounds. -/
structure LineOk (w : World) (g : Nat) (l : List Wd) : Prop where
  at_ : LineAt w g l
  pos : 0 < l.length
  small : ∀ x ∈ l, x.1.length ≤ 1048576 ∧ x.2.2 ≤ 1048577
  len : l.length ≤ 1048576
/-- The word at which it stands. -/
abbrev atW (l : List Wd) (i : Nat) : Wd := Ru.nx (Ru.endW l) (l.drop i)
theorem atW_short {w : World} {g : Nat} {l : List Wd} (h : LineOk w g l) (i : Nat) : (atW l i).1.length ≤ 1048576 :=
  Short.nx ⟨Ru.endW_text l, fun x hx => (h.small x (List.mem_of_mem_drop hx)).1⟩
theorem LineOk.kept {w w' : World} {g : Nat} {l : List Wd} (h : LineOk w g l) (he : w'.heap[g]? = w.heap[g]?) (hs : w.heap.size ≤ w'.heap.size) : LineOk w' g l := ⟨h.at_.kept he hs, h.pos, h.small, h.len⟩
theorem wdrop_at {l : List Wd} {i : Nat} (h : i < l.length) : l.drop i = l[i] :: l.drop (i + 1) := List.drop_eq_getElem_cons h
theorem atW_in {l : List Wd} {i : Nat} (h : i < l.length) : atW l i = l[i] := by unfold atW; rw [wdrop_at h]; rfl
theorem atW_out {l : List Wd} : atW l l.length = Ru.endW l := by unfold atW; simp

theorem atW_lt {l : List Wd} {i : Nat} (hi : i ≤ l.length) (h : (atW l i).1 ≠ []) : i < l.length := by
  rcases Nat.lt_or_ge i l.length with h1 | h1
  · exact h1
  · have : i = l.length := by omega
    subst this
    rw [atW_out, Ru.endW_text] at h
    exact absurd rfl h

theorem wv_text (x : Wd) (w : World) : (Instr.field 72 (wv x) 0).run Tryz.prog w = .ok (.string (tx x.1)) w := by kernel_rfl
end Go.Proofs.YthkhlhghbdbopaaGreatDoor
namespace Go.Proofs.YthkhlhghbdbopaaGreatDoor
open Go.RowKit
open Wo (Wd)

theorem ins_not {p : List (List UInt8)} {s : List UInt8} (h : ∀ x ∈ p, ¬ s < x) : Ru.ins p s = p ++ [s] := by
  induction p with
  | nil => rfl
  | cons a t ih =>
    unfold Ru.ins
    rw [if_neg (h a List.mem_cons_self), ih (fun x hx => h x (List.mem_cons_of_mem _ hx))]
    rfl
theorem ins_first {p : List (List UInt8)} {s a : List UInt8} (h : ∀ x ∈ p, ¬ s < x) (ha : s < a) : Ru.ins (p ++ [a]) s = p ++ [s, a] := by
  induction p with
  | nil => show Ru.ins [a] s = _; unfold Ru.ins; rw [if_pos ha]; rfl
  | cons b t ih =>
    show Ru.ins (b :: (t ++ [a])) s = _
    unfold Ru.ins
    rw [if_neg (h b List.mem_cons_self), ih (fun x hx => h x (List.mem_cons_of_mem _ hx))]
    rfl
theorem ins_done {p : List (List UInt8)} {s : List UInt8} (a : List UInt8) (h : ∃ x ∈ p, s < x) : Ru.ins (p ++ [a]) s = Ru.ins p s ++ [a] := by
  induction p with
  | nil => obtain ⟨x, hx, _⟩ := h; exact absurd hx (by simp)
  | cons b t ih =>
    show Ru.ins (b :: (t ++ [a])) s = _
    unfold Ru.ins
    by_cases hb : s < b
    · rw [if_pos hb, if_pos hb]; rfl
    · rw [if_neg hb, if_neg hb]
      have : ∃ x ∈ t, s < x := by
        obtain ⟨x, hx, hlt⟩ := h
        rcases List.mem_cons.1 hx with rfl | hx
        · exact absurd hlt hb
        · exact ⟨x, hx, hlt⟩
      rw [ih this]; rfl
/-- What put has made of the first texts. -/
def putTo (p : List (List UInt8)) (s : List UInt8) (done : Bool) : List (List UInt8) := if done then Ru.ins p s else p
def doneAt (p : List (List UInt8)) (s : List UInt8) : Bool := p.any fun x => decide (s < x)
theorem done_true {p : List (List UInt8)} {s : List UInt8} (h : doneAt p s = true) : ∃ x ∈ p, s < x := by
  simpa [doneAt] using h
theorem done_false {p : List (List UInt8)} {s : List UInt8} (h : doneAt p s = false) : ∀ x ∈ p, ¬ s < x := by
  simpa [doneAt] using h
theorem done_snoc (p : List (List UInt8)) (s a : List UInt8) : doneAt (p ++ [a]) s = (doneAt p s || decide (s < a)) := by simp [doneAt]

theorem take_snocL {zs : List (List UInt8)} {k : Nat} (h : k < zs.length) : zs.take (k + 1) = zs.take k ++ [zs[k]] := List.take_succ_eq_append_getElem h
theorem putTo_len (p : List (List UInt8)) (s : List UInt8) (d : Bool) : (putTo p s d).length ≤ p.length + 1 := by
  unfold putTo
  split
  · have : ∀ q : List (List UInt8), (Ru.ins q s).length = q.length + 1 := by
      intro q
      induction q with
      | nil => rfl
      | cons b t ih =>
        unfold Ru.ins
        split
        · rfl
        · simp only [List.length_cons, ih]
    rw [this]; omega
  · omega
/-- What holds while put goes over its row. -/
structure PuInv (w : World) (zs : List (List UInt8)) (s : List UInt8) (k : Nat) (v : Value) (d : Bool) (wr : World) : Prop where
  le : k ≤ zs.length
  non : s ∉ zs.take k
  fl : d = doneAt (zs.take k) s
  own : wr.ownsRow w.heap.size 9 1 v (putTo (zs.take k) s d).length (svs (putTo (zs.take k) s d))
  below : Below w.heap.size w wr
theorem PuInv.fin {w : World} {zs : List (List UInt8)} {s : List UInt8} {v : Value} {d : Bool} {wr : World} (h : PuInv w zs s zs.length v d wr) : Ru.put zs s = putTo zs s d ++ (if d then [] else [s]) := by
  have hn := h.non
  have hf := h.fl
  rw [List.take_length] at hn hf
  unfold Ru.put
  rw [if_neg hn]
  cases d with
  | true => simp [putTo]
  | false =>
    rw [ins_not (done_false hf.symm)]
    simp [putTo]
section
variable {w : World} {zs : List (List UInt8)} {s a : List UInt8} {k : Nat} {v v' v6 : Value} {wr w5 w6 : World} {o o5 : Obj} {m : Nat} {xs : List Value}
theorem mem_snoc_not {p : List (List UInt8)} (h : s ∉ p) (hq : a ≠ s) : s ∉ p ++ [a] := by
  intro q
  rcases List.mem_append.1 q with q | q
  · exact h q
  · exact hq (List.mem_singleton.1 q).symm
theorem PuInv.onT (J : PuInv w zs s k v true wr) (hk : k < zs.length) (ht : zs.take (k + 1) = zs.take k ++ [a]) (hq : a ≠ s) (hm : m = (putTo (zs.take k) s true).length) (hx : xs = svs (putTo (zs.take k) s true))
    (ho : w5.ownsRow w.heap.size 9 1 v' (m + 1) (xs ++ [.string (tx a)])) (hg : (wr.alloc o).grownBy w5 v.ownBlock) : PuInv w zs s (k + 1) v' true w5 := by
  have e : putTo (zs.take (k + 1)) s true = putTo (zs.take k) s true ++ [a] := by
    rw [ht]; exact ins_done a (done_true J.fl.symm)
  refine ⟨hk, by rw [ht]; exact mem_snoc_not J.non hq, by rw [ht, done_snoc, ← J.fl]; rfl, ?_, (J.below.alloc J.below.size _).grown hg (by have := J.below.size; simp; omega) (fun q hq => (J.own.lt q hq).1)⟩
  rw [e, svs_snoc, List.length_append, List.length_singleton, ← hm, ← hx]; exact ho
theorem PuInv.onN (J : PuInv w zs s k v false wr) (hk : k < zs.length) (ht : zs.take (k + 1) = zs.take k ++ [a]) (hq : a ≠ s) (hs : ¬ s < a) (hm : m = (putTo (zs.take k) s false).length) (hx : xs = svs (putTo (zs.take k) s false))
    (ho : w5.ownsRow w.heap.size 9 1 v' (m + 1) (xs ++ [.string (tx a)])) (hg : (wr.alloc o).grownBy w5 v.ownBlock) : PuInv w zs s (k + 1) v' false w5 := by
  have e : putTo (zs.take (k + 1)) s false = putTo (zs.take k) s false ++ [a] := by rw [ht]; rfl
  refine ⟨hk, by rw [ht]; exact mem_snoc_not J.non hq, by rw [ht, done_snoc, ← J.fl]; simp [hs], ?_, (J.below.alloc J.below.size _).grown hg (by have := J.below.size; simp; omega) (fun q hq => (J.own.lt q hq).1)⟩
  rw [e, svs_snoc, List.length_append, List.length_singleton, ← hm, ← hx]; exact ho
theorem PuInv.onS (J : PuInv w zs s k v false wr) (hk : k < zs.length) (ht : zs.take (k + 1) = zs.take k ++ [a]) (hq : a ≠ s) (hs : s < a) (hm : m = (putTo (zs.take k) s false).length) (hx : xs = svs (putTo (zs.take k) s false))
    (ho : w5.ownsRow w.heap.size 9 1 v' (m + 1) (xs ++ [.string (tx s)])) (hg : (wr.alloc o).grownBy w5 v.ownBlock)
    (ho6 : w6.ownsRow w.heap.size 9 1 v6 (m + 1 + 1) (xs ++ [.string (tx s)] ++ [.string (tx a)])) (hg6 : (w5.alloc o5).grownBy w6 v'.ownBlock) : PuInv w zs s (k + 1) v6 true w6 := by
  have e : putTo (zs.take (k + 1)) s true = putTo (zs.take k) s false ++ [s] ++ [a] := by
    rw [ht]
    show Ru.ins (zs.take k ++ [a]) s = _
    rw [ins_first (done_false J.fl.symm) hs]
    simp [putTo]
  have b5 : Below w.heap.size w w5 := (J.below.alloc J.below.size _).grown hg (by have := J.below.size; simp; omega) (fun q hq => (J.own.lt q hq).1)
  refine ⟨hk, by rw [ht]; exact mem_snoc_not J.non hq, by rw [ht, done_snoc, ← J.fl]; simp [hs], ?_, (b5.alloc b5.size _).grown hg6 (by have := b5.size; simp; omega) (fun q hq => (ho.lt q hq).1)⟩
  rw [e, svs_snoc, svs_snoc, List.length_append, List.length_append, List.length_singleton, List.length_singleton, ← hm, ← hx]; exact ho6
end
theorem own_ports {w : World} {B : Nat} {v : Value} {zs : List (List UInt8)} (h : w.ownsRow B 9 1 v zs.length (svs zs)) : PortsV w B v zs := by
  rcases h.2 with ⟨rfl, h0⟩ | ⟨b, cap, cur, rfl, hb, hh, hn, _, _, ht⟩
  · exact Or.inl ⟨List.length_eq_zero_iff.1 h0, rfl⟩
  · refine Or.inr ⟨b, cap, rfl, hb, cur, hh, fun i z hz => ?_⟩
    have hi : i < zs.length := (List.getElem?_eq_some_iff.1 hz).1
    have : (cur.toList.take (zs.length * 1))[i]? = some (.string (tx z)) := by rw [ht]; simp [svs, hz]
    rw [List.getElem?_take, if_pos (by omega)] at this
    simpa using this

end Go.Proofs.YthkhlhghbdbopaaGreatDoor
namespace Go.Proofs.YthkhlhghbdbopaaGreatDoor
open Go.RowKit
open Wo (Wd)

theorem tail_drop (l : List Wd) (i : Nat) : (l.drop i).tail = l.drop (i + 1) := by simp
theorem grown_new {w w1 : World} {b o : Nat} {v : Value} {r : Option Nat} (h : w.grownBy w1 r) (hb : w.heap.size ≤ b) : w.grownBy (w1.setCell ⟨b, o, none⟩ v) r :=
  ⟨h.os, h.tape, h.output, by simpa using h.size, fun i hi hne => (Below.heap_setCell _ _ _ _ (by show i ≠ b; omega)).trans (h.block i hi hne)⟩
theorem act_none {l : List Wd} {i : Nat} {x : Wd} (hx : x = atW l i) (h1 : x.1 ≠ [100, 114, 111, 112]) (h2 : x.1 ≠ [100, 101, 108, 105, 118, 101, 114]) (h3 : x.1 ≠ [97, 108, 108]) (h4 : x.1 ≠ [97, 110, 121]) : Ru.act (Ru.endW l) (l.drop i) = .error (Ru.ft x 51) := by
  rw [hx] at h1 h2 h3 h4 ⊢
  exact act_51 (by unfold Ru.kindN; rw [if_neg h1, if_neg h2, if_neg h3, if_neg h4])
theorem act_one {l : List Wd} {i : Nat} {x : Wd} (hx : x = atW l i) (h1 : x.1 = [100, 114, 111, 112]) : Ru.act (Ru.endW l) (l.drop i) = .ok (1, [], l.drop (i + 1)) := by
  rw [hx] at h1
  rw [act_low (k := 1) (by unfold Ru.kindN; rw [if_pos h1]) (Or.inl rfl), tail_drop]
theorem act_two {l : List Wd} {i : Nat} {x : Wd} (hx : x = atW l i) (h1 : x.1 = [100, 101, 108, 105, 118, 101, 114]) : Ru.act (Ru.endW l) (l.drop i) = .ok (2, [], l.drop (i + 1)) := by
  rw [hx] at h1
  rw [act_low (k := 2) (by unfold Ru.kindN; rw [if_neg (by rw [h1]; decide), if_pos h1]) (Or.inr rfl), tail_drop]
theorem act_three {l : List Wd} {i : Nat} {x : Wd} (hx : x = atW l i) (h1 : x.1 = [97, 108, 108]) : Ru.kindN (Ru.nx (Ru.endW l) (l.drop i)).1 = 3 := by
  rw [hx] at h1
  unfold Ru.kindN; rw [if_neg (by rw [h1]; decide), if_neg (by rw [h1]; decide), if_pos h1]
theorem act_four {l : List Wd} {i : Nat} {x : Wd} (hx : x = atW l i) (h1 : x.1 = [97, 110, 121]) : Ru.kindN (Ru.nx (Ru.endW l) (l.drop i)).1 = 4 := by
  rw [hx] at h1
  unfold Ru.kindN; rw [if_neg (by rw [h1]; decide), if_neg (by rw [h1]; decide), if_neg (by rw [h1]; decide), if_pos h1]
theorem act_err {l : List Wd} {i k : Nat} {f : Ru.Ft} (hk : Ru.kindN (Ru.nx (Ru.endW l) (l.drop i)).1 = k) (h : k = 3 ∨ k = 4) (hp : Ru.prt (Ru.endW l) (l.drop (i + 1)) = .error f) : Ru.act (Ru.endW l) (l.drop i) = .error f := by
  rw [act_high hk h, tail_drop, hp]
theorem act_ok {l : List Wd} {i k : Nat} {ps : List (List UInt8)} {t : List Wd} (hk : Ru.kindN (Ru.nx (Ru.endW l) (l.drop i)).1 = k) (h : k = 3 ∨ k = 4) (hp : Ru.prt (Ru.endW l) (l.drop (i + 1)) = .ok (ps, t)) : Ru.act (Ru.endW l) (l.drop i) = .ok (k, ps, t) := by
  rw [act_high hk h, tail_drop, hp]
theorem nrm_le (acc : List (List UInt8)) : (Ru.nrm acc).length ≤ acc.length := by
  have key : ∀ (q p : List (List UInt8)), (q.foldl Ru.put p).length ≤ p.length + q.length := by
    intro q
    induction q with
    | nil => intro p; simp
    | cons a t ih =>
      intro p
      have h1 := ih (Ru.put p a)
      have h2 : (Ru.put p a).length ≤ p.length + 1 := by
        unfold Ru.put
        split
        · omega
        · have := putTo_len p a true
          exact this
      show (t.foldl Ru.put (Ru.put p a)).length ≤ _
      simp only [List.length_cons]
      omega
  have := key acc []
  simpa [Ru.nrm] using this
/-- Where the document's reader stands. -/
def posN (w : World) (rb : Nat) : Nat := match w.cell? ⟨rb, 1, none⟩ with
  | some (.int _ n) => n.toNat
  | _ => 0
section
variable {w wr w1 : World} {rb g : Nat} {l : List Wd} {i k ab j : Nat} {acc : List (List UInt8)} {v : Value}
end
/-- What stands beside the document's reader: the result's block, the action's, its ports. -/
structure DBes (w : World) (k ab : Nat) (v : Value) (zs : List (List UInt8)) (W : World) : Prop where
  res : W.heap[w.heap.size]? = some (aob 0 (.slice none 0 0))
  ablk : W.heap[ab]? = some (aob k v)
  ports : PortsV W 0 v zs
theorem DBes.below {w W W' : World} {k ab : Nat} {v : Value} {zs : List (List UInt8)} (h : DBes w k ab v zs W) (hb : Below W.heap.size W W') : DBes w k ab v zs W' :=
  ⟨below_block hb h.res (lt_of_block h.res), below_block hb h.ablk (lt_of_block h.ablk), h.ports.kept fun b _ q _ => hb.block b (lt_of_block q)⟩
theorem DBes.ports_set {w W : World} {k ab : Nat} {v v' : Value} {zs zs' : List (List UInt8)} (h : DBes w k ab v zs W) (hne : ab ≠ w.heap.size) (hp : PortsV W 0 v' zs') : DBes w k ab v' zs' (W.setCell ⟨ab, 1, none⟩ v') := by
  refine ⟨block_other _ h.res (fun e => hne e.symm), ?_, hp.kept fun b cs q _ => Below.heap_setCell _ _ _ _ (fun e => ?_)⟩
  · rw [block_set (o := 1) _ h.ablk]; rfl
  · have : b = ab := e
    rw [this, h.ablk] at q
    simp only [Option.some.injEq, Obj.cells.injEq] at q
    exact absurd q.2.1 (by decide)
theorem fin_more {l : List Wd} {i j : Nat} {y2 : Wd} {acc : List (List UInt8)} (hp : Ru.prt (Ru.endW l) (l.drop (i + 1)) = fin (Ru.ptsW (Ru.endW l) y2 (l.drop (j + 1 + 1)) acc)) (h : y2.1 = [44]) : Ru.prt (Ru.endW l) (l.drop (i + 1)) = fin (Ru.pts (Ru.endW l) (l.drop (j + 1 + 1)) acc) := by
  rw [hp]; unfold Ru.ptsW; rw [if_pos h]
theorem fin_51 {l : List Wd} {i j : Nat} {y2 : Wd} {acc : List (List UInt8)} (hp : Ru.prt (Ru.endW l) (l.drop (i + 1)) = fin (Ru.ptsW (Ru.endW l) y2 (l.drop (j + 1 + 1)) acc)) (h : y2.1 ≠ [44]) (h2 : y2.1 ≠ [41]) : Ru.prt (Ru.endW l) (l.drop (i + 1)) = .error (Ru.ft y2 51) := by
  rw [hp]; unfold Ru.ptsW; rw [if_neg h, if_neg h2]; rfl
theorem fin_end {l : List Wd} {i j : Nat} {y2 : Wd} {acc : List (List UInt8)} (hp : Ru.prt (Ru.endW l) (l.drop (i + 1)) = fin (Ru.ptsW (Ru.endW l) y2 (l.drop (j + 1 + 1)) acc)) (h : y2.1 ≠ [44]) (h2 : y2.1 = [41]) : Ru.prt (Ru.endW l) (l.drop (i + 1)) = if 64 < (Ru.nrm acc).length then .error (Ru.ft y2 3) else .ok (Ru.nrm acc, l.drop (j + 1 + 1)) := by
  rw [hp]; unfold Ru.ptsW; rw [if_neg h, if_pos h2]; rfl
theorem PortsV.len {w : World} {B n cap : Nat} {ao : Option Addr} {zs : List (List UInt8)} (h : PortsV w B (.slice ao n cap) zs) : n = zs.length := by
  rcases h with ⟨rfl, e⟩ | ⟨b, c, e, _⟩
  · simp only [Value.slice.injEq] at e
    rw [e.2.1]; rfl
  · simp only [Value.slice.injEq] at e
    exact e.2.1
end Go.Proofs.YthkhlhghbdbopaaGreatDoor
