/-
  fold in general.
  shrink: behind the first nodes, what one needs is left.
  drop: the walk.
  drop: all nodes but the first ones go.
  The functions that BddCubes comes upon: ors of cubes, the ways' own, and the first ways together.
-/
import Derived.Test.YtffngpdngjfcfaaBListAnd
import Derived.Test.YtffngpdngjfcfaaBFreeAnd
import Derived.Test.YtffngpdngjfcfaaBVisAnd
import Derived.Test.YtffngpdngjfcfaaReadAnd
namespace Go.Proofs.Ytffngpdngjfcfaa
open Bd (Nd ff tt cof From)

section
variable {bits : Nat} {L : List Nd}
theorem part_from (hL : Bd.Okay bits L) : ∀ k n i, n < k → n < L.length + 2 → From (Bd.bitOf L n) (part L k n i) := by
  intro k
  induction k with
  | zero => intro n i h; omega
  | succ k ih =>
    intro n i hk hn
    rw [part_succ]
    by_cases h2 : n < 2
    · rw [if_pos h2]
      split
      · exact Bd.from_tt _
      · exact Bd.from_ff _
    · rw [if_neg h2]
      obtain ⟨hx, hb, a, b⟩ := node_half hL (by omega : 2 ≤ n) hn
      obtain ⟨f1, f2, f3, f4, f5, f6⟩ := hL.fit _ _ hx
      rw [← hb]
      split
      · exact Bd.from_mux ((ih _ _ (by omega) (by omega)).mono f5) (Bd.from_ff _)
      · exact Bd.from_mux ((Bd.from_den hL _ (by omega)).mono f5) ((ih _ _ (by omega) (by omega)).mono f6)

/-- Down a function along its way number i: the node at level k, and the number there. -/
def stp (L : List Nd) (k : Nat) (p : Nat × Nat) : Nat × Nat :=
  if Bd.bitOf L p.1 = k ∧ 2 ≤ p.1 then (if p.2 ≤ ways L p.1 (nodeOf L p.1).2.1 then ((nodeOf L p.1).2.1, p.2) else ((nodeOf L p.1).2.2, p.2 - ways L p.1 (nodeOf L p.1).2.1)) else p
def st (L : List Nd) (n i : Nat) : Nat → Nat × Nat
  | 0 => (n, i)
  | k + 1 => stp L k (st L n i k)
def partAt (L : List Nd) (p : Nat × Nat) : Bd.Fn := part L (p.1 + 1) p.1 p.2

theorem stp_ok {M : Nat} {A : Bd.Fam bits M} (hL : Bd.Okay bits L) {k : Nat} (hk : k < bits) {p : Nat × Nat} (h1 : p.1 < L.length + 2) (h2 : k ≤ Bd.bitOf L p.1) (h3 : A.F k (Bd.den L p.1)) :
    ((stp L k p).1 < L.length + 2 ∧ k + 1 ≤ Bd.bitOf L (stp L k p).1 ∧ A.F (k + 1) (Bd.den L (stp L k p).1)) ∧ ∀ b, cof (partAt L p) k b = partAt L (stp L k p) ∨ cof (partAt L p) k b = ff ∨ A.F (k + 1) (cof (partAt L p) k b) := by
  have h128 := hL.few
  by_cases hc : Bd.bitOf L p.1 = k ∧ 2 ≤ p.1
  · obtain ⟨hx, hb, a, b⟩ := node_half hL hc.2 h1
    obtain ⟨f1, f2, f3, f4, f5, f6⟩ := hL.fit _ _ hx
    obtain ⟨_, _, _, _, c0, c1⟩ := half_of hL hc.2 h1
    have c0' : Bd.den L (nodeOf L p.1).2.1 = cof (Bd.den L p.1) k false := by rw [← hc.1]; exact c0
    have c1' : Bd.den L (nodeOf L p.1).2.2 = cof (Bd.den L p.1) k true := by rw [← hc.1]; exact c1
    have hbk : (nodeOf L p.1).1 = k := hb.trans hc.1
    have g0 := A.go k _ false hk h3
    have g1 := A.go k _ true hk h3
    rw [← c0'] at g0
    rw [← c1'] at g1
    rw [hbk] at f5 f6
    have pl : ∀ j, From (k + 1) (part L p.1 (nodeOf L p.1).2.1 j) := fun j => (part_from hL _ _ j (by omega) (by omega)).mono f5
    have ph : ∀ j, From (k + 1) (part L p.1 (nodeOf L p.1).2.2 j) := fun j => (part_from hL _ _ j (by omega) (by omega)).mono f6
    have dl : From (k + 1) (Bd.den L (nodeOf L p.1).2.1) := (Bd.from_den hL _ (by omega)).mono f5
    have e : partAt L p = if p.2 ≤ ways L p.1 (nodeOf L p.1).2.1 then Bd.mux k (part L p.1 (nodeOf L p.1).2.1 p.2) ff else Bd.mux k (Bd.den L (nodeOf L p.1).2.1) (part L p.1 (nodeOf L p.1).2.2 (p.2 - ways L p.1 (nodeOf L p.1).2.1)) := by
      unfold partAt
      rw [part_succ, if_neg (by omega), hbk]
    unfold stp
    rw [if_pos hc, e]
    by_cases hw : p.2 ≤ ways L p.1 (nodeOf L p.1).2.1
    · rw [if_pos hw, if_pos hw]
      refine ⟨⟨by show (nodeOf L p.1).2.1 < _; omega, f5, g0⟩, fun x => ?_⟩
      rw [Bd.cof_mux (pl _) (Bd.from_ff _)]
      cases x
      · exact Or.inl (by show part L p.1 (nodeOf L p.1).2.1 p.2 = part L ((nodeOf L p.1).2.1 + 1) (nodeOf L p.1).2.1 p.2; exact part_fuel hL.falls _ _ _ (by omega) (by omega))
      · exact Or.inr (Or.inl rfl)
    · rw [if_neg hw, if_neg hw]
      refine ⟨⟨by show (nodeOf L p.1).2.2 < _; omega, f6, g1⟩, fun x => ?_⟩
      rw [Bd.cof_mux dl (ph _)]
      cases x
      · exact Or.inr (Or.inr g0)
      · exact Or.inl (by show part L p.1 (nodeOf L p.1).2.2 _ = part L ((nodeOf L p.1).2.2 + 1) (nodeOf L p.1).2.2 _; exact part_fuel hL.falls _ _ _ (by omega) (by omega))
  · have hge : k + 1 ≤ Bd.bitOf L p.1 := by
      rcases Nat.lt_or_ge p.1 2 with h | h
      · rw [Bd.bitOf_end L h]; omega
      · have : Bd.bitOf L p.1 ≠ k := fun e => hc ⟨e, h⟩
        omega
    unfold stp
    rw [if_neg hc]
    refine ⟨⟨h1, hge, ?_⟩, fun x => Or.inl ?_⟩
    · have := A.go k _ false hk h3
      rw [Bd.cof_from ((Bd.from_den hL _ h1).mono hge)] at this
      exact this
    · exact Bd.cof_from ((part_from hL _ _ _ (by omega) h1).mono hge) x
theorem st_ok {M : Nat} {A : Bd.Fam bits M} (hL : Bd.Okay bits L) {n : Nat} (hn : n < L.length + 2) (hA : A.F 0 (Bd.den L n)) (i : Nat) : ∀ k, k ≤ bits → (st L n i k).1 < L.length + 2 ∧ k ≤ Bd.bitOf L (st L n i k).1 ∧ A.F k (Bd.den L (st L n i k).1) := by
  intro k
  induction k with
  | zero => intro _; exact ⟨hn, Nat.zero_le _, hA⟩
  | succ k ih =>
    intro hk
    obtain ⟨h1, h2, h3⟩ := ih (by omega)
    exact (stp_ok hL (by omega) h1 h2 h3).1

def wayFam {M : Nat} (A : Bd.Fam bits M) (hff : ∀ k, A.F k ff) (hL : Bd.Okay bits L) (n : Nat) (hn : n < L.length + 2) (hA : A.F 0 (Bd.den L n)) (T : List ByteArray) (hT : ∀ t, t ∈ T → t.size = bits) (hm : T.length ≤ 200) : Bd.Fam bits (M + 512) where
  F k f := A.F k f ∨ (∃ t, t ∈ T ∧ f = suf t k) ∨ (k ≤ bits ∧ ∃ i, i ≤ 200 ∧ f = partAt L (st L n i k))
  dep k f h := by
    rcases h with h | ⟨t, _, rfl⟩ | ⟨hk, i, _, rfl⟩
    · exact A.dep k f h
    · exact suf_from t k
    · obtain ⟨h1, h2, _⟩ := st_ok (A := A) hL hn hA i k hk
      exact (part_from hL _ _ _ (by omega) h1).mono h2
  go k f b hk h := by
    rcases h with h | ⟨t, ht, rfl⟩ | ⟨_, i, hi, rfl⟩
    · exact Or.inl (A.go k f b hk h)
    · rcases suf_cof (show k < t.size by rw [hT t ht]; exact hk) b with e | e
      · exact Or.inr (Or.inl ⟨t, ht, e⟩)
      · rw [e]; exact Or.inl (hff _)
    · obtain ⟨h1, h2, h3⟩ := st_ok (A := A) hL hn hA i k (by omega)
      rcases (stp_ok hL hk h1 h2 h3).2 b with e | e | e
      · exact Or.inr (Or.inr ⟨hk, i, hi, e⟩)
      · rw [e]; exact Or.inl (hff _)
      · exact Or.inl e
  en k j := if j < M then A.en k j else if j - M < 256 then suf (T.getD (j - M) ByteArray.empty) k else partAt L (st L n (j - M - 256) k)
  all k f hk h := by
    rcases h with h | ⟨t, ht, rfl⟩ | ⟨_, i, hi, rfl⟩
    · obtain ⟨j, hj, e⟩ := A.all k f hk h
      exact ⟨j, by omega, by rw [if_pos hj]; exact e⟩
    · obtain ⟨j, hj, e⟩ := List.mem_iff_getElem.1 ht
      refine ⟨M + j, by omega, ?_⟩
      rw [if_neg (by omega), if_pos (by omega), Nat.add_sub_cancel_left, List.getD_eq_getElem?_getD, List.getElem?_eq_getElem hj, e]
      rfl
    · refine ⟨M + (256 + i), by omega, ?_⟩
      rw [if_neg (by omega), if_neg (by omega), Nat.add_sub_cancel_left, Nat.add_sub_cancel_left]

/-- Of its family: each way, and the first ways together. -/
theorem wayFam_part {M : Nat} {A : Bd.Fam bits M} {hff : ∀ k, A.F k ff} {hL : Bd.Okay bits L} {n : Nat} {hn : n < L.length + 2} {hA : A.F 0 (Bd.den L n)} {T : List ByteArray} {hT : ∀ t, t ∈ T → t.size = bits} {hm : T.length ≤ 200} {i : Nat} (hi : i ≤ 200) :
    (wayFam A hff hL n hn hA T hT hm).F 0 (part L (n + 1) n i) := Or.inr (Or.inr ⟨Nat.zero_le _, i, hi, rfl⟩)
end
end Go.Proofs.Ytffngpdngjfcfaa
namespace Go.Proofs.Ytffngpdngjfcfaa
open Go.RowKit Go.Maps
open Bd (Nd)

theorem MapOf.drop_run {P : Program} {k e t : TypeId} {w : World} {b sz : Nat} {f : Value → Option Int} (h : MapOf P k e w b sz f) (K : Keyed P k) (ht : P.underlying t = some (.map k e)) {key : Value} {kl : Lit} (hkey : keyOf P k key = some kl) (ty : TypeId) :
    ∃ w', (Builtin.delete_ #[t, k] ty #[.map (some b), key]).run P w = .ok (.tuple #[]) w' ∧ (∀ f', Upd f key none f' → MapOf P k e w' b (if (f key).isSome then sz - 1 else sz) f') ∧ w.grownBy w' (some b) := by
  obtain ⟨D, h1, h2, h3⟩ := h
  obtain ⟨w', hrun, h4, h5⟩ := h1.drop K ht hkey ty
  refine ⟨w', hrun, fun f' hf' => ?_, h5.grown⟩
  have hs : Maps.size (D.del kl) = if (f key).isSome then sz - 1 else sz := by
    have := Maps.size_del (k := kl) (h1.tidy K)
    rw [(h3 key kl hkey).1, h2] at this
    split at this
    · rename_i hh; rw [if_pos hh]; omega
    · rename_i hh; rw [if_neg hh]; omega
  refine ⟨D.del kl, ?_, hs, ?_⟩
  · have := owns_tight h4
    rw [hs] at this
    exact this
  · intro key' kl' hk'
    by_cases e1 : key' = key
    · subst e1
      have : kl' = kl := by rw [hkey] at hk'; cases hk'; rfl
      subst this
      rw [hf'.1]
      exact ⟨by rw [Maps.has_del_same]; rfl, fun c' hc' => by cases hc'⟩
    · have hne : kl' ≠ kl := fun e2 => e1 (K.inj hk' (by rw [e2]; exact hkey))
      rw [hf'.2 _ e1, Maps.has_del_other hne, Maps.atKey_del_other hne]
      exact h3 key' kl' hk'

/-- The map of a list from which k nodes behind the first ones are gone. -/
def AtGap (L : List Nd) (mark k : Nat) (f : Value → Option Int) : Prop := ∀ x : Nd, (∀ i, L[i]? = some x → (i < mark ∨ mark + k ≤ i) → f (ndV x) = some ((i + 2 : Nat) : Int)) ∧ ((x ∉ L ∨ ∃ i, L[i]? = some x ∧ mark ≤ i ∧ i < mark + k) → f (ndV x) = none)
theorem AtGap.start {L : List Nd} {f : Value → Option Int} (h : AtMap L f) (mark : Nat) : AtGap L mark 0 f := fun x => ⟨fun i hi _ => (h x).1 i hi, fun hx => by
  rcases hx with hx | ⟨i, _, h1, h2⟩
  · exact (h x).2 hx
  · omega⟩
theorem AtGap.done {L : List Nd} {f : Value → Option Int} {mark : Nat} (_hnd : L.Nodup) (h : AtGap L mark (L.length - mark) f) : AtMap (L.take mark) f := by
  intro x
  refine ⟨fun i hi => ?_, fun hx => ?_⟩
  · have hl := Bd.getElem?_lt hi
    rw [List.length_take] at hl
    rw [List.getElem?_take_of_lt (by omega)] at hi
    exact (h x).1 i hi (Or.inl (by omega))
  · refine (h x).2 ?_
    by_cases hm : x ∈ L
    · obtain ⟨i, hi, e⟩ := List.mem_iff_getElem.1 hm
      have hi' : L[i]? = some x := by rw [List.getElem?_eq_getElem hi, e]
      rcases Nat.lt_or_ge i mark with h1 | h1
      · exfalso
        apply hx
        exact List.mem_iff_getElem.2 ⟨i, by rw [List.length_take]; omega, by rw [List.getElem_take]; exact e⟩
      · exact Or.inr ⟨i, hi', h1, by omega⟩
    · exact Or.inl hm
theorem nd_inj {x z : Nd} (h : ndV x = ndV z) : x = z := by
  unfold ndV at h
  simp [i6] at h
  obtain ⟨a, b, c⟩ := h
  exact Prod.ext (by omega) (Prod.ext (by omega) (by omega))
theorem AtGap.next {L : List Nd} {f f' : Value → Option Int} {mark k : Nat} {x : Nd} (hnd : L.Nodup) (h : AtGap L mark k f) (hx : L[mark + k]? = some x) (hu : Upd f (ndV x) none f') : AtGap L mark (k + 1) f' := by
  intro z
  by_cases e : z = x
  · subst e
    refine ⟨fun i hi hc => ?_, fun _ => hu.1⟩
    have hi1 := Bd.getElem?_lt hi
    have hi2 := Bd.getElem?_lt hx
    rw [List.getElem?_eq_getElem hi1] at hi
    rw [List.getElem?_eq_getElem hi2] at hx
    have : L[i] = L[mark + k] := by rw [Option.some.inj hi, Option.some.inj hx]
    have := (List.getElem_inj (h₀ := hi1) (h₁ := hi2) hnd).1 this
    omega
  · have hne : ndV z ≠ ndV x := fun e2 => e (nd_inj e2)
    rw [hu.2 _ hne]
    refine ⟨fun i hi hc => (h z).1 i hi (by
      rcases hc with hc | hc
      · exact Or.inl hc
      · exact Or.inr (by omega)), fun hz => (h z).2 ?_⟩
    rcases hz with hz | ⟨i, hi, h1, h2⟩
    · exact Or.inl hz
    · refine Or.inr ⟨i, hi, h1, ?_⟩
      rcases Nat.lt_or_ge i (mark + k) with h3 | h3
      · exact h3
      · have : i = mark + k := by omega
        subst this
        rw [hx] at hi
        cases hi
        exact absurd rfl e

/-- What drop has left when k nodes are gone. -/
structure Gap (w wr : World) (y : Lay) (L : List Nd) (mark k : Nat) : Prop where
  nodes : ∃ f, MapOf Try.prog 82 3 wr y.mb (L.length - k) f ∧ AtGap L mark k f
  os : wr.os = w.os
  tape : wr.tape = w.tape
  output : wr.output = w.output
  size : w.heap.size ≤ wr.heap.size
  block : ∀ j, j < w.heap.size → j ≠ y.mb → wr.heap[j]? = w.heap[j]?

theorem drop_tab {w wr : World} {y : Lay} {s : St} {mark : Nat} (hT : Tab w y s) (hm : mark ≤ s.L.length) (hr : ∀ n, n ∈ s.roots → n < mark + 2) (hG : Gap w wr y s.L mark (s.L.length - mark)) (ao : Option Addr) (cap : Nat) (hls : y.ls = .slice ao s.L.length cap) :
    Tab (wr.setCell ⟨y.tb, 3, none⟩ (.slice ao mark cap)) { y with ls := .slice ao mark cap } { s with L := s.L.take mark } ∧ Moves noX w y (wr.setCell ⟨y.tb, 3, none⟩ (.slice ao mark cap)) { y with ls := .slice ao mark cap } := by
  obtain ⟨a1, a2, a3, a4, a5, a6, a7, a8, a9⟩ := hT.apart
  have hlen : (s.L.take mark).length = mark := by rw [List.length_take]; omega
  have ltb := hT.lt y.own_tb
  have hown : (Value.slice ao mark cap).ownBlock = y.ls.ownBlock := by rw [hls]; cases ao <;> rfl
  have hcells : wr.heap[y.tb]? = _ := (hG.block y.tb ltb (fun e => a1 e.symm)).trans hT.cells
  have hset := set_block (o := 3) (.slice ao mark cap) hcells
  obtain ⟨f, hf, ha⟩ := hG.nodes
  obtain ⟨fr, hfr, hrr⟩ := hT.refs
  refine ⟨{ cells := ?_, list := ?_, roots := ?_, nodes := ⟨f, ?_, ha.done hT.okay.nd⟩, refs := ⟨fr, ?_, hrr⟩, two := hT.two, okay := okay_take hT.okay mark, small := ?_, valid := ⟨hT.valid.1, fun n hn => ?_⟩ }, ?_⟩
  · rw [hset]; rfl
  · show World.ownsRow _ 0 82 3 (.slice ao mark cap) (s.L.take mark).length (flat (s.L.take mark))
    have hl := hT.list
    rw [hls] at hl
    have htr : w.ownsRow 0 82 3 (.slice ao mark cap) mark (flat (s.L.take mark)) := by
      refine ⟨by rw [flat_length, hlen], ?_⟩
      rcases hl.2 with ⟨h1, h2⟩ | ⟨g, c, cur, h1, h2, h3, h4, h5, h6, h7⟩
      · injection h1 with e1 e2 e3
        subst e1
        subst e3
        have : mark = 0 := by omega
        rw [this]
        exact Or.inl ⟨rfl, rfl⟩
      · injection h1 with e1 e2 e3
        subst e1
        subst e3
        refine Or.inr ⟨g, cap, cur, rfl, h2, h3, by omega, h5, h6, ?_⟩
        have e : flat s.L = flat (s.L.take mark) ++ flat (s.L.drop mark) := by
          unfold flat
          rw [← List.flatMap_append, List.take_append_drop]
        have e2 : cur.toList.take (mark * 3) = (cur.toList.take (s.L.length * 3)).take (mark * 3) := by rw [List.take_take, Nat.min_eq_left (by omega)]
        rw [e2, h7, e, List.take_left' (by rw [flat_length, hlen])]
    rw [hlen]
    refine row_same htr fun g hg => ?_
    rw [hown] at hg
    rw [set_other _ (show g ≠ y.tb from fun e => a3 (by rw [← e]; exact hg))]
    exact hG.block g (hT.lt (y.own_ls hg)) (fun e => a5 (by rw [← e]; exact hg))
  · refine row_same hT.roots fun g hg => ?_
    rw [set_other _ (show g ≠ y.tb from fun e => a4 (by rw [← e]; exact hg))]
    exact hG.block g (hT.lt (y.own_rs hg)) (fun e => a6 (by rw [← e]; exact hg))
  · show MapOf _ _ _ _ y.mb (s.L.take mark).length f
    rw [hlen]
    have e : s.L.length - (s.L.length - mark) = mark := by omega
    rw [e] at hf
    exact hf.same (set_other _ a1)
  · refine hfr.same ?_
    rw [set_other _ a2]
    exact hG.block y.rm hfr.lt (fun e => hT.two e.symm)
  · have := hT.small
    refine ⟨?_, this.2.1, this.2.2.1, this.2.2.2.1, this.2.2.2.2⟩
    show (s.L.take mark).length ≤ _
    omega
  · have := hT.valid.2 n hn
    exact ⟨this.1, by show n < (s.L.take mark).length + 2; rw [hlen]; exact hr n hn⟩
  · refine ⟨rfl, ?_, hG.os, hG.tape, hG.output, by simpa using hG.size, ?_⟩
    · intro k hk
      rcases hk with h | h | h | h | h
      · exact Or.inl (Or.inl h)
      · exact Or.inl (Or.inr (Or.inl h))
      · exact Or.inl (Or.inr (Or.inr (Or.inl h)))
      · exact Or.inl (y.own_ls (by rw [← hown]; exact h))
      · exact Or.inl (y.own_rs h)
    · intro k hk hn _
      rw [set_other _ (fun e => hn (Or.inl e))]
      exact hG.block k hk (fun e => hn (Or.inr (Or.inl e)))
end Go.Proofs.Ytffngpdngjfcfaa
namespace Go.Proofs.Ytffngpdngjfcfaa
open Go.RowKit Go.Maps
open Bd (Nd)

/-- delete, as one step of a region that draws. -/
theorem step_delete {P : Program} {ops : Array Oper} {o : Oper} {a : Act} {w : World} {K : Act → World → Prop} {Q : Exit → Act → World → Prop} {E : Prop}
    (hg : o.guard = none) (m x : Operand) (t k : TypeId) (hop : o.op = Op.call { callee := Callee.builtin Builtin.delete, args := #[m, x], argTypes := #[t, k] }) (b : Nat) (key : Value) (w' : World) (hm : a.eval m = .map (some b)) (hx : a.eval x = key)
    (hrun : (Builtin.delete_ #[t, k] o.type #[.map (some b), key]).run P w = .ok (.tuple #[]) w') (hK : K (a.put o.dst (.tuple #[])) w') :
    if Region.wanted o (yielded ops a.tmps) = true then Oper.wp P o a w K Q else E := by
  have hw : Region.wanted o (yielded ops a.tmps) = true := by simp [Region.wanted, hg]
  rw [if_pos hw]
  unfold Oper.wp
  simp [execOp, hop, resolve, invoke, builtin, hm, hx, hrun, Result.andThen]
  exact hK

set_option maxHeartbeats 2000000 in
theorem drop_any {w : World} {y : Lay} {s : St} (hT : Tab w y s) (mark : Nat) (hm : mark ≤ s.L.length) (hr : ∀ n, n ∈ s.roots → n < mark + 2) :
    Calls Try.prog 81 #[.pointer (some ⟨y.tb, 3, none⟩), i6 mark] w fun e w' => e = .returned (.tuple #[]) ∧ ∃ y', Tab w' y' { s with L := s.L.take mark } ∧ Moves noX w y w' y' := by
  have HT := keep hT
  have HR := keep hr
  have HM := keep hm
  obtain ⟨ao, cap, hls⟩ := hT.list_slice
  have HLS := keep hls
  have c3 := hT.cell3
  rw [hls] at c3
  have hsl := hT.small
  have G0 : Hid (Gap w w y s.L mark 0) := by
    obtain ⟨f, hf, ha⟩ := hT.nodes
    exact ⟨⟨f, by rw [Nat.sub_zero]; exact hf, AtGap.start ha mark⟩, rfl, rfl, rfl, Nat.le_refl _, fun _ _ _ => rfl⟩
  have hcap : s.L.length ≤ cap ∧ (ao = none → s.L.length = 0 ∧ cap = 0) ∧ (∀ a, ao = some a → ∃ g, a = ⟨g, 0, none⟩) := by
    have hl := hT.list
    rw [hls] at hl
    rcases hl.2 with ⟨h1, h2⟩ | ⟨g, c, cur, h1, h2, h3, h4, h5, h6, h7⟩
    · injection h1 with e1 e2 e3
      exact ⟨by omega, fun _ => ⟨h2, by omega⟩, fun a ha => by rw [e1] at ha; cases ha⟩
    · injection h1 with e1 e2 e3
      exact ⟨by omega, (fun h => by rw [e1] at h; cases h), fun a ha => ⟨g, by rw [e1] at ha; cases ha; rfl⟩⟩
  obtain ⟨hc1, hc2, hc3⟩ := hcap
  obtain ⟨n, hn⟩ : ∃ n, n = s.L.length := ⟨_, rfl⟩
  have HN := keep hn
  rw [← hn] at c3 hc1 hc2 hm hsl
  have ltb := hT.lt y.own_tb
  have hmI : (mark : Int) ≤ (n : Int) := by omega
  have hm0 : (0 : Int) ≤ (mark : Int) := by omega
  have hcI : (n : Int) ≤ (cap : Int) := by omega
  have hnI : (n : Int) ≤ 1073741824 := by omega
  clear hT hr hls hn hsl
  obtain ⟨q, hq⟩ : ∃ q, q = n - mark := ⟨_, rfl⟩
  have HQ := keep hq
  have hqI : (q : Int) ≤ 1073741824 := by omega
  have HCC := keep (And.intro hc1 (And.intro hc2 hc3))
  clear hc1 hc2 hc3
  have fin : ∀ wr, Gap w wr y s.L mark q → wr.cell? ⟨y.tb, 3, none⟩ = some (.slice ao n cap) ∧ wr.frozen? ⟨y.tb, 3, none⟩ = false ∧ Hid (∃ y', Tab (wr.setCell ⟨y.tb, 3, none⟩ (.slice ao mark cap)) y' { s with L := s.L.take mark } ∧ Moves noX w y (wr.setCell ⟨y.tb, 3, none⟩ (.slice ao mark cap)) y') := by
    intro wr hG
    have hb := hG.block y.tb ltb (fun e => HT.out.apart.1 e.symm)
    refine ⟨by rw [World.cell?_of_block hb]; exact c3, by rw [World.frozen?_of_block hb]; exact not_frozen HT.out.cells, ?_⟩
    rw [HQ.out, HN.out] at hG
    exact ⟨_, drop_tab HT.out HM.out HR.out hG ao cap HLS.out⟩
  have FIN := keep fin
  clear fin
  cases ao with
  | none =>
    obtain ⟨h1, h2⟩ := HCC.out.2.1 rfl
    have h3 : mark = 0 := by omega
    have h4 : q = 0 := by omega
    subst h1
    subst h2
    subst h3
    clear hq HQ
    subst h4
    clear hmI hm0 hcI hnI hqI hm
    obtain ⟨r3, r4, R⟩ := FIN.out w G0.out
    go_enter Try.func81, Try.ntmps81
    go_wp2
    refine wp_loop_rounds 1 ?_
    rw [rounds_succ]
    go_wp2
    go_end0
    exact ⟨rfl, R.out⟩
  | some a =>
    obtain ⟨g, rfl⟩ := HCC.out.2.2 a rfl
    go_enter Try.func81, Try.ntmps81
    go_wp2
    all_goals (
      rw [← hq]
      clear hq
      try (
        have hcm : mark = cap := by omega
        subst hcm)
      go_loopw [13] (fun i wr => ∃ k : Nat, k ≤ q ∧ i = .int .i64 k ∧ Hid (Gap w wr y s.L mark k)) (fun i _ => q - (intOf i).toNat)
      case atStart => exact ⟨0, Nat.zero_le _, rfl, G0⟩
      case round =>
        obtain ⟨k, hk, rfl, H⟩ := hrel
        by_cases hlt : k < q
        · first
          | (exfalso; have h1 := HQ.out; have h2 := HCC.out.1; omega)
          | (
              have hqn := HQ.out
              have hnn := HN.out
              obtain ⟨x, hx⟩ : ∃ x, s.L[mark + k]? = some x := ⟨s.L[mark + k]'(by omega), List.getElem?_eq_getElem _⟩
              have hlr := HT.out.list
              rw [HLS.out, ← hnn] at hlr
              have hap := HT.out.apart
              have hgo : y.ls.ownBlock = some g := by rw [HLS.out]; rfl
              have hgl := HT.out.lt (y.own_ls hgo)
              have hadd : ∀ j, (⟨g, 0, none⟩ : Addr).add j = ⟨g, j, none⟩ := by intro j; unfold Addr.add; split <;> simp_all
              obtain ⟨f0, f1, f2⟩ := flat_at hx
              have d0 := hlr.cells (g := g) rfl _ _ f0
              have d1 := hlr.cells (g := g) rfl _ _ f1
              have d2 := hlr.cells (g := g) rfl _ _ f2
              rw [hadd] at d0 d1 d2
              have hgb := H.out.block g hgl (fun e => hap.2.2.2.2.1 (by rw [← e]; exact hgo))
              rw [← World.cell?_of_block hgb] at d0 d1 d2
              rw [show (mark + k) * 3 = mark * 3 + k * 3 by omega] at d0 d1 d2
              obtain ⟨f, hf, ha⟩ := H.out.nodes
              have hok := HT.out.okay
              have hfit := hok.fit _ _ hx
              obtain ⟨kl, hkl⟩ := key_node (a := x.1) (b := x.2.1) (c := x.2.2) (by have := hok.few; omega) (by omega) (by omega)
              obtain ⟨w2, hrun, hput, hg2⟩ := MapOf.drop_run (w := (wr.alloc (.cells #[i6 x.1, i6 x.2.1, i6 x.2.2] 82)).drew) (hf.same (heap_alloc_old wr _ hf.lt)) kNode Try.underlying47 hkl 0
              have NEXT : Hid (Gap w w2 y s.L mark (k + 1)) := by
                obtain ⟨f', hf'⟩ := upd_exists f (ndV x) none
                have hfx : f (ndV x) = some ((mark + k + 2 : Nat) : Int) := (ha x).1 _ hx (Or.inr (Nat.le_refl _))
                have hm2 := hput f' hf'
                have e5 : (f (.agg #[i6 x.1, i6 x.2.1, i6 x.2.2])).isSome = true := by
                  show (f (ndV x)).isSome = true
                  rw [hfx]; rfl
                rw [e5] at hm2
                have z2 : wr.heap.size + 1 ≤ w2.heap.size := by have := hg2.size; simpa using this
                refine ⟨⟨f', ?_, ha.next hok.nd hx hf'⟩, hg2.os.trans H.out.os, hg2.tape.trans H.out.tape, hg2.output.trans H.out.output, by have := H.out.size; omega, fun j hj hne => ?_⟩
                · rw [Nat.sub_add_eq]; exact hm2
                · have := H.out.size
                  rw [hg2.block j (by show j < (wr.alloc _).heap.size; simp; omega) (by simpa using hne)]
                  show (wr.alloc _).heap[j]? = _
                  rw [heap_alloc_old wr _ (show j < wr.heap.size by omega)]
                  exact H.out.block j hj hne
              have hb4 := H.out.block y.tb ltb (fun e => hap.1 e.symm)
              have e4 : wr.cell? ⟨y.tb, 4, none⟩ = some (.map (some y.mb)) := by rw [World.cell?_of_block hb4]; exact HT.out.cell4
              have hrun' : (Builtin.delete_ #[47, 82] 0 #[.map (some y.mb), .agg #[.int .i64 x.1, .int .i64 x.2.1, .int .i64 x.2.2]]).run Try.prog (wr.alloc (.cells #[.int .i64 x.1, .int .i64 x.2.1, .int .i64 x.2.2] 82)).drew = .ok (.tuple #[]) w2 := hrun
              have ltw : y.tb < wr.heap.size := by have := H.out.size; omega
              have e4a : ∀ o, (wr.alloc o).cell? ⟨y.tb, 4, none⟩ = some (.map (some y.mb)) := fun o => by rw [World.cell?_of_block (heap_alloc_old wr o ltw)]; exact e4
              have hkI : (k : Int) < (q : Int) := by omega
              have hk0 : (0 : Int) ≤ (k : Int) := by omega
              have HLT := keep hlt
              clear hx hlr hap hgo hgl hadd f0 f1 f2 hgb hf ha hok hfit hkl hrun hput hg2 hb4 hqn hnn H
              simp only [i6] at d0 d1 d2
              have HRUN := keep hrun'
              clear hrun'
              go_wp2
              go_region_law (refine step_delete rfl (.tmp 20) (.tmp 21) 47 82 rfl y.mb _ w2 rfl rfl HRUN.out ?_)
              all_goals
                go_wp2
                go_roundw
                case rel => exact ⟨k + 1, by have := HLT.out; omega, by go_num, NEXT.out⟩
                case measure => have := HLT.out; simp [intOf]; omega)
        · have hkq : k = q := by omega
          subst hkq
          obtain ⟨r3, r4, R⟩ := FIN.out wr H.out
          clear H
          go_wp2
          go_end0
          exact ⟨rfl, R.out⟩)
end Go.Proofs.Ytffngpdngjfcfaa
namespace Go.Proofs.Ytffngpdngjfcfaa
open Go.RowKit Go.Maps
open Bd (Nd)

set_option maxHeartbeats 1000000 in
theorem name_at {w : World} {ob pb : Nat} {lv : Value} {least : Nat} {acc : List Nat} (hc : w.heap[ob]? = some (.cells #[lv, i6 least, .map (some pb)] 153 (0, 0))) (hp : ∃ f, MapOf Try.prog 3 3 w pb acc.length f ∧ RefMap least acc f) (m : Nat) (hm : m < 9223372036854775808) :
    Calls Try.prog 90 #[.pointer (some ⟨ob, 0, none⟩), i6 m] w fun e w' => e = .returned (i6 (nm acc least m)) ∧ w' = w := by
  have c2 : w.cell? ⟨ob, 2, none⟩ = some (.map (some pb)) := by rw [cell_at hc]; rfl
  obtain ⟨f, hf, hr⟩ := hp
  obtain ⟨kl, hkl⟩ := key_int (a := m) hm
  have hlook := MapOf.look hf kInt Try.underlying151 Try.underlying3 (zero_int _) hkl
  by_cases hin : m ∈ acc
  · have hfx : f (i6 m) = some ((least + acc.idxOf m : Nat) : Int) := (hr m).1 _ (idx_at hin)
    rw [hfx] at hlook
    simp only [Option.getD_some, Option.isSome_some, i6] at hlook
    have e : nm acc least m = least + acc.idxOf m := by unfold nm; rw [if_pos hin]
    rw [e]
    obtain ⟨q, hq⟩ : ∃ q, q = least + acc.idxOf m := ⟨_, rfl⟩
    rw [← hq] at hlook ⊢
    clear hc hf hr hfx hin hkl hq e
    go_enter Try.func90, Try.ntmps90
    go_wp2_with fail
    go_ret
    exact ⟨rfl, rfl⟩
  · have hfx : f (i6 m) = none := (hr m).2 hin
    rw [hfx] at hlook
    simp only [Option.getD_none, Option.isSome_none, i6] at hlook
    have e : nm acc least m = m := by unfold nm; rw [if_neg hin]
    rw [e]
    clear hc hf hr hfx hin hkl e
    go_enter Try.func90, Try.ntmps90
    go_wp2_with fail
    go_ret
    exact ⟨rfl, rfl⟩

set_option maxRecDepth 4000 in
set_option maxHeartbeats 1000000 in
theorem orderOf_any {w : World} {lv : Value} {L : List Nd} (hlist : w.ownsRow 0 82 3 lv L.length (flat L)) (hL : Falls L) (hlen : L.length ≤ 1073741824) (least n gv cap : Nat) (h2 : 2 ≤ least) (hle : least ≤ 1073741824) (hn : n < L.length + 2) (hg : gv < w.heap.size) (hc : w.cell? ⟨gv, 0, none⟩ = some (i6 n)) :
    Calls Try.prog 62 #[lv, i6 least, .slice (some ⟨gv, 0, none⟩) 1 cap] w fun e w' => e = .returned (.pointer (some ⟨w.heap.size + 1, 0, none⟩)) ∧ OrdAt w' (w.heap.size + 1) w.heap.size lv L least (vis L least (n + 1) n []) ∧ Below w.heap.size w w' := by
  have HO := keep (ord_new (least := least) hlist)
  have hmk := make_order
  have c1 : ((w.alloc (.map #[] 0)).alloc (.cells #[lv, i6 least, .map (some w.heap.size)] 153)).cell? ⟨gv, 0, none⟩ = some (i6 n) := by
    rw [World.cell?_of_block (heap_alloc_old _ _ (by simp; omega)), World.cell?_of_block (heap_alloc_old _ _ hg)]; exact hc
  obtain ⟨ao, cp, rfl⟩ : ∃ ao cp, lv = .slice ao L.length cp := by
    rcases hlist.2 with ⟨h1, h2⟩ | ⟨g, cp, cur, h1, _⟩
    · exact ⟨none, 0, by rw [h1, h2]⟩
    · exact ⟨_, _, h1⟩
  have HL := keep hL
  clear hlist hL
  go_enter Try.func62, Try.ntmps62
  go_wp2
  refine wp_loop_rounds 2 ?_
  rw [rounds_succ]
  go_wp2_with (go_at_call 89; refine (visit_any (w.heap.size + 1) w.heap.size _ L least HL.out hlen h2 hle (n + 1) n [] _ (by omega) hn HO.out (by simp) (by simp)).mono ?_; rintro e w1 ⟨rfl, hO1, hon⟩; have HO1 := keep hO1; have HON := keep hon; clear hO1 hon)
  rw [rounds_succ]
  go_wp2
  go_ret
  refine ⟨rfl, HO1.out, ?_⟩
  have b0 : Below w.heap.size w ((w.alloc (.map #[] 0)).alloc (.cells #[.slice ao L.length cp, i6 least, .map (some w.heap.size)] 153)) := ((Below.refl _ _).alloc (Nat.le_refl _) _).alloc (by simp) _
  have h := HON.out
  exact ⟨h.os.trans b0.os, h.tape.trans b0.tape, h.output.trans b0.output, Nat.le_trans b0.size h.size, fun k hk => (h.block k (Nat.lt_of_lt_of_le hk b0.size) (by omega)).trans (b0.block k hk)⟩

/-- What shrink leaves of a list. -/
structure Left (bits : Nat) (L : List Nd) (mark n : Nat) (M : List Nd) (r : Nat) : Prop where
  okay : Bd.Okay bits (L.take mark ++ M)
  lt : r < (L.take mark ++ M).length + 2
  den : Bd.den (L.take mark ++ M) r = Bd.den L n
  within : ∀ {K : Nat} (A : Bd.Fam bits K), Bd.Within A L → Bd.Within A (L.take mark ++ M)

theorem left_of {bits : Nat} {L : List Nd} (hL : Bd.Okay bits L) {mark n : Nat} (hm : mark ≤ L.length) (hn : n < L.length + 2) :
    Left bits L mark n ((vis L (mark + 2) (n + 1) n []).map (rn L (vis L (mark + 2) (n + 1) n []) (mark + 2))) (nm (vis L (mark + 2) (n + 1) n []) (mark + 2) n) := by
  have hlen : (L.take mark).length = mark := by rw [List.length_take]; omega
  have hnd := vis_nodup L (mark + 2) hL.falls (by omega) (n + 1) n [] hn (by simp)
  have hacc := vis_lt L (mark + 2) hL.falls (by omega) (n + 1) n [] hn (by simp)
  have hC := vis_closed L (mark + 2) hL.falls (by omega) (n + 1) n [] (by omega) hn (fun j m h => by simp at h)
  have hhas := vis_has L (mark + 2) (n + 1) n [] (by omega)
  generalize vis L (mark + 2) (n + 1) n [] = acc at hnd hacc hC hhas ⊢
  have S := shrunk_all hL hm hnd hacc hC acc.length (Nat.le_refl _)
  have et : (acc.map (rn L acc (mark + 2))).take acc.length = acc.map (rn L acc (mark + 2)) := List.take_of_length_le (by rw [List.length_map]; exact Nat.le_refl _)
  have sok := S.okay
  have sden := S.den
  rw [et] at sok sden
  have hold : ∀ m, m < mark + 2 → Bd.den (L.take mark ++ acc.map (rn L acc (mark + 2))) m = Bd.den L m := by
    intro m h
    rw [Bd.den_append_old _ _ (by omega)]
    exact den_take L mark (by omega)
  have hlen2 : (L.take mark ++ acc.map (rn L acc (mark + 2))).length = mark + acc.length := by rw [List.length_append, hlen, List.length_map]
  refine ⟨sok, ?_, ?_, fun A hW i x hx => ?_⟩
  · unfold nm
    by_cases hin : n ∈ acc
    · rw [if_pos hin, hlen2]
      have := List.idxOf_lt_length_of_mem hin
      omega
    · rw [if_neg hin, hlen2]
      rcases hhas with h | h
      · omega
      · exact absurd h hin
  · unfold nm
    by_cases hin : n ∈ acc
    · rw [if_pos hin]
      exact sden _ n (List.idxOf_lt_length_of_mem hin) (idx_at hin)
    · rw [if_neg hin]
      rcases hhas with h | h
      · exact hold n h
      · exact absurd h hin
  · rcases Nat.lt_or_ge i mark with h | h
    · rw [hold _ (by omega)]
      rw [List.getElem?_append_left (by omega), List.getElem?_take_of_lt h] at hx
      exact hW i x hx
    · have hi := Bd.getElem?_lt hx
      rw [hlen2] at hi
      obtain ⟨m, hmj⟩ : ∃ m, acc[i - mark]? = some m := ⟨acc[i - mark]'(by omega), List.getElem?_eq_getElem _⟩
      rw [List.getElem?_append_right (by omega), hlen, List.getElem?_map, hmj] at hx
      have hxe : rn L acc (mark + 2) m = x := by simpa using hx
      have d := sden (i - mark) m (by omega) hmj
      rw [show mark + 2 + (i - mark) = i + 2 by omega] at d
      rw [d, ← hxe]
      obtain ⟨b1, b2⟩ := hacc m (List.mem_of_getElem? hmj)
      have hF := (hL.falls.at (n := m) (by omega) b2).2.2
      have := hW _ _ hF
      rw [show m - 2 + 2 = m by omega] at this
      exact this

set_option maxRecDepth 4000 in
set_option maxHeartbeats 2000000 in
theorem shrink_any {w : World} {y : Lay} {s : St} (hT : Tab w y s) (mark n : Nat) (hm : mark ≤ s.L.length) (hlen : s.L.length ≤ 268435456) (hr : ∀ m, m ∈ s.roots → m < mark + 2) (hn : n < s.L.length + 2) :
    Calls Try.prog 83 #[.pointer (some ⟨y.tb, 3, none⟩), i6 mark, i6 n] w fun e w' => ∃ r N, e = .returned (i6 r) ∧ Left s.bits s.L mark n N r ∧ ∃ y', Tab w' y' { s with L := s.L.take mark ++ N } ∧ Moves noX w y w' y' := by
  have HLEFT := keep (left_of hT.okay hm hn)
  have hnd := vis_nodup s.L (mark + 2) hT.okay.falls (by omega) (n + 1) n [] hn (by simp)
  have hacc := vis_lt s.L (mark + 2) hT.okay.falls (by omega) (n + 1) n [] hn (by simp)
  have hal : (vis s.L (mark + 2) (n + 1) n []).length ≤ s.L.length + 2 := by
    have := List.Nodup.length_le_of_subset (l₂ := List.range (s.L.length + 2)) hnd (fun m hm => List.mem_range.2 (hacc m hm).2)
    simpa using this
  have HT := keep hT
  obtain ⟨ao, cap, hls⟩ := hT.list_slice
  have c3 := hT.cell3
  rw [hls] at c3
  have b1 : Below w.heap.size w (w.alloc (.cells #[i6 n] 3)) := (Below.refl _ _).alloc (Nat.le_refl _) _
  have e1 : (w.alloc (.cells #[i6 n] 3)).heap.size = w.heap.size + 1 := by simp
  -- the four calls behind one another
  have Q1 : Hid (Calls Try.prog 62 #[.slice ao s.L.length cap, .int .i64 ((mark : Int) + 2), .slice (some ⟨w.heap.size, 0, none⟩) 1 1] (w.alloc (.cells #[i6 n] 3)) fun e w1 => e = .returned (.pointer (some ⟨w.heap.size + 1 + 1, 0, none⟩)) ∧
      Hid (Calls Try.prog 63 #[.pointer (some ⟨w.heap.size + 1 + 1, 0, none⟩)] w1 fun e w2 => ∃ lv, e = .returned lv ∧
      Hid (Calls Try.prog 81 #[.pointer (some ⟨y.tb, 3, none⟩), i6 mark] w2 fun e w3 => e = .returned (.tuple #[]) ∧
      Hid (Calls Try.prog 40 #[.pointer (some ⟨y.tb, 3, none⟩), lv] w3 fun e w4 => e = .returned (.tuple #[]) ∧
      Hid (Calls Try.prog 90 #[.pointer (some ⟨w.heap.size + 1 + 1, 0, none⟩), i6 n] w4 fun e w5 => e = .returned (i6 (nm (vis s.L (mark + 2) (n + 1) n []) (mark + 2) n)) ∧
        Hid (∃ y', Tab w5 y' { s with L := s.L.take mark ++ ((vis s.L (mark + 2) (n + 1) n []).map (rn s.L (vis s.L (mark + 2) (n + 1) n []) (mark + 2))) } ∧ Moves noX w y w5 y')))))) := by
    have hT1 := hT.below b1
    have hl1 := hT1.list
    rw [hls] at hl1
    have h := orderOf_any hl1 hT.okay.falls (by omega) (mark + 2) n w.heap.size 1 (by omega) (by omega) hn (by omega) (by rw [cell_at (heap_alloc_new w _)]; rfl)
    rw [e1] at h
    have e2 : (i6 (mark + 2) : Value) = .int .i64 ((mark : Int) + 2) := by simp [i6]
    rw [e2] at h
    refine h.mono ?_
    rintro e w1 ⟨rfl, hO, hb1⟩
    refine ⟨rfl, ?_⟩
    refine (nodes_any hO hnd hacc (by omega) hT.okay.falls (by omega) (by omega) (by omega)).mono ?_
    rintro e w2 ⟨rfl, hown, hb2⟩
    refine ⟨_, rfl, ?_⟩
    have z1 := hb1.size
    have z2 := hb2.size
    have hbw1 : Below w.heap.size w w1 := b1.trans (hb1.mono (by omega))
    have hbw2 : Below w.heap.size w w2 := hbw1.trans (hb2.mono (by omega))
    have hT2 := hT.below hbw2
    have lown : ∀ k, y.own k → k < w.heap.size := fun k hk => hT.lt hk
    refine (drop_any hT2 mark hm hr).mono ?_
    rintro e w3 ⟨rfl, y3, hT3, hm3⟩
    refine ⟨rfl, ?_⟩
    have own3 : ∀ k, y3.own k → k < w.heap.size ∨ w2.heap.size ≤ k := fun k hk => by
      rcases hm3.own k hk with h | h
      · exact Or.inl (lown k h)
      · exact Or.inr h
    have z3 := hm3.size
    have kept3 : ∀ k, w.heap.size ≤ k → k < w2.heap.size → w3.heap[k]? = w2.heap[k]? := fun k h1 h2 => hm3.block k h2 (fun ho => by have := lown k ho; omega) (fun h => h)
    have hl3 := hown.lt w1.heap.size rfl
    have hlput : (s.L.take mark ++ ((vis s.L (mark + 2) (n + 1) n []).map (rn s.L (vis s.L (mark + 2) (n + 1) n []) (mark + 2)))).length ≤ 1073741824 := by
      rw [List.length_append, List.length_take, List.length_map]; omega
    have hgw : ∀ g a b, (Value.slice (some ⟨w1.heap.size, 0, none⟩) a b).ownBlock = some g → g = w1.heap.size := fun g a b h => (Option.some.inj h).symm
    have hown3 := row_same (w' := w3) hown fun g hg => kept3 g (by rw [hgw _ _ _ hg]; omega) (by rw [hgw _ _ _ hg]; exact hl3.2)
    rw [← hm3.tb]
    refine (put_any hT3 _ _ (by rw [List.length_map]; exact hown3) (fun k hk ho => ?_) HLEFT.out.okay hlput).mono ?_
    · have e5 := hgw _ _ _ hk
      rcases own3 _ ho with h | h
      · omega
      · have := hl3.2; omega
    · rintro e w4 ⟨rfl, y4, hT4, hm4⟩
      refine ⟨rfl, ?_⟩
      have kept4 : ∀ k, w.heap.size ≤ k → k < w2.heap.size → w4.heap[k]? = w2.heap[k]? := fun k h1 h2 => (hm4.block k (by omega) (fun ho => by rcases own3 k ho with h | h <;> omega) (fun h => h)).trans (kept3 k h1 h2)
      obtain ⟨f, hf, hrf, _⟩ := hO.place
      have lf := hf.lt
      have lo := block_lt hO.cells
      have k2 : ∀ k, k < w1.heap.size → w.heap.size ≤ k → w4.heap[k]? = w1.heap[k]? := fun k h1 h2 => (kept4 k h2 (by omega)).trans (hb2.block k h1)
      refine (name_at ((k2 _ lo (by omega)).trans hO.cells) ⟨f, hf.same (k2 _ lf (by omega)), hrf⟩ n (by omega)).mono ?_
      rintro e w5 ⟨rfl, rfl⟩
      exact ⟨rfl, y4, hT4, (moves_below y hbw2).trans (hm3.trans hm4)⟩
  clear hT hnd hacc hal hr hls b1 e1 HT
  have hmI : (mark : Int) ≤ 1073741824 := by omega
  go_enter Try.func83, Try.ntmps83
  go_wp2_with fail
  refine Q1.out.mono ?_
  rintro e w1 ⟨rfl, Q2⟩
  clear Q1
  go_wp2_with fail
  refine Q2.out.mono ?_
  rintro e w2 ⟨lv, rfl, Q3⟩
  clear Q2
  go_wp2_with fail
  refine Q3.out.mono ?_
  rintro e w3 ⟨rfl, Q4⟩
  clear Q3
  go_wp2_with fail
  refine Q4.out.mono ?_
  rintro e w4 ⟨rfl, Q5⟩
  clear Q4
  go_wp2_with fail
  refine Q5.out.mono ?_
  rintro e w5 ⟨rfl, R⟩
  clear Q5
  go_wp2
  go_ret
  exact ⟨_, _, rfl, HLEFT.out, R.out⟩
end Go.Proofs.Ytffngpdngjfcfaa
namespace Go.Proofs.Ytffngpdngjfcfaa
open Go.RowKit Go.Maps
open Bd (Nd)

/-- What a join means: a function of two. -/
structure Means (jn : Nat → Nat → Nat × Nat × Nat) (J : Bd.Fn → Bd.Fn → Bd.Fn) : Prop where
  lt : ∀ (L : List Nd) (a b : Nat), a < L.length + 2 → b < L.length + 2 → (jn a b).1 < L.length + 2 ∧ (jn a b).2.1 < L.length + 2 ∧ (jn a b).2.2 < L.length + 2
  den : ∀ (L : List Nd) (a b : Nat), Bd.iteF (Bd.den L (jn a b).1) (Bd.den L (jn a b).2.1) (Bd.den L (jn a b).2.2) = J (Bd.den L a) (Bd.den L b)

/-- A table in the midst of a fold. -/
structure Stands {bits M : Nat} (A : Bd.Fam bits M) (w : World) (y : Lay) (s : St) (w3 : World) (r : Nat) (f : Bd.Fn) : Prop where
  cell : ∃ ao len cap, w3.cell? ⟨y.tb, 3, none⟩ = some (.slice ao len cap) ∧ len ≤ 1048576 ∧ s.L.length ≤ len
  grew : Grew noX A w y s w3 r f

theorem stands_of {M : Nat} {w w3 : World} {y : Lay} {s : St} (A : Bd.Fam s.bits M) (hlim : s.bits * M ≤ s.limit) (hl : s.limit ≤ 1048576) {r : Nat} {f : Bd.Fn} (hG : Grew noX A w y s w3 r f) : Stands A w y s w3 r f := by
  refine ⟨?_, hG⟩
  obtain ⟨N, y', hT, hW, hr, hd, hm⟩ := hG.ex
  obtain ⟨ao, cap, hls⟩ := hT.list_slice
  have hfew := hW.few hT.okay
  refine ⟨ao, (s.L ++ N).length, cap, ?_, by omega, by rw [List.length_append]; omega⟩
  rw [← hm.tb, hT.cell3, hls]

theorem shrink_stands {M : Nat} {w w3 : World} {y : Lay} {s : St} (A : Bd.Fam s.bits M) (hT0 : Tab w y s) (hlim : s.bits * M ≤ s.limit) {r : Nat} {f : Bd.Fn} (hG : Grew noX A w y s w3 r f) (W : World) (hB : Below w3.heap.size w3 W) :
    Calls Try.prog 83 #[.pointer (some ⟨y.tb, 3, none⟩), i6 s.L.length, i6 r] W fun e w4 => ∃ r4, e = .returned (i6 r4) ∧ Stands A w y s w4 r4 f := by
  obtain ⟨N, y', hT, hW, hr, hd, hm⟩ := hG.ex
  have hsl := hT0.small
  have hfew := hW.few hT.okay
  have h := shrink_any (s := { s with L := s.L ++ N }) (hT.below hB) s.L.length r (by show _ ≤ (s.L ++ N).length; rw [List.length_append]; omega) (by show (s.L ++ N).length ≤ _; omega) (fun m hm => (hT0.valid.2 m hm).2) hr
  rw [hm.tb] at h
  refine h.mono ?_
  rintro e w4 ⟨r4, N4, rfl, hL, y4, hT4, hm4⟩
  have et : (s.L ++ N).take s.L.length = s.L := List.take_left
  obtain ⟨l1, l2, l3, l4⟩ := hL
  have l4' := l4 A hW
  simp only at hT4 l1 l2 l3 l4'
  rw [et] at hT4 l1 l2 l3 l4'
  exact ⟨r4, rfl, stands_of A hlim (by omega) ⟨N4, y4, hT4, l4', l2, l3.trans hd, hm.trans ((moves_below y' hB).trans hm4)⟩⟩

theorem fold_round {M : Nat} {w wr : World} {y : Lay} {s : St} (A : Bd.Fam s.bits M) (hT0 : Tab w y s) (hlim : s.bits * M ≤ s.limit) (fj : FuncId) (jn : Nat → Nat → Nat × Nat × Nat) (hJ : Joins fj jn) (J : Bd.Fn → Bd.Fn → Bd.Fn) (hM : Means jn J) {r m : Nat} {f : Bd.Fn} (hG : Grew noX A w y s wr r f) (hm : m < s.L.length + 2) (hF : A.F 0 (J f (Bd.den s.L m)))
    (room : Nat) (hroom : s.bits * M ≤ room) (hr3 : room ≤ 1073741824) (W : World) (hB : Below wr.heap.size wr W) :
    Calls Try.prog 52 #[.pointer (some ⟨y.tb, 3, none⟩), .int .i64 room] W fun e w1 => ∃ p, e = .returned p ∧ Hid (Calls Try.prog fj #[i6 r, i6 m] w1 fun e w2 => ∃ v, e = .returned v ∧ Hid (Calls Try.prog 53 #[p, v] w2 fun e w3 => ∃ r', e = .returned (i6 r') ∧ Hid (Stands A w y s w3 r' (J f (Bd.den s.L m))))) := by
  obtain ⟨N, y1, hT, hW, hr, hd, hmv⟩ := hG.ex
  have hsl := hT0.small
  have hmN : m < (s.L ++ N).length + 2 := by rw [List.length_append]; omega
  obtain ⟨l1, l2, l3⟩ := hM.lt (s.L ++ N) r m hr hmN
  have hden := hM.den (s.L ++ N) r m
  rw [hd, Bd.den_append_old s.L N hm] at hden
  have h := fold_step (s := { s with L := s.L ++ N }) A hT hW (by show s.bits * M ≤ _; omega) fj jn hJ r m room hroom hr3 l1 l2 l3 (by show A.F 0 (Bd.iteF (Bd.den (s.L ++ N) _) (Bd.den (s.L ++ N) _) (Bd.den (s.L ++ N) _)); rw [hden]; exact hF) W hB
  rw [hmv.tb] at h
  refine h.mono ?_
  rintro e w1 ⟨p, rfl, HJ1⟩
  refine ⟨p, rfl, ?_⟩
  refine HJ1.out.mono ?_
  rintro e w2 ⟨v, rfl, HI1⟩
  refine ⟨v, rfl, ?_⟩
  refine HI1.out.mono ?_
  rintro e w3 ⟨r', rfl, HG1⟩
  refine ⟨r', rfl, ?_⟩
  obtain ⟨N2, y3, hT3, hW3, hr3', hd3, hm3⟩ := HG1.out.ex
  refine stands_of A hlim (by omega) ⟨N ++ N2, y3, ?_, ?_, ?_, ?_, hmv.trans hm3⟩
  · have := hT3; simp only at this; rw [List.append_assoc] at this; exact this
  · have := hW3; simp only at this; rw [List.append_assoc] at this; exact this
  · have := hr3'; simp only at this; rw [List.append_assoc] at this; exact this
  · have := hd3; simp only at this; rw [List.append_assoc, hden] at this; exact this

set_option maxRecDepth 4000 in
set_option maxHeartbeats 8000000 in
theorem fold_any {M : Nat} {w : World} {y : Lay} {s : St} (A : Bd.Fam s.bits M) (hT : Tab w y s) (hW : Bd.Within A s.L) (hlim : s.bits * M ≤ s.limit) (fj : FuncId) (jn : Nat → Nat → Nat × Nat × Nat) (hJ : Joins fj jn) (J : Bd.Fn → Bd.Fn → Bd.Fn) (hM : Means jn J) (e0 g : Nat) (he : e0 < 2) (ns : List Nat) (hn : ns.length ≤ 1000000) (hNA : NodesAt w g ns) (hg : ¬ y.own g)
    (hns : ∀ m, m ∈ ns → m < s.L.length + 2) (F : Nat → Bd.Fn) (h0 : Bd.den s.L e0 = F 0) (hF : ∀ k m, ns[k]? = some m → F (k + 1) = J (F k) (Bd.den s.L m) ∧ A.F 0 (F (k + 1))) :
    Calls Try.prog 47 #[.pointer (some ⟨y.tb, 0, none⟩), .slice (some ⟨g, 0, none⟩) ns.length ns.length, i6 e0, .func (.func fj) #[] #[]] w fun e w' => ∃ r, e = .returned (i6 r) ∧ Grew noX A w y s w' r (F ns.length) := by
  obtain ⟨cs, g0, gs, gc⟩ := hNA
  have lg := block_lt g0
  have ltb := hT.lt y.own_tb
  have hsl := hT.small
  obtain ⟨ao, cap, hls⟩ := hT.list_slice
  have c3 := hT.cell3
  rw [hls] at c3
  have START : Hid (Stands A w y s w e0 (F 0)) := stands_of A hlim (by omega) (Grew.same hT hW (by omega) h0 (Below.refl _ _))
  obtain ⟨n, hnn⟩ : ∃ n, n = ns.length := ⟨_, rfl⟩
  have HNN := keep hnn
  obtain ⟨len, hlen⟩ : ∃ len, len = s.L.length := ⟨_, rfl⟩
  have HLEN := keep hlen
  -- what a round knows
  have ROUND : Hid (∀ (wr : World) (k r : Nat), k < n → Stands A w y s wr r (F k) → ∃ (m : Nat) (ao1 : Option Addr) (len1 cap1 : Nat), wr.cell? ⟨g, k, none⟩ = some (.int .i64 m) ∧ wr.cell? ⟨y.tb, 3, none⟩ = some (.slice ao1 len1 cap1) ∧ len1 ≤ 1048576 ∧ len ≤ len1 ∧ wr.cell? ⟨y.tb, 6, none⟩ = some (.int .i64 s.limit) ∧
      Hid (∀ (W : World) (room : Int), Below wr.heap.size wr W → (s.limit : Int) ≤ room → room ≤ 1073741824 → Calls Try.prog 52 #[.pointer (some ⟨y.tb, 3, none⟩), .int .i64 room] W fun e w1 => ∃ p, e = .returned p ∧ Hid (Calls Try.prog fj #[i6 r, i6 m] w1 fun e w2 => ∃ v, e = .returned v ∧ Hid (Calls Try.prog 53 #[p, v] w2 fun e w3 => ∃ r', e = .returned (i6 r') ∧ Hid (Stands A w y s w3 r' (F (k + 1))))))) := by
    intro wr k r hk hS
    obtain ⟨m, hm⟩ : ∃ m, ns[k]? = some m := ⟨ns[k]'(by omega), List.getElem?_eq_getElem _⟩
    obtain ⟨ao1, len1, cap1, q1, q2, q3⟩ := hS.cell
    obtain ⟨N, y1, hT1, hW1, hr1, hd1, hm1⟩ := hS.grew.ex
    have hb := hm1.block g lg hg (fun h => h)
    refine ⟨m, ao1, len1, cap1, ?_, q1, q2, by omega, ?_, ?_⟩
    · rw [World.cell?_of_block hb, cell_at g0]; exact gc k m hm
    · rw [← hm1.tb, cell_at hT1.cells]; rfl
    · intro W room hB h1 h2
      obtain ⟨rm, rfl⟩ : ∃ rm : Nat, room = (rm : Int) := ⟨room.toNat, by omega⟩
      obtain ⟨f1, f2⟩ := hF k m hm
      have := fold_round A hT hlim fj jn hJ J hM hS.grew (hns m (List.mem_of_getElem? hm)) (by rw [← f1]; exact f2) rm (by omega) (by omega) W hB
      rw [← f1] at this
      exact this
  have SHRINK : Hid (∀ (w3 : World) (k r : Nat), Stands A w y s w3 r (F k) → Calls Try.prog 83 #[.pointer (some ⟨y.tb, 3, none⟩), i6 len, i6 r] w3 fun e w4 => ∃ r4, e = .returned (i6 r4) ∧ Hid (Stands A w y s w4 r4 (F k))) := by
    intro w3 k r hS
    rw [hlen]
    exact shrink_stands A hT hlim hS.grew w3 (Below.refl _ _)
  have hent := hJ.enter
  have hlimI : (s.limit : Int) ≤ 1048576 := by omega
  have hlim0 : (0 : Int) ≤ (s.limit : Int) := by omega
  have hlenI : (len : Int) ≤ 1048576 := by
    have := hW.few hT.okay
    omega
  have hnI : (n : Int) ≤ 1000000 := by omega
  rw [← hnn]
  rw [← hlen] at c3
  clear hT hW hlim hJ hM g0 gs gc hls hsl hns h0 hF hg hnn hlen lg he
  go_enter Try.func47, Try.ntmps47
  go_wp2_with fail
  go_loopw [2, 10, 24] (fun u v i wr => ∃ k r d : Nat, k ≤ n ∧ u = .int .i64 r ∧ v = .int .i64 d ∧ d ≤ 1048576 ∧ i = .int .i64 k ∧ Hid (Stands A w y s wr r (F k))) (fun _ _ i _ => n - (intOf i).toNat)
  case atStart => exact ⟨0, e0, 0, Nat.zero_le _, rfl, rfl, by omega, rfl, START⟩
  case round =>
    obtain ⟨k, r, d, hk, rfl, rfl, hd, rfl, HS⟩ := hrel
    by_cases hlt : k < n
    · obtain ⟨m, ao1, len1, cap1, q0, q3, q4, q5, q6, QS⟩ := ROUND.out wr k r hlt HS.out
      have hkI : (k : Int) < (n : Int) := by omega
      have hk0 : (0 : Int) ≤ (k : Int) := by omega
      have h1I : (len1 : Int) ≤ 1048576 := by omega
      have hle : (len : Int) ≤ (len1 : Int) := by omega
      have hdI : (d : Int) ≤ 1048576 := by omega
      have hd0 : (0 : Int) ≤ (d : Int) := by omega
      clear HS
      by_cases hlast : k = n - 1
      · have hl1 : ((k : Int) == (n : Int) - 1) = true := by rw [beq_iff_eq]; omega
        have HLAST := keep hlast
        clear hlast
        go_wp2_with fail
        go_quiet (fail)
        go_wp2_with fail
        refine (QS.out _ _ (belowN (Below.refl _ _) _) (by omega) (by omega)).mono ?_
        rintro e w1 ⟨p, rfl, HJ1⟩
        clear QS q0 q3 q6
        go_wp2_with fail
        refine HJ1.out.mono ?_
        rintro e w2 ⟨v, rfl, HI1⟩
        clear HJ1
        go_wp2_with fail
        refine HI1.out.mono ?_
        rintro e w3 ⟨r', rfl, HS3⟩
        clear HI1
        obtain ⟨ao2, len2, cap2, p3, p4, p5⟩ := HS3.out.cell
        have hp5 : (len : Int) ≤ (len2 : Int) := by have := HLEN.out; omega
        have hp4 : (len2 : Int) ≤ 1048576 := by omega
        clear p5
        by_cases hmore : (len : Int) < (len1 : Int)
        · go_wp2_with fail
          refine (SHRINK.out w3 (k + 1) r' HS3.out).mono ?_
          rintro e w4 ⟨r4, rfl, HS4⟩
          obtain ⟨ao4, len4, cap4, t3, t4, t5⟩ := HS4.out.cell
          have ht5 : (len : Int) ≤ (len4 : Int) := by have := HLEN.out; omega
          have ht4 : (len4 : Int) ≤ 1048576 := by omega
          clear t5 p3
          go_wp2_with fail
          go_roundw
          case rel => exact ⟨k + 1, r4, len4 - len, by omega, rfl, by congr 1; omega, by omega, by go_num, HS4⟩
          case measure => simp [intOf]; omega
        · go_wp2_with fail
          go_roundw
          case rel => exact ⟨k + 1, r', d, by omega, rfl, rfl, hd, by go_num, HS3⟩
          case measure => simp [intOf]; omega
      · have hl1 : ((k : Int) == (n : Int) - 1) = false := by rw [beq_eq_false_iff_ne]; omega
        clear hlast
        go_wp2_with fail
        go_quiet (fail)
        go_wp2_with fail
        refine (QS.out _ _ (belowN (Below.refl _ _) _) (by omega) (by omega)).mono ?_
        rintro e w1 ⟨p, rfl, HJ1⟩
        clear QS q0 q3 q6
        go_wp2_with fail
        refine HJ1.out.mono ?_
        rintro e w2 ⟨v, rfl, HI1⟩
        clear HJ1
        go_wp2_with fail
        refine HI1.out.mono ?_
        rintro e w3 ⟨r', rfl, HS3⟩
        clear HI1
        obtain ⟨ao2, len2, cap2, p3, p4, p5⟩ := HS3.out.cell
        have hp5 : (len : Int) ≤ (len2 : Int) := by have := HLEN.out; omega
        have hp4 : (len2 : Int) ≤ 1048576 := by omega
        clear p5
        by_cases hmore : (len : Int) < (len1 : Int)
        · by_cases hbig : 2 * (d : Int) + 4096 < (len2 : Int) - (len : Int)
          · have hbig2 : 2 * (d : Int) + 4096 + (len : Int) < (len2 : Int) := by omega
            go_wp2_with fail
            refine (SHRINK.out w3 (k + 1) r' HS3.out).mono ?_
            rintro e w4 ⟨r4, rfl, HS4⟩
            obtain ⟨ao4, len4, cap4, t3, t4, t5⟩ := HS4.out.cell
            have ht5 : (len : Int) ≤ (len4 : Int) := by have := HLEN.out; omega
            have ht4 : (len4 : Int) ≤ 1048576 := by omega
            clear t5 p3
            go_wp2_with fail
            go_roundw
            case rel => exact ⟨k + 1, r4, len4 - len, by omega, rfl, by congr 1; omega, by omega, by go_num, HS4⟩
            case measure => simp [intOf]; omega
          · have hbig2 : ¬ (2 * (d : Int) + 4096 + (len : Int) < (len2 : Int)) := by omega
            go_wp2_with fail
            go_roundw
            case rel => exact ⟨k + 1, r', d, by omega, rfl, rfl, hd, by go_num, HS3⟩
            case measure => simp [intOf]; omega
        · go_wp2_with fail
          go_roundw
          case rel => exact ⟨k + 1, r', d, by omega, rfl, rfl, hd, by go_num, HS3⟩
          case measure => simp [intOf]; omega
    · have hkn : k = n := by omega
      subst hkn
      go_wp2_with fail
      go_ret
      have := HS.out.grew
      rw [HNN.out] at this
      exact ⟨r, rfl, by rw [← HNN.out] at this; exact this⟩
end Go.Proofs.Ytffngpdngjfcfaa
