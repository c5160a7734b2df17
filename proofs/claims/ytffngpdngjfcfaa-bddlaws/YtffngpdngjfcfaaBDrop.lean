/-
  drop: all nodes but the first ones go.
-/
import Derived.Test.YtffngpdngjfcfaaBShr
namespace Go.Proofs.Ytffngpdngjfcfaa
open Go.RowKit Go.Maps
open Bd (Nd)

theorem MapOf.drop_run {P : Program} {k e t : TypeId} {w : World} {b sz : Nat} {f : Value → Option Int} (h : MapOf P k e w b sz f) (K : Keyed P k) (ht : P.underlying t = some (.map k e)) {key : Value} {kl : Lit} (hkey : keyOf P k key = some kl) (ty : TypeId) :
    ∃ w', (Builtin.delete_ #[t, k] ty #[.map (some b), key]).run P w = .ok (.tuple #[]) w' ∧ (∀ f', Upd f key none f' → MapOf P k e w' b (if (f key).isSome then sz - 1 else sz) f') ∧ w.grownBy w' (some b) := by
  obtain ⟨D, h1, h2, h3⟩ := h
  obtain ⟨w', hrun, h4, h5⟩ := h1.drop K ht hkey ty
  refine ⟨w', hrun, fun f' hf' => ?_, h5.grown⟩
  have hs : Maps.size (D.del kl) = if (f key).isSome then sz - 1 else sz := by
    have := Maps.size_del (k := kl) (h1.tidy K)
    rw [(h3 key kl hkey).1, h2] at this
    split at this
    · rename_i hh; rw [if_pos hh]; omega
    · rename_i hh; rw [if_neg hh]; omega
  refine ⟨D.del kl, ?_, hs, ?_⟩
  · have := owns_tight h4
    rw [hs] at this
    exact this
  · intro key' kl' hk'
    by_cases e1 : key' = key
    · subst e1
      have : kl' = kl := by rw [hkey] at hk'; cases hk'; rfl
      subst this
      rw [hf'.1]
      exact ⟨by rw [Maps.has_del_same]; rfl, fun c' hc' => by cases hc'⟩
    · have hne : kl' ≠ kl := fun e2 => e1 (K.inj hk' (by rw [e2]; exact hkey))
      rw [hf'.2 _ e1, Maps.has_del_other hne, Maps.atKey_del_other hne]
      exact h3 key' kl' hk'

/-- The map of a list from which k nodes behind the first ones are gone. -/
def AtGap (L : List Nd) (mark k : Nat) (f : Value → Option Int) : Prop := ∀ x : Nd, (∀ i, L[i]? = some x → (i < mark ∨ mark + k ≤ i) → f (ndV x) = some ((i + 2 : Nat) : Int)) ∧ ((x ∉ L ∨ ∃ i, L[i]? = some x ∧ mark ≤ i ∧ i < mark + k) → f (ndV x) = none)
theorem AtGap.start {L : List Nd} {f : Value → Option Int} (h : AtMap L f) (mark : Nat) : AtGap L mark 0 f := fun x => ⟨fun i hi _ => (h x).1 i hi, fun hx => by
  rcases hx with hx | ⟨i, _, h1, h2⟩
  · exact (h x).2 hx
  · omega⟩
theorem AtGap.done {L : List Nd} {f : Value → Option Int} {mark : Nat} (_hnd : L.Nodup) (h : AtGap L mark (L.length - mark) f) : AtMap (L.take mark) f := by
  intro x
  refine ⟨fun i hi => ?_, fun hx => ?_⟩
  · have hl := Bd.getElem?_lt hi
    rw [List.length_take] at hl
    rw [List.getElem?_take_of_lt (by omega)] at hi
    exact (h x).1 i hi (Or.inl (by omega))
  · refine (h x).2 ?_
    by_cases hm : x ∈ L
    · obtain ⟨i, hi, e⟩ := List.mem_iff_getElem.1 hm
      have hi' : L[i]? = some x := by rw [List.getElem?_eq_getElem hi, e]
      rcases Nat.lt_or_ge i mark with h1 | h1
      · exfalso
        apply hx
        exact List.mem_iff_getElem.2 ⟨i, by rw [List.length_take]; omega, by rw [List.getElem_take]; exact e⟩
      · exact Or.inr ⟨i, hi', h1, by omega⟩
    · exact Or.inl hm
theorem nd_inj {x z : Nd} (h : ndV x = ndV z) : x = z := by
  unfold ndV at h
  simp [i6] at h
  obtain ⟨a, b, c⟩ := h
  exact Prod.ext (by omega) (Prod.ext (by omega) (by omega))
theorem AtGap.next {L : List Nd} {f f' : Value → Option Int} {mark k : Nat} {x : Nd} (hnd : L.Nodup) (h : AtGap L mark k f) (hx : L[mark + k]? = some x) (hu : Upd f (ndV x) none f') : AtGap L mark (k + 1) f' := by
  intro z
  by_cases e : z = x
  · subst e
    refine ⟨fun i hi hc => ?_, fun _ => hu.1⟩
    have hi1 := Bd.getElem?_lt hi
    have hi2 := Bd.getElem?_lt hx
    rw [List.getElem?_eq_getElem hi1] at hi
    rw [List.getElem?_eq_getElem hi2] at hx
    have : L[i] = L[mark + k] := by rw [Option.some.inj hi, Option.some.inj hx]
    have := (List.getElem_inj (h₀ := hi1) (h₁ := hi2) hnd).1 this
    omega
  · have hne : ndV z ≠ ndV x := fun e2 => e (nd_inj e2)
    rw [hu.2 _ hne]
    refine ⟨fun i hi hc => (h z).1 i hi (by
      rcases hc with hc | hc
      · exact Or.inl hc
      · exact Or.inr (by omega)), fun hz => (h z).2 ?_⟩
    rcases hz with hz | ⟨i, hi, h1, h2⟩
    · exact Or.inl hz
    · refine Or.inr ⟨i, hi, h1, ?_⟩
      rcases Nat.lt_or_ge i (mark + k) with h3 | h3
      · exact h3
      · have : i = mark + k := by omega
        subst this
        rw [hx] at hi
        cases hi
        exact absurd rfl e

/-- What drop has left when k nodes are gone. -/
structure Gap (w wr : World) (y : Lay) (L : List Nd) (mark k : Nat) : Prop where
  nodes : ∃ f, MapOf Try.prog 82 3 wr y.mb (L.length - k) f ∧ AtGap L mark k f
  os : wr.os = w.os
  tape : wr.tape = w.tape
  output : wr.output = w.output
  size : w.heap.size ≤ wr.heap.size
  block : ∀ j, j < w.heap.size → j ≠ y.mb → wr.heap[j]? = w.heap[j]?

theorem drop_tab {w wr : World} {y : Lay} {s : St} {mark : Nat} (hT : Tab w y s) (hm : mark ≤ s.L.length) (hr : ∀ n, n ∈ s.roots → n < mark + 2) (hG : Gap w wr y s.L mark (s.L.length - mark)) (ao : Option Addr) (cap : Nat) (hls : y.ls = .slice ao s.L.length cap) :
    Tab (wr.setCell ⟨y.tb, 3, none⟩ (.slice ao mark cap)) { y with ls := .slice ao mark cap } { s with L := s.L.take mark } ∧ Moves noX w y (wr.setCell ⟨y.tb, 3, none⟩ (.slice ao mark cap)) { y with ls := .slice ao mark cap } := by
  obtain ⟨a1, a2, a3, a4, a5, a6, a7, a8, a9⟩ := hT.apart
  have hlen : (s.L.take mark).length = mark := by rw [List.length_take]; omega
  have ltb := hT.lt y.own_tb
  have hown : (Value.slice ao mark cap).ownBlock = y.ls.ownBlock := by rw [hls]; cases ao <;> rfl
  have hcells : wr.heap[y.tb]? = _ := (hG.block y.tb ltb (fun e => a1 e.symm)).trans hT.cells
  have hset := set_block (o := 3) (.slice ao mark cap) hcells
  obtain ⟨f, hf, ha⟩ := hG.nodes
  obtain ⟨fr, hfr, hrr⟩ := hT.refs
  refine ⟨{ cells := ?_, list := ?_, roots := ?_, nodes := ⟨f, ?_, ha.done hT.okay.nd⟩, refs := ⟨fr, ?_, hrr⟩, two := hT.two, okay := okay_take hT.okay mark, small := ?_, valid := ⟨hT.valid.1, fun n hn => ?_⟩ }, ?_⟩
  · rw [hset]; rfl
  · show World.ownsRow _ 0 82 3 (.slice ao mark cap) (s.L.take mark).length (flat (s.L.take mark))
    have hl := hT.list
    rw [hls] at hl
    have htr : w.ownsRow 0 82 3 (.slice ao mark cap) mark (flat (s.L.take mark)) := by
      refine ⟨by rw [flat_length, hlen], ?_⟩
      rcases hl.2 with ⟨h1, h2⟩ | ⟨g, c, cur, h1, h2, h3, h4, h5, h6, h7⟩
      · injection h1 with e1 e2 e3
        subst e1
        subst e3
        have : mark = 0 := by omega
        rw [this]
        exact Or.inl ⟨rfl, rfl⟩
      · injection h1 with e1 e2 e3
        subst e1
        subst e3
        refine Or.inr ⟨g, cap, cur, rfl, h2, h3, by omega, h5, h6, ?_⟩
        have e : flat s.L = flat (s.L.take mark) ++ flat (s.L.drop mark) := by
          unfold flat
          rw [← List.flatMap_append, List.take_append_drop]
        have e2 : cur.toList.take (mark * 3) = (cur.toList.take (s.L.length * 3)).take (mark * 3) := by rw [List.take_take, Nat.min_eq_left (by omega)]
        rw [e2, h7, e, List.take_left' (by rw [flat_length, hlen])]
    rw [hlen]
    refine row_same htr fun g hg => ?_
    rw [hown] at hg
    rw [set_other _ (show g ≠ y.tb from fun e => a3 (by rw [← e]; exact hg))]
    exact hG.block g (hT.lt (y.own_ls hg)) (fun e => a5 (by rw [← e]; exact hg))
  · refine row_same hT.roots fun g hg => ?_
    rw [set_other _ (show g ≠ y.tb from fun e => a4 (by rw [← e]; exact hg))]
    exact hG.block g (hT.lt (y.own_rs hg)) (fun e => a6 (by rw [← e]; exact hg))
  · show MapOf _ _ _ _ y.mb (s.L.take mark).length f
    rw [hlen]
    have e : s.L.length - (s.L.length - mark) = mark := by omega
    rw [e] at hf
    exact hf.same (set_other _ a1)
  · refine hfr.same ?_
    rw [set_other _ a2]
    exact hG.block y.rm hfr.lt (fun e => hT.two e.symm)
  · have := hT.small
    refine ⟨?_, this.2.1, this.2.2.1, this.2.2.2.1, this.2.2.2.2⟩
    show (s.L.take mark).length ≤ _
    omega
  · have := hT.valid.2 n hn
    exact ⟨this.1, by show n < (s.L.take mark).length + 2; rw [hlen]; exact hr n hn⟩
  · refine ⟨rfl, ?_, hG.os, hG.tape, hG.output, by simpa using hG.size, ?_⟩
    · intro k hk
      rcases hk with h | h | h | h | h
      · exact Or.inl (Or.inl h)
      · exact Or.inl (Or.inr (Or.inl h))
      · exact Or.inl (Or.inr (Or.inr (Or.inl h)))
      · exact Or.inl (y.own_ls (by rw [← hown]; exact h))
      · exact Or.inl (y.own_rs h)
    · intro k hk hn _
      rw [set_other _ (fun e => hn (Or.inl e))]
      exact hG.block k hk (fun e => hn (Or.inr (Or.inl e)))
end Go.Proofs.Ytffngpdngjfcfaa
