/-
  tell: the ref of a node; find: the nodes of refs.
-/
import Derived.Test.YtffngpdngjfcfaaBNew
namespace Go.Proofs.Ytffngpdngjfcfaa
open Go.RowKit Go.Maps
open Bd (Nd)

/-- The node of a ref. -/
def St.node? (s : St) (r : Nat) : Option Nat := if r < 2 then some r else if s.first ≤ r then s.roots[r - s.first]? else none

theorem Try.infoInt : (Try.prog.info? 3).map (fun i => (i.zero, i.size, i.bytes)) = some (some (.int .i64 0), 1, 8) := by kernel_rfl
theorem nums_snoc (l : List Nat) (x : Nat) : nums (l ++ [x]) = nums l ++ [i6 x] := by simp [nums]
theorem Tab.cell0 {w : World} {y : Lay} {s : St} (h : Tab w y s) : w.cell? ⟨y.tb, 0, none⟩ = some (i6 s.first) := by rw [cell_at h.cells]; rfl
theorem Tab.cell1 {w : World} {y : Lay} {s : St} (h : Tab w y s) : w.cell? ⟨y.tb, 1, none⟩ = some y.rs := by rw [cell_at h.cells]; rfl
theorem Tab.cell2 {w : World} {y : Lay} {s : St} (h : Tab w y s) : w.cell? ⟨y.tb, 2, none⟩ = some (.map (some y.rm)) := by rw [cell_at h.cells]; rfl
theorem Tab.roots_slice {w : World} {y : Lay} {s : St} (h : Tab w y s) : ∃ ao cap, y.rs = .slice ao s.roots.length cap := by
  rcases h.roots.2 with ⟨e, e2⟩ | ⟨g, c, _, e, _⟩
  · exact ⟨none, 0, by rw [e]; rw [e2]⟩
  · exact ⟨_, _, e⟩
theorem Tab.list_slice {w : World} {y : Lay} {s : St} (h : Tab w y s) : ∃ ao cap, y.ls = .slice ao s.L.length cap := by
  rcases h.list.2 with ⟨e, e2⟩ | ⟨g, c, _, e, _⟩
  · exact ⟨none, 0, by rw [e]; rw [e2]⟩
  · exact ⟨_, _, e⟩

/-- Behind a new ref. -/
theorem tell_tab {w w1 w2 : World} {y : Lay} {s : St} {x : Nat} (hT : Tab w y s) (hx : x ∉ s.roots) (hx2 : 2 ≤ x) (hxl : x < s.L.length + 2) (hsm : s.roots.length + 1 ≤ 1073741824) {g cap : Nat} {v : Value} {o : Obj} (hv : v = .slice (some ⟨g, 0, none⟩) (s.roots.length + 1) cap)
    (hown : w1.ownsRow 0 3 1 v (s.roots.length + 1) (nums s.roots ++ [i6 x])) (hg1 : (w.drew.alloc o).grownBy w1 y.rs.ownBlock) (hat : y.rs.ownBlock = some g ∨ g = w.heap.size + 1) {f : Value → Option Int} (hf : RefMap s.first s.roots f)
    (hput : ∀ f', Upd f (i6 x) (some ((s.first + s.roots.length : Nat) : Int)) f' → MapOf Try.prog 3 25 w2 y.rm (if (f (i6 x)).isSome then s.roots.length else s.roots.length + 1) f')
    (hg2 : (w1.setCell ⟨y.tb, 1, none⟩ v).grownBy w2 (some y.rm)) :
    Tab w2 { y with rs := v } { s with roots := s.roots ++ [x] } ∧ Moves noX w y w2 { y with rs := v } := by
  obtain ⟨a1, a2, a3, a4, a5, a6, a7, a8, a9⟩ := hT.apart
  have z1 : w.heap.size + 1 ≤ w1.heap.size := by have := hg1.size; simpa using this
  have z2 : w1.heap.size ≤ w2.heap.size := by have := hg2.size; simpa using this
  have ltb := hT.lt y.own_tb
  have lrm := hT.lt y.own_rm
  have old1 : ∀ k, k < w.heap.size → y.rs.ownBlock ≠ some k → w1.heap[k]? = w.heap[k]? := by
    intro k hk h2
    rw [hg1.block k (by simp; omega) (fun e => h2 e.symm)]
    exact heap_alloc_old w.drew o hk
  have old2 : ∀ k, k < w1.heap.size → k ≠ y.tb → k ≠ y.rm → w2.heap[k]? = w1.heap[k]? := by
    intro k hk h1 h2
    rw [hg2.block k (by simpa using hk) (fun e => h2 (by cases e; rfl))]
    exact set_other v h1
  have hgown : v.ownBlock = some g := by rw [hv]; rfl
  have hgt : g ≠ y.tb ∧ g ≠ y.rm := by
    rcases hat with h | h
    · exact ⟨fun e => by rw [e] at h; exact a4 h, fun e => by rw [e] at h; exact a8 h⟩
    · exact ⟨by omega, by omega⟩
  obtain ⟨f', hf'⟩ := upd_exists f (i6 x) (some ((s.first + s.roots.length : Nat) : Int))
  have hnone : f (i6 x) = none := (hf x).2 hx
  have hm2 := hput f' hf'
  rw [hnone] at hm2
  obtain ⟨fn, hfn, han⟩ := hT.nodes
  have hcells : w1.heap[y.tb]? = _ := (old1 y.tb ltb a4).trans hT.cells
  have hset := set_block (o := 1) v hcells
  refine ⟨{ cells := ?_, list := ?_, roots := ?_, nodes := ⟨fn, ?_, han⟩, refs := ⟨f', ?_, hf.snoc hx hf'⟩, two := hT.two, okay := hT.okay, small := ?_, valid := ?_ }, ?_⟩
  · rw [hg2.block y.tb (by simp; omega) (by simpa using fun e => a2 e.symm), hset]; rfl
  · refine row_same hT.list fun g' hg' => ?_
    have hl := hT.lt (y.own_ls hg')
    rw [old2 g' (by omega) (fun e => a3 (by rw [← e]; exact hg')) (fun e => a7 (by rw [← e]; exact hg')), old1 g' hl (a9 g' hg')]
  · have e : (s.roots ++ [x]).length = s.roots.length + 1 := by simp
    show World.ownsRow _ 0 3 1 v (s.roots ++ [x]).length (nums (s.roots ++ [x]))
    rw [e, nums_snoc]
    refine row_same hown fun g' hg' => ?_
    rw [hgown] at hg'
    cases hg'
    exact old2 g (hown.lt g hgown).2 hgt.1 hgt.2
  · refine hfn.same ?_
    have hl := hT.lt y.own_mb
    show w2.heap[y.mb]? = w.heap[y.mb]?
    rw [old2 y.mb (by omega) a1 hT.two, old1 y.mb hl a6]
  · have e : (s.roots ++ [x]).length = s.roots.length + 1 := by simp
    show MapOf _ _ _ _ y.rm (s.roots ++ [x]).length f'
    rw [e]
    simpa using hm2
  · have := hT.small
    have e : (s.roots ++ [x]).length = s.roots.length + 1 := by simp
    refine ⟨this.1, ?_, this.2.2.1, this.2.2.2.1, this.2.2.2.2⟩
    show (s.roots ++ [x]).length ≤ _
    omega
  · refine ⟨?_, ?_⟩
    · show (s.roots ++ [x]).Nodup
      rw [List.nodup_append]
      refine ⟨hT.valid.1, by simp, ?_⟩
      intro p hp q hq e
      simp at hq
      subst hq
      subst e
      exact hx hp
    · intro n hn
      have hn' : n ∈ s.roots ++ [x] := hn
      rw [List.mem_append] at hn'
      rcases hn' with h | h
      · exact hT.valid.2 n h
      · simp at h
        subst h
        exact ⟨hx2, hxl⟩
  · refine ⟨rfl, ?_, ?_, ?_, ?_, by omega, ?_⟩
    · intro k hk
      rcases hk with h | h | h | h | h
      · exact Or.inl (Or.inl h)
      · exact Or.inl (Or.inr (Or.inl h))
      · exact Or.inl (Or.inr (Or.inr (Or.inl h)))
      · exact Or.inl (y.own_ls h)
      · have : v.ownBlock = some k := h
        rw [hgown] at this
        cases this
        rcases hat with h | h
        · exact Or.inl (y.own_rs h)
        · exact Or.inr (by omega)
    · exact hg2.os.trans hg1.os
    · exact hg2.tape.trans hg1.tape
    · exact hg2.output.trans hg1.output
    · intro k hk hn _
      rw [old2 k (by omega) (fun e => hn (Or.inl e)) (fun e => hn (Or.inr (Or.inr (Or.inl e)))), old1 k hk (fun e => hn (y.own_rs e))]
end Go.Proofs.Ytffngpdngjfcfaa
