/-
  The laws' own cubes: the functions of some cubes.
-/
import Derived.Test.YtffngpdngjfcfaaBOpsB
import Derived.Test.YtffngpdngjfcfaaBLRefs
namespace Go.Proofs.Ytffngpdngjfcfaa
open Go.RowKit Go.Maps
open Bd (Nd)

theorem Try.infoRef : (Try.prog.info? 25).map (fun i => (i.zero, i.size, i.bytes)) = some (some (.int .i64 0), 1, 8) := by kernel_rfl

/-- The table and the refs of the first k cubes. -/
structure Made {nb M : Nat} (A : Bd.Fam nb M) (B : Nat) (w0 w : World) (tb : Nat) (ss : List ByteArray) (k : Nat) (v : Value) (y : Lay) (L : List Nd) (roots ls ns : List Nat) : Prop where
  tb : y.tb = tb
  tab : Tab w y ⟨L, roots, 2, nb, 1048576⟩
  within : Bd.Within A L
  few : roots.length ≤ k
  below : Below B w0 w
  own : ∀ j, y.own j → B ≤ j
  size : B ≤ w.heap.size
  len : ls.length = k
  row : w.ownsRow 0 25 1 v k (nums ls)
  apart : ∀ g, v.ownBlock = some g → B ≤ g ∧ ¬ y.own g
  nodes : NodesOf ⟨L, roots, 2, nb, 1048576⟩ ls ns
  den : ∀ i m, ns[i]? = some m → m < L.length + 2 ∧ Bd.den L m = suf (ss.getD i ByteArray.empty) 0
  right : ∀ i, i < k → (ss.getD i ByteArray.empty).size = nb ∧ Cu.right (ss.getD i ByteArray.empty).data.toList = true

/-- .. and the ref of the next cube, not yet among them. -/
structure MadeR {nb M : Nat} (A : Bd.Fam nb M) (B : Nat) (w0 w : World) (tb : Nat) (ss : List ByteArray) (k : Nat) (v : Value) (r : Nat) : Prop where
  ex : ∃ y L roots ls ns m, y.tb = tb ∧ Tab w y ⟨L, roots, 2, nb, 1048576⟩ ∧ Bd.Within A L ∧ roots.length ≤ k + 1 ∧ Below B w0 w ∧ (∀ j, y.own j → B ≤ j) ∧ B ≤ w.heap.size ∧ ls.length = k ∧ w.ownsRow 0 25 1 v k (nums ls) ∧ (∀ g, v.ownBlock = some g → B ≤ g ∧ ¬ y.own g) ∧
    NodesOf ⟨L, roots, 2, nb, 1048576⟩ (ls ++ [r]) (ns ++ [m]) ∧ ns.length = k ∧ (∀ i m', (ns ++ [m])[i]? = some m' → m' < L.length + 2 ∧ Bd.den L m' = suf (ss.getD i ByteArray.empty) 0) ∧ (∀ i, i < k + 1 → (ss.getD i ByteArray.empty).size = nb ∧ Cu.right (ss.getD i ByteArray.empty).data.toList = true)

set_option maxHeartbeats 1000000 in
theorem made_cube {nb M : Nat} {A : Bd.Fam nb M} {B : Nat} {w0 w : World} {tb k : Nat} {ss : List ByteArray} {v : Value} {y : Lay} {L : List Nd} {roots ls ns : List Nat} (h : Made A B w0 w tb ss k v y L roots ls ns) (hk : k ≤ 1000000) (hlim : nb * M ≤ 1048576)
    (hA : (ss.getD k ByteArray.empty).size = nb → Cu.right (ss.getD k ByteArray.empty).data.toList = true → A.F 0 (suf (ss.getD k ByteArray.empty) 0)) :
    Calls Try.prog 25 #[.pointer (some ⟨tb, 0, none⟩), .string (ss.getD k ByteArray.empty)] w fun e w' =>
      (∃ r : Nat, e = .returned (.tuple #[.int .i64 r, .int .i64 0]) ∧ MadeR A B w0 w' tb ss k v r) ∨ (e = .returned (.tuple #[.int .i64 0, .int .i64 21]) ∧ Below B w0 w') := by
  obtain ⟨rfl, hT, hW, hf, hb, hy, hB, hl, hrow, hap, hN, hd, hr⟩ := h
  by_cases hsz : (ss.getD k ByteArray.empty).size = nb
  · cases hrt : Cu.right (ss.getD k ByteArray.empty).data.toList
    · exact (Cube_text hT _ hsz hrt).mono fun e w' ⟨h1, h2⟩ => Or.inr ⟨h1, hb.trans (h2.mono hB)⟩
    · refine (Cube_ok (s := ⟨L, roots, 2, nb, 1048576⟩) A hT hW (Nat.le_refl _) (by show roots.length + 1 ≤ _; omega) hlim _ hsz hrt (hA hsz hrt)).mono ?_
      rintro e w' ⟨r, rfl, ⟨N, t', y', m, hT', hW', hn, hm, hdm, hmv, ha⟩⟩
      obtain ⟨hb', hy'⟩ := moves_out hb hB hy hmv
      have hnl : ns.length = k := by rw [hN.1, hl]
      refine Or.inl ⟨r, rfl, y', L ++ N, roots ++ t', ls, ns, m, hmv.tb, hT', hW', by rw [List.length_append]; have := ha.few; omega, hb', hy', Nat.le_trans hB hmv.size, hl, ?_, ?_, ?_, hnl, ?_, ?_⟩
      · exact row_same hrow fun g hg => hmv.block g (hrow.lt g hg).2 (hap g hg).2 (fun h => h)
      · intro g hg
        refine ⟨(hap g hg).1, fun ho => ?_⟩
        rcases hmv.own g ho with h | h
        · exact (hap g hg).2 h
        · have := (hrow.lt g hg).2; omega
      · refine ⟨by simp [hN.1], fun i q hi => ?_⟩
        rcases Nat.lt_or_ge i k with h | h
        · rw [List.getElem?_append_left (by omega)] at hi
          obtain ⟨m', h1, h2⟩ := hN.2 i q hi
          exact ⟨m', by rw [List.getElem?_append_left (by omega)]; exact h1, node_old h2 _ t'⟩
        · rw [List.getElem?_append_right (by omega), hl] at hi
          have h0 : i - k = 0 := by have := Bd.getElem?_lt hi; simp at this; exact this
          rw [h0] at hi
          simp at hi
          subst hi
          exact ⟨m, by rw [List.getElem?_append_right (by omega), hnl, h0]; rfl, hn⟩
      · intro i m' hi
        rcases Nat.lt_or_ge i k with h | h
        · rw [List.getElem?_append_left (by omega)] at hi
          obtain ⟨h1, h2⟩ := hd i m' hi
          exact ⟨by rw [List.length_append]; omega, by rw [Bd.den_append_old _ _ h1]; exact h2⟩
        · rw [List.getElem?_append_right (by omega), hnl] at hi
          have h0 : i - k = 0 := by have := Bd.getElem?_lt hi; simp at this; exact this
          rw [h0] at hi
          simp at hi
          subst hi
          have hik : i = k := by omega
          rw [hik]
          exact ⟨hm, hdm⟩
      · intro i hi
        rcases Nat.lt_or_ge i k with h | h
        · exact hr i h
        · have : i = k := by omega
          subst this
          exact ⟨hsz, hrt⟩
  · exact (Cube_size hT _ hsz).mono fun e w' ⟨h1, h2⟩ => Or.inr ⟨h1, hb.trans (h2.mono hB)⟩

theorem made_append {nb M : Nat} {A : Bd.Fam nb M} {B : Nat} {w0 w w1 : World} {tb k r g cap : Nat} {ss : List ByteArray} {v : Value} {o : Obj} {ls : List Nat} (h : ∃ y L roots ns m, y.tb = tb ∧ Tab w y ⟨L, roots, 2, nb, 1048576⟩ ∧ Bd.Within A L ∧ roots.length ≤ k + 1 ∧ Below B w0 w ∧ (∀ j, y.own j → B ≤ j) ∧ B ≤ w.heap.size ∧ ls.length = k ∧ w.ownsRow 0 25 1 v k (nums ls) ∧ (∀ g, v.ownBlock = some g → B ≤ g ∧ ¬ y.own g) ∧
    NodesOf ⟨L, roots, 2, nb, 1048576⟩ (ls ++ [r]) (ns ++ [m]) ∧ ns.length = k ∧ (∀ i m', (ns ++ [m])[i]? = some m' → m' < L.length + 2 ∧ Bd.den L m' = suf (ss.getD i ByteArray.empty) 0) ∧ (∀ i, i < k + 1 → (ss.getD i ByteArray.empty).size = nb ∧ Cu.right (ss.getD i ByteArray.empty).data.toList = true))
    (hown : w1.ownsRow 0 25 1 (.slice (some ⟨g, 0, none⟩) (k + 1) cap) (k + 1) (nums ls ++ [i6 r])) (hg : (w.alloc o).grownBy w1 v.ownBlock) (hat : v.ownBlock = some g ∨ g = w.heap.size + 1) :
    ∃ y L roots ls ns, Made A B w0 w1 tb ss (k + 1) (.slice (some ⟨g, 0, none⟩) (k + 1) cap) y L roots ls ns := by
  obtain ⟨y, L, roots, ns, m, e, hT, hW, hf, hb, hy, hB, hl, hrow, hap, hN, hnl, hd, hr⟩ := h
  have old : ∀ j, j < w.heap.size → v.ownBlock ≠ some j → w1.heap[j]? = w.heap[j]? := by
    intro j hj hne
    rw [hg.block j (by simp; omega) (fun e => hne e.symm)]
    exact heap_alloc_old w o hj
  have z : w.heap.size + 1 ≤ w1.heap.size := by have := hg.size; simpa using this
  refine ⟨y, L, roots, ls ++ [r], ns ++ [m], e, hT.same (fun j hj => old j (hT.lt hj) (fun h => (hap j h).2 hj)), hW, hf, ?_, hy, by omega, by simp [hl], ?_, ?_, hN, hd, hr⟩
  · refine ⟨hg.os.trans hb.os, hg.tape.trans hb.tape, hg.output.trans hb.output, Nat.le_trans hb.size (by omega), fun j hj => ?_⟩
    rw [old j (by omega) (fun h => by have := (hap j h).1; omega)]
    exact hb.block j hj
  · rw [nums_snoc]; exact hown
  · intro g' hg'
    have : g' = g := (Option.some.inj hg').symm
    subst this
    rcases hat with h | h
    · exact hap _ h
    · exact ⟨by omega, fun ho => by have := hT.lt ho; omega⟩

theorem made_new (w : World) (nb : Nat) (h1 : 1 ≤ nb) (h2 : nb ≤ 128) {M : Nat} (A : Bd.Fam nb M) (ss : List ByteArray) : Calls Try.prog 13 #[.int .i64 (nb : Int), .int .i64 1048576] w fun e w' => ∃ tb, e = .returned (.tuple #[.pointer (some ⟨tb, 0, none⟩), .int .i64 0]) ∧ ∃ y L roots ls ns, Made A w.heap.size w w' tb ss 0 (.slice none 0 0) y L roots ls ns := by
  refine (New_ok w nb 1048576 h1 h2 (Nat.le_refl _)).mono ?_
  rintro e w' ⟨y, rfl, hT, hb, hy⟩
  exact ⟨y.tb, rfl, y, [], [], [], [], rfl, hT, Bd.within_nil _, Nat.le_refl _, hb, hy, hb.size, rfl, World.ownsRow_nil _ _ _ _, (fun g hg => by cases hg), ⟨rfl, fun i r h => by simp at h⟩, (fun i m h => by simp at h), fun i h => by omega⟩
end Go.Proofs.Ytffngpdngjfcfaa
