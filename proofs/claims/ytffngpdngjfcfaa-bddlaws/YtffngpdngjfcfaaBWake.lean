/-
  The table of the example: two cubes, and what they have in common.
-/
import Derived.Test.YtffngpdngjfcfaaBCube
namespace Go.Proofs.Ytffngpdngjfcfaa
namespace Bd

def pr (k : Nat) : Fn := fun h => h k
def p01 : Fn := fun h => h 0 && h 1

theorem few_of {bits : Nat} {L : List Nd} (hL : Okay bits L) (D : List Fn) (h : ∀ i, i < L.length → den L (i + 2) ∈ D) : L.length ≤ D.length := by
  have hn : ((List.range L.length).map fun i => den L (i + 2)).Nodup := by
    unfold List.Nodup
    rw [List.pairwise_map]
    refine List.Pairwise.imp_of_mem ?_ (List.nodup_range (n := L.length))
    intro a b ha hb hab he
    rw [List.mem_range] at ha hb
    have := canon hL (by omega) (by omega) he
    omega
  have := List.Nodup.length_le_of_subset (l₂ := D) hn (fun f hf => by
    rw [List.mem_map] at hf
    obtain ⟨i, hi, rfl⟩ := hf
    exact h i (List.mem_range.1 hi))
  simpa using this

/-- A node's function hangs on its bit. -/
theorem hangs {bits : Nat} {L : List Nd} (hL : Okay bits L) {i : Nat} {x : Nd} (hx : L[i]? = some x) : cof (den L (i + 2)) x.1 false ≠ cof (den L (i + 2)) x.1 true := by
  have hi := getElem?_lt hx
  obtain ⟨a, b, c, d, e, f⟩ := hL.fit i x hx
  have fl := (from_den hL _ (by omega : x.2.1 < L.length + 2)).mono e
  have fh := (from_den hL _ (by omega : x.2.2 < L.length + 2)).mono f
  rw [den_at hL hx, cof_mux fl fh false, cof_mux fl fh true]
  exact fun he => c (canon hL (by omega) (by omega) he)

/-- Functions of two bits. -/
def twoFam (S0 S1 : List Fn) (h1 : ∀ f, f ∈ S1 → From 1 f) (g0 : ∀ f, f ∈ S0 → ∀ b, cof f 0 b ∈ S1) (g1 : ∀ f, f ∈ S1 → ∀ b, cof f 1 b = ff ∨ cof f 1 b = tt) (l0 : S0.length ≤ 5) (l1 : S1.length ≤ 5) : Fam 2 5 where
  F k f := (k = 0 ∧ f ∈ S0) ∨ (k = 1 ∧ f ∈ S1) ∨ (2 ≤ k ∧ (f = ff ∨ f = tt))
  dep k f h := by
    rcases h with ⟨rfl, _⟩ | ⟨rfl, h⟩ | ⟨_, rfl | rfl⟩
    · intro a b hab
      rw [show a = b from funext fun j => hab j (Nat.zero_le _)]
    · exact h1 f h
    · exact from_ff _
    · exact from_tt _
  go k f b hk h := by
    rcases h with ⟨rfl, h⟩ | ⟨rfl, h⟩ | ⟨h, _⟩
    · exact Or.inr (Or.inl ⟨rfl, g0 f h b⟩)
    · exact Or.inr (Or.inr ⟨Nat.le_refl _, g1 f h b⟩)
    · omega
  en k j := if k = 0 then S0.getD j ff else S1.getD j ff
  all k f hk h := by
    have key : ∀ S : List Fn, S.length ≤ 5 → f ∈ S → ∃ j, j < 5 ∧ f = S.getD j ff := by
      intro S hS hf
      obtain ⟨j, hj, e⟩ := List.mem_iff_getElem.1 hf
      refine ⟨j, by omega, ?_⟩
      rw [List.getD_eq_getElem?_getD, List.getElem?_eq_getElem hj, e]; rfl
    rcases h with ⟨rfl, h⟩ | ⟨rfl, h⟩ | ⟨h, _⟩
    · exact key S0 l0 h
    · exact key S1 l1 h
    · omega

theorem cof_const (f : Fn) (k : Nat) (h : f = ff ∨ f = tt) : cof f k false = cof f k true := by rcases h with rfl | rfl <;> rfl
theorem from_pr : From 1 (pr 1) := fun _ _ h => h 1 (Nat.le_refl _)

def A1 : Fam 2 5 := twoFam [pr 0] [ff, tt] (fun f h => by simp at h; rcases h with rfl | rfl; exact from_ff _; exact from_tt _)
  (fun f h b => by simp at h; subst h; cases b; exact List.mem_cons_self; exact List.mem_cons_of_mem _ List.mem_cons_self)
  (fun f h b => by simp at h; rcases h with rfl | rfl; exact Or.inl rfl; exact Or.inr rfl) (by simp) (by simp)
def A2 : Fam 2 5 := twoFam [pr 0, pr 1] [pr 1, ff, tt] (fun f h => by simp at h; rcases h with rfl | rfl | rfl; exact from_pr; exact from_ff _; exact from_tt _)
  (fun f h b => by
    simp at h
    rcases h with rfl | rfl
    · cases b
      · exact List.mem_cons_of_mem _ List.mem_cons_self
      · exact List.mem_cons_of_mem _ (List.mem_cons_of_mem _ List.mem_cons_self)
    · rw [show cof (pr 1) 0 b = pr 1 by funext h; unfold cof pr; exact setb_other _ _ _ (by omega)]; exact List.mem_cons_self)
  (fun f h b => by simp at h; rcases h with rfl | rfl | rfl; cases b; exact Or.inl rfl; exact Or.inr rfl; exact Or.inl rfl; exact Or.inr rfl) (by simp) (by simp)
def A3 : Fam 2 5 := twoFam [pr 0, p01] [pr 1, ff, tt] (fun f h => by simp at h; rcases h with rfl | rfl | rfl; exact from_pr; exact from_ff _; exact from_tt _)
  (fun f h b => by
    simp at h
    rcases h with rfl | rfl
    · cases b
      · exact List.mem_cons_of_mem _ List.mem_cons_self
      · exact List.mem_cons_of_mem _ (List.mem_cons_of_mem _ List.mem_cons_self)
    · cases b
      · exact List.mem_cons_of_mem _ List.mem_cons_self
      · rw [show cof p01 0 true = pr 1 by funext h; simp [cof, p01, pr, setb]]; exact List.mem_cons_self)
  (fun f h b => by simp at h; rcases h with rfl | rfl | rfl; cases b; exact Or.inl rfl; exact Or.inr rfl; exact Or.inl rfl; exact Or.inr rfl) (by simp) (by simp)

/-- The functions of the nodes of a table of two bits. -/
theorem two_in {L : List Nd} (hL : Okay 2 L) {S0 S1 : List Fn} {h1 g0 g1 l0 l1} (hW : Within (twoFam S0 S1 h1 g0 g1 l0 l1) L) {i : Nat} (hi : i < L.length) :
    (den L (i + 2) ∈ S0 ∧ cof (den L (i + 2)) 0 false ≠ cof (den L (i + 2)) 0 true) ∨ (den L (i + 2) ∈ S1 ∧ cof (den L (i + 2)) 1 false ≠ cof (den L (i + 2)) 1 true) := by
  have hx : L[i]? = some L[i] := List.getElem?_eq_getElem hi
  have hh := hangs hL hx
  rcases hW i _ hx with ⟨e, h⟩ | ⟨e, h⟩ | ⟨e, h⟩
  · rw [e] at hh; exact Or.inl ⟨h, hh⟩
  · rw [e] at hh; exact Or.inr ⟨h, hh⟩
  · exact absurd (cof_const _ _ h) hh

def v2 (a b : Bool) : Nat → Bool := fun k => if k = 0 then a else b

theorem one_node {L : List Nd} (hL : Okay 2 L) (hW : Within A1 L) {m : Nat} (hm : m < L.length + 2) (hd : den L m = pr 0) : L = [(0, 0, 1)] ∧ m = 2 := by
  have hle : L.length ≤ 1 := few_of hL [pr 0] fun i hi => by
    rcases two_in hL hW hi with ⟨h, _⟩ | ⟨h, h2⟩
    · exact h
    · simp at h; exact absurd (cof_const _ _ h) h2
  have e1 := congrFun hd (v2 true false)
  have e2 := congrFun hd (v2 false true)
  have e3 := congrFun hd (v2 false false)
  have hm2 : 2 ≤ m := by
    rcases Nat.lt_or_ge m 2 with h | h
    · have : m = 0 ∨ m = 1 := by omega
      rcases this with rfl | rfl
      · rw [den_zero] at e1; cases e1
      · rw [den_one] at e2; cases e2
    · exact h
  have hme : m = 2 := by omega
  subst hme
  match L, hL, hd, e1, e2, e3, hm, hle with
  | [], _, _, _, _, _, hm, _ => simp at hm
  | [(b, lo, hi)], hL, hd, e1, e2, e3, _, _ =>
    obtain ⟨a1, a2, a3, a4, _, _⟩ := hL.fit 0 (b, lo, hi) rfl
    simp only at a1 a2 a3 a4
    have hb : b = 0 ∨ b = 1 := by omega
    have hl : lo = 0 ∨ lo = 1 := by omega
    have hh : hi = 0 ∨ hi = 1 := by omega
    clear hd hL
    rcases hb with rfl | rfl <;> rcases hl with rfl | rfl <;> rcases hh with rfl | rfl <;> first | exact ⟨rfl, rfl⟩ | (exfalso; revert e1 e2 e3 a3; decide)
  | _ :: _ :: _, _, _, _, _, _, _, hle => simp at hle

theorem two_nodes {N : List Nd} (hL : Okay 2 ([(0, 0, 1)] ++ N)) (hW : Within A2 ([(0, 0, 1)] ++ N)) {m : Nat} (hm : m < ([(0, 0, 1)] ++ N).length + 2) (hd : den ([(0, 0, 1)] ++ N) m = pr 1) : N = [(1, 0, 1)] ∧ m = 3 := by
  have hle : ([(0, 0, 1)] ++ N).length ≤ 2 := few_of hL [pr 0, pr 1] fun i hi => by
    rcases two_in hL hW hi with ⟨h, _⟩ | ⟨h, h2⟩
    · exact h
    · simp only [List.mem_cons, List.not_mem_nil, or_false] at h
      rcases h with h | h
      · rw [h]; exact List.mem_cons_of_mem _ List.mem_cons_self
      · exact absurd (cof_const _ _ h) h2
  have e1 := congrFun hd (v2 true false)
  have e2 := congrFun hd (v2 false true)
  have e3 := congrFun hd (v2 false false)
  have e4 := congrFun hd (v2 true true)
  have hm2 : 3 ≤ m := by
    rcases Nat.lt_or_ge m 3 with h | h
    · rw [den_append_old _ _ (by simpa using h)] at e1 e2 e3
      have : m = 0 ∨ m = 1 ∨ m = 2 := by omega
      rcases this with rfl | rfl | rfl <;> (exfalso; revert e1 e2 e3; decide)
    · exact h
  simp only [List.length_append, List.length_cons, List.length_nil] at hm hle
  have hme : m = 3 := by omega
  subst hme
  match N, hL, hd, e1, e2, e3, e4, hm, hle with
  | [], _, _, _, _, _, _, hm, _ => simp at hm
  | [(b, lo, hi)], hL, hd, e1, e2, e3, e4, _, _ =>
    obtain ⟨a1, a2, a3, a4, a5, a6⟩ := hL.fit 1 (b, lo, hi) rfl
    simp only at a1 a2 a3 a4 a5 a6
    have hb : b = 0 ∨ b = 1 := by omega
    have hl : lo = 0 ∨ lo = 1 ∨ lo = 2 := by omega
    have hh : hi = 0 ∨ hi = 1 ∨ hi = 2 := by omega
    clear hd hL
    rcases hb with rfl | rfl <;> rcases hl with rfl | rfl | rfl <;> rcases hh with rfl | rfl | rfl <;> first | exact ⟨rfl, rfl⟩ | (exfalso; revert e1 e2 e3 e4 a3 a5 a6; decide)
  | _ :: _ :: _, _, _, _, _, _, _, _, hle => simp at hle; omega

theorem three_nodes {N : List Nd} (hL : Okay 2 ([(0, 0, 1), (1, 0, 1)] ++ N)) (hW : Within A3 ([(0, 0, 1), (1, 0, 1)] ++ N)) {m : Nat} (hm : m < ([(0, 0, 1), (1, 0, 1)] ++ N).length + 2) (hd : den ([(0, 0, 1), (1, 0, 1)] ++ N) m = p01) : N = [(0, 0, 3)] ∧ m = 4 := by
  have hle : ([(0, 0, 1), (1, 0, 1)] ++ N).length ≤ 3 := few_of hL [pr 0, p01, pr 1] fun i hi => by
    rcases two_in hL hW hi with ⟨h, _⟩ | ⟨h, h2⟩
    · simp only [List.mem_cons, List.not_mem_nil, or_false] at h
      rcases h with h | h
      · rw [h]; exact List.mem_cons_self
      · rw [h]; exact List.mem_cons_of_mem _ List.mem_cons_self
    · simp only [List.mem_cons, List.not_mem_nil, or_false] at h
      rcases h with h | h
      · rw [h]; exact List.mem_cons_of_mem _ (List.mem_cons_of_mem _ List.mem_cons_self)
      · exact absurd (cof_const _ _ h) h2
  have e1 := congrFun hd (v2 true false)
  have e2 := congrFun hd (v2 false true)
  have e3 := congrFun hd (v2 false false)
  have e4 := congrFun hd (v2 true true)
  have hm2 : 4 ≤ m := by
    rcases Nat.lt_or_ge m 4 with h | h
    · rw [den_append_old _ _ (by simpa using h)] at e1 e2 e3 e4
      have : m = 0 ∨ m = 1 ∨ m = 2 ∨ m = 3 := by omega
      rcases this with rfl | rfl | rfl | rfl <;> (exfalso; revert e1 e2 e3 e4; decide)
    · exact h
  simp only [List.length_append, List.length_cons, List.length_nil] at hm hle
  have hme : m = 4 := by omega
  subst hme
  match N, hL, hd, e1, e2, e3, e4, hm, hle with
  | [], _, _, _, _, _, _, hm, _ => simp at hm
  | [(b, lo, hi)], hL, hd, e1, e2, e3, e4, _, _ =>
    obtain ⟨a1, a2, a3, a4, a5, a6⟩ := hL.fit 2 (b, lo, hi) rfl
    simp only at a1 a2 a3 a4 a5 a6
    have hb : b = 0 ∨ b = 1 := by omega
    have hl : lo = 0 ∨ lo = 1 ∨ lo = 2 ∨ lo = 3 := by omega
    have hh : hi = 0 ∨ hi = 1 ∨ hi = 2 ∨ hi = 3 := by omega
    clear hd hL
    rcases hb with rfl | rfl <;> rcases hl with rfl | rfl | rfl | rfl <;> rcases hh with rfl | rfl | rfl | rfl <;> first | exact ⟨rfl, rfl⟩ | (exfalso; revert e1 e2 e3 e4 a3 a5 a6; decide)
  | _ :: _ :: _, _, _, _, _, _, _, _, hle => simp at hle; omega
end Bd

theorem suf_1x : suf ⟨#[49, 120]⟩ 0 = Bd.pr 0 := by
  funext h
  unfold suf Bd.pr
  show (List.range 2).all _ = _
  simp [List.range_succ]
theorem suf_x1 : suf ⟨#[120, 49]⟩ 0 = Bd.pr 1 := by
  funext h
  unfold suf Bd.pr
  show (List.range 2).all _ = _
  simp [List.range_succ]
theorem and_p01 : Bd.iteF (Bd.pr 0) (Bd.pr 1) Bd.ff = Bd.p01 := by
  funext h
  unfold Bd.iteF Bd.pr Bd.p01 Bd.ff
  cases h 0 <;> rfl
end Go.Proofs.Ytffngpdngjfcfaa
