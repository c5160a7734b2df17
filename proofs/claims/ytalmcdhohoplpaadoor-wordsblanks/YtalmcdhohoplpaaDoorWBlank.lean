/-
  Words with blanks ahead of each, a remark behind them: how they are read. No program is named here.
-/
import Derived.Test.YtalmcdhohoplpaaDoorWGlue
namespace Go.Proofs.YtalmcdhohoplpaaDoor
namespace Wo

/-- What begins with a blank, or is empty. -/
def opens (r : List UInt8) : Prop := r = [] ∨ ∃ t, r = 32 :: t
/-- A text that is read as these words, whatever follows behind a blank. -/
def Wide (t : List UInt8) (ws : List (List UInt8)) : Prop :=
  ∀ r c, opens r → (tk (t ++ r) c).1.map (·.1) = ws ++ (tk r (c + t.length)).1.map (·.1) ∧ (tk (t ++ r) c).2 = (tk r (c + t.length)).2
theorem Wide.nil : Wide [] [] := fun r c _ => by simp
theorem tk_tabs (j : Nat) (l : List UInt8) (c : Nat) : tk (List.replicate j 9 ++ l) c = tk l (c + j) := by
  induction j generalizing c with
  | zero => simp
  | succ j ih =>
    show tk (9 :: (List.replicate j 9 ++ l)) c = _
    rw [tk_blank 9 _ _ (by decide) (by decide), ih]
    congr 1; omega
theorem Wide.snoc {t : List UInt8} {ws : List (List UInt8)} (h : Wide t ws) {x : List UInt8} (hx : isW x = true) (j : Nat) : Wide (t ++ (32 :: (List.replicate j 9 ++ x))) (ws ++ [x]) := by
  intro r c hr
  have e : t ++ (32 :: (List.replicate j 9 ++ x)) ++ r = t ++ (32 :: (List.replicate j 9 ++ (x ++ r))) := by simp
  have hf : fst (x ++ r) = x.length := by
    refine fst_blank hx r ?_
    rcases hr with rfl | ⟨u, rfl⟩
    · exact Or.inl rfl
    · exact Or.inr ⟨32, u, rfl, blank_plain.1, blank_plain.2⟩
  have h1 := h (32 :: (List.replicate j 9 ++ (x ++ r))) c (Or.inr ⟨_, rfl⟩)
  rw [tk_blank 32 _ _ (by decide) (by decide), tk_tabs, tk_first hx hf] at h1
  have ec : c + t.length + 1 + j + x.length = c + (t ++ (32 :: (List.replicate j 9 ++ x))).length := by
    simp only [List.length_append, List.length_cons, List.length_replicate]; omega
  rw [ec] at h1
  rw [e]
  refine ⟨?_, h1.2⟩
  rw [h1.1]
  simp

/-- No end of a line in it. -/
def one (t : List UInt8) : Prop := ∀ a ∈ t, a.toNat ≠ 10
theorem one_app {a b : List UInt8} (ha : one a) (hb : one b) : one (a ++ b) := fun x hx => by
  rcases List.mem_append.1 hx with h | h
  · exact ha x h
  · exact hb x h
theorem one_tabs (j : Nat) : one (List.replicate j 9) := fun x hx => by rw [List.eq_of_mem_replicate hx]; decide
theorem one_cons {a : UInt8} {t : List UInt8} (h : a.toNat ≠ 10) (ht : one t) : one (a :: t) := fun x hx => by
  rcases List.mem_cons.1 hx with rfl | hx
  · exact h
  · exact ht x hx
theorem one_word {x : List UInt8} (h : isW x = true) : one x := fun a ha => (isW_bytes h a ha).1
theorem one_snoc {t : List UInt8} (h : one t) {x : List UInt8} (hx : isW x = true) (j : Nat) : one (t ++ (32 :: (List.replicate j 9 ++ x))) :=
  one_app h (one_cons (by decide) (one_app (one_tabs j) (one_word hx)))

/-- A remark without ends of lines. -/
def rem (l : List UInt8) : List UInt8 := l.filter fun a => a.toNat != 10
theorem rem_one (l : List UInt8) : one (rem l) := fun x hx => by
  have := (List.mem_filter.1 hx).2
  simpa using this
theorem rem_snoc (l : List UInt8) (a : UInt8) : rem (l ++ [a]) = rem l ++ (if a.toNat = 10 then [] else [a]) := by
  unfold rem
  rw [List.filter_append]
  congr 1
  by_cases h : a.toNat = 10 <;> simp [h]
theorem rem_len (l : List UInt8) : (rem l).length ≤ l.length := List.length_filter_le _ _

/-- Words, a remark, an end of a line: read as the words (P3.5). -/
theorem read_wide {t : List UInt8} {ws : List (List UInt8)} (h : Wide t ws) (ho : one t) (hw : ws ≠ []) {u : List UInt8} (hu : one u) :
    err (t ++ [32, 35] ++ u ++ [10]) = 0 ∧ faultL (t ++ [32, 35] ++ u ++ [10]) = 0 ∧ faultC (t ++ [32, 35] ++ u ++ [10]) = 0 ∧ ∃ xs, read (t ++ [32, 35] ++ u ++ [10]) = [xs] ∧ xs.map (·.1) = ws ∧ ∀ x ∈ xs, x.2.1 = 1 := by
  have e : t ++ [32, 35] ++ u ++ [10] = (t ++ (32 :: 35 :: u)) ++ 10 :: [] := by simp
  have h10 : one (t ++ (32 :: 35 :: u)) := one_app ho (one_cons (by decide) (one_cons (by decide) hu))
  have hl : lns (t ++ [32, 35] ++ u ++ [10]) = [t ++ (32 :: 35 :: u), []] := by
    rw [e, lns_cut _ [] 10 h10 rfl]; rfl
  have h1 := h (32 :: 35 :: u) 1 (Or.inr ⟨_, rfl⟩)
  rw [tk_blank 32 _ _ (by decide) (by decide), tk_hash 35 _ _ (by decide)] at h1
  simp only [List.map_nil, List.append_nil] at h1
  have hne : (tk (t ++ (32 :: 35 :: u)) 1).1 ≠ [] := fun e => by
    have := h1.1
    rw [e] at this
    exact hw this.symm
  have hr : rd (lns (t ++ [32, 35] ++ u ++ [10])) 1 = ([wds 1 (tk (t ++ (32 :: 35 :: u)) 1).1], none) := by
    rw [hl, rd_some h1.2 hne, rd_none (l := []) (by rfl) (by rfl)]
    rfl
  unfold err faultL faultC read
  rw [hr]
  refine ⟨rfl, rfl, rfl, _, rfl, ?_, ?_⟩
  · unfold wds
    rw [List.map_map]
    exact h1.1
  · intro x hx
    unfold wds at hx
    obtain ⟨p, _, rfl⟩ := List.mem_map.1 hx
    rfl
end Wo
end Go.Proofs.YtalmcdhohoplpaaDoor
