/-
  Words one behind the other: where a blank must stand between two, and that what is said is read as it was said. No program is named here.
-/
import Derived.Test.YtalmcdhohoplpaaDoorWMath
namespace Go.Proofs.YtalmcdhohoplpaaDoor
namespace Wo

/-- Is it a word? -/
def isW (l : List UInt8) : Bool := decide (l ≠ [] ∧ fst l = l.length)
/-- Must a blank stand between two words? -/
def glue (a b : List UInt8) : Bool := decide (fst (a ++ b) ≠ a.length)
theorem isW_ne {l : List UInt8} (h : isW l = true) : l ≠ [] := (of_decide_eq_true h).1
theorem isW_len {l : List UInt8} (h : isW l = true) : fst l = l.length := (of_decide_eq_true h).2

/-- The first byte of a word is a letter or a sign. -/
theorem fst_head {a : UInt8} {t : List UInt8} (h : fst (a :: t) ≠ 0) : ltr a.toNat = true ∨ sgl a.toNat = true := by
  cases t with
  | nil =>
    rw [fst_one] at h
    split at h
    · right; assumption
    · rw [lets_cons] at h
      split at h
      · left; simp_all
      · exact absurd rfl h
  | cons b t =>
    rw [fst_two] at h
    split at h
    · rename_i hd
      simp only [dbl, Bool.or_eq_true, Bool.and_eq_true, beq_iff_eq] at hd
      rcases hd with ((h | h) | h) | h <;> rw [h.1]
      · right; rfl
      · right; rfl
      · right; rfl
      · left; rfl
    · split at h
      · right; assumption
      · rw [lets_cons] at h
        split at h
        · left; simp_all
        · exact absurd rfl h
theorem head_plain {x : Nat} (h : ltr x = true ∨ sgl x = true) : x ≠ 35 ∧ blk x = false ∧ x ≠ 10 := by
  rcases h with h | h
  · have := of_decide_eq_true h
    refine ⟨by omega, ?_, by omega⟩
    unfold blk
    rw [Bool.or_eq_false_iff, beq_eq_false_iff_ne, beq_eq_false_iff_ne]
    omega
  · simp [sgl] at h
    rcases h with h | h | h | h | h | h | h | h | h | h | h | h <;> subst h <;> decide
theorem ltr_sgl {x : Nat} (h : ltr x = true) : sgl x = false := by
  have := of_decide_eq_true h
  cases hs : sgl x with
  | false => rfl
  | true => simp [sgl] at hs; omega
theorem ltr_dbl {x y : Nat} (h : ltr x = true) : dbl x y = (x == 45 && y == 62) := by
  have := of_decide_eq_true h
  unfold dbl
  have h1 : (x == 61) = false := by rw [beq_eq_false_iff_ne]; omega
  have h2 : (x == 60) = false := by rw [beq_eq_false_iff_ne]; omega
  have h3 : (x == 62) = false := by rw [beq_eq_false_iff_ne]; omega
  rw [h1, h2, h3]; simp

/-- Two texts side by side whose joint would be a sign ->. -/
def joint (a b : List UInt8) : Bool := a.getLast?.map UInt8.toNat == some 45 && b.head?.map UInt8.toNat == some 62
theorem lets_app (a r : List UInt8) (h : lets a = a.length) (hj : joint a r = false) : lets (a ++ r) = a.length + lets r := by
  induction a with
  | nil => simp
  | cons x t ih =>
    rw [lets_cons] at h
    split at h
    · rename_i hx
      simp only [List.length_cons] at h
      simp only [Bool.and_eq_true, Bool.not_eq_true'] at hx
      have hjt : joint t r = false ∨ t = [] := by
        cases t with
        | nil => right; rfl
        | cons y t => left; simpa [joint, List.getLast?_cons_cons] using hj
      have ha : arr (x :: (t ++ r)) = false := by
        cases t with
        | nil =>
          cases r with
          | nil => rfl
          | cons z r => simpa [joint, arr] using hj
        | cons y t => exact hx.2
      show lets (x :: (t ++ r)) = _
      rw [lets_cons, if_pos (by rw [hx.1, ha]; rfl)]
      have e : lets (t ++ r) = t.length + lets r := by
        rcases hjt with hjt | rfl
        · exact ih (by omega) hjt
        · simp
      rw [e, List.length_cons]; omega
    · simp at h
theorem lets_joint (a r : List UInt8) (h : lets a = a.length) (hj : joint a r = true) : lets (a ++ r) < a.length := by
  induction a with
  | nil => simp [joint] at hj
  | cons x t ih =>
    rw [lets_cons] at h
    split at h
    · rename_i hx
      simp only [List.length_cons] at h
      simp only [Bool.and_eq_true, Bool.not_eq_true'] at hx
      show lets (x :: (t ++ r)) < _
      cases t with
      | nil =>
        cases r with
        | nil => simp [joint] at hj
        | cons z r =>
          have ha : arr (x :: ([] ++ z :: r)) = true := by simpa [joint, arr] using hj
          rw [lets_cons, if_neg (by rw [ha]; simp)]; simp
      | cons y t =>
        have hjt : joint (y :: t) r = true := by simpa [joint, List.getLast?_cons_cons] using hj
        have := ih (by omega) hjt
        rw [lets_cons]
        split <;> simp at this ⊢ <;> omega
    · simp at h

/-- A word is a sign of one byte, one of two, or letters alone. -/
theorem isW_kinds {a : List UInt8} (h : isW a = true) : (∃ x, a = [x] ∧ sgl x.toNat = true) ∨ (∃ x y, a = [x, y] ∧ dbl x.toNat y.toNat = true) ∨ (lets a = a.length ∧ ∃ x t, a = x :: t ∧ ltr x.toNat = true ∧ arr a = false) := by
  have hl := isW_len h
  match a, isW_ne h, hl with
  | [x], _, hl =>
    rw [fst_one] at hl
    split at hl
    · left; exact ⟨x, rfl, by assumption⟩
    · right; right
      refine ⟨hl, x, [], rfl, ?_, rfl⟩
      rw [lets_cons] at hl
      split at hl
      · simp_all
      · simp at hl
  | x :: y :: t, _, hl =>
    rw [fst_two] at hl
    split at hl
    · right; left
      have : t = [] := List.length_eq_zero_iff.1 (by simp only [List.length_cons] at hl; omega)
      subst this
      exact ⟨x, y, rfl, by assumption⟩
    · split at hl
      · simp at hl
      · right; right
        refine ⟨hl, x, y :: t, rfl, ?_⟩
        rw [lets_cons] at hl
        split at hl
        · simp_all
        · simp at hl

theorem fst_of_ltr {x : UInt8} {t : List UInt8} (h : ltr x.toNat = true) (ha : arr (x :: t) = false) : fst (x :: t) = lets (x :: t) := by
  cases t with
  | nil => rw [fst_one, ltr_sgl h]; rfl
  | cons y t =>
    rw [fst_two, ltr_dbl h, ltr_sgl h]
    have : (x.toNat == 45 && y.toNat == 62) = false := ha
    rw [this]; rfl

/-- What follows a word without a change of how it is read: nothing, a blank, or a word that need not be apart. -/
theorem fst_blank {a : List UInt8} (h : isW a = true) (r : List UInt8) (hr : r = [] ∨ ∃ x t, r = x :: t ∧ ltr x.toNat = false ∧ sgl x.toNat = false) : fst (a ++ r) = a.length := by
  rcases isW_kinds h with ⟨x, rfl, hs⟩ | ⟨x, y, rfl, hd⟩ | ⟨hl, x, t, rfl, hx, ha⟩
  · rcases hr with rfl | ⟨b, t, rfl, h1, h2⟩
    · exact isW_len h
    · show fst (x :: b :: t) = 1
      rw [fst_two, hs]
      have : dbl x.toNat b.toNat = false := by
        cases hq : dbl x.toNat b.toNat with
        | false => rfl
        | true =>
          simp only [dbl, Bool.or_eq_true, Bool.and_eq_true, beq_iff_eq] at hq
          rcases hq with ((q | q) | q) | q <;> (rw [q.2] at h2; exact absurd h2 (by decide))
      rw [this]; rfl
  · show fst (x :: y :: r) = 2
    rw [fst_two, hd]; rfl
  · have hj : joint (x :: t) r = false := by
      rcases hr with rfl | ⟨b, t', rfl, h1, h2⟩
      · simp [joint]
      · have : b.toNat ≠ 62 := by intro e; rw [e] at h2; exact absurd h2 (by decide)
        simp [joint, this]
    have hlr : lets r = 0 := by
      rcases hr with rfl | ⟨b, t', rfl, h1, h2⟩
      · rfl
      · rw [lets_cons, h1]; rfl
    have e := lets_app _ _ hl hj
    have ha' : arr (x :: (t ++ r)) = false := by
      cases t with
      | nil =>
        rcases hr with rfl | ⟨b, t', rfl, h1, h2⟩
        · rfl
        · simpa [joint, arr] using hj
      | cons y t => exact ha
    show fst (x :: (t ++ r)) = _
    rw [fst_of_ltr hx ha']
    show lets ((x :: t) ++ r) = _
    rw [e, hlr]; rfl

theorem fst_touch {a b : List UInt8} (ha : isW a = true) (hb : isW b = true) (hg : glue a b = false) (r : List UInt8) : fst (a ++ (b ++ r)) = a.length := by
  have hg' : fst (a ++ b) = a.length := Decidable.not_not.1 (of_decide_eq_false hg)
  obtain ⟨z, u, rfl⟩ : ∃ z u, b = z :: u := by
    cases b with
    | nil => exact absurd rfl (isW_ne hb)
    | cons z u => exact ⟨z, u, rfl⟩
  rcases isW_kinds ha with ⟨x, rfl, hs⟩ | ⟨x, y, rfl, hd⟩ | ⟨hl, x, t, rfl, hx, har⟩
  · have e1 : fst (x :: z :: u) = 1 := hg'
    show fst (x :: z :: (u ++ r)) = 1
    rw [fst_two] at e1 ⊢
    rw [hs] at e1 ⊢
    split
    · rename_i h; rw [if_pos h] at e1; omega
    · rfl
  · show fst (x :: y :: _) = 2
    rw [fst_two, hd]; rfl
  · have e1 : fst (x :: (t ++ z :: u)) = t.length + 1 := hg'
    have ha1 : arr (x :: (t ++ z :: u)) = false := by
      cases t with
      | nil =>
        cases hq : arr (x :: ([] ++ z :: u)) with
        | false => rfl
        | true =>
          have hd : dbl x.toNat z.toNat = true := by rw [ltr_dbl hx]; exact hq
          have e1' : fst (x :: z :: u) = 1 := e1
          rw [fst_two, hd, if_pos rfl] at e1'
          omega
      | cons y t => exact har
    rw [fst_of_ltr hx ha1] at e1
    have hj : joint (x :: t) (z :: u) = false := by
      cases hq : joint (x :: t) (z :: u) with
      | false => rfl
      | true =>
        have := lets_joint _ _ hl hq
        have e1' : lets (x :: t ++ z :: u) = t.length + 1 := e1
        simp only [List.length_cons] at this; omega
    have hj2 : joint (x :: t) ((z :: u) ++ r) = false := hj
    have e2 := lets_app _ _ hl hj
    have e1' : lets (x :: t ++ z :: u) = t.length + 1 := e1
    have hz : lets (z :: u) = 0 := by simp only [List.length_cons] at e2; omega
    have hz2 : lets ((z :: u) ++ r) = 0 := by
      rw [lets_cons] at hz
      show lets (z :: (u ++ r)) = 0
      rw [lets_cons]
      split at hz
      · omega
      · rename_i hn
        rw [if_neg ?_]
        intro hc
        simp only [Bool.and_eq_true, Bool.not_eq_true', not_and, Bool.not_eq_false] at hn hc
        have h2 := hn hc.1
        cases u with
        | nil => simp [arr] at h2
        | cons v u =>
          have : arr (z :: (v :: u ++ r)) = arr (z :: v :: u) := rfl
          rw [this, h2] at hc
          exact absurd hc.2 (by simp)
    have ha2 : arr (x :: (t ++ (z :: u ++ r))) = false := by
      cases t with
      | nil => exact ha1
      | cons y t => exact har
    show fst (x :: (t ++ (z :: u ++ r))) = _
    rw [fst_of_ltr hx ha2]
    show lets ((x :: t) ++ (z :: u ++ r)) = _
    rw [lets_app _ _ hl hj2, hz2]; rfl

/-- What follows a word: the others, each apart where it must be. -/
def joinT : List UInt8 → List (List UInt8) → List UInt8
  | _, [] => []
  | a, b :: r => (if glue a b then 32 :: b else b) ++ joinT b r
def sayL : List (List UInt8) → List UInt8
  | [] => []
  | a :: r => a ++ joinT a r

theorem tk_first {a r : List UInt8} {c : Nat} (h : isW a = true) (hf : fst (a ++ r) = a.length) : tk (a ++ r) c = ((a, c) :: (tk r (c + a.length)).1, (tk r (c + a.length)).2) := by
  obtain ⟨x, t, rfl⟩ : ∃ x t, a = x :: t := by
    cases a with
    | nil => exact absurd rfl (isW_ne h)
    | cons x t => exact ⟨x, t, rfl⟩
  have h0 : fst (x :: (t ++ r)) ≠ 0 := by
    have : fst (x :: (t ++ r)) = (x :: t).length := hf
    rw [this]; simp
  obtain ⟨p1, p2, _⟩ := head_plain (fst_head h0)
  have e := tk_word x (t ++ r) c p1 p2 h0
  have hf' : fst (x :: (t ++ r)) = (x :: t).length := hf
  rw [hf'] at e
  have e1 : (x :: (t ++ r)).take (x :: t).length = x :: t := List.take_left (l₁ := x :: t) (l₂ := r)
  have e2 : (x :: (t ++ r)).drop (x :: t).length = r := List.drop_left (l₁ := x :: t) (l₂ := r)
  rw [e1, e2] at e
  exact e

theorem blank_plain : ltr 32 = false ∧ sgl 32 = false := by decide
theorem tk_join (a : List UInt8) (ls : List (List UInt8)) (c : Nat) (ha : isW a = true) (h : ∀ l ∈ ls, isW l = true) : (tk (a ++ joinT a ls) c).1.map (·.1) = a :: ls ∧ (tk (a ++ joinT a ls) c).2 = none := by
  induction ls generalizing a c with
  | nil =>
    have e : joinT a [] = [] := rfl
    rw [e, tk_first ha (fst_blank ha [] (Or.inl rfl)), tk_nil]
    exact ⟨rfl, rfl⟩
  | cons b r ih =>
    have hb := h b (by simp)
    have hr : ∀ l ∈ r, isW l = true := fun l hl => h l (List.mem_cons_of_mem _ hl)
    have e : joinT a (b :: r) = (if glue a b then 32 :: b else b) ++ joinT b r := rfl
    rw [e]
    cases hg : glue a b with
    | true =>
      rw [if_pos rfl]
      show (tk (a ++ (32 :: (b ++ joinT b r))) c).1.map _ = _ ∧ (tk (a ++ (32 :: (b ++ joinT b r))) c).2 = _
      rw [tk_first ha (fst_blank ha _ (Or.inr ⟨32, _, rfl, blank_plain.1, blank_plain.2⟩)), tk_blank 32 _ _ (by decide) (by decide)]
      have := ih b (c + a.length + 1) hb hr
      exact ⟨by simp only [List.map_cons]; rw [this.1], this.2⟩
    | false =>
      rw [if_neg (by simp)]
      rw [tk_first ha (fst_touch ha hb hg _)]
      have := ih b (c + a.length) hb hr
      exact ⟨by simp only [List.map_cons]; rw [this.1], this.2⟩

/-- No byte of a word is a blank, a #, an end of a line. -/
theorem isW_bytes {a : List UInt8} (h : isW a = true) : ∀ x ∈ a, x.toNat ≠ 10 ∧ x.toNat ≠ 35 := by
  have key : ∀ l : List UInt8, lets l = l.length → ∀ x ∈ l, ltr x.toNat = true := by
    intro l
    induction l with
    | nil => simp
    | cons y t ih =>
      intro hl x hx
      rw [lets_cons] at hl
      split at hl
      · rename_i hy
        simp only [Bool.and_eq_true] at hy
        rcases List.mem_cons.1 hx with rfl | hx
        · exact hy.1
        · exact ih (by simp at hl; omega) x hx
      · simp at hl
  rcases isW_kinds h with ⟨x, rfl, hs⟩ | ⟨x, y, rfl, hd⟩ | ⟨hl, _⟩
  · intro z hz
    rw [List.mem_singleton] at hz
    subst hz
    have := head_plain (Or.inr hs)
    exact ⟨this.2.2, this.1⟩
  · intro z hz
    simp only [dbl, Bool.or_eq_true, Bool.and_eq_true, beq_iff_eq] at hd
    simp only [List.mem_cons, List.not_mem_nil, or_false] at hz
    rcases hz with rfl | rfl <;> omega
  · intro z hz
    have := head_plain (Or.inl (key a hl z hz))
    exact ⟨this.2.2, this.1⟩
theorem join_bytes (a : List UInt8) (ls : List (List UInt8)) (h : ∀ l ∈ ls, isW l = true) : ∀ x ∈ joinT a ls, x.toNat ≠ 10 := by
  induction ls generalizing a with
  | nil => intro x hx; exact absurd hx (by simp [joinT])
  | cons b r ih =>
    intro x hx
    have e : joinT a (b :: r) = (if glue a b then 32 :: b else b) ++ joinT b r := rfl
    rw [e, List.mem_append] at hx
    rcases hx with hx | hx
    · split at hx
      · rcases List.mem_cons.1 hx with rfl | hx
        · decide
        · exact (isW_bytes (h b (by simp)) x hx).1
      · exact (isW_bytes (h b (by simp)) x hx).1
    · exact ih b (fun l hl => h l (List.mem_cons_of_mem _ hl)) x hx

/-- What is said is read as it was said (P3.4). -/
theorem read_say (ls : List (List UInt8)) (h : ∀ l ∈ ls, isW l = true) (h0 : ls ≠ []) :
    (rd (lns (sayL ls)) 1).2 = none ∧ ∃ ws, (rd (lns (sayL ls)) 1).1 = [ws] ∧ ws.map (·.1) = ls := by
  cases ls with
  | nil => exact absurd rfl h0
  | cons a r =>
    have ha := h a (by simp)
    have hr : ∀ l ∈ r, isW l = true := fun l hl => h l (List.mem_cons_of_mem _ hl)
    have h10 : ∀ x ∈ sayL (a :: r), x.toNat ≠ 10 := by
      intro x hx
      rcases List.mem_append.1 hx with hx | hx
      · exact (isW_bytes ha x hx).1
      · exact join_bytes a r hr x hx
    obtain ⟨e1, e2⟩ := tk_join a r 1 ha hr
    have e2' : (tk (sayL (a :: r)) 1).2 = none := e2
    have ne : (tk (sayL (a :: r)) 1).1 ≠ [] := by
      intro e
      have : (tk (a ++ joinT a r) 1).1 = [] := e
      rw [this] at e1; simp at e1
    rw [lns_last _ h10, rd_some e2' ne]
    refine ⟨rfl, _, rfl, ?_⟩
    unfold wds
    rw [List.map_map]
    exact e1
theorem read_say_nil : rd (lns (sayL [])) 1 = ([], none) := rfl

/-- The first k words, said. -/
def sayTo (ls : List (List UInt8)) : Nat → List UInt8
  | 0 => []
  | k + 1 => sayTo ls k ++ (if 0 < k ∧ glue (ls.getD (k - 1) []) (ls.getD k []) = true then [32] else []) ++ ls.getD k []
theorem joinT_snoc (a : List UInt8) (ls : List (List UInt8)) (b : List UInt8) : joinT a (ls ++ [b]) = joinT a ls ++ (if glue ((a :: ls).getLast (by simp)) b then 32 :: b else b) := by
  induction ls generalizing a with
  | nil =>
    show (if glue a b then 32 :: b else b) ++ [] = [] ++ (if glue a b then 32 :: b else b)
    simp only [List.append_nil, List.nil_append]
  | cons c r ih =>
    show (if glue a c then 32 :: c else c) ++ joinT c (r ++ [b]) = ((if glue a c then 32 :: c else c) ++ joinT c r) ++ _
    rw [ih c, List.append_assoc, List.getLast_cons (show c :: r ≠ [] by simp)]
theorem sayTo_take (ls : List (List UInt8)) (k : Nat) (h : k ≤ ls.length) : sayTo ls k = sayL (ls.take k) := by
  induction k with
  | zero => simp [sayTo, sayL]
  | succ k ih =>
    have hk : k < ls.length := h
    have eg : ls.getD k [] = ls[k] := by rw [List.getD_eq_getElem?_getD, List.getElem?_eq_getElem hk]; rfl
    show sayTo ls k ++ _ ++ ls.getD k [] = _
    rw [ih (by omega), List.take_succ_eq_append_getElem hk, eg]
    cases k with
    | zero => simp [sayL, joinT]
    | succ k =>
      have eg2 : ls.getD k [] = ls[k]'(by omega) := by rw [List.getD_eq_getElem?_getD, List.getElem?_eq_getElem (by omega)]; rfl
      cases hls : ls.take (k + 1) with
      | nil =>
        have := congrArg List.length hls
        rw [List.length_take] at this
        simp only [List.length_nil] at this
        omega
      | cons a r =>
        show (a ++ joinT a r) ++ _ ++ _ = a ++ joinT a (r ++ [ls[k + 1]])
        rw [joinT_snoc]
        have hlast : (a :: r).getLast (by simp) = ls[k]'(by omega) := by
          have h1 : (ls.take (k + 1)).getLast? = some (ls[k]'(by omega)) := by
            rw [List.take_succ_eq_append_getElem (by omega), List.getLast?_concat]
          rw [hls, List.getLast?_eq_some_getLast (by simp)] at h1
          exact Option.some.inj h1
        rw [hlast]
        simp only [Nat.add_sub_cancel, eg2, Nat.zero_lt_succ, true_and]
        split <;> simp
theorem sayTo_all (ls : List (List UInt8)) : sayTo ls ls.length = sayL ls := by rw [sayTo_take _ _ (Nat.le_refl _), List.take_length]
end Wo
end Go.Proofs.YtalmcdhohoplpaaDoor
