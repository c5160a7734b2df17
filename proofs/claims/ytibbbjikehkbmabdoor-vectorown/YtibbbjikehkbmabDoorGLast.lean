/-
  A region in a round that is quiet but for its last operation, for which all others wait: one walk in the order of the text serves every order.
-/
import Derived.Test.YtibbbjikehkbmabDoorGQuiet
namespace Go.Proofs.YtibbbjikehkbmabDoor.Ve
open Go.RowKit Go.Shelf

/-- An operation of which only its place is left. -/
def idle (o : Oper) : Oper := { o with op := .move (.const undef) }
/-- The operations, the last one idle; and the last one. -/
def quieted : List Oper → List Oper
  | [] => []
  | [o] => [idle o]
  | o :: p :: r => o :: quieted (p :: r)
def lastOp : List Oper → Oper
  | [] => default
  | [o] => o
  | _ :: p :: r => lastOp (p :: r)
theorem quieted_len : ∀ l : List Oper, (quieted l).length = l.length
  | [] => rfl
  | [_] => rfl
  | _ :: p :: r => by
    have := quieted_len (p :: r)
    simp only [quieted, List.length_cons] at this ⊢
    omega
theorem quieted_at : ∀ (l : List Oper) (i : Nat), i + 1 ≠ l.length → (quieted l)[i]? = l[i]?
  | [], i, _ => rfl
  | [o], i, h => by
    cases i with
    | zero => exact absurd rfl h
    | succ i => rfl
  | o :: p :: r, i, h => by
    cases i with
    | zero => rfl
    | succ i =>
      show (quieted (p :: r))[i]? = (p :: r)[i]?
      refine quieted_at (p :: r) i ?_
      simp only [List.length_cons] at h ⊢
      omega
theorem quieted_last : ∀ (l : List Oper) (i : Nat), i + 1 = l.length → (quieted l)[i]? = some (idle (lastOp l)) ∧ l[i]? = some (lastOp l)
  | [], i, h => by cases h
  | [o], i, h => by
    have : i = 0 := by simpa using h
    subst this
    exact ⟨rfl, rfl⟩
  | o :: p :: r, i, h => by
    cases i with
    | zero => simp at h
    | succ i => exact quieted_last (p :: r) i (by simp only [List.length_cons] at h ⊢; omega)
theorem quieted_same (l : List Oper) (i : Nat) : ((quieted l).toArray[i]?).map (fun o => (o.dst, o.after, o.guard)) = (l.toArray[i]?).map (fun o => (o.dst, o.after, o.guard)) := by
  rw [List.getElem?_toArray, List.getElem?_toArray]
  by_cases h : i + 1 = l.length
  · obtain ⟨h1, h2⟩ := quieted_last l i h
    rw [h1, h2]
    rfl
  · rw [quieted_at l i h]
/-- Each operation is waited for by a later one, and waits for earlier ones. -/
def lastB (md : Region.Mode) (l : List Oper) : Bool :=
  ((List.range (l.length - 1)).all fun j => (List.range l.length).any fun k => decide (j < k) && match l[k]? with
    | some o => o.after.any fun e => Region.binds md e && e.on == j
    | none => false) && (List.range l.length).all fun k => match l[k]? with
    | some o => o.after.all fun e => decide (e.on < k)
    | none => true
/-- What comes up has all that it waits for behind it. -/
def Shut (md : Region.Mode) (l : List Oper) (listed : Array Bool) : Prop := listed.size = l.length ∧ ∀ k o, l[k]? = some o → listed.getD k false = true → ∀ e ∈ o.after, Region.binds md e = true → listed.getD e.on false = true
theorem shut_ready {md : Region.Mode} {l : List Oper} {listed : Array Bool} {i : Nat} (h : Shut md l listed) (hi : i ∈ Region.ready md l.toArray listed) : Shut md l (listed.setIfInBounds i true) := by
  obtain ⟨h0, o, ho, hall⟩ := mem_ready.1 hi
  rw [List.getElem?_toArray] at ho
  refine ⟨by simpa using h.1, fun k o' hk hl e he hb => ?_⟩
  refine getD_set_true ?_
  by_cases hki : k = i
  · subst hki
    rw [ho] at hk
    cases hk
    exact hall e he hb
  · rw [getD_set_ne false (fun q => hki q.symm)] at hl
    exact h.2 k o' hk hl e he hb
theorem getD_two {listed : Array Bool} {k : Nat} (h : k < listed.size) : listed.getD k true = listed.getD k false := by
  simp [Array.getD, h]
theorem all_behind {md : Region.Mode} {l : List Oper} {listed : Array Bool} {m : Nat} (hc : lastB md l = true) (hm : m + 1 = l.length) (h : Shut md l listed) (hr : m ∈ Region.ready md l.toArray listed) : ∀ j, j < m → listed.getD j false = true := by
  obtain ⟨h0, o, ho, hall⟩ := mem_ready.1 hr
  rw [List.getElem?_toArray] at ho
  simp only [lastB, Bool.and_eq_true, List.all_eq_true, List.mem_range, List.any_eq_true, decide_eq_true_eq] at hc
  have key : ∀ d j, j < m → m - j ≤ d → listed.getD j false = true := by
    intro d
    induction d with
    | zero => intro j h1 h2; omega
    | succ d ih =>
      intro j hj hd
      obtain ⟨k, hk, hjk, hx⟩ := hc.1 j (by omega)
      cases hlk : l[k]? with
      | none => rw [hlk] at hx; cases hx
      | some ok =>
        rw [hlk] at hx
        simp only [Array.any_eq_true', Bool.and_eq_true, beq_iff_eq] at hx
        obtain ⟨e, he, hb, hej⟩ := hx
        by_cases hkm : k = m
        · subst hkm
          rw [ho] at hlk
          cases hlk
          have := hall e he hb
          rw [hej] at this
          exact this
        · have := h.2 k ok hlk (ih k (by omega) (by omega)) e he hb
          rw [hej] at this
          exact this
  exact fun j hj => key _ j hj (Nat.le_refl _)
theorem ready_some {md : Region.Mode} {l : List Oper} {listed : Array Bool} {m : Nat} (hc : lastB md l = true) (hm : m + 1 = l.length) (h : Shut md l listed) (h0 : listed.getD m true = false) : Region.ready md l.toArray listed ≠ [] := by
  simp only [lastB, Bool.and_eq_true, List.all_eq_true, List.mem_range, List.any_eq_true, decide_eq_true_eq] at hc
  have key : ∀ d j, j < d → j < l.length → listed.getD j true = false → Region.ready md l.toArray listed ≠ [] := by
    intro d
    induction d with
    | zero => intro j h1; omega
    | succ d ih =>
      intro j hj hlt hl
      obtain ⟨o, ho⟩ : ∃ o, l[j]? = some o := ⟨_, List.getElem?_eq_getElem hlt⟩
      by_cases hw : ∀ e ∈ o.after, Region.binds md e = true → listed.getD e.on false = true
      · intro e
        have : j ∈ Region.ready md l.toArray listed := mem_ready.2 ⟨hl, o, by rw [List.getElem?_toArray]; exact ho, hw⟩
        rw [e] at this
        cases this
      · apply Classical.byContradiction
        intro hn
        apply hw
        intro e he hb
        have hlt2 := hc.2 j hlt
        rw [ho] at hlt2
        simp only [Array.all_eq_true_iff_forall_mem, decide_eq_true_eq] at hlt2
        have hej := hlt2 e he
        cases hv : listed.getD e.on false with
        | true => rfl
        | false => exact absurd (ih e.on (by omega) (by omega) (by rw [getD_two (by rw [h.1]; omega)]; exact hv)) (fun q => hn q)
  exact key (m + 1) m (by omega) (by omega) h0
theorem ready_same {md : Region.Mode} (l : List Oper) (listed : Array Bool) (i : Nat) : i ∈ Region.ready md (quieted l).toArray listed ↔ i ∈ Region.ready md l.toArray listed := by
  have hs := quieted_same l i
  rw [mem_ready, mem_ready]
  constructor
  · rintro ⟨h0, o, ho, hall⟩
    rw [ho] at hs
    cases h2 : l.toArray[i]? with
    | none => rw [h2] at hs; cases hs
    | some o' =>
      rw [h2] at hs
      have e : o.after = o'.after := by
        injection hs with hs
        injection hs with _ hs
        injection hs with hs _
      exact ⟨h0, o', rfl, fun e' he hb => hall e' (by rw [e]; exact he) hb⟩
  · rintro ⟨h0, o, ho, hall⟩
    rw [ho] at hs
    cases h2 : (quieted l).toArray[i]? with
    | none => rw [h2] at hs; cases hs
    | some o' =>
      rw [h2] at hs
      have e : o'.after = o.after := by
        injection hs with hs
        injection hs with _ hs
        injection hs with hs _
      exact ⟨h0, o', rfl, fun e' he hb => hall e' (by rw [← e]; exact he) hb⟩
theorem yielded_same (l : List Oper) (t : Array Value) : yielded (quieted l).toArray t = yielded l.toArray t := by
  funext j
  have hs := quieted_same l j
  have e : ((quieted l).toArray[j]?).bind (·.dst) = (l.toArray[j]?).bind (·.dst) := by
    cases h1 : (quieted l).toArray[j]? with
    | none =>
      rw [h1] at hs
      cases h2 : l.toArray[j]? with
      | none => rfl
      | some o => rw [h2] at hs; cases hs
    | some o =>
      rw [h1] at hs
      cases h2 : l.toArray[j]? with
      | none => rw [h2] at hs; cases hs
      | some o' =>
        rw [h2] at hs
        injection hs with hs
        injection hs with hs _
  unfold yielded
  rw [e]
/-- Whatever order is picked. -/
theorem any_last {F : Fence} {n : Nat} {P : Program} {md : Region.Mode} {l : List Oper} {C : World → Prop} {Q : Act → Prop} {Q' : Exit → Act → World → Prop} {m : Nat} (hro : F.round = none) (hc : lastB md l = true) (hm : m + 1 = l.length) (hg : (lastOp l).guard = none) (hdst : (lastOp l).dst = none)
    (hQ : ∀ a w, C w → Q a → (lastOp l).wpIn F n P a w (Q' .normal) Q') : ∀ (fuel : Nat) (listed : Array Bool) (a : Act) (w : World), Shut md l listed → listed.getD m true = false → C w →
    wpAnyQIn F n P md (quieted l).toArray C Q fuel listed a → wpAnyIn F n P md l.toArray Q' fuel listed a w
  | 0, listed, a, w, hs, h0, hw, h => by
    have hne := ready_some hc hm hs h0
    have : Region.ready md l.toArray listed = [] := by
      cases e : Region.ready md l.toArray listed with
      | nil => rfl
      | cons i r =>
        have : i ∈ Region.ready md (quieted l).toArray listed := (ready_same l listed i).2 (by rw [e]; simp)
        rw [h.1] at this
        cases this
    exact absurd this hne
  | fuel + 1, listed, a, w, hs, h0, hw, h => by
    refine ⟨fun e => absurd e (ready_some hc hm hs h0), fun i hi => ?_⟩
    have h1 := h.2 i ((ready_same l listed i).2 hi)
    by_cases him : i = m
    · subst him
      obtain ⟨l1, l2⟩ := quieted_last l i hm
      have hnone : Region.ready md l.toArray (listed.setIfInBounds i true) = [] := by
        cases e : Region.ready md l.toArray (listed.setIfInBounds i true) with
        | nil => rfl
        | cons j r =>
          have hj : j ∈ Region.ready md l.toArray (listed.setIfInBounds i true) := by rw [e]; simp
          obtain ⟨j0, o, ho, _⟩ := mem_ready.1 hj
          have hjl : j < l.length := by rw [List.getElem?_toArray] at ho; exact (List.getElem?_eq_some_iff.1 ho).1
          by_cases hji : j = i
          · subst hji
            simp [Array.getD, hs.1, hjl] at j0
          · have := all_behind hc hm hs hi j (by omega)
            rw [getD_set_ne true (fun q => hji q.symm), getD_two (by rw [hs.1]; exact hjl), this] at j0
            cases j0
      have hnone' : Region.ready md (quieted l).toArray (listed.setIfInBounds i true) = [] := by
        cases e : Region.ready md (quieted l).toArray (listed.setIfInBounds i true) with
        | nil => rfl
        | cons j r =>
          have hj := (ready_same l (listed.setIfInBounds i true) j).1 (by rw [e]; simp)
          rw [hnone] at hj
          cases hj
      unfold qOpIn at h1
      rw [List.getElem?_toArray, l1] at h1
      simp only at h1
      have hwq : ∀ y, Region.wanted (idle (lastOp l)) y = true := fun y => by
        unfold Region.wanted idle
        simp [hg]
      rw [if_pos (hwq _)] at h1
      obtain ⟨v, _, h2⟩ := h1.2
      have hput : a.put (idle (lastOp l)).dst v = a := by
        unfold idle Act.put
        simp [hdst]
      rw [hput] at h2
      have hq : Q a := by
        cases fuel with
        | zero => exact h2.2
        | succ fuel => exact h2.1 hnone'
      unfold wpOpIn
      rw [List.getElem?_toArray, l2]
      simp only
      rw [if_pos (by unfold Region.wanted; simp [hg])]
      refine Oper.wpIn_mono (fun a' w' hh => ?_) (hQ a w hw hq)
      cases fuel with
      | zero => exact ⟨hnone, hh⟩
      | succ fuel => exact ⟨fun _ => hh, fun j hj => by rw [hnone] at hj; cases hj⟩
    · have hat := quieted_at l i (by omega)
      refine wpOpIn_of_qOpIn (C := C) (K := wpAnyQIn F n P md (quieted l).toArray C Q fuel (listed.setIfInBounds i true)) hro hw (fun a' w' hw' hh => any_last hro hc hm hg hdst hQ fuel _ a' w' (shut_ready hs hi) (by rw [getD_set_ne true him]; exact h0) hw' hh) ?_
      unfold qOpIn at h1 ⊢
      rw [List.getElem?_toArray, hat, yielded_same] at h1
      rw [List.getElem?_toArray]
      exact h1
theorem region_last {n : Nat} {P : Program} {id : Nat} {Q : Exit → Act → World → Prop} {a : Act} {w : World} {l : List Oper} (r : Nat) (hm : P.follows .mixedOrders = true) (hB : Region.lexB .any (quieted l).toArray = true) (hd : noDefer l.toArray = true) (hl : 0 < l.length) (hc : lastB .any l = true) (hg : (lastOp l).guard = none) (hdst : (lastOp l).dst = none)
    (h : wpQuietIn Fence.wide n P (quieted l).toArray (fun w' => ∃ n, w' = w.drewN n) (fun a' => ∀ w', (∃ n, w' = w.drewN n) → (lastOp l).wpIn Fence.wide n P a' w' (Q .normal) Q) (quieted l) a) : (Code.region id l.toArray true).wpIn (Fence.wide.inRound r) n P Q a w := by
  simp only [Region.lexB, Bool.and_eq_true] at hB
  obtain ⟨m, hm'⟩ : ∃ m, m + 1 = l.length := ⟨l.length - 1, by omega⟩
  refine wpIn_region_any hm (any_round r hd _ _ _ _ (any_last (C := fun w' => ∃ n, w' = w.drewN n) (Q := fun a' => ∀ w', (∃ n, w' = w.drewN n) → (lastOp l).wpIn Fence.wide n P a' w' (Q .normal) Q) (m := m) rfl hc hm' hg hdst (fun a' w' hw' hh => hh w' hw') _ _ _ _ ⟨by simp, fun k o _ hk => ?_⟩ ?_ ⟨1, rfl⟩ ?_))
  · simp [Array.getD] at hk
  · simp [Array.getD]; omega
  · have := wpAnyQIn_lex (F := Fence.wide) (n := n) (C := fun w' => ∃ n, w' = w.drewN n) (md := .any) hB.1 (quieted l) 0 (Array.replicate (quieted l).toArray.size false) a (by simp) (by simpa using hB.2) h
    simpa [quieted_len] using this
end Go.Proofs.YtibbbjikehkbmabDoor.Ve
