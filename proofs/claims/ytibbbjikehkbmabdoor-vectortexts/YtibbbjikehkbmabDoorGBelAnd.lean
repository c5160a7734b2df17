/-
  greatest: the greatest versions of two vectors, and whether they agree.
  A region in a round that is quiet but for its last operation, for which all others wait: one walk in the order of the text serves every order.
  Below: the program's.
-/
import Derived.Test.YtibbbjikehkbmabDoorGRangeAnd
import Derived.Test.YtibbbjikehkbmabDoorGStepAnd
import Derived.Test.YtibbbjikehkbmabDoorGInsCAnd
namespace Go.Proofs.YtibbbjikehkbmabDoor.Ve
open Go.RowKit Go.Shelf
attribute [local go_sem] Oper.semAt_some

/-- What Below comes to. -/
def belP (a b : List St) : Bool × Int := if chkN [a, b] = 0 then ((stepsV a b).all belB, 0) else (false, chkN [a, b])
theorem right_two {a b : List St} (h : chkN [a, b] = 0) : Right a ∧ Right b := by
  unfold chkN at h
  by_cases q : ∀ v ∈ [a, b], Right v
  · exact ⟨q a (by simp), q b (by simp)⟩
  · rw [if_neg q] at h; cases h
theorem chkN_two (l : List (List St)) : chkN l = 0 ∨ chkN l = 160 := by
  unfold chkN
  split
  · exact Or.inl rfl
  · exact Or.inr rfl
theorem vec_none {w : World} {v : Value} (h : VecV w v (Option.none (α := St)).toList) : ∃ a c, v = .slice a 0 c := by
  obtain ⟨a, c, e, _⟩ := h
  exact ⟨a, c, e⟩
theorem vec_one {w W : World} {v : Value} {s : St} (h : VecV w v (some s).toList) (hb : Below w.heap.size w W) : ∃ g o c, v = .slice (some ⟨g, o, none⟩) 1 c ∧ W.cell? ⟨g, o, none⟩ = some (.int .i64 s.1) ∧ W.cell? ⟨g, o + 1, none⟩ = some (.int .u64 (s.2 : Int)) := by
  obtain ⟨a, c, e, _, _, h⟩ := h.below hb
  rcases h with h | ⟨g, o, ea, _, hc⟩
  · cases h
  · subst ea
    have := hc 0 s rfl
    rw [Nat.zero_mul, Nat.add_zero] at this
    exact ⟨g, o, c, e, this.1, this.2⟩
theorem KIt.refl (n0 ba bb bc : Nat) (A : World) : KIt n0 ba bb bc A A := ⟨Below.refl _ _, fun _ _ _ _ h => h⟩
end Go.Proofs.YtibbbjikehkbmabDoor.Ve
namespace Go.Proofs.YtibbbjikehkbmabDoor.Ve
open Go.RowKit Go.Shelf

/-- An operation of which only its place is left. -/
def idle (o : Oper) : Oper := { o with op := .move (.const undef) }
/-- The operations, the last one idle; and the last one. -/
def quieted : List Oper → List Oper
  | [] => []
  | [o] => [idle o]
  | o :: p :: r => o :: quieted (p :: r)
def lastOp : List Oper → Oper
  | [] => default
  | [o] => o
  | _ :: p :: r => lastOp (p :: r)
theorem quieted_len : ∀ l : List Oper, (quieted l).length = l.length
  | [] => rfl
  | [_] => rfl
  | _ :: p :: r => by
    have := quieted_len (p :: r)
    simp only [quieted, List.length_cons] at this ⊢
    omega
theorem quieted_at : ∀ (l : List Oper) (i : Nat), i + 1 ≠ l.length → (quieted l)[i]? = l[i]?
  | [], i, _ => rfl
  | [o], i, h => by
    cases i with
    | zero => exact absurd rfl h
    | succ i => rfl
  | o :: p :: r, i, h => by
    cases i with
    | zero => rfl
    | succ i =>
      show (quieted (p :: r))[i]? = (p :: r)[i]?
      refine quieted_at (p :: r) i ?_
      simp only [List.length_cons] at h ⊢
      omega
theorem quieted_last : ∀ (l : List Oper) (i : Nat), i + 1 = l.length → (quieted l)[i]? = some (idle (lastOp l)) ∧ l[i]? = some (lastOp l)
  | [], i, h => by cases h
  | [o], i, h => by
    have : i = 0 := by simpa using h
    subst this
    exact ⟨rfl, rfl⟩
  | o :: p :: r, i, h => by
    cases i with
    | zero => simp at h
    | succ i => exact quieted_last (p :: r) i (by simp only [List.length_cons] at h ⊢; omega)
theorem quieted_same (l : List Oper) (i : Nat) : ((quieted l).toArray[i]?).map (fun o => (o.dst, o.after, o.guard)) = (l.toArray[i]?).map (fun o => (o.dst, o.after, o.guard)) := by
  rw [List.getElem?_toArray, List.getElem?_toArray]
  by_cases h : i + 1 = l.length
  · obtain ⟨h1, h2⟩ := quieted_last l i h
    rw [h1, h2]
    rfl
  · rw [quieted_at l i h]
/-- Each operation is waited for by a later one, and waits for earlier ones. -/
def lastB (md : Region.Mode) (l : List Oper) : Bool :=
  ((List.range (l.length - 1)).all fun j => (List.range l.length).any fun k => decide (j < k) && match l[k]? with
    | some o => o.after.any fun e => Region.binds md e && e.on == j
    | none => false) && (List.range l.length).all fun k => match l[k]? with
    | some o => o.after.all fun e => decide (e.on < k)
    | none => true
/-- What comes up has all that it waits for behind it. -/
def Shut (md : Region.Mode) (l : List Oper) (listed : Array Bool) : Prop := listed.size = l.length ∧ ∀ k o, l[k]? = some o → listed.getD k false = true → ∀ e ∈ o.after, Region.binds md e = true → listed.getD e.on false = true
theorem shut_ready {md : Region.Mode} {l : List Oper} {listed : Array Bool} {i : Nat} (h : Shut md l listed) (hi : i ∈ Region.ready md l.toArray listed) : Shut md l (listed.setIfInBounds i true) := by
  obtain ⟨h0, o, ho, hall⟩ := mem_ready.1 hi
  rw [List.getElem?_toArray] at ho
  refine ⟨by simpa using h.1, fun k o' hk hl e he hb => ?_⟩
  refine getD_set_true ?_
  by_cases hki : k = i
  · subst hki
    rw [ho] at hk
    cases hk
    exact hall e he hb
  · rw [getD_set_ne false (fun q => hki q.symm)] at hl
    exact h.2 k o' hk hl e he hb
theorem getD_two {listed : Array Bool} {k : Nat} (h : k < listed.size) : listed.getD k true = listed.getD k false := by
  simp [Array.getD, h]
theorem all_behind {md : Region.Mode} {l : List Oper} {listed : Array Bool} {m : Nat} (hc : lastB md l = true) (hm : m + 1 = l.length) (h : Shut md l listed) (hr : m ∈ Region.ready md l.toArray listed) : ∀ j, j < m → listed.getD j false = true := by
  obtain ⟨h0, o, ho, hall⟩ := mem_ready.1 hr
  rw [List.getElem?_toArray] at ho
  simp only [lastB, Bool.and_eq_true, List.all_eq_true, List.mem_range, List.any_eq_true, decide_eq_true_eq] at hc
  have key : ∀ d j, j < m → m - j ≤ d → listed.getD j false = true := by
    intro d
    induction d with
    | zero => intro j h1 h2; omega
    | succ d ih =>
      intro j hj hd
      obtain ⟨k, hk, hjk, hx⟩ := hc.1 j (by omega)
      cases hlk : l[k]? with
      | none => rw [hlk] at hx; cases hx
      | some ok =>
        rw [hlk] at hx
        simp only [Array.any_eq_true', Bool.and_eq_true, beq_iff_eq] at hx
        obtain ⟨e, he, hb, hej⟩ := hx
        by_cases hkm : k = m
        · subst hkm
          rw [ho] at hlk
          cases hlk
          have := hall e he hb
          rw [hej] at this
          exact this
        · have := h.2 k ok hlk (ih k (by omega) (by omega)) e he hb
          rw [hej] at this
          exact this
  exact fun j hj => key _ j hj (Nat.le_refl _)
theorem ready_some {md : Region.Mode} {l : List Oper} {listed : Array Bool} {m : Nat} (hc : lastB md l = true) (hm : m + 1 = l.length) (h : Shut md l listed) (h0 : listed.getD m true = false) : Region.ready md l.toArray listed ≠ [] := by
  simp only [lastB, Bool.and_eq_true, List.all_eq_true, List.mem_range, List.any_eq_true, decide_eq_true_eq] at hc
  have key : ∀ d j, j < d → j < l.length → listed.getD j true = false → Region.ready md l.toArray listed ≠ [] := by
    intro d
    induction d with
    | zero => intro j h1; omega
    | succ d ih =>
      intro j hj hlt hl
      obtain ⟨o, ho⟩ : ∃ o, l[j]? = some o := ⟨_, List.getElem?_eq_getElem hlt⟩
      by_cases hw : ∀ e ∈ o.after, Region.binds md e = true → listed.getD e.on false = true
      · intro e
        have : j ∈ Region.ready md l.toArray listed := mem_ready.2 ⟨hl, o, by rw [List.getElem?_toArray]; exact ho, hw⟩
        rw [e] at this
        cases this
      · apply Classical.byContradiction
        intro hn
        apply hw
        intro e he hb
        have hlt2 := hc.2 j hlt
        rw [ho] at hlt2
        simp only [Array.all_eq_true_iff_forall_mem, decide_eq_true_eq] at hlt2
        have hej := hlt2 e he
        cases hv : listed.getD e.on false with
        | true => rfl
        | false => exact absurd (ih e.on (by omega) (by omega) (by rw [getD_two (by rw [h.1]; omega)]; exact hv)) (fun q => hn q)
  exact key (m + 1) m (by omega) (by omega) h0
theorem ready_same {md : Region.Mode} (l : List Oper) (listed : Array Bool) (i : Nat) : i ∈ Region.ready md (quieted l).toArray listed ↔ i ∈ Region.ready md l.toArray listed := by
  have hs := quieted_same l i
  rw [mem_ready, mem_ready]
  constructor
  · rintro ⟨h0, o, ho, hall⟩
    rw [ho] at hs
    cases h2 : l.toArray[i]? with
    | none => rw [h2] at hs; cases hs
    | some o' =>
      rw [h2] at hs
      have e : o.after = o'.after := by
        injection hs with hs
        injection hs with _ hs
        injection hs with hs _
      exact ⟨h0, o', rfl, fun e' he hb => hall e' (by rw [e]; exact he) hb⟩
  · rintro ⟨h0, o, ho, hall⟩
    rw [ho] at hs
    cases h2 : (quieted l).toArray[i]? with
    | none => rw [h2] at hs; cases hs
    | some o' =>
      rw [h2] at hs
      have e : o'.after = o.after := by
        injection hs with hs
        injection hs with _ hs
        injection hs with hs _
      exact ⟨h0, o', rfl, fun e' he hb => hall e' (by rw [← e]; exact he) hb⟩
theorem yielded_same (l : List Oper) (t : Array Value) : yielded (quieted l).toArray t = yielded l.toArray t := by
  funext j
  have hs := quieted_same l j
  have e : ((quieted l).toArray[j]?).bind (·.dst) = (l.toArray[j]?).bind (·.dst) := by
    cases h1 : (quieted l).toArray[j]? with
    | none =>
      rw [h1] at hs
      cases h2 : l.toArray[j]? with
      | none => rfl
      | some o => rw [h2] at hs; cases hs
    | some o =>
      rw [h1] at hs
      cases h2 : l.toArray[j]? with
      | none => rw [h2] at hs; cases hs
      | some o' =>
        rw [h2] at hs
        injection hs with hs
        injection hs with hs _
  unfold yielded
  rw [e]
/-- Whatever order is picked. -/
theorem any_last {F : Fence} {n : Nat} {P : Program} {md : Region.Mode} {l : List Oper} {C : World → Prop} {Q : Act → Prop} {Q' : Exit → Act → World → Prop} {m : Nat} (hro : F.round = none) (hc : lastB md l = true) (hm : m + 1 = l.length) (hg : (lastOp l).guard = none) (hdst : (lastOp l).dst = none)
    (hQ : ∀ a w, C w → Q a → (lastOp l).wpIn F n P a w (Q' .normal) Q') : ∀ (fuel : Nat) (listed : Array Bool) (a : Act) (w : World), Shut md l listed → listed.getD m true = false → C w →
    wpAnyQIn F n P md (quieted l).toArray C Q fuel listed a → wpAnyIn F n P md l.toArray Q' fuel listed a w
  | 0, listed, a, w, hs, h0, hw, h => by
    have hne := ready_some hc hm hs h0
    have : Region.ready md l.toArray listed = [] := by
      cases e : Region.ready md l.toArray listed with
      | nil => rfl
      | cons i r =>
        have : i ∈ Region.ready md (quieted l).toArray listed := (ready_same l listed i).2 (by rw [e]; simp)
        rw [h.1] at this
        cases this
    exact absurd this hne
  | fuel + 1, listed, a, w, hs, h0, hw, h => by
    refine ⟨fun e => absurd e (ready_some hc hm hs h0), fun i hi => ?_⟩
    have h1 := h.2 i ((ready_same l listed i).2 hi)
    by_cases him : i = m
    · subst him
      obtain ⟨l1, l2⟩ := quieted_last l i hm
      have hnone : Region.ready md l.toArray (listed.setIfInBounds i true) = [] := by
        cases e : Region.ready md l.toArray (listed.setIfInBounds i true) with
        | nil => rfl
        | cons j r =>
          have hj : j ∈ Region.ready md l.toArray (listed.setIfInBounds i true) := by rw [e]; simp
          obtain ⟨j0, o, ho, _⟩ := mem_ready.1 hj
          have hjl : j < l.length := by rw [List.getElem?_toArray] at ho; exact (List.getElem?_eq_some_iff.1 ho).1
          by_cases hji : j = i
          · subst hji
            simp [Array.getD, hs.1, hjl] at j0
          · have := all_behind hc hm hs hi j (by omega)
            rw [getD_set_ne true (fun q => hji q.symm), getD_two (by rw [hs.1]; exact hjl), this] at j0
            cases j0
      have hnone' : Region.ready md (quieted l).toArray (listed.setIfInBounds i true) = [] := by
        cases e : Region.ready md (quieted l).toArray (listed.setIfInBounds i true) with
        | nil => rfl
        | cons j r =>
          have hj := (ready_same l (listed.setIfInBounds i true) j).1 (by rw [e]; simp)
          rw [hnone] at hj
          cases hj
      unfold qOpIn at h1
      rw [List.getElem?_toArray, l1] at h1
      simp only at h1
      have hwq : ∀ y, Region.wanted (idle (lastOp l)) y = true := fun y => by
        unfold Region.wanted idle
        simp [hg]
      rw [if_pos (hwq _)] at h1
      obtain ⟨v, _, h2⟩ := h1.2
      have hput : a.put (idle (lastOp l)).dst v = a := by
        unfold idle Act.put
        simp [hdst]
      rw [hput] at h2
      have hq : Q a := by
        cases fuel with
        | zero => exact h2.2
        | succ fuel => exact h2.1 hnone'
      unfold wpOpIn
      rw [List.getElem?_toArray, l2]
      simp only
      rw [if_pos (by unfold Region.wanted; simp [hg])]
      refine Oper.wpIn_mono (fun a' w' hh => ?_) (hQ a w hw hq)
      cases fuel with
      | zero => exact ⟨hnone, hh⟩
      | succ fuel => exact ⟨fun _ => hh, fun j hj => by rw [hnone] at hj; cases hj⟩
    · have hat := quieted_at l i (by omega)
      refine wpOpIn_of_qOpIn (C := C) (K := wpAnyQIn F n P md (quieted l).toArray C Q fuel (listed.setIfInBounds i true)) hro hw (fun a' w' hw' hh => any_last hro hc hm hg hdst hQ fuel _ a' w' (shut_ready hs hi) (by rw [getD_set_ne true him]; exact h0) hw' hh) ?_
      unfold qOpIn at h1 ⊢
      rw [List.getElem?_toArray, hat, yielded_same] at h1
      rw [List.getElem?_toArray]
      exact h1
theorem region_last {n : Nat} {P : Program} {id : Nat} {Q : Exit → Act → World → Prop} {a : Act} {w : World} {l : List Oper} (r : Nat) (hm : P.follows .mixedOrders = true) (hB : Region.lexB .any (quieted l).toArray = true) (hd : noDefer l.toArray = true) (hl : 0 < l.length) (hc : lastB .any l = true) (hg : (lastOp l).guard = none) (hdst : (lastOp l).dst = none)
    (h : wpQuietIn Fence.wide n P (quieted l).toArray (fun w' => ∃ n, w' = w.drewN n) (fun a' => ∀ w', (∃ n, w' = w.drewN n) → (lastOp l).wpIn Fence.wide n P a' w' (Q .normal) Q) (quieted l) a) : (Code.region id l.toArray true).wpIn (Fence.wide.inRound r) n P Q a w := by
  simp only [Region.lexB, Bool.and_eq_true] at hB
  obtain ⟨m, hm'⟩ : ∃ m, m + 1 = l.length := ⟨l.length - 1, by omega⟩
  refine wpIn_region_any hm (any_round r hd _ _ _ _ (any_last (C := fun w' => ∃ n, w' = w.drewN n) (Q := fun a' => ∀ w', (∃ n, w' = w.drewN n) → (lastOp l).wpIn Fence.wide n P a' w' (Q .normal) Q) (m := m) rfl hc hm' hg hdst (fun a' w' hw' hh => hh w' hw') _ _ _ _ ⟨by simp, fun k o _ hk => ?_⟩ ?_ ⟨1, rfl⟩ ?_))
  · simp [Array.getD] at hk
  · simp [Array.getD]; omega
  · have := wpAnyQIn_lex (F := Fence.wide) (n := n) (C := fun w' => ∃ n, w' = w.drewN n) (md := .any) hB.1 (quieted l) 0 (Array.replicate (quieted l).toArray.size false) a (by simp) (by simpa using hB.2) h
    simpa [quieted_len] using this
end Go.Proofs.YtibbbjikehkbmabDoor.Ve
namespace Go.Proofs.YtibbbjikehkbmabDoor.Ve
open Go.RowKit Go.Shelf
attribute [local go_sem] Oper.semAt_some
attribute [local go_sem ↓] appV_fold

/-- What was taken, and whether all agreed. -/
def accP {w0 : World} (pre : List (It w0)) : List St := (pairs pre).filterMap pick
def agrP {w0 : World} (pre : List (It w0)) : Bool := (pairs pre).all agB
theorem accP_snoc {w0 : World} (pre : List (It w0)) (x : It w0) {s : St} (h : pick x.1.2.2 = some s) : accP (pre ++ [x]) = accP pre ++ [s] := by
  unfold accP
  rw [pairs_snoc, List.filterMap_append]
  simp [h]
theorem agrP_snoc {w0 : World} (pre : List (It w0)) (x : It w0) : agrP (pre ++ [x]) = (agrP pre && agB x.1.2.2) := by
  unfold agrP
  rw [pairs_snoc, List.all_append]
  simp
theorem accP_len {w0 : World} (pre : List (It w0)) : (accP pre).length ≤ pre.length := by
  unfold accP
  refine Nat.le_trans (List.length_filterMap_le _ _) ?_
  simp [pairs]
set_option maxRecDepth 100000 in
set_option maxHeartbeats 4000000 in
theorem greatest_any {w : World} {va vb : Value} {a b : List St} (ha : VecV w va a) (hb : VecV w vb b) (ra : Right a) (rb : Right b) :
    Calls Tryd.prog 36 #[va, vb] w fun e w' => ∃ v, e = .returned (.tuple #[v, .bool ((stepsV a b).all agB)]) ∧ OwnS w' w.heap.size v (grt a b) ∧ Below w.heap.size w w' := by
  have HA := hid ha
  have HB := hid hb
  have na := right_len ra
  have nb := right_len rb
  obtain ⟨ao, ca, rfl, -, -, -⟩ := ha
  obtain ⟨bo, cb, rfl, -, -, -⟩ := hb
  obtain ⟨n, hn⟩ : ∃ n, n = a.length := ⟨_, rfl⟩
  obtain ⟨m, hm⟩ : ∃ m, m = b.length := ⟨_, rfl⟩
  rw [← hn] at HA ⊢
  rw [← hm] at HB ⊢
  clear hn hm
  refine (callsIn_wide (n := 9)).1 ?_
  refine callsIn_of_wp_marks Tryd.func36 rfl trivial ?_ rfl
  simp only [Tryd.ntmps36, List.size_toArray, List.length_cons, List.length_nil, Nat.reduceAdd, Nat.reduceSub, Array.replicate_succ, Array.replicate_zero, List.push_toArray, List.append_toArray, List.nil_append, List.cons_append]
  gi_wp2
  obtain ⟨W1, hW1⟩ : ∃ W1, (w.alloc (.cells #[.slice none 0 0] 23)).alloc (.cells #[.bool true] 4) = W1 := ⟨_, rfl⟩
  have hB0 : Below w.heap.size w W1 := by rw [← hW1]; exact ((Below.refl _ w).alloc (Nat.le_refl _) _).alloc (by simp) _
  have z0 : w.heap.size + 2 ≤ W1.heap.size := by rw [← hW1]; simp
  have b4 : Boxed W1 w.heap.size 23 (.slice none 0 0) := by rw [← hW1]; repeat (first | exact boxed_new (by simp) | refine Boxed.alloc ?_ _)
  have b5 : Boxed W1 (w.heap.size + 1) 4 (.bool true) := by rw [← hW1]; repeat (first | exact boxed_new (by simp) | refine Boxed.alloc ?_ _)
  rw [hW1]
  clear hW1
  refine ⟨trivial, ?_⟩
  refine (callsIn_wide.2 (together_any _ _ ao bo n m ca cb rfl rfl W1)).mono ?_
  rintro e W2 ⟨rfl, hW2⟩
  have hB3 : Below W1.heap.size W1 W2 := by rw [hW2]; exact (((Below.refl _ W1).alloc (Nat.le_refl _) _).alloc (by simp) _).alloc (by simp; omega) _
  have xa : Boxed W2 W1.heap.size 22 (.slice ao n ca) := by rw [hW2]; repeat (first | exact boxed_new (by simp) | refine Boxed.alloc ?_ _)
  have xb : Boxed W2 (W1.heap.size + 1) 22 (.slice bo m cb) := by rw [hW2]; repeat (first | exact boxed_new (by simp) | refine Boxed.alloc ?_ _)
  have xc : Boxed W2 (W1.heap.size + 1 + 1) 65 cmpV := by rw [hW2]; repeat (first | exact boxed_new (by simp) | refine Boxed.alloc ?_ _)
  have z2 : W2.heap.size = W1.heap.size + 1 + 1 + 1 := by rw [hW2]; simp
  clear hW2
  have b4 := Boxed.on b4 hB3 b4.lt
  have b5 := Boxed.on b5 hB3 b5.lt
  have hB := below_tr hB0 hB3
  have z3 := hB3.size
  have hI0 : GrI w.heap.size W2.heap.size w w.heap.size (w.heap.size + 1) W1.heap.size (W1.heap.size + 1) (W1.heap.size + 1 + 1) [] true W2 := ⟨⟨_, b4, World.ownsRow_nil _ _ _ _, fun q _ => by intro e; cases e⟩, b5, hB, Nat.le_refl _⟩
  clear b4 b5 hB0 hB3
  gi_wp2_with fail
  refine range_own (own := fun q => q = W1.heap.size ∨ q = W1.heap.size + 1) (by omega) (gf := 61) (lb := #[.pointer (some ⟨W1.heap.size, 0, none⟩), .pointer (some ⟨W1.heap.size + 1, 0, none⟩), .pointer (some ⟨W1.heap.size + 1 + 1, 0, none⟩)]) rfl (enters_of Tryd.func61 (by kernel_rfl) rfl)
    (fun q hq => by omega) (tog_stops (nn := 9 - 1) (by omega) (w0 := w) (a := a) (b := b) hB HA.out HB.out na nb xa xb xc ⟨by omega, by omega, by omega, by omega, by omega⟩) KIt.trans (fun W l o o' hn h hc => kIt_b W l o o' (by omega) h hc) (fun _ => rfl)
    (fun pre W => GrI w.heap.size W2.heap.size w w.heap.size (w.heap.size + 1) W1.heap.size (W1.heap.size + 1) (W1.heap.size + 1 + 1) (accP pre) (agrP pre) W)
    (fun _ _ => False)
    (grI_own (Nat.le_refl _) (by omega) _ _) (fun _ _ _ _ hs _ _ => hs) (grI_bears (Nat.le_refl _) (by omega) (by omega) (by omega) (by omega) _ _) (fun _ _ _ hs _ => hs)
    hI0 ?a1 ?assign ?body ?done ?stop
  case assign =>
    intro l x W K hK
    gi_wp2
    exact hK
  case body =>
    rintro l pre x W hI hpre
    obtain ⟨hvl, hvr, hnn⟩ := x.2
    obtain ⟨⟨vl, vr, os, ot⟩, hq⟩ : ∃ q, q = x.1 := ⟨_, rfl⟩
    rw [← hq] at hvl hvr hnn
    simp only [← hq]
    have HX := hid hq
    have HI := hid hI
    simp only at hvl hvr hnn
    have HAPP := hid (fun (W' : World) (ag : Bool) (h : GrI w.heap.size W2.heap.size w w.heap.size (w.heap.size + 1) W1.heap.size (W1.heap.size + 1) (W1.heap.size + 1 + 1) (accP pre) ag W') => gr_app h (Nat.le_refl _) (by omega) (Nat.le_refl _) (fun q hq => by omega) (by have := accP_len pre; omega) W2.heap.size)
    have HFIN := hid (fun (W3 : World) (xs : List St) (ag : Bool) (nq : Nat) (h : GrI w.heap.size W2.heap.size w w.heap.size (w.heap.size + 1) W1.heap.size (W1.heap.size + 1) (W1.heap.size + 1 + 1) xs ag W3) (hK : KeepsFrom W2.heap.size W W3) (hT : KIt w.heap.size W1.heap.size (W1.heap.size + 1) (W1.heap.size + 1 + 1) W W3) (ag' : Bool) => gr_fin (nq := nq) h hK hT (by omega) (by omega) (fun q hq => by omega) ag')
    have hmx : Tryd.prog.follows .mixedOrders = true := by kernel_rfl
    obtain ⟨ag, hag⟩ : ∃ ag, ag = agrP pre := ⟨_, rfl⟩
    rw [← hag] at HI
    have HAG := hid hag
    have HLOW := hid hI.2.2.1
    clear hq hI hag
    cases os with
    | none =>
      cases ot with
      | none => exact absurd rfl hnn
      | some t =>
        obtain ⟨gr, or, cr, rfl, r0, r1⟩ := vec_one hvr HLOW.out
        obtain ⟨al, cl, rfl⟩ := vec_none hvl
        clear hvl hvr hnn
        gi_wp2_with fail
        refine region_round l hmx (by kernel_rfl) (by kernel_rfl) ?_
        repeat (gi_big_quiet_step (fail))
        refine wpQuietIn_nil ?_
        rintro W0 ⟨nq0, hW0⟩
        have HI2 := grI_drewN HI.out nq0
        have hk := keeps_drewN W2.heap.size W nq0
        have ht := kIt_drewN w.heap.size W1.heap.size (W1.heap.size + 1) (W1.heap.size + 1 + 1) W nq0
        have r0 : W0.cell? ⟨gr, or, none⟩ = some (.int .i64 t.1) := by rw [hW0]; exact r0
        have r1 : W0.cell? ⟨gr, or + 1, none⟩ = some (.int .u64 (t.2 : Int)) := by rw [hW0]; exact r1
        rw [← hW0] at HI2 hk ht
        have HI2 := hid HI2
        have HK := hid hk
        have HT := hid ht
        clear hW0 hk ht
        obtain ⟨a0, n0, c0, hc4, hc4', hap⟩ := HAPP.out _ _ HI2.out
        obtain ⟨a1, c1, w2, hrun, k4, g4, H1, H2, H3⟩ := hap t
        have H2 := hid (HK.out.trans H2.out)
        have H3 := hid (KIt.trans HT.out H3.out)
        clear hap
        gi_wp2_with fail
        gi_region_o
        all_goals gi_wp2_with fail
        all_goals
          obtain ⟨W3, hW3⟩ : ∃ W3, w2.setCell ⟨w.heap.size, 0, none⟩ (.slice a1 (n0 + 1) c1) = W3 := ⟨_, rfl⟩
          rw [hW3] at H1 H2 H3 ⊢
          have y5 := H1.out.2.1.cell
          have yf := H1.out.2.1.frozen
          clear hrun k4 g4 hW3 hc4 hc4'
          refine region_last l hmx (by kernel_rfl) (by kernel_rfl) (Nat.zero_lt_succ _) (by kernel_rfl) rfl rfl ?_
          simp only [quieted, lastOp, idle]
          rcases bool_two ag with hg | hg
          · subst hg
            repeat (gi_big_quiet_step (fail))
            refine wpQuietIn_nil ?_
            rintro _ ⟨nq, rfl⟩
            refine ⟨by go_simp, ?_⟩
            go_simp
            obtain ⟨t1, t2, t3⟩ := HFIN.out W3 _ _ nq H1.out H2.out H3.out false
            exact ⟨t1, t2, by dsimp only; rw [accP_snoc pre x (by rw [← HX.out]; exact rfl), agrP_snoc, ← HAG.out, ← HX.out]; exact t3⟩
          · subst hg
            repeat (gi_big_quiet_step (fail))
            refine wpQuietIn_nil ?_
            rintro _ ⟨nq, rfl⟩
            refine ⟨by go_simp, ?_⟩
            go_simp
            obtain ⟨t1, t2, t3⟩ := HFIN.out W3 _ _ nq H1.out H2.out H3.out true
            exact ⟨t1, t2, by dsimp only; rw [accP_snoc pre x (by rw [← HX.out]; exact rfl), agrP_snoc, ← HAG.out, ← HX.out]; exact t3⟩
    | some s =>
      have HVL := hid hvl
      obtain ⟨gl, ol, cl, rfl, l0, l1⟩ := vec_one hvl HLOW.out
      clear hvl hnn
      cases ot with
      | none =>
        obtain ⟨ar, cr, rfl⟩ := vec_none hvr
        clear hvr
        gi_wp2_with fail
        obtain ⟨a0, n0, c0, hc4, hc4', hap⟩ := HAPP.out _ _ HI.out
        obtain ⟨a1, c1, w2, hrun, k4, g4, H1, H2, H3⟩ := hap s
        clear hap
        gi_region_o
        all_goals gi_wp2_with fail
        all_goals
          obtain ⟨W3, hW3⟩ : ∃ W3, w2.setCell ⟨w.heap.size, 0, none⟩ (.slice a1 (n0 + 1) c1) = W3 := ⟨_, rfl⟩
          rw [hW3] at H1 H2 H3 ⊢
          have y5 := H1.out.2.1.cell
          have yf := H1.out.2.1.frozen
          clear hrun k4 g4 hW3 hc4 hc4'
          refine region_last l hmx (by kernel_rfl) (by kernel_rfl) (Nat.zero_lt_succ _) (by kernel_rfl) rfl rfl ?_
          simp only [quieted, lastOp, idle]
          rcases bool_two ag with hg | hg
          · subst hg
            repeat (gi_big_quiet_step (fail))
            refine wpQuietIn_nil ?_
            rintro _ ⟨nq, rfl⟩
            refine ⟨by go_simp, ?_⟩
            go_simp
            obtain ⟨t1, t2, t3⟩ := HFIN.out W3 _ _ nq H1.out H2.out H3.out false
            exact ⟨t1, t2, by dsimp only; rw [accP_snoc pre x (by rw [← HX.out]; exact rfl), agrP_snoc, ← HAG.out, ← HX.out]; exact t3⟩
          · subst hg
            repeat (gi_big_quiet_step (fail))
            refine wpQuietIn_nil ?_
            rintro _ ⟨nq, rfl⟩
            refine ⟨by go_simp, ?_⟩
            go_simp
            obtain ⟨t1, t2, t3⟩ := HFIN.out W3 _ _ nq H1.out H2.out H3.out true
            exact ⟨t1, t2, by dsimp only; rw [accP_snoc pre x (by rw [← HX.out]; exact rfl), agrP_snoc, ← HAG.out, ← HX.out]; exact t3⟩
      | some t =>
        have HVR := hid hvr
        obtain ⟨gr, or, cr, rfl, r0, r1⟩ := vec_one hvr HLOW.out
        clear hvr
        have hEQ := fun w : World => stampEq s.1 t.1 (s.2 : Int) (t.2 : Int) w
        by_cases hlt : s.2 < t.2
        · have hltI : (s.2 : Int) < (t.2 : Int) := by omega
          have HPK := hid (show pick (some s, some t) = some t by simp [pick, hlt])
          clear hlt
          gi_wp2_with fail
          refine region_round l hmx (by kernel_rfl) (by kernel_rfl) ?_
          repeat (gi_big_quiet_step (fail))
          refine wpQuietIn_nil ?_
          rintro W0 ⟨nq0, hW0⟩
          have HI2 := grI_drewN HI.out nq0
          have hk := keeps_drewN W2.heap.size W nq0
          have ht := kIt_drewN w.heap.size W1.heap.size (W1.heap.size + 1) (W1.heap.size + 1 + 1) W nq0
          have r0 : W0.cell? ⟨gr, or, none⟩ = some (.int .i64 t.1) := by rw [hW0]; exact r0
          have r1 : W0.cell? ⟨gr, or + 1, none⟩ = some (.int .u64 (t.2 : Int)) := by rw [hW0]; exact r1
          have l0 : W0.cell? ⟨gl, ol, none⟩ = some (.int .i64 s.1) := by rw [hW0]; exact l0
          have l1 : W0.cell? ⟨gl, ol + 1, none⟩ = some (.int .u64 (s.2 : Int)) := by rw [hW0]; exact l1
          rw [← hW0] at HI2 hk ht
          have HI2 := hid HI2
          have HK := hid hk
          have HT := hid ht
          clear hW0 hk ht
          obtain ⟨a0, n0, c0, hc4, hc4', hap⟩ := HAPP.out _ _ HI2.out
          obtain ⟨a1, c1, w2, hrun, k4, g4, H1, H2, H3⟩ := hap t
          have H2 := hid (HK.out.trans H2.out)
          have H3 := hid (KIt.trans HT.out H3.out)
          clear hap
          gi_wp2_with fail
          gi_region_o
          all_goals gi_wp2_with fail
          all_goals
            obtain ⟨W3, hW3⟩ : ∃ W3, w2.setCell ⟨w.heap.size, 0, none⟩ (.slice a1 (n0 + 1) c1) = W3 := ⟨_, rfl⟩
            rw [hW3] at H1 H2 H3 ⊢
            have y5 := H1.out.2.1.cell
            have yf := H1.out.2.1.frozen
            obtain ⟨gl', ol', cl', el, m0, m1⟩ := vec_one HVL.out H1.out.2.2.1
            cases el
            obtain ⟨gr', or', cr', er, p0, p1⟩ := vec_one HVR.out H1.out.2.2.1
            cases er
            clear hrun k4 g4 hW3 hc4 hc4'
            refine region_last l hmx (by kernel_rfl) (by kernel_rfl) (Nat.zero_lt_succ _) (by kernel_rfl) rfl rfl ?_
            simp only [quieted, lastOp, idle]
            rcases bool_two ag with hg | hg
            · subst hg
              repeat (gi_big_quiet_step (fail))
              refine wpQuietIn_nil ?_
              rintro _ ⟨nq, rfl⟩
              refine ⟨by go_simp, ?_⟩
              go_simp
              obtain ⟨t1, t2, t3⟩ := HFIN.out W3 _ _ nq H1.out H2.out H3.out false
              exact ⟨t1, t2, by dsimp only; rw [accP_snoc pre x (by rw [← HX.out]; exact HPK.out), agrP_snoc, ← HAG.out, Bool.false_and]; exact t3⟩
            · subst hg
              by_cases he : s.1 = t.1 ∧ (s.2 : Int) = (t.2 : Int)
              · have hAB := hid (show agB (some s, some t) = true from decide_eq_true (st_eq.1 he))
                rw [decide_eq_true he] at hEQ
                clear he
                repeat (gi_big_quiet_step (fail))
                refine wpQuietIn_nil ?_
                rintro _ ⟨nq, rfl⟩
                refine ⟨by go_simp, ?_⟩
                go_simp
                obtain ⟨t1, t2, t3⟩ := HFIN.out W3 _ _ nq H1.out H2.out H3.out true
                exact ⟨t1, t2, by dsimp only; rw [accP_snoc pre x (by rw [← HX.out]; exact HPK.out), agrP_snoc, ← HAG.out, ← HX.out, hAB.out]; exact t3⟩
              · have hAB := hid (show agB (some s, some t) = false from decide_eq_false (fun q => he (st_eq.2 q)))
                rw [decide_eq_false he] at hEQ
                clear he
                repeat (gi_big_quiet_step (fail))
                refine wpQuietIn_nil ?_
                rintro _ ⟨nq, rfl⟩
                refine ⟨by go_simp, ?_⟩
                go_simp
                obtain ⟨t1, t2, t3⟩ := HFIN.out W3 _ _ nq H1.out H2.out H3.out false
                exact ⟨t1, t2, by dsimp only; rw [accP_snoc pre x (by rw [← HX.out]; exact HPK.out), agrP_snoc, ← HAG.out, ← HX.out, hAB.out]; exact t3⟩
        · have hltI : ¬ (s.2 : Int) < (t.2 : Int) := by omega
          have HPK := hid (show pick (some s, some t) = some s by simp [pick, hlt])
          clear hlt
          gi_wp2_with fail
          refine region_round l hmx (by kernel_rfl) (by kernel_rfl) ?_
          repeat (gi_big_quiet_step (fail))
          refine wpQuietIn_nil ?_
          rintro W0 ⟨nq0, hW0⟩
          have HI2 := grI_drewN HI.out nq0
          have hk := keeps_drewN W2.heap.size W nq0
          have ht := kIt_drewN w.heap.size W1.heap.size (W1.heap.size + 1) (W1.heap.size + 1 + 1) W nq0
          have r0 : W0.cell? ⟨gr, or, none⟩ = some (.int .i64 t.1) := by rw [hW0]; exact r0
          have r1 : W0.cell? ⟨gr, or + 1, none⟩ = some (.int .u64 (t.2 : Int)) := by rw [hW0]; exact r1
          have l0 : W0.cell? ⟨gl, ol, none⟩ = some (.int .i64 s.1) := by rw [hW0]; exact l0
          have l1 : W0.cell? ⟨gl, ol + 1, none⟩ = some (.int .u64 (s.2 : Int)) := by rw [hW0]; exact l1
          rw [← hW0] at HI2 hk ht
          have HI2 := hid HI2
          have HK := hid hk
          have HT := hid ht
          clear hW0 hk ht
          obtain ⟨a0, n0, c0, hc4, hc4', hap⟩ := HAPP.out _ _ HI2.out
          obtain ⟨a1, c1, w2, hrun, k4, g4, H1, H2, H3⟩ := hap s
          have H2 := hid (HK.out.trans H2.out)
          have H3 := hid (KIt.trans HT.out H3.out)
          clear hap
          gi_wp2_with fail
          gi_region_o
          all_goals gi_wp2_with fail
          all_goals
            obtain ⟨W3, hW3⟩ : ∃ W3, w2.setCell ⟨w.heap.size, 0, none⟩ (.slice a1 (n0 + 1) c1) = W3 := ⟨_, rfl⟩
            rw [hW3] at H1 H2 H3 ⊢
            have y5 := H1.out.2.1.cell
            have yf := H1.out.2.1.frozen
            obtain ⟨gl', ol', cl', el, m0, m1⟩ := vec_one HVL.out H1.out.2.2.1
            cases el
            obtain ⟨gr', or', cr', er, p0, p1⟩ := vec_one HVR.out H1.out.2.2.1
            cases er
            clear hrun k4 g4 hW3 hc4 hc4'
            refine region_last l hmx (by kernel_rfl) (by kernel_rfl) (Nat.zero_lt_succ _) (by kernel_rfl) rfl rfl ?_
            simp only [quieted, lastOp, idle]
            rcases bool_two ag with hg | hg
            · subst hg
              repeat (gi_big_quiet_step (fail))
              refine wpQuietIn_nil ?_
              rintro _ ⟨nq, rfl⟩
              refine ⟨by go_simp, ?_⟩
              go_simp
              obtain ⟨t1, t2, t3⟩ := HFIN.out W3 _ _ nq H1.out H2.out H3.out false
              exact ⟨t1, t2, by dsimp only; rw [accP_snoc pre x (by rw [← HX.out]; exact HPK.out), agrP_snoc, ← HAG.out, Bool.false_and]; exact t3⟩
            · subst hg
              by_cases he : s.1 = t.1 ∧ (s.2 : Int) = (t.2 : Int)
              · have hAB := hid (show agB (some s, some t) = true from decide_eq_true (st_eq.1 he))
                rw [decide_eq_true he] at hEQ
                clear he
                repeat (gi_big_quiet_step (fail))
                refine wpQuietIn_nil ?_
                rintro _ ⟨nq, rfl⟩
                refine ⟨by go_simp, ?_⟩
                go_simp
                obtain ⟨t1, t2, t3⟩ := HFIN.out W3 _ _ nq H1.out H2.out H3.out true
                exact ⟨t1, t2, by dsimp only; rw [accP_snoc pre x (by rw [← HX.out]; exact HPK.out), agrP_snoc, ← HAG.out, ← HX.out, hAB.out]; exact t3⟩
              · have hAB := hid (show agB (some s, some t) = false from decide_eq_false (fun q => he (st_eq.2 q)))
                rw [decide_eq_false he] at hEQ
                clear he
                repeat (gi_big_quiet_step (fail))
                refine wpQuietIn_nil ?_
                rintro _ ⟨nq, rfl⟩
                refine ⟨by go_simp, ?_⟩
                go_simp
                obtain ⟨t1, t2, t3⟩ := HFIN.out W3 _ _ nq H1.out H2.out H3.out false
                exact ⟨t1, t2, by dsimp only; rw [accP_snoc pre x (by rw [← HX.out]; exact HPK.out), agrP_snoc, ← HAG.out, ← HX.out, hAB.out]; exact t3⟩
  case done =>
    rintro D ys W hD hS ⟨⟨v, hv, hr, hG⟩, hv5, hlow, hz⟩ hK
    obtain ⟨a0, c0, rfl⟩ := OwnS.form hr
    obtain ⟨n0, hn0⟩ : ∃ n0, n0 = (accP ys).length := ⟨_, rfl⟩
    rw [← hn0] at hv hr
    have c4 := hv.cell
    have f4 := hv.frozen
    have c5 := hv5.cell
    have f5 := hv5.frozen
    have HR := hid hr
    have HV := hid (And.intro hv hv5)
    have HN0 := hid hn0
    have HS := hid hS
    have HK := hid hK
    have HLOW := hid hlow
    have hmx : Tryd.prog.follows .mixedOrders = true := by kernel_rfl
    clear hG hz hr hv hv5 hn0 hS hK hlow
    gi_wp2_with fail
    gi_region_o
    all_goals gi_wp2_with fail
    all_goals
      obtain ⟨k1, ⟨k2, k3⟩, k4⟩ := set_two (B := W2.heap.size) (nq := 0) (v := .slice a0 n0 c0) (v' := .bool (agrP ys)) (by omega) (Nat.le_refl _) (by omega) HV.out HLOW.out (W' := (W.setCell ⟨w.heap.size, 0, none⟩ (.slice a0 n0 c0)).setCell ⟨w.heap.size + 1, 0, none⟩ (.bool (agrP ys))) rfl
      have hO : ((W.setCell ⟨w.heap.size, 0, none⟩ (.slice a0 n0 c0)).setCell ⟨w.heap.size + 1, 0, none⟩ (.bool (agrP ys))).ownsRow w.heap.size 33 2 (.slice a0 n0 c0) n0 (flatS (accP ys)) := by
        refine row_kept (row_kept HR.out (grownBy_setCell' W w.heap.size _) ?_) (grownBy_setCell' _ (w.heap.size + 1) _) ?_
        · intro q hq e
          cases hq
          obtain ⟨_, cs, hc⟩ := own_block HR.out e
          rw [show W.heap[w.heap.size]? = _ from HV.out.1] at hc
          cases hc
        · intro q hq e
          cases hq
          obtain ⟨_, cs, hc⟩ := own_block HR.out e
          rw [show W.heap[w.heap.size + 1]? = _ from HV.out.2] at hc
          cases hc
      obtain ⟨W4, hW4⟩ : ∃ W4, (W.setCell ⟨w.heap.size, 0, none⟩ (.slice a0 n0 c0)).setCell ⟨w.heap.size + 1, 0, none⟩ (.bool (agrP ys)) = W4 := ⟨_, rfl⟩
      rw [hW4] at k1 k2 k3 k4 hO ⊢
      have hK' : W4.drew.heap[D]? = some (.deferred (some [])) := k1.same D _ hD HK.out rfl
      have q2 := ((show Boxed W4.drew _ _ _ from k2).kept (grownBy_putObj' _ D (.deferred none)) (fun e => by injection e with e; omega)).cell
      have q3 := ((show Boxed W4.drew _ _ _ from k3).kept (grownBy_putObj' _ D (.deferred none)) (fun e => by injection e with e; omega)).cell
      refine ⟨by simp, .inl ⟨_, _, rfl, run_takeDeferred hK', ?_⟩⟩
      refine ⟨.tuple #[.slice a0 n0 c0, .bool (agrP ys)], ?_, .slice a0 n0 c0, ?_, ?_, k4.drew.trans (belowK_b (w := w) (Nat.le_refl _) _ D _ _ (by omega) hK' rfl rfl)⟩
      · simp [results, Tryd.f36, go_sem, q2, q3]
      · rw [← HS.out]; rfl
      · have e : grt a b = accP ys := by unfold grt accP; rw [HS.out]
        unfold OwnS
        rw [e, ← HN0.out]
        refine row_kept (own_keptS hO (Below.refl _ _).drew) (grownBy_putObj' W4.drew D (.deferred none)) (fun q hq e => ?_)
        cases hq
        obtain ⟨_, cs, hc⟩ := own_block hO e
        rw [show W4.heap[D]? = _ from hK'] at hc
        cases hc
  case stop =>
    rintro D pre W hD hS h hK
    exact h.elim
end Go.Proofs.YtibbbjikehkbmabDoor.Ve
