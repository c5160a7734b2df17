/-
  The document's Order: its row so far.
  The law RulesAny: a table's order hangs on no order of its rules.
  Tables of rules, by their mathematics: what one change makes of a row of rules in order.
-/
import Derived.Test.YtipmlcdnfaobiaaGreatUCopyAnd
import Derived.Test.YtipmlcdnfaobiaaGreatUChkAAnd
import Derived.Laws.AppendOwnNone
import Derived.Shelf.RegionOpenPlain
import Derived.Test.YtipmlcdnfaobiaaGreatUPrintAnd
namespace Go.Proofs.YtipmlcdnfaobiaaGreat
open Go.RowKit

theorem okAct_dec (k : Int) (ps : List (List UInt8)) : Nonempty (Decidable (okAct k ps)) := ⟨by unfold okAct okPorts Ru.Rise; exact inferInstance⟩
theorem below_2 {w w1 w2 : World} (h1 : Below w.heap.size w w1) (h2 : Below w1.heap.size w1 w2) : Below w.heap.size w w2 := h1.trans (h2.mono h1.size)
/-- The panic of a trial. -/
abbrev panE (e : Int) : List PanicEntry := [{ v := .iface 33 (.int .i64 e), recovered := false }]
/-- May an action be? -/
def okActB (k : Int) (ps : List (List UInt8)) : Bool := (decide (k = 1 ∨ k = 2) && ps.isEmpty) || (decide (k = 3 ∨ k = 4) && (decide (1 ≤ ps.length) && decide (ps.length ≤ 64) && ps.all Wo.nameB && decide (ps.Pairwise (· < ·))))
theorem okActB_iff {k : Int} {ps : List (List UInt8)} : okActB k ps = true ↔ okAct k ps := by
  unfold okActB okAct okPorts Ru.Rise
  simp only [Bool.or_eq_true, Bool.and_eq_true, decide_eq_true_eq, List.isEmpty_iff, List.all_eq_true]
  constructor
  · rintro (h | ⟨h1, ⟨⟨h2, h3⟩, h4⟩, h5⟩)
    · exact Or.inl h
    · exact Or.inr ⟨h1, h2, h3, h4, h5⟩
  · rintro (h | ⟨h1, h2, h3, h4, h5⟩)
    · exact Or.inl h
    · exact Or.inr ⟨h1, ⟨⟨h2, h3⟩, h4⟩, h5⟩
/-- The error of a rule, by its number. -/
def errR (W : Int) (r : Raw) : Int :=
  if ¬ (1 ≤ W ∧ W ≤ 128) ∨ r.prio < 0 ∨ 2147483647 < r.prio then 1
  else if Cub.Cu.right r.mat = false then 10
  else if (r.mat.length : Int) ≠ W then 11
  else if okActB r.kind r.ports = false then 51 else 0
theorem errR_ok {W : Int} {r : Raw} : errR W r = 0 ↔ okRule W r.prio r.mat r.kind r.ports := by
  unfold errR
  by_cases h1 : ¬ (1 ≤ W ∧ W ≤ 128) ∨ r.prio < 0 ∨ 2147483647 < r.prio
  · rw [if_pos h1]
    refine ⟨fun h => absurd h (by decide), fun h => ?_⟩
    have := h.wide
    have := h.prio
    omega
  rw [if_neg h1]
  by_cases h2 : Cub.Cu.right r.mat = false
  · rw [if_pos h2]
    refine ⟨fun h => absurd h (by decide), fun h => ?_⟩
    have := h.cube
    rw [h2] at this
    cases this
  rw [if_neg h2]
  by_cases h3 : (r.mat.length : Int) ≠ W
  · rw [if_pos h3]
    exact ⟨fun h => absurd h (by decide), fun h => absurd h.len h3⟩
  rw [if_neg h3]
  by_cases h4 : okActB r.kind r.ports = false
  · rw [if_pos h4]
    refine ⟨fun h => absurd h (by decide), fun h => ?_⟩
    have := okActB_iff.2 h.act
    rw [h4] at this
    cases this
  rw [if_neg h4]
  refine ⟨fun _ => ⟨by omega, by omega, by simpa using h2, by omega, okActB_iff.1 (by simpa using h4)⟩, fun _ => rfl⟩
theorem errR_small {W : Int} {r : Raw} (h : errR W r = 0) : Small r.mat r.ports ∧ r.ports.length ≤ 64 ∧ r.mat.length ≤ 128 ∧ ∀ p ∈ r.ports, p.length ≤ 64 := by
  have h := errR_ok.1 h
  have hm : r.mat.length ≤ 128 := by have := h.len; have := h.wide; omega
  have hp : r.ports.length ≤ 64 ∧ ∀ p ∈ r.ports, p.length ≤ 64 := by
    rcases h.act with ⟨_, e⟩ | ⟨_, _, h2, h3, _⟩
    · rw [e]; exact ⟨by simp, fun p hp => by cases hp⟩
    · exact ⟨h2, fun p hp => nameB_short (h3 p hp)⟩
  exact ⟨⟨by omega, by omega, fun z hz => by have := hp.2 z hz; omega⟩, hp.1, hm, hp.2⟩

/-- Two rules have one key. -/
def keyB (a b : Raw) : Bool := decide (a.prio = b.prio ∧ a.mat = b.mat)
theorem keyB_iff {a b : Raw} : keyB a b = true ↔ sameKey a b := by unfold keyB sameKey; simp
theorem cmpR_same {a b : Raw} (h : sameKey a b) : cmpR a b = 0 := by
  unfold cmpR cmpI cmpL
  rw [h.1, h.2]
  simp [List.lt_irrefl]
theorem keyB_cmp {a b : Raw} : keyB a b = true ↔ cmpR a b = 0 := keyB_iff.trans ⟨cmpR_same, cmpR_zero⟩
theorem cmpR_left {a b : Raw} (h : sameKey a b) (c : Raw) : cmpR a c = cmpR b c := by unfold cmpR; rw [h.1, h.2]
theorem cmpR_right {a b : Raw} (h : sameKey a b) (c : Raw) : cmpR c a = cmpR c b := by unfold cmpR; rw [h.1, h.2]
theorem sameKey.symm {a b : Raw} (h : sameKey a b) : sameKey b a := ⟨h.1.symm, h.2.symm⟩
theorem cmpR_trans {a b c : Raw} (h : cmpR a b < 0) (k : cmpR b c < 0) : cmpR a c < 0 := by
  rw [cmpR_neg] at h k ⊢
  rcases h with h | ⟨h1, h2⟩ <;> rcases k with k | ⟨k1, k2⟩
  · left; omega
  · left; omega
  · left; omega
  · exact Or.inr ⟨by omega, List.lt_trans h2 k2⟩
theorem cmpR_irr {a : Raw} : ¬ cmpR a a < 0 := by rw [cmpR_same ⟨rfl, rfl⟩]; omega
theorem cmpR_asy {a b : Raw} (h : cmpR a b < 0) (k : cmpR b a < 0) : False := cmpR_irr (cmpR_trans h k)
theorem cmpR_eq {a b : Raw} (h : ¬ cmpR a b < 0) (k : ¬ cmpR b a < 0) : sameKey a b := cmpR_zero (by have : ¬ 0 < cmpR a b := fun q => k (cmpR_pos.1 q); omega)

/-- Rules in order. -/
def Srt (L : List Raw) : Prop := L.Pairwise fun a b => cmpR a b < 0
/-- Where a rule belongs. -/
structure PlaceAt (L : List Raw) (r : Raw) (k : Nat) : Prop where
  le : k ≤ L.length
  lo : ∀ a ∈ L.take k, cmpR a r < 0
  hi : ∀ a ∈ L.drop k, ¬ cmpR a r < 0
def putR (L : List Raw) (r : Raw) : List Raw := L.filter (fun a => decide (cmpR a r < 0)) ++ r :: L.filter (fun a => !decide (cmpR a r < 0))
def rmR (L : List Raw) (r : Raw) : List Raw := L.filter fun a => !keyB a r
def mdR (L : List Raw) (r : Raw) : List Raw := L.map fun a => if keyB a r = true then r else a
theorem cut_at_ (L : List Raw) (k : Nat) : L = L.take k ++ L.drop k := (List.take_append_drop k L).symm
theorem putR_at {L : List Raw} {r : Raw} {k : Nat} (h : PlaceAt L r k) : putR L r = L.take k ++ r :: L.drop k := by
  have e1 : (L.take k).filter (fun a => decide (cmpR a r < 0)) = L.take k := List.filter_eq_self.2 fun a ha => by simpa using h.lo a ha
  have e2 : (L.drop k).filter (fun a => decide (cmpR a r < 0)) = [] := List.filter_eq_nil_iff.2 fun a ha => by simpa using h.hi a ha
  have e3 : (L.take k).filter (fun a => !decide (cmpR a r < 0)) = [] := List.filter_eq_nil_iff.2 fun a ha => by simpa using h.lo a ha
  have e4 : (L.drop k).filter (fun a => !decide (cmpR a r < 0)) = L.drop k := List.filter_eq_self.2 fun a ha => by simpa using h.hi a ha
  have f1 : L.filter (fun a => decide (cmpR a r < 0)) = L.take k := by
    conv => lhs; rw [cut_at_ L k]
    rw [List.filter_append, e1, e2, List.append_nil]
  have f2 : L.filter (fun a => !decide (cmpR a r < 0)) = L.drop k := by
    conv => lhs; rw [cut_at_ L k]
    rw [List.filter_append, e3, e4, List.nil_append]
  unfold putR
  rw [f1, f2]
theorem cut_mid_ {L : List Raw} {k : Nat} {a : Raw} (h : L[k]? = some a) : L = L.take k ++ a :: L.drop (k + 1) := by
  obtain ⟨hk, e⟩ := List.getElem?_eq_some_iff.1 h
  conv => lhs; rw [cut_at_ L k, List.drop_eq_getElem_cons hk, e]
theorem Srt.mid {L : List Raw} (hs : Srt L) {k : Nat} {a : Raw} (h : L[k]? = some a) : (∀ b ∈ L.take k, cmpR b a < 0) ∧ ∀ b ∈ L.drop (k + 1), cmpR a b < 0 := by
  unfold Srt at hs
  rw [cut_mid_ h] at hs
  obtain ⟨_, h2, h3⟩ := List.pairwise_append.1 hs
  exact ⟨fun b hb => h3 b hb a List.mem_cons_self, fun b hb => (List.pairwise_cons.1 h2).1 b hb⟩
theorem Srt.others {L : List Raw} (hs : Srt L) {k : Nat} {a r : Raw} (h : L[k]? = some a) (hk : keyB a r = true) : (∀ b ∈ L.take k, keyB b r = false) ∧ ∀ b ∈ L.drop (k + 1), keyB b r = false := by
  have hm := hs.mid h
  have hk := keyB_iff.1 hk
  refine ⟨fun b hb => ?_, fun b hb => ?_⟩
  · cases q : keyB b r with
    | false => rfl
    | true =>
      have := hm.1 b hb
      rw [cmpR_right hk, keyB_cmp.1 q] at this
      omega
  · cases q : keyB b r with
    | false => rfl
    | true =>
      have := hm.2 b hb
      rw [cmpR_left hk, cmpR_same (keyB_iff.1 q).symm] at this
      omega
theorem rmR_at {L : List Raw} (hs : Srt L) {k : Nat} {a r : Raw} (h : L[k]? = some a) (hk : keyB a r = true) : rmR L r = L.take k ++ L.drop (k + 1) := by
  obtain ⟨h1, h2⟩ := hs.others h hk
  have e1 : (L.take k).filter (fun a => !keyB a r) = L.take k := List.filter_eq_self.2 fun a ha => by simp [h1 a ha]
  have e2 : (L.drop (k + 1)).filter (fun a => !keyB a r) = L.drop (k + 1) := List.filter_eq_self.2 fun a ha => by simp [h2 a ha]
  unfold rmR
  conv => lhs; rw [cut_mid_ h]
  rw [List.filter_append, e1, List.filter_cons, e2]
  simp [hk]
theorem mdR_at {L : List Raw} (hs : Srt L) {k : Nat} {a r : Raw} (h : L[k]? = some a) (hk : keyB a r = true) : mdR L r = L.take k ++ r :: L.drop (k + 1) := by
  obtain ⟨h1, h2⟩ := hs.others h hk
  have e : ∀ l : List Raw, (∀ b ∈ l, keyB b r = false) → l.map (fun a => if keyB a r = true then r else a) = l := fun l hl => by
    conv => rhs; rw [← List.map_id l]
    refine List.map_congr_left fun b hb => ?_
    rw [hl b hb]; rfl
  unfold mdR
  conv => lhs; rw [cut_mid_ h]
  rw [List.map_append, List.map_cons, e _ h1, e _ h2, if_pos hk]
theorem there_iff {L : List Raw} (hs : Srt L) {r : Raw} {k : Nat} (h : PlaceAt L r k) : L.any (fun a => keyB a r) = true ↔ ∃ a, L[k]? = some a ∧ ¬ cmpR r a < 0 := by
  constructor
  · intro ht
    obtain ⟨a, ha, hk⟩ := List.any_eq_true.1 ht
    have hk := keyB_iff.1 hk
    rw [cut_at_ L k] at ha
    rcases List.mem_append.1 ha with ha | ha
    · have := h.lo a ha
      rw [cmpR_same hk] at this
      omega
    · have hlt : k < L.length := by
        have := List.length_pos_of_mem ha
        rw [List.length_drop] at this
        omega
      refine ⟨L[k], List.getElem?_eq_getElem hlt, fun q => ?_⟩
      have hb := h.hi L[k] (by rw [List.drop_eq_getElem_cons hlt]; exact List.mem_cons_self)
      rw [List.drop_eq_getElem_cons hlt] at ha
      rcases List.mem_cons.1 ha with e | ha
      · rw [← e, cmpR_same hk.symm] at q
        omega
      · have := (hs.mid (List.getElem?_eq_getElem hlt)).2 a ha
        rw [cmpR_right hk] at this
        exact hb this
  · rintro ⟨a, ha, hk⟩
    have hlt := (List.getElem?_eq_some_iff.1 ha).1
    refine List.any_eq_true.2 ⟨a, List.mem_of_getElem? ha, keyB_iff.2 (cmpR_eq (h.hi a ?_) hk)⟩
    rw [List.drop_eq_getElem_cons hlt, (List.getElem?_eq_some_iff.1 ha).2]
    exact List.mem_cons_self
theorem there_key {L : List Raw} {r a : Raw} {k : Nat} (h : PlaceAt L r k) (ha : L[k]? = some a) (hk : ¬ cmpR r a < 0) : keyB a r = true := by
  have hlt := (List.getElem?_eq_some_iff.1 ha).1
  refine keyB_iff.2 (cmpR_eq (h.hi a ?_) hk)
  rw [List.drop_eq_getElem_cons hlt, (List.getElem?_eq_some_iff.1 ha).2]
  exact List.mem_cons_self
theorem any_at {L : List Raw} {r a : Raw} {k : Nat} (ha : L[k]? = some a) (hk : keyB a r = true) : L.any (fun a => keyB a r) = true := List.any_eq_true.2 ⟨a, List.mem_of_getElem? ha, hk⟩

theorem putR_perm (L : List Raw) (r : Raw) : (putR L r).Perm (L ++ [r]) := by
  unfold putR
  refine List.perm_middle.trans ?_
  refine List.Perm.trans ?_ (List.perm_append_singleton r L).symm
  refine List.Perm.cons r ?_
  exact List.filter_append_perm _ _
theorem Srt.put {L : List Raw} (hs : Srt L) {r : Raw} (hn : L.any (fun a => keyB a r) = false) : Srt (putR L r) := by
  have hno : ∀ a ∈ L, ¬ sameKey a r := fun a ha q => by
    have := (List.any_eq_true (l := L) (p := fun a => keyB a r)).2 ⟨a, ha, keyB_iff.2 q⟩
    rw [hn] at this
    cases this
  unfold putR Srt
  refine List.pairwise_append.2 ⟨hs.sublist List.filter_sublist, List.pairwise_cons.2 ⟨fun b hb => ?_, hs.sublist List.filter_sublist⟩, fun a ha b hb => ?_⟩
  · obtain ⟨h1, h2⟩ := List.mem_filter.1 hb
    by_cases q : cmpR r b < 0
    · exact q
    · exact absurd (cmpR_eq (by simpa using h2) q) (hno b h1)
  · obtain ⟨h1, h2⟩ := List.mem_filter.1 ha
    have h2 : cmpR a r < 0 := by simpa using h2
    rcases List.mem_cons.1 hb with e | hb
    · rw [e]; exact h2
    · obtain ⟨k1, k2⟩ := List.mem_filter.1 hb
      by_cases q : cmpR r b < 0
      · exact cmpR_trans h2 q
      · exact absurd (cmpR_eq (by simpa using k2) q) (hno b k1)
theorem Srt.rm {L : List Raw} (hs : Srt L) (r : Raw) : Srt (rmR L r) := hs.sublist List.filter_sublist
theorem md_key {a r : Raw} : sameKey (if keyB a r = true then r else a) a := by
  split
  · rename_i h; exact (keyB_iff.1 h).symm
  · exact ⟨rfl, rfl⟩
theorem Srt.md {L : List Raw} (hs : Srt L) (r : Raw) : Srt (mdR L r) := by
  unfold Srt mdR
  rw [List.pairwise_map]
  refine hs.imp fun {a b} h => ?_
  rw [cmpR_left md_key, cmpR_right md_key]
  exact h

/-- What a change of a kind makes of a table's rules, or its error. -/
def stepN (W : Int) (L : List Raw) (k : Int) (r : Raw) : Except Int (List Raw) :=
  if k = 1 then (if errR W r = 0 then (if L.any (fun a => keyB a r) = true then .error 52 else if 4096 ≤ L.length then .error 3 else .ok (putR L r)) else .error (errR W r))
  else if k = 2 then (if errR W { r with kind := 1, ports := [] } = 0 then (if L.any (fun a => keyB a r) = true then .ok (rmR L r) else .error 60) else .error (errR W { r with kind := 1, ports := [] }))
  else if k = 3 then (if errR W r = 0 then (if L.any (fun a => keyB a r) = true then .ok (mdR L r) else .error 60) else .error (errR W r))
  else .error 61
/-- A table's rules. -/
structure GoodT (W : Int) (L : List Raw) : Prop where
  wide : 1 ≤ W ∧ W ≤ 128
  srt : Srt L
  few : L.length ≤ 4096
  ok : ∀ r ∈ L, errR W r = 0
theorem GoodT.nil {W : Int} (h : 1 ≤ W ∧ W ≤ 128) : GoodT W [] := ⟨h, List.Pairwise.nil, by simp, fun r hr => by cases hr⟩
theorem putR_len (L : List Raw) (r : Raw) : (putR L r).length = L.length + 1 := by rw [(putR_perm L r).length_eq]; simp
theorem GoodT.step {W : Int} {L L' : List Raw} {k : Int} {r : Raw} (h : GoodT W L) (hs : stepN W L k r = .ok L') : GoodT W L' := by
  unfold stepN at hs
  split at hs
  · split at hs
    · rename_i he
      split at hs
      · cases hs
      · rename_i hn
        split at hs
        · cases hs
        · rename_i hl
          cases hs
          refine ⟨h.wide, h.srt.put (by simpa using hn), by rw [putR_len]; omega, fun x hx => ?_⟩
          have := (putR_perm L r).mem_iff.1 hx
          rcases List.mem_append.1 this with q | q
          · exact h.ok x q
          · rw [List.mem_singleton.1 q]; exact he
    · cases hs
  · split at hs
    · split at hs
      · split at hs
        · cases hs
          refine ⟨h.wide, h.srt.rm r, Nat.le_trans (List.length_filter_le _ _) h.few, fun x hx => h.ok x (List.mem_filter.1 hx).1⟩
        · cases hs
      · cases hs
    · split at hs
      · split at hs
        · rename_i he
          split at hs
          · cases hs
            refine ⟨h.wide, h.srt.md r, by unfold mdR; rw [List.length_map]; exact h.few, fun x hx => ?_⟩
            obtain ⟨a, ha, rfl⟩ := List.mem_map.1 hx
            split
            · exact he
            · exact h.ok a ha
          · cases hs
        · cases hs
      · cases hs
/-- What changes make of it, one behind the other; or the number of the first that may not be, and its error. -/
def runN (W : Int) : List Raw → List (Int × Raw) → Nat → Except (Nat × Int) (List Raw)
  | L, [], _ => .ok L
  | L, c :: cs, i => match stepN W L c.1 c.2 with
    | .error e => .error (i, e)
    | .ok L' => runN W L' cs (i + 1)
theorem GoodT.run {W : Int} {cs : List (Int × Raw)} : ∀ {L L' : List Raw} {i : Nat}, GoodT W L → runN W L cs i = .ok L' → GoodT W L' := by
  induction cs with
  | nil => intro L L' i h hr; cases hr; exact h
  | cons c cs ih =>
    intro L L' i h hr
    unfold runN at hr
    split at hr
    · cases hr
    · rename_i L1 h1
      exact ih (h.step h1) hr
end Go.Proofs.YtipmlcdnfaobiaaGreat
namespace Go.Proofs.YtipmlcdnfaobiaaGreat
open Go.RowKit

/-- The cells of rules. -/
def flatV (rs : List (Raw × Value)) : List Value := rs.flatMap fun q => [.int .i64 q.1.prio, .string (tx q.1.mat), .int .i64 q.1.kind, q.2]
theorem flatV_len (rs : List (Raw × Value)) : (flatV rs).length = rs.length * 4 := by
  induction rs with
  | nil => rfl
  | cons q r ih =>
    show (_ :: _ :: _ :: _ :: flatV r).length = _
    simp only [List.length_cons, ih]; omega
theorem flatV_get {rs : List (Raw × Value)} : ∀ {i : Nat} {q : Raw × Value}, rs[i]? = some q → (flatV rs)[i * 4]? = some (.int .i64 q.1.prio) ∧ (flatV rs)[i * 4 + 1]? = some (.string (tx q.1.mat)) ∧ (flatV rs)[i * 4 + 2]? = some (.int .i64 q.1.kind) ∧ (flatV rs)[i * 4 + 3]? = some q.2 := by
  induction rs with
  | nil => intro i q h; simp at h
  | cons a r ih =>
    intro i q h
    have e : flatV (a :: r) = .int .i64 a.1.prio :: .string (tx a.1.mat) :: .int .i64 a.1.kind :: a.2 :: flatV r := rfl
    rw [e]
    cases i with
    | zero =>
      have : a = q := by simpa using h
      subst this
      exact ⟨rfl, rfl, rfl, rfl⟩
    | succ i =>
      obtain ⟨h0, h1, h2, h3⟩ := ih (by simpa using h)
      rw [show (i + 1) * 4 = i * 4 + 1 + 1 + 1 + 1 by omega]
      exact ⟨by simpa using h0, by simpa using h1, by simpa using h2, by simpa using h3⟩
theorem flatV_one {rs : List (Raw × Value)} (h : ∀ q ∈ rs, ∃ ao n c, q.2 = .slice ao n c) : ∀ u ∈ flatV rs, u.oneCell' = true := by
  intro u hu
  obtain ⟨q, hq, hu⟩ := List.mem_flatMap.1 hu
  obtain ⟨ao, n, c, e⟩ := h q hq
  simp only [List.mem_cons, List.not_mem_nil, or_false] at hu
  rcases hu with rfl | rfl | rfl | rfl
  · rfl
  · rfl
  · rfl
  · rw [e]; rfl
theorem flatV_append (a b : List (Raw × Value)) : flatV (a ++ b) = flatV a ++ flatV b := by simp [flatV]
theorem wpList_append_srcR {P : Program} (w : World) {ops : Array Oper} {rest : List Oper} {o : Oper} {a : Act} {Q : Exit → Act → World → Prop} (hgd : o.guard = none) (s x : Operand) (t : TypeId)
    (ho : o.op = .call { callee := .builtin .append, args := #[s, x], argTypes := #[t, t] })
    (base : Nat) (e : TypeId) (i : TypeInfo) (z : Value) (size bytes : Nat) (ht : P.underlying t = some (.slice e)) (hi : P.info? e = some i) (hz : i.zero = some z)
    (hsize : i.size = size) (hby : i.bytes = bytes) (hzs : z.cells.size = size) (hsz : 0 < size)
    (v : Value) (n : Nat) (xs : List Value) (hs : a.eval s = v) (hown : w.ownsRow base e size v n xs)
    (vx : Value) (m : Nat) (news : List Value) (hx : a.eval x = vx) (hsrc : (vx = .slice none 0 0 ∧ m = 0 ∧ news = []) ∨ ∃ ad c, vx = .slice (some ad) m c ∧ news.length = m * size ∧ ∀ j u, news[j]? = some u → w.cell? (ad.add j) = some u) (h1 : ∀ u ∈ news, u.oneCell' = true)
    (h63 : n + m ≤ maxLen) (hbytes : (n + m) * bytes ≤ 140737488355328) (hbase : base ≤ w.heap.size)
    (h : ∀ v' w', w'.ownsRow base e size v' (n + m) (xs ++ news) → w.grownBy w' v.ownBlock → wpList P ops Q rest (a.put o.dst v') w') :
    wpList P ops Q (o :: rest) a w := by
  rcases hsrc with ⟨rfl, rfl, rfl⟩ | ⟨ad, c, rfl, hl, hc⟩
  · refine wpList_append_own_none hgd s x t ho base e i size ht hi v n xs hs hown hx ?_
    exact h v w (by simpa using hown) (grown_refl _ _)
  · refine wpList_append_own_at w hgd s x t ho base e i z size bytes ht hi hz hsize hby hzs hsz v n xs hs hown ad m c news hx hl hc h1 h63 hbytes hbase ?_
    intro v' w' h1 h2 _ _
    exact h v' w' h1 h2

theorem grown_below {w a b : World} {row : Option Nat} {B : Nat} (h : Below B w a) (hg : a.grownBy b row) (hB : B ≤ a.heap.size) (hr : ∀ k, row = some k → B ≤ k) : Below B w b := h.grown hg hB hr

end Go.Proofs.YtipmlcdnfaobiaaGreat
namespace Go.Proofs.YtipmlcdnfaobiaaGreat
open Go.RowKit

/-- The rules at some places. -/
def rowOf (ps : List (Raw × Value)) (S : List Nat) : List (Raw × Value) := S.map fun i => ps.getD i (⟨0, [], 0, []⟩, .slice none 0 0)
theorem rowOf_len (ps : List (Raw × Value)) (S : List Nat) : (rowOf ps S).length = S.length := by simp [rowOf]
theorem rowOf_get {ps : List (Raw × Value)} {S : List Nat} {t y : Nat} {q : Raw × Value} (hy : S[t]? = some y) (hq : ps[y]? = some q) : (rowOf ps S)[t]? = some q := by
  unfold rowOf
  rw [List.getElem?_map, hy]
  simp [List.getD_eq_getElem?_getD, hq]
theorem rowOf_append (ps : List (Raw × Value)) (A B : List Nat) : rowOf ps (A ++ B) = rowOf ps A ++ rowOf ps B := by simp [rowOf]
/-- Where the document's Order stands: the rules at S are its row so far. -/
structure DocAt (w : World) (ps : List (Raw × Value)) (j : Nat) (vo : Value) (S : List Nat) (wr : World) : Prop where
  low : Below w.heap.size w wr
  own : wr.ownsRow w.heap.size 44 4 vo j (flatV (rowOf ps S))
  up : St.Up (cmpAt ps) S
  perm : S.Perm (List.range' 0 j)
theorem DocAt.len {w wr : World} {ps : List (Raw × Value)} {j : Nat} {vo : Value} {S : List Nat} (h : DocAt w ps j vo S wr) : S.length = j := by rw [h.perm.length_eq]; simp
theorem DocAt.mem {w wr : World} {ps : List (Raw × Value)} {j : Nat} {vo : Value} {S : List Nat} (h : DocAt w ps j vo S wr) {x : Nat} (hx : x ∈ S) : x < j := by
  have := h.perm.mem_iff.1 hx
  rw [List.mem_range'_1] at this
  omega
theorem own_kept {w w' : World} {B : Nat} {v : Value} {n : Nat} {xs : List Value} (h : w.ownsRow B 44 4 v n xs) (hb : Below w.heap.size w w') : w'.ownsRow B 44 4 v n xs := by
  obtain ⟨h1, h2⟩ := h
  refine ⟨h1, ?_⟩
  rcases h2 with h2 | ⟨g, cap, cur, e, hB, hh, r⟩
  · exact Or.inl h2
  · exact Or.inr ⟨g, cap, cur, e, hB, below_block hb hh (lt_of_block hh), r⟩
/-- A row's cells, for reading: none, or from an address on. -/
theorem own_cells {w : World} {B : Nat} {bo : Option Addr} {n c : Nat} {xs : List Value} (h : w.ownsRow B 44 4 (.slice bo n c) n xs) : (bo = none ∧ n = 0 ∧ c = 0) ∨ ∃ g, bo = some ⟨g, 0, none⟩ ∧ B ≤ g ∧ n ≤ c ∧ g < w.heap.size ∧ ∀ (j : Nat) (u : Value), xs[j]? = some u → w.cell? ⟨g, j, none⟩ = some u := by
  rcases h.2 with ⟨e, h0⟩ | ⟨g, cap, cur, e, hB, hh, hn, _, _, ht⟩
  · injection e with e1 e2 e3
    exact Or.inl ⟨e1, e2, e3⟩
  · injection e with e1 e2 e3
    refine Or.inr ⟨g, e1, hB, by omega, lt_of_block hh, fun j u hj => ?_⟩
    rw [cell_at hh, ← Array.getElem?_toList]
    rw [← ht, List.getElem?_take] at hj
    split at hj
    · exact hj
    · cases hj
end Go.Proofs.YtipmlcdnfaobiaaGreat
