/-
  Topologies that were parsed: what holds of all that was read, and its words' weight against the text's. Plain mathematics.
  Topologies that were parsed: their devices may be, and how many bytes their words have: no more than the text's. Plain mathematics.
  How long the names of classes are, and how many there are. Plain mathematics.
  What the document reads of lines, its links by names, against what the program reads, its links by numbers. Plain mathematics.
  Something put at its place in a row that is in order; rows in order that hold the same. Plain mathematics.
-/
import Derived.Test.YtebaopiedlioiaaGreatDoorJDvOAnd
import Derived.Test.YtebaopiedlioiaaGreatDoorJDocXAnd
import Derived.Test.YtebaopiedlioiaaGreatDoorJRdIAnd
import Derived.Test.YtebaopiedlioiaaGreatDoorJParBAnd
namespace Go.Proofs.YtebaopiedlioiaaGreatDoor

theorem ins_perm {α : Type} (l : List α) (k : Nat) (x : α) : (l.take k ++ x :: l.drop k).Perm (l ++ [x]) := by
  have h1 : (l.take k ++ x :: l.drop k).Perm (x :: (l.take k ++ l.drop k)) := List.perm_middle
  rw [List.take_append_drop] at h1
  have h2 : (l ++ [x]).Perm (x :: l) := List.perm_append_singleton x l
  exact h1.trans h2.symm
theorem ins_sorted {α : Type} {lt : α → α → Prop} {l : List α} {k : Nat} {x : α} (hk : k ≤ l.length) (hs : l.Pairwise fun a b => ¬ lt b a) (h1 : ∀ (i : Nat) (y : α), k ≤ i → l[i]? = some y → lt x y) (h2 : ∀ (i : Nat) (y : α), i + 1 = k → l[i]? = some y → ¬ lt x y) (ha : ∀ a b, lt a b → ¬ lt b a) (ht : ∀ a b c, ¬ lt a b → ¬ lt b c → ¬ lt a c) : (l.take k ++ x :: l.drop k).Pairwise fun a b => ¬ lt b a := by
  have hsp : (l.take k ++ l.drop k).Pairwise fun a b => ¬ lt b a := by rw [List.take_append_drop]; exact hs
  rw [List.pairwise_append] at hsp ⊢
  obtain ⟨p1, p2, p3⟩ := hsp
  have hd : ∀ y ∈ l.drop k, lt x y := fun y hy => by
    obtain ⟨i, hi⟩ := List.getElem?_of_mem hy
    rw [List.getElem?_drop] at hi
    exact h1 (k + i) y (Nat.le_add_right _ _) hi
  have htk : ∀ a ∈ l.take k, ¬ lt x a := fun a ha' => by
    obtain ⟨i, hi⟩ := List.getElem?_of_mem ha'
    have hik : i < (l.take k).length := (List.getElem?_eq_some_iff.1 hi).1
    rw [List.length_take] at hik
    rw [List.getElem?_take_of_lt (by omega)] at hi
    obtain ⟨y, hy⟩ : ∃ y, l[k - 1]? = some y := ⟨l[k - 1]'(by omega), List.getElem?_eq_getElem (by omega)⟩
    have hxy := h2 (k - 1) y (by omega) hy
    by_cases e : i = k - 1
    · rw [e, hy] at hi
      injection hi with hi
      rw [← hi]; exact hxy
    · have hp := List.pairwise_iff_getElem.1 hs i (k - 1) (by omega) (by omega) (by omega)
      have e1 : l[i]'(by omega) = a := by rw [List.getElem?_eq_getElem (by omega)] at hi; exact Option.some.inj hi
      have e2 : l[k - 1]'(by omega) = y := by rw [List.getElem?_eq_getElem (by omega)] at hy; exact Option.some.inj hy
      rw [e1, e2] at hp
      exact ht _ _ _ hxy hp
  refine ⟨p1, List.pairwise_cons.2 ⟨fun y hy => ha _ _ (hd y hy), p2⟩, fun a h3 b h4 => ?_⟩
  rcases List.mem_cons.1 h4 with rfl | h4
  · exact htk a h3
  · exact p3 a h3 b h4
/-- Two rows in order that hold the same are one. -/
theorem sorted_one {α : Type} {lt : α → α → Prop} : ∀ {l l' : List α}, l.Perm l' → l.Pairwise (fun a b => ¬ lt b a) → l'.Pairwise (fun a b => ¬ lt b a) → (∀ a ∈ l, ∀ b ∈ l, ¬ lt a b → ¬ lt b a → a = b) → l = l'
  | [], l', hp, _, _, _ => (List.perm_nil.1 hp.symm).symm
  | a :: t, [], hp, _, _, _ => absurd (List.perm_nil.1 hp) (by simp)
  | a :: t, b :: r, hp, h1, h2, hq => by
    have p1 := List.pairwise_cons.1 h1
    have p2 := List.pairwise_cons.1 h2
    have hb : b ∈ a :: t := hp.mem_iff.2 List.mem_cons_self
    have ha : a ∈ b :: r := hp.mem_iff.1 List.mem_cons_self
    have e : a = b := by
      rcases List.mem_cons.1 hb with e | hb'
      · exact e.symm
      · rcases List.mem_cons.1 ha with e | ha'
        · exact e
        · exact hq a List.mem_cons_self b hb (p2.1 a ha') (p1.1 b hb')
    subst e
    rw [sorted_one (List.Perm.cons_inv hp) p1.2 p2.2 (fun x hx y hy => hq x (List.mem_cons_of_mem _ hx) y (List.mem_cons_of_mem _ hy))]
/-- Ends, as a link and a row of links order them. -/
def endLt (a b : Nat × List UInt8) : Prop := ocE a.1 a.2 b.1 b.2 < 0
theorem endLt_iff {a b : Nat × List UInt8} : endLt a b ↔ a.1 < b.1 ∨ (a.1 = b.1 ∧ a.2 < b.2) := by
  unfold endLt
  rw [ocE_neg]
  constructor
  · rintro (h | ⟨h, k⟩)
    · exact .inl (by omega)
    · exact .inr ⟨by omega, k⟩
  · rintro (h | ⟨h, k⟩)
    · exact .inl (by omega)
    · exact .inr ⟨by omega, k⟩
theorem endLt_asymm {a b : Nat × List UInt8} (h : endLt a b) : ¬ endLt b a := by
  rw [endLt_iff] at *
  rintro (k | ⟨k, k2⟩) <;> rcases h with h | ⟨h, h2⟩
  · omega
  · omega
  · omega
  · exact List.lt_irrefl _ (List.lt_trans h2 k2)
theorem endLt_total {a b : Nat × List UInt8} (h : ¬ endLt a b) (k : ¬ endLt b a) : a = b := by
  rw [endLt_iff] at h k
  have e : a.1 = b.1 := by
    have h1 : ¬ a.1 < b.1 := fun q => h (.inl q)
    have k1 : ¬ b.1 < a.1 := fun q => k (.inl q)
    omega
  have e2 : a.2 = b.2 := by
    rcases Ru.lt_or (fun q => h (.inr ⟨e, q⟩)) with q | q
    · exact absurd (Or.inr ⟨e.symm, q⟩) k
    · exact q
  exact Prod.ext e e2
theorem endLt_trans {a b c : Nat × List UInt8} (h : ¬ endLt a b) (k : ¬ endLt b c) : ¬ endLt a c := by
  rw [endLt_iff] at *
  rintro (q | ⟨q, q2⟩)
  · have h1 : ¬ a.1 < b.1 := fun q => h (.inl q)
    have k1 : ¬ b.1 < c.1 := fun q => k (.inl q)
    omega
  · have h1 : ¬ a.1 < b.1 := fun q => h (.inl q)
    have k1 : ¬ b.1 < c.1 := fun q => k (.inl q)
    exact lt_notB (fun r => h (.inr ⟨by omega, r⟩)) (fun r => k (.inr ⟨by omega, r⟩)) q2
end Go.Proofs.YtebaopiedlioiaaGreatDoor
namespace Go.Proofs.YtebaopiedlioiaaGreatDoor
open Wo (Wd)
open Dt (NmZ takN atN endD lnkD atW widD)

theorem jndL_lt (a b : Nat × List UInt8) : (endLt b a ∧ jndL a b = ⟨b.1, b.2, a.1, a.2⟩) ∨ (¬ endLt b a ∧ jndL a b = ⟨a.1, a.2, b.1, b.2⟩) := by
  unfold jndL
  by_cases h : ocE b.1 b.2 a.1 a.2 < 0
  · rw [if_pos h]; exact .inl ⟨h, rfl⟩
  · rw [if_neg h]; exact .inr ⟨h, rfl⟩
theorem jndL_comm {a b : Nat × List UInt8} (h : a ≠ b) : jndL a b = jndL b a := by
  rcases jndL_lt a b with ⟨h1, e1⟩ | ⟨h1, e1⟩ <;> rcases jndL_lt b a with ⟨h2, e2⟩ | ⟨h2, e2⟩
  · exact absurd h2 (endLt_asymm h1)
  · rw [e1, e2]
  · rw [e1, e2]
  · exact absurd (endLt_total h2 h1) h
theorem renL_jnd (f : Nat → Nat) {a b : Nat × List UInt8} (h : (f a.1, a.2) ≠ (f b.1, b.2)) : renL f (jndL a b) = jndL (f a.1, a.2) (f b.1, b.2) := by
  rcases jndL_lt a b with ⟨h1, e1⟩ | ⟨h1, e1⟩
  · rw [e1, jndL_comm h]; rfl
  · rw [e1]; rfl
/-- A link's lesser end. -/
def lowE (l : To.Lk) : Nat × List UInt8 := (l.a, l.p)
theorem lowE_jnd (a b : Nat × List UInt8) : lowE (jndL a b) = a ∨ lowE (jndL a b) = b := by
  rcases jndL_lt a b with ⟨h1, e1⟩ | ⟨h1, e1⟩
  · rw [e1]; exact .inr rfl
  · rw [e1]; exact .inl rfl
theorem idx_inj {l : List (List UInt8)} {y z : List UInt8} (hy : y ∈ l) (hz : z ∈ l) (h : l.idxOf y = l.idxOf z) : y = z := by
  have h1 : l[l.idxOf y]? = some y := by rw [List.getElem?_eq_getElem (List.idxOf_lt_length_iff.2 hy)]; exact congrArg some (List.getElem_idxOf _)
  have h2 : l[l.idxOf z]? = some z := by rw [List.getElem?_eq_getElem (List.idxOf_lt_length_iff.2 hz)]; exact congrArg some (List.getElem_idxOf _)
  rw [h, h2] at h1
  exact (Option.some.inj h1).symm
theorem plJ_idx (t : List UInt8) : ∀ l : List (List UInt8), plJ t l = if t ∈ l then some (l.idxOf t) else none
  | [] => by simp [plJ]
  | a :: r => by
    unfold plJ
    by_cases e : a = t
    · subst e
      rw [if_pos rfl, if_pos List.mem_cons_self, List.idxOf_cons_self]
    · rw [if_neg e, plJ_idx t r]
      have e2 : (a == t) = false := by rw [beq_eq_false_iff_ne]; exact e
      by_cases ht : t ∈ r
      · rw [if_pos ht, if_pos (List.mem_cons_of_mem _ ht), List.idxOf_cons, e2]; rfl
      · rw [if_neg ht, if_neg (fun q => by rcases List.mem_cons.1 q with q | q; exact e q.symm; exact ht q)]; rfl
theorem plZ_idx {t : List UInt8} {l : List (List UInt8)} (h : t ∈ l) : plZ t l = (l.idxOf t : Int) := by
  unfold plZ; rw [plJ_idx, if_pos h]
/-- The ends of a link by the places of its devices' names. -/
def nmE (nms : List (List UInt8)) (q : NmZ) : (Nat × List UInt8) × (Nat × List UInt8) := ((nms.idxOf q.1.1, q.1.2), (nms.idxOf q.2.1, q.2.2))
/-- The document's links by names, the program's by numbers. -/
structure Sim (s : TSt) (ns : List NmZ) : Prop where
  ks : s.ks = ns.flatMap fun q => [(nmE s.nms q).1, (nmE s.nms q).2]
  ls : s.ls = ns.map fun q => jndL (nmE s.nms q).1 (nmE s.nms q).2
  mem : ∀ q ∈ ns, q.1.1 ∈ s.nms ∧ q.2.1 ∈ s.nms
  prt : ∀ k ∈ s.ks, hasP s.ds k.1 k.2 = true
  nd : s.ks.Nodup
theorem Sim.nil : Sim TSt.nil [] := ⟨rfl, rfl, fun _ h => absurd h (List.not_mem_nil), fun _ h => absurd h (List.not_mem_nil), List.nodup_nil⟩
theorem Sim.taken {s : TSt} {ns : List NmZ} (h : Sim s ns) {y z : List UInt8} (hy : y ∈ s.nms) : (s.nms.idxOf y, z) ∈ s.ks ↔ takN ns y z = true := by
  rw [h.ks, List.mem_flatMap]
  unfold takN
  rw [List.any_eq_true]
  constructor
  · rintro ⟨q, hq, hm⟩
    refine ⟨q, hq, ?_⟩
    obtain ⟨m1, m2⟩ := h.mem q hq
    unfold nmE at hm
    rcases List.mem_cons.1 hm with e | hm
    · injection e with e1 e2
      have := idx_inj hy m1 e1
      subst this; subst e2
      simp [atN]
    · have e := List.mem_singleton.1 hm
      injection e with e1 e2
      have := idx_inj hy m2 e1
      subst this; subst e2
      simp [atN]
  · rintro ⟨q, hq, ha⟩
    refine ⟨q, hq, ?_⟩
    unfold atN at ha
    simp only [Bool.or_eq_true, Bool.and_eq_true, beq_iff_eq] at ha
    unfold nmE
    rcases ha with ⟨e1, e2⟩ | ⟨e1, e2⟩
    · rw [← e1, ← e2]; exact List.mem_cons_self
    · rw [← e1, ← e2]; exact List.mem_cons_of_mem _ List.mem_cons_self
theorem hasP_getD {ds : List To.Dv} {k : Nat} (m : List UInt8) (h : k < ds.length) : hasP ds (k : Int) m = (ds.getD k dv0).prt.contains m := by
  unfold hasP
  rw [if_pos (by omega), Int.toNat_natCast, List.getElem?_eq_getElem h, List.getD_eq_getElem?_getD, List.getElem?_eq_getElem h]; rfl
theorem hasP_app {ds : List To.Dv} {k : Nat} {m : List UInt8} (d : To.Dv) (h : hasP ds (k : Int) m = true) : hasP (ds ++ [d]) (k : Int) m = true := by
  unfold hasP at *
  rw [if_pos (by omega), Int.toNat_natCast] at *
  cases e : ds[k]? with
  | none => rw [e] at h; cases h
  | some q =>
    rw [e] at h
    rw [List.getElem?_append_left (List.getElem?_eq_some_iff.1 e).1, e]; exact h
/-- An end by its name, or its fault: with the device's number. -/
def numE (nms : List (List UInt8)) : Except Ru.Ft (List UInt8 × List UInt8) → Except Ru.Ft (Nat × List UInt8)
  | .error f => .error f
  | .ok dp => .ok (nms.idxOf dp.1, dp.2)
/-- What is known of an end that was read. -/
theorem endD_ok {ds : List To.Dv} {ns : List NmZ} {d0 p0 : List UInt8} {l : List Wd} {i : Nat} {d p : List UInt8} (h : endD ds ns d0 p0 l i = .ok (d, p)) : d ∈ ds.map (·.name) ∧ hasP ds ((ds.map (·.name)).idxOf d : Nat) p = true ∧ takN ns d p = false ∧ ¬ (d = d0 ∧ p = p0) ∧ Wo.nameB d = true := by
  unfold endD at h
  by_cases h1 : Wo.nameB (atW l i).1 = false
  · rw [if_pos h1] at h; cases h
  rw [if_neg h1, plJ_idx] at h
  by_cases h2 : (atW l i).1 ∈ ds.map (·.name)
  case neg => (rw [if_neg h2] at h; cases h)
  rw [if_pos h2] at h
  simp only at h
  by_cases h3 : Wo.nameB (atW l (i + 1)).1 = false
  · rw [if_pos h3] at h; cases h
  rw [if_neg h3] at h
  by_cases h4 : (ds.getD ((ds.map (·.name)).idxOf (atW l i).1) dv0).prt.contains (atW l (i + 1)).1 = false
  · rw [if_pos h4] at h; cases h
  rw [if_neg h4] at h
  by_cases h5 : (takN ns (atW l i).1 (atW l (i + 1)).1 || (((atW l i).1 == d0) && ((atW l (i + 1)).1 == p0))) = true
  · rw [if_pos h5] at h; cases h
  rw [if_neg h5] at h
  injection h with h
  injection h with e1 e2
  subst e1; subst e2
  rw [Bool.not_eq_true, Bool.or_eq_false_iff, Bool.and_eq_false_iff] at h5
  have hlt : (ds.map (·.name)).idxOf (atW l i).1 < ds.length := by have := List.idxOf_lt_length_iff.2 h2; rwa [List.length_map] at this
  refine ⟨h2, ?_, h5.1, ?_, by simpa using h1⟩
  · rw [hasP_getD _ hlt]; simpa using h4
  · rintro ⟨e1, e2⟩
    rcases h5.2 with q | q
    · rw [e1] at q; simp at q
    · rw [e2] at q; simp at q
theorem end_sim {ds : List To.Dv} {ns : List NmZ} {ks : List (Nat × List UInt8)} {d0 p0 : List UInt8} {l : List Wd} {i : Nat} (hK : ∀ y z, y ∈ ds.map (·.name) → Wo.nameB y = true → (((ds.map (·.name)).idxOf y, z) ∈ ks ↔ (takN ns y z || ((y == d0) && (z == p0))) = true)) (hP : ∀ k ∈ ks, hasP ds k.1 k.2 = true) :
    endJ (fun p m => hasP ds p m) (ds.map (·.name)) ks (Ru.endW l) (l.drop i) = numE (ds.map (·.name)) (endD ds ns d0 p0 l i) := by
  have hz : Ru.nx (Ru.endW l) (l.drop i).tail = atW l (i + 1) := by rw [List.tail_drop]
  simp only [endJ]
  rw [hz, show Ru.nx (Ru.endW l) (l.drop i) = atW l i from rfl]
  unfold endD
  by_cases h1 : Wo.nameB (atW l i).1 = false
  · rw [if_pos h1, if_pos h1]; rfl
  rw [if_neg h1, if_neg h1, plJ_idx]
  by_cases h2 : (atW l i).1 ∈ ds.map (·.name)
  case neg => (rw [if_pos h2, if_neg h2]; rfl)
  rw [if_neg (by simpa using h2), if_pos h2]
  simp only
  by_cases h3 : Wo.nameB (atW l (i + 1)).1 = false
  · rw [if_pos h3, if_pos h3]; rfl
  rw [if_neg h3, if_neg h3]
  have hlt : (ds.map (·.name)).idxOf (atW l i).1 < ds.length := by have := List.idxOf_lt_length_iff.2 h2; rwa [List.length_map] at this
  have hh := hasP_getD (atW l (i + 1)).1 hlt
  have hk := hK (atW l i).1 (atW l (i + 1)).1 h2 (by simpa using h1)
  by_cases h4 : (ds.getD ((ds.map (·.name)).idxOf (atW l i).1) dv0).prt.contains (atW l (i + 1)).1 = false
  · rw [if_pos (show hasP ds ((ds.map (·.name)).idxOf (atW l i).1 : Nat) (atW l (i + 1)).1 = false from hh.trans h4), if_pos h4]
    by_cases h5 : ((ds.map (·.name)).idxOf (atW l i).1, (atW l (i + 1)).1) ∈ ks
    · have := hP _ h5
      rw [hasP_getD _ hlt, h4] at this
      cases this
    · rw [if_neg h5]; rfl
  · rw [if_neg (show ¬ hasP ds ((ds.map (·.name)).idxOf (atW l i).1 : Nat) (atW l (i + 1)).1 = false from fun q => h4 (hh.symm.trans q)), if_neg h4]
    by_cases h5 : ((ds.map (·.name)).idxOf (atW l i).1, (atW l (i + 1)).1) ∈ ks
    · rw [if_pos h5, if_pos (hk.1 h5)]; rfl
    · rw [if_neg h5, if_neg (fun q => h5 (hk.2 q))]; rfl
/-- A link by names, or its fault: by numbers. -/
def numL (nms : List (List UInt8)) : Except Ru.Ft NmZ → Except Ru.Ft ((Nat × List UInt8) × (Nat × List UInt8))
  | .error f => .error f
  | .ok q => .ok (nmE nms q)
theorem lnk_sim {s : TSt} {ns : List NmZ} (h : Sim s ns) (x : Wd) (t : List Wd) : lnkJ (fun p m => hasP s.ds p m) s.nms s.ks x (Ru.endW (x :: t)) s.ls.length t = numL s.nms (lnkD s.ds ns (x :: t)) := by
  have hl : s.ls.length = ns.length := by rw [h.ls, List.length_map]
  have hd : ∀ k, t.drop k = (x :: t).drop (k + 1) := fun k => rfl
  have h1 := end_sim (ds := s.ds) (ns := ns) (ks := s.ks) (d0 := []) (p0 := []) (l := x :: t) (i := 1) (fun y z hy hb => by
    rw [show (y == ([] : List UInt8)) = false from by rw [beq_eq_false_iff_ne]; intro e; rw [e] at hb; exact absurd hb (by decide), Bool.false_and, Bool.or_false]
    exact h.taken hy) h.prt
  unfold lnkJ lnkD
  rw [show endJ (fun p m => hasP s.ds p m) s.nms s.ks (Ru.endW (x :: t)) t = numE s.nms (endD s.ds ns [] [] (x :: t) 1) from h1]
  cases e1 : endD s.ds ns [] [] (x :: t) 1 with
  | error f => rfl
  | ok dp =>
    obtain ⟨d, p⟩ := dp
    obtain ⟨a1, a2, a3, -, -⟩ := endD_ok e1
    show lnkA _ _ _ _ _ _ _ (.ok (s.nms.idxOf d, p)) = _
    rw [lnkA_ok]
    have e3 : t.tail.tail = (x :: t).drop 3 := by rw [show t.tail.tail = t.drop 2 from by cases t with | nil => rfl | cons a r => cases r <;> rfl]; exact hd 2
    rw [e3, show Ru.nx (Ru.endW (x :: t)) ((x :: t).drop 3) = atW (x :: t) 3 from rfl]
    by_cases h3 : (atW (x :: t) 3).1 ≠ arrowT
    · rw [if_pos h3]; simp only; rw [if_pos h3]; rfl
    · rw [if_neg h3]; simp only; rw [if_neg h3]
      have h4 := end_sim (ds := s.ds) (ns := ns) (ks := s.ks ++ [(s.nms.idxOf d, p)]) (d0 := d) (p0 := p) (l := x :: t) (i := 4) (fun y z hy hb => by
        have ht : ((s.ds.map (·.name)).idxOf y, z) ∈ s.ks ↔ takN ns y z = true := h.taken hy
        rw [List.mem_append, List.mem_singleton, Bool.or_eq_true, ht, Bool.and_eq_true, beq_iff_eq, beq_iff_eq, Prod.mk.injEq]
        exact or_congr_right ⟨fun q => ⟨idx_inj hy a1 q.1, q.2⟩, fun q => ⟨by rw [q.1]; rfl, q.2⟩⟩) (fun k hk => by
        rcases List.mem_append.1 hk with hk | hk
        · exact h.prt k hk
        · rw [List.mem_singleton.1 hk]; exact a2)
      rw [List.tail_drop, show endJ (fun p m => hasP s.ds p m) s.nms (s.ks ++ [(s.nms.idxOf d, p)]) (Ru.endW (x :: t)) ((x :: t).drop 4) = numE s.nms (endD s.ds ns d p (x :: t) 4) from h4]
      cases e2 : endD s.ds ns d p (x :: t) 4 with
      | error f => rfl
      | ok eq =>
        obtain ⟨e, q⟩ := eq
        show lnkB _ _ _ _ _ (.ok (s.nms.idxOf e, q)) = _
        rw [lnkB_ok, List.tail_drop, List.tail_drop, show Ru.nx (Ru.endW (x :: t)) ((x :: t).drop 6) = atW (x :: t) 6 from rfl]
        have e6 : ((x :: t).drop 6 ≠ []) ↔ 6 < (x :: t).length := by
          rw [Ne, List.drop_eq_nil_iff, Nat.not_le]
        by_cases h6 : 6 < (x :: t).length
        · rw [if_pos (e6.2 h6)]; simp only; rw [if_pos h6]; rfl
        · rw [if_neg (fun q => h6 (e6.1 q))]; simp only; rw [if_neg h6, hl]
          by_cases h7 : 4096 ≤ ns.length
          · rw [if_pos h7, if_pos h7]; rfl
          · rw [if_neg h7, if_neg h7]; rfl
theorem lnkD_ok {ds : List To.Dv} {ns : List NmZ} {l : List Wd} {q : NmZ} (h : lnkD ds ns l = .ok q) : endD ds ns [] [] l 1 = .ok q.1 ∧ endD ds ns q.1.1 q.1.2 l 4 = .ok q.2 := by
  unfold lnkD at h
  cases e1 : endD ds ns [] [] l 1 with
  | error f => rw [e1] at h; cases h
  | ok dp =>
    rw [e1] at h
    simp only at h
    by_cases h3 : (atW l 3).1 ≠ arrowT
    · rw [if_pos h3] at h; cases h
    rw [if_neg h3] at h
    cases e2 : endD ds ns dp.1 dp.2 l 4 with
    | error f => rw [e2] at h; cases h
    | ok eq =>
      rw [e2] at h
      simp only at h
      by_cases h6 : 6 < l.length
      · rw [if_pos h6] at h; cases h
      rw [if_neg h6] at h
      by_cases h7 : 4096 ≤ ns.length
      · rw [if_pos h7] at h; cases h
      rw [if_neg h7] at h
      injection h with h
      subst h
      exact ⟨rfl, e2⟩
theorem flat_congrJ {α β : Type} {f g : α → List β} : ∀ {l : List α}, (∀ q ∈ l, f q = g q) → l.flatMap f = l.flatMap g
  | [], _ => rfl
  | a :: t, h => by rw [List.flatMap_cons, List.flatMap_cons, h a List.mem_cons_self, flat_congrJ fun q hq => h q (List.mem_cons_of_mem _ hq)]
theorem Sim.width {s : TSt} {ns : List NmZ} (h : Sim s ns) (n : Nat) : Sim { s with wid := n } ns := ⟨h.ks, h.ls, h.mem, h.prt, h.nd⟩
theorem Sim.device {s : TSt} {ns : List NmZ} (h : Sim s ns) (d : To.Dv) : Sim { s with ds := s.ds ++ [d] } ns := by
  have en : ∀ q ∈ ns, nmE ((s.ds ++ [d]).map (·.name)) q = nmE s.nms q := fun q hq => by
    obtain ⟨m1, m2⟩ := h.mem q hq
    unfold nmE
    rw [List.map_append, List.idxOf_append, List.idxOf_append, if_pos (by exact m1), if_pos (by exact m2)]; rfl
  refine ⟨?_, ?_, fun q hq => ?_, fun k hk => hasP_app d (h.prt k hk), h.nd⟩
  · show s.ks = ns.flatMap fun q => [(nmE ((s.ds ++ [d]).map (·.name)) q).1, (nmE ((s.ds ++ [d]).map (·.name)) q).2]
    rw [h.ks]
    exact flat_congrJ fun q hq => by rw [en q hq]
  · show s.ls = ns.map fun q => jndL (nmE ((s.ds ++ [d]).map (·.name)) q).1 (nmE ((s.ds ++ [d]).map (·.name)) q).2
    rw [h.ls]
    exact List.map_congr_left fun q hq => by rw [en q hq]
  · obtain ⟨m1, m2⟩ := h.mem q hq
    show q.1.1 ∈ (s.ds ++ [d]).map (·.name) ∧ q.2.1 ∈ (s.ds ++ [d]).map (·.name)
    rw [List.map_append]
    exact ⟨List.mem_append_left _ m1, List.mem_append_left _ m2⟩
theorem Sim.link {s : TSt} {ns : List NmZ} (h : Sim s ns) {l : List Wd} {q : NmZ} (hq : lnkD s.ds ns l = .ok q) : Sim { s with ls := s.ls ++ [jndL (nmE s.nms q).1 (nmE s.nms q).2], ks := s.ks ++ [(nmE s.nms q).1] ++ [(nmE s.nms q).2] } (ns ++ [q]) := by
  obtain ⟨e1, e2⟩ := lnkD_ok hq
  obtain ⟨a1, a2, a3, -, -⟩ := endD_ok (d := q.1.1) (p := q.1.2) e1
  obtain ⟨b1, b2, b3, b4, -⟩ := endD_ok (d := q.2.1) (p := q.2.2) e2
  refine ⟨?_, ?_, fun z hz => ?_, fun k hk => ?_, ?_⟩
  · show s.ks ++ [(nmE s.nms q).1] ++ [(nmE s.nms q).2] = (ns ++ [q]).flatMap fun q => [(nmE s.nms q).1, (nmE s.nms q).2]
    rw [List.flatMap_append, ← h.ks, List.append_assoc]; rfl
  · show s.ls ++ [jndL (nmE s.nms q).1 (nmE s.nms q).2] = (ns ++ [q]).map fun q => jndL (nmE s.nms q).1 (nmE s.nms q).2
    rw [List.map_append, ← h.ls]; rfl
  · rcases List.mem_append.1 hz with hz | hz
    · exact h.mem z hz
    · rw [List.mem_singleton.1 hz]; exact ⟨a1, b1⟩
  · rcases List.mem_append.1 hk with hk | hk
    · rcases List.mem_append.1 hk with hk | hk
      · exact h.prt k hk
      · rw [List.mem_singleton.1 hk]; exact a2
    · rw [List.mem_singleton.1 hk]; exact b2
  · show (s.ks ++ [(nmE s.nms q).1] ++ [(nmE s.nms q).2]).Nodup
    have ha : (nmE s.nms q).1 ∉ s.ks := fun hm => by rw [(h.taken (z := q.1.2) a1).1 hm] at a3; cases a3
    have hb : (nmE s.nms q).2 ∉ s.ks := fun hm => by rw [(h.taken (z := q.2.2) b1).1 hm] at b3; cases b3
    have hab : ¬ (nmE s.nms q).1 = (nmE s.nms q).2 := fun hm => by
      injection hm with m1 m2
      exact b4 ⟨(idx_inj a1 b1 m1).symm, m2.symm⟩
    rw [List.nodup_append, List.nodup_append]
    refine ⟨⟨h.nd, by simp, fun a ha' b hb' eq => ?_⟩, by simp, fun a ha' b hb' eq => ?_⟩
    · rw [List.mem_singleton.1 hb'] at eq; rw [eq] at ha'; exact ha ha'
    · rw [List.mem_singleton.1 hb'] at eq; rw [eq] at ha'
      rcases List.mem_append.1 ha' with q | q
      · exact hb q
      · exact hab (List.mem_singleton.1 q).symm
/-- One line, as the document reads it. -/
theorem lin_width {s : TSt} (x : Wd) (t : List Wd) : linT 0 s x (Ru.endW (x :: t)) t = match widD (x :: t) with | .error f => .error f | .ok n => .ok { s with wid := n } := by
  unfold linT widD
  rw [show atW (x :: t) 0 = x from rfl]
  by_cases h : x.1 = To.widthT
  · rw [if_pos h, if_pos rfl, if_neg (by simpa using h)]; rfl
  · rw [if_neg h, if_pos rfl, if_pos h]
theorem lin_dev {s : TSt} {i : Nat} (hi : i ≠ 0) {x : Wd} (hx : x.1 = To.deviceT) (t : List Wd) : linT i s x (Ru.endW (x :: t)) t = match To.dev x (Ru.endW (x :: t)) s.nms t with | .error f => .error f | .ok d => .ok { s with ds := s.ds ++ [d] } := by
  unfold linT
  rw [if_neg (by rw [hx]; decide), if_neg hi, if_pos hx]
  cases To.dev x (Ru.endW (x :: t)) s.nms t with
  | error f => rfl
  | ok d => rfl
theorem lin_link {s : TSt} {ns : List NmZ} (h : Sim s ns) {i : Nat} (hi : i ≠ 0) {x : Wd} (hx : x.1 = To.linkT) (t : List Wd) : linT i s x (Ru.endW (x :: t)) t = match lnkD s.ds ns (x :: t) with | .error f => .error f | .ok q => .ok { s with ls := s.ls ++ [jndL (nmE s.nms q).1 (nmE s.nms q).2], ks := s.ks ++ [(nmE s.nms q).1] ++ [(nmE s.nms q).2] } := by
  unfold linT
  rw [if_neg (by rw [hx]; decide), if_neg hi, if_neg (by rw [hx]; decide), if_pos hx, lnk_sim h]
  cases lnkD s.ds ns (x :: t) with
  | error f => rfl
  | ok q => rfl
theorem lin_none {s : TSt} {i : Nat} (hi : i ≠ 0) {x : Wd} (h1 : x.1 ≠ To.deviceT) (h2 : x.1 ≠ To.linkT) (t : List Wd) : linT i s x (Ru.endW (x :: t)) t = .error (Ru.ft x 110) := by
  unfold linT
  by_cases h : x.1 = To.widthT
  · rw [if_pos h, if_neg hi]
  · rw [if_neg h, if_neg hi, if_neg h1, if_neg h2]

/-- The links by the devices' places in a row of names. -/
def lksN (nms : List (List UInt8)) (ns : List NmZ) : List To.Lk := ns.map fun q => jndL (nmE nms q).1 (nmE nms q).2
theorem flat_one {α β : Type} {f : α → List β} : ∀ {l : List α}, (l.flatMap f).Nodup → ∀ {q r : α} {k : β}, q ∈ l → r ∈ l → k ∈ f q → k ∈ f r → q = r
  | [], _, q, r, k, hq, _, _, _ => absurd hq List.not_mem_nil
  | a :: t, h, q, r, k, hq, hr, h1, h2 => by
    rw [List.flatMap_cons, List.nodup_append] at h
    rcases List.mem_cons.1 hq with e | hq' <;> rcases List.mem_cons.1 hr with e' | hr'
    · rw [e, e']
    · exact absurd rfl (h.2.2 k (by rw [← e]; exact h1) k (List.mem_flatMap.2 ⟨r, hr', h2⟩))
    · exact absurd rfl (h.2.2 k (by rw [← e']; exact h2) k (List.mem_flatMap.2 ⟨q, hq', h1⟩))
    · exact flat_one h.2.1 hq' hr' h1 h2
theorem nodup_mapJ {α β : Type} {f : α → β} {l : List α} (h : l.Nodup) (hf : ∀ a ∈ l, ∀ b ∈ l, f a = f b → a = b) : (l.map f).Nodup := by
  rw [List.nodup_iff_pairwise_ne, List.pairwise_map]
  have := List.nodup_iff_pairwise_ne.1 h
  exact List.Pairwise.imp_of_mem (fun {a b} ha hb hn e => hn (hf a ha b hb e)) this
/-- The ends by other places of the same names are apart too. -/
theorem Sim.ends {s : TSt} {ns : List NmZ} (h : Sim s ns) {nms : List (List UInt8)} (hm : ∀ y, y ∈ s.nms → y ∈ nms) : (ns.flatMap fun q => [(nmE nms q).1, (nmE nms q).2]).Nodup := by
  have hn := h.nd
  have e : (ns.flatMap fun q => [(nmE nms q).1, (nmE nms q).2]) = s.ks.map fun k => (nms.idxOf (s.nms.getD k.1 []), k.2) := by
    rw [h.ks, List.map_flatMap]
    refine flat_congrJ fun q hq => ?_
    obtain ⟨m1, m2⟩ := h.mem q hq
    have g : ∀ y, y ∈ s.nms → s.nms.getD (s.nms.idxOf y) [] = y := fun y hy => by
      rw [List.getD_eq_getElem?_getD, List.getElem?_eq_getElem (List.idxOf_lt_length_iff.2 hy)]
      exact List.getElem_idxOf _
    unfold nmE
    simp only [List.map_cons, List.map_nil]
    rw [g _ m1, g _ m2]
  rw [e]
  refine nodup_mapJ hn fun a ha b hb hab => ?_
  rw [h.ks] at ha hb
  have key : ∀ k ∈ (ns.flatMap fun q => [(nmE s.nms q).1, (nmE s.nms q).2]), ∃ y, y ∈ s.nms ∧ k.1 = s.nms.idxOf y := fun k hk => by
    obtain ⟨q, hq, hk⟩ := List.mem_flatMap.1 hk
    obtain ⟨m1, m2⟩ := h.mem q hq
    rcases List.mem_cons.1 hk with rfl | hk
    · exact ⟨_, m1, rfl⟩
    · rw [List.mem_singleton.1 hk]; exact ⟨_, m2, rfl⟩
  obtain ⟨y, hy, ey⟩ := key a ha
  obtain ⟨z, hz, ez⟩ := key b hb
  have g : ∀ y, y ∈ s.nms → s.nms.getD (s.nms.idxOf y) [] = y := fun y hy => by
    rw [List.getD_eq_getElem?_getD, List.getElem?_eq_getElem (List.idxOf_lt_length_iff.2 hy)]
    exact List.getElem_idxOf _
  injection hab with h1 h2
  rw [ey, ez, g y hy, g z hz] at h1
  have := idx_inj (hm y hy) (hm z hz) h1
  exact Prod.ext (by rw [ey, ez, this]) h2
/-- The program's links, put by new numbers, are those by the places of the names. -/
theorem Sim.renamed {s : TSt} {ns : List NmZ} (h : Sim s ns) {vs ds' : List (To.Dv × Value × Value)} (hv : vs.map (·.1) = s.ds) (hp : ds'.Perm vs) : s.ls.map (renL (posF vs ds')) = lksN (ds'.map (·.1.name)) ns := by
  have hnm : vs.map (·.1.name) = s.nms := by unfold TSt.nms; rw [← hv, List.map_map]; rfl
  have hm : ∀ y, y ∈ s.nms → y ∈ ds'.map (·.1.name) := fun y hy => by
    rw [← hnm] at hy
    exact (hp.map (fun q => q.1.name)).mem_iff.2 hy
  have hf : ∀ y, y ∈ s.nms → posF vs ds' (s.nms.idxOf y) = (ds'.map (·.1.name)).idxOf y := fun y hy => by
    unfold posF
    rw [hnm, List.getD_eq_getElem?_getD, List.getElem?_eq_getElem (List.idxOf_lt_length_iff.2 hy)]
    congr 1
    exact List.getElem_idxOf _
  have hne := h.ends hm
  rw [h.ls, List.map_map]
  unfold lksN
  refine List.map_congr_left fun q hq => ?_
  obtain ⟨m1, m2⟩ := h.mem q hq
  have hq2 : (nmE (ds'.map (·.1.name)) q).1 ≠ (nmE (ds'.map (·.1.name)) q).2 := fun e => by
    obtain ⟨a, b, rfl⟩ := List.append_of_mem hq
    rw [List.flatMap_append, List.flatMap_cons, List.nodup_append, List.nodup_append] at hne
    have := hne.2.1.1
    rw [e] at this
    simp at this
  show renL _ (jndL _ _) = _
  rw [renL_jnd]
  · unfold nmE
    rw [hf _ m1, hf _ m2]
  · unfold nmE
    rw [hf _ m1, hf _ m2]
    exact hq2
/-- Two rows of these links in order are one. -/
theorem lks_one {nms : List (List UInt8)} {ns : List NmZ} {ls ls' : List To.Lk} (hne : (ns.flatMap fun q => [(nmE nms q).1, (nmE nms q).2]).Nodup) (h1 : ls.Perm (lksN nms ns)) (h2 : ls'.Perm (lksN nms ns)) (o1 : ls.Pairwise fun a b => ¬ ocE b.a b.p a.a a.p < 0) (o2 : ls'.Pairwise fun a b => ¬ ocE b.a b.p a.a a.p < 0) : ls = ls' := by
  refine sorted_one (lt := fun a b => ocE a.a a.p b.a b.p < 0) (h1.trans h2.symm) o1 o2 fun a ha b hb k1 k2 => ?_
  have e : lowE a = lowE b := endLt_total (a := lowE a) (b := lowE b) k1 k2
  obtain ⟨q, hq, rfl⟩ := List.mem_map.1 (h1.mem_iff.1 ha)
  obtain ⟨r, hr, rfl⟩ := List.mem_map.1 (h1.mem_iff.1 hb)
  have m : ∀ q : NmZ, lowE (jndL (nmE nms q).1 (nmE nms q).2) ∈ [(nmE nms q).1, (nmE nms q).2] := fun q => by
    rcases lowE_jnd (nmE nms q).1 (nmE nms q).2 with e | e <;> rw [e] <;> simp
  have := flat_one hne hq hr (m q) (by rw [e]; exact m r)
  rw [this]
/-- Two rows of devices in order are one. -/
theorem dvs_one {vs ds vs' ds' : List (To.Dv × Value × Value)} {l : List To.Dv} (hn : (l.map (·.name)).Nodup) (e1 : vs.map (·.1) = l) (e2 : vs'.map (·.1) = l) (p1 : ds.Perm vs) (p2 : ds'.Perm vs') (o1 : ds.Pairwise fun a b => ¬ b.1.name < a.1.name) (o2 : ds'.Pairwise fun a b => ¬ b.1.name < a.1.name) : ds.map (·.1) = ds'.map (·.1) := by
  have q1 : (ds.map (·.1)).Perm l := e1 ▸ p1.map _
  have q2 : (ds'.map (·.1)).Perm l := e2 ▸ p2.map _
  refine sorted_one (lt := fun a b => a.name < b.name) (q1.trans q2.symm) (List.pairwise_map.2 o1) (List.pairwise_map.2 o2) fun a ha b hb k1 k2 => ?_
  have e : a.name = b.name := by
    rcases Ru.lt_or k1 with q | q
    · exact absurd q k2
    · exact q
  obtain ⟨i, hi⟩ := List.getElem?_of_mem (q1.mem_iff.1 ha)
  obtain ⟨j, hj⟩ := List.getElem?_of_mem (q1.mem_iff.1 hb)
  have hil := (List.getElem?_eq_some_iff.1 hi).1
  have hjl := (List.getElem?_eq_some_iff.1 hj).1
  have hij : i = j := by
    have := List.nodup_iff_pairwise_ne.1 hn
    rw [List.pairwise_map] at this
    rcases Nat.lt_trichotomy i j with h | h | h
    · have := List.pairwise_iff_getElem.1 this i j hil hjl h
      rw [(List.getElem?_eq_some_iff.1 hi).2, (List.getElem?_eq_some_iff.1 hj).2] at this
      exact absurd e this
    · exact h
    · have := List.pairwise_iff_getElem.1 this j i hjl hil h
      rw [(List.getElem?_eq_some_iff.1 hi).2, (List.getElem?_eq_some_iff.1 hj).2] at this
      exact absurd e.symm this
  rw [hij, hj] at hi
  exact (Option.some.inj hi).symm
end Go.Proofs.YtebaopiedlioiaaGreatDoor
namespace Go.Proofs.YtebaopiedlioiaaGreatDoor
open Wo (Wd)

/-- All words of a line are short. -/
def ShortL (M : Nat) (l : List Wd) : Prop := ∀ x ∈ l, x.1.length ≤ M
theorem ShortL.tail {M : Nat} {l : List Wd} (h : ShortL M l) : ShortL M l.tail := fun x hx => h x (List.mem_of_mem_tail hx)
theorem put_memL {x : List UInt8} {l : List (List UInt8)} {z : List UInt8} (h : z ∈ Ru.put l x) : z = x ∨ z ∈ l := by
  by_cases hx : x ∈ l
  · rw [To.put_old hx] at h; exact .inr h
  · rw [To.put_new hx, List.mem_append] at h
    rcases h with h | h
    · exact .inr (List.mem_of_mem_take h)
    · rcases List.mem_cons.1 h with h | h
      · exact .inl h
      · exact .inr (List.mem_of_mem_drop h)
theorem lst_bound {e : Wd} (he : e.1 = []) {most M : Nat} : ∀ (n : Nat) (l : List Wd) (acc ns : List (List UInt8)) (t : List Wd), l.length ≤ n → ShortL M l → (∀ z ∈ acc, z.length ≤ M) → acc.length ≤ most → To.lst e most l acc = .ok (ns, t) → (∀ z ∈ ns, z.length ≤ M) ∧ ns.length ≤ most := by
  intro n
  induction n with
  | zero =>
    intro l acc ns t hn hl ha hm h
    have : l = [] := List.length_eq_zero_iff.1 (by omega)
    subst this
    rw [To.lst] at h; cases h
  | succ n ih =>
    intro l acc ns t hn hl ha hm h
    cases l with
    | nil => rw [To.lst] at h; cases h
    | cons w r =>
      rw [To.lst_eq he, show Ru.nx e (w :: r) = w from rfl] at h
      by_cases h1 : Wo.nameB w.1 = false
      · rw [if_pos h1] at h; cases h
      rw [if_neg h1] at h
      by_cases h2 : w.1 ∉ acc ∧ most ≤ acc.length
      · rw [if_pos h2] at h; cases h
      rw [if_neg h2] at h
      have hp1 : ∀ z ∈ Ru.put acc w.1, z.length ≤ M := fun z hz => by
        rcases put_memL hz with rfl | hz
        · exact hl w List.mem_cons_self
        · exact ha z hz
      have hp2 : (Ru.put acc w.1).length ≤ most := by
        rw [To.put_len]
        by_cases q : w.1 ∈ acc
        · rw [if_pos q]; exact hm
        · rw [if_neg q]
          have : ¬ most ≤ acc.length := fun k => h2 ⟨q, k⟩
          omega
      by_cases h3 : (Ru.nx e (w :: r).tail).1 = To.comma
      · rw [if_pos h3] at h
        exact ih _ _ _ _ (by simp only [List.length_cons, List.length_tail] at hn ⊢; omega) hl.tail.tail hp1 hp2 h
      · rw [if_neg h3] at h
        injection h with h
        injection h with h _
        rw [← h]; exact ⟨hp1, hp2⟩
theorem opt_bound {e : Wd} (he : e.1 = []) {most M : Nat} {kw : List UInt8} {l t : List Wd} {ns : List (List UInt8)} (hl : ShortL M l) (h : To.opt e most kw l = .ok (ns, t)) : (∀ z ∈ ns, z.length ≤ M) ∧ ns.length ≤ most := by
  unfold To.opt at h
  split at h
  · exact lst_bound he _ _ _ _ _ (Nat.le_refl _) hl.tail (fun z hz => by cases hz) (Nat.zero_le _) h
  · injection h with h
    injection h with h _
    rw [← h]; exact ⟨fun z hz => (by cases hz), Nat.zero_le _⟩
/-- A device's classes are few and short. -/
def ClsOk (M : Nat) (d : To.Dv) : Prop := (∀ z ∈ d.cls, z.length ≤ M) ∧ d.cls.length ≤ 16
theorem dev_bound {x e : Wd} (he : e.1 = []) {M : Nat} {ns : List (List UInt8)} {l : List Wd} {d : To.Dv} (hl : ShortL M l) (h : To.dev x e ns l = .ok d) : ClsOk M d := by
  unfold To.dev at h
  split at h
  · cases h
  · split at h
    · cases h
    · unfold To.devA at h
      split at h
      · cases h
      · rename_i cs r ho
        have hb := opt_bound he hl.tail ho
        unfold To.devB at h
        split at h
        · cases h
        · split at h
          · cases h
          · split at h
            · cases h
            · injection h with h
              rw [← h]; exact hb
theorem rdsT_bound {M : Nat} : ∀ (ls : List (List Wd)) (i : Nat) (s t : TSt), (∀ l ∈ ls, ShortL M l) → (∀ d ∈ s.ds, ClsOk M d) → rdsT i s ls = .ok t → ∀ d ∈ t.ds, ClsOk M d
  | [], i, s, t, _, hs, h => by rw [rdsT] at h; injection h with h; rw [← h]; exact hs
  | [] :: _, i, s, t, _, hs, h => by rw [rdsT] at h; injection h with h; rw [← h]; exact hs
  | (x :: r) :: ls, i, s, t, hl, hs, h => by
    rw [rdsT_cons] at h
    cases hL : linT i s x (Ru.endW (x :: r)) r with
    | error f => rw [hL] at h; cases h
    | ok s' =>
      rw [hL] at h
      refine rdsT_bound ls (i + 1) s' t (fun l hl' => hl l (List.mem_cons_of_mem _ hl')) ?_ h
      have hsh : ShortL M r := fun y hy => hl (x :: r) List.mem_cons_self y (List.mem_cons_of_mem _ hy)
      unfold linT at hL
      split at hL
      · split at hL
        · split at hL
          · cases hL
          · injection hL with hL; rw [← hL]; exact hs
        · cases hL
      · split at hL
        · cases hL
        · split at hL
          · split at hL
            · cases hL
            · rename_i d hd
              injection hL with hL
              rw [← hL]
              intro q hq
              rcases List.mem_append.1 hq with hq | hq
              · exact hs q hq
              · rw [List.mem_singleton.1 hq]
                exact dev_bound (Ru.endW_text _) hsh hd
          · split at hL
            · split at hL
              · cases hL
              · injection hL with hL; rw [← hL]; exact hs
            · cases hL
theorem prsT_bound {s : List UInt8} {t : TSt} (h : prsT s = .ok t) : t.ds ≠ [] ∧ ∀ d ∈ t.ds, ClsOk s.length d := by
  unfold prsT at h
  split at h
  · cases h
  · unfold readT at h
    split at h
    · cases h
    · split at h
      · cases h
      · rename_i s1 hs1
        split at h
        · cases h
        · rename_i hne
          injection h with h
          subst h
          exact ⟨hne, rdsT_bound _ _ _ _ (fun l hl x hx => ((read_boundsJ s).2 l hl).2.2 x hx |>.1) (fun d hd => by cases hd) hs1⟩
end Go.Proofs.YtebaopiedlioiaaGreatDoor
namespace Go.Proofs.YtebaopiedlioiaaGreatDoor
namespace Bk
open Wo (Wd)
open Ru (Ft ft nx put ins)

/-- The bytes of words, and one more for each. -/
def wl (ls : List (List UInt8)) : Nat := (ls.map fun l => l.length + 1).sum
def ww (l : List Wd) : Nat := wl (l.map (·.1))
theorem wl_nil : wl [] = 0 := rfl
theorem wl_cons (a : List UInt8) (r : List (List UInt8)) : wl (a :: r) = a.length + 1 + wl r := by unfold wl; simp
theorem wl_app (a b : List (List UInt8)) : wl (a ++ b) = wl a + wl b := by unfold wl; simp
theorem ww_cons (w : Wd) (r : List Wd) : ww (w :: r) = w.1.length + 1 + ww r := by unfold ww; rw [List.map_cons, wl_cons]
/-- Names, each with a sign ahead. -/
def wn (ns : List (List UInt8)) : Nat := wl ns + 2 * ns.length
theorem wl_ins (l : List (List UInt8)) (s : List UInt8) : wl (ins l s) = wl l + (s.length + 1) := by
  induction l with
  | nil => rw [ins, wl_cons]; omega
  | cons a t ih =>
    rw [ins]
    split
    · rw [wl_cons, wl_cons]; omega
    · rw [wl_cons, ih, wl_cons]; omega
theorem ins_len (l : List (List UInt8)) (s : List UInt8) : (ins l s).length = l.length + 1 := by
  induction l with
  | nil => rfl
  | cons a t ih =>
    rw [ins]
    split
    · rfl
    · rw [List.length_cons, ih, List.length_cons]
theorem wn_put (l : List (List UInt8)) (s : List UInt8) : wn (put l s) ≤ wn l + (s.length + 3) := by
  unfold put wn
  split
  · omega
  · rw [wl_ins, ins_len]; omega
theorem put_ne (l : List (List UInt8)) (s : List UInt8) : put l s ≠ [] := by
  unfold put
  split
  · rename_i h
    intro e
    rw [e] at h
    cases h
  · intro e
    have := ins_len l s
    rw [e] at this
    simp at this
/-- Names that were read. -/
structure NmOk (most : Nat) (ns : List (List UInt8)) : Prop where
  nm : ∀ p ∈ ns, Wo.nameB p = true
  rise : ns.Pairwise (· < ·)
  len : ns.length ≤ most
theorem NmOk.nms {most : Nat} {ns : List (List UInt8)} (h : NmOk most ns) : nmsB most ns = true := by
  unfold nmsB
  rw [Bool.and_eq_true, decide_eq_true_eq]
  refine ⟨allN_iff.2 fun i hi => ?_, h.len⟩
  unfold nmB
  obtain ⟨x, hx⟩ : ∃ x, ns[i]? = some x := ⟨_, List.getElem?_eq_getElem hi⟩
  rw [getD_at hx, h.nm x (List.mem_of_getElem? hx), Bool.true_and, Bool.or_eq_true, decide_eq_true_eq, decide_eq_true_eq]
  by_cases h0 : i = 0
  · exact Or.inl h0
  · right
    obtain ⟨y, hy⟩ : ∃ y, ns[i - 1]? = some y := ⟨_, List.getElem?_eq_getElem (by omega)⟩
    rw [getD_at hy]
    have := List.pairwise_iff_getElem.1 h.rise (i - 1) i (by omega) hi (by omega)
    rw [(List.getElem?_eq_some_iff.1 hx).2, (List.getElem?_eq_some_iff.1 hy).2] at this
    exact this
theorem lst_good {e : Wd} (he : e.1 = []) {most : Nat} : ∀ (n : Nat) (l : List Wd) (acc ns : List (List UInt8)) (t : List Wd), l.length ≤ n → NmOk most acc → To.lst e most l acc = .ok (ns, t) → NmOk most ns ∧ ns ≠ [] ∧ wn ns + ww t ≤ wn acc + ww l + 2 := by
  intro n
  induction n with
  | zero =>
    intro l acc ns t hn _ h
    have : l = [] := List.length_eq_zero_iff.1 (by omega)
    subst this
    rw [To.lst] at h; cases h
  | succ n ih =>
    intro l acc ns t hn hk h
    cases l with
    | nil => rw [To.lst] at h; cases h
    | cons w r =>
      rw [To.lst_eq he, show Ru.nx e (w :: r) = w from rfl] at h
      by_cases h1 : Wo.nameB w.1 = false
      · rw [if_pos h1] at h; cases h
      rw [if_neg h1] at h
      by_cases h2 : w.1 ∉ acc ∧ most ≤ acc.length
      · rw [if_pos h2] at h; cases h
      rw [if_neg h2] at h
      have hp : NmOk most (put acc w.1) := ⟨fun z hz => by
        rcases put_memL hz with rfl | hz
        · simpa using h1
        · exact hk.nm z hz, Ru.rise_put hk.rise, by
        rw [To.put_len]
        by_cases q : w.1 ∈ acc
        · rw [if_pos q]; exact hk.len
        · rw [if_neg q]
          have : ¬ most ≤ acc.length := fun k => h2 ⟨q, k⟩
          omega⟩
      have hw := wn_put acc w.1
      rw [ww_cons]
      by_cases h3 : (Ru.nx e (w :: r).tail).1 = To.comma
      · rw [if_pos h3] at h
        obtain ⟨i1, i2, i3⟩ := ih _ _ _ _ (by simp only [List.length_cons, List.length_tail] at hn ⊢; omega) hp h
        refine ⟨i1, i2, ?_⟩
        cases r with
        | nil => rw [List.tail_cons, Ru.nx_nil, he] at h3; exact absurd h3 (by decide)
        | cons c r' =>
          rw [List.tail_cons, Ru.nx_cons] at h3
          have hc : c.1.length = 1 := by rw [h3]; rfl
          have e1 : (w :: c :: r').tail.tail = r' := rfl
          rw [e1] at i3
          rw [ww_cons, hc]
          omega
      · rw [if_neg h3] at h
        injection h with h
        injection h with ha hb
        subst ha hb
        refine ⟨hp, put_ne _ _, ?_⟩
        rw [List.tail_cons]
        omega
theorem wl_flat (r : List (List UInt8)) : wl (r.flatMap fun b => [To.comma, b]) = wl r + 2 * r.length := by
  induction r with
  | nil => rfl
  | cons a t ih =>
    rw [List.flatMap_cons, wl_app, ih, wl_cons a t, List.length_cons]
    have : wl [To.comma, a] = 2 + (a.length + 1) := by rw [wl_cons, wl_cons, wl_nil]; show 1 + 1 + _ = _; omega
    rw [this]
    omega
theorem wl_ls (k : List UInt8) (ns : List (List UInt8)) (h : ns ≠ []) : wl (lsW k ns) + 2 = k.length + 1 + wn ns := by
  cases ns with
  | nil => exact absurd rfl h
  | cons a r =>
    rw [lsW, wl_cons, wl_cons, wl_flat]
    unfold wn
    rw [wl_cons, List.length_cons]
    omega
theorem opt_good {e : Wd} (he : e.1 = []) {most : Nat} {k : List UInt8} (hk : k ≠ []) {l t : List Wd} {ns : List (List UInt8)} (h : To.opt e most k l = .ok (ns, t)) : NmOk most ns ∧ wl (lsW k ns) + ww t ≤ ww l := by
  unfold To.opt at h
  by_cases h1 : (nx e l).1 = k
  · rw [if_pos h1] at h
    obtain ⟨i1, i2, i3⟩ := lst_good he l.tail.length l.tail [] ns t (Nat.le_refl _) ⟨fun _ h => absurd h (List.not_mem_nil), List.Pairwise.nil, Nat.zero_le _⟩ h
    refine ⟨i1, ?_⟩
    have hw := wl_ls k ns i2
    cases l with
    | nil => rw [Ru.nx_nil, he] at h1; exact absurd h1.symm hk
    | cons w r =>
      rw [Ru.nx_cons] at h1
      rw [ww_cons, h1]
      rw [List.tail_cons] at i3
      have : wn [] = 0 := rfl
      rw [this] at i3
      omega
  · rw [if_neg h1] at h
    injection h with h
    injection h with ha hb
    subst ha hb
    exact ⟨⟨fun _ h => absurd h (List.not_mem_nil), List.Pairwise.nil, Nat.zero_le _⟩, by rw [show wl (lsW k []) = 0 from rfl]; omega⟩
/-- A device that was read. -/
structure DvR (d : To.Dv) : Prop where
  nm : Wo.nameB d.name = true
  cls : NmOk 16 d.cls
  prt : NmOk 64 d.prt
theorem dev_good {x e : Wd} (he : e.1 = []) {ns : List (List UInt8)} {l : List Wd} {d : To.Dv} (h : To.dev x e ns l = .ok d) : DvR d ∧ wl (d.name :: (lsW To.classT d.cls ++ lsW To.portT d.prt)) ≤ ww l := by
  unfold To.dev at h
  by_cases h1 : Wo.nameB (nx e l).1 = false
  · rw [if_pos h1] at h; cases h
  rw [if_neg h1] at h
  by_cases h2 : (nx e l).1 ∈ ns
  · rw [if_pos h2] at h; cases h
  rw [if_neg h2] at h
  cases hc : To.opt e 16 To.classT l.tail with
  | error f => rw [hc] at h; cases h
  | ok cr =>
    obtain ⟨cs, r⟩ := cr
    rw [hc] at h
    cases hp : To.opt e 64 To.portT r with
    | error f =>
      have h' : To.devB x e ns.length (nx e l).1 cs (To.opt e 64 To.portT r) = .ok d := h
      rw [hp] at h'; cases h'
    | ok pr =>
      obtain ⟨ps, r2⟩ := pr
      have h' : To.devB x e ns.length (nx e l).1 cs (To.opt e 64 To.portT r) = .ok d := h
      rw [hp] at h'
      unfold To.devB at h'
      simp only at h'
      split at h'
      · cases h'
      · split at h'
        · cases h'
        · injection h' with h'
          subst h'
          obtain ⟨a1, a2⟩ := opt_good he (by decide) hc
          obtain ⟨b1, b2⟩ := opt_good he (by decide) hp
          refine ⟨⟨by simpa using h1, a1, b1⟩, ?_⟩
          show wl ((nx e l).1 :: (lsW To.classT cs ++ lsW To.portT ps)) ≤ ww l
          rw [wl_cons, wl_app]
          cases l with
          | nil =>
            rw [Ru.nx_nil, he] at h1
            exact absurd (show Wo.nameB [] = false by decide) h1
          | cons w t =>
            rw [Ru.nx_cons, ww_cons]
            rw [List.tail_cons] at a2
            omega
/-- A link by the places of its ends, as words. -/
def lkN (nms : List (List UInt8)) (a b : Nat × List UInt8) : List (List UInt8) := [To.linkT, nms.getD a.1 [], a.2, To.arrowT, nms.getD b.1 [], b.2]
theorem nx_len (e : Wd) (he : e.1 = []) (l : List Wd) : (nx e l).1.length + ww l.tail ≤ ww l ∧ ((nx e l).1 ≠ [] → (nx e l).1.length + 1 + ww l.tail ≤ ww l) := by
  cases l with
  | nil => rw [Ru.nx_nil, he]; exact ⟨by simp [ww, wl], fun h => absurd rfl h⟩
  | cons w t => rw [Ru.nx_cons, ww_cons, List.tail_cons]; exact ⟨by omega, fun _ => Nat.le_refl _⟩
theorem name_ne {l : List UInt8} (h : ¬ Wo.nameB l = false) : l ≠ [] := fun e => h (by rw [e]; decide)
theorem end_good {hp : Nat → List UInt8 → Bool} {nms : List (List UInt8)} {ks : List (Nat × List UInt8)} {e : Wd} (he : e.1 = []) {l : List Wd} {a : Nat × List UInt8} (h : endJ hp nms ks e l = .ok a) : (nms.getD a.1 []).length + 1 + (a.2.length + 1) + ww l.tail.tail ≤ ww l ∧ hp a.1 a.2 = true ∧ a ∉ ks ∧ a.1 < nms.length := by
  have hlt := fun (p : Nat) (m : List UInt8) (q : endJ hp nms ks e l = .ok (p, m)) => endJ_lt q
  have h0 := h
  simp only [endJ] at h
  by_cases h1 : Wo.nameB (Ru.nx e l).1 = false
  · rw [if_pos h1] at h; cases h
  rw [if_neg h1] at h
  by_cases h2 : (Ru.nx e l).1 ∉ nms
  · rw [if_pos h2] at h; cases h
  rw [if_neg h2] at h
  by_cases h3 : Wo.nameB (Ru.nx e l.tail).1 = false
  · rw [if_pos h3] at h; cases h
  rw [if_neg h3] at h
  by_cases h4 : (nms.idxOf (Ru.nx e l).1, (Ru.nx e l.tail).1) ∈ ks
  · rw [if_pos h4] at h; cases h
  rw [if_neg h4] at h
  by_cases h5 : hp (nms.idxOf (Ru.nx e l).1) (Ru.nx e l.tail).1 = false
  · rw [if_pos h5] at h; cases h
  rw [if_neg h5] at h
  injection h with h
  subst h
  have hm := Decidable.not_not.1 h2
  have hg : nms.getD (nms.idxOf (nx e l).1) [] = (nx e l).1 := by
    rw [List.getD_eq_getElem?_getD, List.getElem?_eq_getElem (List.idxOf_lt_length_iff.2 hm)]
    exact List.getElem_idxOf _
  refine ⟨?_, by simpa using h5, h4, List.idxOf_lt_length_iff.2 hm⟩
  simp only [hg]
  have q1 := (nx_len e he l).2 (name_ne h1)
  have q2 := (nx_len e he l.tail).2 (name_ne h3)
  omega
theorem lnk_good {hp : Nat → List UInt8 → Bool} {nms : List (List UInt8)} {ks : List (Nat × List UInt8)} {x e : Wd} (he : e.1 = []) {n : Nat} {l : List Wd} {a b : Nat × List UInt8} (h : lnkJ hp nms ks x e n l = .ok (a, b)) : wl (lkN nms a b) ≤ 5 + ww l := by
  unfold lnkJ at h
  cases h1 : endJ hp nms ks e l with
  | error f => rw [h1] at h; cases h
  | ok a' =>
    rw [h1, lnkA_ok] at h
    split at h
    · cases h
    · rename_i harr
      cases h2 : endJ hp nms (ks ++ [a']) e l.tail.tail.tail with
      | error f => rw [h2] at h; cases h
      | ok b' =>
        rw [h2, lnkB_ok] at h
        split at h
        · cases h
        · split at h
          · cases h
          · injection h with h
            injection h with ha hb
            subst ha hb
            have g1 := (end_good he h1).1
            have g2 := (end_good he h2).1
            have harr' : (nx e l.tail.tail).1 = arrowT := by simpa using harr
            have g3 := (nx_len e he l.tail.tail).2 (by rw [harr']; decide)
            rw [harr'] at g3
            have hal : arrowT.length = 2 := rfl
            rw [hal] at g3
            unfold lkN
            rw [wl_cons, wl_cons, wl_cons, wl_cons, wl_cons, wl_cons, wl_nil]
            have k1 : To.linkT.length = 4 := rfl
            have k2 : To.arrowT.length = 2 := rfl
            rw [k1, k2]
            omega
end Bk
end Go.Proofs.YtebaopiedlioiaaGreatDoor
namespace Go.Proofs.YtebaopiedlioiaaGreatDoor
namespace Bk
open Wo (Wd)
open Ru (Ft ft nx put ins)
open Dt (widD lnkD)

theorem tk_wt (l : List UInt8) (c : Nat) : wl ((Wo.tk l c).1.map (·.1)) ≤ 2 * l.length := by
  obtain ⟨n, hn⟩ : ∃ n, n = l.length := ⟨_, rfl⟩
  induction n using Nat.strongRecOn generalizing l c with
  | _ n ih =>
    cases l with
    | nil => rw [Wo.tk_nil]; simp [wl]
    | cons a t =>
      simp only [List.length_cons] at hn
      by_cases h35 : a.toNat = 35
      · rw [Wo.tk_hash _ _ _ h35]; simp [wl]
      · cases hb : Wo.blk a.toNat with
        | true =>
          rw [Wo.tk_blank _ _ _ h35 hb]
          have := ih t.length (by omega) t (c + 1) rfl
          simp only [List.length_cons]
          omega
        | false =>
          by_cases h0 : Wo.fst (a :: t) = 0
          · rw [Wo.tk_fault _ _ _ h35 hb h0]; simp [wl]
          · rw [Wo.tk_word _ _ _ h35 hb h0]
            have hle := Wo.fst_le (a :: t)
            simp only [List.length_cons] at hle
            have h1 := ih ((a :: t).drop (Wo.fst (a :: t))).length (by rw [List.length_drop, List.length_cons]; omega) _ (c + Wo.fst (a :: t)) rfl
            rw [List.length_drop, List.length_cons] at h1
            simp only [List.map_cons]
            rw [wl_cons, List.length_take, List.length_cons]
            omega
/-- All words of lines. -/
def sumW (L : List (List Wd)) : Nat := (L.map ww).sum
theorem sumW_cons (l : List Wd) (L : List (List Wd)) : sumW (l :: L) = ww l + sumW L := by unfold sumW; simp
theorem rd_wt (ls : List (List UInt8)) : ∀ n, sumW (Wo.rd ls n).1 ≤ 2 * (ls.map (·.length)).sum := by
  induction ls with
  | nil => intro n; simp [Wo.rd, sumW]
  | cons l ls ih =>
    intro n
    have i1 := ih (n + 1)
    simp only [List.map_cons, List.sum_cons]
    cases e : (Wo.tk l 1).2 with
    | some c => rw [Wo.rd_fault e]; simp [sumW]
    | none =>
      by_cases hz : (Wo.tk l 1).1 = []
      · rw [Wo.rd_none e hz]; omega
      · rw [Wo.rd_some e hz, sumW_cons]
        have h1 := tk_wt l 1
        have h2 : ww (Wo.wds n (Wo.tk l 1).1) = wl ((Wo.tk l 1).1.map (·.1)) := by
          unfold ww Wo.wds
          rw [List.map_map]
          rfl
        rw [h2]
        omega
theorem lns_wt (s : List UInt8) : ((Wo.lns s).map (·.length)).sum ≤ s.length := by
  induction s with
  | nil => simp [Wo.lns]
  | cons a t ih =>
    unfold Wo.lns
    split
    · simp only [List.map_cons, List.sum_cons, List.length_cons, List.length_nil]; omega
    · cases e : Wo.lns t with
      | nil => exact absurd e (Wo.lns_ne t)
      | cons h r =>
        rw [e] at ih
        simp only [List.map_cons, List.sum_cons, List.length_cons] at ih ⊢
        omega
theorem read_wt (s : List UInt8) : sumW (Wo.read s) ≤ 2 * s.length := by
  have h1 := rd_wt (Wo.lns s) 1
  have h2 := lns_wt s
  unfold Wo.read
  split
  · omega
  · simp [sumW]

/-- The weight of a link. -/
def lw (nms : List (List UInt8)) (l : To.Lk) : Nat := wl (lkN nms (l.a, l.p) (l.b, l.q))
theorem lkN_comm (nms : List (List UInt8)) (a b : Nat × List UInt8) : wl (lkN nms a b) = wl (lkN nms b a) := by
  unfold lkN
  simp only [wl_cons, wl_nil]
  omega
theorem lw_jnd (nms : List (List UInt8)) (a b : Nat × List UInt8) : lw nms (jndL a b) = wl (lkN nms a b) := by
  unfold lw
  rcases jndL_lt a b with ⟨_, e⟩ | ⟨_, e⟩
  · rw [e]; exact lkN_comm nms b a
  · rw [e]
theorem lw_more {nms : List (List UInt8)} (x : List UInt8) {l : To.Lk} (h1 : l.a < nms.length) (h2 : l.b < nms.length) : lw (nms ++ [x]) l = lw nms l := by
  unfold lw lkN
  simp only
  rw [List.getD_eq_getElem?_getD, List.getD_eq_getElem?_getD, List.getD_eq_getElem?_getD, List.getD_eq_getElem?_getD, List.getElem?_append_left h1, List.getElem?_append_left h2]
theorem dvW_wt (d : To.Dv) : wl (dvW d) = 7 + wl (d.name :: (lsW To.classT d.cls ++ lsW To.portT d.prt)) := by
  rw [dvW_ls, wl_cons]
  rfl
/-- The weight of all that was read. -/
def wS (s : TSt) : Nat := (s.ds.map fun d => wl (dvW d)).sum + (s.ls.map (lw s.nms)).sum
/-- What holds of what was read. -/
structure PrI (s : TSt) (W : Nat) : Prop where
  wid : 1 ≤ s.wid
  dv : ∀ d ∈ s.ds, DvR d
  at_ : ∀ l ∈ s.ls, l.a < s.nms.length ∧ l.b < s.nms.length
  sim : ∃ ns, Sim s ns
  wt : wS s ≤ W
theorem PrI.lin {s s' : TSt} {W i : Nat} (h : PrI s W) (hi : i ≠ 0) {x : Wd} {t : List Wd} (hl : linT i s x (Ru.endW (x :: t)) t = .ok s') : PrI s' (W + ww (x :: t)) := by
  have he := Ru.endW_text (x :: t)
  obtain ⟨ns, hs⟩ := h.sim
  by_cases h1 : x.1 = To.deviceT
  · rw [lin_dev hi h1] at hl
    cases hd : To.dev x (Ru.endW (x :: t)) s.nms t with
    | error f => rw [hd] at hl; cases hl
    | ok d =>
      rw [hd] at hl
      injection hl with hl
      subst hl
      obtain ⟨g1, g2⟩ := dev_good he hd
      have hnm : ({ s with ds := s.ds ++ [d] } : TSt).nms = s.nms ++ [d.name] := by unfold TSt.nms; simp
      refine ⟨h.wid, fun q hq => ?_, fun l hl => ?_, ⟨ns, hs.device d⟩, ?_⟩
      · rcases List.mem_append.1 hq with hq | hq
        · exact h.dv q hq
        · rw [List.mem_singleton.1 hq]; exact g1
      · have := h.at_ l hl
        rw [hnm, List.length_append, List.length_singleton]
        exact ⟨by omega, by omega⟩
      · have hw := h.wt
        unfold wS at hw ⊢
        rw [hnm]
        have e1 : (s.ls.map (lw (s.nms ++ [d.name]))) = s.ls.map (lw s.nms) := List.map_congr_left fun l hl => lw_more _ (h.at_ l hl).1 (h.at_ l hl).2
        show ((s.ds ++ [d]).map fun d => wl (dvW d)).sum + (s.ls.map (lw (s.nms ++ [d.name]))).sum ≤ _
        rw [e1, List.map_append, List.sum_append, List.map_singleton, List.sum_singleton, dvW_wt, ww_cons, h1]
        have k1 : To.deviceT.length = 6 := rfl
        rw [k1]
        omega
  · by_cases h2 : x.1 = To.linkT
    · have hl0 := hl
      rw [lin_link hs hi h2] at hl
      cases hq : lnkD s.ds ns (x :: t) with
      | error f => rw [hq] at hl; cases hl
      | ok q =>
        rw [hq] at hl
        injection hl with hl
        subst hl
        have hlk : lnkJ (fun p m => hasP s.ds p m) s.nms s.ks x (Ru.endW (x :: t)) s.ls.length t = .ok (nmE s.nms q) := by rw [lnk_sim hs, hq]; rfl
        have g2 := lnk_good (a := (nmE s.nms q).1) (b := (nmE s.nms q).2) he hlk
        obtain ⟨k1, k2, _⟩ := lnkJ_ok (a := (nmE s.nms q).1) (b := (nmE s.nms q).2) hlk
        refine ⟨h.wid, h.dv, fun l hl => ?_, ⟨_, hs.link hq⟩, ?_⟩
        · rcases List.mem_append.1 hl with hl | hl
          · exact h.at_ l hl
          · rw [List.mem_singleton.1 hl]
            rcases jndL_lt (nmE s.nms q).1 (nmE s.nms q).2 with ⟨_, e⟩ | ⟨_, e⟩
            · rw [e]; exact ⟨k2, k1⟩
            · rw [e]; exact ⟨k1, k2⟩
        · have hw := h.wt
          unfold wS at hw ⊢
          show (s.ds.map fun d => wl (dvW d)).sum + ((s.ls ++ [jndL (nmE s.nms q).1 (nmE s.nms q).2]).map (lw s.nms)).sum ≤ _
          rw [List.map_append, List.sum_append, List.map_singleton, List.sum_singleton, lw_jnd, ww_cons, h2]
          have k3 : To.linkT.length = 4 := rfl
          rw [k3]
          omega
    · rw [lin_none hi h1 h2] at hl
      cases hl
theorem PrI.rds : ∀ (L : List (List Wd)) (i : Nat) (s t : TSt) (W : Nat), PrI s W → i ≠ 0 → rdsT i s L = .ok t → PrI t (W + sumW L)
  | [], i, s, t, W, h, _, hr => by
    rw [rdsT] at hr
    injection hr with hr
    rw [← hr]
    exact h
  | [] :: L, i, s, t, W, h, _, hr => by
    rw [rdsT] at hr
    injection hr with hr
    rw [← hr]
    exact ⟨h.wid, h.dv, h.at_, h.sim, Nat.le_trans h.wt (Nat.le_add_right _ _)⟩
  | (x :: r) :: L, i, s, t, W, h, hi, hr => by
    rw [rdsT_cons] at hr
    cases hL : linT i s x (Ru.endW (x :: r)) r with
    | error f => rw [hL] at hr; cases hr
    | ok s' =>
      rw [hL] at hr
      have := PrI.rds L (i + 1) s' t _ (h.lin hi hL) (by omega) hr
      rw [sumW_cons, ← Nat.add_assoc]
      exact this
theorem wid_one {e : Wd} {l : List Wd} {n : Nat} (h : To.wid e l = .ok n) : 1 ≤ n := by
  unfold To.wid at h
  split at h
  · cases h
  · split at h
    · cases h
    · split at h
      · cases h
      · injection h with h
        subst h
        rename_i h1 _
        exact (Decidable.not_not.1 h1).1
/-- What holds of a topology that was parsed. -/
theorem prsT_good {s : List UInt8} {t : TSt} (h : prsT s = .ok t) : t.ds ≠ [] ∧ PrI t (2 * s.length) := by
  unfold prsT at h
  split at h
  · cases h
  · have hrw := read_wt s
    unfold readT at h
    split at h
    · cases h
    · split at h
      · cases h
      · rename_i s1 hs1
        split at h
        · cases h
        · rename_i hne
          injection h with h
          subst h
          refine ⟨hne, ?_⟩
          generalize hL : Wo.read s = L at hs1 hrw
          cases L with
          | nil => rw [rdsT] at hs1; injection hs1 with hs1; rw [← hs1] at hne; exact absurd rfl hne
          | cons l L =>
            cases l with
            | nil => rw [rdsT] at hs1; injection hs1 with hs1; rw [← hs1] at hne; exact absurd rfl hne
            | cons x r =>
              rw [rdsT_cons, lin_width] at hs1
              cases hw : widD (x :: r) with
              | error f => rw [hw] at hs1; cases hs1
              | ok n =>
                rw [hw] at hs1
                have hn : 1 ≤ n := by
                  unfold widD at hw
                  split at hw
                  · cases hw
                  · exact wid_one hw
                have h0 : PrI { TSt.nil with wid := n } 0 := ⟨hn, (fun _ h => absurd h (List.not_mem_nil)), (fun _ h => absurd h (List.not_mem_nil)), ⟨[], Sim.nil.width n⟩, Nat.le_of_eq rfl⟩
                have := PrI.rds L 1 _ _ 0 h0 (by omega) hs1
                rw [sumW_cons] at hrw
                exact ⟨this.wid, this.dv, this.at_, this.sim, Nat.le_trans this.wt (by omega)⟩
end Bk
end Go.Proofs.YtebaopiedlioiaaGreatDoor
