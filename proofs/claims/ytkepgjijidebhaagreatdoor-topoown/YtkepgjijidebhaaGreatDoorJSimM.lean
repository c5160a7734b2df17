/-
  What the document reads of lines, its links by names, against what the program reads, its links by numbers. Plain mathematics.
-/
import Derived.Test.YtkepgjijidebhaaGreatDoorJDocWAnd
import Derived.Test.YtkepgjijidebhaaGreatDoorJRdIAnd
namespace Go.Proofs.YtkepgjijidebhaaGreatDoor
open Wo (Wd)
open Dt (NmZ takN atN endD lnkD atW widD)

theorem jndL_lt (a b : Nat × List UInt8) : (endLt b a ∧ jndL a b = ⟨b.1, b.2, a.1, a.2⟩) ∨ (¬ endLt b a ∧ jndL a b = ⟨a.1, a.2, b.1, b.2⟩) := by
  unfold jndL
  by_cases h : ocE b.1 b.2 a.1 a.2 < 0
  · rw [if_pos h]; exact .inl ⟨h, rfl⟩
  · rw [if_neg h]; exact .inr ⟨h, rfl⟩
theorem jndL_comm {a b : Nat × List UInt8} (h : a ≠ b) : jndL a b = jndL b a := by
  rcases jndL_lt a b with ⟨h1, e1⟩ | ⟨h1, e1⟩ <;> rcases jndL_lt b a with ⟨h2, e2⟩ | ⟨h2, e2⟩
  · exact absurd h2 (endLt_asymm h1)
  · rw [e1, e2]
  · rw [e1, e2]
  · exact absurd (endLt_total h2 h1) h
theorem renL_jnd (f : Nat → Nat) {a b : Nat × List UInt8} (h : (f a.1, a.2) ≠ (f b.1, b.2)) : renL f (jndL a b) = jndL (f a.1, a.2) (f b.1, b.2) := by
  rcases jndL_lt a b with ⟨h1, e1⟩ | ⟨h1, e1⟩
  · rw [e1, jndL_comm h]; rfl
  · rw [e1]; rfl
/-- A link's lesser end. -/
def lowE (l : To.Lk) : Nat × List UInt8 := (l.a, l.p)
theorem lowE_jnd (a b : Nat × List UInt8) : lowE (jndL a b) = a ∨ lowE (jndL a b) = b := by
  rcases jndL_lt a b with ⟨h1, e1⟩ | ⟨h1, e1⟩
  · rw [e1]; exact .inr rfl
  · rw [e1]; exact .inl rfl
theorem idx_inj {l : List (List UInt8)} {y z : List UInt8} (hy : y ∈ l) (hz : z ∈ l) (h : l.idxOf y = l.idxOf z) : y = z := by
  have h1 : l[l.idxOf y]? = some y := by rw [List.getElem?_eq_getElem (List.idxOf_lt_length_iff.2 hy)]; exact congrArg some (List.getElem_idxOf _)
  have h2 : l[l.idxOf z]? = some z := by rw [List.getElem?_eq_getElem (List.idxOf_lt_length_iff.2 hz)]; exact congrArg some (List.getElem_idxOf _)
  rw [h, h2] at h1
  exact (Option.some.inj h1).symm
theorem plJ_idx (t : List UInt8) : ∀ l : List (List UInt8), plJ t l = if t ∈ l then some (l.idxOf t) else none
  | [] => by simp [plJ]
  | a :: r => by
    unfold plJ
    by_cases e : a = t
    · subst e
      rw [if_pos rfl, if_pos List.mem_cons_self, List.idxOf_cons_self]
    · rw [if_neg e, plJ_idx t r]
      have e2 : (a == t) = false := by rw [beq_eq_false_iff_ne]; exact e
      by_cases ht : t ∈ r
      · rw [if_pos ht, if_pos (List.mem_cons_of_mem _ ht), List.idxOf_cons, e2]; rfl
      · rw [if_neg ht, if_neg (fun q => by rcases List.mem_cons.1 q with q | q; exact e q.symm; exact ht q)]; rfl
theorem plZ_idx {t : List UInt8} {l : List (List UInt8)} (h : t ∈ l) : plZ t l = (l.idxOf t : Int) := by
  unfold plZ; rw [plJ_idx, if_pos h]
/-- The ends of a link by the places of its devices' names. -/
def nmE (nms : List (List UInt8)) (q : NmZ) : (Nat × List UInt8) × (Nat × List UInt8) := ((nms.idxOf q.1.1, q.1.2), (nms.idxOf q.2.1, q.2.2))
/-- The document's links by names, the program's by numbers. -/
structure Sim (s : TSt) (ns : List NmZ) : Prop where
  ks : s.ks = ns.flatMap fun q => [(nmE s.nms q).1, (nmE s.nms q).2]
  ls : s.ls = ns.map fun q => jndL (nmE s.nms q).1 (nmE s.nms q).2
  mem : ∀ q ∈ ns, q.1.1 ∈ s.nms ∧ q.2.1 ∈ s.nms
  prt : ∀ k ∈ s.ks, hasP s.ds k.1 k.2 = true
  nd : s.ks.Nodup
theorem Sim.nil : Sim TSt.nil [] := ⟨rfl, rfl, fun _ h => absurd h (List.not_mem_nil), fun _ h => absurd h (List.not_mem_nil), List.nodup_nil⟩
theorem Sim.taken {s : TSt} {ns : List NmZ} (h : Sim s ns) {y z : List UInt8} (hy : y ∈ s.nms) : (s.nms.idxOf y, z) ∈ s.ks ↔ takN ns y z = true := by
  rw [h.ks, List.mem_flatMap]
  unfold takN
  rw [List.any_eq_true]
  constructor
  · rintro ⟨q, hq, hm⟩
    refine ⟨q, hq, ?_⟩
    obtain ⟨m1, m2⟩ := h.mem q hq
    unfold nmE at hm
    rcases List.mem_cons.1 hm with e | hm
    · injection e with e1 e2
      have := idx_inj hy m1 e1
      subst this; subst e2
      simp [atN]
    · have e := List.mem_singleton.1 hm
      injection e with e1 e2
      have := idx_inj hy m2 e1
      subst this; subst e2
      simp [atN]
  · rintro ⟨q, hq, ha⟩
    refine ⟨q, hq, ?_⟩
    unfold atN at ha
    simp only [Bool.or_eq_true, Bool.and_eq_true, beq_iff_eq] at ha
    unfold nmE
    rcases ha with ⟨e1, e2⟩ | ⟨e1, e2⟩
    · rw [← e1, ← e2]; exact List.mem_cons_self
    · rw [← e1, ← e2]; exact List.mem_cons_of_mem _ List.mem_cons_self
theorem hasP_getD {ds : List To.Dv} {k : Nat} (m : List UInt8) (h : k < ds.length) : hasP ds (k : Int) m = (ds.getD k dv0).prt.contains m := by
  unfold hasP
  rw [if_pos (by omega), Int.toNat_natCast, List.getElem?_eq_getElem h, List.getD_eq_getElem?_getD, List.getElem?_eq_getElem h]; rfl
theorem hasP_app {ds : List To.Dv} {k : Nat} {m : List UInt8} (d : To.Dv) (h : hasP ds (k : Int) m = true) : hasP (ds ++ [d]) (k : Int) m = true := by
  unfold hasP at *
  rw [if_pos (by omega), Int.toNat_natCast] at *
  cases e : ds[k]? with
  | none => rw [e] at h; cases h
  | some q =>
    rw [e] at h
    rw [List.getElem?_append_left (List.getElem?_eq_some_iff.1 e).1, e]; exact h
/-- An end by its name, or its fault: with the device's number. -/
def numE (nms : List (List UInt8)) : Except Ru.Ft (List UInt8 × List UInt8) → Except Ru.Ft (Nat × List UInt8)
  | .error f => .error f
  | .ok dp => .ok (nms.idxOf dp.1, dp.2)
/-- What is known of an end that was read. -/
theorem endD_ok {ds : List To.Dv} {ns : List NmZ} {d0 p0 : List UInt8} {l : List Wd} {i : Nat} {d p : List UInt8} (h : endD ds ns d0 p0 l i = .ok (d, p)) : d ∈ ds.map (·.name) ∧ hasP ds ((ds.map (·.name)).idxOf d : Nat) p = true ∧ takN ns d p = false ∧ ¬ (d = d0 ∧ p = p0) ∧ Wo.nameB d = true := by
  unfold endD at h
  by_cases h1 : Wo.nameB (atW l i).1 = false
  · rw [if_pos h1] at h; cases h
  rw [if_neg h1, plJ_idx] at h
  by_cases h2 : (atW l i).1 ∈ ds.map (·.name)
  case neg => (rw [if_neg h2] at h; cases h)
  rw [if_pos h2] at h
  simp only at h
  by_cases h3 : Wo.nameB (atW l (i + 1)).1 = false
  · rw [if_pos h3] at h; cases h
  rw [if_neg h3] at h
  by_cases h4 : (ds.getD ((ds.map (·.name)).idxOf (atW l i).1) dv0).prt.contains (atW l (i + 1)).1 = false
  · rw [if_pos h4] at h; cases h
  rw [if_neg h4] at h
  by_cases h5 : (takN ns (atW l i).1 (atW l (i + 1)).1 || (((atW l i).1 == d0) && ((atW l (i + 1)).1 == p0))) = true
  · rw [if_pos h5] at h; cases h
  rw [if_neg h5] at h
  injection h with h
  injection h with e1 e2
  subst e1; subst e2
  rw [Bool.not_eq_true, Bool.or_eq_false_iff, Bool.and_eq_false_iff] at h5
  have hlt : (ds.map (·.name)).idxOf (atW l i).1 < ds.length := by have := List.idxOf_lt_length_iff.2 h2; rwa [List.length_map] at this
  refine ⟨h2, ?_, h5.1, ?_, by simpa using h1⟩
  · rw [hasP_getD _ hlt]; simpa using h4
  · rintro ⟨e1, e2⟩
    rcases h5.2 with q | q
    · rw [e1] at q; simp at q
    · rw [e2] at q; simp at q
theorem end_sim {ds : List To.Dv} {ns : List NmZ} {ks : List (Nat × List UInt8)} {d0 p0 : List UInt8} {l : List Wd} {i : Nat} (hK : ∀ y z, y ∈ ds.map (·.name) → Wo.nameB y = true → (((ds.map (·.name)).idxOf y, z) ∈ ks ↔ (takN ns y z || ((y == d0) && (z == p0))) = true)) (hP : ∀ k ∈ ks, hasP ds k.1 k.2 = true) :
    endJ (fun p m => hasP ds p m) (ds.map (·.name)) ks (Ru.endW l) (l.drop i) = numE (ds.map (·.name)) (endD ds ns d0 p0 l i) := by
  have hz : Ru.nx (Ru.endW l) (l.drop i).tail = atW l (i + 1) := by rw [List.tail_drop]
  simp only [endJ]
  rw [hz, show Ru.nx (Ru.endW l) (l.drop i) = atW l i from rfl]
  unfold endD
  by_cases h1 : Wo.nameB (atW l i).1 = false
  · rw [if_pos h1, if_pos h1]; rfl
  rw [if_neg h1, if_neg h1, plJ_idx]
  by_cases h2 : (atW l i).1 ∈ ds.map (·.name)
  case neg => (rw [if_pos h2, if_neg h2]; rfl)
  rw [if_neg (by simpa using h2), if_pos h2]
  simp only
  by_cases h3 : Wo.nameB (atW l (i + 1)).1 = false
  · rw [if_pos h3, if_pos h3]; rfl
  rw [if_neg h3, if_neg h3]
  have hlt : (ds.map (·.name)).idxOf (atW l i).1 < ds.length := by have := List.idxOf_lt_length_iff.2 h2; rwa [List.length_map] at this
  have hh := hasP_getD (atW l (i + 1)).1 hlt
  have hk := hK (atW l i).1 (atW l (i + 1)).1 h2 (by simpa using h1)
  by_cases h4 : (ds.getD ((ds.map (·.name)).idxOf (atW l i).1) dv0).prt.contains (atW l (i + 1)).1 = false
  · rw [if_pos (show hasP ds ((ds.map (·.name)).idxOf (atW l i).1 : Nat) (atW l (i + 1)).1 = false from hh.trans h4), if_pos h4]
    by_cases h5 : ((ds.map (·.name)).idxOf (atW l i).1, (atW l (i + 1)).1) ∈ ks
    · have := hP _ h5
      rw [hasP_getD _ hlt, h4] at this
      cases this
    · rw [if_neg h5]; rfl
  · rw [if_neg (show ¬ hasP ds ((ds.map (·.name)).idxOf (atW l i).1 : Nat) (atW l (i + 1)).1 = false from fun q => h4 (hh.symm.trans q)), if_neg h4]
    by_cases h5 : ((ds.map (·.name)).idxOf (atW l i).1, (atW l (i + 1)).1) ∈ ks
    · rw [if_pos h5, if_pos (hk.1 h5)]; rfl
    · rw [if_neg h5, if_neg (fun q => h5 (hk.2 q))]; rfl
/-- A link by names, or its fault: by numbers. -/
def numL (nms : List (List UInt8)) : Except Ru.Ft NmZ → Except Ru.Ft ((Nat × List UInt8) × (Nat × List UInt8))
  | .error f => .error f
  | .ok q => .ok (nmE nms q)
theorem lnk_sim {s : TSt} {ns : List NmZ} (h : Sim s ns) (x : Wd) (t : List Wd) : lnkJ (fun p m => hasP s.ds p m) s.nms s.ks x (Ru.endW (x :: t)) s.ls.length t = numL s.nms (lnkD s.ds ns (x :: t)) := by
  have hl : s.ls.length = ns.length := by rw [h.ls, List.length_map]
  have hd : ∀ k, t.drop k = (x :: t).drop (k + 1) := fun k => rfl
  have h1 := end_sim (ds := s.ds) (ns := ns) (ks := s.ks) (d0 := []) (p0 := []) (l := x :: t) (i := 1) (fun y z hy hb => by
    rw [show (y == ([] : List UInt8)) = false from by rw [beq_eq_false_iff_ne]; intro e; rw [e] at hb; exact absurd hb (by decide), Bool.false_and, Bool.or_false]
    exact h.taken hy) h.prt
  unfold lnkJ lnkD
  rw [show endJ (fun p m => hasP s.ds p m) s.nms s.ks (Ru.endW (x :: t)) t = numE s.nms (endD s.ds ns [] [] (x :: t) 1) from h1]
  cases e1 : endD s.ds ns [] [] (x :: t) 1 with
  | error f => rfl
  | ok dp =>
    obtain ⟨d, p⟩ := dp
    obtain ⟨a1, a2, a3, -, -⟩ := endD_ok e1
    show lnkA _ _ _ _ _ _ _ (.ok (s.nms.idxOf d, p)) = _
    rw [lnkA_ok]
    have e3 : t.tail.tail = (x :: t).drop 3 := by rw [show t.tail.tail = t.drop 2 from by cases t with | nil => rfl | cons a r => cases r <;> rfl]; exact hd 2
    rw [e3, show Ru.nx (Ru.endW (x :: t)) ((x :: t).drop 3) = atW (x :: t) 3 from rfl]
    by_cases h3 : (atW (x :: t) 3).1 ≠ arrowT
    · rw [if_pos h3]; simp only; rw [if_pos h3]; rfl
    · rw [if_neg h3]; simp only; rw [if_neg h3]
      have h4 := end_sim (ds := s.ds) (ns := ns) (ks := s.ks ++ [(s.nms.idxOf d, p)]) (d0 := d) (p0 := p) (l := x :: t) (i := 4) (fun y z hy hb => by
        have ht : ((s.ds.map (·.name)).idxOf y, z) ∈ s.ks ↔ takN ns y z = true := h.taken hy
        rw [List.mem_append, List.mem_singleton, Bool.or_eq_true, ht, Bool.and_eq_true, beq_iff_eq, beq_iff_eq, Prod.mk.injEq]
        exact or_congr_right ⟨fun q => ⟨idx_inj hy a1 q.1, q.2⟩, fun q => ⟨by rw [q.1]; rfl, q.2⟩⟩) (fun k hk => by
        rcases List.mem_append.1 hk with hk | hk
        · exact h.prt k hk
        · rw [List.mem_singleton.1 hk]; exact a2)
      rw [List.tail_drop, show endJ (fun p m => hasP s.ds p m) s.nms (s.ks ++ [(s.nms.idxOf d, p)]) (Ru.endW (x :: t)) ((x :: t).drop 4) = numE s.nms (endD s.ds ns d p (x :: t) 4) from h4]
      cases e2 : endD s.ds ns d p (x :: t) 4 with
      | error f => rfl
      | ok eq =>
        obtain ⟨e, q⟩ := eq
        show lnkB _ _ _ _ _ (.ok (s.nms.idxOf e, q)) = _
        rw [lnkB_ok, List.tail_drop, List.tail_drop, show Ru.nx (Ru.endW (x :: t)) ((x :: t).drop 6) = atW (x :: t) 6 from rfl]
        have e6 : ((x :: t).drop 6 ≠ []) ↔ 6 < (x :: t).length := by
          rw [Ne, List.drop_eq_nil_iff, Nat.not_le]
        by_cases h6 : 6 < (x :: t).length
        · rw [if_pos (e6.2 h6)]; simp only; rw [if_pos h6]; rfl
        · rw [if_neg (fun q => h6 (e6.1 q))]; simp only; rw [if_neg h6, hl]
          by_cases h7 : 4096 ≤ ns.length
          · rw [if_pos h7, if_pos h7]; rfl
          · rw [if_neg h7, if_neg h7]; rfl
theorem lnkD_ok {ds : List To.Dv} {ns : List NmZ} {l : List Wd} {q : NmZ} (h : lnkD ds ns l = .ok q) : endD ds ns [] [] l 1 = .ok q.1 ∧ endD ds ns q.1.1 q.1.2 l 4 = .ok q.2 := by
  unfold lnkD at h
  cases e1 : endD ds ns [] [] l 1 with
  | error f => rw [e1] at h; cases h
  | ok dp =>
    rw [e1] at h
    simp only at h
    by_cases h3 : (atW l 3).1 ≠ arrowT
    · rw [if_pos h3] at h; cases h
    rw [if_neg h3] at h
    cases e2 : endD ds ns dp.1 dp.2 l 4 with
    | error f => rw [e2] at h; cases h
    | ok eq =>
      rw [e2] at h
      simp only at h
      by_cases h6 : 6 < l.length
      · rw [if_pos h6] at h; cases h
      rw [if_neg h6] at h
      by_cases h7 : 4096 ≤ ns.length
      · rw [if_pos h7] at h; cases h
      rw [if_neg h7] at h
      injection h with h
      subst h
      exact ⟨rfl, e2⟩
theorem flat_congrJ {α β : Type} {f g : α → List β} : ∀ {l : List α}, (∀ q ∈ l, f q = g q) → l.flatMap f = l.flatMap g
  | [], _ => rfl
  | a :: t, h => by rw [List.flatMap_cons, List.flatMap_cons, h a List.mem_cons_self, flat_congrJ fun q hq => h q (List.mem_cons_of_mem _ hq)]
theorem Sim.width {s : TSt} {ns : List NmZ} (h : Sim s ns) (n : Nat) : Sim { s with wid := n } ns := ⟨h.ks, h.ls, h.mem, h.prt, h.nd⟩
theorem Sim.device {s : TSt} {ns : List NmZ} (h : Sim s ns) (d : To.Dv) : Sim { s with ds := s.ds ++ [d] } ns := by
  have en : ∀ q ∈ ns, nmE ((s.ds ++ [d]).map (·.name)) q = nmE s.nms q := fun q hq => by
    obtain ⟨m1, m2⟩ := h.mem q hq
    unfold nmE
    rw [List.map_append, List.idxOf_append, List.idxOf_append, if_pos (by exact m1), if_pos (by exact m2)]; rfl
  refine ⟨?_, ?_, fun q hq => ?_, fun k hk => hasP_app d (h.prt k hk), h.nd⟩
  · show s.ks = ns.flatMap fun q => [(nmE ((s.ds ++ [d]).map (·.name)) q).1, (nmE ((s.ds ++ [d]).map (·.name)) q).2]
    rw [h.ks]
    exact flat_congrJ fun q hq => by rw [en q hq]
  · show s.ls = ns.map fun q => jndL (nmE ((s.ds ++ [d]).map (·.name)) q).1 (nmE ((s.ds ++ [d]).map (·.name)) q).2
    rw [h.ls]
    exact List.map_congr_left fun q hq => by rw [en q hq]
  · obtain ⟨m1, m2⟩ := h.mem q hq
    show q.1.1 ∈ (s.ds ++ [d]).map (·.name) ∧ q.2.1 ∈ (s.ds ++ [d]).map (·.name)
    rw [List.map_append]
    exact ⟨List.mem_append_left _ m1, List.mem_append_left _ m2⟩
theorem Sim.link {s : TSt} {ns : List NmZ} (h : Sim s ns) {l : List Wd} {q : NmZ} (hq : lnkD s.ds ns l = .ok q) : Sim { s with ls := s.ls ++ [jndL (nmE s.nms q).1 (nmE s.nms q).2], ks := s.ks ++ [(nmE s.nms q).1] ++ [(nmE s.nms q).2] } (ns ++ [q]) := by
  obtain ⟨e1, e2⟩ := lnkD_ok hq
  obtain ⟨a1, a2, a3, -, -⟩ := endD_ok (d := q.1.1) (p := q.1.2) e1
  obtain ⟨b1, b2, b3, b4, -⟩ := endD_ok (d := q.2.1) (p := q.2.2) e2
  refine ⟨?_, ?_, fun z hz => ?_, fun k hk => ?_, ?_⟩
  · show s.ks ++ [(nmE s.nms q).1] ++ [(nmE s.nms q).2] = (ns ++ [q]).flatMap fun q => [(nmE s.nms q).1, (nmE s.nms q).2]
    rw [List.flatMap_append, ← h.ks, List.append_assoc]; rfl
  · show s.ls ++ [jndL (nmE s.nms q).1 (nmE s.nms q).2] = (ns ++ [q]).map fun q => jndL (nmE s.nms q).1 (nmE s.nms q).2
    rw [List.map_append, ← h.ls]; rfl
  · rcases List.mem_append.1 hz with hz | hz
    · exact h.mem z hz
    · rw [List.mem_singleton.1 hz]; exact ⟨a1, b1⟩
  · rcases List.mem_append.1 hk with hk | hk
    · rcases List.mem_append.1 hk with hk | hk
      · exact h.prt k hk
      · rw [List.mem_singleton.1 hk]; exact a2
    · rw [List.mem_singleton.1 hk]; exact b2
  · show (s.ks ++ [(nmE s.nms q).1] ++ [(nmE s.nms q).2]).Nodup
    have ha : (nmE s.nms q).1 ∉ s.ks := fun hm => by rw [(h.taken (z := q.1.2) a1).1 hm] at a3; cases a3
    have hb : (nmE s.nms q).2 ∉ s.ks := fun hm => by rw [(h.taken (z := q.2.2) b1).1 hm] at b3; cases b3
    have hab : ¬ (nmE s.nms q).1 = (nmE s.nms q).2 := fun hm => by
      injection hm with m1 m2
      exact b4 ⟨(idx_inj a1 b1 m1).symm, m2.symm⟩
    rw [List.nodup_append, List.nodup_append]
    refine ⟨⟨h.nd, by simp, fun a ha' b hb' eq => ?_⟩, by simp, fun a ha' b hb' eq => ?_⟩
    · rw [List.mem_singleton.1 hb'] at eq; rw [eq] at ha'; exact ha ha'
    · rw [List.mem_singleton.1 hb'] at eq; rw [eq] at ha'
      rcases List.mem_append.1 ha' with q | q
      · exact hb q
      · exact hab (List.mem_singleton.1 q).symm
/-- One line, as the document reads it. -/
theorem lin_width {s : TSt} (x : Wd) (t : List Wd) : linT 0 s x (Ru.endW (x :: t)) t = match widD (x :: t) with | .error f => .error f | .ok n => .ok { s with wid := n } := by
  unfold linT widD
  rw [show atW (x :: t) 0 = x from rfl]
  by_cases h : x.1 = To.widthT
  · rw [if_pos h, if_pos rfl, if_neg (by simpa using h)]; rfl
  · rw [if_neg h, if_pos rfl, if_pos h]
theorem lin_dev {s : TSt} {i : Nat} (hi : i ≠ 0) {x : Wd} (hx : x.1 = To.deviceT) (t : List Wd) : linT i s x (Ru.endW (x :: t)) t = match To.dev x (Ru.endW (x :: t)) s.nms t with | .error f => .error f | .ok d => .ok { s with ds := s.ds ++ [d] } := by
  unfold linT
  rw [if_neg (by rw [hx]; decide), if_neg hi, if_pos hx]
  cases To.dev x (Ru.endW (x :: t)) s.nms t with
  | error f => rfl
  | ok d => rfl
theorem lin_link {s : TSt} {ns : List NmZ} (h : Sim s ns) {i : Nat} (hi : i ≠ 0) {x : Wd} (hx : x.1 = To.linkT) (t : List Wd) : linT i s x (Ru.endW (x :: t)) t = match lnkD s.ds ns (x :: t) with | .error f => .error f | .ok q => .ok { s with ls := s.ls ++ [jndL (nmE s.nms q).1 (nmE s.nms q).2], ks := s.ks ++ [(nmE s.nms q).1] ++ [(nmE s.nms q).2] } := by
  unfold linT
  rw [if_neg (by rw [hx]; decide), if_neg hi, if_neg (by rw [hx]; decide), if_pos hx, lnk_sim h]
  cases lnkD s.ds ns (x :: t) with
  | error f => rfl
  | ok q => rfl
theorem lin_none {s : TSt} {i : Nat} (hi : i ≠ 0) {x : Wd} (h1 : x.1 ≠ To.deviceT) (h2 : x.1 ≠ To.linkT) (t : List Wd) : linT i s x (Ru.endW (x :: t)) t = .error (Ru.ft x 110) := by
  unfold linT
  by_cases h : x.1 = To.widthT
  · rw [if_pos h, if_neg hi]
  · rw [if_neg h, if_neg hi, if_neg h1, if_neg h2]

/-- The links by the devices' places in a row of names. -/
def lksN (nms : List (List UInt8)) (ns : List NmZ) : List To.Lk := ns.map fun q => jndL (nmE nms q).1 (nmE nms q).2
theorem flat_one {α β : Type} {f : α → List β} : ∀ {l : List α}, (l.flatMap f).Nodup → ∀ {q r : α} {k : β}, q ∈ l → r ∈ l → k ∈ f q → k ∈ f r → q = r
  | [], _, q, r, k, hq, _, _, _ => absurd hq List.not_mem_nil
  | a :: t, h, q, r, k, hq, hr, h1, h2 => by
    rw [List.flatMap_cons, List.nodup_append] at h
    rcases List.mem_cons.1 hq with e | hq' <;> rcases List.mem_cons.1 hr with e' | hr'
    · rw [e, e']
    · exact absurd rfl (h.2.2 k (by rw [← e]; exact h1) k (List.mem_flatMap.2 ⟨r, hr', h2⟩))
    · exact absurd rfl (h.2.2 k (by rw [← e']; exact h2) k (List.mem_flatMap.2 ⟨q, hq', h1⟩))
    · exact flat_one h.2.1 hq' hr' h1 h2
theorem nodup_mapJ {α β : Type} {f : α → β} {l : List α} (h : l.Nodup) (hf : ∀ a ∈ l, ∀ b ∈ l, f a = f b → a = b) : (l.map f).Nodup := by
  rw [List.nodup_iff_pairwise_ne, List.pairwise_map]
  have := List.nodup_iff_pairwise_ne.1 h
  exact List.Pairwise.imp_of_mem (fun {a b} ha hb hn e => hn (hf a ha b hb e)) this
/-- The ends by other places of the same names are apart too. -/
theorem Sim.ends {s : TSt} {ns : List NmZ} (h : Sim s ns) {nms : List (List UInt8)} (hm : ∀ y, y ∈ s.nms → y ∈ nms) : (ns.flatMap fun q => [(nmE nms q).1, (nmE nms q).2]).Nodup := by
  have hn := h.nd
  have e : (ns.flatMap fun q => [(nmE nms q).1, (nmE nms q).2]) = s.ks.map fun k => (nms.idxOf (s.nms.getD k.1 []), k.2) := by
    rw [h.ks, List.map_flatMap]
    refine flat_congrJ fun q hq => ?_
    obtain ⟨m1, m2⟩ := h.mem q hq
    have g : ∀ y, y ∈ s.nms → s.nms.getD (s.nms.idxOf y) [] = y := fun y hy => by
      rw [List.getD_eq_getElem?_getD, List.getElem?_eq_getElem (List.idxOf_lt_length_iff.2 hy)]
      exact List.getElem_idxOf _
    unfold nmE
    simp only [List.map_cons, List.map_nil]
    rw [g _ m1, g _ m2]
  rw [e]
  refine nodup_mapJ hn fun a ha b hb hab => ?_
  rw [h.ks] at ha hb
  have key : ∀ k ∈ (ns.flatMap fun q => [(nmE s.nms q).1, (nmE s.nms q).2]), ∃ y, y ∈ s.nms ∧ k.1 = s.nms.idxOf y := fun k hk => by
    obtain ⟨q, hq, hk⟩ := List.mem_flatMap.1 hk
    obtain ⟨m1, m2⟩ := h.mem q hq
    rcases List.mem_cons.1 hk with rfl | hk
    · exact ⟨_, m1, rfl⟩
    · rw [List.mem_singleton.1 hk]; exact ⟨_, m2, rfl⟩
  obtain ⟨y, hy, ey⟩ := key a ha
  obtain ⟨z, hz, ez⟩ := key b hb
  have g : ∀ y, y ∈ s.nms → s.nms.getD (s.nms.idxOf y) [] = y := fun y hy => by
    rw [List.getD_eq_getElem?_getD, List.getElem?_eq_getElem (List.idxOf_lt_length_iff.2 hy)]
    exact List.getElem_idxOf _
  injection hab with h1 h2
  rw [ey, ez, g y hy, g z hz] at h1
  have := idx_inj (hm y hy) (hm z hz) h1
  exact Prod.ext (by rw [ey, ez, this]) h2
/-- The program's links, put by new numbers, are those by the places of the names. -/
theorem Sim.renamed {s : TSt} {ns : List NmZ} (h : Sim s ns) {vs ds' : List (To.Dv × Value × Value)} (hv : vs.map (·.1) = s.ds) (hp : ds'.Perm vs) : s.ls.map (renL (posF vs ds')) = lksN (ds'.map (·.1.name)) ns := by
  have hnm : vs.map (·.1.name) = s.nms := by unfold TSt.nms; rw [← hv, List.map_map]; rfl
  have hm : ∀ y, y ∈ s.nms → y ∈ ds'.map (·.1.name) := fun y hy => by
    rw [← hnm] at hy
    exact (hp.map (fun q => q.1.name)).mem_iff.2 hy
  have hf : ∀ y, y ∈ s.nms → posF vs ds' (s.nms.idxOf y) = (ds'.map (·.1.name)).idxOf y := fun y hy => by
    unfold posF
    rw [hnm, List.getD_eq_getElem?_getD, List.getElem?_eq_getElem (List.idxOf_lt_length_iff.2 hy)]
    congr 1
    exact List.getElem_idxOf _
  have hne := h.ends hm
  rw [h.ls, List.map_map]
  unfold lksN
  refine List.map_congr_left fun q hq => ?_
  obtain ⟨m1, m2⟩ := h.mem q hq
  have hq2 : (nmE (ds'.map (·.1.name)) q).1 ≠ (nmE (ds'.map (·.1.name)) q).2 := fun e => by
    obtain ⟨a, b, rfl⟩ := List.append_of_mem hq
    rw [List.flatMap_append, List.flatMap_cons, List.nodup_append, List.nodup_append] at hne
    have := hne.2.1.1
    rw [e] at this
    simp at this
  show renL _ (jndL _ _) = _
  rw [renL_jnd]
  · unfold nmE
    rw [hf _ m1, hf _ m2]
  · unfold nmE
    rw [hf _ m1, hf _ m2]
    exact hq2
/-- Two rows of these links in order are one. -/
theorem lks_one {nms : List (List UInt8)} {ns : List NmZ} {ls ls' : List To.Lk} (hne : (ns.flatMap fun q => [(nmE nms q).1, (nmE nms q).2]).Nodup) (h1 : ls.Perm (lksN nms ns)) (h2 : ls'.Perm (lksN nms ns)) (o1 : ls.Pairwise fun a b => ¬ ocE b.a b.p a.a a.p < 0) (o2 : ls'.Pairwise fun a b => ¬ ocE b.a b.p a.a a.p < 0) : ls = ls' := by
  refine sorted_one (lt := fun a b => ocE a.a a.p b.a b.p < 0) (h1.trans h2.symm) o1 o2 fun a ha b hb k1 k2 => ?_
  have e : lowE a = lowE b := endLt_total (a := lowE a) (b := lowE b) k1 k2
  obtain ⟨q, hq, rfl⟩ := List.mem_map.1 (h1.mem_iff.1 ha)
  obtain ⟨r, hr, rfl⟩ := List.mem_map.1 (h1.mem_iff.1 hb)
  have m : ∀ q : NmZ, lowE (jndL (nmE nms q).1 (nmE nms q).2) ∈ [(nmE nms q).1, (nmE nms q).2] := fun q => by
    rcases lowE_jnd (nmE nms q).1 (nmE nms q).2 with e | e <;> rw [e] <;> simp
  have := flat_one hne hq hr (m q) (by rw [e]; exact m r)
  rw [this]
/-- Two rows of devices in order are one. -/
theorem dvs_one {vs ds vs' ds' : List (To.Dv × Value × Value)} {l : List To.Dv} (hn : (l.map (·.name)).Nodup) (e1 : vs.map (·.1) = l) (e2 : vs'.map (·.1) = l) (p1 : ds.Perm vs) (p2 : ds'.Perm vs') (o1 : ds.Pairwise fun a b => ¬ b.1.name < a.1.name) (o2 : ds'.Pairwise fun a b => ¬ b.1.name < a.1.name) : ds.map (·.1) = ds'.map (·.1) := by
  have q1 : (ds.map (·.1)).Perm l := e1 ▸ p1.map _
  have q2 : (ds'.map (·.1)).Perm l := e2 ▸ p2.map _
  refine sorted_one (lt := fun a b => a.name < b.name) (q1.trans q2.symm) (List.pairwise_map.2 o1) (List.pairwise_map.2 o2) fun a ha b hb k1 k2 => ?_
  have e : a.name = b.name := by
    rcases Ru.lt_or k1 with q | q
    · exact absurd q k2
    · exact q
  obtain ⟨i, hi⟩ := List.getElem?_of_mem (q1.mem_iff.1 ha)
  obtain ⟨j, hj⟩ := List.getElem?_of_mem (q1.mem_iff.1 hb)
  have hil := (List.getElem?_eq_some_iff.1 hi).1
  have hjl := (List.getElem?_eq_some_iff.1 hj).1
  have hij : i = j := by
    have := List.nodup_iff_pairwise_ne.1 hn
    rw [List.pairwise_map] at this
    rcases Nat.lt_trichotomy i j with h | h | h
    · have := List.pairwise_iff_getElem.1 this i j hil hjl h
      rw [(List.getElem?_eq_some_iff.1 hi).2, (List.getElem?_eq_some_iff.1 hj).2] at this
      exact absurd e this
    · exact h
    · have := List.pairwise_iff_getElem.1 this j i hjl hil h
      rw [(List.getElem?_eq_some_iff.1 hi).2, (List.getElem?_eq_some_iff.1 hj).2] at this
      exact absurd e.symm this
  rw [hij, hj] at hi
  exact (Option.some.inj hi).symm
end Go.Proofs.YtkepgjijidebhaaGreatDoor
