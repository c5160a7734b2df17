/-
  The reader of topologies: order.
  The lines of a topology read one by one. Plain mathematics but for the order of ends.
  Links whose ends get new numbers: a row of links of which one is put anew.
  Devices and links put in order: slices.SortFunc with order's closure, and with compareLinks.
-/
import Derived.Test.YtebaopiedlioiaaGreatDoorJSrtK
import Derived.Test.YtebaopiedlioiaaGreatDoorSLay
import Derived.Test.YtebaopiedlioiaaGreatDoorWRefSAnd
import Derived.Test.YtebaopiedlioiaaGreatDoorJDevBAnd
import Derived.Test.YtebaopiedlioiaaGreatDoorJRdAnd
import Derived.Test.YtebaopiedlioiaaGreatDoorJSrtIAnd
import Derived.Deep.DeepCutAuto
import Derived.Test.YtebaopiedlioiaaGreatDoorWLSayAnd
namespace Go.Proofs.YtebaopiedlioiaaGreatDoor
open Go.RowKit
open Go.Sort (grow PermIn SortedIn SWO)

theorem permIn_list {α : Type} [Inhabited α] {d d' : Array α} (hP : PermIn 0 d.size d d') : d'.toList.Perm d.toList := by
  obtain ⟨hsz, _, hperm⟩ := hP
  have e1 : d'.extract 0 d.size = d' := by rw [← hsz]; exact Array.extract_size
  rwa [e1, Array.extract_size] at hperm
theorem sortedIn_list {α : Type} [Inhabited α] {lt : α → α → Bool} {l : List α} {n : Nat} (hn : n = l.length) (h : SortedIn lt 0 n l.toArray) : l.Pairwise fun x y => lt y x = false := by
  subst hn
  rw [List.pairwise_iff_getElem]
  intro i j hi hj hij
  have := h i j (Nat.zero_le _) hij hj
  simpa [hi, hj] using this
theorem ocL_neg (x y : List UInt8) : ocL x y < 0 ↔ x < y := by
  unfold ocL
  by_cases h : x < y
  · rw [if_pos h]; exact ⟨fun _ => h, fun _ => by decide⟩
  · rw [if_neg h]
    by_cases h2 : y < x
    · rw [if_pos h2]; exact ⟨fun q => absurd q (by decide), fun q => absurd q h⟩
    · rw [if_neg h2]; exact ⟨fun q => absurd q (by decide), fun q => absurd q h⟩
theorem ocL_zero {x y : List UInt8} (h : ocL x y = 0) : x = y := by
  unfold ocL at h
  by_cases h1 : x < y
  · rw [if_pos h1] at h; cases h
  · rw [if_neg h1] at h
    by_cases h2 : y < x
    · rw [if_pos h2] at h; cases h
    · rcases Ru.lt_or h1 with q | q
      · exact absurd q h2
      · exact q
theorem ocE_neg (p : Int) (m : List UInt8) (q : Int) (n : List UInt8) : ocE p m q n < 0 ↔ p < q ∨ (p = q ∧ m < n) := by
  unfold ocE ocI
  by_cases h : p < q
  · rw [if_pos h, if_neg (by decide)]; exact ⟨fun _ => Or.inl h, fun _ => by decide⟩
  · rw [if_neg h]
    by_cases h2 : q < p
    · rw [if_pos h2, if_neg (by decide)]
      exact ⟨fun r => absurd r (by decide), fun r => by omega⟩
    · rw [if_neg h2, if_pos rfl, ocL_neg]
      exact ⟨fun r => Or.inr ⟨by omega, r⟩, fun r => by rcases r with r | r; exact absurd r h; exact r.2⟩
theorem lt_transB {x y z : List UInt8} (h : x < y) (k : y < z) : x < z := List.lt_trans h k
theorem lt_notB {x y z : List UInt8} (h : ¬ x < y) (k : ¬ y < z) : ¬ x < z := by
  intro q
  rcases Ru.lt_or h with r | rfl
  · exact k (lt_transB r q)
  · exact k q

set_option maxRecDepth 20000 in
set_option maxHeartbeats 1000000 in
/-- order's closure. -/
theorem oorder1 (m m' : List UInt8) (a b c d : Value) (w : World) : Calls Tryz.prog 96 #[.agg #[.string (tx m), a, b], .agg #[.string (tx m'), c, d]] w fun e w' => e = .returned (.int .i64 (ocL m m')) ∧ ∃ q os, w' = grow (w.drewN q) os := by
  have HS := hid (fun w' => ocmpStr m m' w')
  have HG := hid (fun (x y : Obj) => (show ∃ q os, (w.alloc x).alloc y = grow (w.drewN q) os from grow_of_below (((Below.refl _ _).alloc (Nat.le_refl _) _).alloc (by simp) _) (Nat.le_refl _)))
  go_enter Tryz.func96, Tryz.ntmps96
  go_wp2_with (go_at_call 97; refine (HS.out _).mono ?_; rintro en w1 ⟨rfl, rfl⟩)
  go_ret
  exact ⟨rfl, HG.out _ _⟩
theorem swoD {ds : List (To.Dv × Value × Value)} : SWO (ltOf fun x y : {q // q ∈ ds} => ocL x.1.1.name y.1.1.name) where
  irrefl x := by unfold ltOf; rw [decide_eq_false_iff_not, ocL_neg]; exact List.lt_irrefl _
  trans x y z h1 h2 := by
    unfold ltOf at *
    rw [decide_eq_true_iff, ocL_neg] at *
    exact lt_transB h1 h2
  ntrans x y z h1 h2 := by
    unfold ltOf at *
    rw [decide_eq_false_iff_not, ocL_neg] at *
    exact lt_notB h1 h2

set_option maxHeartbeats 1000000 in
/-- Devices put in order. -/
theorem osortD {w : World} {B : Nat} {v : Value} {ds : List (To.Dv × Value × Value)} (h : DvO B w v ds) (hl : ds.length ≤ 1000) :
    Calls Tryz.prog 95 #[v, .func (.func 96) #[] #[]] w fun e w' => e = .returned (.tuple #[]) ∧ ∃ ds', ds'.Perm ds ∧ ds'.Pairwise (fun a b => ¬ b.1.name < a.1.name) ∧ DvO B w' v ds' ∧ w.grownBy w' v.ownBlock := by
  obtain ⟨av, vc, hv⟩ := own_formJ h.row
  by_cases h0 : ds = []
  · subst h0
    subst hv
    refine (AnyF.slices_SortFunc_none Tryz.laysSortD av vc _ w).mono ?_
    rintro e w' ⟨rfl, rfl⟩
    exact ⟨rfl, [], List.Perm.refl _, List.Pairwise.nil, h, grown_refl _ _⟩
  · obtain ⟨q0, hq0⟩ := List.exists_mem_of_ne_nil ds h0
    haveI : Inhabited {q // q ∈ ds} := ⟨⟨q0, hq0⟩⟩
    obtain ⟨enc, henc⟩ : ∃ enc : {q // q ∈ ds} → List Value, enc = fun q => [.string (tx q.1.1.name), q.1.2.1, q.1.2.2] := ⟨_, rfl⟩
    have hk : ∀ x, (enc x).length = 3 := fun x => by rw [henc]; rfl
    have hfl : ∀ l : List {q // q ∈ ds}, l.flatMap enc = flatD (l.map (·.1)) := fun l => by rw [henc]; unfold flatD; rw [List.flatMap_map]
    obtain ⟨g, hg⟩ : ∃ g, v = .slice (some ⟨g, 0, none⟩) ds.length vc := by
      obtain ⟨-, ⟨h1, h2⟩ | ⟨g, cap, cur, h1, -⟩⟩ := h.row
      · exact absurd (List.eq_nil_of_length_eq_zero h2) h0
      · refine ⟨g, ?_⟩
        rw [hv] at h1 ⊢
        injection h1 with h1 h2 h3
        rw [h1]
    clear hv
    subst hg
    have hrow := h.row
    rw [← List.attach_map_subtype_val ds, ← hfl, List.attach_map_subtype_val ds] at hrow
    have hb : g < w.heap.size := (hrow.lt g rfl).2
    have hcon := AnyQ.slices_SortFunc Tryz.laysSortD 3 Tryz.isAgg80 Tryz.sizeOf80 enc hk (fun x u hu => by
      rw [henc] at hu
      obtain ⟨a1, c1, e1⟩ := own_formJ (h.cls x.1 x.2)
      obtain ⟨a2, c2, e2⟩ := own_formJ (h.prt x.1 x.2)
      simp only [List.mem_cons, List.not_mem_nil, or_false] at hu
      rcases hu with rfl | rfl | rfl
      · rfl
      · rw [e1]; rfl
      · rw [e2]; rfl) (fun x y => ocL x.1.1.name y.1.1.name) swoD 96 #[] g 0 vc ds.attach.toArray w (enters_of Tryz.func96 (by kernel_rfl) rfl) (fun _ _ _ _ x y => by rw [henc]; exact oorder1 _ _ _ _ _ _ _) (own_holdsK hk (by decide) hrow) hb (by simp; omega)
    rw [show ds.attach.toArray.size = ds.length by simp] at hcon
    refine hcon.mono ?_
    rintro e w' ⟨rfl, ⟨l'⟩, m, os, hp, hs, rfl⟩
    have hpl := permIn_list (by rw [show ds.attach.toArray.size = ds.length by simp]; exact hp)
    simp only at hpl
    have hlen : l'.length = ds.length := by have := hpl.length_eq; simpa using this
    obtain ⟨o1, o2⟩ := sortK_own hk (by decide) hrow l' hlen m os
    rw [hfl] at o1
    have hsub : ∀ q ∈ l'.map (·.1), q ∈ ds := fun q hq => by
      obtain ⟨x, -, rfl⟩ := List.mem_map.1 hq
      exact x.2
    refine ⟨rfl, l'.map (·.1), ?_, ?_, ⟨by rw [List.length_map, hlen]; exact o1, fun q hq => own_sameJ (h.cls q (hsub q hq)) fun k r => o2.block k ((h.cls q (hsub q hq)).lt k r).2 (fun e => own_apartJ (h.cls q (hsub q hq)) h.row Tryz.devNeJ r (by rw [e]; rfl)), fun q hq => own_sameJ (h.prt q (hsub q hq)) fun k r => o2.block k ((h.prt q (hsub q hq)).lt k r).2 (fun e => own_apartJ (h.prt q (hsub q hq)) h.row Tryz.devNeJ r (by rw [e]; rfl))⟩, o2⟩
    · have := hpl.map (fun x => x.1)
      rwa [List.attach_map_subtype_val] at this
    · have := sortedIn_list hlen.symm hs
      rw [List.pairwise_map]
      refine this.imp fun {a b} r => ?_
      unfold ltOf at r
      rw [decide_eq_false_iff_not, ocL_neg] at r
      exact r
instance : Inhabited To.Lk := ⟨⟨0, [], 0, []⟩⟩
/-- A link's cells. -/
def lkL (l : To.Lk) : List Value := [.int .i64 l.a, .string (tx l.p), .int .i64 l.b, .string (tx l.q)]
def flatL (ls : List To.Lk) : List Value := ls.flatMap lkL
theorem swoL : SWO (ltOf fun x y : To.Lk => ocE x.a x.p y.a y.p) where
  irrefl x := by unfold ltOf; rw [decide_eq_false_iff_not, ocE_neg]; rintro (h | h); omega; exact List.lt_irrefl _ h.2
  trans x y z h1 h2 := by
    unfold ltOf at *
    rw [decide_eq_true_iff, ocE_neg] at *
    rcases h1 with h1 | h1 <;> rcases h2 with h2 | h2
    · exact Or.inl (by omega)
    · exact Or.inl (by omega)
    · exact Or.inl (by omega)
    · exact Or.inr ⟨by omega, lt_transB h1.2 h2.2⟩
  ntrans x y z h1 h2 := by
    unfold ltOf at *
    rw [decide_eq_false_iff_not, ocE_neg] at *
    rintro (h | h)
    · exact h1 (Or.inl (by have : ¬ (y.a : Int) < z.a := fun q => h2 (Or.inl q); omega))
    · have a1 : ¬ (x.a : Int) < y.a := fun q => h1 (Or.inl q)
      have a2 : ¬ (y.a : Int) < z.a := fun q => h2 (Or.inl q)
      exact lt_notB (fun q => h1 (Or.inr ⟨by omega, q⟩)) (fun q => h2 (Or.inr ⟨by omega, q⟩)) h.2

set_option maxHeartbeats 1000000 in
/-- Links put in order. -/
theorem osortL {w : World} {B : Nat} {v : Value} {ls : List To.Lk} (h : w.ownsRow B 83 4 v ls.length (flatL ls)) (hl : ls.length ≤ 1000000) :
    Calls Tryz.prog 99 #[v, .func (.func 76) #[] #[]] w fun e w' => e = .returned (.tuple #[]) ∧ ∃ ls', ls'.Perm ls ∧ ls'.Pairwise (fun a b => ¬ ocE b.a b.p a.a a.p < 0) ∧ w'.ownsRow B 83 4 v ls'.length (flatL ls') ∧ w.grownBy w' v.ownBlock := by
  obtain ⟨av, vc, hv⟩ := own_formJ h
  by_cases h0 : ls = []
  · subst h0
    subst hv
    refine (AnyF.slices_SortFunc_none Tryz.laysSortL av vc _ w).mono ?_
    rintro e w' ⟨rfl, rfl⟩
    exact ⟨rfl, [], List.Perm.refl _, List.Pairwise.nil, h, grown_refl _ _⟩
  · have hk : ∀ x, (lkL x).length = 4 := fun x => rfl
    obtain ⟨g, hg⟩ : ∃ g, v = .slice (some ⟨g, 0, none⟩) ls.length vc := by
      obtain ⟨-, ⟨h1, h2⟩ | ⟨g, cap, cur, h1, -⟩⟩ := h
      · exact absurd (List.eq_nil_of_length_eq_zero h2) h0
      · refine ⟨g, ?_⟩
        rw [hv] at h1 ⊢
        injection h1 with h1 h2 h3
        rw [h1]
    clear hv
    subst hg
    have hb : g < w.heap.size := (h.lt g rfl).2
    have hcon := AnyQ.slices_SortFunc Tryz.laysSortL 4 Tryz.isAgg83 Tryz.sizeOf83 lkL hk (fun x u hu => by
      unfold lkL at hu
      simp only [List.mem_cons, List.not_mem_nil, or_false] at hu
      rcases hu with rfl | rfl | rfl | rfl <;> rfl) (fun x y => ocE x.a x.p y.a y.p) swoL 76 #[] g 0 vc ls.toArray w (enters_of Tryz.func76 (by kernel_rfl) rfl) (fun _ _ _ _ x y => ocompareLinks_gr.mono fun _ _ q => ⟨q.1, grow_of_below q.2.1 q.2.2⟩) (own_holdsK hk (by decide) h) hb (by simp; omega)
    rw [show ls.toArray.size = ls.length from rfl] at hcon
    refine hcon.mono ?_
    rintro e w' ⟨rfl, ⟨l'⟩, m, os, hp, hs, rfl⟩
    have hpl : l'.Perm ls := permIn_list (d := ls.toArray) (d' := ⟨l'⟩) hp
    have hlen : l'.length = ls.length := hpl.length_eq
    obtain ⟨o1, o2⟩ := sortK_own hk (by decide) h l' hlen m os
    refine ⟨rfl, l', hpl, ?_, by rw [hlen]; exact o1, o2⟩
    have := sortedIn_list hlen.symm hs
    refine this.imp fun {a b} r => ?_
    unfold ltOf at r
    rwa [decide_eq_false_iff_not] at r
end Go.Proofs.YtebaopiedlioiaaGreatDoor
namespace Go.Proofs.YtebaopiedlioiaaGreatDoor
open Go.RowKit Go

theorem flatL_app (a b : List To.Lk) : flatL (a ++ b) = flatL a ++ flatL b := List.flatMap_append
theorem flatL_len (l : List To.Lk) : (flatL l).length = l.length * 4 := flat_len (enc := lkL) (fun _ => rfl) l
theorem flatL_one (r : To.Lk) : flatL [r] = lkL r := by unfold flatL; simp
set_option maxHeartbeats 400000 in
/-- A link of a row was put anew. -/
theorem own_putL {w : World} {B g m lc k : Nat} {rows : List To.Lk} (r : To.Lk) (h : w.ownsRow B 83 4 (.slice (some ⟨g, 0, none⟩) m lc) m (flatL rows)) (hm : rows.length = m) (hk : k < m) : (w.setCells g (k * 4) (lkL r)).ownsRow B 83 4 (.slice (some ⟨g, 0, none⟩) m lc) m (flatL (rows.set k r)) ∧ w.grownBy (w.setCells g (k * 4) (lkL r)) (some g) := by
  obtain ⟨h1, ⟨h2, -⟩ | ⟨g', cap', cur, h2, h3, h4, h5, h6, h7, h8⟩⟩ := h
  · simp at h2
  · injection h2 with h2 _ h9
    injection h2 with h2
    injection h2 with h2
    subst h2 h9
    have hcap : m * 4 ≤ lc * 4 := Nat.mul_le_mul_right 4 h5
    obtain ⟨cur', b1, b2⟩ := block_sets (lkL r) (k * 4) w cur h4 (by show k * 4 + 4 ≤ cur.size; omega)
    obtain ⟨k1, k2, k3, k4, k5⟩ := sets_kept (b := g) (lkL r) (k * 4) w
    refine ⟨⟨by rw [flatL_len, List.length_set, hm], Or.inr ⟨g, lc, cur', rfl, h3, b1, h5, h6, ?_, ?_⟩⟩, k1, k2, k3, by omega, fun i _ hi => k5 i (fun e => hi (by rw [e]))⟩
    · have h9 := congrArg List.length b2
      simp only [Array.length_toList, List.length_append, List.length_take, List.length_drop, show (lkL r).length = 4 from rfl] at h9
      omega
    · obtain ⟨rest, hrest⟩ : ∃ rest, cur.toList = flatL rows ++ rest := ⟨cur.toList.drop (m * 4), by rw [← h8, List.take_append_drop]⟩
      have hkr : k < rows.length := by omega
      have e1 : flatL rows = flatL (rows.take k) ++ lkL rows[k] ++ flatL (rows.drop (k + 1)) := by
        rw [← flatL_one, ← flatL_app, ← flatL_app]
        congr 1
        rw [List.append_assoc, List.singleton_append, List.getElem_cons_drop, List.take_append_drop]
      have e2 : flatL (rows.set k r) = flatL (rows.take k) ++ lkL r ++ flatL (rows.drop (k + 1)) := by
        rw [← flatL_one, ← flatL_app, ← flatL_app, List.set_eq_take_append_cons_drop, if_pos hkr]
        simp
      have l1 : (flatL (rows.take k)).length = k * 4 := by rw [flatL_len, List.length_take, Nat.min_eq_left (by omega)]
      have t1 : cur.toList.take (k * 4) = flatL (rows.take k) := by
        rw [hrest, e1, List.append_assoc, List.append_assoc, ← l1, List.take_left]
      have t2 : cur.toList.drop (k * 4 + (lkL r).length) = flatL (rows.drop (k + 1)) ++ rest := by
        rw [hrest, e1, List.append_assoc]
        have l2 : (flatL (rows.take k) ++ lkL rows[k]).length = k * 4 + (lkL r).length := by rw [List.length_append, l1, show (lkL rows[k]).length = 4 from rfl, show (lkL r).length = 4 from rfl]
        rw [← l2, List.drop_left]
      rw [b2, t1, t2, ← List.append_assoc, ← e2]
      have l3 : (flatL (rows.set k r)).length = m * 4 := by rw [flatL_len, List.length_set, hm]
      rw [← l3, List.take_left]
/-- A link whose ends have new numbers. -/
def renL (f : Nat → Nat) (l : To.Lk) : To.Lk := if ocE (f l.b) l.q (f l.a) l.p < 0 then ⟨f l.b, l.q, f l.a, l.p⟩ else ⟨f l.a, l.p, f l.b, l.q⟩
theorem renL_val (f : Nat → Nat) (l : To.Lk) : (if ocE (f l.b) l.q (f l.a) l.p < 0 then lkv (f l.b) l.q (f l.a) l.p else lkv (f l.a) l.p (f l.b) l.q) = lkv (renL f l).a (renL f l).p (renL f l).b (renL f l).q := by
  unfold renL
  by_cases h : ocE (f l.b) l.q (f l.a) l.p < 0
  · rw [if_pos h, if_pos h]
  · rw [if_neg h, if_neg h]
/-- Links, of which the first have new numbers. -/
def renT (f : Nat → Nat) (ls : List To.Lk) (k : Nat) : List To.Lk := (ls.take k).map (renL f) ++ ls.drop k
theorem renT_len (f : Nat → Nat) (ls : List To.Lk) (k : Nat) : (renT f ls k).length = ls.length := by
  unfold renT
  rw [List.length_append, List.length_map, List.length_take, List.length_drop]
  omega
theorem renT_at {f : Nat → Nat} {ls : List To.Lk} {k : Nat} {l : To.Lk} (h : ls[k]? = some l) : (renT f ls k)[k]? = some l := by
  have hk := (List.getElem?_eq_some_iff.1 h).1
  have hl : ((ls.take k).map (renL f)).length = k := by rw [List.length_map, List.length_take]; omega
  unfold renT
  rw [List.getElem?_append_right (by omega), hl, Nat.sub_self, List.getElem?_drop]
  exact h
theorem renT_next {f : Nat → Nat} {ls : List To.Lk} {k : Nat} {l : To.Lk} (h : ls[k]? = some l) : (renT f ls k).set k (renL f l) = renT f ls (k + 1) := by
  have hk := (List.getElem?_eq_some_iff.1 h).1
  have hl : ((ls.take k).map (renL f)).length = k := by rw [List.length_map, List.length_take]; omega
  have hg : ls[k] = l := by rw [List.getElem?_eq_getElem hk] at h; exact Option.some.inj h
  unfold renT
  rw [List.set_append_right _ _ (by omega), hl, Nat.sub_self, List.take_succ_eq_append_getElem hk, List.map_append, List.drop_eq_getElem_cons hk, List.set_cons_zero, hg]
  simp
theorem renT_all (f : Nat → Nat) (ls : List To.Lk) : renT f ls ls.length = ls.map (renL f) := by unfold renT; simp
/-- Links in memory, of which the first have new numbers. -/
structure LkI (w2 : World) (B : Nat) (v : Value) (f : Nat → Nat) (ls : List To.Lk) (k : Nat) (wr : World) : Prop where
  row : wr.ownsRow B 83 4 v ls.length (flatL (renT f ls k))
  on : w2.grownBy wr v.ownBlock
/-- The cells of a link of a row. -/
theorem own_atL {w : World} {B g m lc k : Nat} {rows : List To.Lk} {l : To.Lk} (h : w.ownsRow B 83 4 (.slice (some ⟨g, 0, none⟩) m lc) m (flatL rows)) (hl : rows[k]? = some l) (hm : rows.length = m) : (w.cell? ⟨g, k * 4, none⟩ = some (.int .i64 l.a) ∧ w.cell? ⟨g, k * 4 + 1, none⟩ = some (.string (tx l.p)) ∧ w.cell? ⟨g, k * 4 + 2, none⟩ = some (.int .i64 l.b) ∧ w.cell? ⟨g, k * 4 + 3, none⟩ = some (.string (tx l.q))) ∧ ∀ i, w.frozen? ⟨g, i, none⟩ = false := by
  obtain ⟨h1, ⟨h2, -⟩ | ⟨g', cap', cur, h2, h3, h4, h5, h6, h7, h8⟩⟩ := h
  · simp at h2
  · injection h2 with h2 _ h9
    injection h2 with h2
    injection h2 with h2
    subst h2 h9
    have hk := (List.getElem?_eq_some_iff.1 hl).1
    have hc : ∀ c u, c < 4 → (lkL l)[c]? = some u → w.cell? ⟨g, k * 4 + c, none⟩ = some u := fun c u hc hu => by
      rw [cell_at h4, ← Array.getElem?_toList]
      have := flat_at (enc := lkL) (k := 4) (fun _ => rfl) rows k c hc
      rw [hl, Option.bind_some, hu] at this
      have q : (cur.toList.take (m * 4))[k * 4 + c]? = (flatL rows)[k * 4 + c]? := by rw [h8]
      rw [List.getElem?_take_of_lt (by omega)] at q
      rw [q]
      exact this
    exact ⟨⟨hc 0 _ (by decide) rfl, hc 1 _ (by decide) rfl, hc 2 _ (by decide) rfl, hc 3 _ (by decide) rfl⟩, fun i => free_of h4⟩
end Go.Proofs.YtebaopiedlioiaaGreatDoor
namespace Go.Proofs.YtebaopiedlioiaaGreatDoor
open Wo (Wd)

/-- What was read: the width, the devices, the links by the devices' numbers, the ends that are taken. -/
structure TSt where
  wid : Nat
  ds : List To.Dv
  ls : List To.Lk
  ks : List (Nat × List UInt8)
def TSt.nms (s : TSt) : List (List UInt8) := s.ds.map (·.name)
/-- A link of two ends, the lesser one ahead. -/
def jndL (a b : Nat × List UInt8) : To.Lk := if ocE b.1 b.2 a.1 a.2 < 0 then ⟨b.1, b.2, a.1, a.2⟩ else ⟨a.1, a.2, b.1, b.2⟩
theorem jndL_cells (a b : Nat × List UInt8) : lkC a b = lkL (jndL a b) := by
  unfold lkC jndL lkL
  by_cases h : ocE b.1 b.2 a.1 a.2 < 0
  · rw [if_pos h, if_pos h]
  · rw [if_neg h, if_neg h]
/-- One line. -/
def linT (i : Nat) (s : TSt) (x : Wd) (e : Wd) (t : List Wd) : Except Ru.Ft TSt :=
  if x.1 = To.widthT then
    (if i = 0 then (match To.wid e t with | .error f => .error f | .ok n => .ok { s with wid := n }) else .error (Ru.ft x 110))
  else if i = 0 then .error (Ru.ft x 110)
  else if x.1 = To.deviceT then (match To.dev x e s.nms t with | .error f => .error f | .ok d => .ok { s with ds := s.ds ++ [d] })
  else if x.1 = To.linkT then (match lnkJ (fun p m => hasP s.ds p m) s.nms s.ks x e s.ls.length t with | .error f => .error f | .ok (a, b) => .ok { s with ls := s.ls ++ [jndL a b], ks := s.ks ++ [a] ++ [b] })
  else .error (Ru.ft x 110)
/-- All lines. -/
def rdsT : Nat → TSt → List (List Wd) → Except Ru.Ft TSt
  | _, s, [] => .ok s
  | _, s, [] :: _ => .ok s
  | i, s, (x :: t) :: r => match linT i s x (Ru.endW (x :: t)) t with
    | .error f => .error f
    | .ok s' => rdsT (i + 1) s' r
def TSt.nil : TSt := ⟨0, [], [], []⟩
def readT (ls : List (List Wd)) : Except Ru.Ft TSt :=
  if ls = [] then .error (0, 0, 110) else match rdsT 0 TSt.nil ls with
    | .error f => .error f
    | .ok s => if s.ds = [] then .error (0, 0, 113) else .ok s
theorem rdsT_cons (i : Nat) (s : TSt) (x : Wd) (t : List Wd) (r : List (List Wd)) : rdsT i s ((x :: t) :: r) = match linT i s x (Ru.endW (x :: t)) t with | .error f => .error f | .ok s' => rdsT (i + 1) s' r := rfl
/-- What holds of all that was read. -/
structure TOk (s : TSt) : Prop where
  dl : s.ds.length ≤ 256
  ll : s.ls.length ≤ 4096
  kl : s.ks.length ≤ 2 * s.ls.length
  nd : s.nms.Nodup
  at_ : ∀ l ∈ s.ls, l.a < s.ds.length ∧ l.b < s.ds.length
  sm : ∀ d ∈ s.ds, d.name.length ≤ 1048576
  wd : s.wid ≤ 128
theorem TOk.nil : TOk TSt.nil := ⟨by decide, by decide, by decide, List.nodup_nil, (fun l h => absurd h (List.not_mem_nil)), (fun d h => absurd h (List.not_mem_nil)), by decide⟩
theorem dev_ok {x e : Wd} {ns : List (List UInt8)} {l : List Wd} {d : To.Dv} (h : To.dev x e ns l = .ok d) (hs : (Ru.nx e l).1.length ≤ 1048576) : d.name ∉ ns ∧ d.name.length ≤ 1048576 ∧ ns.length < 256 := by
  unfold To.dev at h
  split at h
  · cases h
  · split at h
    · cases h
    · rename_i h1 h2
      unfold To.devA at h
      split at h
      · cases h
      · unfold To.devB at h
        split at h
        · cases h
        · split at h
          · cases h
          · split at h
            · cases h
            · rename_i h3
              injection h with h
              subst h
              exact ⟨h2, hs, by omega⟩
theorem wid_ok {e : Wd} {l : List Wd} {n : Nat} (h : To.wid e l = .ok n) : n ≤ 128 := by
  unfold To.wid at h
  split at h
  · cases h
  · split at h
    · cases h
    · split at h
      · cases h
      · injection h with h
        subst h
        rename_i h1 _
        have := Decidable.not_not.1 h1
        exact this.2
theorem endJ_lt {hp : Nat → List UInt8 → Bool} {ns : List (List UInt8)} {ks : List (Nat × List UInt8)} {e : Wd} {l : List Wd} {p : Nat} {m : List UInt8} (h : endJ hp ns ks e l = .ok (p, m)) : p < ns.length := by
  simp only [endJ] at h
  by_cases h1 : Wo.nameB (Ru.nx e l).1 = false
  · rw [if_pos h1] at h; cases h
  rw [if_neg h1] at h
  by_cases h2 : (Ru.nx e l).1 ∉ ns
  · rw [if_pos h2] at h; cases h
  rw [if_neg h2] at h
  by_cases h3 : Wo.nameB (Ru.nx e l.tail).1 = false
  · rw [if_pos h3] at h; cases h
  rw [if_neg h3] at h
  by_cases h4 : (ns.idxOf (Ru.nx e l).1, (Ru.nx e l.tail).1) ∈ ks
  · rw [if_pos h4] at h; cases h
  rw [if_neg h4] at h
  by_cases h5 : hp (ns.idxOf (Ru.nx e l).1) (Ru.nx e l.tail).1 = false
  · rw [if_pos h5] at h; cases h
  rw [if_neg h5] at h
  injection h with h
  injection h with h _
  rw [← h]
  exact List.idxOf_lt_length_iff.2 (Decidable.not_not.1 h2)
theorem lnkJ_ok {hp : Nat → List UInt8 → Bool} {ns : List (List UInt8)} {ks : List (Nat × List UInt8)} {x e : Wd} {n : Nat} {l : List Wd} {a b : Nat × List UInt8} (h : lnkJ hp ns ks x e n l = .ok (a, b)) : a.1 < ns.length ∧ b.1 < ns.length ∧ n < 4096 := by
  unfold lnkJ at h
  cases h1 : endJ hp ns ks e l with
  | error f => rw [h1] at h; cases h
  | ok a' =>
    rw [h1, lnkA_ok] at h
    split at h
    · cases h
    · cases h2 : endJ hp ns (ks ++ [a']) e l.tail.tail.tail with
      | error f => rw [h2] at h; cases h
      | ok b' =>
        rw [h2, lnkB_ok] at h
        split at h
        · cases h
        · split at h
          · cases h
          · rename_i h3
            injection h with h
            injection h with ha hb
            subst ha hb
            exact ⟨endJ_lt h1, endJ_lt h2, by omega⟩
theorem TOk.width {s : TSt} (h : TOk s) {n : Nat} (hn : n ≤ 128) : TOk { s with wid := n } := ⟨h.dl, h.ll, h.kl, h.nd, h.at_, h.sm, hn⟩
theorem TOk.device {s : TSt} (h : TOk s) {d : To.Dv} (h1 : d.name ∉ s.nms) (h2 : d.name.length ≤ 1048576) (h3 : s.nms.length < 256) : TOk { s with ds := s.ds ++ [d] } := by
  have h3' : s.ds.length < 256 := by simpa [TSt.nms] using h3
  refine ⟨by rw [List.length_append, List.length_singleton]; omega, h.ll, h.kl, ?_, fun l hl => ?_, fun q hq => ?_, h.wd⟩
  · show ((s.ds ++ [d]).map (·.name)).Nodup
    rw [List.map_append, List.nodup_append]
    refine ⟨h.nd, by simp, fun a ha b hb e => ?_⟩
    simp only [List.map_cons, List.map_nil, List.mem_singleton] at hb
    rw [e, hb] at ha
    exact h1 ha
  · have := h.at_ l hl
    rw [List.length_append, List.length_singleton]
    exact ⟨by omega, by omega⟩
  · rcases List.mem_append.1 hq with q1 | q1
    · exact h.sm q q1
    · rw [List.mem_singleton.1 q1]; exact h2
theorem TOk.link {s : TSt} (h : TOk s) {a b : Nat × List UInt8} (ha : a.1 < s.nms.length) (hb : b.1 < s.nms.length) (hn : s.ls.length < 4096) : TOk { s with ls := s.ls ++ [jndL a b], ks := s.ks ++ [a] ++ [b] } := by
  have ha' : a.1 < s.ds.length := by simpa [TSt.nms] using ha
  have hb' : b.1 < s.ds.length := by simpa [TSt.nms] using hb
  refine ⟨h.dl, by rw [List.length_append, List.length_singleton]; omega, ?_, h.nd, fun l hl => ?_, h.sm, h.wd⟩
  · have := h.kl
    simp only [List.length_append, List.length_singleton]
    omega
  · rcases List.mem_append.1 hl with q1 | q1
    · exact h.at_ l q1
    · rw [List.mem_singleton.1 q1]
      unfold jndL
      by_cases hc : ocE b.1 b.2 a.1 a.2 < 0
      · rw [if_pos hc]; exact ⟨hb', ha'⟩
      · rw [if_neg hc]; exact ⟨ha', hb'⟩
end Go.Proofs.YtebaopiedlioiaaGreatDoor
namespace Go.Proofs.YtebaopiedlioiaaGreatDoor
open Go.RowKit

theorem Tryz.lnkNeS : (83 : TypeId) ≠ 9 := by decide
theorem Tryz.lnkNeJ : (83 : TypeId) ≠ 80 := by decide
theorem Tryz.infoIntJ : (Tryz.prog.info? 3).map (fun i => (i.zero, i.size, i.bytes)) = some (some (.int .i64 0), 1, 8) := by kernel_rfl
def zerosJ (n : Nat) : Array Value := madeCells #[.int .i64 0] n
theorem run_zerosJ (n : Nat) (hn : n ≤ 1000000) (w : World) :
    (Instr.makeSlice 52 (.int .i64 (n : Int)) (.int .i64 (n : Int))).run Tryz.prog w = .ok (.slice (some ⟨w.heap.size, 0, none⟩) n n) (w.alloc (.cells (zerosJ n) 3)) := by
  obtain ⟨i, hi, hz0, hz1, hz2⟩ := info_parts Tryz.infoIntJ
  have := run_make (P := Tryz.prog) w 52 3 i (.int .i64 0) Tryz.underlying52 hi hz0 .i64 .i64 n n (by omega) (by omega) (by rw [hz2]; omega) (by omega)
  rw [this, hz1, Nat.mul_one]
  rfl

theorem zerosJ_toList (n : Nat) : (zerosJ n).toList = List.replicate n (.int .i64 0) := by unfold zerosJ; rw [toList_madeCells_one]
/-- The places of devices, where the first k of the new row are known. -/
def plc (f : Nat → Nat) (n k : Nat) : List Value := (List.range n).map fun j => .int .i64 (((if f j < k then f j else 0) : Nat) : Int)
theorem plc_len (f : Nat → Nat) (n k : Nat) : (plc f n k).length = n := by simp [plc]
theorem plc_at {f : Nat → Nat} {n k j : Nat} (hj : j < n) : (plc f n k)[j]? = some (.int .i64 (((if f j < k then f j else 0) : Nat) : Int)) := by
  unfold plc
  rw [List.getElem?_map, List.getElem?_range hj]
  rfl
theorem plc_zero (f : Nat → Nat) (n : Nat) : plc f n 0 = List.replicate n (.int .i64 0) := by
  apply List.ext_getElem?
  intro i
  by_cases h : i < n
  · rw [plc_at h, List.getElem?_replicate, if_pos h, if_neg (Nat.not_lt_zero _)]
    rfl
  · rw [List.getElem?_eq_none (by rw [plc_len]; omega), List.getElem?_eq_none (by simp; omega)]
theorem plc_set {f : Nat → Nat} {n k j : Nat} (_hj : j < n) (hf : f j = k) (hi : ∀ i, i < n → f i = k → i = j) : (plc f n k).set j (.int .i64 (k : Nat)) = plc f n (k + 1) := by
  apply List.ext_getElem?
  intro i
  by_cases h : i < n
  · rw [plc_at h, List.getElem?_set]
    by_cases e : j = i
    · subst e
      rw [if_pos rfl, if_pos (by rw [plc_len]; exact h), hf, if_pos (by omega)]
    · rw [if_neg e, plc_at h]
      have : f i ≠ k := fun q => e (hi i h q).symm
      by_cases h1 : f i < k
      · rw [if_pos h1, if_pos (by omega)]
      · rw [if_neg h1, if_neg (by omega)]
  · rw [List.getElem?_eq_none (by rw [List.length_set, plc_len]; omega), List.getElem?_eq_none (by rw [plc_len]; omega)]
/-- The new place of a device. -/
def posF (ds ds' : List (To.Dv × Value × Value)) (j : Nat) : Nat := (ds'.map (·.1.name)).idxOf ((ds.map (·.1.name)).getD j [])
theorem posF_at {ds ds' : List (To.Dv × Value × Value)} (hp : ds'.Perm ds) (hnd : (ds.map (·.1.name)).Nodup) {k : Nat} {q : To.Dv × Value × Value} (hq : ds'[k]? = some q) :
    ∃ j, (ds.map (·.1.name)).idxOf q.1.name = j ∧ j < ds.length ∧ q.1.name ∈ ds.map (·.1.name) ∧ posF ds ds' j = k ∧ ∀ i, i < ds.length → posF ds ds' i = k → i = j := by
  have hpm : (ds'.map (·.1.name)).Perm (ds.map (·.1.name)) := hp.map _
  have hnd' : (ds'.map (·.1.name)).Nodup := hpm.nodup_iff.2 hnd
  have hk : k < ds'.length := (List.getElem?_eq_some_iff.1 hq).1
  have hkq : (ds'.map (·.1.name))[k]? = some q.1.name := by rw [List.getElem?_map, hq]; rfl
  have hm' : q.1.name ∈ ds'.map (·.1.name) := List.mem_of_getElem? hkq
  have hm : q.1.name ∈ ds.map (·.1.name) := hpm.mem_iff.1 hm'
  have hj : (ds.map (·.1.name)).idxOf q.1.name < ds.length := by have := List.idxOf_lt_length_iff.2 hm; simpa using this
  refine ⟨_, rfl, hj, hm, ?_, fun i hi h => ?_⟩
  · unfold posF
    have e : (ds.map (·.1.name)).getD ((ds.map (·.1.name)).idxOf q.1.name) [] = q.1.name := by
      rw [List.getD_eq_getElem?_getD, List.getElem?_eq_getElem (by simpa using hj)]
      exact List.getElem_idxOf _
    rw [e]
    have h1 : (ds'.map (·.1.name))[k]'(by simpa using hk) = q.1.name := by
      rw [List.getElem?_eq_getElem (by simpa using hk)] at hkq
      exact Option.some.inj hkq
    rw [← h1]
    exact hnd'.idxOf_getElem _ _
  · unfold posF at h
    have hi' : i < (ds.map (·.1.name)).length := by simpa using hi
    have e : (ds.map (·.1.name)).getD i [] = (ds.map (·.1.name))[i] := by rw [List.getD_eq_getElem?_getD, List.getElem?_eq_getElem hi']; rfl
    rw [e] at h
    have hmi : (ds.map (·.1.name))[i] ∈ ds'.map (·.1.name) := hpm.mem_iff.2 (List.getElem_mem _)
    have h2 : (ds'.map (·.1.name))[(ds'.map (·.1.name)).idxOf (ds.map (·.1.name))[i]]? = some (ds.map (·.1.name))[i] := by
      rw [List.getElem?_eq_getElem (List.idxOf_lt_length_iff.2 hmi)]
      exact congrArg some (List.getElem_idxOf _)
    rw [h, hkq] at h2
    have h3 := Option.some.inj h2
    rw [h3]
    exact (hnd.idxOf_getElem _ _).symm
theorem posF_lt {ds ds' : List (To.Dv × Value × Value)} (hp : ds'.Perm ds) {j : Nat} (hj : j < ds.length) : posF ds ds' j < ds.length := by
  have hpm : (ds'.map (·.1.name)).Perm (ds.map (·.1.name)) := hp.map _
  have hj' : j < (ds.map (·.1.name)).length := by simpa using hj
  unfold posF
  have e : (ds.map (·.1.name)).getD j [] = (ds.map (·.1.name))[j] := by rw [List.getD_eq_getElem?_getD, List.getElem?_eq_getElem hj']; rfl
  rw [e]
  have := List.idxOf_lt_length_iff.2 (hpm.mem_iff.2 (List.getElem_mem hj'))
  rw [List.length_map, hp.length_eq] at this
  exact this
theorem eob_first {w : World} {b : Nat} {p x : Int} {m : List UInt8} (h : w.heap[b]? = some (eob p m)) : (w.setCell ⟨b, 0, none⟩ (.int .i64 x)).heap[b]? = some (eob x m) := by
  rw [block_set (o := 0) _ h]
  rfl
/-- Both ends have their new numbers. -/
structure EJ (wr : World) (A : Nat) (p q : Int) (m n : List UInt8) (wz : World) : Prop where
  a : wz.heap[A]? = some (eob p m)
  b : wz.heap[A + 1]? = some (eob q n)
  on : Below wr.heap.size wr wz
structure PlI (w1 : World) (pb n : Nat) (f : Nat → Nat) (k : Nat) (wr : World) : Prop where
  row : wr.heap[pb]? = some (.cells (plc f n k).toArray 3 (0, 0))
  below : Below pb w1 wr

/-- What order leaves. -/
def OrdQ (B : Nat) (w : World) (c1 c2 : Value) (ds : List (To.Dv × Value × Value)) (ls : List To.Lk) (w' : World) : Prop :=
  ∃ ds' ls', ds'.Perm ds ∧ ds'.Pairwise (fun a b => ¬ b.1.name < a.1.name) ∧ ls'.Perm (ls.map (renL (posF ds ds'))) ∧ ls'.Pairwise (fun a b => ¬ ocE b.a b.p a.a a.p < 0) ∧ DvO B w' c1 ds' ∧ w'.ownsRow B 83 4 c2 ls'.length (flatL ls') ∧ w.heap.size ≤ w'.heap.size ∧ w'.os = w.os ∧ w'.tape = w.tape ∧ w'.output = w.output ∧ ∀ k, k < w.heap.size → c1.ownBlock ≠ some k → c2.ownBlock ≠ some k → w'.heap[k]? = w.heap[k]?

set_option maxRecDepth 20000 in
set_option maxHeartbeats 1000000 in
theorem oorder_any {w : World} {rb nb B : Nat} {c0 c1 c2 c4 d5 d6 d7 d8 d9 d10 d11 d12 d13 d14 : Value} {ds : List (To.Dv × Value × Value)} {ls : List To.Lk} (hc : w.heap[rb]? = some (.cells #[c0, c1, c2, .map (some nb), c4, d5, d6, d7, d8, d9, d10, d11, d12, d13, d14] 111 (0, 0))) (hD : DvO B w c1 ds) (hL : w.ownsRow B 83 4 c2 ls.length (flatL ls)) (hN : NumAt w nb (ds.map (·.1.name))) (hnd : (ds.map (·.1.name)).Nodup) (hdl : ds.length ≤ 256) (hll : ls.length ≤ 4096) (hr : rb < B) (hnB : nb < B) (_hnr : nb ≠ rb) (hlk : ∀ l ∈ ls, l.a < ds.length ∧ l.b < ds.length) (hsm : ∀ d ∈ ds, d.1.name.length ≤ 1048576) :
    Calls Tryz.prog 59 #[.pointer (some ⟨rb, 0, none⟩)] w fun en w' => en = .returned (.tuple #[]) ∧ OrdQ B w c1 c2 ds ls w' := by
  obtain ⟨dv, dc, rfl⟩ := own_formJ hD.row
  obtain ⟨lv, lc, rfl⟩ := own_formJ hL
  obtain ⟨n, hn⟩ : ∃ n, ds.length = n := ⟨_, rfl⟩
  obtain ⟨m, hm⟩ : ∃ m, ls.length = m := ⟨_, rfl⟩
  have HS := hid (osortD hD (by omega))
  have k1 : w.cell? ⟨rb, 1, none⟩ = some (.slice dv ds.length dc) := by rw [cell_at hc]; rfl
  rw [hn] at HS k1
  have HC := hid hc
  have HD := hid hD
  have HL := hid hL
  have HN := hid hN
  have HND := hid hnd
  have HLK := hid hlk
  have HSM := hid hsm
  have HNN := hid hn
  have HMM := hid hm
  have hn256 : n ≤ 256 := by omega
  have hm4096 : m ≤ 4096 := by omega
  have hmk := run_zerosJ n (by omega)
  clear hc hD hL hN hnd hlk hsm hn hm hdl hll
  go_enter Tryz.func59, Tryz.ntmps59
  go_wp2_with fail
  refine HS.out.mono ?_
  rintro en w1 ⟨rfl, ds', hp, hs, hD1, hg1⟩
  have HP := hid hp
  have HST := hid hs
  have HD1 := hid hD1
  have HG1 := hid hg1
  have HC1 := hid (show w1.heap[rb]? = some (.cells #[c0, .slice dv n dc, .slice lv m lc, .map (some nb), c4, d5, d6, d7, d8, d9, d10, d11, d12, d13, d14] 111 (0, 0)) from by
    rw [hg1.block rb (lt_of_block HC.out) (fun e => by have := (HD.out.row.lt rb (by rw [HNN.out]; exact e.symm)).1; omega), HC.out, HNN.out, HMM.out])
  clear hp hs hD1 hg1
  have j1 : w1.cell? ⟨rb, 1, none⟩ = some (.slice dv n dc) := by rw [cell_at HC1.out]; rfl
  have hj := lt_of_block HC1.out
  obtain ⟨pb, hpb⟩ : ∃ pb, w1.heap.size = pb := ⟨_, rfl⟩
  obtain ⟨f, hf⟩ : ∃ f, f = posF ds ds' := ⟨_, rfl⟩
  have I0 := hid (show PlI w1 pb n f 0 (w1.alloc (.cells (zerosJ n) 3)) from ⟨by rw [← hpb, new_0, show zerosJ n = (plc f n 0).toArray from by rw [plc_zero, ← zerosJ_toList]], (Below.refl _ _).alloc (by omega) _⟩)
  have HPB := hid hpb
  have HF := hid hf
  clear hf hpb
  go_wp2_with fail
  rw [HPB.out]
  go_loopw [28] (fun i wr => ∃ k : Nat, k ≤ n ∧ i = .int .i64 k ∧ Hid (PlI w1 pb n f k wr)) (fun i _ => n - (intOf i).toNat)
  case atStart => exact ⟨0, Nat.zero_le _, rfl, I0⟩
  case round =>
    obtain ⟨k, hk, rfl, hI⟩ := hrel
    by_cases hkn : k < n
    · have hkd : k < ds'.length := by rw [HP.out.length_eq, HNN.out]; exact hkn
      obtain ⟨q, hq⟩ : ∃ q, ds'[k]? = some q := ⟨_, List.getElem?_eq_getElem hkd⟩
      obtain ⟨av, cap, e1, e2⟩ := HD1.out.lies.form
      obtain ⟨G, o, hav, hG, hcells⟩ : ∃ G o, dv = some ⟨G, o, none⟩ ∧ G < w1.heap.size ∧ ∀ (i : Nat) (q : To.Dv × Value × Value), ds'[i]? = some q → w1.cell? ⟨G, o + i * 3, none⟩ = some (.string (tx q.1.name)) ∧ w1.cell? ⟨G, o + i * 3 + 1, none⟩ = some q.2.1 ∧ w1.cell? ⟨G, o + i * 3 + 2, none⟩ = some q.2.2 := by
        injection e1 with e1 _ _
        rcases e2 with e2 | ⟨G, o, h1, h2, h3⟩
        · rw [e2] at hkd; exact absurd hkd (Nat.not_lt_zero _)
        · exact ⟨G, o, e1.trans h1, h2, h3⟩
      clear e1 e2
      obtain ⟨z0, z1, z2⟩ := hcells k q hq
      obtain ⟨j, hj1, hj2, hj3, hj4, hj5⟩ := posF_at HP.out HND.out hq
      have HQ := hid hq
      have hjn : j < n := by rw [← HNN.out]; exact hj2
      have HJ := hid (show f j = k ∧ ∀ i, i < n → f i = k → i = j by rw [HF.out, ← HNN.out]; exact ⟨hj4, hj5⟩)
      have hGp : G < pb := by rw [← HPB.out]; exact hG
      have hrp : rb < pb := by rw [← HPB.out]; exact hj
      have y0 : wr.cell? ⟨G, o + k * 3, none⟩ = some (.string (tx q.1.name)) := (World.cell?_of_block (hI.out.below.block G hGp)).trans z0
      have y1 : wr.cell? ⟨G, o + k * 3 + 1, none⟩ = some q.2.1 := (World.cell?_of_block (hI.out.below.block G hGp)).trans z1
      have y2 : wr.cell? ⟨G, o + k * 3 + 2, none⟩ = some q.2.2 := (World.cell?_of_block (hI.out.below.block G hGp)).trans z2
      have hb : wr.heap[rb]? = w1.heap[rb]? := hI.out.below.block rb hrp
      have y3 : wr.cell? ⟨rb, 3, none⟩ = some (.map (some nb)) := by rw [World.cell?_of_block hb, cell_at HC1.out]; rfl
      have hws : pb < wr.heap.size := lt_of_block hI.out.row
      subst hav
      have HLQ := hid (fun (W : World) (hW : W.heap[nb]? = wr.heap[nb]?) => (by
        have hN : NumAt W nb (ds.map (·.1.name)) := HN.out.same (by
          rw [hW, hI.out.below.block nb (by rw [← HPB.out]; have := HG1.out.size; have := HN.out.lt; omega), HG1.out.block nb HN.out.lt (fun e => by have := (HD.out.row.lt nb (by rw [HNN.out]; exact e.symm)).1; omega)])
        have := hN.look (s := q.1.name) (HSM.out q (HP.out.mem_iff.1 (List.mem_of_getElem? hq)))
        rw [show numO (ds.map (·.1.name)) q.1.name = some ((j : Int) + 1) by unfold numO; rw [if_pos hj3, hj1]] at this
        exact this : (Instr.lookup 107 (.map (some nb)) (.string (tx q.1.name)) false).run Tryz.prog W = .ok (.int .i64 ((j : Int) + 1)) W))
      clear hcells z0 z1 z2 hj1 hj2 hj3 hj4 hj5 hq hkd
      have hkI : (k : Int) < (n : Int) := by omega
      have hk0 : (0 : Int) ≤ (k : Int) := by omega
      obtain ⟨a1, b1, e1⟩ := own_formJ (HD1.out.cls q (List.mem_of_getElem? HQ.out))
      obtain ⟨a2, b2, e2⟩ := own_formJ (HD1.out.prt q (List.mem_of_getElem? HQ.out))
      rw [e1] at y1
      rw [e2] at y2
      clear e1 e2
      obtain ⟨Wk, hWk⟩ : ∃ Wk, Wk = wr.alloc (.cells #[.string (tx q.1.name), .slice a1 q.1.cls.length b1, .slice a2 q.1.prt.length b2] 80) := ⟨_, rfl⟩
      have r0 : Wk.cell? ⟨wr.heap.size, 0, none⟩ = some (.string (tx q.1.name)) := by rw [hWk, cell_at (new_0 _ _)]; rfl
      have r3 : Wk.cell? ⟨rb, 3, none⟩ = some (.map (some nb)) := by rw [hWk]; exact (World.cell?_of_block (Below.heap_alloc _ _ _ (by show rb < _; omega))).trans y3
      have HBK := hid (show Below wr.heap.size wr Wk by rw [hWk]; exact (Below.refl _ _).alloc (Nat.le_refl _) _)
      have hlk := HLQ.out Wk.drew (by show Wk.heap[nb]? = _; exact HBK.out.block nb (by have := hI.out.below.size; have := HPB.out; have := HG1.out.size; have := HN.out.lt; omega))
      have rp : Wk.heap[pb]? = some (.cells (plc f n k).toArray 3 (0, 0)) := (HBK.out.block pb hws).trans hI.out.row
      have rc : Wk.cell? ⟨pb, j, none⟩ = some (.int .i64 (((if f j < k then f j else 0) : Nat) : Int)) := by
        rw [cell_at rp]
        have := plc_at (f := f) (k := k) hjn
        simpa using this
      have rf : Wk.frozen? ⟨pb, j, none⟩ = false := free_of rp
      have hjI : (j : Int) < (n : Int) := by omega
      have hj0 : (0 : Int) ≤ (j : Int) := by omega
      have HNX := hid (show PlI w1 pb n f (k + 1) (Wk.setCell ⟨pb, j, none⟩ (.int .i64 (k : Nat))).drew from by
        refine ⟨?_, ?_⟩
        · show (Wk.setCell ⟨pb, j, none⟩ (.int .i64 (k : Nat))).heap[pb]? = _
          rw [block_set (o := j) _ rp]
          congr 2
          rw [← plc_set hjn HJ.out.1 HJ.out.2]
          simp
        · refine (Below.setCell ?_ (by exact Nat.le_refl _) _).drew
          have h1 := hI.out.below
          have h2 := HBK.out
          exact ⟨h2.os.trans h1.os, h2.tape.trans h1.tape, h2.output.trans h1.output, Nat.le_trans h1.size h2.size, fun i hi => (h2.block i (by omega)).trans (h1.block i hi)⟩)
      clear rp
      go_wp2_with fail
      rw [← hWk]
      clear hWk
      go_region
      go_wp2
      exact ⟨⟨k + 1, by omega, by simp, HNX⟩, by simp [intOf]; omega⟩
    · have hkn' : k = n := by omega
      subst hkn'
      have hrp : rb < pb := by rw [← HPB.out]; exact hj
      have hb : wr.heap[rb]? = w1.heap[rb]? := hI.out.below.block rb hrp
      have HC2 := hid (hb.trans HC1.out)
      have y2 : wr.cell? ⟨rb, 2, none⟩ = some (.slice lv m lc) := by rw [World.cell?_of_block hb, cell_at HC1.out]; rfl
      have HL2 := hid (show wr.ownsRow B 83 4 (.slice lv m lc) m (flatL ls) from by
        have h0 := HL.out
        rw [HMM.out] at h0
        refine own_sameJ h0 fun i q => ?_
        have hi := (h0.lt i q).2
        have hs1 := HG1.out.size
        rw [hI.out.below.block i (by rw [← HPB.out]; omega), HG1.out.block i hi (fun e => own_apartJ h0 (by have h1 := HD.out.row; rw [HNN.out] at h1; exact h1) Tryz.lnkNeJ q e.symm)])
      have hws : pb < wr.heap.size := lt_of_block hI.out.row
      have HPL := hid (fun (j : Nat) (hj : j < k) => (by
        have hf : f j < k := by rw [HF.out]; have := posF_lt HP.out (j := j) (by rw [HNN.out]; exact hj); rw [HNN.out] at this; exact this
        rw [cell_at hI.out.row]
        have := plc_at (f := f) (k := k) hj
        rw [if_pos hf] at this
        simpa using this : wr.cell? ⟨pb, j, none⟩ = some (.int .i64 (f j))))
      rename World => w2
      have HI2 := hI
      clear hb hI
      have J0 := hid (show LkI w2 B (.slice lv m lc) f ls 0 w2 from ⟨by rw [HMM.out]; exact HL2.out, grown_refl _ _⟩)
      go_wp2_with fail
      go_loopw [51] (fun i wr => ∃ i' : Nat, i' ≤ m ∧ i = .int .i64 i' ∧ Hid (LkI w2 B (.slice lv m lc) f ls i' wr)) (fun i _ => m - (intOf i).toNat)
      case atStart => exact ⟨0, Nat.zero_le _, rfl, J0⟩
      case round =>
        obtain ⟨i, hi, rfl, hJ⟩ := hrel
        by_cases him : i < m
        · have hil : i < ls.length := by rw [HMM.out]; exact him
          obtain ⟨l, hl⟩ : ∃ l, ls[i]? = some l := ⟨_, List.getElem?_eq_getElem hil⟩
          have hrow := hJ.out.row
          rw [HMM.out] at hrow
          obtain ⟨Lg, hLg⟩ : ∃ Lg, lv = some ⟨Lg, 0, none⟩ := by
            obtain ⟨-, ⟨h1, h2⟩ | ⟨g, cap, cur, h1, -⟩⟩ := hrow
            · omega
            · injection h1 with h1; exact ⟨g, h1⟩
          subst hLg
          have HROW := hid hrow
          obtain ⟨⟨x0, x1, x2, x3⟩, xf⟩ := own_atL hrow (renT_at hl) (by rw [renT_len, HMM.out])
          obtain ⟨la, hla⟩ : ∃ la, la = l.a := ⟨_, rfl⟩
          obtain ⟨lb, hlb⟩ : ∃ lb, lb = l.b := ⟨_, rfl⟩
          obtain ⟨lp, hlp⟩ : ∃ lp, lp = l.p := ⟨_, rfl⟩
          obtain ⟨lq, hlq⟩ : ∃ lq, lq = l.q := ⟨_, rfl⟩
          have hlk := HLK.out l (List.mem_of_getElem? hl)
          rw [HNN.out, ← hla, ← hlb] at hlk
          obtain ⟨hla1, hlb1⟩ := hlk
          rw [← hla] at x0
          rw [← hlp] at x1
          rw [← hlb] at x2
          rw [← hlq] at x3
          have HEN := hid (show (if ocE (f lb) lq (f la) lp < 0 then lkv (f lb) lq (f la) lp else lkv (f la) lp (f lb) lq) = lkv (renL f l).a (renL f l).p (renL f l).b (renL f l).q by rw [hla, hlb, hlp, hlq]; exact renL_val f l)
          have HLL := hid hl
          have hLgb := hrow.lt Lg rfl
          have hLgw : Lg < w2.heap.size := (HL2.out.lt Lg rfl).2
          have hLp : Lg < pb := by
            have h0 := HL.out
            have := (h0.lt Lg rfl).2
            have h1 := HG1.out.size
            have h2 := HPB.out
            omega
          have hLr : ¬ Lg = rb := by have := hLgb.1; omega
          have hiI : (i : Int) < (m : Int) := by omega
          have hi0 : (0 : Int) ≤ (i : Int) := by omega
          have hsw := hJ.out.on.size
          have hpw : wr.heap[pb]? = w2.heap[pb]? := hJ.out.on.block pb hws (fun e => by have e' : pb = Lg := Option.some.inj e; omega)
          have hrw : wr.heap[rb]? = w2.heap[rb]? := hJ.out.on.block rb (by omega) (fun e => hLr (Option.some.inj e).symm)
          have PA := hid ((World.cell?_of_block (by exact hpw)).trans (HPL.out la hla1))
          have PB := hid ((World.cell?_of_block (by exact hpw)).trans (HPL.out lb hlb1))
          have PR := hid ((World.cell?_of_block (by exact hrw)).trans y2)
          clear hla hlb hlp hlq hl hrow hpw hrw hil
          have hfa0 : (la : Int) < (k : Int) := by omega
          have hfb0 : (lb : Int) < (k : Int) := by omega
          have hla0 : (0 : Int) ≤ (la : Int) := by omega
          have hlb0 : (0 : Int) ≤ (lb : Int) := by omega
          go_wp2_with fail
          refine oendsOf_any.mono ?_
          rintro en w5 ⟨rfl, hb5⟩
          have HB5 := hid (show Below wr.heap.size wr w5 from by
            have h1 : Below wr.heap.size wr (wr.alloc (.cells #[.int .i64 la, .string (tx lp), .int .i64 lb, .string (tx lq)] 83)) := (Below.refl _ _).alloc (Nat.le_refl _) _
            have h2 := hb5
            simp only [World.size_alloc] at h2
            exact ⟨h2.os.trans h1.os, h2.tape.trans h1.tape, h2.output.trans h1.output, Nat.le_trans h1.size h2.size, fun i hi => (h2.block i (by omega)).trans (h1.block i hi)⟩)
          clear hb5
          obtain ⟨A, hA⟩ : ∃ A, A = w5.heap.size := ⟨_, rfl⟩
          obtain ⟨W6, hW6⟩ : ∃ W6, W6 = (w5.alloc (eob la lp)).alloc (eob lb lq) := ⟨_, rfl⟩
          have hA6 : W6.heap[A]? = some (eob la lp) := by rw [hW6, hA]; exact new_old _ _ (new_0 _ _)
          have hB6 : W6.heap[A + 1]? = some (eob lb lq) := by rw [hW6, hA]; exact new_1 _ _ _
          have HB6 := hid (show Below wr.heap.size wr W6 from by rw [hW6]; exact (HB5.out.alloc HB5.out.size _).alloc (by have := HB5.out.size; simp only [World.size_alloc]; omega) _)
          have hAw : wr.heap.size ≤ A := by rw [hA]; exact HB5.out.size
          have hpl : pb < wr.heap.size := by omega
          have HB6' := HB6.out
          obtain ⟨a0, a1⟩ := eob_cells hA6
          obtain ⟨b0, b1⟩ := eob_cells hB6
          have fa : W6.frozen? ⟨A, 0, none⟩ = false := free_of hA6
          have fb : W6.frozen? ⟨A + 1, 0, none⟩ = false := free_of hB6
          have p0 : W6.cell? ⟨pb, la, none⟩ = some (.int .i64 (f la)) := (World.cell?_of_block (HB6'.block pb hpl)).trans PA.out
          have p1 : W6.cell? ⟨pb, lb, none⟩ = some (.int .i64 (f lb)) := (World.cell?_of_block (HB6'.block pb hpl)).trans PB.out
          have HE1 := hid (show EJ wr A (f la) (f lb) lp lq ((W6.setCell ⟨A, 0, none⟩ (.int .i64 (f la))).setCell ⟨A + 1, 0, none⟩ (.int .i64 (f lb))) from ⟨(Below.heap_setCell _ _ _ _ (by show A ≠ A + 1; omega)).trans (eob_first hA6), eob_first ((Below.heap_setCell _ _ _ _ (by show A + 1 ≠ A; omega)).trans hB6), (HB6'.setCell (by exact hAw) _).setCell (by show wr.heap.size ≤ A + 1; omega) _⟩)
          have HE2 := hid (show EJ wr A (f la) (f lb) lp lq ((W6.setCell ⟨A + 1, 0, none⟩ (.int .i64 (f lb))).setCell ⟨A, 0, none⟩ (.int .i64 (f la))) from ⟨eob_first ((Below.heap_setCell _ _ _ _ (by show A ≠ A + 1; omega)).trans hA6), (Below.heap_setCell _ _ _ _ (by show A + 1 ≠ A; omega)).trans (eob_first hB6), (HB6'.setCell (by show wr.heap.size ≤ A + 1; omega) _).setCell (by exact hAw) _⟩)
          have hAA : ¬ A + 1 = A := by omega
          have hAA' : ¬ A = A + 1 := by omega
          have hAp : ¬ A = pb := by omega
          have hBp : ¬ A + 1 = pb := by omega
          clear hA6 hB6 HB6'
          go_upto_region 11 with fail
          rw [← hA, ← hW6]
          clear hW6 hA
          go_cut [] (fun wz => Hid (EJ wr A (f la) (f lb) lp lq wz))
          case first =>
            go_region
            all_goals (
              go_wp2_with fail
              go_meet
              first | exact hid ⟨HE1.out.a, HE1.out.b, HE1.out.on.drew⟩ | exact hid ⟨HE2.out.a, HE2.out.b, HE2.out.on.drew⟩)
          case rest =>
            obtain ⟨z0, z1⟩ := eob_cells hcut.out.a
            obtain ⟨z2, z3⟩ := eob_cells hcut.out.b
            have hLw : Lg < wr.heap.size := hLgb.2
            have hrw : rb < wr.heap.size := by omega
            have hAc : A < wc.heap.size := lt_of_block hcut.out.a
            have hBc : A + 1 < wc.heap.size := lt_of_block hcut.out.b
            have z4 : wc.cell? ⟨rb, 2, none⟩ = some (.slice (some ⟨Lg, 0, none⟩) m lc) := (World.cell?_of_block (hcut.out.on.block rb hrw)).trans PR.out
            have HJN := hid (fun (W : World) => (by have := ojoined_any (w := W) (p := f la) (q := f lb) (m := lp) (n := lq); rw [HEN.out] at this; exact this : Calls Tryz.prog 98 #[.agg #[.int .i64 (f la), .string (tx lp)], .agg #[.int .i64 (f lb), .string (tx lq)]] W fun e w' => e = .returned (lkv (renL f l).a (renL f l).p (renL f l).b (renL f l).q) ∧ Below W.heap.size W w'))
            have HB9 := hid (fun (w9 : World) (hb : Below wc.heap.size wc w9) => (show Below wr.heap.size wr w9 from by
              have h1 := hcut.out.on
              exact ⟨hb.os.trans h1.os, hb.tape.trans h1.tape, hb.output.trans h1.output, Nat.le_trans h1.size hb.size, fun i hi => (hb.block i (by have := h1.size; omega)).trans (h1.block i hi)⟩))
            have HS9 := hid (fun (w9 : World) (hb : Below wc.heap.size wc w9) => (by
              have h9 := HB9.out w9 hb
              exact ⟨(World.cell?_of_block (h9.block rb hrw)).trans PR.out, (World.cell?_of_block (hb.block A hAc)).trans z0, (World.cell?_of_block (hb.block A hAc)).trans z1, (World.cell?_of_block (hb.block (A + 1) hBc)).trans z2, (World.cell?_of_block (hb.block (A + 1) hBc)).trans z3⟩ : w9.cell? ⟨rb, 2, none⟩ = some (.slice (some ⟨Lg, 0, none⟩) m lc) ∧ w9.cell? ⟨A, 0, none⟩ = some (.int .i64 (f la)) ∧ w9.cell? ⟨A, 1, none⟩ = some (.string (tx lp)) ∧ w9.cell? ⟨A + 1, 0, none⟩ = some (.int .i64 (f lb)) ∧ w9.cell? ⟨A + 1, 1, none⟩ = some (.string (tx lq))))
            have HR9 := hid (fun (w9 : World) (hb : Below wc.heap.size wc w9) => (own_sameJ HROW.out (fun i q => by
              have e : Lg = i := Option.some.inj q
              subst e
              exact (HB9.out w9 hb).block Lg hLw) : w9.ownsRow B 83 4 (.slice (some ⟨Lg, 0, none⟩) m lc) m (flatL (renT f ls i))))
            have HX9 := hid (fun (w9 : World) (hb : Below wc.heap.size wc w9) => own_atL (HR9.out w9 hb) (renT_at HLL.out) (by rw [renT_len, HMM.out]))
            have HN9 := hid (fun (w9 : World) (hb : Below wc.heap.size wc w9) => (by
              obtain ⟨o1, o2⟩ := own_putL (renL f l) (HR9.out w9 hb) (by rw [renT_len, HMM.out]) him
              rw [renT_next HLL.out] at o1
              have h9 := HB9.out w9 hb
              have h2 := hJ.out.on
              refine ⟨by rw [HMM.out]; exact o1, o2.os.trans (h9.os.trans h2.os), o2.tape.trans (h9.tape.trans h2.tape), o2.output.trans (h9.output.trans h2.output), by have := o2.size; have := h9.size; omega, fun i hi hne => ?_⟩
              rw [o2.block i (by have := h9.size; omega) hne, h9.block i (by omega), h2.block i hi hne] : LkI w2 B (.slice (some ⟨Lg, 0, none⟩) m lc) f ls (i + 1) (w9.setCells Lg (i * 4) (lkL (renL f l)))))
            obtain ⟨ra, hra⟩ : ∃ ra, ra = (renL f l).a := ⟨_, rfl⟩
            obtain ⟨rp, hrp'⟩ : ∃ rp, rp = (renL f l).p := ⟨_, rfl⟩
            obtain ⟨rb', hrb'⟩ : ∃ rb', rb' = (renL f l).b := ⟨_, rfl⟩
            obtain ⟨rq, hrq⟩ : ∃ rq, rq = (renL f l).q := ⟨_, rfl⟩
            have HLK2 := hid (show lkL (renL f l) = [.int .i64 ra, .string (tx rp), .int .i64 rb', .string (tx rq)] by rw [hra, hrp', hrb', hrq]; rfl)
            rw [← hra, ← hrp', ← hrb', ← hrq] at HJN
            clear hra hrp' hrb' hrq
            have hLA : ¬ Lg = A := by omega
            have hLB : ¬ Lg = A + 1 := by omega
            go_wp2_with fail
            go_region_held3 (fun W => W.cell? ⟨rb, 2, none⟩ = some (.slice (some ⟨Lg, 0, none⟩) m lc) ∧ W.cell? ⟨A, 0, none⟩ = some (.int .i64 (f la)) ∧ W.cell? ⟨A, 1, none⟩ = some (.string (tx lp)) ∧ W.cell? ⟨A + 1, 0, none⟩ = some (.int .i64 (f lb)) ∧ W.cell? ⟨A + 1, 1, none⟩ = some (.string (tx lq))) (first | (go_keep; done) | exact S9) (first | (go_at_call 98; refine (HJN.out _).mono ?_; rintro en w9 ⟨rfl, hb9⟩; have HBB := hid (show Below wc.heap.size wc w9 from ⟨hb9.os, hb9.tape, hb9.output, hb9.size, hb9.block⟩); have S9 := HS9.out w9 HBB.out; obtain ⟨⟨t0, t1, t2, t3⟩, tf⟩ := HX9.out w9 HBB.out; have v0 := tf (i * 4); have v1 := tf (i * 4 + 1); have v2 := tf (i * 4 + 2); have v3 := tf (i * 4 + 3)))
            go_wp2
            exact ⟨⟨i + 1, by omega, by simp, hid (by have := HN9.out w9 HBB.out; rw [HLK2.out] at this; exact this)⟩, by simp [intOf]; omega⟩
        · have him' : i = m := by omega
          subst him'
          have hlr : (Value.slice lv i lc).ownBlock ≠ some rb := fun q => by have := (HL2.out.lt rb q).1; omega
          have hrw : wr.heap[rb]? = w2.heap[rb]? := hJ.out.on.block rb (by omega) (fun e => hlr e.symm)
          have z2 : wr.cell? ⟨rb, 2, none⟩ = some (.slice lv i lc) := (World.cell?_of_block (by exact hrw)).trans y2
          have hrow : wr.ownsRow B 83 4 (.slice lv i lc) (ls.map (renL f)).length (flatL (ls.map (renL f))) := by
            have h0 := hJ.out.row
            rw [← HMM.out, renT_all] at h0
            rw [List.length_map]
            rw [HMM.out] at h0 ⊢
            exact h0
          have HSL := hid (osortL hrow (by rw [List.length_map, HMM.out]; omega))
          clear hrw hrow
          go_wp2_with fail
          refine HSL.out.mono ?_
          rintro en w5 ⟨rfl, ls', hp2, hs2, hr2, hg2⟩
          have HFN := hid (show OrdQ B w (.slice dv ds.length dc) (.slice lv ls.length lc) ds ls w5 from by
            rw [HNN.out, HMM.out]
            have hD0 := HD.out
            rw [HNN.out] at hD0
            have hL0 := HL.out
            rw [HMM.out] at hL0
            have hsz : w.heap.size ≤ w1.heap.size := HG1.out.size
            have hpb := HPB.out
            have h12 := HI2.out.below
            have hk : ∀ q, q < w1.heap.size → (Value.slice lv i lc).ownBlock ≠ some q → w5.heap[q]? = w1.heap[q]? := fun q h1 h2 => by
              rw [hg2.block q (by have := hJ.out.on.size; omega) (fun e => h2 e.symm), hJ.out.on.block q (by omega) (fun e => h2 e.symm), h12.block q (by omega)]
            refine ⟨ds', ls', HP.out, HST.out, by rw [← HF.out]; exact hp2, hs2.imp (fun h => Int.not_lt.2 (by exact h)), ⟨?_, fun q hq => ?_, fun q hq => ?_⟩, hr2, ?_, ?_, ?_, ?_, fun q h1 h2 h3 => ?_⟩
            · refine own_sameJ HD1.out.row fun q hq => hk q (HD1.out.row.lt q hq).2 (fun e => own_apartJ HL2.out (own_sameJ HD1.out.row fun q' hq' => h12.block q' (by have := (HD1.out.row.lt q' hq').2; omega)) Tryz.lnkNeJ e hq)
            · have hc := HD1.out.cls q hq
              exact own_sameJ hc fun r hr' => hk r (hc.lt r hr').2 (fun e => own_apartJ HL2.out (own_sameJ hc fun q' hq' => h12.block q' (by have := (hc.lt q' hq').2; omega)) Tryz.lnkNeS e hr')
            · have hc := HD1.out.prt q hq
              exact own_sameJ hc fun r hr' => hk r (hc.lt r hr').2 (fun e => own_apartJ HL2.out (own_sameJ hc fun q' hq' => h12.block q' (by have := (hc.lt q' hq').2; omega)) Tryz.lnkNeS e hr')
            · have := hg2.size; have := hJ.out.on.size; have := h12.size; omega
            · exact hg2.os.trans (hJ.out.on.os.trans (h12.os.trans HG1.out.os))
            · exact hg2.tape.trans (hJ.out.on.tape.trans (h12.tape.trans HG1.out.tape))
            · exact hg2.output.trans (hJ.out.on.output.trans (h12.output.trans HG1.out.output))
            · rw [hk q (by omega) h3, HG1.out.block q h1 (fun e => h2 e.symm)])
          clear hp2 hs2 hr2 hg2
          go_wp2
          refine bodyPost_end (v := .tuple #[]) (by simp [results, Tryz.results59, go_sem]) rfl ?_
          exact ⟨rfl, HFN.out⟩
end Go.Proofs.YtebaopiedlioiaaGreatDoor
