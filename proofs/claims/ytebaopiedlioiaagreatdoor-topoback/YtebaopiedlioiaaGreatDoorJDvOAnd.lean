/-
  The lines of a topology read one by one. Plain mathematics but for the order of ends.
  Links whose ends get new numbers: a row of links of which one is put anew.
  Devices and links put in order: slices.SortFunc with order's closure, and with compareLinks.
  Devices in rows of one's own: one more is read.
  Devices in rows of one's own.
-/
import Derived.Test.YtebaopiedlioiaaGreatDoorJInsAnd
import Derived.Test.YtebaopiedlioiaaGreatDoorBMapAnd
import Derived.Test.YtebaopiedlioiaaGreatDoorJDevAnd
import Derived.Test.YtebaopiedlioiaaGreatDoorSLay
import Derived.Test.YtebaopiedlioiaaGreatDoorWRefSAnd
import Derived.Test.YtebaopiedlioiaaGreatDoorJRdAnd
namespace Go.Proofs.YtebaopiedlioiaaGreatDoor
open Go.RowKit

/-- The cells of devices. -/
def flatD (ds : List (To.Dv × Value × Value)) : List Value := ds.flatMap fun q => [.string (tx q.1.name), q.2.1, q.2.2]
theorem flatD_at {ds : List (To.Dv × Value × Value)} : ∀ {i : Nat} {q : To.Dv × Value × Value}, ds[i]? = some q → (flatD ds)[i * 3]? = some (.string (tx q.1.name)) ∧ (flatD ds)[i * 3 + 1]? = some q.2.1 ∧ (flatD ds)[i * 3 + 2]? = some q.2.2 := by
  induction ds with
  | nil => intro i q h; simp at h
  | cons a t ih =>
    intro i q h
    have e : flatD (a :: t) = .string (tx a.1.name) :: a.2.1 :: a.2.2 :: flatD t := rfl
    rw [e]
    cases i with
    | zero => simp only [List.getElem?_cons_zero, Option.some.injEq] at h; subst h; exact ⟨rfl, rfl, rfl⟩
    | succ i =>
      have := ih (i := i) (q := q) (by simpa using h)
      rw [show (i + 1) * 3 = i * 3 + 1 + 1 + 1 by omega]
      exact this
/-- Devices in rows from B on. -/
structure DvO (B : Nat) (w : World) (v : Value) (ds : List (To.Dv × Value × Value)) : Prop where
  row : w.ownsRow B 80 3 v ds.length (flatD ds)
  cls : ∀ q ∈ ds, w.ownsRow B 9 1 q.2.1 q.1.cls.length (svs q.1.cls)
  prt : ∀ q ∈ ds, w.ownsRow B 9 1 q.2.2 q.1.prt.length (svs q.1.prt)
theorem DvO.keep {B : Nat} {w w' : World} {v : Value} {ds : List (To.Dv × Value × Value)} (h : DvO B w v ds) (hk : ∀ k, B ≤ k → k < w.heap.size → w'.heap[k]? = w.heap[k]?) : DvO B w' v ds :=
  ⟨own_sameJ h.row fun k q => hk k (h.row.lt k q).1 (h.row.lt k q).2, fun q hq => own_sameJ (h.cls q hq) fun k r => hk k ((h.cls q hq).lt k r).1 ((h.cls q hq).lt k r).2, fun q hq => own_sameJ (h.prt q hq) fun k r => hk k ((h.prt q hq).lt k r).1 ((h.prt q hq).lt k r).2⟩
theorem DvO.gr2 {B rb mb : Nat} {w w' : World} {v : Value} {ds : List (To.Dv × Value × Value)} (h : DvO B w v ds) (hg : Gr2 w w' rb mb) (hr : rb < B) (hm : mb < B) : DvO B w' v ds :=
  h.keep fun k h1 h2 => hg.block k h2 (by omega) (by omega)
theorem own_lenJ {w : World} {B : Nat} {e : TypeId} {v : Value} {n : Nat} {xs : List Value} (h : w.ownsRow B e 1 v n xs) : n ≤ maxLen := by
  obtain ⟨-, ⟨-, rfl⟩ | ⟨g, cap, cur, -, -, -, h1, h2, -⟩⟩ := h
  · exact Nat.zero_le _
  · omega
theorem DvO.lies {B : Nat} {w : World} {v : Value} {ds : List (To.Dv × Value × Value)} (h : DvO B w v ds) : DvL w v ds := by
  refine ⟨?_, fun q hq => ⟨own_txs (h.cls q hq), own_lenJ (h.cls q hq)⟩, fun q hq => ⟨own_txs (h.prt q hq), own_lenJ (h.prt q hq)⟩⟩
  obtain ⟨-, ⟨hv, h0⟩ | ⟨g, cap, cur, hv, -, hb, h1, h2, h3, h4⟩⟩ := h.row
  · exact ⟨none, 0, by rw [hv, h0], Or.inl (List.eq_nil_of_length_eq_zero h0)⟩
  · refine ⟨some ⟨g, 0, none⟩, cap, hv, Or.inr ⟨g, 0, rfl, lt_of_block hb, fun i q hq => ?_⟩⟩
    have hi := (List.getElem?_eq_some_iff.1 hq).1
    obtain ⟨r1, r2, r3⟩ := flatD_at hq
    rw [← h4] at r1 r2 r3
    have hc : ∀ (k : Nat) (u : Value), (cur.toList.take (ds.length * 3))[k]? = some u → w.cell? ⟨g, k, none⟩ = some u := fun k u hu => by
      rw [cell_at hb, ← Array.getElem?_toList]
      have hlt := (List.getElem?_eq_some_iff.1 hu).1
      rw [List.length_take] at hlt
      rw [List.getElem?_take_of_lt (by omega)] at hu
      exact hu
    simp only [Nat.zero_add]
    exact ⟨hc _ _ r1, hc _ _ r2, hc _ _ r3⟩
/-- hasPort of devices in rows from B on, over all changes of two blocks below B. -/
theorem ohasPort_gr2 {B rb mb : Nat} {w : World} {v : Value} {ds : List (To.Dv × Value × Value)} (h : DvO B w v ds) (hr : rb < B) (hm : mb < B) (W : World) (p : Nat) (m : List UInt8) (hg : Gr2 w W rb mb) :
    Calls Tryz.prog 77 #[v, .agg #[.int .i64 p, .string (tx m)]] W fun en w' => en = .returned (.bool (hasP (ds.map (·.1)) p m)) ∧ Below W.heap.size W w' := ohasPort_any (h.gr2 hg hr hm).lies
end Go.Proofs.YtebaopiedlioiaaGreatDoor
namespace Go.Proofs.YtebaopiedlioiaaGreatDoor
open Go.RowKit
open Wo (Wd)

theorem own_blockJ {w : World} {B : Nat} {e : TypeId} {s : Nat} {v : Value} {n : Nat} {xs : List Value} (h : w.ownsRow B e s v n xs) {k : Nat} (hk : v.ownBlock = some k) : ∃ cur, w.heap[k]? = some (.cells cur e (0, 0)) := by
  obtain ⟨-, ⟨rfl, -⟩ | ⟨g, cap, cur, rfl, -, hb, -⟩⟩ := h
  · simp [Value.ownBlock] at hk
  · simp only [Value.ownBlock, Option.some.injEq] at hk
    subst hk
    exact ⟨cur, hb⟩
/-- Rows of two kinds have two blocks. -/
theorem own_apartJ {w : World} {B B' : Nat} {e e' : TypeId} {s s' : Nat} {v v' : Value} {n n' : Nat} {xs xs' : List Value} (h : w.ownsRow B e s v n xs) (h' : w.ownsRow B' e' s' v' n' xs') (he : e ≠ e') {k : Nat} (hk : v.ownBlock = some k) : v'.ownBlock ≠ some k := by
  intro q
  obtain ⟨c, h1⟩ := own_blockJ h hk
  obtain ⟨c', h2⟩ := own_blockJ h' q
  rw [h1] at h2
  injection h2 with h2
  injection h2 with _ h2 _
  exact he h2
theorem own_baseJ {w : World} {B B' : Nat} {e : TypeId} {s : Nat} {v : Value} {n : Nat} {xs : List Value} (h : w.ownsRow B e s v n xs) (hB : B' ≤ B) : w.ownsRow B' e s v n xs := by
  obtain ⟨h0, h | ⟨g, cap, cur, h1, h2, h3⟩⟩ := h
  · exact ⟨h0, Or.inl h⟩
  · exact ⟨h0, Or.inr ⟨g, cap, cur, h1, Nat.le_trans hB h2, h3⟩⟩
theorem flatD_snoc (ds : List (To.Dv × Value × Value)) (q : To.Dv × Value × Value) : flatD (ds ++ [q]) = flatD ds ++ [.string (tx q.1.name), q.2.1, q.2.2] := by
  unfold flatD
  rw [List.flatMap_append]
  rfl
theorem Tryz.devNeJ : (9 : TypeId) ≠ 80 := by decide
/-- One more device, as device leaves it. -/
theorem DvO.snoc {B rb nb : Nat} {w w' : World} {v v' vc vp : Value} {ds : List (To.Dv × Value × Value)} {d : To.Dv} (h : DvO B w v ds) (hr : rb < B) (hn : nb < B) (hB : B ≤ w.heap.size) (h1 : w'.ownsRow B 80 3 v' (ds.length + 1) (flatD ds ++ [.string (tx d.name), vc, vp])) (h2 : w'.ownsRow w.heap.size 9 1 vc d.cls.length (svs d.cls)) (h3 : w'.ownsRow w.heap.size 9 1 vp d.prt.length (svs d.prt)) (hk : ∀ k, k < w.heap.size → k ≠ rb → k ≠ nb → v.ownBlock ≠ some k → w'.heap[k]? = w.heap[k]?) : DvO B w' v' (ds ++ [(d, vc, vp)]) := by
  have ho : ∀ (u : Value) (n : Nat) (xs : List Value), w.ownsRow B 9 1 u n xs → w'.ownsRow B 9 1 u n xs := fun u n xs hu => own_sameJ hu fun k q => hk k (hu.lt k q).2 (by have := (hu.lt k q).1; omega) (by have := (hu.lt k q).1; omega) (own_apartJ hu h.row Tryz.devNeJ q)
  refine ⟨by rw [flatD_snoc, List.length_append, List.length_singleton]; exact h1, fun q hq => ?_, fun q hq => ?_⟩
  · rcases List.mem_append.1 hq with hq | hq
    · exact ho _ _ _ (h.cls q hq)
    · rw [List.mem_singleton.1 hq]; exact own_baseJ h2 hB
  · rcases List.mem_append.1 hq with hq | hq
    · exact ho _ _ _ (h.prt q hq)
    · rw [List.mem_singleton.1 hq]; exact own_baseJ h3 hB
theorem DvO.nil (B : Nat) (w : World) : DvO B w (.slice none 0 0) [] := ⟨World.ownsRow_nil _ _ _ _, fun q hq => by simp at hq, fun q hq => by simp at hq⟩
end Go.Proofs.YtebaopiedlioiaaGreatDoor
namespace Go.Proofs.YtebaopiedlioiaaGreatDoor
open Go.RowKit
open Go.Sort (grow PermIn SortedIn SWO)

theorem permIn_list {α : Type} [Inhabited α] {d d' : Array α} (hP : PermIn 0 d.size d d') : d'.toList.Perm d.toList := by
  obtain ⟨hsz, _, hperm⟩ := hP
  have e1 : d'.extract 0 d.size = d' := by rw [← hsz]; exact Array.extract_size
  rwa [e1, Array.extract_size] at hperm
theorem sortedIn_list {α : Type} [Inhabited α] {lt : α → α → Bool} {l : List α} {n : Nat} (hn : n = l.length) (h : SortedIn lt 0 n l.toArray) : l.Pairwise fun x y => lt y x = false := by
  subst hn
  rw [List.pairwise_iff_getElem]
  intro i j hi hj hij
  have := h i j (Nat.zero_le _) hij hj
  simpa [hi, hj] using this
theorem ocL_neg (x y : List UInt8) : ocL x y < 0 ↔ x < y := by
  unfold ocL
  by_cases h : x < y
  · rw [if_pos h]; exact ⟨fun _ => h, fun _ => by decide⟩
  · rw [if_neg h]
    by_cases h2 : y < x
    · rw [if_pos h2]; exact ⟨fun q => absurd q (by decide), fun q => absurd q h⟩
    · rw [if_neg h2]; exact ⟨fun q => absurd q (by decide), fun q => absurd q h⟩
theorem ocL_zero {x y : List UInt8} (h : ocL x y = 0) : x = y := by
  unfold ocL at h
  by_cases h1 : x < y
  · rw [if_pos h1] at h; cases h
  · rw [if_neg h1] at h
    by_cases h2 : y < x
    · rw [if_pos h2] at h; cases h
    · rcases Ru.lt_or h1 with q | q
      · exact absurd q h2
      · exact q
theorem ocE_neg (p : Int) (m : List UInt8) (q : Int) (n : List UInt8) : ocE p m q n < 0 ↔ p < q ∨ (p = q ∧ m < n) := by
  unfold ocE ocI
  by_cases h : p < q
  · rw [if_pos h, if_neg (by decide)]; exact ⟨fun _ => Or.inl h, fun _ => by decide⟩
  · rw [if_neg h]
    by_cases h2 : q < p
    · rw [if_pos h2, if_neg (by decide)]
      exact ⟨fun r => absurd r (by decide), fun r => by omega⟩
    · rw [if_neg h2, if_pos rfl, ocL_neg]
      exact ⟨fun r => Or.inr ⟨by omega, r⟩, fun r => by rcases r with r | r; exact absurd r h; exact r.2⟩
theorem lt_transB {x y z : List UInt8} (h : x < y) (k : y < z) : x < z := List.lt_trans h k
theorem lt_notB {x y z : List UInt8} (h : ¬ x < y) (k : ¬ y < z) : ¬ x < z := by
  intro q
  rcases Ru.lt_or h with r | rfl
  · exact k (lt_transB r q)
  · exact k q

set_option maxRecDepth 20000 in
set_option maxHeartbeats 1000000 in
/-- order's closure. -/
theorem oorder1 (m m' : List UInt8) (a b c d : Value) (w : World) : Calls Tryz.prog 96 #[.agg #[.string (tx m), a, b], .agg #[.string (tx m'), c, d]] w fun e w' => e = .returned (.int .i64 (ocL m m')) ∧ ∃ q os, w' = grow (w.drewN q) os := by
  have HS := hid (fun w' => ocmpStr m m' w')
  have HG := hid (fun (x y : Obj) => (show ∃ q os, (w.alloc x).alloc y = grow (w.drewN q) os from grow_of_below (((Below.refl _ _).alloc (Nat.le_refl _) _).alloc (by simp) _) (Nat.le_refl _)))
  go_enter Tryz.func96, Tryz.ntmps96
  go_wp2_with (go_at_call 97; refine (HS.out _).mono ?_; rintro en w1 ⟨rfl, rfl⟩)
  go_ret
  exact ⟨rfl, HG.out _ _⟩
theorem swoD {ds : List (To.Dv × Value × Value)} : SWO (ltOf fun x y : {q // q ∈ ds} => ocL x.1.1.name y.1.1.name) where
  irrefl x := by unfold ltOf; rw [decide_eq_false_iff_not, ocL_neg]; exact List.lt_irrefl _
  trans x y z h1 h2 := by
    unfold ltOf at *
    rw [decide_eq_true_iff, ocL_neg] at *
    exact lt_transB h1 h2
  ntrans x y z h1 h2 := by
    unfold ltOf at *
    rw [decide_eq_false_iff_not, ocL_neg] at *
    exact lt_notB h1 h2

set_option maxHeartbeats 1000000 in
/-- Devices put in order. -/
theorem osortD {w : World} {B : Nat} {v : Value} {ds : List (To.Dv × Value × Value)} (h : DvO B w v ds) (hl : ds.length ≤ 1000) :
    Calls Tryz.prog 95 #[v, .func (.func 96) #[] #[]] w fun e w' => e = .returned (.tuple #[]) ∧ ∃ ds', ds'.Perm ds ∧ ds'.Pairwise (fun a b => ¬ b.1.name < a.1.name) ∧ DvO B w' v ds' ∧ w.grownBy w' v.ownBlock := by
  obtain ⟨av, vc, hv⟩ := own_formJ h.row
  by_cases h0 : ds = []
  · subst h0
    subst hv
    refine (AnyF.slices_SortFunc_none Tryz.laysSortD av vc _ w).mono ?_
    rintro e w' ⟨rfl, rfl⟩
    exact ⟨rfl, [], List.Perm.refl _, List.Pairwise.nil, h, grown_refl _ _⟩
  · obtain ⟨q0, hq0⟩ := List.exists_mem_of_ne_nil ds h0
    haveI : Inhabited {q // q ∈ ds} := ⟨⟨q0, hq0⟩⟩
    obtain ⟨enc, henc⟩ : ∃ enc : {q // q ∈ ds} → List Value, enc = fun q => [.string (tx q.1.1.name), q.1.2.1, q.1.2.2] := ⟨_, rfl⟩
    have hk : ∀ x, (enc x).length = 3 := fun x => by rw [henc]; rfl
    have hfl : ∀ l : List {q // q ∈ ds}, l.flatMap enc = flatD (l.map (·.1)) := fun l => by rw [henc]; unfold flatD; rw [List.flatMap_map]
    obtain ⟨g, hg⟩ : ∃ g, v = .slice (some ⟨g, 0, none⟩) ds.length vc := by
      obtain ⟨-, ⟨h1, h2⟩ | ⟨g, cap, cur, h1, -⟩⟩ := h.row
      · exact absurd (List.eq_nil_of_length_eq_zero h2) h0
      · refine ⟨g, ?_⟩
        rw [hv] at h1 ⊢
        injection h1 with h1 h2 h3
        rw [h1]
    clear hv
    subst hg
    have hrow := h.row
    rw [← List.attach_map_subtype_val ds, ← hfl, List.attach_map_subtype_val ds] at hrow
    have hb : g < w.heap.size := (hrow.lt g rfl).2
    have hcon := AnyQ.slices_SortFunc Tryz.laysSortD 3 Tryz.isAgg80 Tryz.sizeOf80 enc hk (fun x u hu => by
      rw [henc] at hu
      obtain ⟨a1, c1, e1⟩ := own_formJ (h.cls x.1 x.2)
      obtain ⟨a2, c2, e2⟩ := own_formJ (h.prt x.1 x.2)
      simp only [List.mem_cons, List.not_mem_nil, or_false] at hu
      rcases hu with rfl | rfl | rfl
      · rfl
      · rw [e1]; rfl
      · rw [e2]; rfl) (fun x y => ocL x.1.1.name y.1.1.name) swoD 96 #[] g 0 vc ds.attach.toArray w (enters_of Tryz.func96 (by kernel_rfl) rfl) (fun _ _ _ _ x y => by rw [henc]; exact oorder1 _ _ _ _ _ _ _) (own_holdsK hk (by decide) hrow) hb (by simp; omega)
    rw [show ds.attach.toArray.size = ds.length by simp] at hcon
    refine hcon.mono ?_
    rintro e w' ⟨rfl, ⟨l'⟩, m, os, hp, hs, rfl⟩
    have hpl := permIn_list (by rw [show ds.attach.toArray.size = ds.length by simp]; exact hp)
    simp only at hpl
    have hlen : l'.length = ds.length := by have := hpl.length_eq; simpa using this
    obtain ⟨o1, o2⟩ := sortK_own hk (by decide) hrow l' hlen m os
    rw [hfl] at o1
    have hsub : ∀ q ∈ l'.map (·.1), q ∈ ds := fun q hq => by
      obtain ⟨x, -, rfl⟩ := List.mem_map.1 hq
      exact x.2
    refine ⟨rfl, l'.map (·.1), ?_, ?_, ⟨by rw [List.length_map, hlen]; exact o1, fun q hq => own_sameJ (h.cls q (hsub q hq)) fun k r => o2.block k ((h.cls q (hsub q hq)).lt k r).2 (fun e => own_apartJ (h.cls q (hsub q hq)) h.row Tryz.devNeJ r (by rw [e]; rfl)), fun q hq => own_sameJ (h.prt q (hsub q hq)) fun k r => o2.block k ((h.prt q (hsub q hq)).lt k r).2 (fun e => own_apartJ (h.prt q (hsub q hq)) h.row Tryz.devNeJ r (by rw [e]; rfl))⟩, o2⟩
    · have := hpl.map (fun x => x.1)
      rwa [List.attach_map_subtype_val] at this
    · have := sortedIn_list hlen.symm hs
      rw [List.pairwise_map]
      refine this.imp fun {a b} r => ?_
      unfold ltOf at r
      rw [decide_eq_false_iff_not, ocL_neg] at r
      exact r
instance : Inhabited To.Lk := ⟨⟨0, [], 0, []⟩⟩
/-- A link's cells. -/
def lkL (l : To.Lk) : List Value := [.int .i64 l.a, .string (tx l.p), .int .i64 l.b, .string (tx l.q)]
def flatL (ls : List To.Lk) : List Value := ls.flatMap lkL
theorem swoL : SWO (ltOf fun x y : To.Lk => ocE x.a x.p y.a y.p) where
  irrefl x := by unfold ltOf; rw [decide_eq_false_iff_not, ocE_neg]; rintro (h | h); omega; exact List.lt_irrefl _ h.2
  trans x y z h1 h2 := by
    unfold ltOf at *
    rw [decide_eq_true_iff, ocE_neg] at *
    rcases h1 with h1 | h1 <;> rcases h2 with h2 | h2
    · exact Or.inl (by omega)
    · exact Or.inl (by omega)
    · exact Or.inl (by omega)
    · exact Or.inr ⟨by omega, lt_transB h1.2 h2.2⟩
  ntrans x y z h1 h2 := by
    unfold ltOf at *
    rw [decide_eq_false_iff_not, ocE_neg] at *
    rintro (h | h)
    · exact h1 (Or.inl (by have : ¬ (y.a : Int) < z.a := fun q => h2 (Or.inl q); omega))
    · have a1 : ¬ (x.a : Int) < y.a := fun q => h1 (Or.inl q)
      have a2 : ¬ (y.a : Int) < z.a := fun q => h2 (Or.inl q)
      exact lt_notB (fun q => h1 (Or.inr ⟨by omega, q⟩)) (fun q => h2 (Or.inr ⟨by omega, q⟩)) h.2

set_option maxHeartbeats 1000000 in
/-- Links put in order. -/
theorem osortL {w : World} {B : Nat} {v : Value} {ls : List To.Lk} (h : w.ownsRow B 83 4 v ls.length (flatL ls)) (hl : ls.length ≤ 1000000) :
    Calls Tryz.prog 99 #[v, .func (.func 76) #[] #[]] w fun e w' => e = .returned (.tuple #[]) ∧ ∃ ls', ls'.Perm ls ∧ ls'.Pairwise (fun a b => ¬ ocE b.a b.p a.a a.p < 0) ∧ w'.ownsRow B 83 4 v ls'.length (flatL ls') ∧ w.grownBy w' v.ownBlock := by
  obtain ⟨av, vc, hv⟩ := own_formJ h
  by_cases h0 : ls = []
  · subst h0
    subst hv
    refine (AnyF.slices_SortFunc_none Tryz.laysSortL av vc _ w).mono ?_
    rintro e w' ⟨rfl, rfl⟩
    exact ⟨rfl, [], List.Perm.refl _, List.Pairwise.nil, h, grown_refl _ _⟩
  · have hk : ∀ x, (lkL x).length = 4 := fun x => rfl
    obtain ⟨g, hg⟩ : ∃ g, v = .slice (some ⟨g, 0, none⟩) ls.length vc := by
      obtain ⟨-, ⟨h1, h2⟩ | ⟨g, cap, cur, h1, -⟩⟩ := h
      · exact absurd (List.eq_nil_of_length_eq_zero h2) h0
      · refine ⟨g, ?_⟩
        rw [hv] at h1 ⊢
        injection h1 with h1 h2 h3
        rw [h1]
    clear hv
    subst hg
    have hb : g < w.heap.size := (h.lt g rfl).2
    have hcon := AnyQ.slices_SortFunc Tryz.laysSortL 4 Tryz.isAgg83 Tryz.sizeOf83 lkL hk (fun x u hu => by
      unfold lkL at hu
      simp only [List.mem_cons, List.not_mem_nil, or_false] at hu
      rcases hu with rfl | rfl | rfl | rfl <;> rfl) (fun x y => ocE x.a x.p y.a y.p) swoL 76 #[] g 0 vc ls.toArray w (enters_of Tryz.func76 (by kernel_rfl) rfl) (fun _ _ _ _ x y => ocompareLinks_gr.mono fun _ _ q => ⟨q.1, grow_of_below q.2.1 q.2.2⟩) (own_holdsK hk (by decide) h) hb (by simp; omega)
    rw [show ls.toArray.size = ls.length from rfl] at hcon
    refine hcon.mono ?_
    rintro e w' ⟨rfl, ⟨l'⟩, m, os, hp, hs, rfl⟩
    have hpl : l'.Perm ls := permIn_list (d := ls.toArray) (d' := ⟨l'⟩) hp
    have hlen : l'.length = ls.length := hpl.length_eq
    obtain ⟨o1, o2⟩ := sortK_own hk (by decide) h l' hlen m os
    refine ⟨rfl, l', hpl, ?_, by rw [hlen]; exact o1, o2⟩
    have := sortedIn_list hlen.symm hs
    refine this.imp fun {a b} r => ?_
    unfold ltOf at r
    rwa [decide_eq_false_iff_not] at r
end Go.Proofs.YtebaopiedlioiaaGreatDoor
namespace Go.Proofs.YtebaopiedlioiaaGreatDoor
open Go.RowKit Go

theorem flatL_app (a b : List To.Lk) : flatL (a ++ b) = flatL a ++ flatL b := List.flatMap_append
theorem flatL_len (l : List To.Lk) : (flatL l).length = l.length * 4 := flat_len (enc := lkL) (fun _ => rfl) l
theorem flatL_one (r : To.Lk) : flatL [r] = lkL r := by unfold flatL; simp
set_option maxHeartbeats 400000 in
/-- A link of a row was put anew. -/
theorem own_putL {w : World} {B g m lc k : Nat} {rows : List To.Lk} (r : To.Lk) (h : w.ownsRow B 83 4 (.slice (some ⟨g, 0, none⟩) m lc) m (flatL rows)) (hm : rows.length = m) (hk : k < m) : (w.setCells g (k * 4) (lkL r)).ownsRow B 83 4 (.slice (some ⟨g, 0, none⟩) m lc) m (flatL (rows.set k r)) ∧ w.grownBy (w.setCells g (k * 4) (lkL r)) (some g) := by
  obtain ⟨h1, ⟨h2, -⟩ | ⟨g', cap', cur, h2, h3, h4, h5, h6, h7, h8⟩⟩ := h
  · simp at h2
  · injection h2 with h2 _ h9
    injection h2 with h2
    injection h2 with h2
    subst h2 h9
    have hcap : m * 4 ≤ lc * 4 := Nat.mul_le_mul_right 4 h5
    obtain ⟨cur', b1, b2⟩ := block_sets (lkL r) (k * 4) w cur h4 (by show k * 4 + 4 ≤ cur.size; omega)
    obtain ⟨k1, k2, k3, k4, k5⟩ := sets_kept (b := g) (lkL r) (k * 4) w
    refine ⟨⟨by rw [flatL_len, List.length_set, hm], Or.inr ⟨g, lc, cur', rfl, h3, b1, h5, h6, ?_, ?_⟩⟩, k1, k2, k3, by omega, fun i _ hi => k5 i (fun e => hi (by rw [e]))⟩
    · have h9 := congrArg List.length b2
      simp only [Array.length_toList, List.length_append, List.length_take, List.length_drop, show (lkL r).length = 4 from rfl] at h9
      omega
    · obtain ⟨rest, hrest⟩ : ∃ rest, cur.toList = flatL rows ++ rest := ⟨cur.toList.drop (m * 4), by rw [← h8, List.take_append_drop]⟩
      have hkr : k < rows.length := by omega
      have e1 : flatL rows = flatL (rows.take k) ++ lkL rows[k] ++ flatL (rows.drop (k + 1)) := by
        rw [← flatL_one, ← flatL_app, ← flatL_app]
        congr 1
        rw [List.append_assoc, List.singleton_append, List.getElem_cons_drop, List.take_append_drop]
      have e2 : flatL (rows.set k r) = flatL (rows.take k) ++ lkL r ++ flatL (rows.drop (k + 1)) := by
        rw [← flatL_one, ← flatL_app, ← flatL_app, List.set_eq_take_append_cons_drop, if_pos hkr]
        simp
      have l1 : (flatL (rows.take k)).length = k * 4 := by rw [flatL_len, List.length_take, Nat.min_eq_left (by omega)]
      have t1 : cur.toList.take (k * 4) = flatL (rows.take k) := by
        rw [hrest, e1, List.append_assoc, List.append_assoc, ← l1, List.take_left]
      have t2 : cur.toList.drop (k * 4 + (lkL r).length) = flatL (rows.drop (k + 1)) ++ rest := by
        rw [hrest, e1, List.append_assoc]
        have l2 : (flatL (rows.take k) ++ lkL rows[k]).length = k * 4 + (lkL r).length := by rw [List.length_append, l1, show (lkL rows[k]).length = 4 from rfl, show (lkL r).length = 4 from rfl]
        rw [← l2, List.drop_left]
      rw [b2, t1, t2, ← List.append_assoc, ← e2]
      have l3 : (flatL (rows.set k r)).length = m * 4 := by rw [flatL_len, List.length_set, hm]
      rw [← l3, List.take_left]
/-- A link whose ends have new numbers. -/
def renL (f : Nat → Nat) (l : To.Lk) : To.Lk := if ocE (f l.b) l.q (f l.a) l.p < 0 then ⟨f l.b, l.q, f l.a, l.p⟩ else ⟨f l.a, l.p, f l.b, l.q⟩
theorem renL_val (f : Nat → Nat) (l : To.Lk) : (if ocE (f l.b) l.q (f l.a) l.p < 0 then lkv (f l.b) l.q (f l.a) l.p else lkv (f l.a) l.p (f l.b) l.q) = lkv (renL f l).a (renL f l).p (renL f l).b (renL f l).q := by
  unfold renL
  by_cases h : ocE (f l.b) l.q (f l.a) l.p < 0
  · rw [if_pos h, if_pos h]
  · rw [if_neg h, if_neg h]
/-- Links, of which the first have new numbers. -/
def renT (f : Nat → Nat) (ls : List To.Lk) (k : Nat) : List To.Lk := (ls.take k).map (renL f) ++ ls.drop k
theorem renT_len (f : Nat → Nat) (ls : List To.Lk) (k : Nat) : (renT f ls k).length = ls.length := by
  unfold renT
  rw [List.length_append, List.length_map, List.length_take, List.length_drop]
  omega
theorem renT_at {f : Nat → Nat} {ls : List To.Lk} {k : Nat} {l : To.Lk} (h : ls[k]? = some l) : (renT f ls k)[k]? = some l := by
  have hk := (List.getElem?_eq_some_iff.1 h).1
  have hl : ((ls.take k).map (renL f)).length = k := by rw [List.length_map, List.length_take]; omega
  unfold renT
  rw [List.getElem?_append_right (by omega), hl, Nat.sub_self, List.getElem?_drop]
  exact h
theorem renT_next {f : Nat → Nat} {ls : List To.Lk} {k : Nat} {l : To.Lk} (h : ls[k]? = some l) : (renT f ls k).set k (renL f l) = renT f ls (k + 1) := by
  have hk := (List.getElem?_eq_some_iff.1 h).1
  have hl : ((ls.take k).map (renL f)).length = k := by rw [List.length_map, List.length_take]; omega
  have hg : ls[k] = l := by rw [List.getElem?_eq_getElem hk] at h; exact Option.some.inj h
  unfold renT
  rw [List.set_append_right _ _ (by omega), hl, Nat.sub_self, List.take_succ_eq_append_getElem hk, List.map_append, List.drop_eq_getElem_cons hk, List.set_cons_zero, hg]
  simp
theorem renT_all (f : Nat → Nat) (ls : List To.Lk) : renT f ls ls.length = ls.map (renL f) := by unfold renT; simp
/-- Links in memory, of which the first have new numbers. -/
structure LkI (w2 : World) (B : Nat) (v : Value) (f : Nat → Nat) (ls : List To.Lk) (k : Nat) (wr : World) : Prop where
  row : wr.ownsRow B 83 4 v ls.length (flatL (renT f ls k))
  on : w2.grownBy wr v.ownBlock
/-- The cells of a link of a row. -/
theorem own_atL {w : World} {B g m lc k : Nat} {rows : List To.Lk} {l : To.Lk} (h : w.ownsRow B 83 4 (.slice (some ⟨g, 0, none⟩) m lc) m (flatL rows)) (hl : rows[k]? = some l) (hm : rows.length = m) : (w.cell? ⟨g, k * 4, none⟩ = some (.int .i64 l.a) ∧ w.cell? ⟨g, k * 4 + 1, none⟩ = some (.string (tx l.p)) ∧ w.cell? ⟨g, k * 4 + 2, none⟩ = some (.int .i64 l.b) ∧ w.cell? ⟨g, k * 4 + 3, none⟩ = some (.string (tx l.q))) ∧ ∀ i, w.frozen? ⟨g, i, none⟩ = false := by
  obtain ⟨h1, ⟨h2, -⟩ | ⟨g', cap', cur, h2, h3, h4, h5, h6, h7, h8⟩⟩ := h
  · simp at h2
  · injection h2 with h2 _ h9
    injection h2 with h2
    injection h2 with h2
    subst h2 h9
    have hk := (List.getElem?_eq_some_iff.1 hl).1
    have hc : ∀ c u, c < 4 → (lkL l)[c]? = some u → w.cell? ⟨g, k * 4 + c, none⟩ = some u := fun c u hc hu => by
      rw [cell_at h4, ← Array.getElem?_toList]
      have := flat_at (enc := lkL) (k := 4) (fun _ => rfl) rows k c hc
      rw [hl, Option.bind_some, hu] at this
      have q : (cur.toList.take (m * 4))[k * 4 + c]? = (flatL rows)[k * 4 + c]? := by rw [h8]
      rw [List.getElem?_take_of_lt (by omega)] at q
      rw [q]
      exact this
    exact ⟨⟨hc 0 _ (by decide) rfl, hc 1 _ (by decide) rfl, hc 2 _ (by decide) rfl, hc 3 _ (by decide) rfl⟩, fun i => free_of h4⟩
end Go.Proofs.YtebaopiedlioiaaGreatDoor
namespace Go.Proofs.YtebaopiedlioiaaGreatDoor
open Wo (Wd)

/-- What was read: the width, the devices, the links by the devices' numbers, the ends that are taken. -/
structure TSt where
  wid : Nat
  ds : List To.Dv
  ls : List To.Lk
  ks : List (Nat × List UInt8)
def TSt.nms (s : TSt) : List (List UInt8) := s.ds.map (·.name)
/-- A link of two ends, the lesser one ahead. -/
def jndL (a b : Nat × List UInt8) : To.Lk := if ocE b.1 b.2 a.1 a.2 < 0 then ⟨b.1, b.2, a.1, a.2⟩ else ⟨a.1, a.2, b.1, b.2⟩
theorem jndL_cells (a b : Nat × List UInt8) : lkC a b = lkL (jndL a b) := by
  unfold lkC jndL lkL
  by_cases h : ocE b.1 b.2 a.1 a.2 < 0
  · rw [if_pos h, if_pos h]
  · rw [if_neg h, if_neg h]
/-- One line. -/
def linT (i : Nat) (s : TSt) (x : Wd) (e : Wd) (t : List Wd) : Except Ru.Ft TSt :=
  if x.1 = To.widthT then
    (if i = 0 then (match To.wid e t with | .error f => .error f | .ok n => .ok { s with wid := n }) else .error (Ru.ft x 110))
  else if i = 0 then .error (Ru.ft x 110)
  else if x.1 = To.deviceT then (match To.dev x e s.nms t with | .error f => .error f | .ok d => .ok { s with ds := s.ds ++ [d] })
  else if x.1 = To.linkT then (match lnkJ (fun p m => hasP s.ds p m) s.nms s.ks x e s.ls.length t with | .error f => .error f | .ok (a, b) => .ok { s with ls := s.ls ++ [jndL a b], ks := s.ks ++ [a] ++ [b] })
  else .error (Ru.ft x 110)
/-- All lines. -/
def rdsT : Nat → TSt → List (List Wd) → Except Ru.Ft TSt
  | _, s, [] => .ok s
  | _, s, [] :: _ => .ok s
  | i, s, (x :: t) :: r => match linT i s x (Ru.endW (x :: t)) t with
    | .error f => .error f
    | .ok s' => rdsT (i + 1) s' r
def TSt.nil : TSt := ⟨0, [], [], []⟩
def readT (ls : List (List Wd)) : Except Ru.Ft TSt :=
  if ls = [] then .error (0, 0, 110) else match rdsT 0 TSt.nil ls with
    | .error f => .error f
    | .ok s => if s.ds = [] then .error (0, 0, 113) else .ok s
theorem rdsT_cons (i : Nat) (s : TSt) (x : Wd) (t : List Wd) (r : List (List Wd)) : rdsT i s ((x :: t) :: r) = match linT i s x (Ru.endW (x :: t)) t with | .error f => .error f | .ok s' => rdsT (i + 1) s' r := rfl
/-- What holds of all that was read. -/
structure TOk (s : TSt) : Prop where
  dl : s.ds.length ≤ 256
  ll : s.ls.length ≤ 4096
  kl : s.ks.length ≤ 2 * s.ls.length
  nd : s.nms.Nodup
  at_ : ∀ l ∈ s.ls, l.a < s.ds.length ∧ l.b < s.ds.length
  sm : ∀ d ∈ s.ds, d.name.length ≤ 1048576
  wd : s.wid ≤ 128
theorem TOk.nil : TOk TSt.nil := ⟨by decide, by decide, by decide, List.nodup_nil, (fun l h => absurd h (List.not_mem_nil)), (fun d h => absurd h (List.not_mem_nil)), by decide⟩
theorem dev_ok {x e : Wd} {ns : List (List UInt8)} {l : List Wd} {d : To.Dv} (h : To.dev x e ns l = .ok d) (hs : (Ru.nx e l).1.length ≤ 1048576) : d.name ∉ ns ∧ d.name.length ≤ 1048576 ∧ ns.length < 256 := by
  unfold To.dev at h
  split at h
  · cases h
  · split at h
    · cases h
    · rename_i h1 h2
      unfold To.devA at h
      split at h
      · cases h
      · unfold To.devB at h
        split at h
        · cases h
        · split at h
          · cases h
          · split at h
            · cases h
            · rename_i h3
              injection h with h
              subst h
              exact ⟨h2, hs, by omega⟩
theorem wid_ok {e : Wd} {l : List Wd} {n : Nat} (h : To.wid e l = .ok n) : n ≤ 128 := by
  unfold To.wid at h
  split at h
  · cases h
  · split at h
    · cases h
    · split at h
      · cases h
      · injection h with h
        subst h
        rename_i h1 _
        have := Decidable.not_not.1 h1
        exact this.2
theorem endJ_lt {hp : Nat → List UInt8 → Bool} {ns : List (List UInt8)} {ks : List (Nat × List UInt8)} {e : Wd} {l : List Wd} {p : Nat} {m : List UInt8} (h : endJ hp ns ks e l = .ok (p, m)) : p < ns.length := by
  simp only [endJ] at h
  by_cases h1 : Wo.nameB (Ru.nx e l).1 = false
  · rw [if_pos h1] at h; cases h
  rw [if_neg h1] at h
  by_cases h2 : (Ru.nx e l).1 ∉ ns
  · rw [if_pos h2] at h; cases h
  rw [if_neg h2] at h
  by_cases h3 : Wo.nameB (Ru.nx e l.tail).1 = false
  · rw [if_pos h3] at h; cases h
  rw [if_neg h3] at h
  by_cases h4 : (ns.idxOf (Ru.nx e l).1, (Ru.nx e l.tail).1) ∈ ks
  · rw [if_pos h4] at h; cases h
  rw [if_neg h4] at h
  by_cases h5 : hp (ns.idxOf (Ru.nx e l).1) (Ru.nx e l.tail).1 = false
  · rw [if_pos h5] at h; cases h
  rw [if_neg h5] at h
  injection h with h
  injection h with h _
  rw [← h]
  exact List.idxOf_lt_length_iff.2 (Decidable.not_not.1 h2)
theorem lnkJ_ok {hp : Nat → List UInt8 → Bool} {ns : List (List UInt8)} {ks : List (Nat × List UInt8)} {x e : Wd} {n : Nat} {l : List Wd} {a b : Nat × List UInt8} (h : lnkJ hp ns ks x e n l = .ok (a, b)) : a.1 < ns.length ∧ b.1 < ns.length ∧ n < 4096 := by
  unfold lnkJ at h
  cases h1 : endJ hp ns ks e l with
  | error f => rw [h1] at h; cases h
  | ok a' =>
    rw [h1, lnkA_ok] at h
    split at h
    · cases h
    · cases h2 : endJ hp ns (ks ++ [a']) e l.tail.tail.tail with
      | error f => rw [h2] at h; cases h
      | ok b' =>
        rw [h2, lnkB_ok] at h
        split at h
        · cases h
        · split at h
          · cases h
          · rename_i h3
            injection h with h
            injection h with ha hb
            subst ha hb
            exact ⟨endJ_lt h1, endJ_lt h2, by omega⟩
theorem TOk.width {s : TSt} (h : TOk s) {n : Nat} (hn : n ≤ 128) : TOk { s with wid := n } := ⟨h.dl, h.ll, h.kl, h.nd, h.at_, h.sm, hn⟩
theorem TOk.device {s : TSt} (h : TOk s) {d : To.Dv} (h1 : d.name ∉ s.nms) (h2 : d.name.length ≤ 1048576) (h3 : s.nms.length < 256) : TOk { s with ds := s.ds ++ [d] } := by
  have h3' : s.ds.length < 256 := by simpa [TSt.nms] using h3
  refine ⟨by rw [List.length_append, List.length_singleton]; omega, h.ll, h.kl, ?_, fun l hl => ?_, fun q hq => ?_, h.wd⟩
  · show ((s.ds ++ [d]).map (·.name)).Nodup
    rw [List.map_append, List.nodup_append]
    refine ⟨h.nd, by simp, fun a ha b hb e => ?_⟩
    simp only [List.map_cons, List.map_nil, List.mem_singleton] at hb
    rw [e, hb] at ha
    exact h1 ha
  · have := h.at_ l hl
    rw [List.length_append, List.length_singleton]
    exact ⟨by omega, by omega⟩
  · rcases List.mem_append.1 hq with q1 | q1
    · exact h.sm q q1
    · rw [List.mem_singleton.1 q1]; exact h2
theorem TOk.link {s : TSt} (h : TOk s) {a b : Nat × List UInt8} (ha : a.1 < s.nms.length) (hb : b.1 < s.nms.length) (hn : s.ls.length < 4096) : TOk { s with ls := s.ls ++ [jndL a b], ks := s.ks ++ [a] ++ [b] } := by
  have ha' : a.1 < s.ds.length := by simpa [TSt.nms] using ha
  have hb' : b.1 < s.ds.length := by simpa [TSt.nms] using hb
  refine ⟨h.dl, by rw [List.length_append, List.length_singleton]; omega, ?_, h.nd, fun l hl => ?_, h.sm, h.wd⟩
  · have := h.kl
    simp only [List.length_append, List.length_singleton]
    omega
  · rcases List.mem_append.1 hl with q1 | q1
    · exact h.at_ l q1
    · rw [List.mem_singleton.1 q1]
      unfold jndL
      by_cases hc : ocE b.1 b.2 a.1 a.2 < 0
      · rw [if_pos hc]; exact ⟨hb', ha'⟩
      · rw [if_neg hc]; exact ⟨ha', hb'⟩
end Go.Proofs.YtebaopiedlioiaaGreatDoor
