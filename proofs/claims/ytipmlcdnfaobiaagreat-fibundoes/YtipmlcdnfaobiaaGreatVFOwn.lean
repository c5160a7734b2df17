/-
  The law FibOwn: of any width and any changes it answers true.
-/
import Derived.Test.YtipmlcdnfaobiaaGreatVRMeetAnd
import Derived.Test.YtipmlcdnfaobiaaGreatVLStp
namespace Go.Proofs.YtipmlcdnfaobiaaGreat
open Go.RowKit

/-- Changes of one's own: a row, and ports that lie behind B. -/
structure OwnC (w : World) (B : Nat) (v : Value) (us : List (Int × Raw × Value)) : Prop where
  row : w.ownsRow B 57 5 v us.length (flatC us)
  prt : ∀ u ∈ us, Ported w B u.2.2 u.2.1.ports

theorem OwnC.on {w w' : World} {B : Nat} {v : Value} {us : List (Int × Raw × Value)} (h : OwnC w B v us) (hb : Below w.heap.size w w') : OwnC w' B v us := by
  refine ⟨⟨h.row.1, ?_⟩, fun u hu => (h.prt u hu).on hb⟩
  rcases h.row.2 with q | ⟨g, cp, cur, e, hB, hh, q⟩
  · exact Or.inl q
  · exact Or.inr ⟨g, cp, cur, e, hB, below_block hb hh (lt_of_block hh), q⟩
theorem flatC_len (us : List (Int × Raw × Value)) : (flatC us).length = us.length * 5 := by
  induction us with
  | nil => rfl
  | cons u us ih =>
    have : flatC (u :: us) = [.int .i64 u.1, .int .i64 u.2.1.prio, .string (tx u.2.1.mat), .int .i64 u.2.1.kind, u.2.2] ++ flatC us := rfl
    rw [this, List.length_append, ih, List.length_cons]
    simp; omega
theorem flatC_get {us : List (Int × Raw × Value)} : ∀ {i : Nat} {u : Int × Raw × Value}, us[i]? = some u → (flatC us)[i * 5]? = some (.int .i64 u.1) ∧ (flatC us)[i * 5 + 1]? = some (.int .i64 u.2.1.prio) ∧ (flatC us)[i * 5 + 2]? = some (.string (tx u.2.1.mat)) ∧ (flatC us)[i * 5 + 3]? = some (.int .i64 u.2.1.kind) ∧ (flatC us)[i * 5 + 4]? = some u.2.2 := by
  induction us with
  | nil => intro i u h; simp at h
  | cons v us ih =>
    intro i u h
    have hc : flatC (v :: us) = [.int .i64 v.1, .int .i64 v.2.1.prio, .string (tx v.2.1.mat), .int .i64 v.2.1.kind, v.2.2] ++ flatC us := rfl
    cases i with
    | zero =>
      have : v = u := by simpa using h
      subst this
      rw [hc]
      simp
    | succ i =>
      obtain ⟨h0, h1, h2, h3, h4⟩ := ih (i := i) (u := u) (by simpa using h)
      have e : ∀ k, (flatC (v :: us))[(i + 1) * 5 + k]? = (flatC us)[i * 5 + k]? := fun k => by
        rw [hc, List.getElem?_append_right (by simp; omega)]
        congr 1
        simp; omega
      exact ⟨by rw [show (i + 1) * 5 = (i + 1) * 5 + 0 from rfl, e 0]; exact h0, by rw [e 1]; exact h1, by rw [e 2]; exact h2, by rw [e 3]; exact h3, by rw [e 4]; exact h4⟩
theorem flatC_append (a b : List (Int × Raw × Value)) : flatC (a ++ b) = flatC a ++ flatC b := by simp [flatC]
theorem ownC_cells {w : World} {B : Nat} {bo : Option Addr} {n c : Nat} {xs : List Value} (h : w.ownsRow B 57 5 (.slice bo n c) n xs) : (bo = none ∧ n = 0 ∧ c = 0) ∨ ∃ g cur, bo = some ⟨g, 0, none⟩ ∧ B ≤ g ∧ n ≤ c ∧ w.heap[g]? = some (.cells cur 57 (0, 0)) ∧ ∀ (j : Nat) (u : Value), xs[j]? = some u → w.cell? ⟨g, j, none⟩ = some u := by
  rcases h.2 with ⟨e, h0⟩ | ⟨g, cap, cur, e, hB, hh, hn, _, _, ht⟩
  · injection e with e1 e2 e3
    exact Or.inl ⟨e1, h0, e3⟩
  · injection e with e1 e2 e3
    subst e3
    refine Or.inr ⟨g, cur, e1, hB, hn, hh, fun j u hj => ?_⟩
    rw [cell_at hh]
    rw [← ht, List.getElem?_take] at hj
    split at hj
    · rw [← Array.getElem?_toList]; exact hj
    · cases hj
/-- Changes of one's own, for reading. -/
theorem OwnC.chIn {w : World} {B n c : Nat} {bo : Option Addr} {us : List (Int × Raw × Value)} (h : OwnC w B (.slice bo n c) us) (hn : us.length = n) (hs : ∀ u ∈ us, Small u.2.1.mat u.2.1.ports) : ChIn w bo us ∧ n ≤ c := by
  have hr := h.row
  rw [hn] at hr
  rcases ownC_cells hr with ⟨_, h0, hc⟩ | ⟨g, cur, e, _, hnc, hh, hcl⟩
  · exact ⟨Or.inl (List.length_eq_zero_iff.1 (by rw [hn]; exact h0)), by omega⟩
  · refine ⟨Or.inr ⟨g, 0, e, lt_of_block hh, fun i u hu => ?_, fun u hu => ⟨(h.prt u hu).txs, fun p hp => by have := (hs u hu).2.2 p hp; unfold maxLen; omega⟩⟩, hnc⟩
    obtain ⟨h0, h1, h2, h3, h4⟩ := flatC_get hu
    rw [Nat.zero_add]
    exact ⟨hcl _ _ h0, hcl _ _ h1, hcl _ _ h2, hcl _ _ h3, hcl _ _ h4⟩
theorem OwnC.next {w wo X w6 : World} {j bc : Nat} {bo : Option Addr} {us : List (Int × Raw × Value)} {kd : Int} {r : Raw} {v v6 : Value} (h : OwnC wo w.heap.size (.slice bo j bc) us) (hl : us.length = j) (hB : Below w.heap.size w wo) (hX : Below wo.heap.size wo X) (ht : Ported X w.heap.size v r.ports)
    (hown : w6.ownsRow w.heap.size 57 5 v6 (j + 1) (flatC us ++ [.int .i64 kd, .int .i64 r.prio, .string (tx r.mat), .int .i64 r.kind, v])) (hg : X.grownBy w6 (Value.slice bo j bc).ownBlock) :
    OwnC w6 w.heap.size v6 (us ++ [(kd, r, v)]) ∧ Below w.heap.size w w6 := by
  have hX' := h.on hX
  have hro := own_blockC (n := j) (xs := flatC us) (by have := hX'.row; rw [hl] at this; exact this)
  have hlX := below_2 hB hX
  have keep : ∀ v zs, Ported X w.heap.size v zs → Ported w6 w.heap.size v zs := fun v zs hp => by
    obtain ⟨ao, cap, e1, e2, q | ⟨b, e3, e4, cs, e5, e6⟩⟩ := hp
    · exact ⟨ao, cap, e1, e2, Or.inl q⟩
    · refine ⟨ao, cap, e1, e2, Or.inr ⟨b, e3, e4, cs, ?_, e6⟩⟩
      rw [hg.block b (lt_of_block e5) (fun e => by
        obtain ⟨_, cs', hc⟩ := hro b e.symm
        exact ne_type e5 hc (by decide) rfl)]
      exact e5
  refine ⟨⟨?_, fun u hu => ?_⟩, hlX.grown hg hlX.size (fun b hb => (hro b hb).1)⟩
  · rw [flatC_append, List.length_append, hl]; exact hown
  · rcases List.mem_append.1 hu with hu | hu
    · exact keep _ _ (hX'.prt u hu)
    · rw [List.mem_singleton.1 hu]; exact keep _ _ ht

/-- Ports that may be written over: a row of texts, as long as asked for, between two bounds. -/
def PT (w : World) (B N : Nat) (v : Value) (n : Nat) : Prop := ∃ ao cap, v = .slice ao n cap ∧ n ≤ cap ∧ (n = 0 ∨ ∃ b cs, ao = some ⟨b, 0, none⟩ ∧ B ≤ b ∧ b < N ∧ w.heap[b]? = some (.cells cs 9 (0, 0)) ∧ n ≤ cs.size)
theorem Ported.pt {w : World} {B N : Nat} {v : Value} {zs : List (List UInt8)} (h : Ported w B v zs) (hN : w.heap.size ≤ N) : PT w B N v zs.length := by
  obtain ⟨ao, cap, e1, e2, q | ⟨b, e3, e4, cs, e5, e6⟩⟩ := h
  · exact ⟨ao, cap, e1, e2, Or.inl (by rw [q]; rfl)⟩
  · refine ⟨ao, cap, e1, e2, Or.inr ⟨b, cs, e3, e4, Nat.lt_of_lt_of_le (lt_of_block e5) hN, e5, ?_⟩⟩
    rcases Nat.eq_zero_or_pos zs.length with h0 | h0
    · omega
    · have := e6 (zs.length - 1) (zs[zs.length - 1]'(by omega)) (List.getElem?_eq_getElem _)
      have := (Array.getElem?_eq_some_iff.1 this).1
      omega
theorem PT.on {w w' : World} {B N : Nat} {v : Value} {n : Nat} (h : PT w B N v n) (hb : Below w.heap.size w w') : PT w' B N v n := by
  obtain ⟨ao, cap, e1, e2, q | ⟨b, cs, e3, e4, e5, e6, e7⟩⟩ := h
  · exact ⟨ao, cap, e1, e2, Or.inl q⟩
  · exact ⟨ao, cap, e1, e2, Or.inr ⟨b, cs, e3, e4, e5, below_block hb e6 (lt_of_block e6), e7⟩⟩
theorem PT.set {w : World} {B N b k : Nat} {u v : Value} {n : Nat} (h : PT w B N v n) : PT (w.setCell ⟨b, k, none⟩ u) B N v n := by
  obtain ⟨ao, cap, e1, e2, q | ⟨b', cs, e3, e4, e5, e6, e7⟩⟩ := h
  · exact ⟨ao, cap, e1, e2, Or.inl q⟩
  · by_cases hbb : b' = b
    · subst hbb
      exact ⟨ao, cap, e1, e2, Or.inr ⟨b', _, e3, e4, e5, block_set (o := k) u e6, by simpa using e7⟩⟩
    · exact ⟨ao, cap, e1, e2, Or.inr ⟨b', cs, e3, e4, e5, block_other _ e6 hbb, e7⟩⟩
theorem FTab.setLow {w : World} {Bp tb b k : Nat} {W : Int} {L : List Raw} {u : Value} (h : FTab w Bp tb W L) (hb : b < Bp) : FTab (w.setCell ⟨b, k, none⟩ u) Bp tb W L := by
  obtain ⟨v, ps, ht, e⟩ := h.ex
  have hbase := h.base
  refine ⟨h.base, v, ps, ⟨block_other _ ht.blk (by omega), ⟨⟨ht.list.own.1, ?_⟩, ht.list.vals⟩, fun q hq => ?_, ht.good⟩, e⟩
  · rcases ht.list.own.2 with q | ⟨g, cp, cur, e, hB, hh, q⟩
    · exact Or.inl q
    · exact Or.inr ⟨g, cp, cur, e, hB, block_other _ hh (by omega), q⟩
  · obtain ⟨ao, cap, e1, e2, q | ⟨b', e3, e4, cs, e5, e6⟩⟩ := ht.ports q hq
    · exact ⟨ao, cap, e1, e2, Or.inl q⟩
    · exact ⟨ao, cap, e1, e2, Or.inr ⟨b', e3, e4, cs, block_other _ e5 (by omega), e6⟩⟩
theorem DTab.setLow {w : World} {Q rb b k : Nat} {W : Int} {L : List Raw} {u : Value} {cs : Array Value} (h : DTab w Q rb W L) (hb : b < Q) (hB : w.heap[b]? = some (.cells cs 9 (0, 0))) : DTab (w.setCell ⟨b, k, none⟩ u) Q rb W L := by
  obtain ⟨v, ps, hB0, hd, e⟩ := h.ex
  refine ⟨v, ps, block_other _ hB0 (ne_type hB0 hB (by decide)), ⟨⟨⟨hd.own.own.1, ?_⟩, hd.own.vals⟩, fun q hq => ⟨?_, (hd.prt q hq).2⟩⟩, e⟩
  · rcases hd.own.own.2 with q | ⟨g, cp, cur, e, hB1, hh, q⟩
    · exact Or.inl q
    · exact Or.inr ⟨g, cp, cur, e, hB1, block_other _ hh (ne_type hh hB (by decide)), q⟩
  · obtain ⟨ao, cap, e1, e2, q | ⟨b', e3, e4, cs, e5, e6⟩⟩ := (hd.prt q hq).1
    · exact ⟨ao, cap, e1, e2, Or.inl q⟩
    · exact ⟨ao, cap, e1, e2, Or.inr ⟨b', e3, e4, cs, block_other _ e5 (by omega), e6⟩⟩
theorem DTab.monoQ {w : World} {Q Q' rb : Nat} {W : Int} {L : List Raw} (h : DTab w Q rb W L) (hQ : Q' ≤ Q) : DTab w Q' rb W L := by
  obtain ⟨v, ps, hB, hd, e⟩ := h.ex
  exact ⟨v, ps, hB, ⟨hd.own, fun q hq => ⟨(hd.prt q hq).1.mono hQ, (hd.prt q hq).2⟩⟩, e⟩
/-- Where the ports of one's own changes are written over. -/
structure Wip (w X : World) (N tb qb : Nat) (W : Int) (L : List Raw) (bo : Option Addr) (us : List (Int × Raw × Value)) : Prop where
  low : Below w.heap.size w X
  fib : FTab X N tb W L
  doc : DTab X N qb W L
  row : ∀ (t : Nat) (u : Int × Raw × Value), us[t]? = some u → ∃ g cur, bo = some ⟨g, 0, none⟩ ∧ X.heap[g]? = some (.cells cur 57 (0, 0)) ∧ cur[t * 5 + 4]? = some u.2.2
  prt : ∀ u ∈ us, PT X w.heap.size N u.2.2 u.2.1.ports.length
theorem Wip.store {w X : World} {N tb qb b k : Nat} {W : Int} {L : List Raw} {bo : Option Addr} {us : List (Int × Raw × Value)} {cs : Array Value} {u : Value} (h : Wip w X N tb qb W L bo us) (h1 : w.heap.size ≤ b) (h2 : b < N) (hb : X.heap[b]? = some (.cells cs 9 (0, 0))) : Wip w (X.setCell ⟨b, k, none⟩ u) N tb qb W L bo us :=
  ⟨h.low.setCell (p := ⟨b, k, none⟩) h1 u, h.fib.setLow h2, h.doc.setLow h2 hb, fun t x hx => by
    obtain ⟨g, cur, e, hh, hc⟩ := h.row t x hx
    exact ⟨g, cur, e, block_other _ hh (ne_type hh hb (by decide)), hc⟩, fun x hx => (h.prt x hx).set⟩
theorem OwnC.rowAt {w : World} {B n c : Nat} {bo : Option Addr} {us : List (Int × Raw × Value)} (h : OwnC w B (.slice bo n c) us) (hn : us.length = n) (t : Nat) (u : Int × Raw × Value) (hu : us[t]? = some u) : ∃ g cur, bo = some ⟨g, 0, none⟩ ∧ w.heap[g]? = some (.cells cur 57 (0, 0)) ∧ cur[t * 5 + 4]? = some u.2.2 := by
  have hr := h.row
  rw [hn] at hr
  rcases ownC_cells hr with ⟨_, h0, hc⟩ | ⟨g, cur, e, _, hnc, hh, hcl⟩
  · have : us = [] := List.length_eq_zero_iff.1 (by rw [hn]; exact h0)
    rw [this] at hu; simp at hu
  · refine ⟨g, cur, e, hh, ?_⟩
    have := hcl _ _ (flatC_get hu).2.2.2.2
    rw [cell_at hh] at this
    exact this
/-- Where the ports of the rules that were told are written over. -/
structure Tld (X Y : World) (ao : Option Addr) (qs : List (Raw × Value)) : Prop where
  low : Below X.heap.size X Y
  row : ∀ (t : Nat) (q : Raw × Value), qs[t]? = some q → ∃ g, ao = some ⟨g, 0, none⟩ ∧ Y.cell? ⟨g, t * 4 + 3, none⟩ = some q.2
  prt : ∀ q ∈ qs, ∃ bo cap, q.2 = .slice bo q.1.ports.length cap ∧ q.1.ports.length ≤ cap ∧ (q.1.ports.length = 0 ∨ ∃ b cs, bo = some ⟨b, 0, none⟩ ∧ X.heap.size ≤ b ∧ (∀ g, ao = some ⟨g, 0, none⟩ → b ≠ g) ∧ Y.heap[b]? = some (.cells cs 9 (0, 0)) ∧ q.1.ports.length ≤ cs.size)
theorem Tld.store {X Y : World} {ao : Option Addr} {qs : List (Raw × Value)} {b k : Nat} {u : Value} (h : Tld X Y ao qs) (h1 : X.heap.size ≤ b) (h2 : ∀ g, ao = some ⟨g, 0, none⟩ → b ≠ g) : Tld X (Y.setCell ⟨b, k, none⟩ u) ao qs := by
  refine ⟨h.low.setCell (p := ⟨b, k, none⟩) h1 u, fun t q hq => ?_, fun q hq => ?_⟩
  · obtain ⟨g, e, hc⟩ := h.row t q hq
    refine ⟨g, e, ?_⟩
    rw [World.cell?_setCell_far _ _ _ _ (by exact h2 g e)]
    exact hc
  · obtain ⟨bo, cap, e1, e2, q0 | ⟨b', cs', e3, e4, e5, e6, e7⟩⟩ := h.prt q hq
    · exact ⟨bo, cap, e1, e2, Or.inl q0⟩
    · by_cases hbb : b' = b
      · subst hbb
        exact ⟨bo, cap, e1, e2, Or.inr ⟨b', _, e3, e4, e5, block_set (o := k) u e6, by simpa using e7⟩⟩
      · exact ⟨bo, cap, e1, e2, Or.inr ⟨b', cs', e3, e4, e5, block_other _ e6 hbb, e7⟩⟩
theorem tld_ord {w w' : World} {n ob : Nat} {ps qs : List (Raw × Value)} {en : Ending} {M : List Nat} (hP : OrdPost w n ps en w' ob qs M) : Tld w w' (some ⟨ob, 0, none⟩) qs := by
  refine ⟨hP.low, fun t q hq => ⟨ob, rfl, by have := (hP.view.cell t q hq).2.2.2; rw [Nat.zero_add] at this; exact this⟩, fun q hq => ?_⟩
  obtain ⟨ao, cap, e1, e2, q0 | ⟨b, e3, e4, cs, e5, e6⟩⟩ := hP.own q hq
  · exact ⟨ao, cap, e1, e2, Or.inl (by rw [q0]; rfl)⟩
  · rcases Nat.eq_zero_or_pos q.1.ports.length with h0 | h0
    · exact ⟨ao, cap, e1, e2, Or.inl h0⟩
    · refine ⟨ao, cap, e1, e2, Or.inr ⟨b, cs, e3, e4, fun g hg hbg => ?_, e5, ?_⟩⟩
      · injection hg with hg
        injection hg with hg _ _
        subst hg hbg
        obtain ⟨q1, hq1⟩ : ∃ q1, qs[0]? = some q1 := by
          match qs, hq with
          | q1 :: _, _ => exact ⟨q1, rfl⟩
        have c1 := (hP.view.cell 0 q1 hq1).1
        simp only [Nat.zero_mul, Nat.add_zero] at c1
        rw [cell_at e5, e6 0 (q.1.ports[0]'h0) (List.getElem?_eq_getElem _)] at c1
        cases c1
      · have := e6 (q.1.ports.length - 1) (q.1.ports[q.1.ports.length - 1]'(by omega)) (List.getElem?_eq_getElem _)
        have := (Array.getElem?_eq_some_iff.1 this).1
        omega
set_option maxRecDepth 4000 in
set_option maxHeartbeats 1000000 in
theorem copies_new {w : World} {v : Value} {n : Nat} {W : Int} {L : List Raw} {ps : List (Raw × Value)} (h : RowV w v n ps) (hg : GoodT W L) (e : ps.map Prod.fst = L) : Calls Tryz.prog 32 #[v] w fun e w' => ∃ ao c qs, e = .returned (.slice ao n c) ∧ Hid (qs.length = n ∧ (∀ q ∈ qs, q.1.ports.length ≤ 64) ∧ Tld w w' ao qs) := by
  obtain ⟨hn, ao, c, rfl, k⟩ := h
  have hf := hg.few
  rw [← e, List.length_map, hn] at hf
  rcases k with k | ⟨g, o, rfl, k⟩
  · subst k
    have hn0 : n = 0 := hn.symm
    subst hn0
    have HO := hid (Order_none (w := w) (ao := ao) (cap := c))
    clear hn hf e hg
    go_enter Tryz.func32, Tryz.ntmps32
    go_wp2_with fail
    refine HO.out.mono ?_
    rintro en w2 ⟨ob, rfl, hb⟩
    have HB := hid hb
    clear hb
    go_wp2
    go_ret
    exact ⟨_, _, [], rfl, rfl, (fun q hq => by cases hq), HB.out, (fun t q hq => by simp at hq), fun q hq => by cases hq⟩
  · refine (copies_some k hn hf (good_small hg e)).mono ?_
    rintro en w' ⟨ob, qs, M, hP⟩
    have hP := hP.out
    have hM := hP.sorted
    rw [← hn] at hM
    have hq : qs.map Prod.fst = L := by rw [hP.same, sorted_stays (by rw [e]; exact hg.srt) hM, e]
    have hql : qs.length = n := by rw [← hn, ← List.length_map (f := Prod.fst), hq, ← e, List.length_map]
    exact ⟨_, _, qs, hP.told, hql, fun q hq' => (errR_small (hg.ok q.1 (by rw [← hq]; exact List.mem_map_of_mem hq'))).2.1, tld_ord hP⟩
set_option maxRecDepth 4000 in
set_option maxHeartbeats 1000000 in
/-- Rules of a table: new rows, new ports. -/
theorem Rules_new {w : World} {Bp tb : Nat} {W : Int} {L : List Raw} (hF : FTab w Bp tb W L) :
    Calls Tryz.prog 12 #[.pointer (some ⟨tb, 0, none⟩)] w fun e w' => ∃ ao n c qs, e = .returned (.slice ao n c) ∧ Hid (n ≤ 4096 ∧ qs.length = n ∧ (∀ q ∈ qs, q.1.ports.length ≤ 64) ∧ Tld w w' ao qs) := by
  obtain ⟨v, ps, ht, he⟩ := hF.ex
  have HC := hid (copies_new (w := w) (ht.list.rowV (fun q hq => ⟨(ht.ports q hq).txs, good_each ht.good rfl q hq⟩)) hF.good he)
  obtain ⟨lo, lc, hv, _⟩ := ht.list.form
  subst hv
  obtain ⟨n, hn⟩ : ∃ n, n = ps.length := ⟨_, rfl⟩
  have H4 := hid (show n ≤ 4096 by have := hF.good.few; rw [← he, List.length_map, ← hn] at this; exact this)
  rw [← hn] at HC
  have t1 : w.cell? ⟨tb, 1, none⟩ = some (.slice lo n lc) := by rw [hn, cell_at ht.blk]; rfl
  have HMD := hid (made_yes ht.blk)
  clear ht hF he hn
  go_enter Tryz.func12, Tryz.ntmps12
  go_wp2_with fail
  refine HMD.out.mono ?_
  rintro en w1 ⟨rfl, hw1⟩
  subst hw1
  go_wp2_with fail
  refine HC.out.mono ?_
  rintro en w2 ⟨a2, c2, qs, rfl, h2⟩
  have H2 := hid h2.out
  clear h2
  go_wp2
  go_ret
  exact ⟨_, _, _, qs, rfl, H4.out, H2.out⟩

set_option maxRecDepth 20000 in
set_option maxHeartbeats 4000000 in
theorem fown_any {w : World} {ao : Option Addr} {n cap : Nat} {W : Int} {cs : List (Int × Raw × Value)} (hc : ChIn w ao cs) (hn : cs.length = n) (hnc : n ≤ cap) (hs : ∀ u ∈ cs, Small u.2.1.mat u.2.1.ports) (h64 : n * 64 ≤ 140737488355328) :
    Calls Tryz.prog 8 #[.int .i64 W, .slice ao n cap] w fun e w' => e = .returned (.bool true) ∧ Below w.heap.size w w' := by
  have HC := hid hc
  have HN := hid hn
  have HS := hid hs
  have hnI : (n : Int) ≤ 9223372036854775807 := by omega
  obtain ⟨i0, hi, hz0, hz1, hz2⟩ := info_parts Tryz.infoChange
  have HI := hid hi
  have HZ0 := hid hz0
  have HZ1 := hid hz1
  have HZ2 := hid hz2
  clear hi hz0 hz1 hz2
  clear hc hn hs
  go_enter Tryz.func8, Tryz.ntmps8
  go_wp2_with fail
  go_loopw [5, 6] (fun vo vi wr => ∃ (j : Nat) (bo : Option Addr) (bc : Nat) (us : List (Int × Raw × Value)), j ≤ n ∧ vi = .int .i64 j ∧ vo = .slice bo j bc ∧ Hid (OwnC wr w.heap.size (.slice bo j bc) us) ∧ Hid (chs us = (chs cs).take j) ∧ Hid (us.length = j) ∧ Hid (Below w.heap.size w wr)) (fun _ vi _ => n - (intOf vi).toNat)
  case atStart => exact ⟨0, none, 0, [], Nat.zero_le _, rfl, rfl, ⟨World.ownsRow_nil _ _ _ _, fun q hq => by cases hq⟩, rfl, rfl, Below.refl _ _⟩
  case round =>
    obtain ⟨j, bo, bc, us, hj, rfl, rfl, HO, HU, HL, HB⟩ := hrel
    rename World => wo
    by_cases hlt : j < n
    · have hjI : (j : Int) < (n : Int) := by omega
      have hj0 : (0 : Int) ≤ (j : Int) := by omega
      obtain ⟨u, hu⟩ : ∃ u, cs[j]? = some u := ⟨cs[j]'(by rw [HN.out]; exact hlt), List.getElem?_eq_getElem _⟩
      obtain ⟨g, o, rfl⟩ : ∃ g o, ao = some ⟨g, o, none⟩ := by
        rcases HC.out with q | ⟨g, o, e, _⟩
        · rw [q] at hu; simp at hu
        · exact ⟨g, o, e⟩
      have HVW := hid (show ∀ X, Below w.heap.size w X → ChView X g o cs from fun X hX => by
        rcases HC.out.on hX with q | ⟨g', o', e, hv⟩
        · rw [q] at hu; simp at hu
        · cases e; exact hv)
      have HSM := hid (HS.out u (List.mem_of_getElem? hu))
      have HCU := hid (show (chs cs)[j]? = some (u.1, u.2.1) by rw [List.getElem?_map, hu]; rfl)
      have HTX := hid (show ∀ X, Below w.heap.size w X → Txs X u.2.2 u.2.1.ports from fun X hX => ((HVW.out X hX).ports u (List.mem_of_getElem? hu)).1)
      have HCL := hid (show ∀ X, Below w.heap.size w X → _ from fun X hX => (HVW.out X hX).cell j u hu)
      obtain ⟨kd, ⟨p, m, k, zs⟩, uv⟩ := u
      simp only at HSM HCU HTX HCL
      obtain ⟨uo, uc, huv, _⟩ := HTX.out wo HB.out
      obtain ⟨un, hun⟩ : ∃ un, un = zs.length := ⟨_, rfl⟩
      rw [← hun] at huv
      subst huv
      clear hu hun
      have HCP := hid (fun (X : World) (hX : Below w.heap.size w X) => RCopy_any (w := X) (p := p) (k := k) (m := m) (HTX.out X hX) HSM.out.2.1)
      have HCS := hid (show ∀ X, Below w.heap.size w X → X.cell? ⟨g, o + j * 5, none⟩ = some (.int .i64 kd) ∧ X.cell? ⟨g, o + j * 5 + 1, none⟩ = some (.int .i64 p) ∧ X.cell? ⟨g, o + j * 5 + 2, none⟩ = some (.string (tx m)) ∧ X.cell? ⟨g, o + j * 5 + 3, none⟩ = some (.int .i64 k) ∧ X.cell? ⟨g, o + j * 5 + 4, none⟩ = some (.slice uo un uc) from fun X hX => HCL.out X hX)
      have hS0 := HCS.out wo HB.out
      have HTK := hid (show (chs cs).take (j + 1) = (chs cs).take j ++ [(kd, (⟨p, m, k, zs⟩ : Raw))] by rw [List.take_add_one, HCU.out]; rfl)
      go_wp2_with fail
      go_region_held2 (fun X => X.cell? ⟨g, o + j * 5, none⟩ = some (.int .i64 kd) ∧ X.cell? ⟨g, o + j * 5 + 1, none⟩ = some (.int .i64 p) ∧ X.cell? ⟨g, o + j * 5 + 2, none⟩ = some (.string (tx m)) ∧ X.cell? ⟨g, o + j * 5 + 3, none⟩ = some (.int .i64 k) ∧ X.cell? ⟨g, o + j * 5 + 4, none⟩ = some (.slice uo un uc)) (first | exact hS0 | exact hS6 | exact hS3 | exact hS2) (first | (go_at_call 28; refine (HCP.out _ HB.out.drew).mono ?_; rintro en w2 ⟨a2, n2, c2, rfl, hp2, hb2⟩; have HP2 := hid hp2.out; have HB2 := hid (below_2 ((Below.refl wo.heap.size wo).drew) hb2); have B2 := hid (below_2 HB.out HB2.out); have B2' := hid (show w.heap.size ≤ wo.drew.heap.size from HB.out.size); have hS2 := HCS.out w2 B2.out; have HBX := hid (show Below wo.heap.size wo (w2.alloc (cob5 kd p m k (.slice a2 n2 c2))) from HB2.out.alloc HB2.out.size _); have hS3 := HCS.out _ (below_2 HB.out HBX.out); have HOW := hid (show (w2.alloc (cob5 kd p m k (.slice a2 n2 c2))).ownsRow w.heap.size 57 5 (.slice bo j bc) j (flatC us) from by have := (HO.out.on HBX.out).row; rw [HL.out] at this; exact this); have HSZ := hid (show w.heap.size ≤ (w2.alloc (cob5 kd p m k (.slice a2 n2 c2))).heap.size from (below_2 HB.out HBX.out).size); clear hp2 hb2) | (refine step_append_srcR _ (by rfl) (.tmp 24) (.tmp 37) 22 (by rfl) w.heap.size 57 i0 (.agg #[.int .i64 0, .int .i64 0, .string (tx []), .int .i64 0, .slice none 0 0]) 5 64 Tryz.underlying22 HI.out HZ0.out HZ1.out HZ2.out rfl (by decide) (.slice bo j bc) j (flatC us) (by rfl) (by exact HOW.out) (.slice (some ⟨w2.heap.size, 0, none⟩) 1 1) 1 [.int .i64 kd, .int .i64 p, .string (tx m), .int .i64 k, .slice a2 n2 c2] (by rfl) (Or.inr ⟨⟨w2.heap.size, 0, none⟩, 1, rfl, rfl, World.news_of_block (new_0 _ _)⟩) (by simp [Value.oneCell']) (by unfold maxLen; omega) (by omega) (by exact HSZ.out) ?_; intro v6 w6 hown6 hgr6; have HNX := hid (HO.out.next (r := ⟨p, m, k, zs⟩) (kd := kd) HL.out HB.out HBX.out ((HP2.out.mono B2'.out).on ((Below.refl _ _).alloc (Nat.le_refl _) _)) hown6 hgr6); have hS6 := HCS.out w6 HNX.out.2))
      obtain ⟨a6, c6, hv6⟩ : ∃ a c, v6 = .slice a (j + 1) c := by
        obtain ⟨a, c, e⟩ := ownC_form HNX.out.1.row
        exact ⟨a, c, by rw [e, List.length_append, HL.out]; rfl⟩
      subst hv6
      have HU6 := hid (show chs (us ++ [(kd, (⟨p, m, k, zs⟩ : Raw), Value.slice a2 n2 c2)]) = (chs cs).take (j + 1) by rw [HTK.out, ← HU.out]; simp [chs])
      have HL6 := hid (show (us ++ [(kd, (⟨p, m, k, zs⟩ : Raw), Value.slice a2 n2 c2)]).length = j + 1 by rw [List.length_append, HL.out]; rfl)
      have HN1 := hid HNX.out.1
      have HN2 := hid HNX.out.2
      clear hS0 hS2 hS3 hS6 hown6 hgr6 HNX HOW
      go_wp2
      go_roundw
      case rel => exact ⟨j + 1, a6, c6, _, by omega, by go_num, rfl, HN1, HU6, HL6, HN2⟩
      case measure => simp [intOf]; omega
    · have hjI : ¬ ((j : Int) < (n : Int)) := by omega
      have hjn : j = n := by omega
      subst hjn
      have HCE := hid (show chs us = chs cs by rw [HU.out, List.take_of_length_le (by rw [List.length_map, HN.out]; exact Nat.le_refl _)])
      have HSU := hid (show ∀ u ∈ us, Small u.2.1.mat u.2.1.ports from fun u hu => by
        have hm : (u.1, u.2.1) ∈ chs us := List.mem_map_of_mem hu
        rw [HCE.out] at hm
        obtain ⟨u', hu', e⟩ := List.mem_map.1 hm
        have : u'.2.1 = u.2.1 := congrArg Prod.snd e
        rw [← this]; exact HS.out u' hu')
      have HCI := hid (HO.out.chIn HL.out HSU.out)
      have h63 : j ≤ maxLen := by unfold maxLen; omega
      by_cases h : 1 ≤ W ∧ W ≤ 128
      · have HM := hid (made_good h HCI.out.1 HL.out HCI.out.2 HSU.out h63)
        have HM2 := hid (fun (X : World) (hX : Below w.heap.size w X) => made_good h (HC.out.on hX) HN.out hnc HS.out h63)
        have HG := hid (madeN_good h ((chs cs).take 100))
        rw [HCE.out] at HM
        obtain ⟨L, hL⟩ : ∃ L, L = madeN W ((chs cs).take 100) := ⟨_, rfl⟩
        rw [← hL] at HM HM2 HG
        have p2 := eqlR_none
        clear hL
        go_wp2_with fail
        refine HM.out.mono ?_
        rintro en w1 ⟨tb, rb, rfl, h1⟩
        have B1 := hid h1.out
        clear h1
        go_wp2_with (first | (go_at_call 10; refine (fawake _).mono ?_; rintro e wz ⟨rfl, hbz⟩; have BZ := hid (B1.out.on hbz); clear hbz) | fail)
        have LZ := hid (below_2 HB.out BZ.out.low)
        have HSC := hid (SameChanges_eq (c1 := bc) (c2 := cap) (HCI.out.1.on BZ.out.low) (HC.out.on LZ.out) HL.out HN.out HCE.out (fun u hu => by have := (HSU.out u hu).2.1; unfold maxLen; omega) h63)
        refine HSC.out.mono ?_
        rintro en w3 ⟨rfl, hb3⟩
        have BZ3 := hid (BZ.out.on hb3)
        have L3 := hid (below_2 LZ.out hb3)
        clear hb3 HSC HM B1 BZ LZ
        go_wp2_with fail
        refine (HM2.out _ L3.out).mono ?_
        rintro en w4 ⟨ub, qb, rfl, h4⟩
        have B4 := hid h4.out
        clear h4 HM2
        have HWP := hid (show Wip w w4 wo.heap.size tb qb W L bo us from by
          have hb4 : Below wo.heap.size wo w4 := below_2 BZ3.out.low B4.out.low
          exact ⟨below_2 L3.out B4.out.low, BZ3.out.fib.on B4.out.low, B4.out.doc.monoQ BZ3.out.low.size, fun t u hu => (HO.out.on hb4).rowAt HL.out t u hu, fun u hu => ((HO.out.prt u hu).pt (Nat.le_refl _)).on hb4⟩)
        go_wp2_with fail
        go_loopw [67] (fun vi wr => ∃ i : Nat, i ≤ j ∧ vi = .int .i64 i ∧ Hid (Wip w wr wo.heap.size tb qb W L bo us)) (fun vi _ => j - (intOf vi).toNat)
        case atStart => exact ⟨0, Nat.zero_le _, rfl, HWP⟩
        case round =>
          clear HWP
          obtain ⟨i, hi, rfl, HA⟩ := hrel
          rename World => wa
          by_cases hij : i < j
          · have hiI : (i : Int) < (j : Int) := by omega
            have hi0 : (0 : Int) ≤ (i : Int) := by omega
            obtain ⟨u, hu⟩ : ∃ u, us[i]? = some u := ⟨us[i]'(by rw [HL.out]; exact hij), List.getElem?_eq_getElem _⟩
            have HUM := hid (List.mem_of_getElem? hu)
            obtain ⟨g, -, hbo, -, -⟩ := HA.out.row i u hu
            subst hbo
            have HRW := hid (show ∀ X, Wip w X wo.heap.size tb qb W L (some ⟨g, 0, none⟩) us → X.cell? ⟨g, i * 5 + 4, none⟩ = some u.2.2 from fun X hX => by
              obtain ⟨g', cur, e, hh, hc⟩ := hX.row i u hu
              cases e
              rw [cell_at hh]; exact hc)
            obtain ⟨po, pc, hpv, hpc, _⟩ := HA.out.prt u HUM.out
            obtain ⟨pn, hpn⟩ : ∃ pn, pn = u.2.1.ports.length := ⟨_, rfl⟩
            have HPN := hid hpn
            rw [← hpn] at hpv hpc
            rw [hpv] at HRW
            have c0 := HRW.out wa HA.out
            have HPV := hid hpv
            have hpnB : pn ≤ 8796093022208 := by have := (HSU.out u HUM.out).2.1; rw [← hpn] at this; omega
            clear hu hpv hpn
            go_wp2_with fail
            clear c0
            go_loopw [78] (fun vk wr => ∃ t : Nat, t ≤ pn ∧ vk = .int .i64 t ∧ Hid (Wip w wr wo.heap.size tb qb W L (some ⟨g, 0, none⟩) us)) (fun vk _ => pn - (intOf vk).toNat)
            case atStart => exact ⟨0, Nat.zero_le _, rfl, HA⟩
            case round =>
              obtain ⟨t, ht, rfl, HT⟩ := hrel
              rename World => wb
              by_cases htp : t < pn
              · have htI : (t : Int) < (pn : Int) := by omega
                have ht0 : (0 : Int) ≤ (t : Int) := by omega
                have c0 := HRW.out wb HT.out
                obtain ⟨b, bcs, rfl, hb1, hb2, hb3, hb4⟩ : ∃ b bcs, po = some ⟨b, 0, none⟩ ∧ w.heap.size ≤ b ∧ b < wo.heap.size ∧ wb.heap[b]? = some (.cells bcs 9 (0, 0)) ∧ pn ≤ bcs.size := by
                  obtain ⟨ao', cap', e1, _, q | ⟨b, bcs, e3, e4, e5, e6, e7⟩⟩ := HT.out.prt u HUM.out
                  · rw [← HPN.out] at q; omega
                  · rw [HPV.out, ← HPN.out] at e1
                    injection e1 with e1 _ _
                    exact ⟨b, bcs, by rw [e1, e3], e4, e5, e6, by rw [HPN.out]; exact e7⟩
                obtain ⟨ov, hov⟩ : ∃ ov, wb.cell? ⟨b, t, none⟩ = some ov := ⟨bcs[t]'(by omega), by rw [cell_at hb3]; exact Array.getElem?_eq_getElem _⟩
                have hfz : wb.frozen? ⟨b, t, none⟩ = false := free_of hb3
                have HST := hid (show ∀ x, Wip w (wb.setCell ⟨b, t, none⟩ x) wo.heap.size tb qb W L (some ⟨g, 0, none⟩) us from fun x => HT.out.store hb1 hb2 hb3)
                clear hb1 hb2 hb3 hb4
                go_wp2
                go_roundw
                case rel => exact ⟨t + 1, by omega, by go_num, HST.out _⟩
                case measure => simp [intOf]; omega
              · have htI : ¬ ((t : Int) < (pn : Int)) := by omega
                go_wp2
                go_roundw
                case rel => exact ⟨i + 1, by omega, by go_num, HT⟩
                case measure => simp [intOf]; omega
          · have hiI : ¬ ((i : Int) < (j : Int)) := by omega
            have HRN := hid (Rules_new HA.out.fib)
            go_wp2_with fail
            refine HRN.out.mono ?_
            rintro en w5 ⟨tao, tn, tc, qs, rfl, h5⟩
            have HT5 := hid h5.out.2.2.2
            have HQ5 := hid h5.out.2.2.1
            have HQL := hid h5.out.2.1
            have htn4 : tn ≤ 4096 := h5.out.1
            clear h5 HRN
            go_wp2_with fail
            go_loopw [96] (fun vi wr => ∃ x : Nat, x ≤ tn ∧ vi = .int .i64 x ∧ Hid (Tld wa wr tao qs)) (fun vi _ => tn - (intOf vi).toNat)
            case atStart => exact ⟨0, Nat.zero_le _, rfl, HT5⟩
            case round =>
              clear HT5
              obtain ⟨x, hx, rfl, HX⟩ := hrel
              rename World => wc
              by_cases hxt : x < tn
              · have hxI : (x : Int) < (tn : Int) := by omega
                have hx0 : (0 : Int) ≤ (x : Int) := by omega
                obtain ⟨q, hq⟩ : ∃ q, qs[x]? = some q := ⟨qs[x]'(by rw [HQL.out]; exact hxt), List.getElem?_eq_getElem _⟩
                have HQM := hid (List.mem_of_getElem? hq)
                obtain ⟨g, hta, -⟩ := HX.out.row x q hq
                subst hta
                have HRW := hid (show ∀ Y, Tld wa Y (some ⟨g, 0, none⟩) qs → Y.cell? ⟨g, x * 4 + 3, none⟩ = some q.2 from fun Y hY => by
                  obtain ⟨g', e, hc⟩ := hY.row x q hq
                  cases e
                  exact hc)
                obtain ⟨po, pc, hpv, hpc, _⟩ := HX.out.prt q HQM.out
                obtain ⟨pn, hpn⟩ : ∃ pn, pn = q.1.ports.length := ⟨_, rfl⟩
                have HPN := hid hpn
                have hpnB : pn ≤ 64 := by rw [hpn]; exact HQ5.out q HQM.out
                rw [← hpn] at hpv hpc
                rw [hpv] at HRW
                have c0 := HRW.out wc HX.out
                have HPV := hid hpv
                clear hq hpv hpn
                go_wp2_with fail
                clear c0
                go_loopw [106] (fun vk wr => ∃ t : Nat, t ≤ pn ∧ vk = .int .i64 t ∧ Hid (Tld wa wr (some ⟨g, 0, none⟩) qs)) (fun vk _ => pn - (intOf vk).toNat)
                case atStart => exact ⟨0, Nat.zero_le _, rfl, HX⟩
                case round =>
                  obtain ⟨t, ht, rfl, HT⟩ := hrel
                  rename World => wd
                  by_cases htp : t < pn
                  · have htI : (t : Int) < (pn : Int) := by omega
                    have ht0 : (0 : Int) ≤ (t : Int) := by omega
                    have c0 := HRW.out wd HT.out
                    obtain ⟨b, bcs, rfl, hb1, hb2, hb3, hb4⟩ : ∃ b bcs, po = some ⟨b, 0, none⟩ ∧ wa.heap.size ≤ b ∧ (∀ g', (some ⟨g, 0, none⟩ : Option Addr) = some ⟨g', 0, none⟩ → b ≠ g') ∧ wd.heap[b]? = some (.cells bcs 9 (0, 0)) ∧ pn ≤ bcs.size := by
                      obtain ⟨ao', cap', e1, _, q0 | ⟨b, bcs, e3, e4, e5, e6, e7⟩⟩ := HT.out.prt q HQM.out
                      · rw [← HPN.out] at q0; omega
                      · rw [HPV.out, ← HPN.out] at e1
                        injection e1 with e1 _ _
                        exact ⟨b, bcs, by rw [e1, e3], e4, e5, e6, by rw [HPN.out]; exact e7⟩
                    obtain ⟨ov, hov⟩ : ∃ ov, wd.cell? ⟨b, t, none⟩ = some ov := ⟨bcs[t]'(by omega), by rw [cell_at hb3]; exact Array.getElem?_eq_getElem _⟩
                    have hfz : wd.frozen? ⟨b, t, none⟩ = false := free_of hb3
                    have HST := hid (show ∀ x, Tld wa (wd.setCell ⟨b, t, none⟩ x) (some ⟨g, 0, none⟩) qs from fun x => HT.out.store hb1 hb2)
                    clear hb1 hb2 hb3 hb4
                    go_wp2
                    go_roundw
                    case rel => exact ⟨t + 1, by omega, by go_num, HST.out _⟩
                    case measure => simp [intOf]; omega
                  · have htI : ¬ ((t : Int) < (pn : Int)) := by omega
                    go_wp2
                    go_roundw
                    case rel => exact ⟨x + 1, by omega, by go_num, HT⟩
                    case measure => simp [intOf]; omega
              · have hxI : ¬ ((x : Int) < (tn : Int)) := by omega
                have HLW := hid (below_2 HA.out.low HX.out.low)
                obtain ⟨lo, nl, lc, -, hS0, hr1⟩ := two_rows (HA.out.fib.on HX.out.low) (HA.out.doc.on HX.out.low)
                have HR1 := hid hr1
                clear hr1
                go_wp2_with fail
                go_region_held2 (fun W' => W'.cell? ⟨qb, 1, none⟩ = some (.slice lo nl lc)) (first | exact hS0 | exact hS2 | exact hS3) (first | (go_at_call 12; refine (HR1.out _ ((Below.refl _ _).drew)).mono ?_; rintro en w8 ⟨a8, n8, c8, rfl, hb8, hS2, hsm⟩; have HSM := hid hsm; have HB8 := hid (below_2 ((Below.refl wc.heap.size wc).drew) hb8); clear hb8 hsm) | (go_at_call 11; refine HSM.out.mono ?_; rintro en w9 ⟨rfl, hb9⟩; have hS3 := (hb9.cell (block_old hS2)).trans hS2; have T9 := hid (below_2 HLW.out (below_2 HB8.out hb9)); clear hb9))
                clear hS0 hS2 hS3 HR1 HSM
                go_wp2
                go_ret
                exact ⟨rfl, T9.out⟩
      · have HM := hid (made_bad (w := wo) (ao := bo) (n := j) (cap := bc) h)
        have p2 := eqlR_two
        go_wp2_with fail
        refine HM.out.mono ?_
        rintro en w1 ⟨rfl, hb1⟩
        have B1 := hid (below_2 HB.out hb1)
        clear hb1
        go_wp2_with (go_at_call 10; refine (fawake _).mono ?_; rintro e wz ⟨rfl, hbz⟩; have BZ := hid (below_2 B1.out hbz); clear hbz)
        go_ret
        exact ⟨rfl, BZ.out⟩
end Go.Proofs.YtipmlcdnfaobiaaGreat
