/-
  check: a right list is one.
  inOrder: a right list.
  The document's Right, Or, New.
  The document's ite: the walk.
  The document's ite: the two halves, the node, what is kept of it.
-/
import Derived.Test.YtnkipdlfpnmgeaaBCanonAnd
import Derived.Test.YtnkipdlfpnmgeaaBTellAnd
namespace Go.Proofs.Ytnkipdlfpnmgeaa
open Go.RowKit Go.Maps
open Bd (Nd)

def qiteSpec (n : Nat) : Prop := ∀ {M : Nat} (s : QSt) (A : Bd.Fam s.bits M) (w : World) (y : QLay) (mb : Nat) (mv : Value) (D : List Dn) (a b c kk : Nat), QTab w y s → Bd.Within A s.L → s.bits * M ≤ 524288 → MemoAt w mb mv D → MemoOk s.L D →
  a < s.L.length + 2 → b < s.L.length + 2 → c < s.L.length + 2 → (b < 2 ∨ c < 2) → kk ≤ Bd.bitOf s.L a → kk ≤ Bd.bitOf s.L b → kk ≤ Bd.bitOf s.L c → A.F kk (Bd.iteF (Bd.den s.L a) (Bd.den s.L b) (Bd.den s.L c)) → 128 - kk ≤ n →
  Calls Try.prog 55 #[.pointer (some ⟨y.tb, 0, none⟩), .pointer (some ⟨mb, 0, none⟩), i6 a, i6 b, i6 c] w fun e w' => ∃ r, e = .returned (i6 r) ∧ QIteGot A w y s mb mv D kk w' r (Bd.iteF (Bd.den s.L a) (Bd.den s.L b) (Bd.den s.L c))

theorem half_old {L N : List Nd} {x k : Nat} (hx : x < L.length + 2) (hk : k < 128) (b : Bool) : halfOf (L ++ N) x k b = halfOf L x k b := by
  have hb : Bd.bitOf (L ++ N) x = Bd.bitOf L x := Bd.bitOf_old _ _ hx
  have key : 2 ≤ x → (L ++ N).getD (x - 2) (0, 0, 0) = L.getD (x - 2) (0, 0, 0) := fun h2 => by
    rw [List.getD_eq_getElem?_getD, List.getD_eq_getElem?_getD, List.getElem?_append_left (by omega)]
  unfold halfOf Bd.loOf Bd.hiOf
  rw [hb]
  by_cases h : Bd.bitOf L x = k
  · have h2 := Bd.half_at hk h
    rw [key h2]
  · simp only [if_neg h]
theorem half_end {L : List Nd} {x k : Nat} (hx : x < 2) (hk : k < 128) (b : Bool) : halfOf L x k b = x := by
  unfold halfOf Bd.loOf Bd.hiOf
  simp only [Bd.bitOf_end _ hx, if_neg (show ¬ 128 = k by omega)]
  split <;> rfl
theorem half_facts {bits : Nat} {L : List Nd} (hL : Bd.Okay bits L) {x k : Nat} (hx : x < L.length + 2) (hk : k < 128) (hb : k ≤ Bd.bitOf L x) (b : Bool) :
    halfOf L x k b < L.length + 2 ∧ Bd.den L (halfOf L x k b) = Bd.cof (Bd.den L x) k b ∧ k < Bd.bitOf L (halfOf L x k b) := by
  obtain ⟨a1, a2⟩ := Bd.lo_lt hL hx hk
  obtain ⟨a3, a4⟩ := Bd.bit_half hL hx hk hb
  obtain ⟨a5, a6⟩ := Bd.den_half hL hx hk hb
  cases b
  · exact ⟨a1, a5, a3⟩
  · exact ⟨a2, a6, a4⟩

/-- Behind the node: the memo lies at hand. -/
structure QMid {bits M : Nat} (A : Bd.Fam bits M) (w : World) (y : QLay) (s : QSt) (mb : Nat) (mv : Value) (D : List Dn) (k : Nat) (w' : World) (r : Nat) (f : Bd.Fn) (v : Value) (n : Nat) : Prop where
  ex : ∃ N y' E, QTab w' y' (s.grow N) ∧ Bd.Within A (s.L ++ N) ∧ r < (s.L ++ N).length + 2 ∧ Bd.den (s.L ++ N) r = f ∧ MemoAt w' mb v (D ++ E) ∧ n = (D ++ E).length ∧ MemoOk (s.L ++ N) (D ++ E) ∧ Late (s.L ++ N) k E ∧ Touch (iown y mb mv) (iown y' mb v) w w' ∧ y'.tb = y.tb

theorem qite_three {n M : Nat} (ih : qiteSpec n) {w : World} {y : QLay} {s : QSt} (A : Bd.Fam s.bits M) (hT : QTab w y s) (hW : Bd.Within A s.L) (hbM : s.bits * M ≤ 524288) {mb : Nat} {mv : Value} {D : List Dn} (hM : MemoAt w mb mv D) (hK : MemoOk s.L D) (a b c kk k : Nat)
    (ha : a < s.L.length + 2) (hb : b < s.L.length + 2) (hc : c < s.L.length + 2) (h2 : b < 2 ∨ c < 2) (hkk : kk ≤ k) (hka : k ≤ Bd.bitOf s.L a) (hkb : k ≤ Bd.bitOf s.L b) (hkc : k ≤ Bd.bitOf s.L c) (hkbits : k < s.bits) (hF : A.F kk (Bd.iteF (Bd.den s.L a) (Bd.den s.L b) (Bd.den s.L c))) (hn : 128 - kk ≤ n + 1)
    (W : World) (hBW : Below w.heap.size w W) :
    Calls Try.prog 55 #[.pointer (some ⟨y.tb, 0, none⟩), .pointer (some ⟨mb, 0, none⟩), i6 (halfOf s.L a k false), i6 (halfOf s.L b k false), i6 (halfOf s.L c k false)] W fun e w1 => ∃ r1, e = .returned (i6 r1) ∧
      Hid (∀ x, x < s.L.length + 2 → ∀ q, Calls Try.prog 79 #[.pointer (some ⟨y.tb, 0, none⟩), i6 x, i6 k, .bool q] w1 fun e w' => e = .returned (i6 (halfOf s.L x k q)) ∧ w' = w1) ∧
      Hid (Calls Try.prog 55 #[.pointer (some ⟨y.tb, 0, none⟩), .pointer (some ⟨mb, 0, none⟩), i6 (halfOf s.L a k true), i6 (halfOf s.L b k true), i6 (halfOf s.L c k true)] w1 fun e w2 => ∃ r2, e = .returned (i6 r2) ∧
        Hid (Calls Try.prog 50 #[.pointer (some ⟨y.tb, 0, none⟩), i6 k, i6 r1, i6 r2] w2 fun e w3 => ∃ r ao n3 cap, e = .returned (i6 r) ∧ w3.cell? ⟨mb, 0, none⟩ = some (.slice ao n3 cap) ∧ n3 ≤ 1099520016400 ∧
          Hid (QMid A w y s mb mv D (k + 1) w3 r (Bd.iteF (Bd.den s.L a) (Bd.den s.L b) (Bd.den s.L c)) (.slice ao n3 cap) n3))) := by
  have hf128 := hT.okay.few
  have hk128 : k < 128 := by omega
  have hTW := hT.below hBW
  have hMW := hM.below hBW
  obtain ⟨a1, a5, a3⟩ := half_facts hT.okay ha hk128 hka false
  obtain ⟨b1, b5, b3⟩ := half_facts hT.okay hb hk128 hkb false
  obtain ⟨c1, c5, c3⟩ := half_facts hT.okay hc hk128 hkc false
  obtain ⟨a2, a6, a4⟩ := half_facts hT.okay ha hk128 hka true
  obtain ⟨b2, b6, b4⟩ := half_facts hT.okay hb hk128 hkb true
  obtain ⟨c2, c6, c4⟩ := half_facts hT.okay hc hk128 hkc true
  have hend : ∀ q, halfOf s.L b k q < 2 ∨ halfOf s.L c k q < 2 := fun q => by
    rcases h2 with h | h
    · left; rw [half_end h hk128]; exact h
    · right; rw [half_end h hk128]; exact h
  have hFrom : Bd.From k (Bd.iteF (Bd.den s.L a) (Bd.den s.L b) (Bd.den s.L c)) := Bd.from_iteF ((Bd.from_den hT.okay a ha).mono hka) ((Bd.from_den hT.okay b hb).mono hkb) ((Bd.from_den hT.okay c hc).mono hkc)
  have hFk := A.skip hF hFrom hkk (by omega)
  have hF0 := A.go k _ false hkbits hFk
  have hF1 := A.go k _ true hkbits hFk
  rw [Bd.cof_iteF, ← a5, ← b5, ← c5] at hF0
  rw [Bd.cof_iteF, ← a6, ← b6, ← c6] at hF1
  refine (ih s A W y mb mv D _ _ _ (k + 1) hTW hW hbM hMW hK a1 b1 c1 (hend false) a3 b3 c3 hF0 (by omega)).mono ?_
  rintro e w1 ⟨r1, rfl, ⟨N1, y1, v1, E1, t1, wi1, hr1, d1, m1, k1, la1, to1, tb1⟩⟩
  refine ⟨r1, rfl, fun x hx q => ?_, ?_⟩
  · have h := qhalf_any t1 x k q (by show x < (s.L ++ N1).length + 2; rw [List.length_append]; omega) hkbits
    have e : halfOf (s.grow N1).L x k q = halfOf s.L x k q := half_old hx hk128 q
    rw [e, tb1] at h
    exact h
  have l1len : (s.L ++ N1).length = s.L.length + N1.length := List.length_append
  have hF1' : A.F (k + 1) (Bd.iteF (Bd.den (s.L ++ N1) (halfOf s.L a k true)) (Bd.den (s.L ++ N1) (halfOf s.L b k true)) (Bd.den (s.L ++ N1) (halfOf s.L c k true))) := by
    rw [Bd.den_append_old _ _ a2, Bd.den_append_old _ _ b2, Bd.den_append_old _ _ c2]; exact hF1
  have h := ih (s.grow N1) A w1 y1 mb v1 (D ++ E1) (halfOf s.L a k true) (halfOf s.L b k true) (halfOf s.L c k true) (k + 1) t1 wi1 hbM m1 k1 (by show _ < (s.L ++ N1).length + 2; omega) (by show _ < (s.L ++ N1).length + 2; omega) (by show _ < (s.L ++ N1).length + 2; omega) (hend true)
    (by show _ ≤ Bd.bitOf (s.L ++ N1) _; rw [Bd.bitOf_old _ _ a2]; exact a4) (by show _ ≤ Bd.bitOf (s.L ++ N1) _; rw [Bd.bitOf_old _ _ b2]; exact b4) (by show _ ≤ Bd.bitOf (s.L ++ N1) _; rw [Bd.bitOf_old _ _ c2]; exact c4) hF1' (by omega)
  rw [tb1] at h
  refine h.mono ?_
  clear h
  rintro e w2 ⟨r2, rfl, ⟨N2, y2, v2, E2, t2, wi2, hr2, d2, m2, k2, la2, to2, tb2⟩⟩
  have tb2' : y2.tb = y.tb := tb2.trans tb1
  have t2' : QTab w2 y2 (s.grow (N1 ++ N2)) := by rw [← QSt.grow_grow]; exact t2
  have wi2' : Bd.Within A (s.L ++ (N1 ++ N2)) := by rw [← List.append_assoc]; exact wi2
  have hr2' : r2 < (s.L ++ (N1 ++ N2)).length + 2 := by rw [← List.append_assoc]; exact hr2
  have d2' : Bd.den (s.L ++ (N1 ++ N2)) r2 = Bd.cof (Bd.iteF (Bd.den s.L a) (Bd.den s.L b) (Bd.den s.L c)) k true := by
    have d2'' : Bd.den (s.L ++ N1 ++ N2) r2 = Bd.iteF (Bd.den (s.L ++ N1) (halfOf s.L a k true)) (Bd.den (s.L ++ N1) (halfOf s.L b k true)) (Bd.den (s.L ++ N1) (halfOf s.L c k true)) := d2
    rw [← List.append_assoc, d2'', Bd.cof_iteF, ← a6, ← b6, ← c6, Bd.den_append_old _ _ a2, Bd.den_append_old _ _ b2, Bd.den_append_old _ _ c2]
  have dr1 : Bd.den (s.L ++ (N1 ++ N2)) r1 = Bd.cof (Bd.iteF (Bd.den s.L a) (Bd.den s.L b) (Bd.den s.L c)) k false := by
    rw [← List.append_assoc, Bd.den_append_old _ _ hr1, d1, Bd.cof_iteF, a5, b5, c5]
  have l2len : (s.L ++ (N1 ++ N2)).length = s.L.length + N1.length + N2.length := by rw [List.length_append, List.length_append]; omega
  have hr1' : r1 < (s.L ++ (N1 ++ N2)).length + 2 := by omega
  have hmux : Bd.mux k (Bd.den (s.L ++ (N1 ++ N2)) r1) (Bd.den (s.L ++ (N1 ++ N2)) r2) = Bd.iteF (Bd.den s.L a) (Bd.den s.L b) (Bd.den s.L c) := by rw [dr1, d2', Bd.mux_cof]
  refine ⟨r2, rfl, ?_⟩
  have h := qnode_any (s := s.grow (N1 ++ N2)) A t2' wi2' (by show s.bits * M ≤ _; omega) k r1 r2 hkbits hr1' hr2' ?_ ?_ ?_
  rw [tb2'] at h
  refine h.mono ?_
  clear h
  · rintro e w3 ⟨r, rfl, ⟨N3, y3, t3, wi3, hr3, d3, to3, tb3⟩⟩
    have m2' : MemoAt w2 mb v2 (D ++ (E1 ++ E2)) := by rw [← List.append_assoc]; exact m2
    have k2' : MemoOk (s.L ++ (N1 ++ N2)) (D ++ (E1 ++ E2)) := by rw [← List.append_assoc, ← List.append_assoc]; exact k2
    obtain ⟨f1, f2⟩ := m2'.far t2'
    have m3 : MemoAt w3 mb v2 (D ++ (E1 ++ E2)) := m2'.same (to3.block _ m2'.lt.1 f1) (fun g hg => to3.block _ (m2'.lt.2 g hg) (f2 g hg))
    obtain ⟨ao, cap, hv⟩ := row_slice m3.row
    have hfew := k2'.few (by have := wi2'.few t2'.okay; omega)
    refine ⟨r, ao, (D ++ (E1 ++ E2)).length, cap, rfl, by rw [cell_at m3.cell, ← hv]; rfl, hfew, ?_⟩
    rw [← hv]
    have k3 : MemoOk (s.L ++ (N1 ++ N2) ++ N3) (D ++ (E1 ++ E2)) := k2'.grow N3
    have late : Late (s.L ++ (N1 ++ N2) ++ N3) (k + 1) (E1 ++ E2) := by
      have hfit : ∀ d, d ∈ E1 ++ E2 → d.1 < (s.L ++ (N1 ++ N2)).length + 2 ∧ d.2.1 < (s.L ++ (N1 ++ N2)).length + 2 ∧ d.2.2.1 < (s.L ++ (N1 ++ N2)).length + 2 := fun d hd => by
        obtain ⟨x1, x2, x3, _⟩ := k2'.fit d (List.mem_append.2 (Or.inr hd))
        exact ⟨x1, x2, x3⟩
      refine Late.grow (fun d hd => ?_) hfit N3
      rcases List.mem_append.1 hd with hd | hd
      · have hf1 : ∀ d, d ∈ E1 → d.1 < (s.L ++ N1).length + 2 ∧ d.2.1 < (s.L ++ N1).length + 2 ∧ d.2.2.1 < (s.L ++ N1).length + 2 := fun d hd => by
          obtain ⟨x1, x2, x3, _⟩ := k1.fit d (List.mem_append.2 (Or.inr hd))
          exact ⟨x1, x2, x3⟩
        have := Late.grow la1 hf1 N2 d hd
        rw [List.append_assoc] at this
        exact this
      · have := la2 d hd
        have e : (s.grow N1).L ++ N2 = s.L ++ (N1 ++ N2) := List.append_assoc _ _ _
        rw [e] at this
        exact this
    refine ⟨N1 ++ N2 ++ N3, y3, E1 ++ E2, by rw [← QSt.grow_grow]; exact t3, by rw [← List.append_assoc]; exact wi3, by rw [← List.append_assoc]; exact hr3, by rw [← List.append_assoc, ← hmux]; exact d3, m3, rfl, by rw [← List.append_assoc]; exact k3, by rw [← List.append_assoc]; exact late, ?_, tb3.trans tb2'⟩
    exact (((touch_below _ hBW).trans to1).trans to2).trans (to3.more _)
  · show k < Bd.bitOf (s.L ++ (N1 ++ N2)) r1
    have := Bd.bit_ge t2'.okay (r := r1) (k := k + 1) hr1' (by show Bd.From (k + 1) (Bd.den (s.L ++ (N1 ++ N2)) r1); rw [dr1]; exact Bd.from_cof hFrom _) (by omega)
    exact this
  · show k < Bd.bitOf (s.L ++ (N1 ++ N2)) r2
    have := Bd.bit_ge t2'.okay (r := r2) (k := k + 1) hr2' (by show Bd.From (k + 1) (Bd.den (s.L ++ (N1 ++ N2)) r2); rw [d2']; exact Bd.from_cof hFrom _) (by omega)
    exact this
  · show A.F k (Bd.mux k (Bd.den (s.L ++ (N1 ++ N2)) r1) (Bd.den (s.L ++ (N1 ++ N2)) r2))
    rw [hmux]; exact hFk

/-- Behind the append. -/
theorem qite_fin {bits M : Nat} {A : Bd.Fam bits M} {w w3 w4 : World} {y : QLay} {s : QSt} {mb : Nat} {mv : Value} {D : List Dn} {a b c kk k r n cap g : Nat} {ao : Option Addr} {o : Obj} (h : QMid A w y s mb mv D (k + 1) w3 r (Bd.iteF (Bd.den s.L a) (Bd.den s.L b) (Bd.den s.L c)) (.slice ao n cap) n)
    (ha : a < s.L.length + 2) (hb : b < s.L.length + 2) (hc : c < s.L.length + 2) (h2 : b < 2 ∨ c < 2) (hkk : kk ≤ k) (hka : k ≤ Bd.bitOf s.L a) (hkb : k ≤ Bd.bitOf s.L b) (hkc : k ≤ Bd.bitOf s.L c) (hat : Bd.bitOf s.L a = k ∨ Bd.bitOf s.L b = k ∨ Bd.bitOf s.L c = k) (hmiss : ∀ d, d ∈ D → keyD d ≠ (a, b, c))
    {v : Value} (hv : v.ownBlock = some g) (hown : ∀ D', n = D'.length → w3.ownsRow 0 138 4 (.slice ao n cap) n (dones D') → w4.ownsRow 0 138 4 v (n + 1) (dones D' ++ [i6 a, i6 b, i6 c, i6 r])) (hg : (w3.alloc o).grownBy w4 (Value.slice ao n cap).ownBlock) (hgat : (Value.slice ao n cap).ownBlock = some g ∨ g = w3.heap.size + 1) :
    QIteGot A w y s mb mv D kk (w4.setCell ⟨mb, 0, none⟩ v) r (Bd.iteF (Bd.den s.L a) (Bd.den s.L b) (Bd.den s.L c)) := by
  obtain ⟨N, y', E, hT, hW, hr, hd, hM, hn, hK, hL, hto, htb⟩ := h.ex
  have hrow := hM.row
  rw [← hn] at hrow
  have hown' := hown (D ++ E) hn hrow
  have hap := hM.apart
  have lmb := hM.lt.1
  have hcell : w4.heap[mb]? = _ := (grown_old hg lmb hap).trans hM.cell
  have hgm : g ≠ mb := by
    rcases hgat with e | e
    · intro e'; rw [e'] at e; exact hap e
    · omega
  have hgs : w3.heap.size + 1 ≤ w4.heap.size := by have := hg.size; simpa using this
  obtain ⟨f1, f2⟩ := hM.far hT
  have eo : ∀ x, x < s.L.length + 2 → Bd.bitOf (s.L ++ N) x = Bd.bitOf s.L x ∧ Bd.den (s.L ++ N) x = Bd.den s.L x := fun x hx => ⟨Bd.bitOf_old _ _ hx, Bd.den_append_old _ _ hx⟩
  have hlen : (s.L ++ N).length = s.L.length + N.length := List.length_append
  refine ⟨N, y', v, E ++ [(a, b, c, r)], ?_, hW, hr, hd, ⟨by rw [set_block (o := 0) v hcell]; rfl, ?_⟩, ?_, ?_, ?_, htb⟩
  · refine hT.same fun q hq => ?_
    rw [set_other v (fun e => f1 (by rw [← show q = mb from e]; exact hq))]
    exact grown_old hg (hT.lt hq) (fun e => f2 q e hq)
  · have e1 : (D ++ (E ++ [(a, b, c, r)])).length = n + 1 := by rw [← List.append_assoc, List.length_append, ← hn]; rfl
    rw [e1, ← List.append_assoc, dones_snoc]
    exact row_same hown' fun g' hg' => set_other v (by rw [hv] at hg'; cases hg'; exact hgm)
  · rw [← List.append_assoc]
    refine hK.put (by omega) (by omega) (by omega) hr h2 (by rw [hd, (eo a ha).2, (eo b hb).2, (eo c hc).2]) (fun d hd' e => ?_)
    rcases List.mem_append.1 hd' with h | h
    · exact hmiss d h e
    · have hl := hL d h
      have e1 : d.1 = a := congrArg Prod.fst e
      have e2 : d.2.1 = b := congrArg (fun x => x.2.1) e
      have e3 : d.2.2.1 = c := congrArg (fun x => x.2.2) e
      rw [e1, e2, e3, (eo a ha).1, (eo b hb).1, (eo c hc).1] at hl
      omega
  · intro d hd'
    rcases List.mem_append.1 hd' with h | h
    · exact Late.mono hL (by omega) d h
    · simp at h
      subst h
      show kk ≤ Bd.bitOf (s.L ++ N) a ∧ kk ≤ Bd.bitOf (s.L ++ N) b ∧ kk ≤ Bd.bitOf (s.L ++ N) c
      rw [(eo a ha).1, (eo b hb).1, (eo c hc).1]
      omega
  · refine hto.trans (set_touch (v := v) (i := 0) _ (Or.inr (Or.inl rfl)) (fun q hq => Or.inr (Or.inr hq)) hg _ (fun q hq => ?_))
    rcases hq with e | e | e
    · exact Or.inl (Or.inl e)
    · exact Or.inl (Or.inr (Or.inl e))
    · rw [hv] at e
      cases e
      rcases hgat with e | e
      · exact Or.inl (Or.inr (Or.inr e))
      · exact Or.inr (by omega)
end Go.Proofs.Ytnkipdlfpnmgeaa
namespace Go.Proofs.Ytnkipdlfpnmgeaa
open Go.RowKit Go.Maps
open Bd (Nd)

theorem Try.infoDone : (Try.prog.info? 138).map (fun i => (i.zero, i.size, i.bytes)) = some (some (.agg #[i6 0, i6 0, i6 0, i6 0]), 4, 32) := by kernel_rfl

/-- A row holds one list. -/
theorem row_uniq {w : World} {base e size n : Nat} {v : Value} {xs ys : List Value} (h1 : w.ownsRow base e size v n xs) (h2 : w.ownsRow base e size v n ys) : xs = ys := by
  have l1 := h1.1
  have l2 := h2.1
  rcases h1.2 with ⟨x1, x2⟩ | ⟨g, cp, cur, x1, _, x3, _, _, _, x7⟩
  · rw [x2, Nat.zero_mul] at l1 l2
    rw [List.length_eq_zero_iff.1 l1, List.length_eq_zero_iff.1 l2]
  · rcases h2.2 with ⟨z1, z2⟩ | ⟨g', cp', cur', z1, _, z3, _, _, _, z7⟩
    · rw [z2, Nat.zero_mul] at l1 l2
      rw [List.length_eq_zero_iff.1 l1, List.length_eq_zero_iff.1 l2]
    · rw [x1] at z1
      cases z1
      rw [x3] at z3
      cases z3
      rw [← x7, ← z7]
theorem run_min_nat {P : Program} {w : World} (ts : Array TypeId) (t : TypeId) (k k' : IntKind) (p q : Nat) : (Builtin.min_ ts t #[.int k (p : Int), .int k' (q : Int)]).run P w = .ok (.int k ((min p q : Nat) : Int)) w := by
  rw [run_min_int2]
  have e : (if (q : Int) < (p : Int) then (q : Int) else (p : Int)) = ((min p q : Nat) : Int) := by split <;> omega
  rw [e]
attribute [local go_sem ↓] run_min_nat

set_option maxHeartbeats 400000 in
theorem qite_first (w : World) (tb mb a b c : Nat) (h : a = 1 ∨ b = c) : Calls Try.prog 55 #[.pointer (some ⟨tb, 0, none⟩), .pointer (some ⟨mb, 0, none⟩), i6 a, i6 b, i6 c] w fun e w' => e = .returned (i6 b) ∧ w' = w := by
  by_cases h1 : a = 1
  · subst h1
    go_enter Try.func55, Try.ntmps55
    go_wp2
    go_ret
    exact ⟨rfl, rfl⟩
  · have e1 : ((a : Int) == 1) = false := by rw [beq_eq_false_iff_ne]; omega
    have hb : b = c := by omega
    subst hb
    go_enter Try.func55, Try.ntmps55
    go_wp2
    go_ret
    exact ⟨rfl, rfl⟩
set_option maxHeartbeats 400000 in
theorem qite_zero (w : World) (tb mb b c : Nat) (hbc : b ≠ c) : Calls Try.prog 55 #[.pointer (some ⟨tb, 0, none⟩), .pointer (some ⟨mb, 0, none⟩), i6 0, i6 b, i6 c] w fun e w' => e = .returned (i6 c) ∧ w' = w := by
  have eb : ((b : Int) == (c : Int)) = false := by rw [beq_eq_false_iff_ne]; omega
  go_enter Try.func55, Try.ntmps55
  go_wp2
  go_ret
  exact ⟨rfl, rfl⟩

set_option maxRecDepth 2000 in
set_option maxHeartbeats 4000000 in
theorem qite_loop {n0 M : Nat} (ih : qiteSpec n0) {w : World} {y : QLay} {s : QSt} (A : Bd.Fam s.bits M) (hT : QTab w y s) (hW : Bd.Within A s.L) (hbM : s.bits * M ≤ 524288) {mb : Nat} {mv : Value} {D : List Dn} (hM : MemoAt w mb mv D) (hK : MemoOk s.L D) (a b c kk : Nat)
    (ha : a < s.L.length + 2) (hb : b < s.L.length + 2) (hc : c < s.L.length + 2) (h2 : b < 2 ∨ c < 2) (hka : kk ≤ Bd.bitOf s.L a) (hkb : kk ≤ Bd.bitOf s.L b) (hkc : kk ≤ Bd.bitOf s.L c) (hF : A.F kk (Bd.iteF (Bd.den s.L a) (Bd.den s.L b) (Bd.den s.L c))) (hn : 128 - kk ≤ n0 + 1)
    (ha2 : 2 ≤ a) (hbc : b ≠ c) :
    Calls Try.prog 55 #[.pointer (some ⟨y.tb, 0, none⟩), .pointer (some ⟨mb, 0, none⟩), i6 a, i6 b, i6 c] w fun e w' => ∃ r, e = .returned (i6 r) ∧ QIteGot A w y s mb mv D kk w' r (Bd.iteF (Bd.den s.L a) (Bd.den s.L b) (Bd.den s.L c)) := by
  have e1 : ((a : Int) == 1) = false := by rw [beq_eq_false_iff_ne]; omega
  have e0 : ((a : Int) == 0) = false := by rw [beq_eq_false_iff_ne]; omega
  have eb : ((b : Int) == (c : Int)) = false := by rw [beq_eq_false_iff_ne]; omega
  have hfew := hT.okay.few
  have hba := Bd.bitOf_lt hT.okay ha2 ha
  have hq : ∀ x, x < s.L.length + 2 → qbit s.bits s.L x ≤ Bd.bitOf s.L x ∧ (qbit s.bits s.L x < s.bits → qbit s.bits s.L x = Bd.bitOf s.L x) := fun x hx => by
    unfold qbit
    split
    · rename_i h
      rw [Bd.bitOf_end _ h]
      omega
    · exact ⟨Nat.le_refl _, fun _ => rfl⟩
  obtain ⟨k0, hk0⟩ : ∃ k0, k0 = min (qbit s.bits s.L a) (min (qbit s.bits s.L b) (qbit s.bits s.L c)) := ⟨_, rfl⟩
  have hqa : qbit s.bits s.L a = Bd.bitOf s.L a := by unfold qbit; rw [if_neg (by omega)]
  have hKB : kk ≤ k0 ∧ k0 ≤ Bd.bitOf s.L a ∧ k0 ≤ Bd.bitOf s.L b ∧ k0 ≤ Bd.bitOf s.L c ∧ k0 < s.bits ∧ (Bd.bitOf s.L a = k0 ∨ Bd.bitOf s.L b = k0 ∨ Bd.bitOf s.L c = k0) := by
    have h1 := hq a ha
    have h2 := hq b hb
    have h3 := hq c hc
    have h4 : kk ≤ qbit s.bits s.L b := by
      rcases Nat.lt_or_ge (qbit s.bits s.L b) s.bits with h | h
      · rw [h2.2 h]; exact hkb
      · omega
    have h5 : kk ≤ qbit s.bits s.L c := by
      rcases Nat.lt_or_ge (qbit s.bits s.L c) s.bits with h | h
      · rw [h3.2 h]; exact hkc
      · omega
    refine ⟨by omega, by omega, by omega, by omega, by omega, ?_⟩
    by_cases x1 : k0 = qbit s.bits s.L a
    · left; omega
    · by_cases x2 : k0 = qbit s.bits s.L b
      · right; left; have := h2.2 (by omega); omega
      · right; right; have x3 : k0 = qbit s.bits s.L c := by omega
        have := h3.2 (by omega); omega
  have HKB := keep hKB
  have HBIT : Hid (∀ x, x < s.L.length + 2 → ∀ W, Below w.heap.size w W → Calls Try.prog 78 #[.pointer (some ⟨y.tb, 0, none⟩), i6 x] W fun e w' => e = .returned (i6 (qbit s.bits s.L x)) ∧ w' = W) := fun x hx W hB => qbit_any (hT.below hB) x hx
  have HHALF : Hid (∀ x, x < s.L.length + 2 → ∀ q W, Below w.heap.size w W → Calls Try.prog 79 #[.pointer (some ⟨y.tb, 0, none⟩), i6 x, i6 k0, .bool q] W fun e w' => e = .returned (i6 (halfOf s.L x k0 q)) ∧ w' = W) := fun x hx q W hB => qhalf_any (hT.below hB) x k0 q hx hKB.2.2.2.2.1
  have HTHREE := keep (fun W hBW => qite_three ih A hT hW hbM hM hK a b c kk k0 ha hb hc h2 hKB.1 hKB.2.1 hKB.2.2.1 hKB.2.2.2.1 hKB.2.2.2.2.1 hF hn W hBW)
  have hDfew := hK.few (by have := hW.few hT.okay; omega)
  have HT := keep hT
  have HW := keep hW
  have HM := keep hM
  have HMK := keep hK
  have HA := keep ha
  have HB := keep hb
  have HC := keep hc
  have H2 := keep h2
  obtain ⟨ao, cap, hmv⟩ := row_slice hM.row
  obtain ⟨n, hnn⟩ : ∃ n, n = D.length := ⟨_, rfl⟩
  have HN := keep hnn
  have c0 : w.cell? ⟨mb, 0, none⟩ = some (.slice ao n cap) := by rw [cell_at hM.cell, hnn, ← hmv]; rfl
  have lmb := hM.lt.1
  have HMV := keep hmv
  rw [← hnn] at hDfew
  have hmin : (if (qbit s.bits s.L c : Int) < (qbit s.bits s.L b : Int) then (qbit s.bits s.L c : Int) else (qbit s.bits s.L b : Int)) = ((min (qbit s.bits s.L b) (qbit s.bits s.L c) : Nat) : Int) := by
    split <;> omega
  have hk0I : (k0 : Int) ≤ 128 := by have := hKB.2.2.2.2.1; omega
  have hsm := hT.small.1
  obtain ⟨i0, hi0, hz0, hz1, hz2⟩ := info_parts Try.infoDone
  have HI := keep hi0
  have HZ0 := keep hz0
  have HZ1 := keep hz1
  have HZ2 := keep hz2
  have HK0 := keep hk0
  clear hT hW hM hK hF hq hqa hKB h2 hka hkb hkc ih hmv hnn hk0 hi0 hz0 hz1 hz2 hba ha hb hc
  go_enter Try.func55, Try.ntmps55
  go_wp2
  go_loopw [11] (fun i wr => ∃ j : Nat, j ≤ n ∧ i = .int .i64 j ∧ Hid (∀ q d, q < j → D[q]? = some d → keyD d ≠ (a, b, c)) ∧ Hid (Below w.heap.size w wr)) (fun i _ => n - (intOf i).toNat)
  case atStart => exact ⟨0, Nat.zero_le _, rfl, fun q d hq => absurd hq (Nat.not_lt_zero q), Below.refl _ _⟩
  case round =>
    obtain ⟨j, hj, rfl, HQ, HBL⟩ := hrel
    have c0r : wr.cell? ⟨mb, 0, none⟩ = some (.slice ao n cap) := by rw [HBL.out.cell (by exact lmb)]; exact c0
    by_cases hlt : j < n
    · obtain ⟨x, hx⟩ : ∃ x, D[j]? = some x := ⟨D[j]'(by rw [← HN.out]; exact hlt), List.getElem?_eq_getElem (by rw [← HN.out]; exact hlt)⟩
      have HX := keep hx
      obtain ⟨g, cap', hv, d0, d1, d2, d3⟩ := (HM.out.below HBL.out).done hx
      rw [HMV.out] at hv
      cases hv
      clear hx
      have hjI : (j : Int) < (n : Int) := by omega
      have hnI : (n : Int) ≤ 1099520016400 := by omega
      by_cases x0 : x.1 = a
      · by_cases x1 : x.2.1 = b
        · by_cases x2 : x.2.2.1 = c
          · have HR : Hid (∀ w', Below w.heap.size w w' → QIteGot A w y s mb mv D kk w' x.2.2.2 (Bd.iteF (Bd.den s.L a) (Bd.den s.L b) (Bd.den s.L c))) := fun w' hb' => by
              obtain ⟨_, _, _, f4, _, f6⟩ := HMK.out.fit x (List.mem_of_getElem? HX.out)
              rw [x0, x1, x2] at f6
              exact QIteGot.same HT.out HW.out HM.out HMK.out f4 f6 hb'
            rw [x0] at d0
            rw [x1] at d1
            rw [x2] at d2
            clear x0 x1 x2 HX
            go_wp2
            go_ret
            exact ⟨x.2.2.2, rfl, HR.out _ HBL.out⟩
          · have hb2 : ((x.2.2.1 : Int) == (c : Int)) = false := by rw [beq_eq_false_iff_ne]; omega
            have HQ2 : Hid (∀ q d, q < j + 1 → D[q]? = some d → keyD d ≠ (a, b, c)) := fun q d hq hd => by
              by_cases e : q = j
              · subst e; rw [HX.out] at hd; cases hd; intro h; exact x2 (congrArg (fun z => z.2.2) h)
              · exact HQ.out q d (by omega) hd
            rw [x0] at d0
            rw [x1] at d1
            clear x0 x1 x2 HX HQ
            go_wp2
            go_roundw
            case rel => exact ⟨j + 1, by omega, by go_num, HQ2, HBL⟩
            case measure => simp [intOf]; omega
        · have hb1 : ((x.2.1 : Int) == (b : Int)) = false := by rw [beq_eq_false_iff_ne]; omega
          have HQ2 : Hid (∀ q d, q < j + 1 → D[q]? = some d → keyD d ≠ (a, b, c)) := fun q d hq hd => by
            by_cases e : q = j
            · subst e; rw [HX.out] at hd; cases hd; intro h; exact x1 (congrArg (fun z => z.2.1) h)
            · exact HQ.out q d (by omega) hd
          rw [x0] at d0
          clear x0 x1 HX HQ
          go_wp2
          go_roundw
          case rel => exact ⟨j + 1, by omega, by go_num, HQ2, HBL⟩
          case measure => simp [intOf]; omega
      · have hb0 : ((x.1 : Int) == (a : Int)) = false := by rw [beq_eq_false_iff_ne]; omega
        have HQ2 : Hid (∀ q d, q < j + 1 → D[q]? = some d → keyD d ≠ (a, b, c)) := fun q d hq hd => by
          by_cases e : q = j
          · subst e; rw [HX.out] at hd; cases hd; intro h; exact x0 (congrArg (fun z => z.1) h)
          · exact HQ.out q d (by omega) hd
        clear x0 HX HQ
        go_wp2
        go_roundw
        case rel => exact ⟨j + 1, by omega, by go_num, HQ2, HBL⟩
        case measure => simp [intOf]; omega
    · have hjn : j = n := by omega
      subst hjn
      have HBA := keep (HBIT.out a HA.out wr HBL.out)
      have HBB := keep (HBIT.out b HB.out wr HBL.out)
      have HBC := keep (HBIT.out c HC.out wr HBL.out)
      have HHA := keep (HHALF.out a HA.out false wr HBL.out)
      have HHB := keep (HHALF.out b HB.out false wr HBL.out)
      have HHC := keep (HHALF.out c HC.out false wr HBL.out)
      have HI1 := keep (HTHREE.out wr HBL.out)
      have HK0' := HK0.out
      generalize qbit s.bits s.L a = pa at *
      generalize qbit s.bits s.L b = pb at *
      generalize qbit s.bits s.L c = pc at *
      clear HBIT HHALF HTHREE HK0'
      go_wp2_with fail
      refine HBA.out.mono ?_
      rintro e w' ⟨rfl, rfl⟩
      go_wp2_with fail
      refine HBB.out.mono ?_
      rintro e w' ⟨rfl, rfl⟩
      go_wp2_with fail
      refine HBC.out.mono ?_
      rintro e w' ⟨rfl, rfl⟩
      go_wp2_with fail
      simp only [← HK0.out]
      refine HHA.out.mono ?_
      rintro e w' ⟨rfl, rfl⟩
      go_wp2_with fail
      refine HHB.out.mono ?_
      rintro e w' ⟨rfl, rfl⟩
      go_wp2_with fail
      refine HHC.out.mono ?_
      rintro e w' ⟨rfl, rfl⟩
      go_wp2_with fail
      refine HI1.out.mono ?_
      rintro e w1 ⟨r1, rfl, HH, HI2⟩
      have HHA2 := keep (HH.out a HA.out true)
      have HHB2 := keep (HH.out b HB.out true)
      have HHC2 := keep (HH.out c HC.out true)
      clear HHA HHB HHC HI1 HBA HBB HBC HH c0r
      go_wp2_with fail
      refine HHA2.out.mono ?_
      rintro e w' ⟨rfl, rfl⟩
      go_wp2_with fail
      refine HHB2.out.mono ?_
      rintro e w' ⟨rfl, rfl⟩
      go_wp2_with fail
      refine HHC2.out.mono ?_
      rintro e w' ⟨rfl, rfl⟩
      go_wp2_with fail
      refine HI2.out.mono ?_
      rintro e w2 ⟨r2, rfl, HI3⟩
      clear HHA2 HHB2 HHC2 HI2
      go_wp2_with fail
      refine HI3.out.mono ?_
      rintro e w3 ⟨r, ao3, n3, cap3, rfl, q0, hn3, HMID⟩
      clear HI3
      have HROW : Hid (∃ D3, n3 = D3.length ∧ ∀ o, (w3.alloc o).ownsRow 0 138 4 (.slice ao3 n3 cap3) n3 (dones D3)) := by
        obtain ⟨N, y', E, _, _, _, _, hM3, hn3', _⟩ := HMID.out.ex
        have := hM3.row
        rw [← hn3'] at this
        exact ⟨_, hn3', fun o => this.alloc o⟩
      have HFZ : Hid (∀ o w4, (w3.alloc o).grownBy w4 (Value.slice ao3 n3 cap3).ownBlock → w4.cell? ⟨mb, 0, none⟩ = some (.slice ao3 n3 cap3) ∧ w4.frozen? ⟨mb, 0, none⟩ = false) := fun o w4 hg => by
        obtain ⟨N, y', E, _, _, _, _, hM3, _⟩ := HMID.out.ex
        have h := (grown_old hg hM3.lt.1 hM3.apart).trans hM3.cell
        exact ⟨by rw [cell_at h]; rfl, not_frozen h⟩
      obtain ⟨D3, hD3, hrow3⟩ := HROW.out
      have HD3 := keep hD3
      have HR3 := keep hrow3
      clear hD3 hrow3 HROW
      go_wp2_with (at_builtin; refine wpList_append_lies _ rfl (.tmp 128) (.tmp 134) 103 rfl 0 138 i0 (.agg #[i6 0, i6 0, i6 0, i6 0]) 4 32 Try.underlying103 HI.out HZ0.out HZ1.out HZ2.out rfl (by decide) (.slice ao3 n3 cap3) n3 (dones D3) rfl (HR3.out _) ⟨w3.heap.size, 0, none⟩ 1 1 [.int .i64 a, .int .i64 b, .int .i64 c, .int .i64 r] rfl rfl (World.news_of_block (heap_alloc_new w3 _)) (by simp [Value.oneCell']) (by decide) (by unfold maxLen; omega) (by omega) (Nat.zero_le _) (w3.heap.size + 1) (by simp) ?_)
      intro g4 cap4 w4 hown4 hgrow4 hat4 hlt4
      obtain ⟨q4, f4⟩ := HFZ.out _ w4 hgrow4
      have HFIN : Hid (QIteGot A w y s mb mv D kk (w4.setCell ⟨mb, 0, none⟩ (.slice (some ⟨g4, 0, none⟩) (n3 + 1) cap4)) r (Bd.iteF (Bd.den s.L a) (Bd.den s.L b) (Bd.den s.L c))) := by
        obtain ⟨p1, p2, p3, p4, p5, p6⟩ := HKB.out
        refine qite_fin HMID.out HA.out HB.out HC.out H2.out p1 p2 p3 p4 p6 (fun d hd => ?_) rfl (fun D' hD' hr' => ?_) hgrow4 hat4
        · obtain ⟨q, hq⟩ := List.getElem?_of_mem hd
          exact HQ.out q d (by rw [HN.out]; exact Bd.getElem?_lt hq) hq
        · have e : dones D' = dones D3 := by
            exact row_uniq (hr'.alloc (.cells #[] 3)) (HR3.out _)
          rw [e]
          exact hown4
      clear hown4 hgrow4 hat4 HFZ HMID
      go_wp2
      go_ret
      exact ⟨r, rfl, HFIN.out⟩

theorem qite_all : ∀ n, qiteSpec n := by
  intro n
  induction n with
  | zero =>
    intro M s A w y mb mv D a b c kk hT hW hbM hM hK ha hb hc h2 hka hkb hkc hF hn
    have hf := hT.okay.few
    have ha2 : a < 2 := by
      rcases Nat.lt_or_ge a 2 with h | h
      · exact h
      · have := Bd.bitOf_lt hT.okay h ha; omega
    by_cases h1 : a = 1 ∨ b = c
    · refine (qite_first w y.tb mb a b c h1).mono ?_
      rintro e w' ⟨rfl, rfl⟩
      refine ⟨b, rfl, QIteGot.same hT hW hM hK hb ?_ (Below.refl _ _)⟩
      rcases h1 with h | h
      · rw [h, Bd.den_one, iteF_one]
      · rw [h, iteF_same]
    · have h0 : a = 0 := by omega
      subst h0
      refine (qite_zero w y.tb mb b c (by omega)).mono ?_
      rintro e w' ⟨rfl, rfl⟩
      exact ⟨c, rfl, QIteGot.same hT hW hM hK hc (by rw [Bd.den_zero, iteF_zero]) (Below.refl _ _)⟩
  | succ n ih =>
    intro M s A w y mb mv D a b c kk hT hW hbM hM hK ha hb hc h2 hka hkb hkc hF hn
    by_cases h1 : a = 1 ∨ b = c
    · refine (qite_first w y.tb mb a b c h1).mono ?_
      rintro e w' ⟨rfl, rfl⟩
      refine ⟨b, rfl, QIteGot.same hT hW hM hK hb ?_ (Below.refl _ _)⟩
      rcases h1 with h | h
      · rw [h, Bd.den_one, iteF_one]
      · rw [h, iteF_same]
    · by_cases h0 : a = 0
      · subst h0
        refine (qite_zero w y.tb mb b c (by omega)).mono ?_
        rintro e w' ⟨rfl, rfl⟩
        exact ⟨c, rfl, QIteGot.same hT hW hM hK hc (by rw [Bd.den_zero, iteF_zero]) (Below.refl _ _)⟩
      · exact qite_loop ih A hT hW hbM hM hK a b c kk ha hb hc h2 hka hkb hkc hF hn (by omega) (by omega)
end Go.Proofs.Ytnkipdlfpnmgeaa
namespace Go.Proofs.Ytnkipdlfpnmgeaa
open Go.RowKit Go.Maps
open Bd (Nd)

/-- Is a ref told? -/
def QSt.has (s : QSt) (r : Nat) : Prop := r < 2 ∨ s.T[r - 2]? = some true

set_option maxHeartbeats 2000000 in
theorem qright_ok {w : World} {y : QLay} {s : QSt} (hT : QTab w y s) (v : Value) (ls : List Nat) (hR : RefsAt w v ls) (hl : ls.length ≤ 1000000) (hh : ∀ r, r ∈ ls → s.has r) :
    Calls Try.prog 38 #[.pointer (some ⟨y.tb, 0, none⟩), v] w fun e w' => e = .returned (.bool true) ∧ Below w.heap.size w w' := by
  obtain ⟨ao, cap, rfl, hc⟩ := hR
  have HT := keep hT
  have HC := keep hc
  have HH := keep hh
  have hsm := hT.small.1
  have hlT := hT.lenT
  obtain ⟨n, hn⟩ : ∃ n, n = ls.length := ⟨_, rfl⟩
  have HN := keep hn
  rw [← hn] at hl ⊢
  have hnI : (n : Int) ≤ 1000000 := by omega
  clear hT hc hh hn
  go_enter Try.func38, Try.ntmps38
  go_wp2
  go_loopw [5] (fun i wr => ∃ j : Nat, j ≤ n ∧ i = .int .i64 j ∧ Hid (Below w.heap.size w wr)) (fun i _ => n - (intOf i).toNat)
  case atStart => exact ⟨0, Nat.zero_le _, rfl, Below.refl _ _⟩
  case round =>
    obtain ⟨j, hj, rfl, HB⟩ := hrel
    by_cases hlt : j < n
    · obtain ⟨r, hr⟩ : ∃ r, ls[j]? = some r := ⟨ls[j]'(by rw [← HN.out]; exact hlt), List.getElem?_eq_getElem (by rw [← HN.out]; exact hlt)⟩
      obtain ⟨b, o, rfl, hb, hcell⟩ := HC.out j r hr
      have cr : wr.cell? ⟨b, o + j, none⟩ = some (.int .i64 r) := by rw [HB.out.cell (by exact hb)]; exact hcell
      have hjI : (j : Int) < (n : Int) := by omega
      have hj0 : (0 : Int) ≤ (j : Int) := by omega
      have hh := HH.out r (List.mem_of_getElem? hr)
      clear hcell hr
      by_cases h2 : r < 2
      · have e0 : ¬ (r : Int) < 0 := by omega
        have e1 : ¬ (2 : Int) ≤ (r : Int) := by omega
        clear hh
        go_wp2
        go_roundw
        case rel => exact ⟨j + 1, by omega, by go_num, HB⟩
        case measure => simp [intOf]; omega
      · obtain ⟨i, rfl⟩ : ∃ i, r = i + 2 := ⟨r - 2, by omega⟩
        have ht : s.T[i]? = some true := by
          rcases hh with h | h
          · omega
          · simpa using h
        have hi : i < s.L.length := by rw [← hlT]; exact Bd.getElem?_lt ht
        have T1 := HT.out.below HB.out
        have c4 := T1.cell4
        obtain ⟨gt, ct, hv, _, _⟩ := T1.told.form (by omega)
        have hrow := T1.told
        rw [hv] at c4 hrow
        have ct' : wr.cell? ⟨gt, i, none⟩ = some (.bool true) := by
          rw [hrow.cellAt i (by omega)]
          simp [boos, ht]
        have e1 : ((i + 2 : Nat) : Int) = (i : Int) + 2 := by omega
        rw [e1] at cr
        have e0 : ¬ ((i : Int) + 2 < 0) := by omega
        have e2 : (2 : Int) ≤ (i : Int) + 2 := by omega
        obtain ⟨m, hm⟩ : ∃ m, m = s.L.length := ⟨_, rfl⟩
        rw [← hm] at c4 hi hsm
        have hiI : (i : Int) < (m : Int) := by omega
        have e3 : ¬ ((m : Int) ≤ (i : Int)) := by omega
        clear hh ht T1 hv hrow e1 hm hlT h2
        go_wp2
        go_roundw
        case rel => exact ⟨j + 1, by omega, by go_num, HB⟩
        case measure => simp [intOf]; omega
    · go_wp2
      go_ret
      exact ⟨rfl, HB.out⟩

theorem memo_new (w : World) : MemoAt (w.alloc (.cells #[.slice none 0 0] 105)) w.heap.size (.slice none 0 0) [] :=
  ⟨heap_alloc_new w _, World.ownsRow_nil _ _ _ _⟩

/-- The next of a fold. -/
theorem QGrew.fold {M : Nat} {s : QSt} {A : Bd.Fam s.bits M} {w w1 : World} {y : QLay} {r a : Nat} {f : Bd.Fn} (h : QGrew A w y s w1 r f) (hbM : s.bits * M ≤ 524288) (ha : a < s.L.length + 2) (hF : A.F 0 (Bd.iteF (Bd.den s.L a) Bd.tt f)) :
    Calls Try.prog 55 #[.pointer (some ⟨y.tb, 0, none⟩), .pointer (some ⟨w1.heap.size, 0, none⟩), i6 a, i6 1, i6 r] (w1.alloc (.cells #[.slice none 0 0] 105)) fun e w' => ∃ r', e = .returned (i6 r') ∧ QGrew A w y s w' r' (Bd.iteF (Bd.den s.L a) Bd.tt f) := by
  obtain ⟨N, y1, h1, h2, h3, h4, h5, h6⟩ := h.ex
  have hb : Below w1.heap.size w1 (w1.alloc (.cells #[.slice none 0 0] 105)) := (Below.refl _ _).alloc (Nat.le_refl _) _
  have hlen : (s.L ++ N).length = s.L.length + N.length := List.length_append
  have ea : Bd.den (s.L ++ N) a = Bd.den s.L a := Bd.den_append_old _ _ ha
  have hI : Bd.iteF (Bd.den (s.grow N).L a) (Bd.den (s.grow N).L 1) (Bd.den (s.grow N).L r) = Bd.iteF (Bd.den s.L a) Bd.tt f := by
    show Bd.iteF (Bd.den (s.L ++ N) a) (Bd.den (s.L ++ N) 1) (Bd.den (s.L ++ N) r) = _
    rw [ea, Bd.den_one, h4]
  have h := qite_all 128 (s.grow N) A _ y1 w1.heap.size (.slice none 0 0) [] a 1 r 0 (h1.below hb) h2 hbM (memo_new w1) (MemoOk.nil _) (by show a < (s.L ++ N).length + 2; omega) (by omega) h3 (Or.inl (by omega)) (Nat.zero_le _) (Nat.zero_le _) (Nat.zero_le _) (by rw [hI]; exact hF) (by omega)
  rw [hI, h6] at h
  refine h.mono ?_
  rintro e w' ⟨r', rfl, ⟨N2, y2, mv2, E, g1, g2, g3, g4, g5, g6, g7, g8, g9⟩⟩
  have e : (s.grow N).L ++ N2 = s.L ++ (N ++ N2) := List.append_assoc _ _ _
  rw [e] at g2 g3 g4
  rw [QSt.grow_grow] at g1
  refine ⟨r', rfl, N ++ N2, y2, g1, g2, g3, g4, ?_, g9.trans h6⟩
  -- the memo is new: it is no part of what was there
  have hsz : (w1.alloc (.cells #[.slice none 0 0] 105)).heap.size = w1.heap.size + 1 := by simp
  refine h5.trans ⟨fun k hk => ?_, g8.os.trans hb.os, g8.tape.trans hb.tape, g8.output.trans hb.output, Nat.le_trans hb.size g8.size, fun k hk hn => ?_⟩
  · rcases g8.own k (Or.inl hk) with (q | q | q) | q
    · exact Or.inl q
    · exact Or.inr (by omega)
    · simp [Value.ownBlock] at q
    · exact Or.inr (by omega)
  · refine (g8.block k (by omega) (fun q => ?_)).trans (hb.block k hk)
    rcases q with q | q | q
    · exact hn q
    · omega
    · simp [Value.ownBlock] at q

set_option maxHeartbeats 4000000 in
theorem qor_many {M : Nat} {w : World} {y : QLay} {s : QSt} (A : Bd.Fam s.bits M) (hT : QTab w y s) (hW : Bd.Within A s.L) (hbM : s.bits * M ≤ 524288) (v : Value) (ls : List Nat) (hR : RefsAt w v ls) (hfar : ∀ k, v.ownBlock = some k → ¬ y.own k) (hl : ls.length ≤ 1000000) (hh : ∀ r, r ∈ ls → s.has r ∧ r < s.L.length + 2)
    (F : Nat → Bd.Fn) (hz : F 0 = Bd.ff) (hF : ∀ k r, ls[k]? = some r → F (k + 1) = Bd.iteF (Bd.den s.L r) Bd.tt (F k) ∧ A.F 0 (F (k + 1))) :
    Calls Try.prog 25 #[.pointer (some ⟨y.tb, 0, none⟩), v] w fun e w' => QTells A w y s (F ls.length) e w' := by
  have HQ := keep (qright_ok hT v ls hR hl (fun r hr => (hh r hr).1))
  obtain ⟨ao, cap, rfl, hc⟩ := hR
  have HC := keep hc
  have HH := keep hh
  have HF := keep hF
  have HFAR := keep hfar
  have H0 : Hid (∀ w1, Below w.heap.size w w1 → QGrew A w y s w1 0 (F 0)) := fun w1 hb => QGrew.same hT hW (by omega) (by rw [Bd.den_zero, hz]) hb
  obtain ⟨n, hn⟩ : ∃ n, n = ls.length := ⟨_, rfl⟩
  have HN := keep hn
  rw [← hn] at hl HQ HFAR ⊢
  have hnI : (n : Int) ≤ 1000000 := by omega
  clear hT hW hc hh hn hF hz hfar
  go_enter Try.func25, Try.ntmps25
  go_wp2_with fail
  refine HQ.out.mono ?_
  rintro e w1 ⟨rfl, hb1⟩
  have HB1 := keep hb1
  clear hb1
  go_wp2_with fail
  go_loopw [6, 7] (fun u i wr => ∃ k r : Nat, k ≤ n ∧ u = .int .i64 r ∧ i = .int .i64 k ∧ Hid (QGrew A w y s wr r (F k))) (fun _ i _ => n - (intOf i).toNat)
  case atStart => exact ⟨0, 0, Nat.zero_le _, rfl, rfl, H0.out w1 HB1.out⟩
  case round =>
    obtain ⟨k, r, hk, rfl, rfl, hG⟩ := hrel
    by_cases hlt : k < n
    · obtain ⟨a, ha⟩ : ∃ a, ls[k]? = some a := ⟨ls[k]'(by rw [← HN.out]; exact hlt), List.getElem?_eq_getElem (by rw [← HN.out]; exact hlt)⟩
      obtain ⟨b, o, rfl, hb, hcell⟩ := HC.out k a ha
      have hGt : Touch y.own (fun _ => False) w wr := by
        obtain ⟨N, y1, h1, h2, h3, h4, h5, h6⟩ := hG.out.ex
        exact ⟨fun k hk => hk.elim, h5.os, h5.tape, h5.output, h5.size, h5.block⟩
      have cr : wr.cell? ⟨b, o + k, none⟩ = some (.int .i64 a) := by rw [World.cell?_of_block (hGt.block b hb (HFAR.out b rfl))]; exact hcell
      have lb : b < wr.heap.size := Nat.lt_of_lt_of_le hb hGt.size
      obtain ⟨hf1, hf2⟩ := HF.out k a ha
      have hI := QGrew.fold hG.out hbM (HH.out a (List.mem_of_getElem? ha)).2 (by rw [← hf1]; exact hf2)
      rw [← hf1] at hI
      have HI := keep hI
      have hkI : (k : Int) < (n : Int) := by omega
      have hk0 : (0 : Int) ≤ (k : Int) := by omega
      clear hcell ha hf1 hf2 hI hGt hG
      go_wp2_with fail
      refine HI.out.mono ?_
      rintro e w2 ⟨r', rfl, hG2⟩
      have HG2 := keep hG2
      clear hG2
      go_wp2
      go_roundw
      case rel => exact ⟨k + 1, r', by omega, rfl, by go_num, HG2⟩
      case measure => simp [intOf]; omega
    · have hkn : k = n := by omega
      subst hkn
      have HC := keep (QGrew.tells hG.out)
      go_wp2_with fail
      refine HC.out.mono ?_
      intro e w' hq
      obtain ⟨x, z, rfl, hq'⟩ := hq.form
      have HQ := keep hq'
      clear hq hq'
      go_wp2
      go_ret2
      exact HQ.out

set_option maxHeartbeats 1000000 in
theorem qnew_ok (bits limit : Nat) (h1 : 1 ≤ bits) (h2 : bits ≤ 128) (h3 : limit ≤ 1048576) (w : World) :
    Calls Try.prog 21 #[.int .i64 bits, .int .i64 limit] w fun e w' => e = .returned (.tuple #[.pointer (some ⟨w.heap.size, 0, none⟩), .int .i64 0]) ∧ QTab w' ⟨w.heap.size, .slice none 0 0, .slice none 0 0, .slice none 0 0⟩ ⟨[], [], [], bits, limit⟩ ∧ Below w.heap.size w w' := by
  have e1 : ¬ ((bits : Int) < 1) := by omega
  have e2 : ¬ ((128 : Int) < (bits : Int)) := by omega
  have e3 : ¬ ((limit : Int) < 0) := by omega
  have e4 : ¬ ((1048576 : Int) < (limit : Int)) := by omega
  have HR : Hid (QTab (w.alloc (.cells #[.int .i64 bits, .int .i64 limit, .slice none 0 0, .slice none 0 0, .slice none 0 0] 66)) ⟨w.heap.size, .slice none 0 0, .slice none 0 0, .slice none 0 0⟩ ⟨[], [], [], bits, limit⟩) :=
    { cells := heap_alloc_new w _, list := World.ownsRow_nil _ _ _ _, used := World.ownsRow_nil _ _ _ _, told := World.ownsRow_nil _ _ _ _, two := fun g h => by simp [Value.ownBlock] at h, okay := Bd.Okay.nil h2, small := ⟨by simp, h3, h1⟩ }
  go_enter Try.func21, Try.ntmps21
  go_wp2
  go_ret2
  exact ⟨rfl, HR.out, (Below.refl _ _).alloc (Nat.le_refl _) _⟩
set_option maxHeartbeats 1000000 in
theorem qnew_err (bits limit : Int) (h : bits < 1 ∨ 128 < bits ∨ limit < 0 ∨ 1048576 < limit) (w : World) :
    Calls Try.prog 21 #[.int .i64 bits, .int .i64 limit] w fun e w' => e = .returned (.tuple #[.pointer none, .int .i64 1]) ∧ w' = w := by
  by_cases h1 : bits < 1
  · clear h
    go_enter Try.func21, Try.ntmps21
    go_wp2
    go_ret2
    exact ⟨rfl, rfl⟩
  · by_cases h2 : 128 < bits
    · clear h
      go_enter Try.func21, Try.ntmps21
      go_wp2
      go_ret2
      exact ⟨rfl, rfl⟩
    · by_cases h3 : limit < 0
      · clear h
        go_enter Try.func21, Try.ntmps21
        go_wp2
        go_ret2
        exact ⟨rfl, rfl⟩
      · have h4 : 1048576 < limit := by omega
        clear h
        go_enter Try.func21, Try.ntmps21
        go_wp2
        go_ret2
        exact ⟨rfl, rfl⟩
end Go.Proofs.Ytnkipdlfpnmgeaa
namespace Go.Proofs.Ytnkipdlfpnmgeaa
open Go.RowKit Go.Maps
open Bd (Nd)

set_option maxRecDepth 4000 in
set_option maxHeartbeats 2000000 in
theorem inOrder_ok {w : World} {lv : Value} {Q : List Nd} {bits : Nat} (hlist : w.ownsRow 0 62 3 lv Q.length (flat Q)) (hR : Right bits Q) (hlen : Q.length ≤ 1073741824) :
    Calls Try.prog 91 #[lv] w fun e w' => e = .returned (.bool true) ∧ Below w.heap.size w w' := by
  obtain ⟨ao, cp, rfl⟩ : ∃ ao cp, lv = .slice ao Q.length cp := by
    rcases hlist.2 with ⟨h1, h2⟩ | ⟨g, cp, cur, h1, _⟩
    · exact ⟨none, 0, by rw [h1, h2]⟩
    · exact ⟨_, _, h1⟩
  have HL := keep hlist
  have HR := keep hR
  obtain ⟨n, hn⟩ : ∃ n, n = Q.length := ⟨_, rfl⟩
  have HN := keep hn
  rw [← hn] at hlen HL ⊢
  have hlenI : (n : Int) ≤ 1073741824 := by omega
  have e1 : (n : Int) - 1 + 2 = ((n + 1 : Nat) : Int) := by omega
  have HO : Hid (Calls Try.prog 36 #[.slice ao n cp, .int .i64 2, .slice (some ⟨w.heap.size, 0, none⟩) 1 1] (w.alloc (.cells #[.int .i64 ((n : Int) + 1)] 3)) fun e w' => ∃ ob pb, e = .returned (.pointer (some ⟨ob, 0, none⟩)) ∧ OrdAt w' ob pb (.slice ao n cp) Q 2 (ords Q (Q.length + 1)) ∧ Below w.heap.size w w') := by
    have hw : Below w.heap.size w (w.alloc (.cells #[.int .i64 ((n : Int) + 1)] 3)) := (Below.refl _ _).alloc (Nat.le_refl _) _
    refine (orderOf_one (lv := .slice ao n cp) (L := Q) (by rw [← hn]; exact HL.out.alloc _) hR.okay.falls (by omega) (Q.length + 1) w.heap.size 1 (by omega) (by simp) (by rw [cell_at (heap_alloc_new w _), hn]; rfl)).mono ?_
    rintro e w' ⟨ob, pb, rfl, h1, h2⟩
    exact ⟨ob, pb, rfl, h1, hw.trans (h2.mono hw.size)⟩
  clear hlist hR hn hlen
  go_enter Try.func91, Try.ntmps91
  go_wp2_with fail
  refine HO.out.mono ?_
  rintro e w1 ⟨ob, pb, rfl, hO, hb⟩
  have HB1 := keep hb
  have c2 : w1.cell? ⟨ob, 2, none⟩ = some (.map (some pb)) := by rw [cell_at hO.cells]; rfl
  obtain ⟨f, hf, hr, hz⟩ := hO.place
  obtain ⟨D, hown, hsz, hview⟩ := hf
  have HOWN := keep hown
  have HV := keep hview
  have HRM := keep hr
  have HZ := keep hz
  obtain ⟨sz, hsze⟩ : ∃ sz, sz = (ords Q (Q.length + 1)).length := ⟨_, rfl⟩
  rw [← hsze] at HOWN
  clear hO hb hown hview hr hz hsz hsze HO
  go_wp2_with (first | (at_range; refine wpList_range_own _ rfl (.tmp 16) 116 rfl 3 3 kInt Try.underlying116 (plainElem Try.prog 3) pb sz D rfl HOWN.out ?_; intro w0 hrg0 hg0 hs0) | go_in)
  have HB0 : Hid (Below w.heap.size w w0) := by
    have h := HB1.out
    exact ⟨hg0.os.trans h.os, hg0.tape.trans h.tape, hg0.output.trans h.output, by have := h.size; omega, fun k hk => (hg0.block k (by have := h.size; omega) (by simp)).trans (h.block k hk)⟩
  have HRG := keep hrg0
  clear hrg0 hg0
  go_frame
  go_loopw [4] (fun _ wr => ∃ (left : Lit → Bool) (cnt : Nat), wr.ranges Try.prog 3 (plainElem (H := Unit) Try.prog 3) pb w1.heap.size sz D left cnt ∧ Below w.heap.size w wr) (fun _ wr => wr.rangeLeft pb w1.heap.size)
  case atStart => exact ⟨_, _, HRG.out, HB0.out⟩
  case round =>
    obtain ⟨left, cnt, hrg, hB⟩ := hrel
    have HRG := keep hrg
    have HB := keep hB
    clear hB
    go_wp2_with (first | (at_next; refine wpList_next_ranges_ii _ rfl (.tmp 17) rfl 3 3 .i64 .i64 kInt Try.underlying3 Try.underlying3 pb w1.heap.size sz D left cnt rfl hrg ?_ ?_) | go_in)
    · intro _ hl0
      clear hl0
      go_wp2
      go_ret
      exact ⟨rfl, HB.out⟩
    · intro x c w2 cnt1 hwx hwc hlx hat hrg1 hlt hg1 hs1 hen
      have keyx : keyOf Try.prog 3 (.int .i64 x) = some (.int .i64 x) := keyOf_int_mk Try.underlying3 hwx
      obtain ⟨v1, v2⟩ := HV.out _ _ keyx
      rw [Maps.has_true_of_atKey hat] at v1
      obtain ⟨v, hfv⟩ := Option.isSome_iff_exists.1 v1.symm
      have hx0 := HZ.out x v1.symm
      obtain ⟨m, rfl⟩ : ∃ m : Nat, x = (m : Int) := ⟨x.toNat, by omega⟩
      have hmem : m ∈ ords Q (Q.length + 1) := by
        rcases Classical.em (m ∈ ords Q (Q.length + 1)) with h | h
        · exact h
        · have := (HRM.out m).2 h
          have e : f (i6 m) = some v := hfv
          rw [e] at this
          cases this
      obtain ⟨j, hj⟩ : ∃ j, (ords Q (Q.length + 1))[j]? = some m := ⟨_, idx_at hmem⟩
      have hcj : c = ((2 + j : Nat) : Int) := by
        have h1 := v2 _ ((HRM.out m).1 j hj)
        rw [hat] at h1
        cases h1
        rfl
      have hmj := HR.out.order j m hj
      have hc : c = (m : Int) := by omega
      subst hc
      have hBw2 : Hid (Below w.heap.size w w2) := ⟨hg1.os.trans HB.out.os, hg1.tape.trans HB.out.tape, hg1.output.trans HB.out.output, by rw [hs1]; exact HB.out.size, fun k hk => (hg1.block k (by have := HB.out.size; omega) (by simp; have := HB1.out.size; omega)).trans (HB.out.block k hk)⟩
      have HRG1 := keep hrg1
      clear hmj hcj hj hmem hx0 hfv v1 v2 keyx hat hlx hwx hwc hg1 hs1 hrg hrg1
      have hne : ((m : Int) != (m : Int)) = false := by simp
      go_wp2
      go_roundw
      case rel => exact ⟨_, _, HRG1.out, hBw2.out⟩
      case measure => rw [HRG1.out.left_eq, HRG.out.left_eq]; exact hlt
end Go.Proofs.Ytnkipdlfpnmgeaa
namespace Go.Proofs.Ytnkipdlfpnmgeaa
open Go.RowKit Go.Maps
open Bd (Nd)

theorem make_hint (w : World) (n : Int) : (Instr.makeMap 74 (some (.int .i64 n))).run Try.prog w = .ok (.map (some w.heap.size)) (w.alloc (.map #[] 0)) := by kernel_rfl

/-- The nodes that are there so far. -/
def There (w : World) (b k : Nat) (l : List Nd) : Prop := ∃ sz f, sz ≤ k ∧ MapOf Try.prog 62 3 w b sz f ∧ ∀ x, x ∉ l → f (ndV x) = none
theorem There.lt {w : World} {b k : Nat} {l : List Nd} (h : There w b k l) : b < w.heap.size := by
  obtain ⟨sz, f, _, h, _⟩ := h
  exact h.lt
theorem There.same {w w' : World} {b k : Nat} {l : List Nd} (h : There w b k l) (hb : w'.heap[b]? = w.heap[b]?) : There w' b k l := by
  obtain ⟨sz, f, h0, h1, h2⟩ := h
  exact ⟨sz, f, h0, h1.same hb, h2⟩
theorem There.look {w : World} {b k : Nat} {l : List Nd} (h : There w b k l) {x : Nd} (hx : x ∉ l) (h0 : x.1 < 9223372036854775808) (h1 : x.2.1 < 9223372036854775808) (h2 : x.2.2 < 9223372036854775808) :
    (Instr.lookup 74 (.map (some b)) (.agg #[.int .i64 x.1, .int .i64 x.2.1, .int .i64 x.2.2]) true).run Try.prog w = .ok (.tuple #[.int .i64 0, .bool false]) w := by
  obtain ⟨sz, f, _, hf, hn⟩ := h
  obtain ⟨kl, hkl⟩ := key_node (a := x.1) (b := x.2.1) (c := x.2.2) h0 h1 h2
  have := MapOf.look hf kNode Try.underlying74 Try.underlying3 (zero_int _) hkl
  have e : f (.agg #[i6 x.1, i6 x.2.1, i6 x.2.2]) = none := hn x hx
  rw [e] at this
  exact this
theorem There.put {w : World} {b k : Nat} {l : List Nd} (h : There w b k l) {x : Nd} (hk : k ≤ 1073741826) (c : Nat) (hc : c < 9223372036854775808) (h0 : x.1 < 9223372036854775808) (h1 : x.2.1 < 9223372036854775808) (h2 : x.2.2 < 9223372036854775808) :
    ∃ w', (Instr.mapUpdate 74 (.map (some b)) (.agg #[.int .i64 x.1, .int .i64 x.2.1, .int .i64 x.2.2]) (.int .i64 c)).run Try.prog w = .ok () w' ∧ There w' b (k + 1) (l ++ [x]) ∧ w.grownBy w' (some b) := by
  obtain ⟨sz, f, hs, hf, hn⟩ := h
  obtain ⟨kl, hkl⟩ := key_node (a := x.1) (b := x.2.1) (c := x.2.2) h0 h1 h2
  obtain ⟨w', hrun, hput, hg⟩ := MapOf.put_run hf kNode Try.underlying74 Try.underlying3 (by unfold maxLen; omega) hkl (c := (c : Int)) (wf64 hc)
  obtain ⟨f', hf'⟩ := upd_exists f (ndV x) (some (c : Int))
  refine ⟨w', hrun, ⟨_, f', ?_, hput f' hf', fun z hz => ?_⟩, hg⟩
  · split <;> omega
  · rw [List.mem_append] at hz
    rw [hf'.2 _ (fun e => hz (Or.inr (by rw [ndV_inj e]; simp)))]
    exact hn z (fun h => hz (Or.inl h))

theorem kid_of {w : World} {g cap : Nat} {Q : List Nd} (h : NodesIn w (.slice (some ⟨g, 0, none⟩) Q.length cap) Q) {b to i : Nat} (ht : to < i + 2) (hi : i ≤ Q.length) (hb : b < Bd.bitOf Q to) : Kid w g Q.length b to := by
  rcases Nat.lt_or_ge to 2 with h2 | h2
  · exact Or.inl h2
  · have hc : to - 2 < Q.length := by omega
    have hx : Q[to - 2]? = some Q[to - 2] := List.getElem?_eq_getElem hc
    obtain ⟨g', cap', e, hcells⟩ := h
    cases e
    have hbt := Bd.bitOf_at hx
    rw [show to - 2 + 2 = to by omega] at hbt
    exact Or.inr ⟨to - 2, Q[to - 2].1, by omega, hc, (hcells _ _ hx).1, by omega⟩

set_option maxRecDepth 4000 in
set_option maxHeartbeats 400000 in
theorem check_ok {w : World} {lv : Value} {Q : List Nd} {bits : Nat} (hlist : w.ownsRow 0 62 3 lv Q.length (flat Q)) (hR : Right bits Q) (hlen : Q.length ≤ 1073741824) :
    Calls Try.prog 82 #[lv, .int .i64 bits] w fun e w' => e = .returned (.tuple #[.int .i64 0, .bool true]) ∧ Below w.heap.size w w' := by
  obtain ⟨ao, cp, rfl⟩ : ∃ ao cp, lv = .slice ao Q.length cp := by
    rcases hlist.2 with ⟨h1, h2⟩ | ⟨g, cp, cur, h1, _⟩
    · exact ⟨none, 0, by rw [h1, h2]⟩
    · exact ⟨_, _, h1⟩
  have HL := keep hlist
  have HR := keep hR
  obtain ⟨n, hn⟩ : ∃ n, n = Q.length := ⟨_, rfl⟩
  have HN := keep hn
  rw [← hn] at hlen HL ⊢
  have hlenI : (n : Int) ≤ 1073741824 := by omega
  have hmk : ∀ w : World, (Instr.makeMap 74 (some (.int .i64 (n : Int)))).run Try.prog w = .ok (.map (some w.heap.size)) (w.alloc (.map #[] 0)) := fun w => make_hint w (n : Int)
  have HB0 : Hid (Below w.heap.size w (w.alloc (.map #[] 0))) := (Below.refl _ _).alloc (Nat.le_refl _) _
  have HT0 : Hid (There (w.alloc (.map #[] 0)) w.heap.size 0 []) := ⟨0, fun _ => none, Nat.le_refl _, MapOf.new Try.prog 62 3 w, fun _ _ => rfl⟩
  clear hlist hR hn hlen
  go_enter Try.func82, Try.ntmps82
  go_wp2
  go_loopw [16] (fun i wr => ∃ k : Nat, k ≤ n ∧ i = .int .i64 k ∧ Hid (There wr w.heap.size k (Q.take k) ∧ Below w.heap.size w wr)) (fun i _ => n - (intOf i).toNat)
  case atStart => exact ⟨0, Nat.zero_le _, rfl, HT0.out, HB0.out⟩
  case round =>
    clear HB0 HT0
    obtain ⟨k, hk, rfl, H⟩ := hrel
    by_cases hlt : k < n
    · obtain ⟨x, hx⟩ : ∃ x, Q[k]? = some x := ⟨Q[k]'(by rw [← HN.out]; exact hlt), List.getElem?_eq_getElem _⟩
      obtain ⟨f1, f2, f3, f4, f5, f6⟩ := HR.out.okay.fit k x hx
      have h128 := HR.out.okay.few
      have hxn : x ∉ Q.take k := by
        intro hm
        obtain ⟨j, hj, e⟩ := List.mem_iff_getElem.1 hm
        rw [List.length_take] at hj
        rw [List.getElem_take] at e
        have hkQ := Bd.getElem?_lt hx
        rw [List.getElem?_eq_getElem hkQ] at hx
        have := (List.getElem_inj (h₀ := by omega) (h₁ := hkQ) HR.out.okay.nd).1 (e.trans (Option.some.inj hx).symm)
        omega
      have hB := H.out.2
      have hrow : wr.ownsRow 0 62 3 (.slice ao n cp) n (flat Q) := row_same HL.out fun g hg => hB.block g (HL.out.lt g hg).2
      have hNI : NodesIn wr (.slice ao n cp) Q := nodesIn_of (by rw [← HN.out]; exact hrow) (by have := HN.out; omega)
      obtain ⟨g, cap', e, hcells⟩ := hNI
      have ea : ao = some ⟨g, 0, none⟩ := by cases e; rfl
      have ec : cp = cap' := by cases e; rfl
      subst ea
      subst ec
      obtain ⟨d0, d1, d2⟩ := hcells k x hx
      have hgl : g < w.heap.size := (HL.out.lt g rfl).2
      have hgr : g < wr.heap.size := by have := hB.size; omega
      have hwb : Below wr.heap.size wr (wr.alloc (.cells #[.int .i64 x.1, .int .i64 x.2.1, .int .i64 x.2.2] 62)) := (Below.refl _ _).alloc (Nat.le_refl _) _
      have hTh := H.out.1.same (hwb.block _ H.out.1.lt)
      have hlook := hTh.look hxn (by omega) (by omega) (by omega)
      have hNI2 : NodesIn (wr.alloc (.cells #[.int .i64 x.1, .int .i64 x.2.1, .int .i64 x.2.2] 62)) (.slice (some ⟨g, 0, none⟩) Q.length cp) Q := ⟨g, cp, rfl, fun i y hy => by
        obtain ⟨q0, q1, q2⟩ := hcells i y hy
        rw [hwb.cell (p := ⟨g, i * 3, none⟩) hgr, hwb.cell (p := ⟨g, i * 3 + 1, none⟩) hgr, hwb.cell (p := ⟨g, i * 3 + 2, none⟩) hgr]
        exact ⟨q0, q1, q2⟩⟩
      have HF : Hid (Calls Try.prog 90 #[.slice (some ⟨g, 0, none⟩) n cp, .int .i64 k, .int .i64 bits] (wr.alloc (.cells #[.int .i64 x.1, .int .i64 x.2.1, .int .i64 x.2.2] 62)) fun e w2 => e = .returned (.bool true) ∧ w2.cell? ⟨wr.heap.size, 0, none⟩ = some (.int .i64 x.1) ∧ w2.cell? ⟨wr.heap.size, 1, none⟩ = some (.int .i64 x.2.1) ∧ w2.cell? ⟨wr.heap.size, 2, none⟩ = some (.int .i64 x.2.2) ∧
          ∃ w3, (Instr.mapUpdate 74 (.map (some w.heap.size)) (.agg #[.int .i64 x.1, .int .i64 x.2.1, .int .i64 x.2.2]) (.int .i64 k)).run Try.prog w2 = .ok () w3 ∧ Hid (There w3 w.heap.size (k + 1) (Q.take (k + 1)) ∧ Below w.heap.size w w3)) := by
        have kl := kid_of hNI2 f1 (by have := HN.out; omega) f5
        have kh := kid_of hNI2 f2 (by have := HN.out; omega) f6
        rw [← HN.out] at kl kh
        refine (fits_ok _ g cp n k bits x (by simp; omega) hlt (by omega) (by rw [hwb.cell (p := ⟨g, k * 3, none⟩) hgr]; exact d0) (by rw [hwb.cell (p := ⟨g, k * 3 + 1, none⟩) hgr]; exact d1) (by rw [hwb.cell (p := ⟨g, k * 3 + 2, none⟩) hgr]; exact d2) f4 f3 f1 f2 kl kh).mono ?_
        rintro e w2 ⟨rfl, hb2⟩
        have hbx : w2.heap[wr.heap.size]? = _ := (hb2.block wr.heap.size (by simp)).trans (heap_alloc_new wr _)
        obtain ⟨w3, hrun, hth, hg3⟩ := (hTh.same (hb2.block _ hTh.lt)).put (x := x) (by omega) k (by omega) (by omega) (by omega) (by omega)
        refine ⟨rfl, by rw [cell_at hbx]; rfl, by rw [cell_at hbx]; rfl, by rw [cell_at hbx]; rfl, w3, hrun, by rw [take_succ_get hx]; exact hth, ?_⟩
        have h2 : Below w.heap.size w w2 := hB.trans ((hwb.trans (hb2.mono hwb.size)).mono hB.size)
        exact ⟨hg3.os.trans h2.os, hg3.tape.trans h2.tape, hg3.output.trans h2.output, Nat.le_trans h2.size hg3.size, fun j hj => (hg3.block j (Nat.lt_of_lt_of_le hj h2.size) (by simp; omega)).trans (h2.block j hj)⟩
      have hkI : (0 : Int) ≤ (k : Int) := by omega
      have hkI2 : (k : Int) < (n : Int) := by omega
      clear H hB hrow hcells hwb hTh hNI2 f1 f2 f3 f4 f5 f6 hxn hx hgl hgr e h128
      obtain ⟨x0, x1, x2⟩ := x
      simp only at d0 d1 d2 hlook HF
      go_wp2_with fail
      refine HF.out.mono ?_
      rintro e w2 ⟨rfl, b0, b1, b2, w3, hrun, HD⟩
      clear HF hlook d0 d1 d2
      go_wp2
      go_roundw
      case rel => exact ⟨k + 1, by omega, by go_num, HD.out⟩
      case measure => simp [intOf]; omega
    · have hkn : k = n := by omega
      have hrow : wr.ownsRow 0 62 3 (.slice ao n cp) n (flat Q) := row_same HL.out fun g hg => H.out.2.block g (HL.out.lt g hg).2
      have HO : Hid (Calls Try.prog 91 #[.slice ao n cp] wr fun e w' => e = .returned (.bool true) ∧ Below w.heap.size w w') := by
        refine (inOrder_ok (lv := .slice ao n cp) (by rw [← HN.out]; exact hrow) HR.out (by have := HN.out; omega)).mono ?_
        rintro e w' ⟨rfl, hb⟩
        exact ⟨rfl, H.out.2.trans (hb.mono H.out.2.size)⟩
      subst hkn
      clear H hrow hlt
      go_wp2_with fail
      refine HO.out.mono ?_
      rintro e w' ⟨rfl, hb⟩
      have HB := keep hb
      clear hb HO
      go_wp2
      go_ret2
      exact ⟨rfl, HB.out⟩
end Go.Proofs.Ytnkipdlfpnmgeaa
