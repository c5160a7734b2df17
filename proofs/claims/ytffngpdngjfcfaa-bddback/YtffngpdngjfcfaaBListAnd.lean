/-
  check: a right list is one.
  inOrder: a right list.
  fits: a node that may stand at its place; inOrder: a right list.
  A function has one list.
  root, List, Size of a ref that is told; two lists that are the same.
-/
import Derived.Test.YtffngpdngjfcfaaBVisAnd
import Derived.Deep.QuietTactic
namespace Go.Proofs.Ytffngpdngjfcfaa
open Go.RowKit Go.Maps
open Bd (Nd)

theorem refs_one (w : World) (r : Nat) : RefsAt (w.alloc (.cells #[i6 r] 25)) (.slice (some ⟨w.heap.size, 0, none⟩) 1 1) [r] := by
  refine ⟨_, 1, rfl, fun i q hi => ?_⟩
  have : i = 0 := by have := Bd.getElem?_lt hi; simp at this; exact this
  subst this
  simp at hi
  subst hi
  exact ⟨w.heap.size, 0, rfl, by simp, by rw [cell_at (heap_alloc_new w _)]; rfl⟩

set_option maxHeartbeats 1000000 in
theorem root_ok {w : World} {y : Lay} {s : St} (hT : Tab w y s) (h2 : 2 ≤ s.first) (r n : Nat) (hn : s.node? r = some n) :
    Calls Try.prog 41 #[.pointer (some ⟨y.tb, 0, none⟩), i6 r] w fun e w' => e = .returned (.tuple #[i6 n, .int .i64 0]) ∧ Below w.heap.size w w' := by
  have HT := keep hT
  have q1 := made_ok hT
  have q2 := find_ok (hT.below ((Below.refl _ _).alloc (Nat.le_refl _) (.cells #[i6 r] 25))) h2 _ [r] [n] (refs_one w r) (by simp) ⟨rfl, fun i q hi => by
    have : i = 0 := by have := Bd.getElem?_lt hi; simp at this; exact this
    subst this
    simp at hi
    subst hi
    exact ⟨n, rfl, hn⟩⟩
  clear hT hn
  go_enter Try.func41, Try.ntmps41
  go_wp2_with (go_at_call 57; refine q1.mono ?_; rintro e w' ⟨rfl, rfl⟩)
  refine q2.mono ?_
  clear q2
  rintro e w1 ⟨rfl, ⟨cs, hcs, hsz, hc⟩, hb⟩
  have c0 : w1.cell? ⟨w'.heap.size + 1, 0, none⟩ = some (i6 n) := by
    have := hc 0 n rfl
    have e1 : (w'.alloc (.cells #[i6 r] 25)).heap.size = w'.heap.size + 1 := by simp
    rw [e1] at hcs
    rw [cell_at hcs]; exact this
  have HB := keep (((Below.refl _ _).alloc (Nat.le_refl _) _).trans (hb.mono (by simp)) : Below w'.heap.size w' w1)
  clear hc hcs hsz hb q1
  go_wp2
  go_ret2
  exact ⟨rfl, HB.out⟩

/-- The list of a node. -/
def listOf (L : List Nd) (n : Nat) : List Nd := (vis L 2 (n + 1) n []).map (rn L (vis L 2 (n + 1) n []) 2)

set_option maxRecDepth 4000 in
set_option maxHeartbeats 1000000 in
theorem List_ok {w : World} {y : Lay} {s : St} (hT : Tab w y s) (h2 : 2 ≤ s.first) (r n : Nat) (hn : s.node? r = some n) (hnl : n < s.L.length + 2) :
    Calls Try.prog 27 #[.pointer (some ⟨y.tb, 0, none⟩), i6 r] w fun e w' => ∃ v, e = .returned (.tuple #[v, .int .i64 0]) ∧ w'.ownsRow 0 82 3 v (listOf s.L n).length (flat (listOf s.L n)) ∧ Below w.heap.size w w' := by
  have HT := keep hT
  have q1 := root_ok hT h2 r n hn
  clear hT hn
  go_enter Try.func27, Try.ntmps27
  go_wp2_with fail
  refine q1.mono ?_
  clear q1
  rintro e w1 ⟨rfl, hb1⟩
  have HB1 := keep hb1
  have HT1 := keep (HT.out.below hb1)
  have c3 : w1.cell? ⟨y.tb, 3, none⟩ = some y.ls := by rw [cell_at HT1.out.cells]; rfl
  obtain ⟨ao, cap, hls⟩ := HT1.out.list_slice
  rw [hls] at c3
  clear hb1
  go_wp2_with fail
  refine (orderOf_one (lv := .slice ao s.L.length cap) (L := s.L) (by rw [← hls]; exact HT1.out.list.alloc _) HT.out.okay.falls HT.out.small.1 n w1.heap.size 1 hnl (by simp) (by rw [cell_at (heap_alloc_new w1 _)]; rfl)).mono ?_
  rintro e w2 ⟨ob, pb, rfl, hO, hb2⟩
  have HB2 := keep (((Below.refl _ _).alloc (Nat.le_refl _) _).trans (hb2.mono (by simp)) : Below w1.heap.size w1 w2)
  have HO := keep hO
  clear hb2 hO
  have hnd := vis_nodup s.L 2 HT.out.okay.falls (by omega) (n + 1) n [] hnl (by simp)
  have hvl := vis_lt s.L 2 HT.out.okay.falls (by omega) (n + 1) n [] hnl (by simp)
  have hlen : (vis s.L 2 (n + 1) n []).length ≤ 1073741826 := by
    have h1 : (vis s.L 2 (n + 1) n []).length ≤ s.L.length + 2 := by
      have := List.Nodup.length_le_of_subset (l₂ := List.range (s.L.length + 2)) hnd (fun m hm => List.mem_range.2 (hvl m hm).2)
      simpa using this
    have := HT.out.small.1
    omega
  go_wp2_with fail
  refine (nodes_any HO.out hnd hvl (by omega) HT.out.okay.falls HT.out.small.1 (by omega) hlen).mono ?_
  rintro e w3 ⟨rfl, hown, hb3⟩
  have HOWN := keep hown
  clear hown hnd hvl
  go_wp2
  go_ret2
  refine ⟨.slice (some ⟨w2.heap.size, 0, none⟩) (vis s.L 2 (n + 1) n []).length (vis s.L 2 (n + 1) n []).length, rfl, ?_, HB1.out.trans ((HB2.out.trans (hb3.mono HB2.out.size)).mono HB1.out.size)⟩
  rw [show (listOf s.L n).length = (vis s.L 2 (n + 1) n []).length by unfold listOf; rw [List.length_map]]
  exact HOWN.out

set_option maxHeartbeats 400000 in
theorem Size_ok {w : World} {y : Lay} {s : St} (hT : Tab w y s) : Calls Try.prog 30 #[.pointer (some ⟨y.tb, 0, none⟩)] w fun e w' => e = .returned (.int .i64 s.L.length) ∧ w' = w := by
  have c3 : w.cell? ⟨y.tb, 3, none⟩ = some y.ls := by rw [cell_at hT.cells]; rfl
  obtain ⟨ao, cap, hls⟩ := hT.list_slice
  rw [hls] at c3
  have q1 := made_ok hT
  clear hT hls
  go_enter Try.func30, Try.ntmps30
  go_wp2_with (go_at_call 57; refine q1.mono ?_; rintro e w' ⟨rfl, rfl⟩)
  go_ret
  exact ⟨rfl, rfl⟩

/-- Nodes in cells that a walk can load. -/
def NodesIn (w : World) (v : Value) (L : List Nd) : Prop := ∃ g cap, v = .slice (some ⟨g, 0, none⟩) L.length cap ∧ ∀ (i : Nat) (x : Nd), L[i]? = some x → w.cell? ⟨g, i * 3, none⟩ = some (i6 x.1) ∧ w.cell? ⟨g, i * 3 + 1, none⟩ = some (i6 x.2.1) ∧ w.cell? ⟨g, i * 3 + 2, none⟩ = some (i6 x.2.2)
theorem nodesIn_of {w : World} {v : Value} {L : List Nd} (h : w.ownsRow 0 82 3 v L.length (flat L)) (h0 : 0 < L.length) : NodesIn w v L := by
  obtain ⟨g, cap, rfl, _, _⟩ := h.form h0
  refine ⟨g, cap, rfl, fun i x hi => ?_⟩
  have hadd : ∀ j, (⟨g, 0, none⟩ : Addr).add j = ⟨g, j, none⟩ := by intro j; unfold Addr.add; split <;> simp_all
  obtain ⟨f0, f1, f2⟩ := flat_at hi
  have hc := h.cells (g := g) rfl
  have d0 := hc _ _ f0
  have d1 := hc _ _ f1
  have d2 := hc _ _ f2
  rw [hadd] at d0 d1 d2
  exact ⟨d0, d1, d2⟩

set_option maxHeartbeats 1000000 in
theorem SameList_eq (v1 v2 : Value) (L : List Nd) (w : World) (hL : L.length ≤ 1073741826) (h1 : NodesIn w v1 L) (h2 : NodesIn w v2 L) :
    Calls Try.prog 29 #[v1, v2] w fun e w' => e = .returned (.bool true) ∧ Below w.heap.size w w' := by
  obtain ⟨g, c, rfl, hg⟩ := h1
  obtain ⟨g', c', rfl, hg'⟩ := h2
  have HG := keep hg
  have HG' := keep hg'
  clear hg hg'
  obtain ⟨n, hn⟩ : ∃ n, n = L.length := ⟨_, rfl⟩
  have HN := keep hn
  rw [← hn] at hL ⊢
  clear hn
  have hnb : ((n : Int) != (n : Int)) = false := by simp
  go_enter Try.func29, Try.ntmps29
  go_wp2
  clear hnb
  go_loopw [5] (fun i wr => ∃ k : Nat, k ≤ n ∧ i = .int .i64 k ∧ Hid (∃ m, wr = w.drewN m)) (fun i _ => n - (intOf i).toNat)
  case atStart => exact ⟨0, Nat.zero_le _, rfl, 0, rfl⟩
  case round =>
    obtain ⟨k, hk, rfl, HW⟩ := hrel
    obtain ⟨m0, rfl⟩ := HW.out
    by_cases hlt : k < n
    · obtain ⟨x, hx⟩ : ∃ x, L[k]? = some x := ⟨_, List.getElem?_eq_getElem (by rw [← HN.out]; exact hlt)⟩
      obtain ⟨p0, p1, p2⟩ := HG.out k x hx
      obtain ⟨r0, r1, r2⟩ := HG'.out k x hx
      clear hx
      have hkI : (0 : Int) ≤ (k : Int) := by omega
      have hkI2 : (k : Int) < (n : Int) := by omega
      go_wp2
      go_quiet (fail)
      go_wp2
      go_roundw
      case rel => exact ⟨k + 1, by omega, by go_num, _, rfl⟩
      case measure => simp [intOf]; omega
    · go_wp2
      go_ret
      exact ⟨rfl, (Below.refl _ _).trans ⟨rfl, rfl, rfl, Nat.le_refl _, fun _ _ => rfl⟩⟩
end Go.Proofs.Ytffngpdngjfcfaa
namespace Go.Proofs.Ytffngpdngjfcfaa
open Bd (Nd)

theorem vis_fuel {L : List Nd} (hL : Falls L) (least : Nat) (h2 : 2 ≤ least) : ∀ n k acc, n < k → n < L.length + 2 → vis L least k n acc = vis L least (n + 1) n acc := by
  intro n
  induction n using Nat.strongRecOn with
  | ind n ih =>
    intro k acc hk hn
    cases k with
    | zero => omega
    | succ k =>
      show vis L least (k + 1) n acc = vis L least (n + 1) n acc
      unfold vis
      by_cases h1 : n < least
      · rw [if_pos h1, if_pos h1]
      · rw [if_neg h1, if_neg h1]
        by_cases h3 : n ∈ acc
        · rw [if_pos h3, if_pos h3]
        · rw [if_neg h3, if_neg h3]
          obtain ⟨a, b, _⟩ := hL.at (n := n) (by omega) hn
          rw [ih _ a k acc (by omega) (by omega), ih _ a n acc (by omega) (by omega), ih _ b k _ (by omega) (by omega), ih _ b n _ (by omega) (by omega)]

/-- Two numbers of two lists that mean the same. -/
def Rel (L L' : List Nd) (m m' : Nat) : Prop := m < L.length + 2 ∧ m' < L'.length + 2 ∧ Bd.den L m = Bd.den L' m'

section
variable {bits bits' : Nat} {L L' : List Nd}
theorem Rel.symm {m m' : Nat} (h : Rel L L' m m') : Rel L' L m' m := ⟨h.2.1, h.1, h.2.2.symm⟩
theorem rel_fn (hL' : Bd.Okay bits' L') {m a b : Nat} (h1 : Rel L L' m a) (h2 : Rel L L' m b) : a = b := Bd.canon hL' h1.2.1 h2.2.1 (h1.2.2.symm.trans h2.2.2)
theorem rel_end (hL' : Bd.Okay bits' L') {m m' : Nat} (h : Rel L L' m m') (hm : m < 2) : m' = m := by
  refine Bd.canon hL' h.2.1 (by omega) ?_
  rw [← h.2.2]
  rcases Nat.lt_or_ge m 1 with h0 | h0
  · have : m = 0 := by omega
    subst this
    rw [Bd.den_zero, Bd.den_zero]
  · have : m = 1 := by omega
    subst this
    rw [Bd.den_one, Bd.den_one]
theorem rel_two (hL : Bd.Okay bits L) (hL' : Bd.Okay bits' L') {m m' : Nat} (h : Rel L L' m m') : m < 2 ↔ m' < 2 := by
  constructor
  · intro hm; rw [rel_end hL' h hm]; exact hm
  · intro hm; rw [rel_end hL h.symm hm]; exact hm
theorem rel_bit (hL : Bd.Okay bits L) (hL' : Bd.Okay bits' L') {m m' : Nat} (h : Rel L L' m m') : Bd.bitOf L m = Bd.bitOf L' m' := by
  have h1 := Bd.bit_ge hL' h.2.1 (k := Bd.bitOf L m) (by rw [← h.2.2]; exact Bd.from_den hL m h.1) (Bd.bitOf_le hL h.1)
  have h2 := Bd.bit_ge hL h.1 (k := Bd.bitOf L' m') (by rw [h.2.2]; exact Bd.from_den hL' m' h.2.1) (Bd.bitOf_le hL' h.2.1)
  omega
theorem half_of (hL : Bd.Okay bits L) {m : Nat} (h2 : 2 ≤ m) (hm : m < L.length + 2) : L[m - 2]? = some (L.getD (m - 2) (0, 0, 0)) ∧ (L.getD (m - 2) (0, 0, 0)).1 = Bd.bitOf L m ∧ (L.getD (m - 2) (0, 0, 0)).2.1 < m ∧ (L.getD (m - 2) (0, 0, 0)).2.2 < m ∧
    Bd.den L (L.getD (m - 2) (0, 0, 0)).2.1 = Bd.cof (Bd.den L m) (Bd.bitOf L m) false ∧ Bd.den L (L.getD (m - 2) (0, 0, 0)).2.2 = Bd.cof (Bd.den L m) (Bd.bitOf L m) true := by
  obtain ⟨a, b, hx⟩ := hL.falls.at h2 hm
  obtain ⟨f1, f2, f3, f4, f5, f6⟩ := hL.fit _ _ hx
  have hb : (L.getD (m - 2) (0, 0, 0)).1 = Bd.bitOf L m := by
    have := Bd.bitOf_at hx
    rw [show m - 2 + 2 = m by omega] at this
    exact this.symm
  have hd : Bd.den L m = Bd.mux (L.getD (m - 2) (0, 0, 0)).1 (Bd.den L (L.getD (m - 2) (0, 0, 0)).2.1) (Bd.den L (L.getD (m - 2) (0, 0, 0)).2.2) := by
    have := Bd.den_at hL hx
    rw [show m - 2 + 2 = m by omega] at this
    exact this
  have fl := (Bd.from_den hL (L.getD (m - 2) (0, 0, 0)).2.1 (by omega)).mono f5
  have fh := (Bd.from_den hL (L.getD (m - 2) (0, 0, 0)).2.2 (by omega)).mono f6
  have c0 := Bd.cof_mux fl fh false
  have c1 := Bd.cof_mux fl fh true
  rw [← hd] at c0 c1
  rw [hb] at c0 c1
  exact ⟨hx, hb, a, b, c0.symm, c1.symm⟩
theorem rel_half (hL : Bd.Okay bits L) (hL' : Bd.Okay bits' L') {m m' : Nat} (h : Rel L L' m m') (h2 : 2 ≤ m) : Rel L L' (L.getD (m - 2) (0, 0, 0)).2.1 (L'.getD (m' - 2) (0, 0, 0)).2.1 ∧ Rel L L' (L.getD (m - 2) (0, 0, 0)).2.2 (L'.getD (m' - 2) (0, 0, 0)).2.2 ∧ (L.getD (m - 2) (0, 0, 0)).1 = (L'.getD (m' - 2) (0, 0, 0)).1 := by
  have h2' : 2 ≤ m' := by have := rel_two hL hL' h; omega
  obtain ⟨_, b1, l1, h1, c1, d1⟩ := half_of hL h2 h.1
  obtain ⟨_, b2, l2, h2, c2, d2⟩ := half_of hL' h2' h.2.1
  have hb := rel_bit hL hL' h
  have k1 := h.1
  have k2 := h.2.1
  exact ⟨⟨by omega, by omega, by rw [c1, c2, h.2.2, hb]⟩, ⟨by omega, by omega, by rw [d1, d2, h.2.2, hb]⟩, by rw [b1, b2, hb]⟩

/-- Two rows of numbers that mean the same. -/
def Alike (L L' : List Nd) (acc acc' : List Nat) : Prop := acc.length = acc'.length ∧ ∀ (i a a' : Nat), acc[i]? = some a → acc'[i]? = some a' → Rel L L' a a'
theorem Alike.symm {acc acc' : List Nat} (h : Alike L L' acc acc') : Alike L' L acc' acc := ⟨h.1.symm, fun i a a' h1 h2 => (h.2 i a' a h2 h1).symm⟩
theorem Alike.at {acc acc' : List Nat} (hL' : Bd.Okay bits' L') (h : Alike L L' acc acc') {i a b : Nat} (ha : acc[i]? = some a) (hr : Rel L L' a b) : acc'[i]? = some b := by
  have hi := Bd.getElem?_lt ha
  have hx : acc'[i]? = some (acc'[i]'(by rw [← h.1]; exact hi)) := List.getElem?_eq_getElem _
  have := rel_fn hL' (h.2 i a _ ha hx) hr
  rw [hx, this]
theorem Alike.mem {acc acc' : List Nat} (hL' : Bd.Okay bits' L') (h : Alike L L' acc acc') {a b : Nat} (ha : a ∈ acc) (hr : Rel L L' a b) : b ∈ acc' := by
  obtain ⟨i, hi, e⟩ := List.mem_iff_getElem.1 ha
  exact List.mem_of_getElem? (h.at hL' (by rw [List.getElem?_eq_getElem hi, e]) hr)
theorem Alike.snoc {acc acc' : List Nat} (h : Alike L L' acc acc') {a b : Nat} (hr : Rel L L' a b) : Alike L L' (acc ++ [a]) (acc' ++ [b]) := by
  refine ⟨by simp [h.1], fun i x x' hx hx' => ?_⟩
  have e := h.1
  rcases Nat.lt_or_ge i acc.length with h1 | h1
  · rw [List.getElem?_append_left h1] at hx
    rw [List.getElem?_append_left (by omega)] at hx'
    exact h.2 i x x' hx hx'
  · rw [List.getElem?_append_right h1] at hx
    rw [List.getElem?_append_right (by omega), ← e] at hx'
    have h0 : i - acc.length = 0 := by have := Bd.getElem?_lt hx; simp at this; exact this
    rw [h0] at hx hx'
    simp at hx hx'
    subst hx hx'
    exact hr

theorem vis_alike (hL : Bd.Okay bits L) (hL' : Bd.Okay bits' L') : ∀ k m m' acc acc', Rel L L' m m' → Alike L L' acc acc' → Alike L L' (vis L 2 k m acc) (vis L' 2 k m' acc') := by
  intro k
  induction k with
  | zero => intro m m' acc acc' _ h; exact h
  | succ k ih =>
    intro m m' acc acc' hr h
    unfold vis
    have h2 := rel_two hL hL' hr
    by_cases hm : m < 2
    · rw [if_pos hm, if_pos (h2.1 hm)]; exact h
    · rw [if_neg hm, if_neg (fun e => hm (h2.2 e))]
      by_cases hin : m ∈ acc
      · rw [if_pos hin, if_pos (h.mem hL' hin hr)]; exact h
      · rw [if_neg hin, if_neg (fun e => hin (h.symm.mem hL e hr.symm))]
        obtain ⟨r1, r2, _⟩ := rel_half hL hL' hr (by omega)
        exact (ih _ _ _ _ r2 (ih _ _ _ _ r1 h)).snoc hr

theorem alike_nil : Alike L L' [] [] := ⟨rfl, fun i a a' h _ => by simp at h⟩
/-- The numbers that a node needs, in the order of a list. -/
def ords (L : List Nd) (n : Nat) : List Nat := vis L 2 (n + 1) n []
theorem ords_alike (hL : Bd.Okay bits L) (hL' : Bd.Okay bits' L') {n n' : Nat} (h : Rel L L' n n') : Alike L L' (ords L n) (ords L' n') := by
  have := vis_alike hL hL' (n + n' + 1) n n' [] [] h alike_nil
  rw [vis_fuel hL.falls 2 (by omega) n _ [] (by omega) h.1, vis_fuel hL'.falls 2 (by omega) n' _ [] (by omega) h.2.1] at this
  exact this
theorem ords_nodup (hL : Bd.Okay bits L) {n : Nat} (hn : n < L.length + 2) : (ords L n).Nodup := vis_nodup L 2 hL.falls (by omega) (n + 1) n [] hn (by simp)
theorem ords_lt (hL : Bd.Okay bits L) {n : Nat} (hn : n < L.length + 2) : ∀ m, m ∈ ords L n → 2 ≤ m ∧ m < L.length + 2 := vis_lt L 2 hL.falls (by omega) (n + 1) n [] hn (by simp)
theorem ords_closed (hL : Bd.Okay bits L) {n : Nat} (hn : n < L.length + 2) : Closed L 2 (ords L n) := vis_closed L 2 hL.falls (by omega) (n + 1) n [] (by omega) hn (fun j m h => by simp at h)
theorem ords_last {n : Nat} (h2 : 2 ≤ n) : ∃ l, ords L n = l ++ [n] := by
  unfold ords vis
  rw [if_neg (by omega), if_neg (by simp)]
  exact ⟨_, rfl⟩

theorem list_length (n : Nat) : (listOf L n).length = (ords L n).length := by unfold listOf; rw [List.length_map]; rfl
theorem list_at {n i : Nat} {m : Nat} (h : (ords L n)[i]? = some m) : (listOf L n)[i]? = some (rn L (ords L n) 2 m) := by
  show ((ords L n).map (rn L (ords L n) 2))[i]? = _
  rw [List.getElem?_map, h]; rfl

theorem name_alike (hL : Bd.Okay bits L) (hL' : Bd.Okay bits' L') {acc acc' : List Nat} (h : Alike L L' acc acc') (hn' : acc'.Nodup) {c c' : Nat} (hr : Rel L L' c c') (hc : c < 2 ∨ c ∈ acc) : nm acc 2 c = nm acc' 2 c' := by
  unfold nm
  by_cases hin : c ∈ acc
  · have hin' := h.mem hL' hin hr
    rw [if_pos hin, if_pos hin']
    have := h.at hL' (idx_at hin) hr
    rw [idx_of hn' this]
  · have hin' : c' ∉ acc' := fun e => hin (h.symm.mem hL e hr.symm)
    rw [if_neg hin, if_neg hin']
    rcases hc with hc | hc
    · exact (rel_end hL' hr hc).symm
    · exact absurd hc hin

/-- A function has one list, whatever the table. -/
theorem list_alike (hL : Bd.Okay bits L) (hL' : Bd.Okay bits' L') {n n' : Nat} (h : Rel L L' n n') : listOf L n = listOf L' n' := by
  have hA := ords_alike hL hL' h
  apply List.ext_getElem?
  intro i
  rcases Nat.lt_or_ge i (ords L n).length with hi | hi
  · have e1 : (ords L n)[i]? = some (ords L n)[i] := List.getElem?_eq_getElem hi
    have e2 : (ords L' n')[i]? = some ((ords L' n')[i]'(by rw [← hA.1]; exact hi)) := List.getElem?_eq_getElem _
    rw [list_at e1, list_at e2]
    have hr := hA.2 i _ _ e1 e2
    have hm := ords_lt hL h.1 _ (List.mem_of_getElem? e1)
    obtain ⟨r1, r2, r3⟩ := rel_half hL hL' hr hm.1
    have cl := ords_closed hL h.1 i _ e1
    have inn : ∀ c, (c < 2 ∨ ∃ j, j < i ∧ (ords L n)[j]? = some c) → c < 2 ∨ c ∈ ords L n := fun c hc => hc.imp_right fun ⟨j, _, hj⟩ => List.mem_of_getElem? hj
    have q1 := name_alike hL hL' hA (ords_nodup hL' h.2.1) r1 (inn _ (cl _ (Or.inl rfl)))
    have q2 := name_alike hL hL' hA (ords_nodup hL' h.2.1) r2 (inn _ (cl _ (Or.inr rfl)))
    unfold rn
    rw [r3, q1, q2]
  · rw [List.getElem?_eq_none (by rw [list_length]; exact hi), List.getElem?_eq_none (by rw [list_length, ← hA.1]; exact hi)]

/-- A list is a table, and each of its nodes means what it meant. -/
theorem list_okay (hL : Bd.Okay bits L) {n : Nat} (hn : n < L.length + 2) : Bd.Okay bits (listOf L n) ∧ ∀ i m, (ords L n)[i]? = some m → Bd.den (listOf L n) (i + 2) = Bd.den L m := by
  have S := shrunk_all (mark := 0) hL (Nat.zero_le _) (ords_nodup hL hn) (fun m hm => ords_lt hL hn m hm) (ords_closed hL hn) (ords L n).length (Nat.le_refl _)
  have e : L.take 0 ++ ((ords L n).map (rn L (ords L n) (0 + 2))).take (ords L n).length = listOf L n := by
    rw [List.take_zero, List.nil_append, List.take_of_length_le (by rw [List.length_map]; omega)]
    rfl
  have h1 := S.okay
  rw [e] at h1
  refine ⟨h1, fun i m hi => ?_⟩
  have h2 := S.den i m (Bd.getElem?_lt hi) hi
  rw [e, show 0 + 2 + i = i + 2 by omega] at h2
  exact h2
theorem list_last (hL : Bd.Okay bits L) {n : Nat} (h2 : 2 ≤ n) (hn : n < L.length + 2) : 1 ≤ (listOf L n).length ∧ Bd.den (listOf L n) ((listOf L n).length + 1) = Bd.den L n := by
  obtain ⟨l, e⟩ := ords_last (L := L) h2
  have hlen : (listOf L n).length = l.length + 1 := by rw [list_length, e]; simp
  have hx : (ords L n)[l.length]? = some n := by rw [e, List.getElem?_append_right (Nat.le_refl _)]; simp
  have := (list_okay hL hn).2 _ _ hx
  rw [hlen]
  exact ⟨by omega, this⟩
theorem list_rel (hL : Bd.Okay bits L) {n : Nat} (h2 : 2 ≤ n) (hn : n < L.length + 2) : Rel L (listOf L n) n ((listOf L n).length + 1) := by
  obtain ⟨h1, h3⟩ := list_last hL h2 hn
  exact ⟨hn, by omega, h3.symm⟩
theorem list_few (hL : Bd.Okay bits L) {n : Nat} (hn : n < L.length + 2) : (listOf L n).length ≤ L.length := by
  rw [list_length]
  have hnd := ords_nodup hL hn
  have hlt := ords_lt hL hn
  refine Bd.pigeon L.length (ords L n).length (fun i => (ords L n).getD i 0 - 2) (fun i hi => ?_) (fun i j hi hj he => ?_)
  · have e : (ords L n).getD i 0 = (ords L n)[i] := by rw [List.getD_eq_getElem?_getD, List.getElem?_eq_getElem hi]; rfl
    have := hlt _ (List.getElem_mem hi)
    show (ords L n).getD i 0 - 2 < L.length
    rw [e]
    omega
  · have e1 : (ords L n).getD i 0 = (ords L n)[i] := by rw [List.getD_eq_getElem?_getD, List.getElem?_eq_getElem hi]; rfl
    have e2 : (ords L n).getD j 0 = (ords L n)[j] := by rw [List.getD_eq_getElem?_getD, List.getElem?_eq_getElem hj]; rfl
    have a1 := hlt _ (List.getElem_mem hi)
    have a2 := hlt _ (List.getElem_mem hj)
    have he' : (ords L n).getD i 0 - 2 = (ords L n).getD j 0 - 2 := he
    rw [e1, e2] at he'
    exact (List.getElem_inj (h₀ := hi) (h₁ := hj) hnd).1 (by omega)
end

/-- A right list: a table that is the list of its last node. -/
structure Right (bits : Nat) (Q : List Nd) : Prop where
  okay : Bd.Okay bits Q
  order : ∀ i m, (ords Q (Q.length + 1))[i]? = some m → m = i + 2
  all : (ords Q (Q.length + 1)).length = Q.length

theorem list_right {bits : Nat} {L : List Nd} (hL : Bd.Okay bits L) {n : Nat} (h2 : 2 ≤ n) (hn : n < L.length + 2) : Right bits (listOf L n) := by
  obtain ⟨hQ, hd⟩ := list_okay hL hn
  have hA := ords_alike hL hQ (list_rel hL h2 hn)
  refine ⟨hQ, fun i m hi => ?_, by rw [← hA.1, list_length]⟩
  have hil : i < (ords L n).length := by rw [hA.1]; exact Bd.getElem?_lt hi
  have e1 : (ords L n)[i]? = some (ords L n)[i] := List.getElem?_eq_getElem hil
  have hr := hA.2 i _ _ e1 hi
  refine Bd.canon hQ hr.2.1 (by rw [list_length]; omega) ?_
  rw [hd i _ e1]
  exact hr.2.2.symm
theorem Right.nil {bits : Nat} (h : bits ≤ 128) : Right bits [] := ⟨Bd.Okay.nil h, fun i m h => by simp [ords, vis] at h, by simp [ords, vis]⟩

/-- Functions of a family that are those of a list. -/
def denFam {bits M : Nat} (A : Bd.Fam bits M) (Q : List Nd) (hQ : Bd.Okay bits Q) : Bd.Fam bits M where
  F k f := A.F k f ∧ ∃ i, i < Q.length + 2 ∧ f = Bd.den Q i
  dep k f h := A.dep k f h.1
  go k f b hk h := by
    refine ⟨A.go k f b hk h.1, ?_⟩
    obtain ⟨h1, i, hi, rfl⟩ := h
    have hf := A.dep k _ h1
    have hb := Bd.bit_ge hQ hi hf (by have := hQ.few; omega)
    rcases Nat.lt_or_ge k (Bd.bitOf Q i) with h3 | h3
    · exact ⟨i, hi, Bd.cof_from ((Bd.from_den hQ i hi).mono h3) b⟩
    · have hbk : Bd.bitOf Q i = k := by omega
      have h2 : 2 ≤ i := by
        rcases Nat.lt_or_ge i 2 with h4 | h4
        · rw [Bd.bitOf_end Q h4] at hbk
          have := hQ.few
          omega
        · exact h4
      obtain ⟨_, _, l, h, c0, c1⟩ := half_of hQ h2 hi
      cases b
      · exact ⟨(Q.getD (i - 2) (0, 0, 0)).2.1, by omega, by rw [c0, hbk]⟩
      · exact ⟨(Q.getD (i - 2) (0, 0, 0)).2.2, by omega, by rw [c1, hbk]⟩
  en := A.en
  all k f hk h := A.all k f hk h.1

theorem den_few {bits M : Nat} {A : Bd.Fam bits M} {Q N : List Nd} {hQ : Bd.Okay bits Q} (hN : Bd.Okay bits N) (hW : Bd.Within (denFam A Q hQ) N) : N.length ≤ Q.length := by
  have ex : ∀ i, i < N.length → ∃ j, j < Q.length ∧ Bd.den N (i + 2) = Bd.den Q (j + 2) := by
    intro i hi
    obtain ⟨_, j, hj, e⟩ := hW i _ (List.getElem?_eq_getElem hi)
    rcases Nat.lt_or_ge j 2 with h | h
    · exfalso
      have : i + 2 = j := rel_end (L := Q) hN ⟨by omega, by omega, e.symm⟩ h
      omega
    · exact ⟨j - 2, by omega, by rw [e, show j - 2 + 2 = j by omega]⟩
  refine Bd.pigeon Q.length N.length (fun i => if h : i < N.length then (ex i h).choose else 0) (fun i hi => ?_) (fun i j hi hj he => ?_)
  · show (if h : i < N.length then (ex i h).choose else 0) < _
    rw [dif_pos hi]
    exact (ex i hi).choose_spec.1
  · have he' : (if h : i < N.length then (ex i h).choose else 0) = (if h : j < N.length then (ex j h).choose else 0) := he
    rw [dif_pos hi, dif_pos hj] at he'
    have e1 := (ex i hi).choose_spec.2
    have e2 := (ex j hj).choose_spec.2
    rw [he', ← e2] at e1
    have := Bd.canon hN (by omega) (by omega) e1
    omega
end Go.Proofs.Ytffngpdngjfcfaa
namespace Go.Proofs.Ytffngpdngjfcfaa
open Go.RowKit Go.Maps
open Bd (Nd)

theorem below_drewN {B : Nat} {a w : World} (h : Below B a w) (m : Nat) : Below B a (w.drewN m) := ⟨h.os, h.tape, h.output, h.size, h.block⟩

/-- A child of a node, as fits looks at it. -/
def Kid (w : World) (g n b to : Nat) : Prop := to < 2 ∨ ∃ c d : Nat, to = c + 2 ∧ c < n ∧ w.cell? ⟨g, c * 3, none⟩ = some (.int .i64 d) ∧ b < d
theorem Kid.any {w : World} {g n b to : Nat} (h : Kid w g n b to) (hg : g < w.heap.size) : to < 2 ∨ ∃ c d : Nat, to = c + 2 ∧ c < n ∧ (∀ o, (w.alloc o).cell? ⟨g, c * 3, none⟩ = some (.int .i64 d)) ∧ b < d := by
  rcases h with h | ⟨c, d, h1, h2, h3, h4⟩
  · exact Or.inl h
  · exact Or.inr ⟨c, d, h1, h2, fun o => by rw [World.cell?_of_block (heap_alloc_old w o hg)]; exact h3, h4⟩

set_option maxRecDepth 4000 in
set_option maxHeartbeats 2000000 in
theorem fits_ok (w : World) (g cap n i bits : Nat) (x : Nd) (hg : g < w.heap.size) (hi : i < n) (hn : n ≤ 1073741826) (hx0 : w.cell? ⟨g, i * 3, none⟩ = some (.int .i64 x.1)) (hx1 : w.cell? ⟨g, i * 3 + 1, none⟩ = some (.int .i64 x.2.1)) (hx2 : w.cell? ⟨g, i * 3 + 2, none⟩ = some (.int .i64 x.2.2))
    (hb : x.1 < bits) (hne : x.2.1 ≠ x.2.2) (hl : x.2.1 < i + 2) (hh : x.2.2 < i + 2) (kl : Kid w g n x.1 x.2.1) (kh : Kid w g n x.1 x.2.2) :
    Calls Try.prog 91 #[.slice (some ⟨g, 0, none⟩) n cap, .int .i64 i, .int .i64 bits] w fun e w' => e = .returned (.bool true) ∧ Below w.heap.size w w' := by
  have kl' := kl.any hg
  have kh' := kh.any hg
  obtain ⟨b, lo, hi'⟩ := x
  simp only at hx0 hx1 hx2 hb hne hl hh kl' kh'
  have HB : Hid (∀ o, Below w.heap.size w (w.alloc o)) := fun o => (Below.refl _ _).alloc (Nat.le_refl _) o
  have hiI : (i : Int) < (n : Int) := by omega
  have hi0 : (0 : Int) ≤ (i : Int) := by omega
  have hbI : (b : Int) < (bits : Int) := by omega
  have hb0 : ¬ (b : Int) < 0 := by omega
  have hbge : ¬ (bits : Int) ≤ (b : Int) := by omega
  have hneI : ((lo : Int) == (hi' : Int)) = false := by rw [beq_eq_false_iff_ne]; intro h; exact hne (Int.ofNat_inj.1 h)
  have hlI : (lo : Int) < (i : Int) + 2 := by omega
  have hhI : (hi' : Int) < (i : Int) + 2 := by omega
  have hnI : (n : Int) ≤ 1073741826 := by omega
  have ix0 : ∀ (a b : Value) (w : World), (Instr.index 171 (.agg #[a, b]) (.int .i64 0)).run Try.prog w = .ok a w := fun _ _ _ => by kernel_rfl
  have ix1 : ∀ (a b : Value) (w : World), (Instr.index 171 (.agg #[a, b]) (.int .i64 1)).run Try.prog w = .ok b w := fun _ _ _ => by kernel_rfl
  have wl : (((2 : Int) ≤ (lo : Int)) = False ∧ ((lo : Int) < 0) = False ∧ ((i : Int) + 2 ≤ (lo : Int)) = False) ∨ ∃ c d : Nat, (lo : Int) = (c : Int) + 2 ∧ (c : Int) < (n : Int) ∧ c < n ∧ (2 : Int) ≤ (c : Int) + 2 ∧ ¬ (c : Int) + 2 < 0 ∧ (∀ o, (w.alloc o).cell? ⟨g, c * 3, none⟩ = some (.int .i64 d)) ∧ ¬ (d : Int) ≤ (b : Int) := by
    rcases kl' with k | ⟨c, d, h1, h2, h3, h4⟩
    · exact Or.inl ⟨eq_false (by omega), eq_false (by omega), eq_false (by omega)⟩
    · exact Or.inr ⟨c, d, by omega, by omega, h2, by omega, by omega, h3, by omega⟩
  have wh : (((2 : Int) ≤ (hi' : Int)) = False ∧ ((hi' : Int) < 0) = False ∧ ((i : Int) + 2 ≤ (hi' : Int)) = False) ∨ ∃ c d : Nat, (hi' : Int) = (c : Int) + 2 ∧ (c : Int) < (n : Int) ∧ c < n ∧ (2 : Int) ≤ (c : Int) + 2 ∧ ¬ (c : Int) + 2 < 0 ∧ (∀ o, (w.alloc o).cell? ⟨g, c * 3, none⟩ = some (.int .i64 d)) ∧ ¬ (d : Int) ≤ (b : Int) := by
    rcases kh' with k | ⟨c, d, h1, h2, h3, h4⟩
    · exact Or.inl ⟨eq_false (by omega), eq_false (by omega), eq_false (by omega)⟩
    · exact Or.inr ⟨c, d, by omega, by omega, h2, by omega, by omega, h3, by omega⟩
  generalize (lo : Int) = lo at *
  generalize (hi' : Int) = hi' at *
  clear hg hi hn hb hne hl hh kl kh kl' kh'
  rcases wl with ⟨l1, l2, l3⟩ | ⟨c, d, rfl, l1, l2, l5, l6, l3, l4⟩ <;> rcases wh with ⟨r1, r2, r3⟩ | ⟨c', d', rfl, r1, r2, r5, r6, r3, r4⟩
  all_goals (
    go_enter Try.func91, Try.ntmps91
    go_wp2
    refine wp_loop_rounds 3 ?_
    rw [rounds_succ]
    go_wp2
    go_quiet (fail)
    go_wp2
    rw [rounds_succ]
    go_wp2
    go_quiet (fail)
    go_wp2
    rw [rounds_succ]
    go_wp2
    go_ret
    exact ⟨rfl, below_drewN (HB.out _) _⟩)
end Go.Proofs.Ytffngpdngjfcfaa
namespace Go.Proofs.Ytffngpdngjfcfaa
open Go.RowKit Go.Maps
open Bd (Nd)

set_option maxRecDepth 4000 in
set_option maxHeartbeats 2000000 in
theorem inOrder_ok {w : World} {lv : Value} {Q : List Nd} {bits : Nat} (hlist : w.ownsRow 0 82 3 lv Q.length (flat Q)) (hR : Right bits Q) (hlen : Q.length ≤ 1073741824) :
    Calls Try.prog 92 #[lv] w fun e w' => e = .returned (.bool true) ∧ Below w.heap.size w w' := by
  obtain ⟨ao, cp, rfl⟩ : ∃ ao cp, lv = .slice ao Q.length cp := by
    rcases hlist.2 with ⟨h1, h2⟩ | ⟨g, cp, cur, h1, _⟩
    · exact ⟨none, 0, by rw [h1, h2]⟩
    · exact ⟨_, _, h1⟩
  have HL := keep hlist
  have HR := keep hR
  obtain ⟨n, hn⟩ : ∃ n, n = Q.length := ⟨_, rfl⟩
  have HN := keep hn
  rw [← hn] at hlen HL ⊢
  have hlenI : (n : Int) ≤ 1073741824 := by omega
  have e1 : (n : Int) - 1 + 2 = ((n + 1 : Nat) : Int) := by omega
  have HO : Hid (Calls Try.prog 62 #[.slice ao n cp, .int .i64 2, .slice (some ⟨w.heap.size, 0, none⟩) 1 1] (w.alloc (.cells #[.int .i64 ((n : Int) + 1)] 3)) fun e w' => ∃ ob pb, e = .returned (.pointer (some ⟨ob, 0, none⟩)) ∧ OrdAt w' ob pb (.slice ao n cp) Q 2 (ords Q (Q.length + 1)) ∧ Below w.heap.size w w') := by
    have hw : Below w.heap.size w (w.alloc (.cells #[.int .i64 ((n : Int) + 1)] 3)) := (Below.refl _ _).alloc (Nat.le_refl _) _
    refine (orderOf_one (lv := .slice ao n cp) (L := Q) (by rw [← hn]; exact HL.out.alloc _) hR.okay.falls (by omega) (Q.length + 1) w.heap.size 1 (by omega) (by simp) (by rw [cell_at (heap_alloc_new w _), hn]; rfl)).mono ?_
    rintro e w' ⟨ob, pb, rfl, h1, h2⟩
    exact ⟨ob, pb, rfl, h1, hw.trans (h2.mono hw.size)⟩
  clear hlist hR hn hlen
  go_enter Try.func92, Try.ntmps92
  go_wp2_with fail
  refine HO.out.mono ?_
  rintro e w1 ⟨ob, pb, rfl, hO, hb⟩
  have HB1 := keep hb
  have c2 : w1.cell? ⟨ob, 2, none⟩ = some (.map (some pb)) := by rw [cell_at hO.cells]; rfl
  obtain ⟨f, hf, hr, hz⟩ := hO.place
  obtain ⟨D, hown, hsz, hview⟩ := hf
  have HOWN := keep hown
  have HV := keep hview
  have HRM := keep hr
  have HZ := keep hz
  obtain ⟨sz, hsze⟩ : ∃ sz, sz = (ords Q (Q.length + 1)).length := ⟨_, rfl⟩
  rw [← hsze] at HOWN
  clear hO hb hown hview hr hz hsz hsze HO
  go_wp2_with (first | (at_range; refine wpList_range_own _ rfl (.tmp 16) 151 rfl 3 3 kInt Try.underlying151 (plainElem Try.prog 3) pb sz D rfl HOWN.out ?_; intro w0 hrg0 hg0 hs0) | go_in)
  have HB0 : Hid (Below w.heap.size w w0) := by
    have h := HB1.out
    exact ⟨hg0.os.trans h.os, hg0.tape.trans h.tape, hg0.output.trans h.output, by have := h.size; omega, fun k hk => (hg0.block k (by have := h.size; omega) (by simp)).trans (h.block k hk)⟩
  have HRG := keep hrg0
  clear hrg0 hg0
  go_frame
  go_loopw [4] (fun _ wr => ∃ (left : Lit → Bool) (cnt : Nat), wr.ranges Try.prog 3 (plainElem (H := Unit) Try.prog 3) pb w1.heap.size sz D left cnt ∧ Below w.heap.size w wr) (fun _ wr => wr.rangeLeft pb w1.heap.size)
  case atStart => exact ⟨_, _, HRG.out, HB0.out⟩
  case round =>
    obtain ⟨left, cnt, hrg, hB⟩ := hrel
    have HRG := keep hrg
    have HB := keep hB
    clear hB
    go_wp2_with (first | (at_next; refine wpList_next_ranges_ii _ rfl (.tmp 17) rfl 3 3 .i64 .i64 kInt Try.underlying3 Try.underlying3 pb w1.heap.size sz D left cnt rfl hrg ?_ ?_) | go_in)
    · intro _ hl0
      clear hl0
      go_wp2
      go_ret
      exact ⟨rfl, HB.out⟩
    · intro x c w2 cnt1 hwx hwc hlx hat hrg1 hlt hg1 hs1 hen
      have keyx : keyOf Try.prog 3 (.int .i64 x) = some (.int .i64 x) := keyOf_int_mk Try.underlying3 hwx
      obtain ⟨v1, v2⟩ := HV.out _ _ keyx
      rw [Maps.has_true_of_atKey hat] at v1
      obtain ⟨v, hfv⟩ := Option.isSome_iff_exists.1 v1.symm
      have hx0 := HZ.out x v1.symm
      obtain ⟨m, rfl⟩ : ∃ m : Nat, x = (m : Int) := ⟨x.toNat, by omega⟩
      have hmem : m ∈ ords Q (Q.length + 1) := by
        rcases Classical.em (m ∈ ords Q (Q.length + 1)) with h | h
        · exact h
        · have := (HRM.out m).2 h
          have e : f (i6 m) = some v := hfv
          rw [e] at this
          cases this
      obtain ⟨j, hj⟩ : ∃ j, (ords Q (Q.length + 1))[j]? = some m := ⟨_, idx_at hmem⟩
      have hcj : c = ((2 + j : Nat) : Int) := by
        have h1 := v2 _ ((HRM.out m).1 j hj)
        rw [hat] at h1
        cases h1
        rfl
      have hmj := HR.out.order j m hj
      have hc : c = (m : Int) := by omega
      subst hc
      have hBw2 : Hid (Below w.heap.size w w2) := ⟨hg1.os.trans HB.out.os, hg1.tape.trans HB.out.tape, hg1.output.trans HB.out.output, by rw [hs1]; exact HB.out.size, fun k hk => (hg1.block k (by have := HB.out.size; omega) (by simp; have := HB1.out.size; omega)).trans (HB.out.block k hk)⟩
      have HRG1 := keep hrg1
      clear hmj hcj hj hmem hx0 hfv v1 v2 keyx hat hlx hwx hwc hg1 hs1 hrg hrg1
      have hne : ((m : Int) != (m : Int)) = false := by simp
      go_wp2
      go_roundw
      case rel => exact ⟨_, _, HRG1.out, hBw2.out⟩
      case measure => rw [HRG1.out.left_eq, HRG.out.left_eq]; exact hlt
end Go.Proofs.Ytffngpdngjfcfaa
namespace Go.Proofs.Ytffngpdngjfcfaa
open Go.RowKit Go.Maps
open Bd (Nd)

theorem make_hint (w : World) (n : Int) : (Instr.makeMap 47 (some (.int .i64 n))).run Try.prog w = .ok (.map (some w.heap.size)) (w.alloc (.map #[] 0)) := by kernel_rfl

/-- The nodes that are there so far. -/
def There (w : World) (b k : Nat) (l : List Nd) : Prop := ∃ sz f, sz ≤ k ∧ MapOf Try.prog 82 3 w b sz f ∧ ∀ x, x ∉ l → f (ndV x) = none
theorem There.lt {w : World} {b k : Nat} {l : List Nd} (h : There w b k l) : b < w.heap.size := by
  obtain ⟨sz, f, _, h, _⟩ := h
  exact h.lt
theorem There.same {w w' : World} {b k : Nat} {l : List Nd} (h : There w b k l) (hb : w'.heap[b]? = w.heap[b]?) : There w' b k l := by
  obtain ⟨sz, f, h0, h1, h2⟩ := h
  exact ⟨sz, f, h0, h1.same hb, h2⟩
theorem There.look {w : World} {b k : Nat} {l : List Nd} (h : There w b k l) {x : Nd} (hx : x ∉ l) (h0 : x.1 < 9223372036854775808) (h1 : x.2.1 < 9223372036854775808) (h2 : x.2.2 < 9223372036854775808) :
    (Instr.lookup 47 (.map (some b)) (.agg #[.int .i64 x.1, .int .i64 x.2.1, .int .i64 x.2.2]) true).run Try.prog w = .ok (.tuple #[.int .i64 0, .bool false]) w := by
  obtain ⟨sz, f, _, hf, hn⟩ := h
  obtain ⟨kl, hkl⟩ := key_node (a := x.1) (b := x.2.1) (c := x.2.2) h0 h1 h2
  have := MapOf.look hf kNode Try.underlying47 Try.underlying3 (zero_int _) hkl
  have e : f (.agg #[i6 x.1, i6 x.2.1, i6 x.2.2]) = none := hn x hx
  rw [e] at this
  exact this
theorem There.put {w : World} {b k : Nat} {l : List Nd} (h : There w b k l) {x : Nd} (hk : k ≤ 1073741826) (c : Nat) (hc : c < 9223372036854775808) (h0 : x.1 < 9223372036854775808) (h1 : x.2.1 < 9223372036854775808) (h2 : x.2.2 < 9223372036854775808) :
    ∃ w', (Instr.mapUpdate 47 (.map (some b)) (.agg #[.int .i64 x.1, .int .i64 x.2.1, .int .i64 x.2.2]) (.int .i64 c)).run Try.prog w = .ok () w' ∧ There w' b (k + 1) (l ++ [x]) ∧ w.grownBy w' (some b) := by
  obtain ⟨sz, f, hs, hf, hn⟩ := h
  obtain ⟨kl, hkl⟩ := key_node (a := x.1) (b := x.2.1) (c := x.2.2) h0 h1 h2
  obtain ⟨w', hrun, hput, hg⟩ := MapOf.put_run hf kNode Try.underlying47 Try.underlying3 (by unfold maxLen; omega) hkl (c := (c : Int)) (wf64 hc)
  obtain ⟨f', hf'⟩ := upd_exists f (ndV x) (some (c : Int))
  refine ⟨w', hrun, ⟨_, f', ?_, hput f' hf', fun z hz => ?_⟩, hg⟩
  · split <;> omega
  · rw [List.mem_append] at hz
    rw [hf'.2 _ (fun e => hz (Or.inr (by rw [ndV_inj e]; simp)))]
    exact hn z (fun h => hz (Or.inl h))

theorem kid_of {w : World} {g cap : Nat} {Q : List Nd} (h : NodesIn w (.slice (some ⟨g, 0, none⟩) Q.length cap) Q) {b to i : Nat} (ht : to < i + 2) (hi : i ≤ Q.length) (hb : b < Bd.bitOf Q to) : Kid w g Q.length b to := by
  rcases Nat.lt_or_ge to 2 with h2 | h2
  · exact Or.inl h2
  · have hc : to - 2 < Q.length := by omega
    have hx : Q[to - 2]? = some Q[to - 2] := List.getElem?_eq_getElem hc
    obtain ⟨g', cap', e, hcells⟩ := h
    cases e
    have hbt := Bd.bitOf_at hx
    rw [show to - 2 + 2 = to by omega] at hbt
    exact Or.inr ⟨to - 2, Q[to - 2].1, by omega, hc, (hcells _ _ hx).1, by omega⟩

set_option maxRecDepth 4000 in
set_option maxHeartbeats 400000 in
theorem check_ok {w : World} {lv : Value} {Q : List Nd} {bits : Nat} (hlist : w.ownsRow 0 82 3 lv Q.length (flat Q)) (hR : Right bits Q) (hlen : Q.length ≤ 1073741824) :
    Calls Try.prog 64 #[lv, .int .i64 bits] w fun e w' => e = .returned (.tuple #[.int .i64 0, .bool true]) ∧ Below w.heap.size w w' := by
  obtain ⟨ao, cp, rfl⟩ : ∃ ao cp, lv = .slice ao Q.length cp := by
    rcases hlist.2 with ⟨h1, h2⟩ | ⟨g, cp, cur, h1, _⟩
    · exact ⟨none, 0, by rw [h1, h2]⟩
    · exact ⟨_, _, h1⟩
  have HL := keep hlist
  have HR := keep hR
  obtain ⟨n, hn⟩ : ∃ n, n = Q.length := ⟨_, rfl⟩
  have HN := keep hn
  rw [← hn] at hlen HL ⊢
  have hlenI : (n : Int) ≤ 1073741824 := by omega
  have hmk : ∀ w : World, (Instr.makeMap 47 (some (.int .i64 (n : Int)))).run Try.prog w = .ok (.map (some w.heap.size)) (w.alloc (.map #[] 0)) := fun w => make_hint w (n : Int)
  have HB0 : Hid (Below w.heap.size w (w.alloc (.map #[] 0))) := (Below.refl _ _).alloc (Nat.le_refl _) _
  have HT0 : Hid (There (w.alloc (.map #[] 0)) w.heap.size 0 []) := ⟨0, fun _ => none, Nat.le_refl _, MapOf.new Try.prog 82 3 w, fun _ _ => rfl⟩
  clear hlist hR hn hlen
  go_enter Try.func64, Try.ntmps64
  go_wp2
  go_loopw [16] (fun i wr => ∃ k : Nat, k ≤ n ∧ i = .int .i64 k ∧ Hid (There wr w.heap.size k (Q.take k) ∧ Below w.heap.size w wr)) (fun i _ => n - (intOf i).toNat)
  case atStart => exact ⟨0, Nat.zero_le _, rfl, HT0.out, HB0.out⟩
  case round =>
    clear HB0 HT0
    obtain ⟨k, hk, rfl, H⟩ := hrel
    by_cases hlt : k < n
    · obtain ⟨x, hx⟩ : ∃ x, Q[k]? = some x := ⟨Q[k]'(by rw [← HN.out]; exact hlt), List.getElem?_eq_getElem _⟩
      obtain ⟨f1, f2, f3, f4, f5, f6⟩ := HR.out.okay.fit k x hx
      have h128 := HR.out.okay.few
      have hxn : x ∉ Q.take k := by
        intro hm
        obtain ⟨j, hj, e⟩ := List.mem_iff_getElem.1 hm
        rw [List.length_take] at hj
        rw [List.getElem_take] at e
        have hkQ := Bd.getElem?_lt hx
        rw [List.getElem?_eq_getElem hkQ] at hx
        have := (List.getElem_inj (h₀ := by omega) (h₁ := hkQ) HR.out.okay.nd).1 (e.trans (Option.some.inj hx).symm)
        omega
      have hB := H.out.2
      have hrow : wr.ownsRow 0 82 3 (.slice ao n cp) n (flat Q) := row_same HL.out fun g hg => hB.block g (HL.out.lt g hg).2
      have hNI : NodesIn wr (.slice ao n cp) Q := nodesIn_of (by rw [← HN.out]; exact hrow) (by have := HN.out; omega)
      obtain ⟨g, cap', e, hcells⟩ := hNI
      have ea : ao = some ⟨g, 0, none⟩ := by cases e; rfl
      have ec : cp = cap' := by cases e; rfl
      subst ea
      subst ec
      obtain ⟨d0, d1, d2⟩ := hcells k x hx
      have hgl : g < w.heap.size := (HL.out.lt g rfl).2
      have hgr : g < wr.heap.size := by have := hB.size; omega
      have hwb : Below wr.heap.size wr (wr.alloc (.cells #[.int .i64 x.1, .int .i64 x.2.1, .int .i64 x.2.2] 82)) := (Below.refl _ _).alloc (Nat.le_refl _) _
      have hTh := H.out.1.same (hwb.block _ H.out.1.lt)
      have hlook := hTh.look hxn (by omega) (by omega) (by omega)
      have hNI2 : NodesIn (wr.alloc (.cells #[.int .i64 x.1, .int .i64 x.2.1, .int .i64 x.2.2] 82)) (.slice (some ⟨g, 0, none⟩) Q.length cp) Q := ⟨g, cp, rfl, fun i y hy => by
        obtain ⟨q0, q1, q2⟩ := hcells i y hy
        rw [hwb.cell (p := ⟨g, i * 3, none⟩) hgr, hwb.cell (p := ⟨g, i * 3 + 1, none⟩) hgr, hwb.cell (p := ⟨g, i * 3 + 2, none⟩) hgr]
        exact ⟨q0, q1, q2⟩⟩
      have HF : Hid (Calls Try.prog 91 #[.slice (some ⟨g, 0, none⟩) n cp, .int .i64 k, .int .i64 bits] (wr.alloc (.cells #[.int .i64 x.1, .int .i64 x.2.1, .int .i64 x.2.2] 82)) fun e w2 => e = .returned (.bool true) ∧ w2.cell? ⟨wr.heap.size, 0, none⟩ = some (.int .i64 x.1) ∧ w2.cell? ⟨wr.heap.size, 1, none⟩ = some (.int .i64 x.2.1) ∧ w2.cell? ⟨wr.heap.size, 2, none⟩ = some (.int .i64 x.2.2) ∧
          ∃ w3, (Instr.mapUpdate 47 (.map (some w.heap.size)) (.agg #[.int .i64 x.1, .int .i64 x.2.1, .int .i64 x.2.2]) (.int .i64 k)).run Try.prog w2 = .ok () w3 ∧ Hid (There w3 w.heap.size (k + 1) (Q.take (k + 1)) ∧ Below w.heap.size w w3)) := by
        have kl := kid_of hNI2 f1 (by have := HN.out; omega) f5
        have kh := kid_of hNI2 f2 (by have := HN.out; omega) f6
        rw [← HN.out] at kl kh
        refine (fits_ok _ g cp n k bits x (by simp; omega) hlt (by omega) (by rw [hwb.cell (p := ⟨g, k * 3, none⟩) hgr]; exact d0) (by rw [hwb.cell (p := ⟨g, k * 3 + 1, none⟩) hgr]; exact d1) (by rw [hwb.cell (p := ⟨g, k * 3 + 2, none⟩) hgr]; exact d2) f4 f3 f1 f2 kl kh).mono ?_
        rintro e w2 ⟨rfl, hb2⟩
        have hbx : w2.heap[wr.heap.size]? = _ := (hb2.block wr.heap.size (by simp)).trans (heap_alloc_new wr _)
        obtain ⟨w3, hrun, hth, hg3⟩ := (hTh.same (hb2.block _ hTh.lt)).put (x := x) (by omega) k (by omega) (by omega) (by omega) (by omega)
        refine ⟨rfl, by rw [cell_at hbx]; rfl, by rw [cell_at hbx]; rfl, by rw [cell_at hbx]; rfl, w3, hrun, by rw [take_succ_get hx]; exact hth, ?_⟩
        have h2 : Below w.heap.size w w2 := hB.trans ((hwb.trans (hb2.mono hwb.size)).mono hB.size)
        exact ⟨hg3.os.trans h2.os, hg3.tape.trans h2.tape, hg3.output.trans h2.output, Nat.le_trans h2.size hg3.size, fun j hj => (hg3.block j (Nat.lt_of_lt_of_le hj h2.size) (by simp; omega)).trans (h2.block j hj)⟩
      have hkI : (0 : Int) ≤ (k : Int) := by omega
      have hkI2 : (k : Int) < (n : Int) := by omega
      clear H hB hrow hcells hwb hTh hNI2 f1 f2 f3 f4 f5 f6 hxn hx hgl hgr e h128
      obtain ⟨x0, x1, x2⟩ := x
      simp only at d0 d1 d2 hlook HF
      go_wp2_with fail
      refine HF.out.mono ?_
      rintro e w2 ⟨rfl, b0, b1, b2, w3, hrun, HD⟩
      clear HF hlook d0 d1 d2
      go_wp2
      go_roundw
      case rel => exact ⟨k + 1, by omega, by go_num, HD.out⟩
      case measure => simp [intOf]; omega
    · have hkn : k = n := by omega
      have hrow : wr.ownsRow 0 82 3 (.slice ao n cp) n (flat Q) := row_same HL.out fun g hg => H.out.2.block g (HL.out.lt g hg).2
      have HO : Hid (Calls Try.prog 92 #[.slice ao n cp] wr fun e w' => e = .returned (.bool true) ∧ Below w.heap.size w w') := by
        refine (inOrder_ok (lv := .slice ao n cp) (by rw [← HN.out]; exact hrow) HR.out (by have := HN.out; omega)).mono ?_
        rintro e w' ⟨rfl, hb⟩
        exact ⟨rfl, H.out.2.trans (hb.mono H.out.2.size)⟩
      subst hkn
      clear H hrow hlt
      go_wp2_with fail
      refine HO.out.mono ?_
      rintro e w' ⟨rfl, hb⟩
      have HB := keep hb
      clear hb HO
      go_wp2
      go_ret2
      exact ⟨rfl, HB.out⟩
end Go.Proofs.Ytffngpdngjfcfaa
