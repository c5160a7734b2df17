/-
  cubes: the ways of a node, as texts.
  The ways of a function to yes: each as a text, the first ones of them together.
  A function has one list.
  root, List, Size of a ref that is told; two lists that are the same.
-/
import Derived.Test.YtffngpdngjfcfaaBVisAnd
import Derived.Test.YtffngpdngjfcfaaBIteAnd
import Derived.Laws.IdiomStrings
import Derived.Laws.BytesArg
namespace Go.Proofs.Ytffngpdngjfcfaa
open Go.RowKit Go.Maps
open Bd (Nd)

theorem refs_one (w : World) (r : Nat) : RefsAt (w.alloc (.cells #[i6 r] 25)) (.slice (some ⟨w.heap.size, 0, none⟩) 1 1) [r] := by
  refine ⟨_, 1, rfl, fun i q hi => ?_⟩
  have : i = 0 := by have := Bd.getElem?_lt hi; simp at this; exact this
  subst this
  simp at hi
  subst hi
  exact ⟨w.heap.size, 0, rfl, by simp, by rw [cell_at (heap_alloc_new w _)]; rfl⟩

set_option maxHeartbeats 1000000 in
theorem root_ok {w : World} {y : Lay} {s : St} (hT : Tab w y s) (h2 : 2 ≤ s.first) (r n : Nat) (hn : s.node? r = some n) :
    Calls Try.prog 41 #[.pointer (some ⟨y.tb, 0, none⟩), i6 r] w fun e w' => e = .returned (.tuple #[i6 n, .int .i64 0]) ∧ Below w.heap.size w w' := by
  have HT := keep hT
  have q1 := made_ok hT
  have q2 := find_ok (hT.below ((Below.refl _ _).alloc (Nat.le_refl _) (.cells #[i6 r] 25))) h2 _ [r] [n] (refs_one w r) (by simp) ⟨rfl, fun i q hi => by
    have : i = 0 := by have := Bd.getElem?_lt hi; simp at this; exact this
    subst this
    simp at hi
    subst hi
    exact ⟨n, rfl, hn⟩⟩
  clear hT hn
  go_enter Try.func41, Try.ntmps41
  go_wp2_with (go_at_call 57; refine q1.mono ?_; rintro e w' ⟨rfl, rfl⟩)
  refine q2.mono ?_
  clear q2
  rintro e w1 ⟨rfl, ⟨cs, hcs, hsz, hc⟩, hb⟩
  have c0 : w1.cell? ⟨w'.heap.size + 1, 0, none⟩ = some (i6 n) := by
    have := hc 0 n rfl
    have e1 : (w'.alloc (.cells #[i6 r] 25)).heap.size = w'.heap.size + 1 := by simp
    rw [e1] at hcs
    rw [cell_at hcs]; exact this
  have HB := keep (((Below.refl _ _).alloc (Nat.le_refl _) _).trans (hb.mono (by simp)) : Below w'.heap.size w' w1)
  clear hc hcs hsz hb q1
  go_wp2
  go_ret2
  exact ⟨rfl, HB.out⟩

/-- The list of a node. -/
def listOf (L : List Nd) (n : Nat) : List Nd := (vis L 2 (n + 1) n []).map (rn L (vis L 2 (n + 1) n []) 2)

set_option maxRecDepth 4000 in
set_option maxHeartbeats 1000000 in
theorem List_ok {w : World} {y : Lay} {s : St} (hT : Tab w y s) (h2 : 2 ≤ s.first) (r n : Nat) (hn : s.node? r = some n) (hnl : n < s.L.length + 2) :
    Calls Try.prog 27 #[.pointer (some ⟨y.tb, 0, none⟩), i6 r] w fun e w' => ∃ v, e = .returned (.tuple #[v, .int .i64 0]) ∧ w'.ownsRow 0 82 3 v (listOf s.L n).length (flat (listOf s.L n)) ∧ Below w.heap.size w w' := by
  have HT := keep hT
  have q1 := root_ok hT h2 r n hn
  clear hT hn
  go_enter Try.func27, Try.ntmps27
  go_wp2_with fail
  refine q1.mono ?_
  clear q1
  rintro e w1 ⟨rfl, hb1⟩
  have HB1 := keep hb1
  have HT1 := keep (HT.out.below hb1)
  have c3 : w1.cell? ⟨y.tb, 3, none⟩ = some y.ls := by rw [cell_at HT1.out.cells]; rfl
  obtain ⟨ao, cap, hls⟩ := HT1.out.list_slice
  rw [hls] at c3
  clear hb1
  go_wp2_with fail
  refine (orderOf_one (lv := .slice ao s.L.length cap) (L := s.L) (by rw [← hls]; exact HT1.out.list.alloc _) HT.out.okay.falls HT.out.small.1 n w1.heap.size 1 hnl (by simp) (by rw [cell_at (heap_alloc_new w1 _)]; rfl)).mono ?_
  rintro e w2 ⟨ob, pb, rfl, hO, hb2⟩
  have HB2 := keep (((Below.refl _ _).alloc (Nat.le_refl _) _).trans (hb2.mono (by simp)) : Below w1.heap.size w1 w2)
  have HO := keep hO
  clear hb2 hO
  have hnd := vis_nodup s.L 2 HT.out.okay.falls (by omega) (n + 1) n [] hnl (by simp)
  have hvl := vis_lt s.L 2 HT.out.okay.falls (by omega) (n + 1) n [] hnl (by simp)
  have hlen : (vis s.L 2 (n + 1) n []).length ≤ 1073741826 := by
    have h1 : (vis s.L 2 (n + 1) n []).length ≤ s.L.length + 2 := by
      have := List.Nodup.length_le_of_subset (l₂ := List.range (s.L.length + 2)) hnd (fun m hm => List.mem_range.2 (hvl m hm).2)
      simpa using this
    have := HT.out.small.1
    omega
  go_wp2_with fail
  refine (nodes_any HO.out hnd hvl (by omega) HT.out.okay.falls HT.out.small.1 (by omega) hlen).mono ?_
  rintro e w3 ⟨rfl, hown, hb3⟩
  have HOWN := keep hown
  clear hown hnd hvl
  go_wp2
  go_ret2
  refine ⟨.slice (some ⟨w2.heap.size, 0, none⟩) (vis s.L 2 (n + 1) n []).length (vis s.L 2 (n + 1) n []).length, rfl, ?_, HB1.out.trans ((HB2.out.trans (hb3.mono HB2.out.size)).mono HB1.out.size)⟩
  rw [show (listOf s.L n).length = (vis s.L 2 (n + 1) n []).length by unfold listOf; rw [List.length_map]]
  exact HOWN.out

set_option maxHeartbeats 400000 in
theorem Size_ok {w : World} {y : Lay} {s : St} (hT : Tab w y s) : Calls Try.prog 30 #[.pointer (some ⟨y.tb, 0, none⟩)] w fun e w' => e = .returned (.int .i64 s.L.length) ∧ w' = w := by
  have c3 : w.cell? ⟨y.tb, 3, none⟩ = some y.ls := by rw [cell_at hT.cells]; rfl
  obtain ⟨ao, cap, hls⟩ := hT.list_slice
  rw [hls] at c3
  have q1 := made_ok hT
  clear hT hls
  go_enter Try.func30, Try.ntmps30
  go_wp2_with (go_at_call 57; refine q1.mono ?_; rintro e w' ⟨rfl, rfl⟩)
  go_ret
  exact ⟨rfl, rfl⟩

/-- Nodes in cells that a walk can load. -/
def NodesIn (w : World) (v : Value) (L : List Nd) : Prop := ∃ g cap, v = .slice (some ⟨g, 0, none⟩) L.length cap ∧ ∀ (i : Nat) (x : Nd), L[i]? = some x → w.cell? ⟨g, i * 3, none⟩ = some (i6 x.1) ∧ w.cell? ⟨g, i * 3 + 1, none⟩ = some (i6 x.2.1) ∧ w.cell? ⟨g, i * 3 + 2, none⟩ = some (i6 x.2.2)
theorem nodesIn_of {w : World} {v : Value} {L : List Nd} (h : w.ownsRow 0 82 3 v L.length (flat L)) (h0 : 0 < L.length) : NodesIn w v L := by
  obtain ⟨g, cap, rfl, _, _⟩ := h.form h0
  refine ⟨g, cap, rfl, fun i x hi => ?_⟩
  have hadd : ∀ j, (⟨g, 0, none⟩ : Addr).add j = ⟨g, j, none⟩ := by intro j; unfold Addr.add; split <;> simp_all
  obtain ⟨f0, f1, f2⟩ := flat_at hi
  have hc := h.cells (g := g) rfl
  have d0 := hc _ _ f0
  have d1 := hc _ _ f1
  have d2 := hc _ _ f2
  rw [hadd] at d0 d1 d2
  exact ⟨d0, d1, d2⟩

set_option maxHeartbeats 1000000 in
theorem SameList_eq (v1 v2 : Value) (L : List Nd) (w : World) (hL : L.length ≤ 1073741826) (h1 : NodesIn w v1 L) (h2 : NodesIn w v2 L) :
    Calls Try.prog 29 #[v1, v2] w fun e w' => e = .returned (.bool true) ∧ Below w.heap.size w w' := by
  obtain ⟨g, c, rfl, hg⟩ := h1
  obtain ⟨g', c', rfl, hg'⟩ := h2
  have HG := keep hg
  have HG' := keep hg'
  clear hg hg'
  obtain ⟨n, hn⟩ : ∃ n, n = L.length := ⟨_, rfl⟩
  have HN := keep hn
  rw [← hn] at hL ⊢
  clear hn
  have hnb : ((n : Int) != (n : Int)) = false := by simp
  go_enter Try.func29, Try.ntmps29
  go_wp2
  clear hnb
  go_loopw [5] (fun i wr => ∃ k : Nat, k ≤ n ∧ i = .int .i64 k ∧ Hid (∃ m, wr = w.drewN m)) (fun i _ => n - (intOf i).toNat)
  case atStart => exact ⟨0, Nat.zero_le _, rfl, 0, rfl⟩
  case round =>
    obtain ⟨k, hk, rfl, HW⟩ := hrel
    obtain ⟨m0, rfl⟩ := HW.out
    by_cases hlt : k < n
    · obtain ⟨x, hx⟩ : ∃ x, L[k]? = some x := ⟨_, List.getElem?_eq_getElem (by rw [← HN.out]; exact hlt)⟩
      obtain ⟨p0, p1, p2⟩ := HG.out k x hx
      obtain ⟨r0, r1, r2⟩ := HG'.out k x hx
      clear hx
      have hkI : (0 : Int) ≤ (k : Int) := by omega
      have hkI2 : (k : Int) < (n : Int) := by omega
      go_wp2
      go_quiet (fail)
      go_wp2
      go_roundw
      case rel => exact ⟨k + 1, by omega, by go_num, _, rfl⟩
      case measure => simp [intOf]; omega
    · go_wp2
      go_ret
      exact ⟨rfl, (Below.refl _ _).trans ⟨rfl, rfl, rfl, Nat.le_refl _, fun _ _ => rfl⟩⟩
end Go.Proofs.Ytffngpdngjfcfaa
namespace Go.Proofs.Ytffngpdngjfcfaa
open Bd (Nd)

theorem vis_fuel {L : List Nd} (hL : Falls L) (least : Nat) (h2 : 2 ≤ least) : ∀ n k acc, n < k → n < L.length + 2 → vis L least k n acc = vis L least (n + 1) n acc := by
  intro n
  induction n using Nat.strongRecOn with
  | ind n ih =>
    intro k acc hk hn
    cases k with
    | zero => omega
    | succ k =>
      show vis L least (k + 1) n acc = vis L least (n + 1) n acc
      unfold vis
      by_cases h1 : n < least
      · rw [if_pos h1, if_pos h1]
      · rw [if_neg h1, if_neg h1]
        by_cases h3 : n ∈ acc
        · rw [if_pos h3, if_pos h3]
        · rw [if_neg h3, if_neg h3]
          obtain ⟨a, b, _⟩ := hL.at (n := n) (by omega) hn
          rw [ih _ a k acc (by omega) (by omega), ih _ a n acc (by omega) (by omega), ih _ b k _ (by omega) (by omega), ih _ b n _ (by omega) (by omega)]

/-- Two numbers of two lists that mean the same. -/
def Rel (L L' : List Nd) (m m' : Nat) : Prop := m < L.length + 2 ∧ m' < L'.length + 2 ∧ Bd.den L m = Bd.den L' m'

section
variable {bits bits' : Nat} {L L' : List Nd}
theorem Rel.symm {m m' : Nat} (h : Rel L L' m m') : Rel L' L m' m := ⟨h.2.1, h.1, h.2.2.symm⟩
theorem rel_fn (hL' : Bd.Okay bits' L') {m a b : Nat} (h1 : Rel L L' m a) (h2 : Rel L L' m b) : a = b := Bd.canon hL' h1.2.1 h2.2.1 (h1.2.2.symm.trans h2.2.2)
theorem rel_end (hL' : Bd.Okay bits' L') {m m' : Nat} (h : Rel L L' m m') (hm : m < 2) : m' = m := by
  refine Bd.canon hL' h.2.1 (by omega) ?_
  rw [← h.2.2]
  rcases Nat.lt_or_ge m 1 with h0 | h0
  · have : m = 0 := by omega
    subst this
    rw [Bd.den_zero, Bd.den_zero]
  · have : m = 1 := by omega
    subst this
    rw [Bd.den_one, Bd.den_one]
theorem rel_two (hL : Bd.Okay bits L) (hL' : Bd.Okay bits' L') {m m' : Nat} (h : Rel L L' m m') : m < 2 ↔ m' < 2 := by
  constructor
  · intro hm; rw [rel_end hL' h hm]; exact hm
  · intro hm; rw [rel_end hL h.symm hm]; exact hm
theorem rel_bit (hL : Bd.Okay bits L) (hL' : Bd.Okay bits' L') {m m' : Nat} (h : Rel L L' m m') : Bd.bitOf L m = Bd.bitOf L' m' := by
  have h1 := Bd.bit_ge hL' h.2.1 (k := Bd.bitOf L m) (by rw [← h.2.2]; exact Bd.from_den hL m h.1) (Bd.bitOf_le hL h.1)
  have h2 := Bd.bit_ge hL h.1 (k := Bd.bitOf L' m') (by rw [h.2.2]; exact Bd.from_den hL' m' h.2.1) (Bd.bitOf_le hL' h.2.1)
  omega
theorem half_of (hL : Bd.Okay bits L) {m : Nat} (h2 : 2 ≤ m) (hm : m < L.length + 2) : L[m - 2]? = some (L.getD (m - 2) (0, 0, 0)) ∧ (L.getD (m - 2) (0, 0, 0)).1 = Bd.bitOf L m ∧ (L.getD (m - 2) (0, 0, 0)).2.1 < m ∧ (L.getD (m - 2) (0, 0, 0)).2.2 < m ∧
    Bd.den L (L.getD (m - 2) (0, 0, 0)).2.1 = Bd.cof (Bd.den L m) (Bd.bitOf L m) false ∧ Bd.den L (L.getD (m - 2) (0, 0, 0)).2.2 = Bd.cof (Bd.den L m) (Bd.bitOf L m) true := by
  obtain ⟨a, b, hx⟩ := hL.falls.at h2 hm
  obtain ⟨f1, f2, f3, f4, f5, f6⟩ := hL.fit _ _ hx
  have hb : (L.getD (m - 2) (0, 0, 0)).1 = Bd.bitOf L m := by
    have := Bd.bitOf_at hx
    rw [show m - 2 + 2 = m by omega] at this
    exact this.symm
  have hd : Bd.den L m = Bd.mux (L.getD (m - 2) (0, 0, 0)).1 (Bd.den L (L.getD (m - 2) (0, 0, 0)).2.1) (Bd.den L (L.getD (m - 2) (0, 0, 0)).2.2) := by
    have := Bd.den_at hL hx
    rw [show m - 2 + 2 = m by omega] at this
    exact this
  have fl := (Bd.from_den hL (L.getD (m - 2) (0, 0, 0)).2.1 (by omega)).mono f5
  have fh := (Bd.from_den hL (L.getD (m - 2) (0, 0, 0)).2.2 (by omega)).mono f6
  have c0 := Bd.cof_mux fl fh false
  have c1 := Bd.cof_mux fl fh true
  rw [← hd] at c0 c1
  rw [hb] at c0 c1
  exact ⟨hx, hb, a, b, c0.symm, c1.symm⟩
theorem rel_half (hL : Bd.Okay bits L) (hL' : Bd.Okay bits' L') {m m' : Nat} (h : Rel L L' m m') (h2 : 2 ≤ m) : Rel L L' (L.getD (m - 2) (0, 0, 0)).2.1 (L'.getD (m' - 2) (0, 0, 0)).2.1 ∧ Rel L L' (L.getD (m - 2) (0, 0, 0)).2.2 (L'.getD (m' - 2) (0, 0, 0)).2.2 ∧ (L.getD (m - 2) (0, 0, 0)).1 = (L'.getD (m' - 2) (0, 0, 0)).1 := by
  have h2' : 2 ≤ m' := by have := rel_two hL hL' h; omega
  obtain ⟨_, b1, l1, h1, c1, d1⟩ := half_of hL h2 h.1
  obtain ⟨_, b2, l2, h2, c2, d2⟩ := half_of hL' h2' h.2.1
  have hb := rel_bit hL hL' h
  have k1 := h.1
  have k2 := h.2.1
  exact ⟨⟨by omega, by omega, by rw [c1, c2, h.2.2, hb]⟩, ⟨by omega, by omega, by rw [d1, d2, h.2.2, hb]⟩, by rw [b1, b2, hb]⟩

/-- Two rows of numbers that mean the same. -/
def Alike (L L' : List Nd) (acc acc' : List Nat) : Prop := acc.length = acc'.length ∧ ∀ (i a a' : Nat), acc[i]? = some a → acc'[i]? = some a' → Rel L L' a a'
theorem Alike.symm {acc acc' : List Nat} (h : Alike L L' acc acc') : Alike L' L acc' acc := ⟨h.1.symm, fun i a a' h1 h2 => (h.2 i a' a h2 h1).symm⟩
theorem Alike.at {acc acc' : List Nat} (hL' : Bd.Okay bits' L') (h : Alike L L' acc acc') {i a b : Nat} (ha : acc[i]? = some a) (hr : Rel L L' a b) : acc'[i]? = some b := by
  have hi := Bd.getElem?_lt ha
  have hx : acc'[i]? = some (acc'[i]'(by rw [← h.1]; exact hi)) := List.getElem?_eq_getElem _
  have := rel_fn hL' (h.2 i a _ ha hx) hr
  rw [hx, this]
theorem Alike.mem {acc acc' : List Nat} (hL' : Bd.Okay bits' L') (h : Alike L L' acc acc') {a b : Nat} (ha : a ∈ acc) (hr : Rel L L' a b) : b ∈ acc' := by
  obtain ⟨i, hi, e⟩ := List.mem_iff_getElem.1 ha
  exact List.mem_of_getElem? (h.at hL' (by rw [List.getElem?_eq_getElem hi, e]) hr)
theorem Alike.snoc {acc acc' : List Nat} (h : Alike L L' acc acc') {a b : Nat} (hr : Rel L L' a b) : Alike L L' (acc ++ [a]) (acc' ++ [b]) := by
  refine ⟨by simp [h.1], fun i x x' hx hx' => ?_⟩
  have e := h.1
  rcases Nat.lt_or_ge i acc.length with h1 | h1
  · rw [List.getElem?_append_left h1] at hx
    rw [List.getElem?_append_left (by omega)] at hx'
    exact h.2 i x x' hx hx'
  · rw [List.getElem?_append_right h1] at hx
    rw [List.getElem?_append_right (by omega), ← e] at hx'
    have h0 : i - acc.length = 0 := by have := Bd.getElem?_lt hx; simp at this; exact this
    rw [h0] at hx hx'
    simp at hx hx'
    subst hx hx'
    exact hr

theorem vis_alike (hL : Bd.Okay bits L) (hL' : Bd.Okay bits' L') : ∀ k m m' acc acc', Rel L L' m m' → Alike L L' acc acc' → Alike L L' (vis L 2 k m acc) (vis L' 2 k m' acc') := by
  intro k
  induction k with
  | zero => intro m m' acc acc' _ h; exact h
  | succ k ih =>
    intro m m' acc acc' hr h
    unfold vis
    have h2 := rel_two hL hL' hr
    by_cases hm : m < 2
    · rw [if_pos hm, if_pos (h2.1 hm)]; exact h
    · rw [if_neg hm, if_neg (fun e => hm (h2.2 e))]
      by_cases hin : m ∈ acc
      · rw [if_pos hin, if_pos (h.mem hL' hin hr)]; exact h
      · rw [if_neg hin, if_neg (fun e => hin (h.symm.mem hL e hr.symm))]
        obtain ⟨r1, r2, _⟩ := rel_half hL hL' hr (by omega)
        exact (ih _ _ _ _ r2 (ih _ _ _ _ r1 h)).snoc hr

theorem alike_nil : Alike L L' [] [] := ⟨rfl, fun i a a' h _ => by simp at h⟩
/-- The numbers that a node needs, in the order of a list. -/
def ords (L : List Nd) (n : Nat) : List Nat := vis L 2 (n + 1) n []
theorem ords_alike (hL : Bd.Okay bits L) (hL' : Bd.Okay bits' L') {n n' : Nat} (h : Rel L L' n n') : Alike L L' (ords L n) (ords L' n') := by
  have := vis_alike hL hL' (n + n' + 1) n n' [] [] h alike_nil
  rw [vis_fuel hL.falls 2 (by omega) n _ [] (by omega) h.1, vis_fuel hL'.falls 2 (by omega) n' _ [] (by omega) h.2.1] at this
  exact this
theorem ords_nodup (hL : Bd.Okay bits L) {n : Nat} (hn : n < L.length + 2) : (ords L n).Nodup := vis_nodup L 2 hL.falls (by omega) (n + 1) n [] hn (by simp)
theorem ords_lt (hL : Bd.Okay bits L) {n : Nat} (hn : n < L.length + 2) : ∀ m, m ∈ ords L n → 2 ≤ m ∧ m < L.length + 2 := vis_lt L 2 hL.falls (by omega) (n + 1) n [] hn (by simp)
theorem ords_closed (hL : Bd.Okay bits L) {n : Nat} (hn : n < L.length + 2) : Closed L 2 (ords L n) := vis_closed L 2 hL.falls (by omega) (n + 1) n [] (by omega) hn (fun j m h => by simp at h)
theorem ords_last {n : Nat} (h2 : 2 ≤ n) : ∃ l, ords L n = l ++ [n] := by
  unfold ords vis
  rw [if_neg (by omega), if_neg (by simp)]
  exact ⟨_, rfl⟩

theorem list_length (n : Nat) : (listOf L n).length = (ords L n).length := by unfold listOf; rw [List.length_map]; rfl
theorem list_at {n i : Nat} {m : Nat} (h : (ords L n)[i]? = some m) : (listOf L n)[i]? = some (rn L (ords L n) 2 m) := by
  show ((ords L n).map (rn L (ords L n) 2))[i]? = _
  rw [List.getElem?_map, h]; rfl

theorem name_alike (hL : Bd.Okay bits L) (hL' : Bd.Okay bits' L') {acc acc' : List Nat} (h : Alike L L' acc acc') (hn' : acc'.Nodup) {c c' : Nat} (hr : Rel L L' c c') (hc : c < 2 ∨ c ∈ acc) : nm acc 2 c = nm acc' 2 c' := by
  unfold nm
  by_cases hin : c ∈ acc
  · have hin' := h.mem hL' hin hr
    rw [if_pos hin, if_pos hin']
    have := h.at hL' (idx_at hin) hr
    rw [idx_of hn' this]
  · have hin' : c' ∉ acc' := fun e => hin (h.symm.mem hL e hr.symm)
    rw [if_neg hin, if_neg hin']
    rcases hc with hc | hc
    · exact (rel_end hL' hr hc).symm
    · exact absurd hc hin

/-- A function has one list, whatever the table. -/
theorem list_alike (hL : Bd.Okay bits L) (hL' : Bd.Okay bits' L') {n n' : Nat} (h : Rel L L' n n') : listOf L n = listOf L' n' := by
  have hA := ords_alike hL hL' h
  apply List.ext_getElem?
  intro i
  rcases Nat.lt_or_ge i (ords L n).length with hi | hi
  · have e1 : (ords L n)[i]? = some (ords L n)[i] := List.getElem?_eq_getElem hi
    have e2 : (ords L' n')[i]? = some ((ords L' n')[i]'(by rw [← hA.1]; exact hi)) := List.getElem?_eq_getElem _
    rw [list_at e1, list_at e2]
    have hr := hA.2 i _ _ e1 e2
    have hm := ords_lt hL h.1 _ (List.mem_of_getElem? e1)
    obtain ⟨r1, r2, r3⟩ := rel_half hL hL' hr hm.1
    have cl := ords_closed hL h.1 i _ e1
    have inn : ∀ c, (c < 2 ∨ ∃ j, j < i ∧ (ords L n)[j]? = some c) → c < 2 ∨ c ∈ ords L n := fun c hc => hc.imp_right fun ⟨j, _, hj⟩ => List.mem_of_getElem? hj
    have q1 := name_alike hL hL' hA (ords_nodup hL' h.2.1) r1 (inn _ (cl _ (Or.inl rfl)))
    have q2 := name_alike hL hL' hA (ords_nodup hL' h.2.1) r2 (inn _ (cl _ (Or.inr rfl)))
    unfold rn
    rw [r3, q1, q2]
  · rw [List.getElem?_eq_none (by rw [list_length]; exact hi), List.getElem?_eq_none (by rw [list_length, ← hA.1]; exact hi)]

/-- A list is a table, and each of its nodes means what it meant. -/
theorem list_okay (hL : Bd.Okay bits L) {n : Nat} (hn : n < L.length + 2) : Bd.Okay bits (listOf L n) ∧ ∀ i m, (ords L n)[i]? = some m → Bd.den (listOf L n) (i + 2) = Bd.den L m := by
  have S := shrunk_all (mark := 0) hL (Nat.zero_le _) (ords_nodup hL hn) (fun m hm => ords_lt hL hn m hm) (ords_closed hL hn) (ords L n).length (Nat.le_refl _)
  have e : L.take 0 ++ ((ords L n).map (rn L (ords L n) (0 + 2))).take (ords L n).length = listOf L n := by
    rw [List.take_zero, List.nil_append, List.take_of_length_le (by rw [List.length_map]; omega)]
    rfl
  have h1 := S.okay
  rw [e] at h1
  refine ⟨h1, fun i m hi => ?_⟩
  have h2 := S.den i m (Bd.getElem?_lt hi) hi
  rw [e, show 0 + 2 + i = i + 2 by omega] at h2
  exact h2
theorem list_last (hL : Bd.Okay bits L) {n : Nat} (h2 : 2 ≤ n) (hn : n < L.length + 2) : 1 ≤ (listOf L n).length ∧ Bd.den (listOf L n) ((listOf L n).length + 1) = Bd.den L n := by
  obtain ⟨l, e⟩ := ords_last (L := L) h2
  have hlen : (listOf L n).length = l.length + 1 := by rw [list_length, e]; simp
  have hx : (ords L n)[l.length]? = some n := by rw [e, List.getElem?_append_right (Nat.le_refl _)]; simp
  have := (list_okay hL hn).2 _ _ hx
  rw [hlen]
  exact ⟨by omega, this⟩
theorem list_rel (hL : Bd.Okay bits L) {n : Nat} (h2 : 2 ≤ n) (hn : n < L.length + 2) : Rel L (listOf L n) n ((listOf L n).length + 1) := by
  obtain ⟨h1, h3⟩ := list_last hL h2 hn
  exact ⟨hn, by omega, h3.symm⟩
theorem list_few (hL : Bd.Okay bits L) {n : Nat} (hn : n < L.length + 2) : (listOf L n).length ≤ L.length := by
  rw [list_length]
  have hnd := ords_nodup hL hn
  have hlt := ords_lt hL hn
  refine Bd.pigeon L.length (ords L n).length (fun i => (ords L n).getD i 0 - 2) (fun i hi => ?_) (fun i j hi hj he => ?_)
  · have e : (ords L n).getD i 0 = (ords L n)[i] := by rw [List.getD_eq_getElem?_getD, List.getElem?_eq_getElem hi]; rfl
    have := hlt _ (List.getElem_mem hi)
    show (ords L n).getD i 0 - 2 < L.length
    rw [e]
    omega
  · have e1 : (ords L n).getD i 0 = (ords L n)[i] := by rw [List.getD_eq_getElem?_getD, List.getElem?_eq_getElem hi]; rfl
    have e2 : (ords L n).getD j 0 = (ords L n)[j] := by rw [List.getD_eq_getElem?_getD, List.getElem?_eq_getElem hj]; rfl
    have a1 := hlt _ (List.getElem_mem hi)
    have a2 := hlt _ (List.getElem_mem hj)
    have he' : (ords L n).getD i 0 - 2 = (ords L n).getD j 0 - 2 := he
    rw [e1, e2] at he'
    exact (List.getElem_inj (h₀ := hi) (h₁ := hj) hnd).1 (by omega)
end

/-- A right list: a table that is the list of its last node. -/
structure Right (bits : Nat) (Q : List Nd) : Prop where
  okay : Bd.Okay bits Q
  order : ∀ i m, (ords Q (Q.length + 1))[i]? = some m → m = i + 2
  all : (ords Q (Q.length + 1)).length = Q.length

theorem list_right {bits : Nat} {L : List Nd} (hL : Bd.Okay bits L) {n : Nat} (h2 : 2 ≤ n) (hn : n < L.length + 2) : Right bits (listOf L n) := by
  obtain ⟨hQ, hd⟩ := list_okay hL hn
  have hA := ords_alike hL hQ (list_rel hL h2 hn)
  refine ⟨hQ, fun i m hi => ?_, by rw [← hA.1, list_length]⟩
  have hil : i < (ords L n).length := by rw [hA.1]; exact Bd.getElem?_lt hi
  have e1 : (ords L n)[i]? = some (ords L n)[i] := List.getElem?_eq_getElem hil
  have hr := hA.2 i _ _ e1 hi
  refine Bd.canon hQ hr.2.1 (by rw [list_length]; omega) ?_
  rw [hd i _ e1]
  exact hr.2.2.symm
theorem Right.nil {bits : Nat} (h : bits ≤ 128) : Right bits [] := ⟨Bd.Okay.nil h, fun i m h => by simp [ords, vis] at h, by simp [ords, vis]⟩

/-- Functions of a family that are those of a list. -/
def denFam {bits M : Nat} (A : Bd.Fam bits M) (Q : List Nd) (hQ : Bd.Okay bits Q) : Bd.Fam bits M where
  F k f := A.F k f ∧ ∃ i, i < Q.length + 2 ∧ f = Bd.den Q i
  dep k f h := A.dep k f h.1
  go k f b hk h := by
    refine ⟨A.go k f b hk h.1, ?_⟩
    obtain ⟨h1, i, hi, rfl⟩ := h
    have hf := A.dep k _ h1
    have hb := Bd.bit_ge hQ hi hf (by have := hQ.few; omega)
    rcases Nat.lt_or_ge k (Bd.bitOf Q i) with h3 | h3
    · exact ⟨i, hi, Bd.cof_from ((Bd.from_den hQ i hi).mono h3) b⟩
    · have hbk : Bd.bitOf Q i = k := by omega
      have h2 : 2 ≤ i := by
        rcases Nat.lt_or_ge i 2 with h4 | h4
        · rw [Bd.bitOf_end Q h4] at hbk
          have := hQ.few
          omega
        · exact h4
      obtain ⟨_, _, l, h, c0, c1⟩ := half_of hQ h2 hi
      cases b
      · exact ⟨(Q.getD (i - 2) (0, 0, 0)).2.1, by omega, by rw [c0, hbk]⟩
      · exact ⟨(Q.getD (i - 2) (0, 0, 0)).2.2, by omega, by rw [c1, hbk]⟩
  en := A.en
  all k f hk h := A.all k f hk h.1

theorem den_few {bits M : Nat} {A : Bd.Fam bits M} {Q N : List Nd} {hQ : Bd.Okay bits Q} (hN : Bd.Okay bits N) (hW : Bd.Within (denFam A Q hQ) N) : N.length ≤ Q.length := by
  have ex : ∀ i, i < N.length → ∃ j, j < Q.length ∧ Bd.den N (i + 2) = Bd.den Q (j + 2) := by
    intro i hi
    obtain ⟨_, j, hj, e⟩ := hW i _ (List.getElem?_eq_getElem hi)
    rcases Nat.lt_or_ge j 2 with h | h
    · exfalso
      have : i + 2 = j := rel_end (L := Q) hN ⟨by omega, by omega, e.symm⟩ h
      omega
    · exact ⟨j - 2, by omega, by rw [e, show j - 2 + 2 = j by omega]⟩
  refine Bd.pigeon Q.length N.length (fun i => if h : i < N.length then (ex i h).choose else 0) (fun i hi => ?_) (fun i j hi hj he => ?_)
  · show (if h : i < N.length then (ex i h).choose else 0) < _
    rw [dif_pos hi]
    exact (ex i hi).choose_spec.1
  · have he' : (if h : i < N.length then (ex i h).choose else 0) = (if h : j < N.length then (ex j h).choose else 0) := he
    rw [dif_pos hi, dif_pos hj] at he'
    have e1 := (ex i hi).choose_spec.2
    have e2 := (ex j hj).choose_spec.2
    rw [he', ← e2] at e1
    have := Bd.canon hN (by omega) (by omega) e1
    omega
end Go.Proofs.Ytffngpdngjfcfaa
namespace Go.Proofs.Ytffngpdngjfcfaa
open Bd (Nd ff tt)

def nodeOf (L : List Nd) (n : Nat) : Nd := L.getD (n - 2) (0, 0, 0)
def ways (L : List Nd) : Nat → Nat → Nat
  | 0, _ => 0
  | k + 1, n => if n < 2 then n else ways L k (nodeOf L n).2.1 + ways L k (nodeOf L n).2.2
/-- The texts. -/
def way (L : List Nd) : Nat → Nat → List UInt8 → List (List UInt8)
  | 0, _, _ => []
  | k + 1, n, l => if n < 2 then (if n = 1 then [l] else []) else way L k (nodeOf L n).2.1 (l.set (nodeOf L n).1 48) ++ way L k (nodeOf L n).2.2 (l.set (nodeOf L n).1 49)
/-- One way's function, and that of the first ones. -/
def path (L : List Nd) : Nat → Nat → Nat → Bd.Fn
  | 0, _, _ => ff
  | k + 1, n, i => if n < 2 then (if n = 1 then tt else ff) else if i < ways L k (nodeOf L n).2.1 then Bd.mux (nodeOf L n).1 (path L k (nodeOf L n).2.1 i) ff else Bd.mux (nodeOf L n).1 ff (path L k (nodeOf L n).2.2 (i - ways L k (nodeOf L n).2.1))
def part (L : List Nd) : Nat → Nat → Nat → Bd.Fn
  | 0, _, _ => ff
  | k + 1, n, i => if n < 2 then (if n = 1 ∧ 0 < i then tt else ff) else if i ≤ ways L k (nodeOf L n).2.1 then Bd.mux (nodeOf L n).1 (part L k (nodeOf L n).2.1 i) ff else Bd.mux (nodeOf L n).1 (Bd.den L (nodeOf L n).2.1) (part L k (nodeOf L n).2.2 (i - ways L k (nodeOf L n).2.1))

theorem ways_succ (L : List Nd) (k n : Nat) : ways L (k + 1) n = if n < 2 then n else ways L k (nodeOf L n).2.1 + ways L k (nodeOf L n).2.2 := rfl
theorem way_succ (L : List Nd) (k n : Nat) (l : List UInt8) : way L (k + 1) n l = if n < 2 then (if n = 1 then [l] else []) else way L k (nodeOf L n).2.1 (l.set (nodeOf L n).1 48) ++ way L k (nodeOf L n).2.2 (l.set (nodeOf L n).1 49) := rfl
theorem path_succ (L : List Nd) (k n i : Nat) : path L (k + 1) n i = if n < 2 then (if n = 1 then tt else ff) else if i < ways L k (nodeOf L n).2.1 then Bd.mux (nodeOf L n).1 (path L k (nodeOf L n).2.1 i) ff else Bd.mux (nodeOf L n).1 ff (path L k (nodeOf L n).2.2 (i - ways L k (nodeOf L n).2.1)) := rfl
theorem part_succ (L : List Nd) (k n i : Nat) : part L (k + 1) n i = if n < 2 then (if n = 1 ∧ 0 < i then tt else ff) else if i ≤ ways L k (nodeOf L n).2.1 then Bd.mux (nodeOf L n).1 (part L k (nodeOf L n).2.1 i) ff else Bd.mux (nodeOf L n).1 (Bd.den L (nodeOf L n).2.1) (part L k (nodeOf L n).2.2 (i - ways L k (nodeOf L n).2.1)) := rfl
theorem node_falls {L : List Nd} (hL : Falls L) {n : Nat} (h2 : 2 ≤ n) (hn : n < L.length + 2) : (nodeOf L n).2.1 < n ∧ (nodeOf L n).2.2 < n := ⟨(hL.at h2 hn).1, (hL.at h2 hn).2.1⟩
theorem node_half {bits : Nat} {L : List Nd} (hL : Bd.Okay bits L) {n : Nat} (h2 : 2 ≤ n) (hn : n < L.length + 2) : L[n - 2]? = some (nodeOf L n) ∧ (nodeOf L n).1 = Bd.bitOf L n ∧ (nodeOf L n).2.1 < n ∧ (nodeOf L n).2.2 < n := ⟨(half_of hL h2 hn).1, (half_of hL h2 hn).2.1, (half_of hL h2 hn).2.2.1, (half_of hL h2 hn).2.2.2.1⟩

theorem way_length (L : List Nd) : ∀ k n l, (way L k n l).length = ways L k n := by
  intro k
  induction k with
  | zero => intro n l; rfl
  | succ k ih =>
    intro n l
    rw [way_succ, ways_succ]
    by_cases h : n < 2
    · rw [if_pos h, if_pos h]
      by_cases h1 : n = 1
      · rw [if_pos h1, h1]; rfl
      · rw [if_neg h1]
        have : n = 0 := by omega
        rw [this]; rfl
    · rw [if_neg h, if_neg h, List.length_append, ih, ih]

section
variable {bits : Nat} {L : List Nd}
theorem ways_fuel (hL : Falls L) : ∀ n k, n < k → n < L.length + 2 → ways L k n = ways L (n + 1) n := by
  intro n
  induction n using Nat.strongRecOn with
  | ind n ih =>
    intro k hk hn
    cases k with
    | zero => omega
    | succ k =>
      rw [ways_succ, ways_succ]
      by_cases h : n < 2
      · rw [if_pos h, if_pos h]
      · rw [if_neg h, if_neg h]
        obtain ⟨a, b⟩ := node_falls hL (n := n) (by omega) hn
        rw [ih _ a k (by omega) (by omega), ih _ a n (by omega) (by omega), ih _ b k (by omega) (by omega), ih _ b n (by omega) (by omega)]
theorem part_fuel (hL : Falls L) : ∀ n k i, n < k → n < L.length + 2 → part L k n i = part L (n + 1) n i := by
  intro n
  induction n using Nat.strongRecOn with
  | ind n ih =>
    intro k i hk hn
    cases k with
    | zero => omega
    | succ k =>
      rw [part_succ, part_succ]
      by_cases h : n < 2
      · rw [if_pos h, if_pos h]
      · rw [if_neg h, if_neg h]
        obtain ⟨a, b⟩ := node_falls hL (n := n) (by omega) hn
        have e1 : ways L k (nodeOf L n).2.1 = ways L n (nodeOf L n).2.1 := by rw [ways_fuel hL _ k (by omega) (by omega), ways_fuel hL _ n (by omega) (by omega)]
        rw [e1, ih _ a k i (by omega) (by omega), ih _ a n i (by omega) (by omega), ih _ b k _ (by omega) (by omega), ih _ b n _ (by omega) (by omega)]
theorem part_none : ∀ k n, part L k n 0 = ff := by
  intro k
  induction k with
  | zero => intro n; rfl
  | succ k ih =>
    intro n
    rw [part_succ]
    by_cases h : n < 2
    · rw [if_pos h, if_neg (by omega)]
    · rw [if_neg h, if_pos (Nat.zero_le _), ih, Bd.mux_same]
theorem den_node (hL : Bd.Okay bits L) {n : Nat} (h2 : 2 ≤ n) (hn : n < L.length + 2) : Bd.den L n = Bd.mux (nodeOf L n).1 (Bd.den L (nodeOf L n).2.1) (Bd.den L (nodeOf L n).2.2) := by
  have := Bd.den_at hL (half_of hL h2 hn).1
  rw [show n - 2 + 2 = n by omega] at this
  exact this
theorem ways_none (hL : Bd.Okay bits L) : ∀ k n, n < k → n < L.length + 2 → ways L k n = 0 → Bd.den L n = ff := by
  intro k
  induction k with
  | zero => intro n h; omega
  | succ k ih =>
    intro n hk hn h0
    rw [ways_succ] at h0
    by_cases h : n < 2
    · rw [if_pos h] at h0
      rw [h0, Bd.den_zero]
    · rw [if_neg h] at h0
      obtain ⟨_, _, a, b⟩ := node_half hL (by omega : 2 ≤ n) hn
      rw [den_node hL (by omega) hn, ih _ (by omega) (by omega) (by omega), ih _ (by omega) (by omega) (by omega), Bd.mux_same]
theorem part_all (hL : Bd.Okay bits L) : ∀ k n, n < k → n < L.length + 2 → part L k n (ways L k n) = Bd.den L n := by
  intro k
  induction k with
  | zero => intro n h; omega
  | succ k ih =>
    intro n hk hn
    rw [ways_succ, part_succ]
    by_cases h : n < 2
    · rw [if_pos h, if_pos h]
      by_cases h1 : n = 1
      · rw [if_pos ⟨h1, by omega⟩, h1, Bd.den_one]
      · rw [if_neg (fun e => h1 e.1), show n = 0 by omega, Bd.den_zero]
    · rw [if_neg h, if_neg h]
      obtain ⟨_, _, a, b⟩ := node_half hL (by omega : 2 ≤ n) hn
      rw [den_node hL (by omega) hn]
      by_cases hc : ways L k (nodeOf L n).2.1 + ways L k (nodeOf L n).2.2 ≤ ways L k (nodeOf L n).2.1
      · have h0 : ways L k (nodeOf L n).2.2 = 0 := by omega
        rw [if_pos hc, h0, Nat.add_zero, ih _ (by omega) (by omega), ways_none hL k _ (by omega) (by omega) h0]
      · rw [if_neg hc, Nat.add_sub_cancel_left, ih _ (by omega) (by omega)]
theorem part_step (hL : Bd.Okay bits L) : ∀ k n i, n < k → n < L.length + 2 → i < ways L k n → ∀ h, part L k n (i + 1) h = (part L k n i h || path L k n i h) := by
  intro k
  induction k with
  | zero => intro n i h; omega
  | succ k ih =>
    intro n i hk hn hi h
    rw [ways_succ] at hi
    rw [part_succ, part_succ, path_succ]
    by_cases h2 : n < 2
    · rw [if_pos h2] at hi
      have hn1 : n = 1 := by omega
      rw [if_pos h2, if_pos h2, if_pos h2, if_pos ⟨hn1, by omega⟩, if_pos hn1, if_neg (by omega)]
      rfl
    · rw [if_neg h2] at hi
      obtain ⟨_, _, a, b⟩ := node_half hL (by omega : 2 ≤ n) hn
      rw [if_neg h2, if_neg h2, if_neg h2]
      by_cases hc : i < ways L k (nodeOf L n).2.1
      · rw [if_pos (by omega), if_pos (by omega), if_pos hc]
        have := ih (nodeOf L n).2.1 i (by omega) (by omega) hc h
        unfold Bd.mux
        cases h (nodeOf L n).1
        · simpa using this
        · rfl
      · rw [if_neg (by omega), if_neg hc]
        have := ih (nodeOf L n).2.2 (i - ways L k (nodeOf L n).2.1) (by omega) (by omega) (by omega) h
        rw [show i - ways L k (nodeOf L n).2.1 + 1 = i + 1 - ways L k (nodeOf L n).2.1 by omega] at this
        by_cases he : i = ways L k (nodeOf L n).2.1
        · rw [if_pos (by omega)]
          rw [show i - ways L k (nodeOf L n).2.1 = 0 by omega, part_none] at this
          rw [show i - ways L k (nodeOf L n).2.1 = 0 by omega, he, part_all hL k _ (by omega) (by omega)]
          rw [he] at this
          unfold Bd.mux
          cases h (nodeOf L n).1
          · simp [ff]
          · simpa [ff] using this
        · rw [if_neg (by omega)]
          unfold Bd.mux
          cases h (nodeOf L n).1
          · simp [ff]
          · simpa using this
theorem part_apart (hL : Bd.Okay bits L) : ∀ k n i, n < k → n < L.length + 2 → i < ways L k n → ∀ h, (part L k n i h && path L k n i h) = false := by
  intro k
  induction k with
  | zero => intro n i h; omega
  | succ k ih =>
    intro n i hk hn hi h
    rw [ways_succ] at hi
    rw [part_succ, path_succ]
    by_cases h2 : n < 2
    · rw [if_pos h2] at hi
      have hn1 : n = 1 := by omega
      rw [if_pos h2, if_pos h2, if_neg (by omega)]
      rfl
    · rw [if_neg h2] at hi
      obtain ⟨_, _, a, b⟩ := node_half hL (by omega : 2 ≤ n) hn
      rw [if_neg h2, if_neg h2]
      by_cases hc : i < ways L k (nodeOf L n).2.1
      · rw [if_pos (by omega), if_pos hc]
        have := ih (nodeOf L n).2.1 i (by omega) (by omega) hc h
        unfold Bd.mux
        cases h (nodeOf L n).1
        · simpa using this
        · rfl
      · rw [if_neg hc]
        have := ih (nodeOf L n).2.2 (i - ways L k (nodeOf L n).2.1) (by omega) (by omega) (by omega) h
        by_cases he : i ≤ ways L k (nodeOf L n).2.1
        · rw [if_pos he]
          unfold Bd.mux
          cases h (nodeOf L n).1 <;> simp [ff]
        · rw [if_neg he]
          unfold Bd.mux
          cases h (nodeOf L n).1
          · simp [ff]
          · simpa using this

theorem suf_set (l : List UInt8) (b : Nat) (hb : b < l.length) (h0 : l.getD b 0 = 120) (c : Bool) (h : Nat → Bool) : suf ⟨(l.set b (if c then 49 else 48)).toArray⟩ 0 h = (suf ⟨l.toArray⟩ 0 h && (h b == c)) := by
  have get : ∀ i, i < l.length → (l.set b (if c then 49 else 48)).getD i 0 = if i = b then (if c then 49 else 48) else l.getD i 0 := by
    intro i hi
    rw [List.getD_eq_getElem?_getD, List.getD_eq_getElem?_getD]
    by_cases e : i = b
    · subst e
      rw [if_pos rfl, List.getElem?_set_self hb]; rfl
    · rw [if_neg e, List.getElem?_set_ne (fun h => e h.symm)]
  have sz : ∀ l : List UInt8, (ByteArray.mk l.toArray).size = l.length := fun l => by simp [ByteArray.size]
  refine bool_ext ⟨fun H => ?_, fun H => ?_⟩
  · rw [suf_true] at H
    rw [Bool.and_eq_true, suf_true]
    refine ⟨fun i hi hk => ?_, ?_⟩
    · rw [sz] at hi
      by_cases e : i = b
      · subst e
        show (l.getD i 0 = 48 → _) ∧ (l.getD i 0 = 49 → _)
        rw [h0]
        exact ⟨fun e => absurd e (by decide), fun e => absurd e (by decide)⟩
      · have := H i (by rw [sz, List.length_set]; exact hi) hk
        have e2 : (l.set b (if c then 49 else 48)).getD i 0 = l.getD i 0 := by rw [get i hi, if_neg e]
        have this' : ((l.set b (if c then 49 else 48)).getD i 0 = 48 → h i = false) ∧ ((l.set b (if c then 49 else 48)).getD i 0 = 49 → h i = true) := this
        rw [e2] at this'
        exact this'
    · have := H b (by rw [sz, List.length_set]; exact hb) (Nat.zero_le _)
      have this' : ((l.set b (if c then 49 else 48)).getD b 0 = 48 → h b = false) ∧ ((l.set b (if c then 49 else 48)).getD b 0 = 49 → h b = true) := this
      rw [get b hb, if_pos rfl] at this'
      cases c
      · rw [this'.1 rfl]; rfl
      · rw [this'.2 rfl]; rfl
  · rw [Bool.and_eq_true, suf_true] at H
    rw [suf_true]
    intro i hi hk
    rw [sz, List.length_set] at hi
    show ((l.set b (if c then 49 else 48)).getD i 0 = 48 → _) ∧ ((l.set b (if c then 49 else 48)).getD i 0 = 49 → _)
    rw [get i hi]
    by_cases e : i = b
    · subst e
      rw [if_pos rfl]
      have hc : h i = c := by simpa using H.2
      cases c
      · exact ⟨fun _ => hc, fun e => absurd e (by decide)⟩
      · exact ⟨fun e => absurd e (by decide), fun _ => hc⟩
    · rw [if_neg e]
      exact H.1 i (by rw [sz]; exact hi) hk

/-- Letters that are free from a node's bit on. -/
def FreeFrom (l : List UInt8) (k : Nat) : Prop := ∀ j, k ≤ j → j < l.length → l.getD j 0 = 120
theorem FreeFrom.set {l : List UInt8} {k b : Nat} {c : UInt8} (h : FreeFrom l b) (hk : b < k) : FreeFrom (l.set b c) k := by
  intro j hj hl
  rw [List.length_set] at hl
  rw [List.getD_eq_getElem?_getD, List.getElem?_set_ne (by omega), ← List.getD_eq_getElem?_getD]
  exact h j (by omega) hl

/-- A text of a way: what it says, and its letters. -/
theorem way_at (hL : Bd.Okay bits L) : ∀ k n l i t, n < k → n < L.length + 2 → l.length = bits → FreeFrom l (Bd.bitOf L n) → (∀ c, c ∈ l → c = 48 ∨ c = 49 ∨ c = 120) → (way L k n l)[i]? = some t → t.length = bits ∧ (∀ c, c ∈ t → c = 48 ∨ c = 49 ∨ c = 120) ∧ ∀ h, suf ⟨t.toArray⟩ 0 h = (suf ⟨l.toArray⟩ 0 h && path L k n i h) := by
  intro k
  induction k with
  | zero => intro n l i t h; omega
  | succ k ih =>
    intro n l i t hk hn hl hfr hs ht
    rw [way_succ] at ht
    by_cases h2 : n < 2
    · rw [if_pos h2] at ht
      by_cases h1 : n = 1
      · rw [if_pos h1] at ht
        have hi0 : i = 0 := by have := Bd.getElem?_lt ht; simpa using this
        subst hi0
        have e : l = t := by simpa using ht
        subst e
        refine ⟨hl, hs, fun h => ?_⟩
        rw [path_succ, if_pos h2, if_pos h1]
        simp [tt]
      · rw [if_neg h1] at ht
        simp at ht
    · rw [if_neg h2] at ht
      obtain ⟨hx, hb, a, b⟩ := node_half hL (by omega : 2 ≤ n) hn
      obtain ⟨f1, f2, f3, f4, f5, f6⟩ := hL.fit _ _ hx
      have hbl : (nodeOf L n).1 < l.length := by rw [hl]; exact f4
      have h120 : l.getD (nodeOf L n).1 0 = 120 := hfr _ (Nat.le_of_eq hb.symm) hbl
      have sym : ∀ (c : UInt8), (c = 48 ∨ c = 49) → ∀ d, d ∈ l.set (nodeOf L n).1 c → d = 48 ∨ d = 49 ∨ d = 120 := by
        intro c hc d hd
        rcases List.mem_or_eq_of_mem_set hd with h | h
        · exact hs d h
        · rcases hc with e | e
          · exact Or.inl (h.trans e)
          · exact Or.inr (Or.inl (h.trans e))
      have hfr' : FreeFrom l (nodeOf L n).1 := by
        have hb' : (nodeOf L n).1 = Bd.bitOf L n := hb
        rw [hb']; exact hfr
      rw [path_succ, if_neg h2]
      rcases Nat.lt_or_ge i (ways L k (nodeOf L n).2.1) with hc | hc
      · rw [List.getElem?_append_left (by rw [way_length]; exact hc)] at ht
        obtain ⟨r1, r2, r3⟩ := ih _ _ i t (by omega) (by omega) (by rw [List.length_set]; exact hl) (hfr'.set f5) (sym 48 (Or.inl rfl)) ht
        refine ⟨r1, r2, fun h => ?_⟩
        rw [r3 h, if_pos hc]
        have := suf_set l (nodeOf L n).1 hbl h120 false h
        rw [show (if false = true then (49 : UInt8) else 48) = 48 from rfl] at this
        rw [this]
        unfold Bd.mux
        cases h (nodeOf L n).1
        · simp
        · simp [ff]
      · rw [List.getElem?_append_right (by rw [way_length]; exact hc), way_length] at ht
        obtain ⟨r1, r2, r3⟩ := ih _ _ _ t (by omega) (by omega) (by rw [List.length_set]; exact hl) (hfr'.set f6) (sym 49 (Or.inr rfl)) ht
        refine ⟨r1, r2, fun h => ?_⟩
        rw [r3 h, if_neg (by omega)]
        have := suf_set l (nodeOf L n).1 hbl h120 true h
        rw [show (if true = true then (49 : UInt8) else 48) = 49 from rfl] at this
        rw [this]
        unfold Bd.mux
        cases h (nodeOf L n).1
        · simp [ff]
        · simp
end
end Go.Proofs.Ytffngpdngjfcfaa
namespace Go.Proofs.Ytffngpdngjfcfaa
open Go.RowKit Go.Maps
open Bd (Nd)

theorem Try.infoStrC : (Try.prog.info? 9).map (fun i => (i.zero, i.size, i.bytes)) = some (some (.string ByteArray.empty), 1, 16) := by kernel_rfl
def strs (T : List (List UInt8)) : List Value := T.map fun l => Value.string ⟨l.toArray⟩
theorem strs_snoc (T : List (List UInt8)) (l : List UInt8) : strs (T ++ [l]) = strs T ++ [.string ⟨l.toArray⟩] := by simp [strs]

/-- Letters in memory. -/
structure LetAt (w : World) (lb N : Nat) (l : List UInt8) : Prop where
  ex : ∃ cs : Array Value, w.heap[lb]? = some (.cells cs 5 (N, N + 1)) ∧ cs.size = N ∧ l.length ≤ N ∧ ∀ j, j < l.length → cs[j]? = some (.int .u8 ((l.getD j 0).toNat : Int))
theorem LetAt.lt {w : World} {lb N : Nat} {l : List UInt8} (h : LetAt w lb N l) : lb < w.heap.size := by
  obtain ⟨cs, h1, _⟩ := h.ex
  exact block_lt h1
theorem LetAt.same {w w' : World} {lb N : Nat} {l : List UInt8} (h : LetAt w lb N l) (hb : w'.heap[lb]? = w.heap[lb]?) : LetAt w' lb N l := by
  obtain ⟨cs, h1, h2⟩ := h.ex
  exact ⟨cs, hb.trans h1, h2⟩
theorem LetAt.cell {w : World} {lb N : Nat} {l : List UInt8} (h : LetAt w lb N l) {j : Nat} (hj : j < l.length) : w.cell? ⟨lb, j, none⟩ = some (.int .u8 ((l.getD j 0).toNat : Int)) := by
  obtain ⟨cs, h1, h2, h3, h4⟩ := h.ex
  rw [cell_at h1]; exact h4 j hj
theorem LetAt.thaw {w : World} {lb N : Nat} {l : List UInt8} (h : LetAt w lb N l) {j : Nat} (hj : j < l.length) : w.frozen? ⟨lb, j, none⟩ = false := by
  obtain ⟨cs, h1, h2, h3, h4⟩ := h.ex
  simp [World.frozen?, h1]; omega
theorem set_block_at {w : World} {b o : Nat} {cs : Array Value} {t : TypeId} {r : Nat × Nat} (u : Value) (h : w.heap[b]? = some (.cells cs t r)) :
    (w.setCell ⟨b, o, none⟩ u).heap[b]? = some (.cells (cs.setIfInBounds o u) t r) := by
  have hlt := block_lt h
  have h' : w.heap[b] = .cells cs t r := by simpa [Array.getElem?_eq_getElem hlt] using h
  show (w.heap.modify b _)[b]? = _
  rw [Array.getElem?_eq_getElem (by simpa using hlt), Array.getElem_modify_self, h']
  rfl
theorem LetAt.set {w : World} {lb N : Nat} {l : List UInt8} (h : LetAt w lb N l) {b : Nat} (hb : b < l.length) (c : UInt8) : LetAt (w.setCell ⟨lb, b, none⟩ (.int .u8 (c.toNat : Int))) lb N (l.set b c) := by
  obtain ⟨cs, h1, h2, h3, h4⟩ := h.ex
  refine ⟨_, set_block_at _ h1, by rw [Array.size_setIfInBounds]; exact h2, by rw [List.length_set]; exact h3, fun j hj => ?_⟩
  rw [List.length_set] at hj
  rw [Array.getElem?_setIfInBounds, List.getD_eq_getElem?_getD]
  by_cases e : b = j
  · subst e
    rw [if_pos rfl, if_pos (by omega), List.getElem?_set_self hj]; rfl
  · rw [if_neg e, List.getElem?_set_ne e, ← List.getD_eq_getElem?_getD]; exact h4 j hj
theorem LetAt.text {w : World} {lb N : Nat} {l : List UInt8} (h : LetAt w lb N l) (cap : Nat) : (convert 29 9 (.slice (some ⟨lb, 0, none⟩) l.length cap)).run Try.prog w = .ok (.string ⟨l.toArray⟩) w := by
  have hcv := run_convert_bytes_arg (P := Try.prog) w 29 5 Try.underlying29 Try.underlying5 lb 0 l.length cap (l.map fun c => (c.toNat : Int)) (by rw [List.length_map]) (fun i hi => by
    rw [Nat.zero_add, h.cell hi, List.getD_eq_getElem?_getD, List.getD_eq_getElem?_getD, List.getElem?_map, List.getElem?_eq_getElem hi]
    rfl) 9 Try.underlying9
  have hst : strOfNums (l.map fun c => (c.toNat : Int)) = ⟨l.toArray⟩ := by
    unfold strOfNums; exact congrArg ByteArray.mk (by simp [Function.comp_def])
  rw [hst] at hcv
  exact hcv

/-- What cubes leaves. -/
structure Cubs (lb N : Nat) (y : Lay) (l : List UInt8) (T : List (List UInt8)) (w : World) (v : Value) (w' : World) (v' : Value) : Prop where
  row : w'.ownsRow 0 9 1 v' T.length (strs T)
  free : ∀ g, v'.ownBlock = some g → ¬ y.own g ∧ g ≠ lb
  lets : LetAt w' lb N l
  os : w'.os = w.os
  tape : w'.tape = w.tape
  output : w'.output = w.output
  size : w.heap.size ≤ w'.heap.size
  block : ∀ j, j < w.heap.size → j ≠ lb → some j ≠ v.ownBlock → w'.heap[j]? = w.heap[j]?
  own : ∀ g, v'.ownBlock = some g → v.ownBlock = some g ∨ w.heap.size ≤ g

theorem lets_back (l : List UInt8) (b : Nat) (h : l.getD b 0 = 120) (hb : b < l.length) (c : UInt8) : (l.set b c).set b 120 = l := by
  rw [List.set_set]
  apply List.ext_getElem?
  intro i
  by_cases e : b = i
  · subst e
    rw [List.getElem?_set_self hb, ← h, List.getD_eq_getElem?_getD, List.getElem?_eq_getElem hb]; rfl
  · rw [List.getElem?_set_ne e]

set_option maxRecDepth 4000 in
set_option maxHeartbeats 4000000 in
theorem cubs_any {y : Lay} {s : St} (lb N cap : Nat) (hlb : ¬ y.own lb) : ∀ (k n : Nat) (l : List UInt8) (T : List (List UInt8)) (v : Value) (w : World), n < k → n < s.L.length + 2 → Tab w y s → LetAt w lb N l → l.length = s.bits → FreeFrom l (Bd.bitOf s.L n) → w.ownsRow 0 9 1 v T.length (strs T) → (∀ g, v.ownBlock = some g → ¬ y.own g ∧ g ≠ lb) → T.length + ways s.L k n ≤ 1000000 →
    Calls Try.prog 55 #[.pointer (some ⟨y.tb, 3, none⟩), .int .i64 n, .slice (some ⟨lb, 0, none⟩) s.bits cap, v] w fun e w' => ∃ v', e = .returned v' ∧ Cubs lb N y l (T ++ way s.L k n l) w v w' v' := by
  intro k
  induction k with
  | zero => intro n l T v w h; omega
  | succ k ih =>
    intro n l T v w hnk hn hT hLt hl hfr hrow hv hT9
    have hsm := hT.small.1
    by_cases h0 : n = 0
    · subst h0
      have HR : Hid (Cubs lb N y l (T ++ way s.L (k + 1) 0 l) w v w v) := by
        have e : way s.L (k + 1) 0 l = [] := rfl
        rw [e, List.append_nil]
        exact ⟨hrow, hv, hLt, rfl, rfl, rfl, Nat.le_refl _, fun _ _ _ _ => rfl, fun g h => Or.inl h⟩
      clear hT hLt hrow hv ih
      go_enter Try.func55, Try.ntmps55
      go_wp2_with fail
      go_ret
      exact ⟨v, rfl, HR.out⟩
    · by_cases h1 : n = 1
      · subst h1
        have e : way s.L (k + 1) 1 l = [l] := rfl
        have ew : ways s.L (k + 1) 1 = 1 := rfl
        rw [ew] at hT9
        rw [e]
        have hcv := hLt.text cap
        rw [hl] at hcv
        obtain ⟨i0, hi, hz0, hz1, hz2⟩ := info_parts Try.infoStrC
        have HI := keep hi
        have HZ0 := keep hz0
        have HZ1 := keep hz1
        have HZ2 := keep hz2
        have HROW : Hid (∀ o, (w.alloc o).ownsRow 0 9 1 v T.length (strs T)) := fun o => hrow.alloc o
        have HFIN : Hid (∀ (o : Obj) (g4 cap4 : Nat) (w4 : World), w4.ownsRow 0 9 1 (.slice (some ⟨g4, 0, none⟩) (T.length + 1) cap4) (T.length + 1) (strs T ++ [.string ⟨l.toArray⟩]) → (w.alloc o).grownBy w4 v.ownBlock → (v.ownBlock = some g4 ∨ g4 = w.heap.size + 1) → Cubs lb N y l (T ++ [l]) w v w4 (.slice (some ⟨g4, 0, none⟩) (T.length + 1) cap4)) := by
          intro o g4 cap4 w4 hown hg hat
          have hlbl := hLt.lt
          have old : ∀ j, j < w.heap.size → some j ≠ v.ownBlock → w4.heap[j]? = w.heap[j]? := fun j hj hne => (hg.block j (by simp; omega) hne).trans (heap_alloc_old w o hj)
          refine ⟨by rw [List.length_append, strs_snoc]; exact hown, fun g hg' => ?_, hLt.same (old lb hlbl (fun e => (hv lb e.symm).2 rfl)), hg.os, hg.tape, hg.output, by have := hg.size; simp at this; omega, fun j hj _ hne => old j hj hne, fun g hg' => ?_⟩
          · have eg : g4 = g := Option.some.inj hg'
            subst eg
            rcases hat with h | h
            · exact hv _ h
            · exact ⟨fun ho => by have := hT.lt ho; omega, by omega⟩
          · have eg : g4 = g := Option.some.inj hg'
            subst eg
            rcases hat with h | h
            · exact Or.inl h
            · exact Or.inr (by omega)
        have htl : T.length ≤ 1000000 := by omega
        clear hT hLt hrow hv ih hi hz0 hz1 hz2 hfr hl
        go_enter Try.func55, Try.ntmps55
        go_wp2_with (first | (at_builtin; refine wpList_append_lies _ rfl (.tmp 16) (.tmp 19) 22 rfl 0 9 i0 (.string ByteArray.empty) 1 16 Try.underlying22 HI.out HZ0.out HZ1.out HZ2.out rfl (by decide) v T.length (strs T) rfl (HROW.out _) ⟨w.heap.size, 0, none⟩ 1 1 [.string ⟨l.toArray⟩] rfl rfl (World.news_of_block (heap_alloc_new w _)) (by simp [Value.oneCell']) (by decide) (by unfold maxLen; omega) (by omega) (Nat.zero_le _) (w.heap.size + 1) (by simp) ?_; intro g4 cap4 w4 hown4 hgrow4 hat4 hlt4))
        go_ret
        exact ⟨_, rfl, HFIN.out _ g4 cap4 w4 hown4 hgrow4 hat4⟩
      · have h2 : 2 ≤ n := by omega
        obtain ⟨hx, hb, ha, hbb⟩ := node_half hT.okay h2 hn
        obtain ⟨f1, f2, f3, f4, f5, f6⟩ := hT.okay.fit _ _ hx
        have ew : ways s.L (k + 1) n = ways s.L k (nodeOf s.L n).2.1 + ways s.L k (nodeOf s.L n).2.2 := by rw [ways_succ, if_neg (by omega)]
        have ey : way s.L (k + 1) n l = way s.L k (nodeOf s.L n).2.1 (l.set (nodeOf s.L n).1 48) ++ way s.L k (nodeOf s.L n).2.2 (l.set (nodeOf s.L n).1 49) := by rw [way_succ, if_neg (by omega)]
        rw [ew] at hT9
        rw [ey]
        have hb2 : (nodeOf s.L n).1 = Bd.bitOf s.L n := hb
        rw [← hb2] at hfr
        generalize nodeOf s.L n = x at *
        obtain ⟨i, rfl⟩ : ∃ i, n = i + 2 := ⟨n - 2, by omega⟩
        have hxi : s.L[i]? = some x := hx
        have c3 := hT.cell3
        obtain ⟨ao, cp, hls⟩ := hT.list_slice
        have hlrow := hT.list
        rw [hls] at c3 hlrow
        obtain ⟨g, cp', e, hcells⟩ := nodesIn_of hlrow (by have := Bd.getElem?_lt hxi; omega)
        have ea : ao = some ⟨g, 0, none⟩ := by cases e; rfl
        subst ea
        obtain ⟨d0, d1, d2⟩ := hcells i x hxi
        have hbl : x.1 < l.length := by rw [hl]; exact f4
        have h120 : l.getD x.1 0 = 120 := hfr x.1 (Nat.le_refl _) hbl
        have hlbl := hLt.lt
        have q0 := hLt.cell hbl
        have z0 := hLt.thaw hbl
        have hbx := heap_alloc_new w (.cells #[.int .i64 x.1, .int .i64 x.2.1, .int .i64 x.2.2] 82)
        -- the first call
        have old1 : ∀ u j, j < w.heap.size + 1 → j ≠ lb → ((w.alloc (.cells #[.int .i64 x.1, .int .i64 x.2.1, .int .i64 x.2.2] 82)).setCell ⟨lb, x.1, none⟩ u).heap[j]? = (w.alloc (.cells #[.int .i64 x.1, .int .i64 x.2.1, .int .i64 x.2.2] 82)).heap[j]? := fun u j _ hne => set_other u hne
        have L1 : LetAt ((w.alloc (.cells #[.int .i64 x.1, .int .i64 x.2.1, .int .i64 x.2.2] 82)).setCell ⟨lb, x.1, none⟩ (.int .u8 48)) lb N (l.set x.1 48) := (hLt.same (heap_alloc_old w _ hlbl)).set hbl 48
        have s1 : ∀ u, ((w.alloc (.cells #[.int .i64 x.1, .int .i64 x.2.1, .int .i64 x.2.2] 82)).setCell ⟨lb, x.1, none⟩ u).heap.size = w.heap.size + 1 := fun u => by simp
        have HV : Hid (Calls Try.prog 55 #[.pointer (some ⟨y.tb, 3, none⟩), .int .i64 x.2.1, .slice (some ⟨lb, 0, none⟩) s.bits cap, v] ((w.alloc (.cells #[.int .i64 x.1, .int .i64 x.2.1, .int .i64 x.2.2] 82)).setCell ⟨lb, x.1, none⟩ (.int .u8 48)) fun e w2 => ∃ v2, e = .returned v2 ∧ w2.cell? ⟨w.heap.size, 0, none⟩ = some (.int .i64 x.1) ∧ w2.cell? ⟨w.heap.size, 2, none⟩ = some (.int .i64 x.2.2) ∧ (∃ u, w2.cell? ⟨lb, x.1, none⟩ = some u) ∧ w2.frozen? ⟨lb, x.1, none⟩ = false ∧ w.heap.size < w2.heap.size ∧ lb ≠ w.heap.size ∧
            Hid (Calls Try.prog 55 #[.pointer (some ⟨y.tb, 3, none⟩), .int .i64 x.2.2, .slice (some ⟨lb, 0, none⟩) s.bits cap, v2] (w2.setCell ⟨lb, x.1, none⟩ (.int .u8 49)) fun e w4 => ∃ v4, e = .returned v4 ∧ w4.cell? ⟨w.heap.size, 0, none⟩ = some (.int .i64 x.1) ∧ (∃ u, w4.cell? ⟨lb, x.1, none⟩ = some u) ∧ w4.frozen? ⟨lb, x.1, none⟩ = false ∧ Hid (Cubs lb N y l (T ++ (way s.L k x.2.1 (l.set x.1 48) ++ way s.L k x.2.2 (l.set x.1 49))) w v (w4.setCell ⟨lb, x.1, none⟩ (.int .u8 120)) v4))) := by
          have hvl : ∀ q, v.ownBlock = some q → q < w.heap.size := fun q hq => (hrow.lt q hq).2
          have T1 : Tab ((w.alloc (.cells #[.int .i64 x.1, .int .i64 x.2.1, .int .i64 x.2.2] 82)).setCell ⟨lb, x.1, none⟩ (.int .u8 48)) y s := hT.same fun j hj => (old1 _ j (by have := hT.lt hj; omega) (fun e => hlb (e ▸ hj))).trans (heap_alloc_old w _ (hT.lt hj))
          have R1 := row_same (w' := (w.alloc (.cells #[.int .i64 x.1, .int .i64 x.2.1, .int .i64 x.2.2] 82)).setCell ⟨lb, x.1, none⟩ (.int .u8 48)) hrow fun q hq => (old1 _ q (by have := hvl q hq; omega) (hv q hq).2).trans (heap_alloc_old w _ (hvl q hq))
          refine (ih x.2.1 (l.set x.1 48) T v _ (by omega) (by omega) T1 L1 (by rw [List.length_set]; exact hl) (hfr.set f5) R1 hv (by omega)).mono ?_
          rintro e w2 ⟨v2, rfl, C2⟩
          have z2 : w.heap.size + 1 ≤ w2.heap.size := by have := C2.size; rw [s1] at this; exact this
          have b2 : w2.heap[w.heap.size]? = _ := ((C2.block w.heap.size (by rw [s1]; omega) (by omega) (fun e => by have := hvl _ e.symm; omega)).trans (old1 _ _ (by omega) (by omega))).trans hbx
          have hl2 : x.1 < (l.set x.1 48).length := by rw [List.length_set]; exact hbl
          refine ⟨v2, rfl, by rw [cell_at b2]; rfl, by rw [cell_at b2]; rfl, ⟨_, C2.lets.cell hl2⟩, C2.lets.thaw hl2, by omega, by omega, ?_⟩
          have e49 : (l.set x.1 48).set x.1 49 = l.set x.1 49 := by rw [List.set_set]
          have L3 := C2.lets.set hl2 49
          rw [e49] at L3
          have hv2l : ∀ q, v2.ownBlock = some q → q < w2.heap.size := fun q hq => (C2.row.lt q hq).2
          have T2 : Tab (w2.setCell ⟨lb, x.1, none⟩ (.int .u8 49)) y s := T1.same fun j hj => (set_other _ (show j ≠ lb from fun e => hlb (e ▸ hj))).trans (C2.block j (T1.lt hj) (fun e => hlb (e ▸ hj)) (fun e => (hv j e.symm).1 hj))
          have R3 := row_same (w' := w2.setCell ⟨lb, x.1, none⟩ (.int .u8 49)) C2.row fun q hq => set_other _ (C2.free q hq).2
          have hway : (way s.L k x.2.1 (l.set x.1 48)).length = ways s.L k x.2.1 := way_length _ _ _ _
          refine (ih x.2.2 (l.set x.1 49) _ v2 _ (by omega) (by omega) T2 L3 (by rw [List.length_set]; exact hl) (hfr.set f6) R3 C2.free (by rw [List.length_append, hway]; omega)).mono ?_
          rintro e w4 ⟨v4, rfl, C4⟩
          have s3 : (w2.setCell ⟨lb, x.1, none⟩ (.int .u8 49)).heap.size = w2.heap.size := by simp
          have nb : ∀ q, q < w.heap.size + 1 → some q ≠ v.ownBlock → q ≠ lb → some q ≠ v2.ownBlock := by
            intro q hq hne _ e
            rcases C2.own q e.symm with h | h
            · exact hne h.symm
            · rw [s1] at h; omega
          have b4 : w4.heap[w.heap.size]? = _ := ((C4.block w.heap.size (by rw [s3]; omega) (by omega) (nb _ (by omega) (fun e => by have := hvl _ e.symm; omega) (by omega))).trans (set_other _ (show w.heap.size ≠ lb by omega))).trans b2
          have hl4 : x.1 < (l.set x.1 49).length := by rw [List.length_set]; exact hbl
          refine ⟨v4, rfl, by rw [cell_at b4]; rfl, ⟨_, C4.lets.cell hl4⟩, C4.lets.thaw hl4, ?_⟩
          have L5 := C4.lets.set hl4 120
          rw [lets_back l x.1 h120 hbl 49] at L5
          have s5 : (w4.setCell ⟨lb, x.1, none⟩ (.int .u8 120)).heap.size = w4.heap.size := by simp
          refine ⟨?_, C4.free, L5, ?_, ?_, ?_, ?_, fun j hj hne hnv => ?_, fun q hq => ?_⟩
          · rw [← List.append_assoc]
            exact row_same C4.row fun q hq => set_other _ (C4.free q hq).2
          · exact C4.os.trans C2.os
          · exact C4.tape.trans C2.tape
          · exact C4.output.trans C2.output
          · have := C4.size; rw [s3] at this; rw [s5]; omega
          · rw [set_other _ hne, C4.block j (by rw [s3]; omega) hne (nb j (by omega) hnv hne), set_other _ hne, C2.block j (by rw [s1]; omega) hne hnv, old1 _ j (by omega) hne]
            exact heap_alloc_old w _ hj
          · rcases C4.own q hq with h | h
            · rcases C2.own q h with h' | h'
              · exact Or.inl h'
              · rw [s1] at h'; exact Or.inr (by omega)
            · rw [s3] at h; exact Or.inr (by omega)
        have e1 : ((i + 2 : Nat) : Int) = (i : Int) + 2 := by omega
        have hiI : (i : Int) < (s.L.length : Int) := by have := Bd.getElem?_lt hxi; omega
        have hi0 : (0 : Int) ≤ (i : Int) := by omega
        have hlenI : (s.L.length : Int) ≤ 1073741824 := by omega
        have n0 : ((i : Int) + 2 == 0) = false := by rw [beq_eq_false_iff_ne]; omega
        have n1 : ((i : Int) + 2 == 1) = false := by rw [beq_eq_false_iff_ne]; omega
        have hbI : (x.1 : Int) < (s.bits : Int) := by omega
        rw [e1]
        obtain ⟨len, hlen0⟩ : ∃ len, len = s.L.length := ⟨_, rfl⟩
        rw [← hlen0] at c3 hiI hlenI
        have q0a : ∀ o, (w.alloc o).cell? ⟨lb, x.1, none⟩ = some (.int .u8 ((l.getD x.1 0).toNat : Int)) := fun o => by rw [World.cell?_of_block (heap_alloc_old w o hlbl)]; exact q0
        have z0a : ∀ o, (w.alloc o).frozen? ⟨lb, x.1, none⟩ = false := fun o => by rw [World.frozen?_of_block (heap_alloc_old w o hlbl)]; exact z0
        have hlne : lb ≠ w.heap.size := by omega
        generalize way s.L k x.2.1 (l.set x.1 48) ++ way s.L k x.2.2 (l.set x.1 49) = W at HV ⊢
        obtain ⟨x0, x1, x2⟩ := x
        simp only at d0 d1 d2 HV hbI q0 z0 q0a z0a
        obtain ⟨bt, hbt⟩ : ∃ bt, bt = s.bits := ⟨_, rfl⟩
        rw [← hbt] at HV hbI ⊢
        have ecom : ∀ (o : Obj) (u : Value), (w.alloc o).setCell ⟨lb, x0, none⟩ u = (w.setCell ⟨lb, x0, none⟩ u).alloc o := fun o u => World.setCell_alloc_past o lb x0 u hlbl
        rw [ecom] at HV
        clear ecom ih hT hLt hrow hv hls e hcells hlrow hbx hx hxi hlen0 hnk hn h2 h0 h1 f1 f2 f3 f4 f5 f6 ew ey hb hb2 hfr ha hbb L1 old1 s1 h120 hbl hl hT9 hbt
        go_enter Try.func55, Try.ntmps55
        go_wp2_with fail
        refine HV.out.mono ?_
        rintro e w2 ⟨v2, rfl, p0, p2, ⟨u2, q2⟩, z2, hsz2, hne2, HV2⟩
        clear HV
        go_wp2_with fail
        refine HV2.out.mono ?_
        rintro e w4 ⟨v4, rfl, p4, ⟨u4, q4⟩, z4, HD⟩
        clear HV2
        go_wp2
        go_ret
        exact ⟨v4, rfl, HD.out⟩
end Go.Proofs.Ytffngpdngjfcfaa
