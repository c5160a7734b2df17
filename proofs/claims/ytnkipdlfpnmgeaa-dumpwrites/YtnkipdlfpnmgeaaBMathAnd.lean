/-
  What is read of a table: bit, halves.
  A table in memory.
  Keys of the maps of package bdd: nodes, three numbers in a row, numbers.
  A map of whole numbers in memory, told key by key.
  What a function needs: its parts; the nodes that lie beneath one; marks.
  Diagrams as rows of nodes: what their numbers mean, and that each function has one number.
-/
import Derived.WalkKit
import Derived.Maps.OwnSet
import Derived.Test.YtnkipdlfpnmgeaaProg
import Derived.DeepKeys5
import Derived.Defers
import Derived.Recover
import Derived.Deep.RegionHeld3
import Derived.Deep.RegionWith
import Derived.Deep.DrawnRows
import Derived.Deep.AppendLies
import Derived.Deep.QuietTactic
import Derived.BigQuiet
namespace Go.Proofs.Ytnkipdlfpnmgeaa
namespace Bd

/-- A node: its bit, where it leads by 0, where by 1. -/
abbrev Nd := Nat × Nat × Nat
abbrev Fn := (Nat → Bool) → Bool

def ff : Fn := fun _ => false
def tt : Fn := fun _ => true
def mux (k : Nat) (f g : Fn) : Fn := fun h => if h k then g h else f h
def dstep (D : List Fn) (x : Nd) : List Fn := D ++ [mux x.1 (D.getD x.2.1 ff) (D.getD x.2.2 ff)]
def dens (L : List Nd) : List Fn := L.foldl dstep [ff, tt]
def den (L : List Nd) (n : Nat) : Fn := (dens L).getD n ff
def bitOf (L : List Nd) (n : Nat) : Nat := if n < 2 then 128 else (L.getD (n - 2) (0, 0, 0)).1

theorem dens_snoc (L : List Nd) (x : Nd) : dens (L ++ [x]) = dstep (dens L) x := by simp [dens, List.foldl_append]
theorem snoc_ind {α : Type} {p : List α → Prop} (h0 : p []) (hs : ∀ l x, p l → p (l ++ [x])) (l : List α) : p l := by
  have : ∀ n (l : List α), l.length = n → p l := by
    intro n
    induction n with
    | zero => intro l hl; rw [List.length_eq_zero_iff.1 hl]; exact h0
    | succ n ih =>
      intro l hl
      have hne : l ≠ [] := by intro h; rw [h] at hl; cases hl
      rw [← List.dropLast_concat_getLast hne]
      exact hs _ _ (ih _ (by rw [List.length_dropLast]; omega))
  exact this _ l rfl
theorem dens_length (L : List Nd) : (dens L).length = L.length + 2 := by
  induction L using snoc_ind with
  | h0 => rfl
  | hs l x ih => rw [dens_snoc]; simp [dstep, ih]
theorem den_snoc_old (L : List Nd) (x : Nd) {n : Nat} (h : n < L.length + 2) : den (L ++ [x]) n = den L n := by
  unfold den
  rw [dens_snoc]
  unfold dstep
  rw [List.getD_eq_getElem?_getD, List.getElem?_append_left (by rw [dens_length]; exact h), List.getD_eq_getElem?_getD]
theorem den_snoc_new (L : List Nd) (x : Nd) : den (L ++ [x]) (L.length + 2) = mux x.1 (den L x.2.1) (den L x.2.2) := by
  unfold den
  rw [dens_snoc]
  unfold dstep
  rw [List.getD_eq_getElem?_getD, List.getElem?_append_right (by rw [dens_length]; omega)]
  simp [dens_length]
theorem den_append_old (L M : List Nd) {n : Nat} (h : n < L.length + 2) : den (L ++ M) n = den L n := by
  induction M using snoc_ind with
  | h0 => rw [List.append_nil]
  | hs l x ih => rw [← List.append_assoc, den_snoc_old _ _ (by rw [List.length_append]; omega), ih]
theorem den_zero (L : List Nd) : den L 0 = ff := by
  have := den_append_old [] L (n := 0) (by simp)
  simpa [den, dens] using this
theorem den_one (L : List Nd) : den L 1 = tt := by
  have := den_append_old [] L (n := 1) (by simp)
  simpa [den, dens] using this
theorem bitOf_old (L M : List Nd) {n : Nat} (h : n < L.length + 2) : bitOf (L ++ M) n = bitOf L n := by
  unfold bitOf
  by_cases h2 : n < 2
  · rw [if_pos h2, if_pos h2]
  · rw [if_neg h2, if_neg h2, List.getD_eq_getElem?_getD, List.getD_eq_getElem?_getD, List.getElem?_append_left (by omega)]
theorem bitOf_end (L : List Nd) {n : Nat} (h : n < 2) : bitOf L n = 128 := by unfold bitOf; rw [if_pos h]
theorem bitOf_at {L : List Nd} {i : Nat} {x : Nd} (h : L[i]? = some x) : bitOf L (i + 2) = x.1 := by
  unfold bitOf
  rw [if_neg (by omega), List.getD_eq_getElem?_getD]
  simp [h]

/-- Rows of nodes as a table has them. -/
structure Okay (bits : Nat) (L : List Nd) : Prop where
  few : bits ≤ 128
  nd : L.Nodup
  fit : ∀ i x, L[i]? = some x → x.2.1 < i + 2 ∧ x.2.2 < i + 2 ∧ x.2.1 ≠ x.2.2 ∧ x.1 < bits ∧ x.1 < bitOf L x.2.1 ∧ x.1 < bitOf L x.2.2

theorem getElem?_lt {α : Type} {L : List α} {i : Nat} {x : α} (h : L[i]? = some x) : i < L.length := by
  rcases Nat.lt_or_ge i L.length with h1 | h1
  · exact h1
  · rw [List.getElem?_eq_none h1] at h; cases h

theorem Okay.nil {bits : Nat} (h : bits ≤ 128) : Okay bits [] := { few := h, nd := List.nodup_nil, fit := fun i x h => by simp at h }

theorem Okay.snoc {bits : Nat} {L : List Nd} (h : Okay bits L) {x : Nd} (hx : x ∉ L) (hl : x.2.1 < L.length + 2) (hh : x.2.2 < L.length + 2) (hne : x.2.1 ≠ x.2.2) (hb : x.1 < bits)
    (hlb : x.1 < bitOf L x.2.1) (hhb : x.1 < bitOf L x.2.2) : Okay bits (L ++ [x]) := by
  refine { few := h.few, nd := ?_, fit := ?_ }
  · rw [List.nodup_append]
    refine ⟨h.nd, by simp, ?_⟩
    intro a ha b hb' e
    subst e
    simp only [List.mem_singleton] at hb'
    subst hb'
    exact hx ha
  · intro i y hy
    rcases Nat.lt_or_ge i L.length with h1 | h1
    · rw [List.getElem?_append_left h1] at hy
      obtain ⟨a, b, c, d, e, f⟩ := h.fit i y hy
      exact ⟨a, b, c, d, by rw [bitOf_old _ _ (by omega)]; exact e, by rw [bitOf_old _ _ (by omega)]; exact f⟩
    · rw [List.getElem?_append_right h1] at hy
      have : i - L.length = 0 := by
        rcases Nat.eq_zero_or_pos (i - L.length) with h2 | h2
        · exact h2
        · rw [List.getElem?_eq_none (by simp; omega)] at hy; cases hy
      rw [this] at hy
      simp at hy
      subst hy
      exact ⟨by omega, by omega, hne, hb, by rw [bitOf_old _ _ hl]; exact hlb, by rw [bitOf_old _ _ hh]; exact hhb⟩

theorem den_at {bits : Nat} {L : List Nd} (h : Okay bits L) {i : Nat} {x : Nd} (hx : L[i]? = some x) : den L (i + 2) = mux x.1 (den L x.2.1) (den L x.2.2) := by
  have hi := getElem?_lt hx
  obtain ⟨a, b, _⟩ := h.fit i x hx
  have e : L = (L.take i ++ [x]) ++ L.drop (i + 1) := by
    have hxe : L[i] = x := by rw [List.getElem?_eq_getElem hi] at hx; exact Option.some.inj hx
    rw [← hxe, List.append_assoc, List.singleton_append, List.getElem_cons_drop, List.take_append_drop]
  have hlen : (L.take i).length = i := by rw [List.length_take]; omega
  have h1 : den L (i + 2) = den (L.take i ++ [x]) (i + 2) := by
    conv => lhs; rw [e]
    rw [den_append_old _ _ (by rw [List.length_append, hlen]; simp)]
  have h2 : ∀ n, n < i + 2 → den L n = den (L.take i) n := by
    intro n hn
    conv => lhs; rw [e]
    rw [den_append_old _ _ (by rw [List.length_append, hlen]; simp; omega), den_snoc_old _ _ (by omega)]
  have h3 := den_snoc_new (L.take i) x
  rw [hlen] at h3
  rw [h1, h3, h2 _ a, h2 _ b]

/-- f hangs on no bit ahead of k. -/
def From (k : Nat) (f : Fn) : Prop := ∀ h h', (∀ j, k ≤ j → h j = h' j) → f h = f h'
theorem From.mono {k l : Nat} {f : Fn} (h : From l f) (hk : k ≤ l) : From k f := fun a b hab => h a b fun j hj => hab j (Nat.le_trans hk hj)
theorem from_mux {k : Nat} {f g : Fn} (hf : From (k + 1) f) (hg : From (k + 1) g) : From k (mux k f g) := by
  intro a b hab
  unfold mux
  rw [hab k (Nat.le_refl _), hf a b (fun j hj => hab j (by omega)), hg a b (fun j hj => hab j (by omega))]
theorem from_ff (k : Nat) : From k ff := fun _ _ _ => rfl
theorem from_tt (k : Nat) : From k tt := fun _ _ _ => rfl

theorem from_den {bits : Nat} {L : List Nd} (h : Okay bits L) : ∀ n, n < L.length + 2 → From (bitOf L n) (den L n) := by
  intro n
  induction n using Nat.strongRecOn with
  | ind n ih =>
    intro hn
    rcases Nat.lt_or_ge n 2 with h2 | h2
    · have : n = 0 ∨ n = 1 := by omega
      rcases this with rfl | rfl
      · rw [den_zero]; exact from_ff _
      · rw [den_one]; exact from_tt _
    · obtain ⟨i, rfl⟩ : ∃ i, n = i + 2 := ⟨n - 2, by omega⟩
      have hi : i < L.length := by omega
      have hx : L[i]? = some L[i] := List.getElem?_eq_getElem hi
      obtain ⟨a, b, c, d, e, f⟩ := h.fit i _ hx
      rw [den_at h hx, bitOf_at hx]
      exact from_mux ((ih _ a (by omega)).mono e) ((ih _ b (by omega)).mono f)

def setb (h : Nat → Bool) (k : Nat) (b : Bool) : Nat → Bool := fun j => if j = k then b else h j
/-- What is left of f where bit k is b. -/
def cof (f : Fn) (k : Nat) (b : Bool) : Fn := fun h => f (setb h k b)
theorem setb_other (h : Nat → Bool) (k : Nat) (b : Bool) {j : Nat} (hj : j ≠ k) : setb h k b j = h j := by unfold setb; rw [if_neg hj]
theorem setb_same (h : Nat → Bool) (k : Nat) (b : Bool) : setb h k b k = b := by unfold setb; rw [if_pos rfl]
theorem cof_from {k : Nat} {f : Fn} (hf : From (k + 1) f) (b : Bool) : cof f k b = f := by
  funext h
  exact hf _ _ fun j hj => setb_other _ _ _ (by omega)
theorem cof_mux {k : Nat} {f g : Fn} (hf : From (k + 1) f) (hg : From (k + 1) g) (b : Bool) : cof (mux k f g) k b = if b then g else f := by
  funext h
  have h1 : mux k f g (setb h k b) = if b then g (setb h k b) else f (setb h k b) := by unfold mux; rw [setb_same]
  show mux k f g (setb h k b) = _
  rw [h1]
  cases b
  · exact congrFun (cof_from hf false) h
  · exact congrFun (cof_from hg true) h
theorem from_cof {k : Nat} {f : Fn} (hf : From k f) (b : Bool) : From (k + 1) (cof f k b) := by
  intro a c hac
  refine hf _ _ fun j hj => ?_
  unfold setb
  by_cases e : j = k
  · rw [if_pos e, if_pos e]
  · rw [if_neg e, if_neg e]; exact hac j (by omega)
theorem mux_cof (f : Fn) (k : Nat) : mux k (cof f k false) (cof f k true) = f := by
  funext h
  unfold mux cof
  have e : ∀ b, h k = b → setb h k b = h := by
    intro b hb
    funext j
    unfold setb
    by_cases e : j = k
    · rw [if_pos e, e, hb]
    · rw [if_neg e]
  cases hk : h k
  · rw [if_neg (by simp), e _ hk]
  · rw [if_pos rfl, e _ hk]

theorem bitOf_lt {bits : Nat} {L : List Nd} (h : Okay bits L) {n : Nat} (h2 : 2 ≤ n) (hn : n < L.length + 2) : bitOf L n < bits := by
  obtain ⟨i, rfl⟩ : ∃ i, n = i + 2 := ⟨n - 2, by omega⟩
  have hx : L[i]? = some L[i] := List.getElem?_eq_getElem (by omega)
  rw [bitOf_at hx]
  exact (h.fit i _ hx).2.2.2.1
theorem bitOf_le {bits : Nat} {L : List Nd} (h : Okay bits L) {n : Nat} (hn : n < L.length + 2) : bitOf L n ≤ 128 := by
  rcases Nat.lt_or_ge n 2 with h2 | h2
  · rw [bitOf_end L h2]; exact Nat.le_refl _
  · have := bitOf_lt h h2 hn
    have := h.few
    omega

theorem canon_half {bits : Nat} {L : List Nd} (hL : Okay bits L) {n m : Nat} (hn : n < L.length + 2) (hm : m < L.length + 2) (hd : den L n = den L m) (h2 : 2 ≤ n) (hb : bitOf L n < bitOf L m)
    (ih : ∀ a b, a < n → b < n → den L a = den L b → a = b) : False := by
  obtain ⟨i, rfl⟩ : ∃ i, n = i + 2 := ⟨n - 2, by omega⟩
  have hi : i < L.length := by omega
  have hx : L[i]? = some L[i] := List.getElem?_eq_getElem hi
  obtain ⟨a, b, c, d, e, f⟩ := hL.fit i _ hx
  rw [bitOf_at hx] at hb
  have fl := (from_den hL _ (by omega : L[i].2.1 < L.length + 2)).mono e
  have fh := (from_den hL _ (by omega : L[i].2.2 < L.length + 2)).mono f
  have fm := (from_den hL m hm).mono hb
  rw [den_at hL hx] at hd
  have c0 : den L L[i].2.1 = den L m := by
    have := cof_mux fl fh false
    rw [hd, cof_from fm] at this
    exact this.symm
  have c1 : den L L[i].2.2 = den L m := by
    have := cof_mux fl fh true
    rw [hd, cof_from fm] at this
    exact this.symm
  exact c (ih _ _ a b (c0.trans c1.symm))

theorem canon_to {bits : Nat} {L : List Nd} (hL : Okay bits L) : ∀ s n m, n < s → m < s → n < L.length + 2 → m < L.length + 2 → den L n = den L m → n = m := by
  intro s
  induction s with
  | zero => intro n m h _ _ _; omega
  | succ s ih =>
    intro n m hns hms hn hm hd
    rcases Nat.lt_trichotomy (bitOf L n) (bitOf L m) with h1 | h1 | h1
    · rcases Nat.lt_or_ge n 2 with h2 | h2
      · rw [bitOf_end L h2] at h1
        have := bitOf_le hL hm
        omega
      · exact (canon_half hL hn hm hd h2 h1 (fun a b ha hb => ih a b (by omega) (by omega) (by omega) (by omega))).elim
    · rcases Nat.lt_or_ge n 2 with h2 | h2
      · rcases Nat.lt_or_ge m 2 with h3 | h3
        · have e : den L n (fun _ => false) = den L m (fun _ => false) := by rw [hd]
          have hn' : n = 0 ∨ n = 1 := by omega
          have hm' : m = 0 ∨ m = 1 := by omega
          rcases hn' with rfl | rfl <;> rcases hm' with rfl | rfl
          · rfl
          · rw [den_zero, den_one] at e; cases e
          · rw [den_zero, den_one] at e; cases e
          · rfl
        · have := bitOf_lt hL h3 hm
          have := hL.few
          rw [bitOf_end L h2] at h1
          omega
      · rcases Nat.lt_or_ge m 2 with h3 | h3
        · have := bitOf_lt hL h2 hn
          have := hL.few
          rw [bitOf_end L h3] at h1
          omega
        · obtain ⟨i, rfl⟩ : ∃ i, n = i + 2 := ⟨n - 2, by omega⟩
          obtain ⟨j, rfl⟩ : ∃ j, m = j + 2 := ⟨m - 2, by omega⟩
          have hi : i < L.length := by omega
          have hj : j < L.length := by omega
          have hx : L[i]? = some L[i] := List.getElem?_eq_getElem hi
          have hy : L[j]? = some L[j] := List.getElem?_eq_getElem hj
          obtain ⟨a, b, c, d, e, f⟩ := hL.fit i _ hx
          obtain ⟨a', b', c', d', e', f'⟩ := hL.fit j _ hy
          rw [bitOf_at hx, bitOf_at hy] at h1
          have fl := (from_den hL _ (by omega : L[i].2.1 < L.length + 2)).mono e
          have fh := (from_den hL _ (by omega : L[i].2.2 < L.length + 2)).mono f
          have gl := (from_den hL _ (by omega : L[j].2.1 < L.length + 2)).mono e'
          have gh := (from_den hL _ (by omega : L[j].2.2 < L.length + 2)).mono f'
          rw [den_at hL hx, den_at hL hy, ← h1] at hd
          rw [← h1] at gl gh
          have k0 := cof_mux fl fh false
          rw [hd, cof_mux gl gh false] at k0
          have k1 := cof_mux fl fh true
          rw [hd, cof_mux gl gh true] at k1
          have q0 := ih _ _ (by omega) (by omega) (by omega) (by omega) k0.symm
          have q1 := ih _ _ (by omega) (by omega) (by omega) (by omega) k1.symm
          have : L[i] = L[j] := by
            apply Prod.ext
            · exact h1
            · apply Prod.ext
              · exact q0
              · exact q1
          have := (List.getElem_inj (h₀ := hi) (h₁ := hj) hL.nd).1 this
          omega
    · rcases Nat.lt_or_ge m 2 with h2 | h2
      · rw [bitOf_end L h2] at h1
        have := bitOf_le hL hn
        omega
      · exact (canon_half hL hm hn hd.symm h2 h1 (fun a b ha hb => ih a b (by omega) (by omega) (by omega) (by omega))).elim

/-- Two numbers that mean the same are one. -/
theorem canon {bits : Nat} {L : List Nd} (hL : Okay bits L) {n m : Nat} (hn : n < L.length + 2) (hm : m < L.length + 2) (hd : den L n = den L m) : n = m :=
  canon_to hL (L.length + 2) n m hn hm hn hm hd

theorem bit_ge {bits : Nat} {L : List Nd} (hL : Okay bits L) {r k : Nat} (hr : r < L.length + 2) (hf : From k (den L r)) (hk : k ≤ 128) : k ≤ bitOf L r := by
  rcases Nat.lt_or_ge r 2 with h2 | h2
  · rw [bitOf_end L h2]; exact hk
  · obtain ⟨i, rfl⟩ : ∃ i, r = i + 2 := ⟨r - 2, by omega⟩
    have hi : i < L.length := by omega
    have hx : L[i]? = some L[i] := List.getElem?_eq_getElem hi
    obtain ⟨a, b, c, d, e, f⟩ := hL.fit i _ hx
    rw [bitOf_at hx]
    rcases Nat.lt_or_ge L[i].1 k with h1 | h1
    · have fl := (from_den hL _ (by omega : L[i].2.1 < L.length + 2)).mono e
      have fh := (from_den hL _ (by omega : L[i].2.2 < L.length + 2)).mono f
      have hf' : From (L[i].1 + 1) (mux L[i].1 (den L L[i].2.1) (den L L[i].2.2)) := by rw [← den_at hL hx]; exact hf.mono h1
      have c0 := cof_mux fl fh false
      have c1 := cof_mux fl fh true
      rw [cof_from hf'] at c0 c1
      exact absurd (canon hL (by omega) (by omega) (c0.symm.trans c1)) c
    · exact h1

def iteF (a b c : Fn) : Fn := fun h => if a h then b h else c h
theorem from_iteF {k : Nat} {a b c : Fn} (ha : From k a) (hb : From k b) (hc : From k c) : From k (iteF a b c) := by
  intro g h hgh
  unfold iteF
  rw [ha g h hgh, hb g h hgh, hc g h hgh]
theorem cof_iteF (a b c : Fn) (k : Nat) (x : Bool) : cof (iteF a b c) k x = iteF (cof a k x) (cof b k x) (cof c k x) := rfl

/-- Functions that a table may come upon: those at level k hang on no bit ahead of k, and there are at most M of each level. -/
structure Fam (bits M : Nat) where
  F : Nat → Fn → Prop
  dep : ∀ k f, F k f → From k f
  go : ∀ k f b, k < bits → F k f → F (k + 1) (cof f k b)
  en : Nat → Nat → Fn
  all : ∀ k f, k < bits → F k f → ∃ j, j < M ∧ f = en k j

theorem Fam.skip {bits M : Nat} (A : Fam bits M) {k l : Nat} {f : Fn} (h : A.F k f) (hl : From l f) (hkl : k ≤ l) (hb : l ≤ bits) : A.F l f := by
  induction l with
  | zero => have : k = 0 := by omega
            subst this; exact h
  | succ l ih =>
    rcases Nat.lt_or_ge l k with h1 | h1
    · have : k = l + 1 := by omega
      subst this; exact h
    · have := A.go l f false (by omega) (ih (hl.mono (by omega)) h1 (by omega))
      rw [cof_from hl] at this
      exact this

/-- Each node of L means a function of the family. -/
def Within {bits M : Nat} (A : Fam bits M) (L : List Nd) : Prop := ∀ i x, L[i]? = some x → A.F x.1 (den L (i + 2))

theorem pigeon : ∀ (m n : Nat) (f : Nat → Nat), (∀ i, i < n → f i < m) → (∀ i j, i < n → j < n → f i = f j → i = j) → n ≤ m := by
  intro m
  induction m with
  | zero =>
    intro n f h _
    rcases Nat.eq_zero_or_pos n with h1 | h1
    · omega
    · exact absurd (h 0 h1) (by omega)
  | succ m ih =>
    intro n f h inj
    rcases Nat.eq_zero_or_pos n with h1 | h1
    · omega
    · obtain ⟨n, rfl⟩ : ∃ k, n = k + 1 := ⟨n - 1, by omega⟩
      have : n ≤ m := by
        refine ih n (fun i => if f i = m then f n else f i) ?_ ?_
        · intro i hi
          show (if f i = m then f n else f i) < m
          by_cases e : f i = m
          · rw [if_pos e]
            have h2 := h n (by omega)
            have h3 : f n ≠ m := fun e2 => by
              have := inj i n (by omega) (by omega) (e.trans e2.symm)
              omega
            omega
          · rw [if_neg e]
            have := h i (by omega)
            omega
        · intro i j hi hj hij
          have hij' : (if f i = m then f n else f i) = (if f j = m then f n else f j) := hij
          by_cases e : f i = m
          · by_cases e2 : f j = m
            · exact inj i j (by omega) (by omega) (e.trans e2.symm)
            · rw [if_pos e, if_neg e2] at hij'
              have := inj n j (by omega) (by omega) hij'
              omega
          · by_cases e2 : f j = m
            · rw [if_neg e, if_pos e2] at hij'
              have := inj i n (by omega) (by omega) hij'
              omega
            · rw [if_neg e, if_neg e2] at hij'
              exact inj i j (by omega) (by omega) hij'
      omega

theorem mul_add_inj {M a b i j : Nat} (hi : i < M) (hj : j < M) (h : a * M + i = b * M + j) : a = b ∧ i = j := by
  have e : a = b := by
    rcases Nat.lt_trichotomy a b with h1 | h1 | h1
    · have : (a + 1) * M ≤ b * M := Nat.mul_le_mul_right M h1
      rw [Nat.add_mul] at this
      omega
    · exact h1
    · have : (b + 1) * M ≤ a * M := Nat.mul_le_mul_right M h1
      rw [Nat.add_mul] at this
      omega
  subst e
  exact ⟨rfl, by omega⟩

/-- A table whose nodes are of a family has at most bits * M of them. -/
theorem Within.few {bits M : Nat} {A : Fam bits M} {L : List Nd} (h : Within A L) (hL : Okay bits L) : L.length ≤ bits * M := by
  have ex : ∀ i, i < L.length → ∃ j, j < M ∧ den L (i + 2) = A.en (bitOf L (i + 2)) j := by
    intro i hi
    have hx : L[i]? = some L[i] := List.getElem?_eq_getElem hi
    rw [bitOf_at hx]
    exact A.all _ _ (hL.fit i _ hx).2.2.2.1 (h i _ hx)
  have key : ∃ g : Nat → Nat, ∀ i, i < L.length → g i < M ∧ den L (i + 2) = A.en (bitOf L (i + 2)) (g i) := by
    refine ⟨fun i => if hi : i < L.length then Classical.choose (ex i hi) else 0, ?_⟩
    intro i hi
    show (if hi : i < L.length then Classical.choose (ex i hi) else 0) < M ∧ den L (i + 2) = A.en (bitOf L (i + 2)) (if hi : i < L.length then Classical.choose (ex i hi) else 0)
    rw [dif_pos hi]
    exact Classical.choose_spec (ex i hi)
  obtain ⟨g, hg⟩ := key
  refine pigeon (bits * M) L.length (fun i => bitOf L (i + 2) * M + g i) ?_ ?_
  · intro i hi
    show bitOf L (i + 2) * M + g i < bits * M
    have h1 := bitOf_lt hL (n := i + 2) (by omega) (by omega)
    have h2 := (hg i hi).1
    have : (bitOf L (i + 2) + 1) * M ≤ bits * M := Nat.mul_le_mul_right M h1
    rw [Nat.add_mul] at this
    omega
  · intro i j hi hj hij
    have hij' : bitOf L (i + 2) * M + g i = bitOf L (j + 2) * M + g j := hij
    obtain ⟨e1, e2⟩ := mul_add_inj (hg i hi).1 (hg j hj).1 hij'
    have : den L (i + 2) = den L (j + 2) := by rw [(hg i hi).2, (hg j hj).2, e1, e2]
    have := canon hL (by omega) (by omega) this
    omega

theorem Within.snoc {bits M : Nat} {A : Fam bits M} {L : List Nd} (h : Within A L) {x : Nd} (hF : A.F x.1 (mux x.1 (den L x.2.1) (den L x.2.2))) : Within A (L ++ [x]) := by
  intro i y hy
  rcases Nat.lt_or_ge i L.length with h1 | h1
  · rw [List.getElem?_append_left h1] at hy
    rw [den_snoc_old _ _ (by omega)]
    exact h i y hy
  · have h2 := getElem?_lt hy
    rw [List.length_append] at h2
    have e : i = L.length := by simp at h2; omega
    subst e
    rw [List.getElem?_append_right (Nat.le_refl _)] at hy
    simp at hy
    subst hy
    rw [den_snoc_new]
    exact hF
theorem within_nil {bits M : Nat} (A : Fam bits M) : Within A [] := fun i x h => by simp at h

theorem mux_same (k : Nat) (f : Fn) : mux k f f = f := by
  funext h
  unfold mux
  split <;> rfl
theorem den_mem {bits : Nat} {L : List Nd} (hL : Okay bits L) {x : Nd} {i : Nat} (hx : L[i]? = some x) : den L (i + 2) = mux x.1 (den L x.2.1) (den L x.2.2) := den_at hL hx

/-- What is left of a number where a bit, not behind its own, is 0, and 1. -/
def loOf (L : List Nd) (n k : Nat) : Nat := if bitOf L n = k then (L.getD (n - 2) (0, 0, 0)).2.1 else n
def hiOf (L : List Nd) (n k : Nat) : Nat := if bitOf L n = k then (L.getD (n - 2) (0, 0, 0)).2.2 else n
theorem half_at {L : List Nd} {n k : Nat} (hk : k < 128) (h : bitOf L n = k) : 2 ≤ n := by
  rcases Nat.lt_or_ge n 2 with h2 | h2
  · rw [bitOf_end L h2] at h; omega
  · exact h2
theorem lo_lt {bits : Nat} {L : List Nd} (hL : Okay bits L) {n k : Nat} (hn : n < L.length + 2) (hk : k < 128) : loOf L n k < L.length + 2 ∧ hiOf L n k < L.length + 2 := by
  unfold loOf hiOf
  by_cases e : bitOf L n = k
  · have h2 := half_at hk e
    obtain ⟨i, rfl⟩ : ∃ i, n = i + 2 := ⟨n - 2, by omega⟩
    have hi : i < L.length := by omega
    have hx : L[i]? = some L[i] := List.getElem?_eq_getElem hi
    obtain ⟨a, b, _⟩ := hL.fit i _ hx
    rw [if_pos e, if_pos e, List.getD_eq_getElem?_getD]
    simp only [Nat.add_sub_cancel, hx, Option.getD_some]
    omega
  · rw [if_neg e, if_neg e]; exact ⟨hn, hn⟩
theorem den_half {bits : Nat} {L : List Nd} (hL : Okay bits L) {n k : Nat} (hn : n < L.length + 2) (hk : k < 128) (hb : k ≤ bitOf L n) : den L (loOf L n k) = cof (den L n) k false ∧ den L (hiOf L n k) = cof (den L n) k true := by
  unfold loOf hiOf
  by_cases e : bitOf L n = k
  · have h2 := half_at hk e
    obtain ⟨i, rfl⟩ : ∃ i, n = i + 2 := ⟨n - 2, by omega⟩
    have hi : i < L.length := by omega
    have hx : L[i]? = some L[i] := List.getElem?_eq_getElem hi
    obtain ⟨a, b, c, d, e1, f⟩ := hL.fit i _ hx
    rw [if_pos e, if_pos e, List.getD_eq_getElem?_getD]
    simp only [Nat.add_sub_cancel, hx, Option.getD_some]
    rw [bitOf_at hx] at e
    rw [den_at hL hx]
    have fl := (from_den hL _ (by omega : L[i].2.1 < L.length + 2)).mono e1
    have fh := (from_den hL _ (by omega : L[i].2.2 < L.length + 2)).mono f
    rw [← e, cof_mux fl fh false, cof_mux fl fh true]
    exact ⟨rfl, rfl⟩
  · have : From (k + 1) (den L n) := (from_den hL n hn).mono (by omega)
    rw [if_neg e, if_neg e, cof_from this, cof_from this]
    exact ⟨rfl, rfl⟩
theorem bit_half {bits : Nat} {L : List Nd} (hL : Okay bits L) {n k : Nat} (hn : n < L.length + 2) (hk : k < 128) (hb : k ≤ bitOf L n) : k < bitOf L (loOf L n k) ∧ k < bitOf L (hiOf L n k) := by
  obtain ⟨h1, h2⟩ := lo_lt hL hn hk
  obtain ⟨d1, d2⟩ := den_half hL hn hk hb
  have hf := (from_den hL n hn).mono hb
  exact ⟨bit_ge hL h1 (by rw [d1]; exact from_cof hf _) (by omega), bit_ge hL h2 (by rw [d2]; exact from_cof hf _) (by omega)⟩
end Bd
end Go.Proofs.Ytnkipdlfpnmgeaa
namespace Go.Proofs.Ytnkipdlfpnmgeaa
open Bd (Nd)

/-- What is left of a function behind some bits. -/
inductive Part (f : Bd.Fn) : Bd.Fn → Prop
  | self : Part f f
  | cof {g : Bd.Fn} {k : Nat} {b : Bool} : Part f g → Bd.From k g → k < 128 → Part f (Bd.cof g k b)
theorem Part.trans {f g h : Bd.Fn} (h1 : Part f g) (h2 : Part g h) : Part f h := by
  induction h2 with
  | self => exact h1
  | cof _ hf hk ih => exact .cof ih hf hk

/-- The nodes beneath one. -/
inductive Reach (L : List Nd) (n : Nat) : Nat → Prop
  | self : Reach L n n
  | low {m : Nat} {x : Nd} : Reach L n (m + 2) → L[m]? = some x → Reach L n x.2.1
  | high {m : Nat} {x : Nd} : Reach L n (m + 2) → L[m]? = some x → Reach L n x.2.2
theorem Reach.trans {L : List Nd} {a b c : Nat} (h1 : Reach L a b) (h2 : Reach L b c) : Reach L a c := by
  induction h2 with
  | self => exact h1
  | low _ hx ih => exact .low ih hx
  | high _ hx ih => exact .high ih hx
theorem Reach.grow {L : List Nd} {a b : Nat} (h : Reach L a b) (N : List Nd) : Reach (L ++ N) a b := by
  induction h with
  | self => exact .self
  | low _ hx ih => exact .low ih (by rw [List.getElem?_append_left (Bd.getElem?_lt hx)]; exact hx)
  | high _ hx ih => exact .high ih (by rw [List.getElem?_append_left (Bd.getElem?_lt hx)]; exact hx)
section
variable {bits : Nat} {L : List Nd}
theorem Reach.lt (hL : Bd.Okay bits L) {a b : Nat} (ha : a < L.length + 2) (h : Reach L a b) : b < L.length + 2 ∧ b ≤ a := by
  induction h with
  | self => exact ⟨ha, Nat.le_refl _⟩
  | @low m x _ hx ih => have := hL.fit m x hx; omega
  | @high m x _ hx ih => have := hL.fit m x hx; omega
theorem Reach.part (hL : Bd.Okay bits L) {a b : Nat} (ha : a < L.length + 2) (h : Reach L a b) : Part (Bd.den L a) (Bd.den L b) := by
  induction h with
  | self => exact .self
  | @low m x hm hx ih =>
    have hl := (Reach.lt hL ha hm).1
    have hb : Bd.bitOf L (m + 2) = x.1 := Bd.bitOf_at hx
    have hfit := hL.fit m x hx
    have hf := hL.few
    have hF := Bd.from_den hL (m + 2) hl
    rw [hb] at hF
    have hd := (Bd.den_half hL hl (k := x.1) (by omega) (by omega)).1
    have e : Bd.loOf L (m + 2) x.1 = x.2.1 := by unfold Bd.loOf; rw [if_pos hb, List.getD_eq_getElem?_getD, Nat.add_sub_cancel, hx]; rfl
    rw [e] at hd
    rw [hd]
    exact .cof ih hF (by omega)
  | @high m x hm hx ih =>
    have hl := (Reach.lt hL ha hm).1
    have hb : Bd.bitOf L (m + 2) = x.1 := Bd.bitOf_at hx
    have hfit := hL.fit m x hx
    have hf := hL.few
    have hF := Bd.from_den hL (m + 2) hl
    rw [hb] at hF
    have hd := (Bd.den_half hL hl (k := x.1) (by omega) (by omega)).2
    have e : Bd.hiOf L (m + 2) x.1 = x.2.2 := by unfold Bd.hiOf; rw [if_pos hb, List.getD_eq_getElem?_getD, Nat.add_sub_cancel, hx]; rfl
    rw [e] at hd
    rw [hd]
    exact .cof ih hF (by omega)
/-- A part of a node's function is the function of a node beneath it. -/
theorem Part.node (hL : Bd.Okay bits L) {a : Nat} (ha : a < L.length + 2) {g : Bd.Fn} (h : Part (Bd.den L a) g) : ∃ m, Reach L a m ∧ Bd.den L m = g := by
  induction h with
  | self => exact ⟨a, .self, rfl⟩
  | @cof g k b _ hF hk ih =>
    obtain ⟨m, hm, rfl⟩ := ih
    have hl := (Reach.lt hL ha hm).1
    have hbk := Bd.bit_ge hL hl hF (by omega)
    obtain ⟨d0, d1⟩ := Bd.den_half hL hl hk hbk
    have hR : Reach L a (Bd.loOf L m k) ∧ Reach L a (Bd.hiOf L m k) := by
      by_cases e : Bd.bitOf L m = k
      · have h2 := Bd.half_at hk e
        obtain ⟨i, rfl⟩ : ∃ i, m = i + 2 := ⟨m - 2, by omega⟩
        obtain ⟨x, hx⟩ : ∃ x, L[i]? = some x := ⟨L[i]'(by omega), List.getElem?_eq_getElem (by omega)⟩
        have e0 : Bd.loOf L (i + 2) k = x.2.1 := by unfold Bd.loOf; rw [if_pos e, List.getD_eq_getElem?_getD, Nat.add_sub_cancel, hx]; rfl
        have e1 : Bd.hiOf L (i + 2) k = x.2.2 := by unfold Bd.hiOf; rw [if_pos e, List.getD_eq_getElem?_getD, Nat.add_sub_cancel, hx]; rfl
        rw [e0, e1]
        exact ⟨.low hm hx, .high hm hx⟩
      · have e0 : Bd.loOf L m k = m := by unfold Bd.loOf; rw [if_neg e]
        have e1 : Bd.hiOf L m k = m := by unfold Bd.hiOf; rw [if_neg e]
        rw [e0, e1]
        exact ⟨hm, hm⟩
    cases b
    · exact ⟨_, hR.1, d0⟩
    · exact ⟨_, hR.2, d1⟩

/-- A table that has just the nodes that some functions need. -/
def Cover (L : List Nd) (roots : List Nat) : Prop := ∀ i, i < L.length → ∃ n, n ∈ roots ∧ Reach L n (i + 2)
theorem Cover.nil (roots : List Nat) : Cover [] roots := fun i hi => by simp at hi
/-- Nodes that are parts of a told function more. -/
theorem Cover.more (_hL : Bd.Okay bits L) {roots t : List Nat} {N : List Nd} (hLN : Bd.Okay bits (L ++ N)) (h : Cover L roots) {m : Nat} (hm : m < (L ++ N).length + 2) (hmr : 2 ≤ m → m ∈ roots ++ t) (hN : ∀ i, L.length ≤ i → i < (L ++ N).length → Part (Bd.den (L ++ N) m) (Bd.den (L ++ N) (i + 2))) : Cover (L ++ N) (roots ++ t) := by
  intro i hi
  rcases Nat.lt_or_ge i L.length with h1 | h1
  · obtain ⟨n, hn, hr⟩ := h i h1
    exact ⟨n, List.mem_append_left _ hn, hr.grow N⟩
  · obtain ⟨m', hr, hd⟩ := (hN i h1 hi).node hLN hm
    have hl := Reach.lt hLN hm hr
    have e := Bd.canon hLN hl.1 (m := i + 2) (by omega) hd
    rw [e] at hr hl
    exact ⟨m, hmr (by omega), hr⟩
end
end Go.Proofs.Ytnkipdlfpnmgeaa
namespace Go.Proofs.Ytnkipdlfpnmgeaa
open Go.RowKit Go.Maps

/-- Block b is a map of sz entries: at a key that may be one, f says what it holds. -/
def MapOf (P : Program) (k e : TypeId) (w : World) (b sz : Nat) (f : Value → Option Int) : Prop :=
  ∃ D : DataW Unit, w.ownsMap P k (plainElem P e) b sz D ∧ Maps.size D = sz ∧
    ∀ key kl, keyOf P k key = some kl → Maps.has D kl = (f key).isSome ∧ ∀ c, f key = some c → D.atKey kl (.lit (.int .i64 0)) = .lit (.int .i64 c)

theorem owns_tight {P : Program} {k e : TypeId} {w : World} {b n : Nat} {D : DataW Unit} (h : w.ownsMap P k (plainElem P e) b n D) : w.ownsMap P k (plainElem P e) b (Maps.size D) D := by
  obtain ⟨es, clock, hb, F, _, rfl⟩ := h
  exact ⟨es, clock, hb, F, by simp [Maps.size, length_sorted], rfl⟩

theorem MapOf.lt {P : Program} {k e : TypeId} {w : World} {b sz : Nat} {f : Value → Option Int} (h : MapOf P k e w b sz f) : b < w.heap.size := by
  obtain ⟨D, h, _⟩ := h
  exact h.lt

theorem MapOf.congr {P : Program} {k e : TypeId} {w : World} {b sz : Nat} {f g : Value → Option Int} (h : MapOf P k e w b sz f) (hfg : ∀ key kl, keyOf P k key = some kl → f key = g key) : MapOf P k e w b sz g := by
  obtain ⟨D, h1, h2, h3⟩ := h
  refine ⟨D, h1, h2, fun key kl hk => ?_⟩
  rw [← hfg key kl hk]
  exact h3 key kl hk

/-- A block that is as it was. -/
theorem MapOf.same {P : Program} {k e : TypeId} {w w' : World} {b sz : Nat} {f : Value → Option Int} (h : MapOf P k e w b sz f) (hb : w'.heap[b]? = w.heap[b]?) : MapOf P k e w' b sz f := by
  obtain ⟨D, ⟨es, clock, h1, F, hs, hD⟩, h2, h3⟩ := h
  exact ⟨D, ⟨es, clock, hb.trans h1, F, hs, hD⟩, h2, h3⟩

theorem MapOf.new (P : Program) (k e : TypeId) (w : World) : MapOf P k e (w.alloc (.map #[] 0)) w.heap.size 0 (fun _ => none) :=
  ⟨.map [], World.ownsMap_made w P k _, rfl, fun key kl _ => ⟨by simp [Maps.has], fun c h => by cases h⟩⟩

theorem MapOf.look {P : Program} {k e t : TypeId} {w : World} {b sz : Nat} {f : Value → Option Int} (h : MapOf P k e w b sz f) (K : Keyed P k) (ht : P.underlying t = some (.map k e)) (he : P.underlying e = some (.int .i64))
    (hz : (zeroValue e).run P w = .ok (.int .i64 0) w) {key : Value} {kl : Lit} (hk : keyOf P k key = some kl) :
    (Instr.lookup t (.map (some b)) key true).run P w = .ok (.tuple #[.int .i64 ((f key).getD 0), .bool (f key).isSome]) w := by
  obtain ⟨D, h1, h2, h3⟩ := h
  obtain ⟨v, ps, hrun, hv⟩ := h1.look_ok K ht hz (zd := .lit (.int .i64 0)) (zp := []) (plainElem_int he (by decide)) hk
  obtain ⟨c, rfl, hc, hwc⟩ := plainElem_int_inv he hv
  obtain ⟨h4, h5⟩ := h3 key kl hk
  rw [hrun, h4]
  cases hf : f key with
  | none =>
    have : D.atKey kl (.lit (.int .i64 0)) = .lit (.int .i64 0) := Maps.atKey_of_not_has (by rw [h4, hf]; rfl) _
    have hc' := congrArg Prod.fst hc
    simp only [this] at hc'
    cases hc'
    rfl
  | some c' =>
    have := h5 c' hf
    have hc' := congrArg Prod.fst hc
    simp only [this] at hc'
    cases hc'
    rfl

theorem MapOf.look1 {P : Program} {k e t : TypeId} {w : World} {b sz : Nat} {f : Value → Option Int} (h : MapOf P k e w b sz f) (K : Keyed P k) (ht : P.underlying t = some (.map k e)) (he : P.underlying e = some (.int .i64))
    (hz : (zeroValue e).run P w = .ok (.int .i64 0) w) {key : Value} {kl : Lit} (hk : keyOf P k key = some kl) :
    (Instr.lookup t (.map (some b)) key false).run P w = .ok (.int .i64 ((f key).getD 0)) w := by
  obtain ⟨D, h1, h2, h3⟩ := h
  obtain ⟨c, hrun, hc, hwc⟩ := h1.lookup_int K ht he hz hk
  obtain ⟨h4, h5⟩ := h3 key kl hk
  rw [hrun]
  cases hf : f key with
  | none =>
    have : D.atKey kl (.lit (.int .i64 0)) = .lit (.int .i64 0) := Maps.atKey_of_not_has (by rw [h4, hf]; rfl) _
    rw [this] at hc
    cases hc
    rfl
  | some c' =>
    rw [h5 c' hf] at hc
    cases hc
    rfl

theorem MapOf.len {P : Program} {k e t : TypeId} {w : World} {b sz : Nat} {f : Value → Option Int} (h : MapOf P k e w b sz f) (ht : P.underlying t = some (.map k e)) (ty : TypeId) :
    (Builtin.len_ #[t] ty #[.map (some b)]).run P w = .ok (.int .i64 sz) w := by
  obtain ⟨D, h1, h2, h3⟩ := h
  rw [h1.len ht ty, h2]

/-- f' is f but for one key. -/
def Upd (f : Value → Option Int) (key : Value) (c : Option Int) (f' : Value → Option Int) : Prop := f' key = c ∧ ∀ x, x ≠ key → f' x = f x
theorem upd_exists (f : Value → Option Int) (key : Value) (c : Option Int) : ∃ f', Upd f key c f' := by
  classical
  exact ⟨fun x => if x = key then c else f x, if_pos rfl, fun x hx => if_neg hx⟩

/-- Behind a store. -/
theorem mapOf_put {P : Program} {k e : TypeId} {w w' : World} {b sz : Nat} {f : Value → Option Int} (K : Keyed P k) {D : DataW Unit} (h1 : w.ownsMap P k (plainElem P e) b sz D) (h2 : Maps.size D = sz)
    (h3 : ∀ key kl, keyOf P k key = some kl → Maps.has D kl = (f key).isSome ∧ ∀ c, f key = some c → D.atKey kl (.lit (.int .i64 0)) = .lit (.int .i64 c)) {key : Value} {kl : Lit} (hk : keyOf P k key = some kl) {c : Int}
    (h4 : w'.ownsMap P k (plainElem P e) b (sz + 1) (D.put kl (.lit (.int .i64 c)))) : ∀ f', Upd f key (some c) f' → MapOf P k e w' b (if (f key).isSome then sz else sz + 1) f' := by
  intro f' hf'
  have hs : Maps.size (D.put kl (.lit (.int .i64 c))) = if (f key).isSome then sz else sz + 1 := by
    rw [Maps.size_put (h1.tidy K), (h3 key kl hk).1, h2]
  refine ⟨D.put kl (.lit (.int .i64 c)), ?_, hs, ?_⟩
  · have := owns_tight h4
    rw [hs] at this
    exact this
  · intro key' kl' hk'
    by_cases e1 : key' = key
    · subst e1
      have : kl' = kl := by rw [hk] at hk'; cases hk'; rfl
      subst this
      rw [hf'.1]
      refine ⟨by rw [Maps.has_put_same h1.isMap (K.key hk)]; rfl, ?_⟩
      intro c' hc'
      cases hc'
      exact Maps.atKey_put_same h1.isMap (K.key hk) _ _
    · have hne : kl' ≠ kl := fun e2 => e1 (K.inj hk' (by rw [e2]; exact hk))
      rw [hf'.2 _ e1, Maps.has_put_other hne, Maps.atKey_put_other hne]
      exact h3 key' kl' hk'

theorem wpList_store_of {P : Program} (w : World) {ops : Array Oper} {rest : List Oper} {o : Oper} {a : Act} {Q : Exit → Act → World → Prop}
    (hg : o.guard = none) (m x v : Operand) (t : TypeId) (hop : o.op = Op.mapUpdate t m x v)
    (k e : TypeId) (K : Keyed P k) (ht : P.underlying t = some (.map k e)) (he : P.underlying e = some (.int .i64)) (b sz : Nat) (f : Value → Option Int)
    (hm : a.eval m = .map (some b)) (hown : MapOf P k e w b sz f) (hn : sz < maxLen) (key : Value) (c : Int) (kl : Lit) (hx : a.eval x = key) (hv : a.eval v = .int .i64 c) (hkey : keyOf P k key = some kl) (hc : (Lit.int .i64 c).wf = true)
    (hK : ∀ w', (∀ f', Upd f key (some c) f' → MapOf P k e w' b (if (f key).isSome then sz else sz + 1) f') → w.grownBy w' (some b) → wpList P ops Q rest (a.put o.dst undef) w') :
    wpList P ops Q (o :: rest) a w := by
  obtain ⟨D, h1, h2, h3⟩ := hown
  refine wpList_mapUpdate_own w hg m x v t hop k e K ht (plainElem P e) b sz D hm h1 hn key (.int .i64 c) kl hx hv hkey (.lit (.int .i64 c)) [] (plainElem_int he hc) ?_
  intro w' h4 h5
  exact hK w' (mapOf_put K h1 h2 h3 hkey h4) h5

theorem wpList_delete_of {P : Program} (w : World) {ops : Array Oper} {rest : List Oper} {o : Oper} {a : Act} {Q : Exit → Act → World → Prop}
    (hg : o.guard = none) (m x : Operand) (t k : TypeId) (hop : o.op = Op.call { callee := Callee.builtin Builtin.delete, args := #[m, x], argTypes := #[t, k] })
    (e : TypeId) (K : Keyed P k) (ht : P.underlying t = some (.map k e)) (b sz : Nat) (f : Value → Option Int)
    (hm : a.eval m = .map (some b)) (hown : MapOf P k e w b sz f) (key : Value) (kl : Lit) (hx : a.eval x = key) (hkey : keyOf P k key = some kl)
    (hK : ∀ w', (∀ f', Upd f key none f' → MapOf P k e w' b (if (f key).isSome then sz - 1 else sz) f') → w.grownBy w' (some b) → wpList P ops Q rest (a.put o.dst (.tuple #[])) w') :
    wpList P ops Q (o :: rest) a w := by
  obtain ⟨D, h1, h2, h3⟩ := hown
  refine wpList_delete_own w hg m x t k hop e K ht (plainElem P e) b sz D hm h1 key kl hx hkey ?_
  intro w' h4 h5
  refine hK w' (fun f' hf' => ?_) h5.grown
  have hs : Maps.size (D.del kl) = if (f key).isSome then sz - 1 else sz := by
    have := Maps.size_del (k := kl) (h1.tidy K)
    rw [(h3 key kl hkey).1, h2] at this
    split at this
    · rename_i hh; rw [if_pos hh]; omega
    · rename_i hh; rw [if_neg hh]; omega
  refine ⟨D.del kl, ?_, hs, ?_⟩
  · have := owns_tight h4
    rw [hs] at this
    exact this
  · intro key' kl' hk'
    by_cases e1 : key' = key
    · subst e1
      have : kl' = kl := by rw [hkey] at hk'; cases hk'; rfl
      subst this
      rw [hf'.1]
      exact ⟨by rw [Maps.has_del_same]; rfl, fun c' hc' => by cases hc'⟩
    · have hne : kl' ≠ kl := fun e2 => e1 (K.inj hk' (by rw [e2]; exact hkey))
      rw [hf'.2 _ e1, Maps.has_del_other hne, Maps.atKey_del_other hne]
      exact h3 key' kl' hk'
end Go.Proofs.Ytnkipdlfpnmgeaa
namespace Go.Proofs.Ytnkipdlfpnmgeaa
open Go.RowKit Go.Maps

abbrev i6 (n : Nat) : Value := .int .i64 (n : Int)
theorem Try.laidOut : laidOutB Try.prog = true := by kernel_rfl
theorem kNode : Keyed Try.prog 62 := Keyed.of_law (deep_law_gate Try.laidOut (of_decide_eq_true (by kernel_rfl)) (of_decide_eq_true (by kernel_rfl)) (by kernel_rfl) (by kernel_rfl))
theorem kArr : Keyed Try.prog 99 := Keyed.of_law (deep_law_gate Try.laidOut (of_decide_eq_true (by kernel_rfl)) (of_decide_eq_true (by kernel_rfl)) (by kernel_rfl) (by kernel_rfl))
theorem kInt : Keyed Try.prog 3 := int_keyed Try.underlying3

theorem wf64 {n : Nat} (h : n < 9223372036854775808) : (Lit.int .i64 (n : Int)).wf = true := WalkArith.wf_i64 (by omega)

theorem lits_int (d : Nat) {n : Nat} (h : n < 9223372036854775808) : Try.prog.keyLits (d + 1) 3 [i6 n] = some [.int .i64 (n : Int)] := by
  unfold Program.keyLits
  simp [Try.underlying3, wf64 h]
theorem Try.types_pos : ∃ d, Try.prog.types.size = d + 1 := ⟨Try.prog.types.size - 1, by have : 0 < Try.prog.types.size := of_decide_eq_true (by kernel_rfl); omega⟩
theorem Try.cells_int : Try.prog.cellsOf 3 = 1 := by kernel_rfl
theorem Try.cells_node : Try.prog.cellsOf 62 = 3 := by kernel_rfl
theorem Try.cells_arr : Try.prog.cellsOf 99 = 3 := by kernel_rfl
theorem cells_agg3 (a b c : Value) : (Value.agg #[a, b, c]).cells.toList = [a, b, c] := rfl
theorem key_node {a b c : Nat} (ha : a < 9223372036854775808) (hb : b < 9223372036854775808) (hc : c < 9223372036854775808) : ∃ kl, keyOf Try.prog 62 (.agg #[i6 a, i6 b, i6 c]) = some kl := by
  have hf : (Value.agg #[i6 a, i6 b, i6 c]).formed Try.prog 62 = true := by kernel_rfl
  have hk : Try.prog.keyType 62 = true := by kernel_rfl
  obtain ⟨d, hd⟩ := Try.types_pos
  unfold keyOf
  simp only [Try.underlying62, hf, hk, Bool.and_self, if_true]
  unfold Program.keyLits
  have h1 := lits_int d ha
  have h2 := lits_int d hb
  have h3 := lits_int d hc
  simp [Try.underlying62, cells_agg3, Try.cells_node, Try.cells_int, hd, h1, h2, h3]
theorem key_arr {a b c : Nat} (ha : a < 9223372036854775808) (hb : b < 9223372036854775808) (hc : c < 9223372036854775808) : ∃ kl, keyOf Try.prog 99 (.agg #[i6 a, i6 b, i6 c]) = some kl := by
  have hf : (Value.agg #[i6 a, i6 b, i6 c]).formed Try.prog 99 = true := by kernel_rfl
  have hk : Try.prog.keyType 99 = true := by kernel_rfl
  obtain ⟨d, hd⟩ := Try.types_pos
  unfold keyOf
  simp only [Try.underlying99, hf, hk, Bool.and_self, if_true]
  unfold Program.keyLits
  have h1 := lits_int d ha
  have h2 := lits_int d hb
  have h3 := lits_int d hc
  simp [Try.underlying99, cells_agg3, Try.cells_arr, Try.cells_int, hd, h1, h2, h3, List.range_succ]
theorem key_int {a : Nat} (ha : a < 9223372036854775808) : ∃ kl, keyOf Try.prog 3 (i6 a) = some kl := ⟨_, keyOf_int_mk Try.underlying3 (wf64 ha)⟩
theorem zero_int (w : World) : (zeroValue 3).run Try.prog w = .ok (.int .i64 0) w := by kernel_rfl
theorem zero_ref (w : World) : (zeroValue 25).run Try.prog w = .ok (.int .i64 0) w := by kernel_rfl
end Go.Proofs.Ytnkipdlfpnmgeaa
namespace Go.Proofs.Ytnkipdlfpnmgeaa
open Go.RowKit Go.Maps
open Bd (Nd)

theorem keep {p : Prop} (h : p) : Hid p := h
theorem two_bool (b : Bool) : b = false ∨ b = true := by cases b <;> simp
theorem block_lt {w : World} {b : Nat} {o : Obj} (h : w.heap[b]? = some o) : b < w.heap.size := (Array.getElem?_eq_some_iff.1 h).1
theorem not_frozen {w : World} {b o : Nat} {cs : Array Value} {t : TypeId} (h : w.heap[b]? = some (.cells cs t (0, 0))) : w.frozen? ⟨b, o, none⟩ = false := by
  simp [World.frozen?, h]
theorem set_block {w : World} {b o : Nat} {cs : Array Value} {t : TypeId} (u : Value) (h : w.heap[b]? = some (.cells cs t (0, 0))) :
    (w.setCell ⟨b, o, none⟩ u).heap[b]? = some (.cells (cs.setIfInBounds o u) t (0, 0)) := by
  have hlt := lt_of_block h
  have h' : w.heap[b] = .cells cs t (0, 0) := by simpa [Array.getElem?_eq_getElem hlt] using h
  show (w.heap.modify b _)[b]? = _
  rw [Array.getElem?_eq_getElem (by simpa using hlt), Array.getElem_modify_self, h']
  rfl
theorem cell_at {w : World} {b o : Nat} {cs : Array Value} {t : TypeId} {r : Nat × Nat} (h : w.heap[b]? = some (.cells cs t r)) : w.cell? ⟨b, o, none⟩ = cs[o]? := by
  simp [World.cell?, h]

/-- The cells of nodes one behind the other. -/
def flat (L : List Nd) : List Value := L.flatMap fun x => [i6 x.1, i6 x.2.1, i6 x.2.2]
def nums (l : List Nat) : List Value := l.map i6
def ndV (x : Nd) : Value := .agg #[i6 x.1, i6 x.2.1, i6 x.2.2]
theorem flat_snoc (L : List Nd) (x : Nd) : flat (L ++ [x]) = flat L ++ [i6 x.1, i6 x.2.1, i6 x.2.2] := by simp [flat]
theorem flat_length (L : List Nd) : (flat L).length = L.length * 3 := by
  induction L with
  | nil => rfl
  | cons x l ih => simp [flat] at ih ⊢; omega
theorem nums_length (l : List Nat) : (nums l).length = l.length := by simp [nums]
theorem flat_at {L : List Nd} {i : Nat} {x : Nd} (h : L[i]? = some x) : (flat L)[i * 3]? = some (i6 x.1) ∧ (flat L)[i * 3 + 1]? = some (i6 x.2.1) ∧ (flat L)[i * 3 + 2]? = some (i6 x.2.2) := by
  induction L generalizing i with
  | nil => simp at h
  | cons y l ih =>
    cases i with
    | zero =>
      simp at h
      subst h
      simp [flat]
    | succ i =>
      have := ih (i := i) (by simpa using h)
      have e : ∀ j, (flat (y :: l))[(i + 1) * 3 + j]? = (flat l)[i * 3 + j]? := by
        intro j
        have : (i + 1) * 3 + j = (i * 3 + j) + 3 := by omega
        rw [this]
        simp [flat]
      exact ⟨by rw [← Nat.add_zero ((i + 1) * 3), e]; exact this.1, by rw [e]; exact this.2.1, by rw [e]; exact this.2.2⟩
theorem i6_inj {a b : Nat} (h : i6 a = i6 b) : a = b := by
  have : (a : Int) = (b : Int) := by cases h; rfl
  omega
theorem ndV_inj {x y : Nd} (h : ndV x = ndV y) : x = y := by
  obtain ⟨a, b, c⟩ := x
  obtain ⟨a', b', c'⟩ := y
  simp [ndV] at h
  obtain ⟨h1, h2, h3⟩ := h
  simp
  omega

/-- What the map of nodes says. -/
def AtMap (L : List Nd) (f : Value → Option Int) : Prop := ∀ x : Nd, (∀ i, L[i]? = some x → f (ndV x) = some ((i + 2 : Nat) : Int)) ∧ (x ∉ L → f (ndV x) = none)
def RefMap (first : Nat) (roots : List Nat) (f : Value → Option Int) : Prop := ∀ n : Nat, (∀ i, roots[i]? = some n → f (i6 n) = some ((first + i : Nat) : Int)) ∧ (n ∉ roots → f (i6 n) = none)

theorem AtMap.snoc {L : List Nd} {f f' : Value → Option Int} (h : AtMap L f) {x : Nd} (hx : x ∉ L) (hu : Upd f (ndV x) (some ((L.length + 2 : Nat) : Int)) f') : AtMap (L ++ [x]) f' := by
  intro y
  by_cases e : y = x
  · subst e
    refine ⟨?_, fun hn => absurd (by simp) hn⟩
    intro i hi
    rcases Nat.lt_or_ge i L.length with h1 | h1
    · rw [List.getElem?_append_left h1] at hi
      exact absurd (List.mem_of_getElem? hi) hx
    · have h2 := Bd.getElem?_lt hi
      simp at h2
      have : i = L.length := by omega
      subst this
      exact hu.1
  · have hne : ndV y ≠ ndV x := fun h => e (ndV_inj h)
    rw [hu.2 _ hne]
    refine ⟨?_, fun hn => (h y).2 (fun hm => hn (by simp [hm]))⟩
    intro i hi
    rcases Nat.lt_or_ge i L.length with h1 | h1
    · rw [List.getElem?_append_left h1] at hi
      exact (h y).1 i hi
    · rw [List.getElem?_append_right h1] at hi
      have h2 := Bd.getElem?_lt hi
      have : i - L.length = 0 := by simp at h2; omega
      rw [this] at hi
      simp at hi
      exact absurd hi.symm e
theorem RefMap.snoc {first : Nat} {roots : List Nat} {f f' : Value → Option Int} (h : RefMap first roots f) {x : Nat} (hx : x ∉ roots) (hu : Upd f (i6 x) (some ((first + roots.length : Nat) : Int)) f') : RefMap first (roots ++ [x]) f' := by
  intro y
  by_cases e : y = x
  · subst e
    refine ⟨?_, fun hn => absurd (by simp) hn⟩
    intro i hi
    rcases Nat.lt_or_ge i roots.length with h1 | h1
    · rw [List.getElem?_append_left h1] at hi
      exact absurd (List.mem_of_getElem? hi) hx
    · have h2 := Bd.getElem?_lt hi
      simp at h2
      have : i = roots.length := by omega
      subst this
      exact hu.1
  · have hne : i6 y ≠ i6 x := fun h => e (i6_inj h)
    rw [hu.2 _ hne]
    refine ⟨?_, fun hn => (h y).2 (fun hm => hn (by simp [hm]))⟩
    intro i hi
    rcases Nat.lt_or_ge i roots.length with h1 | h1
    · rw [List.getElem?_append_left h1] at hi
      exact (h y).1 i hi
    · rw [List.getElem?_append_right h1] at hi
      have h2 := Bd.getElem?_lt hi
      have : i - roots.length = 0 := by simp at h2; omega
      rw [this] at hi
      simp at hi
      exact absurd hi.symm e

/-- Where a table's parts lie: the struct's block, those of the two maps, the two slices. -/
structure Lay where
  tb : Nat
  mb : Nat
  rm : Nat
  ls : Value
  rs : Value
/-- What a table holds. -/
structure St where
  L : List Nd
  roots : List Nat
  first : Nat
  bits : Nat
  limit : Nat

def Lay.own (y : Lay) (k : Nat) : Prop := k = y.tb ∨ k = y.mb ∨ k = y.rm ∨ y.ls.ownBlock = some k ∨ y.rs.ownBlock = some k

structure Tab (w : World) (y : Lay) (s : St) : Prop where
  cells : w.heap[y.tb]? = some (.cells #[i6 s.first, y.rs, .map (some y.rm), y.ls, .map (some y.mb), i6 s.bits, i6 s.limit, .pointer (some ⟨y.tb, 0, none⟩)] 78 (0, 0))
  list : w.ownsRow 0 62 3 y.ls s.L.length (flat s.L)
  roots : w.ownsRow 0 3 1 y.rs s.roots.length (nums s.roots)
  nodes : ∃ f, MapOf Try.prog 62 3 w y.mb s.L.length f ∧ AtMap s.L f
  refs : ∃ f, MapOf Try.prog 3 25 w y.rm s.roots.length f ∧ RefMap s.first s.roots f
  two : y.mb ≠ y.rm
  okay : Bd.Okay s.bits s.L
  small : s.L.length ≤ 1073741824 ∧ s.roots.length ≤ 1073741824 ∧ s.first ≤ 1099511627776 ∧ s.limit ≤ 1048576 ∧ 1 ≤ s.bits
  valid : s.roots.Nodup ∧ ∀ n, n ∈ s.roots → 2 ≤ n ∧ n < s.L.length + 2

theorem Lay.own_tb (y : Lay) : y.own y.tb := Or.inl rfl
theorem Lay.own_mb (y : Lay) : y.own y.mb := Or.inr (Or.inl rfl)
theorem Lay.own_rm (y : Lay) : y.own y.rm := Or.inr (Or.inr (Or.inl rfl))
theorem Lay.own_ls (y : Lay) {k : Nat} (h : y.ls.ownBlock = some k) : y.own k := Or.inr (Or.inr (Or.inr (Or.inl h)))
theorem Lay.own_rs (y : Lay) {k : Nat} (h : y.rs.ownBlock = some k) : y.own k := Or.inr (Or.inr (Or.inr (Or.inr h)))

theorem owned_cells {w : World} {base : Nat} {e : TypeId} {size : Nat} {v : Value} {n : Nat} {xs : List Value} (h : w.ownsRow base e size v n xs) {g : Nat} (hg : v.ownBlock = some g) : ∃ cur, w.heap[g]? = some (.cells cur e (0, 0)) := by
  rcases h.2 with ⟨rfl, _⟩ | ⟨g', cap, cur, rfl, _, hgg, _⟩
  · simp [Value.ownBlock] at hg
  · simp [Value.ownBlock] at hg
    subst hg
    exact ⟨cur, hgg⟩
theorem map_block {P : Program} {k e : TypeId} {w : World} {b sz : Nat} {f : Value → Option Int} (h : MapOf P k e w b sz f) : ∃ es c, w.heap[b]? = some (.map es c) := by
  obtain ⟨D, ⟨es, c, h, _⟩, _⟩ := h
  exact ⟨es, c, h⟩

theorem Tab.lt {w : World} {y : Lay} {s : St} (h : Tab w y s) {k : Nat} (hk : y.own k) : k < w.heap.size := by
  rcases hk with rfl | rfl | rfl | hk | hk
  · exact block_lt h.cells
  · obtain ⟨f, hf, _⟩ := h.nodes; exact hf.lt
  · obtain ⟨f, hf, _⟩ := h.refs; exact hf.lt
  · exact (h.list.lt k hk).2
  · exact (h.roots.lt k hk).2
/-- The parts are apart. -/
theorem Tab.apart {w : World} {y : Lay} {s : St} (h : Tab w y s) : y.mb ≠ y.tb ∧ y.rm ≠ y.tb ∧ y.ls.ownBlock ≠ some y.tb ∧ y.rs.ownBlock ≠ some y.tb ∧ y.ls.ownBlock ≠ some y.mb ∧ y.rs.ownBlock ≠ some y.mb ∧
    y.ls.ownBlock ≠ some y.rm ∧ y.rs.ownBlock ≠ some y.rm ∧ (∀ g, y.ls.ownBlock = some g → y.rs.ownBlock ≠ some g) := by
  obtain ⟨f, hf, _⟩ := h.nodes
  obtain ⟨es, c, hm⟩ := map_block hf
  obtain ⟨f', hf', _⟩ := h.refs
  obtain ⟨es', c', hr⟩ := map_block hf'
  refine ⟨?_, ?_, ?_, ?_, ?_, ?_, ?_, ?_, ?_⟩
  · intro e; rw [e, h.cells] at hm; cases hm
  · intro e; rw [e, h.cells] at hr; cases hr
  · intro e; obtain ⟨cur, hc⟩ := owned_cells h.list e; rw [h.cells] at hc; simp at hc
  · intro e; obtain ⟨cur, hc⟩ := owned_cells h.roots e; rw [h.cells] at hc; simp at hc
  · intro e; obtain ⟨cur, hc⟩ := owned_cells h.list e; rw [hm] at hc; cases hc
  · intro e; obtain ⟨cur, hc⟩ := owned_cells h.roots e; rw [hm] at hc; cases hc
  · intro e; obtain ⟨cur, hc⟩ := owned_cells h.list e; rw [hr] at hc; cases hc
  · intro e; obtain ⟨cur, hc⟩ := owned_cells h.roots e; rw [hr] at hc; cases hc
  · intro g e e'
    obtain ⟨cur, hc⟩ := owned_cells h.list e
    obtain ⟨cur', hc'⟩ := owned_cells h.roots e'
    rw [hc] at hc'
    simp at hc'

theorem row_same {w w' : World} {base : Nat} {e : TypeId} {size : Nat} {v : Value} {n : Nat} {xs : List Value} (h : w.ownsRow base e size v n xs) (hb : ∀ g, v.ownBlock = some g → w'.heap[g]? = w.heap[g]?) : w'.ownsRow base e size v n xs := by
  refine ⟨h.1, ?_⟩
  rcases h.2 with hn | ⟨g, cap, cur, rfl, h1, h2, rest⟩
  · exact Or.inl hn
  · exact Or.inr ⟨g, cap, cur, rfl, h1, (hb g rfl).trans h2, rest⟩

/-- A table whose blocks are as they were. -/
theorem Tab.same {w w' : World} {y : Lay} {s : St} (h : Tab w y s) (hb : ∀ k, y.own k → w'.heap[k]? = w.heap[k]?) : Tab w' y s := by
  obtain ⟨f, hf, ha⟩ := h.nodes
  obtain ⟨f', hf', ha'⟩ := h.refs
  exact { cells := (hb _ y.own_tb).trans h.cells, list := row_same h.list fun g hg => hb g (y.own_ls hg), roots := row_same h.roots fun g hg => hb g (y.own_rs hg),
          nodes := ⟨f, hf.same (hb _ y.own_mb), ha⟩, refs := ⟨f', hf'.same (hb _ y.own_rm), ha'⟩, two := h.two, okay := h.okay, small := h.small, valid := h.valid }
theorem Tab.below {w w' : World} {y : Lay} {s : St} (h : Tab w y s) (hb : Below w.heap.size w w') : Tab w' y s := h.same fun k hk => hb.block k (h.lt hk)

/-- What a call may do to a table's blocks, and to those of X; and what it leaves alone. -/
structure Moves (X : Nat → Prop) (w : World) (y : Lay) (w' : World) (y' : Lay) : Prop where
  tb : y'.tb = y.tb
  own : ∀ k, y'.own k → y.own k ∨ w.heap.size ≤ k
  os : w'.os = w.os
  tape : w'.tape = w.tape
  output : w'.output = w.output
  size : w.heap.size ≤ w'.heap.size
  block : ∀ k, k < w.heap.size → ¬ y.own k → ¬ X k → w'.heap[k]? = w.heap[k]?

def noX : Nat → Prop := fun _ => False
theorem Moves.refl (X : Nat → Prop) (w : World) (y : Lay) : Moves X w y w y := ⟨rfl, fun _ h => Or.inl h, rfl, rfl, rfl, Nat.le_refl _, fun _ _ _ _ => rfl⟩
theorem Moves.trans {X : Nat → Prop} {w w1 w2 : World} {y y1 y2 : Lay} (h : Moves X w y w1 y1) (h' : Moves X w1 y1 w2 y2) : Moves X w y w2 y2 := by
  refine ⟨h'.tb.trans h.tb, ?_, h'.os.trans h.os, h'.tape.trans h.tape, h'.output.trans h.output, Nat.le_trans h.size h'.size, ?_⟩
  · intro k hk
    rcases h'.own k hk with h1 | h1
    · exact h.own k h1
    · exact Or.inr (Nat.le_trans h.size h1)
  · intro k hk hn hx
    have h1 := h.block k hk hn hx
    refine (h'.block k (Nat.lt_of_lt_of_le hk h.size) ?_ hx).trans h1
    intro ho
    rcases h.own k ho with h2 | h2
    · exact hn h2
    · omega
theorem Moves.more {X X' : Nat → Prop} {w w' : World} {y y' : Lay} (h : Moves X w y w' y') (hx : ∀ k, X k → X' k) : Moves X' w y w' y' :=
  { h with block := fun k hk hn hn' => h.block k hk hn fun hx' => hn' (hx k hx') }
theorem moves_below {X : Nat → Prop} {w w' : World} (y : Lay) (h : Below w.heap.size w w') : Moves X w y w' y :=
  ⟨rfl, fun _ hk => Or.inl hk, h.os, h.tape, h.output, h.size, fun k hk _ _ => h.block k hk⟩
end Go.Proofs.Ytnkipdlfpnmgeaa
namespace Go.Proofs.Ytnkipdlfpnmgeaa
open Go.RowKit Go.Maps
open Bd (Nd)

theorem Tab.cell3 {w : World} {y : Lay} {s : St} (h : Tab w y s) : w.cell? ⟨y.tb, 3, none⟩ = some y.ls := by rw [cell_at h.cells]; rfl
theorem Tab.cell4 {w : World} {y : Lay} {s : St} (h : Tab w y s) : w.cell? ⟨y.tb, 4, none⟩ = some (.map (some y.mb)) := by rw [cell_at h.cells]; rfl
/-- A node's three cells. -/
theorem Tab.node {w : World} {y : Lay} {s : St} (h : Tab w y s) {i : Nat} {x : Nd} (hx : s.L[i]? = some x) :
    ∃ g cap, y.ls = .slice (some ⟨g, 0, none⟩) s.L.length cap ∧ w.cell? ⟨g, i * 3, none⟩ = some (i6 x.1) ∧ w.cell? ⟨g, i * 3 + 1, none⟩ = some (i6 x.2.1) ∧ w.cell? ⟨g, i * 3 + 2, none⟩ = some (i6 x.2.2) := by
  have hi := Bd.getElem?_lt hx
  obtain ⟨g, cap, hv, _⟩ := h.list.form (by omega)
  have hc := h.list.cells (g := g) (by rw [hv]; rfl)
  have hadd : ∀ j, (⟨g, 0, none⟩ : Addr).add j = ⟨g, j, none⟩ := by intro j; unfold Addr.add; split <;> simp_all
  obtain ⟨a, b, c⟩ := flat_at hx
  have h1 := hc _ _ a
  have h2 := hc _ _ b
  have h3 := hc _ _ c
  rw [hadd] at h1 h2 h3
  exact ⟨g, cap, hv, h1, h2, h3⟩

set_option maxHeartbeats 1000000 in
theorem bit_any {w : World} {y : Lay} {s : St} (hT : Tab w y s) (n : Nat) (hn : n < s.L.length + 2) :
    Calls Try.prog 88 #[.pointer (some ⟨y.tb, 3, none⟩), i6 n] w fun e w' => e = .returned (i6 (Bd.bitOf s.L n)) ∧ w' = w := by
  have hsm := hT.small.1
  rcases Nat.lt_or_ge n 2 with h2 | h2
  · have h2I : (n : Int) < 2 := by omega
    rw [Bd.bitOf_end _ h2]
    go_enter Try.func88, Try.ntmps88
    go_wp2
    go_ret
    exact ⟨rfl, rfl⟩
  · obtain ⟨i, rfl⟩ : ∃ i, n = i + 2 := ⟨n - 2, by omega⟩
    have hx : s.L[i]? = some s.L[i] := List.getElem?_eq_getElem (by omega)
    rw [Bd.bitOf_at hx]
    have c3 := hT.cell3
    obtain ⟨g, cap, hv, h0, _, _⟩ := hT.node hx
    rw [hv] at c3
    generalize s.L[i] = x at *
    generalize s.L.length = len at *
    have e1 : ((i + 2 : Nat) : Int) = (i : Int) + 2 := by omega
    simp only [i6, e1]
    have hl : ¬ ((i : Int) + 2 < 2) := by omega
    have hI : (i : Int) < (len : Int) := by omega
    go_enter Try.func88, Try.ntmps88
    go_wp2
    go_ret
    exact ⟨rfl, rfl⟩

set_option maxHeartbeats 1000000 in
theorem halves_any {w : World} {y : Lay} {s : St} (hT : Tab w y s) (n k : Nat) (hn : n < s.L.length + 2) (hk : k < 128) :
    Calls Try.prog 89 #[.pointer (some ⟨y.tb, 3, none⟩), i6 n, i6 k] w fun e w' => e = .returned (.tuple #[i6 (Bd.loOf s.L n k), i6 (Bd.hiOf s.L n k)]) ∧ Below w.heap.size w w' := by
  have hsm := hT.small.1
  by_cases hb : Bd.bitOf s.L n = k
  · have h2 := Bd.half_at hk hb
    obtain ⟨i, rfl⟩ : ∃ i, n = i + 2 := ⟨n - 2, by omega⟩
    have hx : s.L[i]? = some s.L[i] := List.getElem?_eq_getElem (by omega)
    have hlo : Bd.loOf s.L (i + 2) k = s.L[i].2.1 := by unfold Bd.loOf; rw [if_pos hb, List.getD_eq_getElem?_getD]; simp only [Nat.add_sub_cancel, hx, Option.getD_some]
    have hhi : Bd.hiOf s.L (i + 2) k = s.L[i].2.2 := by unfold Bd.hiOf; rw [if_pos hb, List.getD_eq_getElem?_getD]; simp only [Nat.add_sub_cancel, hx, Option.getD_some]
    have hbit := bit_any hT (i + 2) hn
    rw [hlo, hhi]
    rw [hb] at hbit
    clear hlo hhi
    have c3 := hT.cell3
    obtain ⟨g, cap, hv, h0, h1, h3⟩ := hT.node hx
    rw [hv] at c3
    generalize s.L[i] = x at *
    generalize s.L.length = len at *
    have e1 : ((i + 2 : Nat) : Int) = (i : Int) + 2 := by omega
    simp only [i6, e1] at hbit ⊢
    have hI : (i : Int) < (len : Int) := by omega
    have HB := keep hbit
    clear hbit hT
    go_enter Try.func89, Try.ntmps89
    go_wp2_with (go_at_call 88; refine HB.out.mono ?_; rintro e w' ⟨rfl, rfl⟩)
    go_region
    go_wp2
    go_ret2
    exact ⟨rfl, ((Below.refl _ _).alloc (Nat.le_refl _) _).drew⟩
  · have hlo : Bd.loOf s.L n k = n := by unfold Bd.loOf; rw [if_neg hb]
    have hhi : Bd.hiOf s.L n k = n := by unfold Bd.hiOf; rw [if_neg hb]
    have HB := keep (bit_any hT n hn)
    rw [hlo, hhi]
    have hne : ((Bd.bitOf s.L n : Int) != (k : Int)) = true := by rw [bne_iff_ne]; omega
    clear hT hlo hhi
    generalize Bd.bitOf s.L n = m at *
    go_enter Try.func89, Try.ntmps89
    go_wp2_with (go_at_call 88; refine HB.out.mono ?_; rintro e w' ⟨rfl, rfl⟩)
    go_ret2
    exact ⟨rfl, Below.refl _ _⟩
end Go.Proofs.Ytnkipdlfpnmgeaa
