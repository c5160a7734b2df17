/-
  Diagrams as rows of nodes: what their numbers mean, and that each function has one number.
-/
namespace Go.Proofs.Ytffngpdngjfcfaa
namespace Bd

/-- A node: its bit, where it leads by 0, where by 1. -/
abbrev Nd := Nat × Nat × Nat
abbrev Fn := (Nat → Bool) → Bool

def ff : Fn := fun _ => false
def tt : Fn := fun _ => true
def mux (k : Nat) (f g : Fn) : Fn := fun h => if h k then g h else f h
def dstep (D : List Fn) (x : Nd) : List Fn := D ++ [mux x.1 (D.getD x.2.1 ff) (D.getD x.2.2 ff)]
def dens (L : List Nd) : List Fn := L.foldl dstep [ff, tt]
def den (L : List Nd) (n : Nat) : Fn := (dens L).getD n ff
def bitOf (L : List Nd) (n : Nat) : Nat := if n < 2 then 128 else (L.getD (n - 2) (0, 0, 0)).1

theorem dens_snoc (L : List Nd) (x : Nd) : dens (L ++ [x]) = dstep (dens L) x := by simp [dens, List.foldl_append]
theorem snoc_ind {α : Type} {p : List α → Prop} (h0 : p []) (hs : ∀ l x, p l → p (l ++ [x])) (l : List α) : p l := by
  have : ∀ n (l : List α), l.length = n → p l := by
    intro n
    induction n with
    | zero => intro l hl; rw [List.length_eq_zero_iff.1 hl]; exact h0
    | succ n ih =>
      intro l hl
      have hne : l ≠ [] := by intro h; rw [h] at hl; cases hl
      rw [← List.dropLast_concat_getLast hne]
      exact hs _ _ (ih _ (by rw [List.length_dropLast]; omega))
  exact this _ l rfl
theorem dens_length (L : List Nd) : (dens L).length = L.length + 2 := by
  induction L using snoc_ind with
  | h0 => rfl
  | hs l x ih => rw [dens_snoc]; simp [dstep, ih]
theorem den_snoc_old (L : List Nd) (x : Nd) {n : Nat} (h : n < L.length + 2) : den (L ++ [x]) n = den L n := by
  unfold den
  rw [dens_snoc]
  unfold dstep
  rw [List.getD_eq_getElem?_getD, List.getElem?_append_left (by rw [dens_length]; exact h), List.getD_eq_getElem?_getD]
theorem den_snoc_new (L : List Nd) (x : Nd) : den (L ++ [x]) (L.length + 2) = mux x.1 (den L x.2.1) (den L x.2.2) := by
  unfold den
  rw [dens_snoc]
  unfold dstep
  rw [List.getD_eq_getElem?_getD, List.getElem?_append_right (by rw [dens_length]; omega)]
  simp [dens_length]
theorem den_append_old (L M : List Nd) {n : Nat} (h : n < L.length + 2) : den (L ++ M) n = den L n := by
  induction M using snoc_ind with
  | h0 => rw [List.append_nil]
  | hs l x ih => rw [← List.append_assoc, den_snoc_old _ _ (by rw [List.length_append]; omega), ih]
theorem den_zero (L : List Nd) : den L 0 = ff := by
  have := den_append_old [] L (n := 0) (by simp)
  simpa [den, dens] using this
theorem den_one (L : List Nd) : den L 1 = tt := by
  have := den_append_old [] L (n := 1) (by simp)
  simpa [den, dens] using this
theorem bitOf_old (L M : List Nd) {n : Nat} (h : n < L.length + 2) : bitOf (L ++ M) n = bitOf L n := by
  unfold bitOf
  by_cases h2 : n < 2
  · rw [if_pos h2, if_pos h2]
  · rw [if_neg h2, if_neg h2, List.getD_eq_getElem?_getD, List.getD_eq_getElem?_getD, List.getElem?_append_left (by omega)]
theorem bitOf_end (L : List Nd) {n : Nat} (h : n < 2) : bitOf L n = 128 := by unfold bitOf; rw [if_pos h]
theorem bitOf_at {L : List Nd} {i : Nat} {x : Nd} (h : L[i]? = some x) : bitOf L (i + 2) = x.1 := by
  unfold bitOf
  rw [if_neg (by omega), List.getD_eq_getElem?_getD]
  simp [h]

/-- Rows of nodes as a table has them. -/
structure Okay (bits : Nat) (L : List Nd) : Prop where
  few : bits ≤ 128
  nd : L.Nodup
  fit : ∀ i x, L[i]? = some x → x.2.1 < i + 2 ∧ x.2.2 < i + 2 ∧ x.2.1 ≠ x.2.2 ∧ x.1 < bits ∧ x.1 < bitOf L x.2.1 ∧ x.1 < bitOf L x.2.2

theorem getElem?_lt {α : Type} {L : List α} {i : Nat} {x : α} (h : L[i]? = some x) : i < L.length := by
  rcases Nat.lt_or_ge i L.length with h1 | h1
  · exact h1
  · rw [List.getElem?_eq_none h1] at h; cases h

theorem Okay.nil {bits : Nat} (h : bits ≤ 128) : Okay bits [] := { few := h, nd := List.nodup_nil, fit := fun i x h => by simp at h }

theorem Okay.snoc {bits : Nat} {L : List Nd} (h : Okay bits L) {x : Nd} (hx : x ∉ L) (hl : x.2.1 < L.length + 2) (hh : x.2.2 < L.length + 2) (hne : x.2.1 ≠ x.2.2) (hb : x.1 < bits)
    (hlb : x.1 < bitOf L x.2.1) (hhb : x.1 < bitOf L x.2.2) : Okay bits (L ++ [x]) := by
  refine { few := h.few, nd := ?_, fit := ?_ }
  · rw [List.nodup_append]
    refine ⟨h.nd, by simp, ?_⟩
    intro a ha b hb' e
    subst e
    simp only [List.mem_singleton] at hb'
    subst hb'
    exact hx ha
  · intro i y hy
    rcases Nat.lt_or_ge i L.length with h1 | h1
    · rw [List.getElem?_append_left h1] at hy
      obtain ⟨a, b, c, d, e, f⟩ := h.fit i y hy
      exact ⟨a, b, c, d, by rw [bitOf_old _ _ (by omega)]; exact e, by rw [bitOf_old _ _ (by omega)]; exact f⟩
    · rw [List.getElem?_append_right h1] at hy
      have : i - L.length = 0 := by
        rcases Nat.eq_zero_or_pos (i - L.length) with h2 | h2
        · exact h2
        · rw [List.getElem?_eq_none (by simp; omega)] at hy; cases hy
      rw [this] at hy
      simp at hy
      subst hy
      exact ⟨by omega, by omega, hne, hb, by rw [bitOf_old _ _ hl]; exact hlb, by rw [bitOf_old _ _ hh]; exact hhb⟩

theorem den_at {bits : Nat} {L : List Nd} (h : Okay bits L) {i : Nat} {x : Nd} (hx : L[i]? = some x) : den L (i + 2) = mux x.1 (den L x.2.1) (den L x.2.2) := by
  have hi := getElem?_lt hx
  obtain ⟨a, b, _⟩ := h.fit i x hx
  have e : L = (L.take i ++ [x]) ++ L.drop (i + 1) := by
    have hxe : L[i] = x := by rw [List.getElem?_eq_getElem hi] at hx; exact Option.some.inj hx
    rw [← hxe, List.append_assoc, List.singleton_append, List.getElem_cons_drop, List.take_append_drop]
  have hlen : (L.take i).length = i := by rw [List.length_take]; omega
  have h1 : den L (i + 2) = den (L.take i ++ [x]) (i + 2) := by
    conv => lhs; rw [e]
    rw [den_append_old _ _ (by rw [List.length_append, hlen]; simp)]
  have h2 : ∀ n, n < i + 2 → den L n = den (L.take i) n := by
    intro n hn
    conv => lhs; rw [e]
    rw [den_append_old _ _ (by rw [List.length_append, hlen]; simp; omega), den_snoc_old _ _ (by omega)]
  have h3 := den_snoc_new (L.take i) x
  rw [hlen] at h3
  rw [h1, h3, h2 _ a, h2 _ b]

/-- f hangs on no bit ahead of k. -/
def From (k : Nat) (f : Fn) : Prop := ∀ h h', (∀ j, k ≤ j → h j = h' j) → f h = f h'
theorem From.mono {k l : Nat} {f : Fn} (h : From l f) (hk : k ≤ l) : From k f := fun a b hab => h a b fun j hj => hab j (Nat.le_trans hk hj)
theorem from_mux {k : Nat} {f g : Fn} (hf : From (k + 1) f) (hg : From (k + 1) g) : From k (mux k f g) := by
  intro a b hab
  unfold mux
  rw [hab k (Nat.le_refl _), hf a b (fun j hj => hab j (by omega)), hg a b (fun j hj => hab j (by omega))]
theorem from_ff (k : Nat) : From k ff := fun _ _ _ => rfl
theorem from_tt (k : Nat) : From k tt := fun _ _ _ => rfl

theorem from_den {bits : Nat} {L : List Nd} (h : Okay bits L) : ∀ n, n < L.length + 2 → From (bitOf L n) (den L n) := by
  intro n
  induction n using Nat.strongRecOn with
  | ind n ih =>
    intro hn
    rcases Nat.lt_or_ge n 2 with h2 | h2
    · have : n = 0 ∨ n = 1 := by omega
      rcases this with rfl | rfl
      · rw [den_zero]; exact from_ff _
      · rw [den_one]; exact from_tt _
    · obtain ⟨i, rfl⟩ : ∃ i, n = i + 2 := ⟨n - 2, by omega⟩
      have hi : i < L.length := by omega
      have hx : L[i]? = some L[i] := List.getElem?_eq_getElem hi
      obtain ⟨a, b, c, d, e, f⟩ := h.fit i _ hx
      rw [den_at h hx, bitOf_at hx]
      exact from_mux ((ih _ a (by omega)).mono e) ((ih _ b (by omega)).mono f)

def setb (h : Nat → Bool) (k : Nat) (b : Bool) : Nat → Bool := fun j => if j = k then b else h j
/-- What is left of f where bit k is b. -/
def cof (f : Fn) (k : Nat) (b : Bool) : Fn := fun h => f (setb h k b)
theorem setb_other (h : Nat → Bool) (k : Nat) (b : Bool) {j : Nat} (hj : j ≠ k) : setb h k b j = h j := by unfold setb; rw [if_neg hj]
theorem setb_same (h : Nat → Bool) (k : Nat) (b : Bool) : setb h k b k = b := by unfold setb; rw [if_pos rfl]
theorem cof_from {k : Nat} {f : Fn} (hf : From (k + 1) f) (b : Bool) : cof f k b = f := by
  funext h
  exact hf _ _ fun j hj => setb_other _ _ _ (by omega)
theorem cof_mux {k : Nat} {f g : Fn} (hf : From (k + 1) f) (hg : From (k + 1) g) (b : Bool) : cof (mux k f g) k b = if b then g else f := by
  funext h
  have h1 : mux k f g (setb h k b) = if b then g (setb h k b) else f (setb h k b) := by unfold mux; rw [setb_same]
  show mux k f g (setb h k b) = _
  rw [h1]
  cases b
  · exact congrFun (cof_from hf false) h
  · exact congrFun (cof_from hg true) h
theorem from_cof {k : Nat} {f : Fn} (hf : From k f) (b : Bool) : From (k + 1) (cof f k b) := by
  intro a c hac
  refine hf _ _ fun j hj => ?_
  unfold setb
  by_cases e : j = k
  · rw [if_pos e, if_pos e]
  · rw [if_neg e, if_neg e]; exact hac j (by omega)
theorem mux_cof (f : Fn) (k : Nat) : mux k (cof f k false) (cof f k true) = f := by
  funext h
  unfold mux cof
  have e : ∀ b, h k = b → setb h k b = h := by
    intro b hb
    funext j
    unfold setb
    by_cases e : j = k
    · rw [if_pos e, e, hb]
    · rw [if_neg e]
  cases hk : h k
  · rw [if_neg (by simp), e _ hk]
  · rw [if_pos rfl, e _ hk]

theorem bitOf_lt {bits : Nat} {L : List Nd} (h : Okay bits L) {n : Nat} (h2 : 2 ≤ n) (hn : n < L.length + 2) : bitOf L n < bits := by
  obtain ⟨i, rfl⟩ : ∃ i, n = i + 2 := ⟨n - 2, by omega⟩
  have hx : L[i]? = some L[i] := List.getElem?_eq_getElem (by omega)
  rw [bitOf_at hx]
  exact (h.fit i _ hx).2.2.2.1
theorem bitOf_le {bits : Nat} {L : List Nd} (h : Okay bits L) {n : Nat} (hn : n < L.length + 2) : bitOf L n ≤ 128 := by
  rcases Nat.lt_or_ge n 2 with h2 | h2
  · rw [bitOf_end L h2]; exact Nat.le_refl _
  · have := bitOf_lt h h2 hn
    have := h.few
    omega

theorem canon_half {bits : Nat} {L : List Nd} (hL : Okay bits L) {n m : Nat} (hn : n < L.length + 2) (hm : m < L.length + 2) (hd : den L n = den L m) (h2 : 2 ≤ n) (hb : bitOf L n < bitOf L m)
    (ih : ∀ a b, a < n → b < n → den L a = den L b → a = b) : False := by
  obtain ⟨i, rfl⟩ : ∃ i, n = i + 2 := ⟨n - 2, by omega⟩
  have hi : i < L.length := by omega
  have hx : L[i]? = some L[i] := List.getElem?_eq_getElem hi
  obtain ⟨a, b, c, d, e, f⟩ := hL.fit i _ hx
  rw [bitOf_at hx] at hb
  have fl := (from_den hL _ (by omega : L[i].2.1 < L.length + 2)).mono e
  have fh := (from_den hL _ (by omega : L[i].2.2 < L.length + 2)).mono f
  have fm := (from_den hL m hm).mono hb
  rw [den_at hL hx] at hd
  have c0 : den L L[i].2.1 = den L m := by
    have := cof_mux fl fh false
    rw [hd, cof_from fm] at this
    exact this.symm
  have c1 : den L L[i].2.2 = den L m := by
    have := cof_mux fl fh true
    rw [hd, cof_from fm] at this
    exact this.symm
  exact c (ih _ _ a b (c0.trans c1.symm))

theorem canon_to {bits : Nat} {L : List Nd} (hL : Okay bits L) : ∀ s n m, n < s → m < s → n < L.length + 2 → m < L.length + 2 → den L n = den L m → n = m := by
  intro s
  induction s with
  | zero => intro n m h _ _ _; omega
  | succ s ih =>
    intro n m hns hms hn hm hd
    rcases Nat.lt_trichotomy (bitOf L n) (bitOf L m) with h1 | h1 | h1
    · rcases Nat.lt_or_ge n 2 with h2 | h2
      · rw [bitOf_end L h2] at h1
        have := bitOf_le hL hm
        omega
      · exact (canon_half hL hn hm hd h2 h1 (fun a b ha hb => ih a b (by omega) (by omega) (by omega) (by omega))).elim
    · rcases Nat.lt_or_ge n 2 with h2 | h2
      · rcases Nat.lt_or_ge m 2 with h3 | h3
        · have e : den L n (fun _ => false) = den L m (fun _ => false) := by rw [hd]
          have hn' : n = 0 ∨ n = 1 := by omega
          have hm' : m = 0 ∨ m = 1 := by omega
          rcases hn' with rfl | rfl <;> rcases hm' with rfl | rfl
          · rfl
          · rw [den_zero, den_one] at e; cases e
          · rw [den_zero, den_one] at e; cases e
          · rfl
        · have := bitOf_lt hL h3 hm
          have := hL.few
          rw [bitOf_end L h2] at h1
          omega
      · rcases Nat.lt_or_ge m 2 with h3 | h3
        · have := bitOf_lt hL h2 hn
          have := hL.few
          rw [bitOf_end L h3] at h1
          omega
        · obtain ⟨i, rfl⟩ : ∃ i, n = i + 2 := ⟨n - 2, by omega⟩
          obtain ⟨j, rfl⟩ : ∃ j, m = j + 2 := ⟨m - 2, by omega⟩
          have hi : i < L.length := by omega
          have hj : j < L.length := by omega
          have hx : L[i]? = some L[i] := List.getElem?_eq_getElem hi
          have hy : L[j]? = some L[j] := List.getElem?_eq_getElem hj
          obtain ⟨a, b, c, d, e, f⟩ := hL.fit i _ hx
          obtain ⟨a', b', c', d', e', f'⟩ := hL.fit j _ hy
          rw [bitOf_at hx, bitOf_at hy] at h1
          have fl := (from_den hL _ (by omega : L[i].2.1 < L.length + 2)).mono e
          have fh := (from_den hL _ (by omega : L[i].2.2 < L.length + 2)).mono f
          have gl := (from_den hL _ (by omega : L[j].2.1 < L.length + 2)).mono e'
          have gh := (from_den hL _ (by omega : L[j].2.2 < L.length + 2)).mono f'
          rw [den_at hL hx, den_at hL hy, ← h1] at hd
          rw [← h1] at gl gh
          have k0 := cof_mux fl fh false
          rw [hd, cof_mux gl gh false] at k0
          have k1 := cof_mux fl fh true
          rw [hd, cof_mux gl gh true] at k1
          have q0 := ih _ _ (by omega) (by omega) (by omega) (by omega) k0.symm
          have q1 := ih _ _ (by omega) (by omega) (by omega) (by omega) k1.symm
          have : L[i] = L[j] := by
            apply Prod.ext
            · exact h1
            · apply Prod.ext
              · exact q0
              · exact q1
          have := (List.getElem_inj (h₀ := hi) (h₁ := hj) hL.nd).1 this
          omega
    · rcases Nat.lt_or_ge m 2 with h2 | h2
      · rw [bitOf_end L h2] at h1
        have := bitOf_le hL hn
        omega
      · exact (canon_half hL hm hn hd.symm h2 h1 (fun a b ha hb => ih a b (by omega) (by omega) (by omega) (by omega))).elim

/-- Two numbers that mean the same are one. -/
theorem canon {bits : Nat} {L : List Nd} (hL : Okay bits L) {n m : Nat} (hn : n < L.length + 2) (hm : m < L.length + 2) (hd : den L n = den L m) : n = m :=
  canon_to hL (L.length + 2) n m hn hm hn hm hd

theorem bit_ge {bits : Nat} {L : List Nd} (hL : Okay bits L) {r k : Nat} (hr : r < L.length + 2) (hf : From k (den L r)) (hk : k ≤ 128) : k ≤ bitOf L r := by
  rcases Nat.lt_or_ge r 2 with h2 | h2
  · rw [bitOf_end L h2]; exact hk
  · obtain ⟨i, rfl⟩ : ∃ i, r = i + 2 := ⟨r - 2, by omega⟩
    have hi : i < L.length := by omega
    have hx : L[i]? = some L[i] := List.getElem?_eq_getElem hi
    obtain ⟨a, b, c, d, e, f⟩ := hL.fit i _ hx
    rw [bitOf_at hx]
    rcases Nat.lt_or_ge L[i].1 k with h1 | h1
    · have fl := (from_den hL _ (by omega : L[i].2.1 < L.length + 2)).mono e
      have fh := (from_den hL _ (by omega : L[i].2.2 < L.length + 2)).mono f
      have hf' : From (L[i].1 + 1) (mux L[i].1 (den L L[i].2.1) (den L L[i].2.2)) := by rw [← den_at hL hx]; exact hf.mono h1
      have c0 := cof_mux fl fh false
      have c1 := cof_mux fl fh true
      rw [cof_from hf'] at c0 c1
      exact absurd (canon hL (by omega) (by omega) (c0.symm.trans c1)) c
    · exact h1

def iteF (a b c : Fn) : Fn := fun h => if a h then b h else c h
theorem from_iteF {k : Nat} {a b c : Fn} (ha : From k a) (hb : From k b) (hc : From k c) : From k (iteF a b c) := by
  intro g h hgh
  unfold iteF
  rw [ha g h hgh, hb g h hgh, hc g h hgh]
theorem cof_iteF (a b c : Fn) (k : Nat) (x : Bool) : cof (iteF a b c) k x = iteF (cof a k x) (cof b k x) (cof c k x) := rfl

/-- Functions that a table may come upon: those at level k hang on no bit ahead of k, and there are at most M of each level. -/
structure Fam (bits M : Nat) where
  F : Nat → Fn → Prop
  dep : ∀ k f, F k f → From k f
  go : ∀ k f b, k < bits → F k f → F (k + 1) (cof f k b)
  en : Nat → Nat → Fn
  all : ∀ k f, k < bits → F k f → ∃ j, j < M ∧ f = en k j

theorem Fam.skip {bits M : Nat} (A : Fam bits M) {k l : Nat} {f : Fn} (h : A.F k f) (hl : From l f) (hkl : k ≤ l) (hb : l ≤ bits) : A.F l f := by
  induction l with
  | zero => have : k = 0 := by omega
            subst this; exact h
  | succ l ih =>
    rcases Nat.lt_or_ge l k with h1 | h1
    · have : k = l + 1 := by omega
      subst this; exact h
    · have := A.go l f false (by omega) (ih (hl.mono (by omega)) h1 (by omega))
      rw [cof_from hl] at this
      exact this

/-- Each node of L means a function of the family. -/
def Within {bits M : Nat} (A : Fam bits M) (L : List Nd) : Prop := ∀ i x, L[i]? = some x → A.F x.1 (den L (i + 2))

theorem pigeon : ∀ (m n : Nat) (f : Nat → Nat), (∀ i, i < n → f i < m) → (∀ i j, i < n → j < n → f i = f j → i = j) → n ≤ m := by
  intro m
  induction m with
  | zero =>
    intro n f h _
    rcases Nat.eq_zero_or_pos n with h1 | h1
    · omega
    · exact absurd (h 0 h1) (by omega)
  | succ m ih =>
    intro n f h inj
    rcases Nat.eq_zero_or_pos n with h1 | h1
    · omega
    · obtain ⟨n, rfl⟩ : ∃ k, n = k + 1 := ⟨n - 1, by omega⟩
      have : n ≤ m := by
        refine ih n (fun i => if f i = m then f n else f i) ?_ ?_
        · intro i hi
          show (if f i = m then f n else f i) < m
          by_cases e : f i = m
          · rw [if_pos e]
            have h2 := h n (by omega)
            have h3 : f n ≠ m := fun e2 => by
              have := inj i n (by omega) (by omega) (e.trans e2.symm)
              omega
            omega
          · rw [if_neg e]
            have := h i (by omega)
            omega
        · intro i j hi hj hij
          have hij' : (if f i = m then f n else f i) = (if f j = m then f n else f j) := hij
          by_cases e : f i = m
          · by_cases e2 : f j = m
            · exact inj i j (by omega) (by omega) (e.trans e2.symm)
            · rw [if_pos e, if_neg e2] at hij'
              have := inj n j (by omega) (by omega) hij'
              omega
          · by_cases e2 : f j = m
            · rw [if_neg e, if_pos e2] at hij'
              have := inj i n (by omega) (by omega) hij'
              omega
            · rw [if_neg e, if_neg e2] at hij'
              exact inj i j (by omega) (by omega) hij'
      omega

theorem mul_add_inj {M a b i j : Nat} (hi : i < M) (hj : j < M) (h : a * M + i = b * M + j) : a = b ∧ i = j := by
  have e : a = b := by
    rcases Nat.lt_trichotomy a b with h1 | h1 | h1
    · have : (a + 1) * M ≤ b * M := Nat.mul_le_mul_right M h1
      rw [Nat.add_mul] at this
      omega
    · exact h1
    · have : (b + 1) * M ≤ a * M := Nat.mul_le_mul_right M h1
      rw [Nat.add_mul] at this
      omega
  subst e
  exact ⟨rfl, by omega⟩

/-- A table whose nodes are of a family has at most bits * M of them. -/
theorem Within.few {bits M : Nat} {A : Fam bits M} {L : List Nd} (h : Within A L) (hL : Okay bits L) : L.length ≤ bits * M := by
  have ex : ∀ i, i < L.length → ∃ j, j < M ∧ den L (i + 2) = A.en (bitOf L (i + 2)) j := by
    intro i hi
    have hx : L[i]? = some L[i] := List.getElem?_eq_getElem hi
    rw [bitOf_at hx]
    exact A.all _ _ (hL.fit i _ hx).2.2.2.1 (h i _ hx)
  have key : ∃ g : Nat → Nat, ∀ i, i < L.length → g i < M ∧ den L (i + 2) = A.en (bitOf L (i + 2)) (g i) := by
    refine ⟨fun i => if hi : i < L.length then Classical.choose (ex i hi) else 0, ?_⟩
    intro i hi
    show (if hi : i < L.length then Classical.choose (ex i hi) else 0) < M ∧ den L (i + 2) = A.en (bitOf L (i + 2)) (if hi : i < L.length then Classical.choose (ex i hi) else 0)
    rw [dif_pos hi]
    exact Classical.choose_spec (ex i hi)
  obtain ⟨g, hg⟩ := key
  refine pigeon (bits * M) L.length (fun i => bitOf L (i + 2) * M + g i) ?_ ?_
  · intro i hi
    show bitOf L (i + 2) * M + g i < bits * M
    have h1 := bitOf_lt hL (n := i + 2) (by omega) (by omega)
    have h2 := (hg i hi).1
    have : (bitOf L (i + 2) + 1) * M ≤ bits * M := Nat.mul_le_mul_right M h1
    rw [Nat.add_mul] at this
    omega
  · intro i j hi hj hij
    have hij' : bitOf L (i + 2) * M + g i = bitOf L (j + 2) * M + g j := hij
    obtain ⟨e1, e2⟩ := mul_add_inj (hg i hi).1 (hg j hj).1 hij'
    have : den L (i + 2) = den L (j + 2) := by rw [(hg i hi).2, (hg j hj).2, e1, e2]
    have := canon hL (by omega) (by omega) this
    omega

theorem Within.snoc {bits M : Nat} {A : Fam bits M} {L : List Nd} (h : Within A L) {x : Nd} (hF : A.F x.1 (mux x.1 (den L x.2.1) (den L x.2.2))) : Within A (L ++ [x]) := by
  intro i y hy
  rcases Nat.lt_or_ge i L.length with h1 | h1
  · rw [List.getElem?_append_left h1] at hy
    rw [den_snoc_old _ _ (by omega)]
    exact h i y hy
  · have h2 := getElem?_lt hy
    rw [List.length_append] at h2
    have e : i = L.length := by simp at h2; omega
    subst e
    rw [List.getElem?_append_right (Nat.le_refl _)] at hy
    simp at hy
    subst hy
    rw [den_snoc_new]
    exact hF
theorem within_nil {bits M : Nat} (A : Fam bits M) : Within A [] := fun i x h => by simp at h

theorem mux_same (k : Nat) (f : Fn) : mux k f f = f := by
  funext h
  unfold mux
  split <;> rfl
theorem den_mem {bits : Nat} {L : List Nd} (hL : Okay bits L) {x : Nd} {i : Nat} (hx : L[i]? = some x) : den L (i + 2) = mux x.1 (den L x.2.1) (den L x.2.2) := den_at hL hx

/-- What is left of a number where a bit, not behind its own, is 0, and 1. -/
def loOf (L : List Nd) (n k : Nat) : Nat := if bitOf L n = k then (L.getD (n - 2) (0, 0, 0)).2.1 else n
def hiOf (L : List Nd) (n k : Nat) : Nat := if bitOf L n = k then (L.getD (n - 2) (0, 0, 0)).2.2 else n
theorem half_at {L : List Nd} {n k : Nat} (hk : k < 128) (h : bitOf L n = k) : 2 ≤ n := by
  rcases Nat.lt_or_ge n 2 with h2 | h2
  · rw [bitOf_end L h2] at h; omega
  · exact h2
theorem lo_lt {bits : Nat} {L : List Nd} (hL : Okay bits L) {n k : Nat} (hn : n < L.length + 2) (hk : k < 128) : loOf L n k < L.length + 2 ∧ hiOf L n k < L.length + 2 := by
  unfold loOf hiOf
  by_cases e : bitOf L n = k
  · have h2 := half_at hk e
    obtain ⟨i, rfl⟩ : ∃ i, n = i + 2 := ⟨n - 2, by omega⟩
    have hi : i < L.length := by omega
    have hx : L[i]? = some L[i] := List.getElem?_eq_getElem hi
    obtain ⟨a, b, _⟩ := hL.fit i _ hx
    rw [if_pos e, if_pos e, List.getD_eq_getElem?_getD]
    simp only [Nat.add_sub_cancel, hx, Option.getD_some]
    omega
  · rw [if_neg e, if_neg e]; exact ⟨hn, hn⟩
theorem den_half {bits : Nat} {L : List Nd} (hL : Okay bits L) {n k : Nat} (hn : n < L.length + 2) (hk : k < 128) (hb : k ≤ bitOf L n) : den L (loOf L n k) = cof (den L n) k false ∧ den L (hiOf L n k) = cof (den L n) k true := by
  unfold loOf hiOf
  by_cases e : bitOf L n = k
  · have h2 := half_at hk e
    obtain ⟨i, rfl⟩ : ∃ i, n = i + 2 := ⟨n - 2, by omega⟩
    have hi : i < L.length := by omega
    have hx : L[i]? = some L[i] := List.getElem?_eq_getElem hi
    obtain ⟨a, b, c, d, e1, f⟩ := hL.fit i _ hx
    rw [if_pos e, if_pos e, List.getD_eq_getElem?_getD]
    simp only [Nat.add_sub_cancel, hx, Option.getD_some]
    rw [bitOf_at hx] at e
    rw [den_at hL hx]
    have fl := (from_den hL _ (by omega : L[i].2.1 < L.length + 2)).mono e1
    have fh := (from_den hL _ (by omega : L[i].2.2 < L.length + 2)).mono f
    rw [← e, cof_mux fl fh false, cof_mux fl fh true]
    exact ⟨rfl, rfl⟩
  · have : From (k + 1) (den L n) := (from_den hL n hn).mono (by omega)
    rw [if_neg e, if_neg e, cof_from this, cof_from this]
    exact ⟨rfl, rfl⟩
theorem bit_half {bits : Nat} {L : List Nd} (hL : Okay bits L) {n k : Nat} (hn : n < L.length + 2) (hk : k < 128) (hb : k ≤ bitOf L n) : k < bitOf L (loOf L n k) ∧ k < bitOf L (hiOf L n k) := by
  obtain ⟨h1, h2⟩ := lo_lt hL hn hk
  obtain ⟨d1, d2⟩ := den_half hL hn hk hb
  have hf := (from_den hL n hn).mono hb
  exact ⟨bit_ge hL h1 (by rw [d1]; exact from_cof hf _) (by omega), bit_ge hL h2 (by rw [d2]; exact from_cof hf _) (by omega)⟩
end Bd
end Go.Proofs.Ytffngpdngjfcfaa
