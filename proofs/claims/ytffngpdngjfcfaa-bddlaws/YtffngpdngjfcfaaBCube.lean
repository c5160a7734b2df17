/-
  step, and cube: the node of a text.
-/
import Derived.Test.YtffngpdngjfcfaaBIteA
namespace Go.Proofs.Ytffngpdngjfcfaa
open Go.RowKit Go.Maps
open Bd (Nd)

theorem step_any (w : World) (tb room : Nat) :
    Calls Try.prog 52 #[.pointer (some ⟨tb, 3, none⟩), i6 room] w fun e w' => e = .returned (.pointer (some ⟨w.heap.size + 1, 0, none⟩)) ∧ w' = (w.alloc (.map #[] 0)).alloc (.cells #[.pointer (some ⟨tb, 3, none⟩), i6 room, .map (some w.heap.size)] 142) := by
  have hmm := @run_makeMap Try.prog
  go_enter Try.func52, Try.ntmps52
  go_wp2
  go_ret
  exact ⟨rfl, rfl⟩

/-- A step that has just begun. -/
theorem step_new (w : World) (tb room : Nat) : StepAt ((w.alloc (.map #[] 0)).alloc (.cells #[.pointer (some ⟨tb, 3, none⟩), i6 room, .map (some w.heap.size)] 142)) (w.heap.size + 1) tb room w.heap.size ∧
    MapOf Try.prog 91 3 ((w.alloc (.map #[] 0)).alloc (.cells #[.pointer (some ⟨tb, 3, none⟩), i6 room, .map (some w.heap.size)] 142)) w.heap.size 0 (fun _ => none) ∧
    Below w.heap.size w ((w.alloc (.map #[] 0)).alloc (.cells #[.pointer (some ⟨tb, 3, none⟩), i6 room, .map (some w.heap.size)] 142)) := by
  have e : (w.alloc (.map #[] 0)).heap.size = w.heap.size + 1 := by simp
  refine ⟨?_, ?_, ((Below.refl _ _).alloc (Nat.le_refl _) _).alloc (by simp) _⟩
  · unfold StepAt
    rw [← e]
    exact heap_alloc_new _ _
  · exact (MapOf.new Try.prog 91 3 w).same (heap_alloc_old _ _ (by simp))
theorem known_none (L : List Nd) : KnownOk L (fun _ => none) := fun _ _ _ _ h => by cases h

/-- The headers that fit a text from its letter k on. -/
def suf (t : ByteArray) (k : Nat) : Bd.Fn := fun h => (List.range t.size).all fun i => decide (i < k) || ((t.data.toList.getD i 0 != 48 || !h i) && (t.data.toList.getD i 0 != 49 || h i))
theorem suf_true {t : ByteArray} {k : Nat} {h : Nat → Bool} : suf t k h = true ↔ ∀ i, i < t.size → k ≤ i → (t.data.toList.getD i 0 = 48 → h i = false) ∧ (t.data.toList.getD i 0 = 49 → h i = true) := by
  unfold suf
  rw [List.all_eq_true]
  constructor
  · intro H i hi hk
    have := H i (List.mem_range.2 hi)
    simp only [Bool.or_eq_true, Bool.and_eq_true, decide_eq_true_eq, bne_iff_ne, Bool.not_eq_true'] at this
    rcases this with h1 | ⟨h1, h2⟩
    · omega
    · refine ⟨fun e => ?_, fun e => ?_⟩
      · rcases h1 with h1 | h1
        · exact absurd e h1
        · exact h1
      · rcases h2 with h2 | h2
        · exact absurd e h2
        · exact h2
  · intro H i hi
    have hi' := List.mem_range.1 hi
    simp only [Bool.or_eq_true, Bool.and_eq_true, decide_eq_true_eq, bne_iff_ne, Bool.not_eq_true']
    rcases Nat.lt_or_ge i k with h1 | h1
    · exact Or.inl h1
    · obtain ⟨a, b⟩ := H i hi' h1
      refine Or.inr ⟨?_, ?_⟩
      · by_cases e : t.data.toList.getD i 0 = 48
        · exact Or.inr (a e)
        · exact Or.inl e
      · by_cases e : t.data.toList.getD i 0 = 49
        · exact Or.inr (b e)
        · exact Or.inl e
theorem bool_ext {a b : Bool} (h : a = true ↔ b = true) : a = b := by
  cases a <;> cases b <;> simp at h <;> rfl
theorem suf_end (t : ByteArray) : suf t t.size = Bd.tt := by
  funext h
  refine bool_ext ⟨fun _ => rfl, fun _ => suf_true.2 fun i hi hk => ?_⟩
  omega
theorem suf_zero {t : ByteArray} {k : Nat} (hk : k < t.size) (h0 : t.data.toList.getD k 0 = 48) : suf t k = Bd.mux k (suf t (k + 1)) Bd.ff := by
  funext h
  unfold Bd.mux
  cases hh : h k
  · rw [if_neg (by simp)]
    refine bool_ext ⟨fun H => suf_true.2 fun i hi hki => suf_true.1 H i hi (by omega), fun H => suf_true.2 fun i hi hki => ?_⟩
    rcases Nat.lt_or_ge k i with h1 | h1
    · exact suf_true.1 H i hi h1
    · have : i = k := by omega
      subst this
      exact ⟨fun _ => hh, fun e => (by rw [h0] at e; cases e)⟩
  · rw [if_pos rfl]
    refine bool_ext ⟨fun H => ?_, fun H => by cases H⟩
    have := (suf_true.1 H k hk (Nat.le_refl _)).1 h0
    rw [hh] at this
    cases this
theorem suf_one {t : ByteArray} {k : Nat} (hk : k < t.size) (h0 : t.data.toList.getD k 0 = 49) : suf t k = Bd.mux k Bd.ff (suf t (k + 1)) := by
  funext h
  unfold Bd.mux
  cases hh : h k
  · rw [if_neg (by simp)]
    refine bool_ext ⟨fun H => ?_, fun H => by cases H⟩
    have := (suf_true.1 H k hk (Nat.le_refl _)).2 h0
    rw [hh] at this
    cases this
  · rw [if_pos rfl]
    refine bool_ext ⟨fun H => suf_true.2 fun i hi hki => suf_true.1 H i hi (by omega), fun H => suf_true.2 fun i hi hki => ?_⟩
    rcases Nat.lt_or_ge k i with h1 | h1
    · exact suf_true.1 H i hi h1
    · have : i = k := by omega
      subst this
      exact ⟨fun e => (by rw [h0] at e; cases e), fun _ => hh⟩
theorem suf_free {t : ByteArray} {k : Nat} (h0 : t.data.toList.getD k 0 ≠ 48) (h1 : t.data.toList.getD k 0 ≠ 49) : suf t k = suf t (k + 1) := by
  funext h
  refine bool_ext ⟨fun H => suf_true.2 fun i hi hki => suf_true.1 H i hi (by omega), fun H => suf_true.2 fun i hi hki => ?_⟩
  rcases Nat.lt_or_ge k i with h2 | h2
  · exact suf_true.1 H i hi h2
  · have : i = k := by omega
    subst this
    exact ⟨fun e => absurd e h0, fun e => absurd e h1⟩
theorem suf_from (t : ByteArray) (k : Nat) : Bd.From k (suf t k) := by
  intro a b hab
  refine bool_ext ⟨fun H => suf_true.2 fun i hi hki => ?_, fun H => suf_true.2 fun i hi hki => ?_⟩
  · rw [← hab i hki]; exact suf_true.1 H i hi hki
  · rw [hab i hki]; exact suf_true.1 H i hi hki
/-- A family that has a text's function has all its ends. -/
theorem suf_fam {bits M : Nat} {A : Bd.Fam bits M} {t : ByteArray} (hs : t.size ≤ bits) (h : A.F 0 (suf t 0)) : ∀ k, k ≤ t.size → A.F k (suf t k) := by
  intro k
  induction k with
  | zero => intro _; exact h
  | succ k ih =>
    intro hk
    have hF := ih (by omega)
    by_cases e0 : t.data.toList.getD k 0 = 48
    · have := A.go k _ false (by omega) hF
      rw [suf_zero (by omega) e0, Bd.cof_mux (suf_from _ _) (Bd.from_ff _)] at this
      exact this
    · by_cases e1 : t.data.toList.getD k 0 = 49
      · have := A.go k _ true (by omega) hF
        rw [suf_one (by omega) e1, Bd.cof_mux (Bd.from_ff _) (suf_from _ _)] at this
        exact this
      · have := A.go k _ true (by omega) hF
        rw [suf_free e0 e1, Bd.cof_from (suf_from _ _)] at this
        exact this

theorem Grew.chain {X : Nat → Prop} {M : Nat} {s : St} {A : Bd.Fam s.bits M} {w w1 w2 : World} {y y1 : Lay} {N1 : List Nd} {r : Nat} {f : Bd.Fn} (hm : Moves X w y w1 y1) (h : Grew X (s := { s with L := s.L ++ N1 }) A w1 y1 w2 r f) : Grew X A w y s w2 r f := by
  obtain ⟨N2, y2, h1, h2, h3, h4, h5⟩ := h.ex
  have h1' : Tab w2 y2 { s with L := s.L ++ N1 ++ N2 } := h1
  have h2' : Bd.Within A (s.L ++ N1 ++ N2) := h2
  have h3' : r < (s.L ++ N1 ++ N2).length + 2 := h3
  have h4' : Bd.den (s.L ++ N1 ++ N2) r = f := h4
  refine ⟨N1 ++ N2, y2, ?_, ?_, ?_, ?_, hm.trans h5⟩
  · rw [← List.append_assoc]; exact h1'
  · rw [← List.append_assoc]; exact h2'
  · rw [← List.append_assoc]; exact h3'
  · rw [← List.append_assoc]; exact h4'

set_option maxHeartbeats 2000000 in
theorem cube_any {M : Nat} {w : World} {y : Lay} {s : St} (A : Bd.Fam s.bits M) (hT : Tab w y s) (hW : Bd.Within A s.L) (sb room kb : Nat) (hS : StepAt w sb y.tb room kb) (hns : ¬ y.own sb) (hroom : s.bits * M ≤ room) (hr3 : room ≤ 1073741824)
    (t : ByteArray) (ht : t.size = s.bits) (hF : A.F 0 (suf t 0)) :
    Calls Try.prog 60 #[.pointer (some ⟨sb, 0, none⟩), .string t] w fun e w' => ∃ r, e = .returned (i6 r) ∧ Grew noX A w y s w' r (suf t 0) := by
  have hf128 := hT.okay.few
  have hsuf := suf_fam (A := A) (by omega) hF
  have lsb := block_lt hS
  have H : Hid (∀ (k r : Nat) (wr : World), k < t.size → Grew noX A w y s wr r (suf t (k + 1)) → (t.data.toList.getD k 0 = 48 → Calls Try.prog 86 #[.pointer (some ⟨sb, 0, none⟩), i6 k, i6 r, i6 0] wr fun e w' => ∃ r', e = .returned (i6 r') ∧ Hid (Grew noX A w y s w' r' (suf t k))) ∧
      (t.data.toList.getD k 0 = 49 → Calls Try.prog 86 #[.pointer (some ⟨sb, 0, none⟩), i6 k, i6 0, i6 r] wr fun e w' => ∃ r', e = .returned (i6 r') ∧ Hid (Grew noX A w y s w' r' (suf t k))) ∧
      (t.data.toList.getD k 0 ≠ 48 → t.data.toList.getD k 0 ≠ 49 → Grew noX A w y s wr r (suf t k))) := by
    intro k r wr hk hG
    obtain ⟨N, y1, t1, wi1, hr1, d1, m1⟩ := hG.ex
    have hns1 := m1.not_own lsb hns
    have hS1 : StepAt wr sb y1.tb room kb := by rw [m1.tb]; exact (m1.block sb lsb hns (fun h => h)).trans hS
    have hlen : (0 : Nat) < (s.L ++ N).length + 2 := by omega
    have hkb : k < s.bits := by omega
    have hb1 : k < Bd.bitOf (s.L ++ N) r := by
      have := Bd.bit_ge t1.okay (r := r) (k := k + 1) hr1 (by show Bd.From (k + 1) (Bd.den (s.L ++ N) r); rw [d1]; exact suf_from _ _) (by omega)
      exact this
    have hb0 : k < Bd.bitOf (s.L ++ N) 0 := by rw [Bd.bitOf_end _ (by omega)]; omega
    refine ⟨fun h0 => ?_, fun h0 => ?_, fun h0 h1 => ?_⟩
    · refine (node_any (s := { s with L := s.L ++ N }) A t1 wi1 sb room kb hS1 hns1 hroom hr3 k r 0 hkb hr1 hlen hb1 hb0 ?_).mono ?_
      · show A.F k (Bd.mux k (Bd.den (s.L ++ N) r) (Bd.den (s.L ++ N) 0))
        rw [d1, Bd.den_zero, ← suf_zero hk h0]; exact hsuf k (by omega)
      · rintro e w' ⟨r', rfl, hg⟩
        refine ⟨r', rfl, Grew.chain (N1 := N) m1 ?_⟩
        have e : Bd.mux k (Bd.den (s.L ++ N) r) (Bd.den (s.L ++ N) 0) = suf t k := by rw [d1, Bd.den_zero, ← suf_zero hk h0]
        rw [← e]; exact hg
    · refine (node_any (s := { s with L := s.L ++ N }) A t1 wi1 sb room kb hS1 hns1 hroom hr3 k 0 r hkb hlen hr1 hb0 hb1 ?_).mono ?_
      · show A.F k (Bd.mux k (Bd.den (s.L ++ N) 0) (Bd.den (s.L ++ N) r))
        rw [d1, Bd.den_zero, ← suf_one hk h0]; exact hsuf k (by omega)
      · rintro e w' ⟨r', rfl, hg⟩
        refine ⟨r', rfl, Grew.chain (N1 := N) m1 ?_⟩
        have e : Bd.mux k (Bd.den (s.L ++ N) 0) (Bd.den (s.L ++ N) r) = suf t k := by rw [d1, Bd.den_zero, ← suf_one hk h0]
        rw [← e]; exact hg
    · rw [suf_free h0 h1]; exact hG
  have H0 : Hid (Grew noX A w y s w 1 (suf t t.size)) := Grew.same hT hW (by omega) (by rw [Bd.den_one, suf_end]) (Below.refl _ _)
  have hsz : t.size ≤ 128 := by omega
  have hszI : (t.size : Int) ≤ 128 := by omega
  clear hT hW hS hns hroom hr3 ht hF hsuf lsb hf128
  go_enter Try.func60, Try.ntmps60
  go_wp2_with fail
  go_loopw [5, 6] (fun u i wr => ∃ k r : Nat, k ≤ t.size ∧ u = .int .i64 r ∧ i = .int .i64 ((k : Int) - 1) ∧ Hid (Grew noX A w y s wr r (suf t k))) (fun _ i _ => ((intOf i) + 1).toNat)
  case atStart => exact ⟨t.size, 1, Nat.le_refl _, rfl, rfl, H0.out⟩
  case round =>
    obtain ⟨k, r, hk, rfl, rfl, hG⟩ := hrel
    cases k with
    | zero =>
      go_wp2_with fail
      go_ret
      exact ⟨r, rfl, hG⟩
    | succ k =>
      have e1 : ((k + 1 : Nat) : Int) - 1 = (k : Int) := by omega
      rw [e1]
      have hkI : (k : Int) < (t.size : Int) := by omega
      have hk0 : (0 : Int) ≤ (k : Int) := by omega
      have HK := keep (H.out k r wr (by omega) hG)
      clear hG e1
      have hl : k < t.size := by omega
      have hg : t.data.toList.getD k 0 = t[k]'hl := by
        rw [List.getD_eq_getElem?_getD, List.getElem?_eq_getElem (by simpa using hl)]
        rfl
      by_cases h48 : t.data.toList.getD k 0 = 48
      · have hcn : ((t[k]'hl).toNat : Int) = 48 := by rw [← hg, h48]; rfl
        clear hg
        go_wp2_with (first | (go_at_call 86; refine (HK.out.1 h48).mono ?_; rintro e w' ⟨r', rfl, hG'⟩))
        go_roundw
        case rel => exact ⟨k, r', by omega, rfl, rfl, hG'⟩
        case measure => simp [intOf]
      · by_cases h49 : t.data.toList.getD k 0 = 49
        · have hcn : ((t[k]'hl).toNat : Int) = 49 := by rw [← hg, h49]; rfl
          clear hg
          go_wp2_with (first | (go_at_call 86; refine (HK.out.2.1 h49).mono ?_; rintro e w' ⟨r', rfl, hG'⟩))
          go_roundw
          case rel => exact ⟨k, r', by omega, rfl, rfl, hG'⟩
          case measure => simp [intOf]
        · have n1 : (((t[k]'hl).toNat : Int) == 48) = false := by
            rw [beq_eq_false_iff_ne]; intro h; exact h48 (by rw [hg]; exact UInt8.toNat.inj (by simp; omega))
          have n2 : (((t[k]'hl).toNat : Int) == 49) = false := by
            rw [beq_eq_false_iff_ne]; intro h; exact h49 (by rw [hg]; exact UInt8.toNat.inj (by simp; omega))
          have HG := keep (HK.out.2.2 h48 h49)
          clear hg
          go_wp2_with fail
          go_roundw
          case rel => exact ⟨k, r, by omega, rfl, rfl, HG.out⟩
          case measure => simp [intOf]
end Go.Proofs.Ytffngpdngjfcfaa
