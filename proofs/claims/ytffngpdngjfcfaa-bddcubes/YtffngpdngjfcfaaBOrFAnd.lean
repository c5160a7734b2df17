/-
  Proved: for every number of bits and every row of texts the law BddCubes answers true (the cubes of a function are apart, and together they are the function; the first of them is what Any tells), and leaves its arguments as they were. Conditions: none.
  The law BddCubes: the walk.
  The law BddCubes: what it makes of a function's texts.
  Ors of some cubes: their family; the laws' cubes, and what Or makes of them.
-/
import Derived.Test.YtffngpdngjfcfaaBAwakeAnd
import Derived.Test.YtffngpdngjfcfaaBFreeAnd
import Derived.Test.YtffngpdngjfcfaaBWayFAnd
import Derived.Test.YtffngpdngjfcfaaRows
import Derived.WalkKit
import Derived.ProofKit
import Derived.OpenShut
import Derived.ShutString
import Derived.SliceStrings
namespace Go.Proofs.Ytffngpdngjfcfaa
open Go.RowKit Go.Maps
open Bd (Nd ff tt iteF)

def orFam (nb c : Nat) (ts : List ByteArray) (hs : ∀ t, t ∈ ts → t.size = nb) (hl : ts.length ≤ c) : Bd.Fam nb (2 ^ c) where
  F k f := ∃ bs : List Bool, bs.length = ts.length ∧ f = orL ts bs k
  dep k f h := by
    obtain ⟨bs, _, rfl⟩ := h
    exact from_or ts bs k
  go k f b hk h := by
    obtain ⟨bs, hb, rfl⟩ := h
    obtain ⟨bs', hl', e⟩ := cof_or ts bs k b (fun t ht => by rw [hs t ht]; exact hk)
    exact ⟨bs', hl'.trans hb, e⟩
  en k j := orL ts (dec ts.length j) k
  all k f _ h := by
    obtain ⟨bs, hb, rfl⟩ := h
    have h1 := num_lt bs
    have h2 : 2 ^ bs.length ≤ 2 ^ c := Nat.pow_le_pow_right (by omega) (by omega)
    exact ⟨num bs, by omega, by rw [← hb, dec_num]⟩

/-- Just one of some. -/
def unit : Nat → Nat → List Bool
  | 0, _ => []
  | n + 1, 0 => true :: pre n 0
  | n + 1, i + 1 => false :: unit n i
theorem unit_length (n i : Nat) : (unit n i).length = n := by
  induction n generalizing i with
  | zero => rfl
  | succ n ih => cases i <;> simp [unit, ih, pre_length]
theorem or_unit (ts : List ByteArray) (i : Nat) (t : ByteArray) (h : ts[i]? = some t) (k : Nat) : orL ts (unit ts.length i) k = suf t k := by
  induction ts generalizing i with
  | nil => simp at h
  | cons t' ts ih =>
    cases i with
    | zero =>
      simp at h
      subst h
      funext x
      show ((true && suf t' k x) || orL ts (pre ts.length 0) k x) = suf t' k x
      rw [or_pre0]
      show ((true && suf t' k x) || false) = _
      simp
    | succ i =>
      funext x
      show ((false && suf t' k x) || orL ts (unit ts.length i) k x) = suf t k x
      rw [ih i (by simpa using h)]
      simp

/-- The texts that a law makes cubes of. -/
def firsts (ss : List ByteArray) (n : Nat) : List ByteArray := (List.range n).map fun i => ss.getD i ByteArray.empty
theorem firsts_length (ss : List ByteArray) (n : Nat) : (firsts ss n).length = n := by simp [firsts]
theorem firsts_at (ss : List ByteArray) {n i : Nat} (h : i < n) : (firsts ss n)[i]? = some (ss.getD i ByteArray.empty) := by
  unfold firsts
  rw [List.getElem?_map, List.getElem?_range h]; rfl
theorem firsts_mem {ss : List ByteArray} {n nb : Nat} (hall : ∀ i, i < n → (ss.getD i ByteArray.empty).size = nb) : ∀ t, t ∈ firsts ss n → t.size = nb := by
  intro t ht
  unfold firsts at ht
  rw [List.mem_map] at ht
  obtain ⟨i, hi, rfl⟩ := ht
  exact hall i (List.mem_range.1 hi)

theorem Made.refs {nb M : Nat} {A : Bd.Fam nb M} {B : Nat} {w0 w : World} {tb k : Nat} {ss : List ByteArray} {v : Value} {y : Lay} {L : List Nd} {roots ls ns : List Nat} (h : Made A B w0 w tb ss k v y L roots ls ns) : RefsAt w v ls := by
  rcases h.row.2 with ⟨e, h0⟩ | ⟨g, cap, cur, hv, _, hg, hc1, hc2, hc3, hc4⟩
  · have : ls = [] := List.length_eq_zero_iff.1 (by rw [h.len]; exact h0)
    subst this
    exact ⟨none, 0, by rw [e]; rfl, fun i r h => by simp at h⟩
  · refine ⟨some ⟨g, 0, none⟩, cap, by rw [hv, h.len], fun i r hi => ⟨g, 0, rfl, block_lt hg, ?_⟩⟩
    have hil := Bd.getElem?_lt hi
    have hl := h.len
    rw [cell_at hg, Nat.zero_add]
    have h1 : (cur.toList.take (k * 1))[i]? = (nums ls)[i]? := by rw [hc4]
    rw [List.getElem?_take_of_lt (by omega)] at h1
    rw [← Array.getElem?_toList, h1]
    unfold nums
    rw [List.getElem?_map, hi]; rfl

theorem made_or {nb c : Nat} {ss : List ByteArray} {n : Nat} {hs : ∀ t, t ∈ firsts ss n → t.size = nb} {hl : (firsts ss n).length ≤ c} {B : Nat} {w0 w : World} {tb : Nat} {v : Value} {y : Lay} {L : List Nd} {roots ls ns : List Nat}
    (h : Made (orFam nb c (firsts ss n) hs hl) B w0 w tb ss n v y L roots ls ns) (hn : n ≤ 1000) (hlim : nb * 2 ^ c ≤ 1048576) :
    Calls Try.prog 19 #[.pointer (some ⟨tb, 0, none⟩), v] w fun e w' => ∃ r : Nat, e = .returned (.tuple #[.int .i64 r, .int .i64 0]) ∧ Live (orFam nb c (firsts ss n) hs hl) B w0 w' tb (n + 1) [(r, orL (firsts ss n) (pre (firsts ss n).length n) 0)] [] := by
  have hR := h.refs
  obtain ⟨rfl, hT, hW, hf, hb, hy, hB, hlen, hrow, hap, hN, hd, hr⟩ := h
  have hnl : ns.length = n := by rw [hN.1, hlen]
  refine (Or_many (s := ⟨L, roots, 2, nb, 1048576⟩) (orFam nb c (firsts ss n) hs hl) hT hW (Nat.le_refl _) (by show roots.length + 1 ≤ _; omega) hlim v ls ns hR (by omega) hN (fun m hm => ?_) (fun k => orL (firsts ss n) (pre (firsts ss n).length k) 0) (or_pre0 _ _ 0).symm (fun k m hk => ?_)).mono ?_
  · obtain ⟨i, hi, e⟩ := List.mem_iff_getElem.1 hm
    exact (hd i m (by rw [List.getElem?_eq_getElem hi, e])).1
  · have hkn : k < n := by have := Bd.getElem?_lt hk; omega
    refine ⟨?_, pre (firsts ss n).length (k + 1), pre_length _ _, rfl⟩
    rw [(hd k m hk).2]
    exact or_step (firsts ss n) k _ (firsts_at ss hkn)
  · rintro e w' ⟨r, rfl, ht⟩
    refine ⟨r, rfl, ?_⟩
    rw [hnl] at ht
    exact live_told hf hb hy hB (fs := []) (hs := []) (fun p hp => by simp at hp) (fun q hq => by simp at hq) ht

/-- The laws' cubes, and the or of them. -/
theorem cubes_or {bits : Int} (c : Nat) (hc : c ≤ 12) (a0 : Option Addr) (len cap : Nat) (ss : List ByteArray) (w : World) (h12 : len ≤ c) (hv : Came w a0 len cap ss) :
    Calls Try.prog 18 #[.int .i64 bits, .slice a0 len cap] w fun e w' => (∃ p v, e = .returned (.tuple #[p, v, .bool false]) ∧ Below w.heap.size w w') ∨ (∃ (tb nb : Nat) (v : Value) (A : Bd.Fam nb (2 ^ c)) (f : Bd.Fn), bits = (nb : Int) ∧ 1 ≤ nb ∧ nb ≤ 128 ∧ (A.F 0 f ∧ ∀ k, A.F k ff) ∧ e = .returned (.tuple #[.pointer (some ⟨tb, 0, none⟩), v, .bool true]) ∧
      Hid (Calls Try.prog 19 #[.pointer (some ⟨tb, 0, none⟩), v] w' fun e w'' => ∃ r : Nat, e = .returned (.tuple #[.int .i64 r, .int .i64 0]) ∧ Live A w.heap.size w w'' tb (len + 1) [(r, f)] [])) := by
  by_cases hok : 1 ≤ bits ∧ bits ≤ 128
  · obtain ⟨nb, rfl⟩ : ∃ nb : Nat, bits = (nb : Int) := ⟨bits.toNat, by omega⟩
    have h1 : 1 ≤ nb := by omega
    have h2 : nb ≤ 128 := by omega
    have hpow : 2 ^ c ≤ 4096 := Nat.pow_le_pow_right (n := 2) (by omega) (show c ≤ 12 from hc)
    have hlim : nb * 2 ^ c ≤ 1048576 := Nat.le_trans (Nat.mul_le_mul h2 hpow) (by omega)
    have hsl : ∀ i, i < len → i < ss.length := fun i hi => (text_of hv hi).choose_spec.choose_spec.2.2.2
    by_cases hall : ∀ i, i < len → (ss.getD i ByteArray.empty).size = nb
    · have hl : (firsts ss len).length ≤ c := by rw [firsts_length]; exact h12
      refine (cubes_any (orFam nb c (firsts ss len) (firsts_mem hall) hl) a0 len cap ss w h1 h2 hlim (by omega) hv ?_).mono ?_
      · intro i hi _ _
        exact ⟨unit (firsts ss len).length i, unit_length _ _, (or_unit _ _ _ (firsts_at ss hi) 0).symm⟩
      · rintro e w' (h | ⟨tb, v, rfl, y, L, roots, ls, ns, hM⟩)
        · exact Or.inl h
        · exact Or.inr ⟨tb, nb, v, orFam nb c (firsts ss len) (firsts_mem hall) hl, orL (firsts ss len) (pre (firsts ss len).length len) 0, rfl, h1, h2, ⟨⟨pre (firsts ss len).length len, pre_length _ _, rfl⟩, fun k => ⟨pre (firsts ss len).length 0, pre_length _ _, (or_pre0 _ _ k).symm⟩⟩, rfl, made_or hM (by omega) hlim⟩
    · refine (cubes_any (refFam nb ss) a0 len cap ss w h1 h2 (by omega) (by omega) hv ?_).mono ?_
      · intro i hi hsz _
        refine Or.inl ⟨ss.getD i ByteArray.empty, ?_, rfl⟩
        unfold fitting
        rw [List.mem_filter]
        refine ⟨?_, by simpa using hsz⟩
        have hks := hsl i hi
        rw [List.getD_eq_getElem?_getD, List.getElem?_eq_getElem hks]
        refine List.mem_iff_getElem.2 ⟨i, by rw [List.length_take]; omega, ?_⟩
        rw [List.getElem_take]; rfl
      · rintro e w' (h | ⟨tb, v, rfl, y, L, roots, ls, ns, hM⟩)
        · exact Or.inl h
        · exact absurd (fun i hi => (hM.right i hi).1) hall
  · exact (cubes_bad bits (by omega) _ w).mono fun e w' h => Or.inl h
end Go.Proofs.Ytffngpdngjfcfaa
namespace Go.Proofs.Ytffngpdngjfcfaa
open Go.RowKit Go.Maps
open Bd (Nd ff tt iteF)

theorem way_fuel {L : List Nd} (hL : Falls L) : ∀ n k l, n < k → n < L.length + 2 → way L k n l = way L (n + 1) n l := by
  intro n
  induction n using Nat.strongRecOn with
  | ind n ih =>
    intro k l hk hn
    cases k with
    | zero => omega
    | succ k =>
      rw [way_succ, way_succ]
      by_cases h : n < 2
      · rw [if_pos h, if_pos h]
      · rw [if_neg h, if_neg h]
        obtain ⟨a, b⟩ := node_falls hL (n := n) (by omega) hn
        rw [ih _ a k _ (by omega) (by omega), ih _ a n _ (by omega) (by omega), ih _ b k _ (by omega) (by omega), ih _ b n _ (by omega) (by omega)]
theorem way_alike {bits : Nat} {L L' : List Nd} (hL : Bd.Okay bits L) (hL' : Bd.Okay bits L') : ∀ k n n' l, Rel L L' n n' → way L k n l = way L' k n' l := by
  intro k
  induction k with
  | zero => intro n n' l _; rfl
  | succ k ih =>
    intro n n' l hr
    have h2 := rel_two hL hL' hr
    rw [way_succ, way_succ]
    by_cases h : n < 2
    · rw [if_pos h, if_pos (h2.1 h), rel_end hL' hr h]
    · rw [if_neg h, if_neg (fun e => h (h2.2 e))]
      obtain ⟨r1, r2, r3⟩ := rel_half hL hL' hr (by omega)
      have e : (nodeOf L n).1 = (nodeOf L' n').1 := r3
      have r1' : Rel L L' (nodeOf L n).2.1 (nodeOf L' n').2.1 := r1
      have r2' : Rel L L' (nodeOf L n).2.2 (nodeOf L' n').2.2 := r2
      rw [ih _ _ _ r1', ih _ _ _ r2', e]
/-- The texts of a function, whatever the table. -/
def TextsFn (nb : Nat) (f : Bd.Fn) (T : List (List UInt8)) : Prop := ∃ L n, Bd.Okay nb L ∧ n < L.length + 2 ∧ Bd.den L n = f ∧ T = textsOf nb L n
theorem texts_one {nb : Nat} {f : Bd.Fn} {T T' : List (List UInt8)} (h : TextsFn nb f T) (h' : TextsFn nb f T') : T = T' := by
  obtain ⟨L, n, a1, a2, a3, rfl⟩ := h
  obtain ⟨L', n', b1, b2, b3, rfl⟩ := h'
  have hr : Rel L L' n n' := ⟨a2, b2, a3.trans b3.symm⟩
  have := way_alike a1 b1 (n + n' + 1) n n' (List.replicate nb 120) hr
  rw [way_fuel a1.falls n _ _ (by omega) a2, way_fuel b1.falls n' _ _ (by omega) b2] at this
  exact this

/-- Texts, the functions of the first ones together, and their family. -/
structure LawW (nb M : Nat) (A : Bd.Fam nb M) (S : Nat → Bd.Fn) (T : List (List UInt8)) (f : Bd.Fn) : Prop where
  start : S 0 = ff
  done : S T.length = f
  none_ : A.F 0 ff
  sums : ∀ i, i ≤ T.length → A.F 0 (S i)
  each : ∀ i t, T[i]? = some t → t.length = nb ∧ Cu.right t = true ∧ A.F 0 (suf ⟨t.toArray⟩ 0) ∧ iteF (S i) (suf ⟨t.toArray⟩ 0) ff = ff ∧ iteF (S i) tt (suf ⟨t.toArray⟩ 0) = S (i + 1) ∧ suf ⟨t.toArray⟩ 0 ≠ ff

theorem suf_some (t : List UInt8) : suf ⟨t.toArray⟩ 0 ≠ ff := by
  intro e
  have h : suf ⟨t.toArray⟩ 0 (fun j => decide (t.getD j 0 = 49)) = true := by
    rw [suf_true]
    intro i _ _
    show (t.getD i 0 = 48 → _) ∧ (t.getD i 0 = 49 → _)
    exact ⟨fun e => by rw [e]; rfl, fun e => by rw [e]; rfl⟩
  rw [e] at h
  cases h
theorem suf_blank (n : Nat) (h : Nat → Bool) : suf ⟨(List.replicate n 120).toArray⟩ 0 h = true := by
  rw [suf_true]
  intro i hi _
  have hi' : i < n := by simpa [ByteArray.size] using hi
  show ((List.replicate n (120 : UInt8)).getD i 0 = 48 → _) ∧ ((List.replicate n (120 : UInt8)).getD i 0 = 49 → _)
  rw [List.getD_eq_getElem?_getD, List.getElem?_replicate, if_pos hi']
  exact ⟨fun e => absurd e (by decide), fun e => absurd e (by decide)⟩

def bytesOf (l : List UInt8) : ByteArray := ⟨l.toArray⟩
theorem lawW_of {nb M : Nat} {A : Bd.Fam nb M} (hff : ∀ k, A.F k ff) {L : List Nd} (hL : Bd.Okay nb L) (h1 : 1 ≤ nb) {n : Nat} (hn : n < L.length + 2) (hA : A.F 0 (Bd.den L n)) (h200 : (textsOf nb L n).length ≤ 200) :
    ∃ (A' : Bd.Fam nb (M + 512)), (∀ k f, A.F k f → A'.F k f) ∧ LawW nb (M + 512) A' (part L (n + 1) n) (textsOf nb L n) (Bd.den L n) := by
  have h128 := hL.few
  have hlen : (textsOf nb L n).length = ways L (n + 1) n := way_length _ _ _ _
  have hsym : ∀ c, c ∈ List.replicate nb (120 : UInt8) → c = 48 ∨ c = 49 ∨ c = 120 := fun c hc => Or.inr (Or.inr (List.eq_of_mem_replicate hc))
  have hat : ∀ i t, (textsOf nb L n)[i]? = some t → t.length = nb ∧ (∀ c, c ∈ t → c = 48 ∨ c = 49 ∨ c = 120) ∧ ∀ h, suf ⟨t.toArray⟩ 0 h = path L (n + 1) n i h := by
    intro i t ht
    obtain ⟨a, b, c⟩ := way_at hL (n + 1) n (List.replicate nb 120) i t (by omega) hn (by simp) (lets_free _ _) hsym ht
    exact ⟨a, b, fun h => by rw [c h, suf_blank, Bool.true_and]⟩
  have hT : ∀ t, t ∈ (textsOf nb L n).map bytesOf → t.size = nb := by
    intro t ht
    rw [List.mem_map] at ht
    obtain ⟨l, hl, rfl⟩ := ht
    obtain ⟨i, hi, e⟩ := List.mem_iff_getElem.1 hl
    have := (hat i l (by rw [List.getElem?_eq_getElem hi, e])).1
    simpa [bytesOf, ByteArray.size] using this
  refine ⟨wayFam A hff hL n hn hA ((textsOf nb L n).map bytesOf) hT (by rw [List.length_map]; exact h200), fun k f h => Or.inl h, ⟨part_none _ _, by rw [hlen]; exact part_all hL _ _ (by omega) hn, Or.inl (hff 0), fun i hi => wayFam_part (by omega), fun i t ht => ?_⟩⟩
  obtain ⟨a, b, c⟩ := hat i t ht
  have hi : i < ways L (n + 1) n := by rw [← hlen]; exact Bd.getElem?_lt ht
  have ha := part_apart hL (n + 1) n i (by omega) hn hi
  have hs := part_step hL (n + 1) n i (by omega) hn hi
  refine ⟨a, ?_, Or.inr (Or.inl ⟨bytesOf t, List.mem_map.2 ⟨t, List.mem_of_getElem? ht, rfl⟩, rfl⟩), ?_, ?_, suf_some t⟩
  · unfold Cu.right
    rw [Bool.and_eq_true, Bool.and_eq_true, List.all_eq_true]
    refine ⟨⟨fun x hx => ?_, by simp; omega⟩, by simp; omega⟩
    rcases b x hx with e | e | e <;> subst e <;> decide
  · funext h
    unfold iteF
    rw [c h]
    have := ha h
    cases hp : part L (n + 1) n i h
    · rfl
    · rw [hp] at this; simpa [ff] using this
  · funext h
    unfold iteF
    rw [c h, hs h]
    cases part L (n + 1) n i h <;> simp [tt]

/-- Texts in memory. -/
def TextsAt (w : World) (v : Value) (T : List (List UInt8)) : Prop := ∃ ao cap, v = .slice ao T.length cap ∧ ∀ i t, T[i]? = some t → ∃ g, ao = some ⟨g, 0, none⟩ ∧ w.cell? ⟨g, i, none⟩ = some (.string ⟨t.toArray⟩)
theorem texts_at {w : World} {v : Value} {T : List (List UInt8)} (h : w.ownsRow 0 9 1 v T.length (strs T)) : ∃ hs : List (Nat × Obj), (∀ q, q ∈ hs → v.ownBlock = some q.1 ∧ w.heap[q.1]? = some q.2) ∧ ∀ W : World, (∀ q, q ∈ hs → W.heap[q.1]? = some q.2) → TextsAt W v T := by
  rcases h.2 with ⟨e, h0⟩ | ⟨g, cap, cur, hv, _, hg, hc1, hc2, hc3, hc4⟩
  · refine ⟨[], fun q hq => by simp at hq, fun W _ => ⟨none, 0, by rw [e, h0], fun i t ht => ?_⟩⟩
    have := Bd.getElem?_lt ht
    omega
  · refine ⟨[(g, .cells cur 9 (0, 0))], fun q hq => ?_, fun W hW => ⟨some ⟨g, 0, none⟩, cap, hv, fun i t ht => ⟨g, rfl, ?_⟩⟩⟩
    · simp at hq; subst hq; exact ⟨by rw [hv]; rfl, hg⟩
    · have hw := hW _ List.mem_cons_self
      have hi := Bd.getElem?_lt ht
      rw [cell_at hw]
      have h1 : (cur.toList.take (T.length * 1))[i]? = (strs T)[i]? := by rw [hc4]
      rw [List.getElem?_take_of_lt (by omega)] at h1
      rw [← Array.getElem?_toList, h1]
      unfold strs
      rw [List.getElem?_map, ht]; rfl

section
variable {nb M : Nat} {A : Bd.Fam nb M} {B : Nat} {w0 w w' : World} {tb K : Nat} {fs : List (Nat × Bd.Fn)} {hs : List (Nat × Obj)}
theorem Live.ff (h : Live A B w0 w tb K fs hs) {f : Bd.Fn} (hr : (0, f) ∈ fs) : f = ff := by
  obtain ⟨y, L, roots, e, hT, hW, hK, hb0, hy, hB, hf, hh⟩ := h.ex
  obtain ⟨m, a1, a2, a3⟩ := hf _ hr
  have : (0 : Nat) = m := Option.some.inj a1
  subst this
  exact a3.symm.trans (Bd.den_zero _)
theorem Live.sub (h : Live A B w0 w tb K fs hs) {fs' : List (Nat × Bd.Fn)} {K' : Nat} (hK' : K ≤ K') (hs' : ∀ p, p ∈ fs' → p ∈ fs) : Live A B w0 w tb K' fs' hs := by
  obtain ⟨y, L, roots, e, hT, hW, hK, hb0, hy, hB, hf, hh⟩ := h.ex
  exact ⟨y, L, roots, e, hT, hW, Nat.le_trans hK hK', hb0, hy, hB, fun p hp => hf p (hs' p hp), hh⟩
theorem live_cube (h : Live A B w0 w tb K fs hs) (hK : K < 1000000) (hlim : nb * M ≤ 1048576) (t : List UInt8) (hl : t.length = nb) (hr : Cu.right t = true) (hF : A.F 0 (suf ⟨t.toArray⟩ 0)) :
    Calls Try.prog 25 #[.pointer (some ⟨tb, 0, none⟩), .string ⟨t.toArray⟩] w fun e w' => ∃ r' : Nat, e = .returned (.tuple #[.int .i64 r', .int .i64 0]) ∧ Live A B w0 w' tb (K + 1) ((r', suf ⟨t.toArray⟩ 0) :: fs) hs := by
  obtain ⟨y, L, roots, rfl, hT, hW, hK', hb0, hy, hB, hf, hh⟩ := h.ex
  refine (Cube_ok (s := ⟨L, roots, 2, nb, 1048576⟩) A hT hW (Nat.le_refl _) (by show roots.length + 1 ≤ _; omega) hlim ⟨t.toArray⟩ (by simpa [ByteArray.size] using hl) hr hF).mono ?_
  rintro e w' ⟨r', rfl, ht⟩
  exact ⟨r', rfl, live_told hK' hb0 hy hB hf hh ht⟩
theorem live_cubes (h : Live A B w0 w tb K fs []) (h1 : 1 ≤ nb) (hff : ∀ k, A.F k Bd.ff) {r : Nat} {f : Bd.Fn} (hr : (r, f) ∈ fs) (hA : A.F 0 f) :
    Calls Try.prog 24 #[.pointer (some ⟨tb, 0, none⟩), .int .i64 r, .int .i64 2000] w fun e w' => (e = .returned (.tuple #[.slice none 0 0, .int .i64 3]) ∧ Below B w0 w') ∨
      (∃ (T : List (List UInt8)) (v : Value) (hs : List (Nat × Obj)), e = .returned (.tuple #[v, .int .i64 0]) ∧ Below B w0 w' ∧ TextsFn nb f T ∧ (∀ W : World, (∀ q, q ∈ hs → W.heap[q.1]? = some q.2) → TextsAt W v T) ∧ TextsAt w' v T ∧ (T.length ≤ 200 → ∃ (A' : Bd.Fam nb (M + 512)) (S : Nat → Bd.Fn), LawW nb (M + 512) A' S T f ∧ Live A' B w0 w' tb K fs hs)) := by
  obtain ⟨y, L, roots, rfl, hT, hW, hK, hb0, hy, hB, hf, hh⟩ := h.ex
  obtain ⟨m, a1, a2, a3⟩ := hf _ hr
  have a3' : Bd.den L m = f := a3
  subst a3'
  refine (Cubes_ok (s := ⟨L, roots, 2, nb, 1048576⟩) hT (Nat.le_refl _) r m a1 a2).mono ?_
  rintro e w' (⟨rfl, hb⟩ | ⟨v, rfl, hrow, hg, hb⟩)
  · exact Or.inl ⟨rfl, hb0.trans (hb.mono hB)⟩
  · obtain ⟨hs, hq, hTA⟩ := texts_at hrow
    refine Or.inr ⟨textsOf nb L m, v, hs, rfl, hb0.trans (hb.mono hB), ⟨L, m, hT.okay, a2, rfl, rfl⟩, hTA, hTA w' (fun q h => (hq q h).2), fun h200 => ?_⟩
    obtain ⟨A', hAA, hLW⟩ := lawW_of hff hT.okay h1 a2 hA h200
    refine ⟨A', _, hLW, y, L, roots, rfl, hT.below hb, fun i x hx => hAA _ _ (hW i x hx), hK, hb0.trans (hb.mono hB), hy, Nat.le_trans hB hb.size, hf, fun q hqq => ?_⟩
    obtain ⟨q1, q2⟩ := hq q hqq
    exact ⟨q2, fun ho => by have := hg _ q1; have := hT.lt ho; omega⟩
theorem live_any (h : Live A B w0 w tb K fs hs) {r : Nat} {f : Bd.Fn} (hr : (r, f) ∈ fs) :
    Calls Try.prog 26 #[.pointer (some ⟨tb, 0, none⟩), .int .i64 r] w fun e w' => ∃ T, TextsFn nb f T ∧ Live A B w0 w' tb K fs hs ∧ ((T.length = 0 ∧ e = .returned (.tuple #[.string ByteArray.empty, .bool false, .int .i64 0])) ∨ ∃ t, T[0]? = some t ∧ e = .returned (.tuple #[.string ⟨t.toArray⟩, .bool true, .int .i64 0])) := by
  have h0 := h
  obtain ⟨y, L, roots, rfl, hT, hW, hK, hb0, hy, hB, hf, hh⟩ := h.ex
  obtain ⟨m, a1, a2, a3⟩ := hf _ hr
  have a3' : Bd.den L m = f := a3
  subst a3'
  refine (Any_ok (s := ⟨L, roots, 2, nb, 1048576⟩) hT (Nat.le_refl _) r m a1 a2).mono ?_
  rintro e w' (⟨rfl, rfl, hb⟩ | ⟨hm, rfl, hb⟩)
  · exact ⟨textsOf nb L 0, ⟨L, 0, hT.okay, a2, rfl, rfl⟩, h0.below hb, Or.inl ⟨rfl, rfl⟩⟩
  · exact ⟨textsOf nb L m, ⟨L, m, hT.okay, a2, rfl, rfl⟩, h0.below hb, Or.inr ⟨_, way_first hT.okay _ _ _ (by omega) a2 hm, rfl⟩⟩
end
end Go.Proofs.Ytffngpdngjfcfaa
namespace Go.Proofs.Ytffngpdngjfcfaa
open Go.RowKit Go.Maps
open Bd (Nd ff tt iteF)

set_option maxRecDepth 8000 in
set_option maxHeartbeats 4000000 in
theorem cubesL_out (bits : Int) (a0 : Option Addr) (len cap : Nat) (w : World) (h : (8 < (len : Int)) = True) :
    Calls Try.prog 7 #[.int .i64 bits, .slice a0 len cap] w fun e w' => e = .returned (.bool true) ∧ Below w.heap.size w w' := by
  go_enter Try.func7, Try.ntmps7
  go_wp2_with fail
  refine (awake_any w).mono ?_
  rintro e w1 ⟨rfl, hb⟩
  have HB := keep hb
  clear hb
  go_wp2
  go_ret
  exact ⟨rfl, HB.out⟩

set_option maxRecDepth 8000 in
set_option maxHeartbeats 20000000 in
theorem cubesL_in (bits : Int) (a0 : Option Addr) (len cap : Nat) (ss : List ByteArray) (w : World) (hv : Came w a0 len cap ss) (hN : len ≤ 8) :
    Calls Try.prog 7 #[.int .i64 bits, .slice a0 len cap] w fun e w' => e = .returned (.bool true) ∧ Below w.heap.size w w' := by
  have HV := keep hv
  have HN := keep hN
  have h : (8 < (len : Int)) = False := eq_false (by omega)
  clear hv hN
  go_enter Try.func7, Try.ntmps7
  go_wp2_with fail
  refine (awake_any w).mono ?_
  rintro e w1 ⟨rfl, hb⟩
  have HB := keep hb
  have HV1 : Hid (Came w1 a0 len cap ss) := came_below HV.out hb
  clear hb
  go_wp2_with fail
  refine (cubes_or (bits := bits) 8 (by omega) a0 len cap ss w1 HN.out HV1.out).mono ?_
  rintro e w2 (⟨p, v, rfl, hb⟩ | ⟨tb, nb, v, A, f, rfl, n1, n2, hAf, rfl, HOR⟩)
  · have HB2 := keep hb
    clear hb
    go_wp2
    go_ret
    exact ⟨rfl, HB.out.trans (HB2.out.mono HB.out.size)⟩
  · have HNB := keep (And.intro n1 n2)
    have HLIM := keep (show nb * (2 ^ 8 + 512) ≤ 1048576 by omega)
    have HAF := keep hAf
    have HLE := keep (show len ≤ 8 from HN.out)
    clear n1 n2 HV HV1 hAf HN h
    go_wp2_with fail
    refine HOR.out.mono ?_
    rintro e w3 ⟨ra, rfl, h⟩
    have H3 := keep h
    clear h HOR
    go_wp2_with fail
    refine (live_cubes H3.out HNB.out.1 HAF.out.2 (.head _) HAF.out.1).mono ?_
    rintro e w4 (⟨rfl, hb⟩ | ⟨T, u, hs, rfl, hb, hTF, hTA, hTw, hlaw⟩)
    · have HB4 := keep hb
      clear hb H3
      go_wp2
      go_ret
      exact ⟨rfl, HB.out.trans (HB4.out.mono HB.out.size)⟩
    · obtain ⟨ao, cp, rfl, hcw⟩ := hTw
      have HTF := keep hTF
      have HTA := keep hTA
      have HB4 := keep hb
      obtain ⟨n, hn⟩ : ∃ n, n = T.length := ⟨_, rfl⟩
      have HNT := keep hn
      rw [← hn] at HTA ⊢
      by_cases h200 : n ≤ 200
      · obtain ⟨A', S, hLW, hL⟩ := hlaw (by omega)
        have HLW := keep hLW
        have H4 : Hid (∃ rs : Nat, rs = 0 ∧ Live A' w1.heap.size w1 w4 tb 20 [(rs, S 0), (ra, f)] hs) := ⟨0, rfl, hL.ends.sub (by have := HLE.out; omega) (fun p hp => by
          rw [hLW.start] at hp
          rcases List.mem_cons.1 hp with e | hp
          · rw [e]; exact .head _
          · rcases List.mem_cons.1 hp with e | hp
            · rw [e]; exact .tail _ (.tail _ (.head _))
            · simp at hp)⟩
        have hI : (200 < (n : Int)) = False := eq_false (by omega)
        clear hTF hTA hb hlaw hcw hn hLW hL H3 HAF HB4
        go_wp2_with fail
        go_loopw [12, 13] (fun u i wr => ∃ k rs : Nat, k ≤ n ∧ u = .int .i64 rs ∧ i = .int .i64 k ∧ Hid (Live A' w1.heap.size w1 wr tb (20 + 3 * k) [(rs, S k), (ra, f)] hs)) (fun _ i _ => n - (intOf i).toNat)
        case atStart =>
          obtain ⟨rs, e, h⟩ := H4.out
          subst e
          exact ⟨0, 0, Nat.zero_le _, rfl, rfl, h⟩
        case round =>
          clear H4 hI
          obtain ⟨k, rs, hk, rfl, rfl, H⟩ := hrel
          by_cases hlt : k < n
          · obtain ⟨t, ht⟩ : ∃ t, T[k]? = some t := ⟨T[k]'(by rw [← HNT.out]; exact hlt), List.getElem?_eq_getElem _⟩
            obtain ⟨t1, t2, t3, t4, t5, t6⟩ := HLW.out.each k t ht
            obtain ⟨ao', cp', e, hcells⟩ := HTA.out wr (fun q hq => H.out.held hq)
            obtain ⟨g, hg, hcell⟩ := hcells k t ht
            have ea : ao = some ⟨g, 0, none⟩ := by cases e; exact hg
            subst ea
            have HQ1 : Hid (Calls Try.prog 25 #[.pointer (some ⟨tb, 0, none⟩), .string ⟨t.toArray⟩] wr fun e w' => ∃ c : Nat, e = .returned (.tuple #[.int .i64 c, .int .i64 0]) ∧ c ≠ 0 ∧
              Hid (Calls Try.prog 21 #[.pointer (some ⟨tb, 0, none⟩), .slice (some ⟨w'.heap.size, 0, none⟩) 2 2] (w'.alloc (.cells #[.int .i64 rs, .int .i64 c] 25)) fun e w'' => e = .returned (.tuple #[.int .i64 0, .int .i64 0]) ∧
                Hid (Calls Try.prog 19 #[.pointer (some ⟨tb, 0, none⟩), .slice (some ⟨w''.heap.size, 0, none⟩) 2 2] (w''.alloc (.cells #[.int .i64 rs, .int .i64 c] 25)) fun e w3 => ∃ u : Nat, e = .returned (.tuple #[.int .i64 u, .int .i64 0]) ∧ Hid (Live A' w1.heap.size w1 w3 tb (20 + 3 * (k + 1)) [(u, S (k + 1)), (ra, f)] hs)))) := by
              refine (live_cube H.out (by omega) HLIM.out t t1 t2 t3).mono ?_
              rintro e w' ⟨c, rfl, h1⟩
              refine ⟨c, rfl, fun e => t6 ((e ▸ h1).ff (.head _)), ?_⟩
              refine (live_and2 h1 (by omega) HLIM.out (.tail _ (.head _)) (.head _) (HLW.out.sums k (by have := HNT.out; omega)) (t4.symm ▸ HLW.out.none_)).mono ?_
              rintro e w'' ⟨d, rfl, h2⟩
              have hd : d = 0 := (h2.as t4).ends.one (f := ff) (.tail _ (.tail _ (.head _))) (.head _)
              subst hd
              refine ⟨rfl, ?_⟩
              refine (live_or2 h2 (by omega) HLIM.out (.tail _ (.tail _ (.head _))) (.tail _ (.head _)) (HLW.out.sums k (by have := HNT.out; omega)) (t5.symm ▸ HLW.out.sums (k + 1) (by have := HNT.out; omega))).mono ?_
              rintro e w3 ⟨u, rfl, h3⟩
              refine ⟨u, rfl, (h3.as t5).sub (by omega) (fun p hp => ?_)⟩
              rcases List.mem_cons.1 hp with e | hp
              · rw [e]; exact .head _
              · rcases List.mem_cons.1 hp with e | hp
                · rw [e]; exact .tail _ (.tail _ (.tail _ (.tail _ (.head _))))
                · simp at hp
            have hkI : (0 : Int) ≤ (k : Int) := by omega
            have hkI2 : (k : Int) < (n : Int) := by omega
            have hnI : (n : Int) ≤ 200 := by omega
            clear H hcells e t1 t2 t3 t4 t5 t6 ht hg
            generalize (⟨t.toArray⟩ : ByteArray) = tx at hcell HQ1
            go_wp2_with fail
            refine HQ1.out.mono ?_
            rintro e w5 ⟨c, rfl, hc, HQ2⟩
            have hcI : ((c : Int) == 0) = false := by rw [beq_eq_false_iff_ne]; omega
            clear HQ1 hcell hc
            go_wp2_with fail
            refine HQ2.out.mono ?_
            rintro e w6 ⟨rfl, HQ3⟩
            clear HQ2
            go_wp2_with fail
            refine HQ3.out.mono ?_
            rintro e w7 ⟨u, rfl, HD⟩
            clear HQ3
            go_wp2
            go_roundw
            case rel => exact ⟨k + 1, u, by omega, rfl, by go_num, HD.out⟩
            case measure => simp [intOf]; omega
          · have hkn : k = n := by omega
            have hd := HLW.out.done
            rw [← HNT.out, ← hkn] at hd
            have hsr : rs = ra := (H.out.as hd).one (f := f) (.head _) (.tail _ (.head _))
            have HAN : Hid (Calls Try.prog 26 #[.pointer (some ⟨tb, 0, none⟩), .int .i64 ra] wr fun e w' => (Below w1.heap.size w1 w' ∧ n = 0 ∧ e = .returned (.tuple #[.string ByteArray.empty, .bool false, .int .i64 0])) ∨ ∃ (t : ByteArray) (g : Nat), Below w1.heap.size w1 w' ∧ 0 < n ∧ ao = some ⟨g, 0, none⟩ ∧ w'.cell? ⟨g, 0, none⟩ = some (.string t) ∧ e = .returned (.tuple #[.string t, .bool true, .int .i64 0])) := by
              refine (live_any H.out (.tail _ (.head _))).mono ?_
              rintro e w' ⟨T', hT', hL', h⟩
              have := texts_one HTF.out hT'
              subst this
              rcases h with ⟨h1, rfl⟩ | ⟨t, ht, rfl⟩
              · exact Or.inl ⟨hL'.out, by rw [HNT.out]; exact h1, rfl⟩
              · obtain ⟨ao', cp', e, hcells⟩ := HTA.out w' (fun q hq => hL'.held hq)
                obtain ⟨g, hg, hcell⟩ := hcells 0 t ht
                have ea : ao = some ⟨g, 0, none⟩ := by cases e; exact hg
                exact Or.inr ⟨⟨t.toArray⟩, g, hL'.out, by rw [HNT.out]; exact Bd.getElem?_lt ht, ea, hcell, rfl⟩
            subst hkn
            subst hsr
            have hltI : ¬ (k : Int) < (k : Int) := by omega
            have hre : ((rs : Int) == (rs : Int)) = true := by simp
            clear H hlt HTA hd
            go_wp2_with fail
            refine HAN.out.mono ?_
            rintro e w5 (⟨hb5, h0, rfl⟩ | ⟨t, g, hb5, h0, rfl, hcell, rfl⟩)
            · have HB5 := keep hb5
              subst h0
              clear hb5 HAN
              go_wp2
              go_ret
              exact ⟨by simp, HB.out.trans (HB5.out.mono HB.out.size)⟩
            · have HB5 := keep hb5
              have hp : ((0 : Int) < (k : Int)) = True := eq_true (by omega)
              have hp2 : 0 < k := h0
              clear hb5 HAN
              go_wp2
              go_ret
              exact ⟨by simp, HB.out.trans (HB5.out.mono HB.out.size)⟩
      · have hI : (200 < (n : Int)) = True := eq_true (by omega)
        clear hTF hTA hb hlaw hcw hn H3
        go_wp2
        go_ret
        exact ⟨rfl, HB.out.trans (HB4.out.mono HB.out.size)⟩

theorem cubesL_any (bits : Int) (a0 : Option Addr) (len cap : Nat) (ss : List ByteArray) (w : World) (hv : Came w a0 len cap ss) :
    Calls Try.prog 7 #[.int .i64 bits, .slice a0 len cap] w fun e w' => e = .returned (.bool true) ∧ Below w.heap.size w w' := by
  by_cases h3 : len ≤ 8
  · exact cubesL_in bits a0 len cap ss w hv h3
  · exact cubesL_out bits a0 len cap w (eq_true (by omega))
end Go.Proofs.Ytffngpdngjfcfaa
namespace Go.Proofs.Ytffngpdngjfcfaa
open Go.ChangeShapes Go.WideShapes Go.ChangeAt Go.RowKit
open Go.ChangeMaps (open_string shut_string)

theorem BCCubes.own : ownKnob Try.prog.godebug = none := by kernel_rfl
theorem BCCubes.laidOut : laidOutB Try.prog = true := by kernel_rfl

set_option maxRecDepth 100000 in
theorem BCCubes.lifted (os : Os) (started : os.Started) (H : Type) (enc : TypeId × Value → H) :
    ReturnsInHanded {} Try.checked os 7 .any (Rows.bddCubesSpec.pre6 enc Try.prog Try.f7 Rows.bddCubesRow.domain false) (Rows.bddCubesSpec.post enc Try.prog Try.f7 false true false false) := by
  refine returnsInHanded_of_change (C := Try.checked) BCCubes.own started (by kernel_rfl) Try.func7
    (ChangeSpec.witness6 (enc := enc) (C := Try.checked) false ⟨#[], #[.int .i64 0, .slice none 0 0], []⟩ 8 (by kernel_rfl) (by kernel_rfl) (by kernel_rfl) (by kernel_rfl)) ?_
  intro W base args ds gs before hval0 hW hcnd _
  have hval : ∀ (j : Nat) t v, Try.f7.params[j]? = some t → args[j]? = some v → Value.okWide Try.prog W .any base t v := hval0
  have hW' := hW
  obtain ⟨p, q, hA0, hV, rfl, hfz, hnd⟩ := hW
  have hA : DataW.TrodAll enc Try.prog W 0 (fun _ => true) true Try.f7.params.toList args.toList ds p := hA0
  rw [Try.params7] at hA hval
  obtain ⟨v0, vs0, d0, ds0, p0, q0, hargs, rfl, rfl, h0, r0⟩ := trodAll_cons hA
  obtain ⟨v1, vs1, d1, ds1, p1, q1, rfl, rfl, rfl, h1, r1⟩ := trodAll_cons r0
  obtain ⟨rfl, rfl, rfl⟩ := trodAll_nil r1
  obtain rfl : args = #[v0, v1] := by cases args; simp_all
  obtain ⟨rfl, rfl⟩ := trodVars_none hV
  obtain ⟨a0, rfl, rfl, rfl, w0⟩ := open_int Try.underlying3 (hval 0 3 v0 rfl rfl) h0
  obtain ⟨a1, len1, cap1, rfl⟩ := okWide_slice Try.underlying22 (hval 1 22 v1 rfl rfl)
  have k1 := h1
  have lt1 : ∀ x ∈ p1, x.block < W.heap.size := by obtain ⟨m, hm⟩ := k1; exact DataW.trod_lt m _ _ _ hm
  obtain ⟨ss, hss⟩ : ∃ ss, Came W a1 len1 cap1 ss := by
    obtain ⟨fuel, hf⟩ := h1
    rcases open_strings Try.underlying22 Try.underlying9 (by kernel_rfl) hf with ⟨hcs, _⟩ | ⟨x, l, c, ss, hcs, _, hl, hm, hz, _, hcell, hws⟩
    · simp [Value.cells] at hcs
      obtain ⟨rfl, rfl, rfl⟩ := hcs
      exact ⟨[], Or.inl ⟨rfl, rfl, rfl, rfl⟩⟩
    · simp [Value.cells] at hcs
      obtain ⟨rfl, rfl, rfl⟩ := hcs
      exact ⟨ss, Or.inr ⟨_, rfl, hl, hm, by simpa using hz, hcell, hws⟩⟩
  clear hA0 hval0
  refine (cubesL_any a0 a1 len1 cap1 ss W hss).mono fun e W' ⟨he, bel⟩ => ?_
  subst he
  exact ⟨_, rfl, _, _, _, [], _, [], hW', trodAll_mk1 (shut_bool Try.underlying4 _), (trodAll_cons_mk (shut_int Try.underlying3 w0) (trodAll_cons_mk (Below.trod BCCubes.laidOut (by kernel_rfl) (of_decide_eq_true (by kernel_rfl)) k1 bel lt1) trodAll_mk0)), rfl, bel.frame _, fun h => by cases h⟩

theorem BddCubes_holds : Rows.BddCubesSaid :=
  OpenClaim.holds_of_wide 7 Try.f7 rfl rfl rfl rfl rfl rfl rfl ⟨rfl, rfl, rfl, rfl, rfl⟩ rfl rfl rfl rfl rfl (by kernel_rfl) Try.func7 (by kernel_rfl)
    (of_decide_eq_true (by kernel_rfl)) (by unfold Func.isWrapper; first | (rw [if_pos (by decide +kernel)]; kernel_rfl) | (rw [if_neg (by decide +kernel)]; exact ⟨rfl, rfl⟩))
    (fun os started H enc _ => BCCubes.lifted os started H enc)
#print axioms BddCubes_holds
end Go.Proofs.Ytffngpdngjfcfaa
