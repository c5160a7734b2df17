/-
  A table, and the functions that some of its refs stand for: what each call leaves.
-/
import Derived.Test.YtffngpdngjfcfaaBCubesA
import Derived.Test.YtffngpdngjfcfaaBLawF
namespace Go.Proofs.Ytffngpdngjfcfaa
open Go.RowKit Go.Maps
open Bd (Nd)

/-- A table that lies behind B; the functions of some refs; blocks that are not the table's. -/
structure Live {nb M : Nat} (A : Bd.Fam nb M) (B : Nat) (w0 w : World) (tb K : Nat) (fs : List (Nat × Bd.Fn)) (hs : List (Nat × Obj)) : Prop where
  ex : ∃ y L roots, y.tb = tb ∧ Tab w y ⟨L, roots, 2, nb, 1048576⟩ ∧ Bd.Within A L ∧ roots.length ≤ K ∧ Below B w0 w ∧ (∀ j, y.own j → B ≤ j) ∧ B ≤ w.heap.size ∧
    (∀ p, p ∈ fs → ∃ m, St.node? ⟨L, roots, 2, nb, 1048576⟩ p.1 = some m ∧ m < L.length + 2 ∧ Bd.den L m = p.2) ∧ (∀ q, q ∈ hs → w.heap[q.1]? = some q.2 ∧ ¬ y.own q.1)

section
variable {nb M : Nat} {A : Bd.Fam nb M} {B : Nat} {w0 w w' : World} {tb K : Nat} {fs : List (Nat × Bd.Fn)} {hs : List (Nat × Obj)}

theorem Live.below (h : Live A B w0 w tb K fs hs) (hb : Below w.heap.size w w') : Live A B w0 w' tb K fs hs := by
  obtain ⟨y, L, roots, e, hT, hW, hK, hb0, hy, hB, hf, hh⟩ := h.ex
  exact ⟨y, L, roots, e, hT.below hb, hW, hK, hb0.trans (hb.mono hB), hy, Nat.le_trans hB hb.size, hf, fun q hq => ⟨(hb.block _ (block_lt (hh q hq).1)).trans (hh q hq).1, (hh q hq).2⟩⟩

theorem Live.out (h : Live A B w0 w tb K fs hs) : Below B w0 w := by
  obtain ⟨y, L, roots, e, hT, hW, hK, hb0, hy, hB, hf, hh⟩ := h.ex
  exact hb0
theorem Live.size (h : Live A B w0 w tb K fs hs) : B ≤ w.heap.size := by
  obtain ⟨y, L, roots, e, hT, hW, hK, hb0, hy, hB, hf, hh⟩ := h.ex
  exact hB
theorem Live.held (h : Live A B w0 w tb K fs hs) {q : Nat × Obj} (hq : q ∈ hs) : w.heap[q.1]? = some q.2 := by
  obtain ⟨y, L, roots, e, hT, hW, hK, hb0, hy, hB, hf, hh⟩ := h.ex
  exact (hh q hq).1

theorem live_told {y : Lay} {L : List Nd} {roots : List Nat} {r : Nat} {f : Bd.Fn} (hK : roots.length ≤ K) (hb0 : Below B w0 w) (hy : ∀ j, y.own j → B ≤ j) (hB : B ≤ w.heap.size)
    (hf : ∀ p, p ∈ fs → ∃ m, St.node? ⟨L, roots, 2, nb, 1048576⟩ p.1 = some m ∧ m < L.length + 2 ∧ Bd.den L m = p.2) (hh : ∀ q, q ∈ hs → w.heap[q.1]? = some q.2 ∧ ¬ y.own q.1)
    (ht : Told A w y ⟨L, roots, 2, nb, 1048576⟩ w' r f) : Live A B w0 w' y.tb (K + 1) ((r, f) :: fs) hs := by
  obtain ⟨N, t, y', m, hT', hW', hn, hm, hd, hmv, ha⟩ := ht.ex
  obtain ⟨hb', hy'⟩ := moves_out hb0 hB hy hmv
  refine ⟨y', L ++ N, roots ++ t, hmv.tb, hT', hW', by rw [List.length_append]; have := ha.few; omega, hb', hy', Nat.le_trans hB hmv.size, fun p hp => ?_, fun q hq => ?_⟩
  · rcases List.mem_cons.1 hp with e | e
    · rw [e]; exact ⟨m, hn, hm, hd⟩
    · obtain ⟨m', h1, h2, h3⟩ := hf p e
      exact ⟨m', node_old h1 _ t, by rw [List.length_append]; omega, by rw [Bd.den_append_old _ _ h2]; exact h3⟩
  · obtain ⟨h1, h2⟩ := hh q hq
    have hl := block_lt h1
    refine ⟨(hmv.block _ hl h2 (fun h => h)).trans h1, fun ho => ?_⟩
    rcases hmv.own _ ho with h | h
    · exact h2 h
    · omega

theorem Live.one (h : Live A B w0 w tb K fs hs) {r r' : Nat} {f : Bd.Fn} (h1 : (r, f) ∈ fs) (h2 : (r', f) ∈ fs) : r = r' := by
  obtain ⟨y, L, roots, e, hT, hW, hK, hb0, hy, hB, hf, hh⟩ := h.ex
  obtain ⟨m, a1, a2, a3⟩ := hf _ h1
  obtain ⟨m', b1, b2, b3⟩ := hf _ h2
  have : m = m' := Bd.canon hT.okay a2 b2 (a3.trans b3.symm)
  subst this
  exact node_inj hT a1 b1
theorem Live.ends (h : Live A B w0 w tb K fs hs) : Live A B w0 w tb K ((0, Bd.ff) :: (1, Bd.tt) :: fs) hs := by
  obtain ⟨y, L, roots, e, hT, hW, hK, hb0, hy, hB, hf, hh⟩ := h.ex
  refine ⟨y, L, roots, e, hT, hW, hK, hb0, hy, hB, fun p hp => ?_, hh⟩
  rcases List.mem_cons.1 hp with e | hp
  · rw [e]; exact ⟨0, rfl, by omega, Bd.den_zero _⟩
  · rcases List.mem_cons.1 hp with e | hp
    · rw [e]; exact ⟨1, rfl, by omega, Bd.den_one _⟩
    · exact hf p hp

theorem live_not (h : Live A B w0 w tb K fs hs) (hK : K < 1000000) (hlim : nb * M ≤ 1048576) {r : Nat} {f : Bd.Fn} (hr : (r, f) ∈ fs) (hF : A.F 0 (notF f)) :
    Calls Try.prog 20 #[.pointer (some ⟨tb, 0, none⟩), .int .i64 r] w fun e w' => ∃ r' : Nat, e = .returned (.tuple #[.int .i64 r', .int .i64 0]) ∧ Live A B w0 w' tb (K + 1) ((r', notF f) :: fs) hs := by
  obtain ⟨y, L, roots, rfl, hT, hW, hK', hb0, hy, hB, hf, hh⟩ := h.ex
  obtain ⟨m, h1, h2, h3⟩ := hf _ hr
  have h3' : Bd.den L m = f := h3
  subst h3'
  refine (Not_ok (s := ⟨L, roots, 2, nb, 1048576⟩) A hT hW (Nat.le_refl _) (by show roots.length + 1 ≤ _; omega) hlim r m h1 h2 hF).mono ?_
  rintro e w' ⟨r', rfl, ht⟩
  exact ⟨r', rfl, live_told hK' hb0 hy hB hf hh ht⟩
theorem live_ite (h : Live A B w0 w tb K fs hs) (hK : K < 1000000) (hlim : nb * M ≤ 1048576) {r0 r1 r2 : Nat} {f0 f1 f2 : Bd.Fn} (k0 : (r0, f0) ∈ fs) (k1 : (r1, f1) ∈ fs) (k2 : (r2, f2) ∈ fs) (hF : A.F 0 (Bd.iteF f0 f1 f2)) :
    Calls Try.prog 23 #[.pointer (some ⟨tb, 0, none⟩), .int .i64 r0, .int .i64 r1, .int .i64 r2] w fun e w' => ∃ r' : Nat, e = .returned (.tuple #[.int .i64 r', .int .i64 0]) ∧ Live A B w0 w' tb (K + 1) ((r', Bd.iteF f0 f1 f2) :: fs) hs := by
  obtain ⟨y, L, roots, rfl, hT, hW, hK', hb0, hy, hB, hf, hh⟩ := h.ex
  obtain ⟨m0, a1, a2, a3⟩ := hf _ k0
  obtain ⟨m1, b1, b2, b3⟩ := hf _ k1
  obtain ⟨m2, c1, c2, c3⟩ := hf _ k2
  have a3' : Bd.den L m0 = f0 := a3
  have b3' : Bd.den L m1 = f1 := b3
  have c3' : Bd.den L m2 = f2 := c3
  subst a3' b3' c3'
  refine (Ite_ok (s := ⟨L, roots, 2, nb, 1048576⟩) A hT hW (Nat.le_refl _) (by show roots.length + 1 ≤ _; omega) hlim r0 r1 r2 m0 m1 m2 a1 b1 c1 a2 b2 c2 hF).mono ?_
  rintro e w' ⟨r', rfl, ht⟩
  exact ⟨r', rfl, live_told hK' hb0 hy hB hf hh ht⟩
theorem live_diff (h : Live A B w0 w tb K fs hs) (hK : K < 1000000) (hlim : nb * M ≤ 1048576) {r0 r1 : Nat} {f0 f1 : Bd.Fn} (k0 : (r0, f0) ∈ fs) (k1 : (r1, f1) ∈ fs) (hF : A.F 0 (dif f0 f1)) :
    Calls Try.prog 22 #[.pointer (some ⟨tb, 0, none⟩), .int .i64 r0, .int .i64 r1] w fun e w' => ∃ r' : Nat, e = .returned (.tuple #[.int .i64 r', .int .i64 0]) ∧ Live A B w0 w' tb (K + 1) ((r', dif f0 f1) :: fs) hs := by
  obtain ⟨y, L, roots, rfl, hT, hW, hK', hb0, hy, hB, hf, hh⟩ := h.ex
  obtain ⟨m0, a1, a2, a3⟩ := hf _ k0
  obtain ⟨m1, b1, b2, b3⟩ := hf _ k1
  have a3' : Bd.den L m0 = f0 := a3
  have b3' : Bd.den L m1 = f1 := b3
  subst a3' b3'
  refine (Diff_ok (s := ⟨L, roots, 2, nb, 1048576⟩) A hT hW (Nat.le_refl _) (by show roots.length + 1 ≤ _; omega) hlim r0 m0 r1 m1 a1 b1 a2 b2 hF).mono ?_
  rintro e w' ⟨r', rfl, ht⟩
  exact ⟨r', rfl, live_told hK' hb0 hy hB hf hh ht⟩

/-- The functions of a list of refs. -/
def FnsOf (fs : List (Nat × Bd.Fn)) (ls : List Nat) (gs : List Bd.Fn) : Prop := gs.length = ls.length ∧ ∀ (i : Nat) (r : Nat), ls[i]? = some r → ∃ g, gs[i]? = some g ∧ (r, g) ∈ fs
theorem nodes_of {L : List Nd} {roots : List Nat} (hf : ∀ p, p ∈ fs → ∃ m, St.node? ⟨L, roots, 2, nb, 1048576⟩ p.1 = some m ∧ m < L.length + 2 ∧ Bd.den L m = p.2) : ∀ {ls : List Nat} {gs : List Bd.Fn}, FnsOf fs ls gs →
    ∃ ns, NodesOf ⟨L, roots, 2, nb, 1048576⟩ ls ns ∧ (∀ m, m ∈ ns → m < L.length + 2) ∧ ∀ (k : Nat) (m : Nat), ns[k]? = some m → gs[k]? = some (Bd.den L m) := by
  intro ls
  induction ls with
  | nil => intro gs h; exact ⟨[], ⟨rfl, fun i r h => by simp at h⟩, fun m h => by simp at h, fun k m h => by simp at h⟩
  | cons r ls ih =>
    intro gs h
    cases gs with
    | nil => have := h.1; simp at this
    | cons g gs =>
      obtain ⟨ns, h1, h2, h3⟩ := @ih gs ⟨by have := h.1; simpa using this, fun i r' hi => by
        obtain ⟨g', a, b⟩ := h.2 (i + 1) r' (by simpa using hi)
        exact ⟨g', by simpa using a, b⟩⟩
      obtain ⟨g', a, b⟩ := h.2 0 r rfl
      have : g = g' := by simpa using a
      subst this
      obtain ⟨m, c1, c2, c3⟩ := hf _ b
      refine ⟨m :: ns, ⟨by simp [h1.1], fun i r' hi => ?_⟩, fun m' hm' => ?_, fun k m' hk => ?_⟩
      · cases i with
        | zero => simp at hi; subst hi; exact ⟨m, rfl, c1⟩
        | succ i => obtain ⟨m', x1, x2⟩ := h1.2 i r' (by simpa using hi); exact ⟨m', by simpa using x1, x2⟩
      · rcases List.mem_cons.1 hm' with e | e
        · rw [e]; exact c2
        · exact h2 m' e
      · cases k with
        | zero => simp at hk; subst hk; show some g = some (Bd.den L m); rw [show Bd.den L m = g from c3]
        | succ k => exact h3 k m' (by simpa using hk)

theorem live_or (h : Live A B w0 w tb K fs hs) (hK : K < 1000000) (hlim : nb * M ≤ 1048576) (v : Value) (ls : List Nat) (gs : List Bd.Fn) (hR : RefsAt w v ls) (hl : ls.length ≤ 1000000) (hG : FnsOf fs ls gs) (F : Nat → Bd.Fn) (hz : Bd.ff = F 0) (hF : ∀ k g, gs[k]? = some g → F (k + 1) = Bd.iteF (F k) Bd.tt g ∧ A.F 0 (F (k + 1))) :
    Calls Try.prog 19 #[.pointer (some ⟨tb, 0, none⟩), v] w fun e w' => ∃ r' : Nat, e = .returned (.tuple #[.int .i64 r', .int .i64 0]) ∧ Live A B w0 w' tb (K + 1) ((r', F ls.length) :: fs) hs := by
  obtain ⟨y, L, roots, rfl, hT, hW, hK', hb0, hy, hB, hf, hh⟩ := h.ex
  obtain ⟨ns, h1, h2, h3⟩ := nodes_of hf hG
  refine (Or_many (s := ⟨L, roots, 2, nb, 1048576⟩) A hT hW (Nat.le_refl _) (by show roots.length + 1 ≤ _; omega) hlim v ls ns hR hl h1 h2 F hz (fun k m hk => hF k _ (h3 k m hk))).mono ?_
  rintro e w' ⟨r', rfl, ht⟩
  rw [h1.1] at ht
  exact ⟨r', rfl, live_told hK' hb0 hy hB hf hh ht⟩
theorem live_and (h : Live A B w0 w tb K fs hs) (hK : K < 1000000) (hlim : nb * M ≤ 1048576) (v : Value) (ls : List Nat) (gs : List Bd.Fn) (hR : RefsAt w v ls) (hl : ls.length ≤ 1000000) (hG : FnsOf fs ls gs) (F : Nat → Bd.Fn) (hz : Bd.tt = F 0) (hF : ∀ k g, gs[k]? = some g → F (k + 1) = Bd.iteF (F k) g Bd.ff ∧ A.F 0 (F (k + 1))) :
    Calls Try.prog 21 #[.pointer (some ⟨tb, 0, none⟩), v] w fun e w' => ∃ r' : Nat, e = .returned (.tuple #[.int .i64 r', .int .i64 0]) ∧ Live A B w0 w' tb (K + 1) ((r', F ls.length) :: fs) hs := by
  obtain ⟨y, L, roots, rfl, hT, hW, hK', hb0, hy, hB, hf, hh⟩ := h.ex
  obtain ⟨ns, h1, h2, h3⟩ := nodes_of hf hG
  refine (And_many (s := ⟨L, roots, 2, nb, 1048576⟩) A hT hW (Nat.le_refl _) (by show roots.length + 1 ≤ _; omega) hlim v ls ns hR hl h1 h2 F hz (fun k m hk => hF k _ (h3 k m hk))).mono ?_
  rintro e w' ⟨r', rfl, ht⟩
  rw [h1.1] at ht
  exact ⟨r', rfl, live_told hK' hb0 hy hB hf hh ht⟩

theorem fns_two {r0 r1 : Nat} {f0 f1 : Bd.Fn} (k0 : (r0, f0) ∈ fs) (k1 : (r1, f1) ∈ fs) : FnsOf fs [r0, r1] [f0, f1] := by
  refine ⟨rfl, fun i r hi => ?_⟩
  match i, hi with
  | 0, hi => simp at hi; subst hi; exact ⟨f0, rfl, k0⟩
  | 1, hi => simp at hi; subst hi; exact ⟨f1, rfl, k1⟩
  | (i + 2), hi => simp at hi
def two (z f0 f : Bd.Fn) : Nat → Bd.Fn
  | 0 => z
  | 1 => f0
  | _ => f
theorem live_or2 (h : Live A B w0 w tb K fs hs) (hK : K < 1000000) (hlim : nb * M ≤ 1048576) {r0 r1 : Nat} {f0 f1 : Bd.Fn} (k0 : (r0, f0) ∈ fs) (k1 : (r1, f1) ∈ fs) (hA : A.F 0 f0) (hF : A.F 0 (Bd.iteF f0 Bd.tt f1)) :
    Calls Try.prog 19 #[.pointer (some ⟨tb, 0, none⟩), .slice (some ⟨w.heap.size, 0, none⟩) 2 2] (w.alloc (.cells #[.int .i64 r0, .int .i64 r1] 25)) fun e w' => ∃ r' : Nat, e = .returned (.tuple #[.int .i64 r', .int .i64 0]) ∧ Live A B w0 w' tb (K + 1) ((r', Bd.iteF f0 Bd.tt f1) :: fs) hs := by
  have h1 := h.below ((Below.refl _ _).alloc (Nat.le_refl _) (.cells #[i6 r0, i6 r1] 25))
  refine live_or h1 hK hlim _ [r0, r1] [f0, f1] (refs_two w r0 r1) (by simp) (fns_two k0 k1) (two Bd.ff f0 (Bd.iteF f0 Bd.tt f1)) rfl (fun k g hk => ?_)
  match k, hk with
  | 0, hk => simp at hk; subst hk; exact ⟨rfl, hA⟩
  | 1, hk => simp at hk; subst hk; exact ⟨rfl, hF⟩
  | (k + 2), hk => simp at hk
theorem live_and2 (h : Live A B w0 w tb K fs hs) (hK : K < 1000000) (hlim : nb * M ≤ 1048576) {r0 r1 : Nat} {f0 f1 : Bd.Fn} (k0 : (r0, f0) ∈ fs) (k1 : (r1, f1) ∈ fs) (hA : A.F 0 f0) (hF : A.F 0 (Bd.iteF f0 f1 Bd.ff)) :
    Calls Try.prog 21 #[.pointer (some ⟨tb, 0, none⟩), .slice (some ⟨w.heap.size, 0, none⟩) 2 2] (w.alloc (.cells #[.int .i64 r0, .int .i64 r1] 25)) fun e w' => ∃ r' : Nat, e = .returned (.tuple #[.int .i64 r', .int .i64 0]) ∧ Live A B w0 w' tb (K + 1) ((r', Bd.iteF f0 f1 Bd.ff) :: fs) hs := by
  have h1 := h.below ((Below.refl _ _).alloc (Nat.le_refl _) (.cells #[i6 r0, i6 r1] 25))
  refine live_and h1 hK hlim _ [r0, r1] [f0, f1] (refs_two w r0 r1) (by simp) (fns_two k0 k1) (two Bd.tt f0 (Bd.iteF f0 f1 Bd.ff)) rfl (fun k g hk => ?_)
  match k, hk with
  | 0, hk => simp at hk; subst hk; exact ⟨rfl, hA⟩
  | 1, hk => simp at hk; subst hk; exact ⟨rfl, hF⟩
  | (k + 2), hk => simp at hk

/-- The laws' table with its cubes. -/
theorem Made.live {ss : List ByteArray} {k : Nat} {v : Value} {y : Lay} {L : List Nd} {roots ls ns : List Nat} (h : Made A B w0 w tb ss k v y L roots ls ns) (hk : 0 < k) :
    ∃ g cap cur, v = .slice (some ⟨g, 0, none⟩) k cap ∧ k ≤ cap ∧ cap ≤ maxLen ∧ (∀ i, i < k → cur[i]? = some (.int .i64 (ls.getD i 0 : Nat))) ∧ Live A B w0 w tb k (((List.range k).map fun i => (ls.getD i 0, suf (ss.getD i ByteArray.empty) 0))) [(g, .cells cur 25 (0, 0))] := by
  obtain ⟨e, hT, hW, hfew, hb0, hy, hB, hl, hrow, hap, hN, hd, hr⟩ := h
  rcases hrow.2 with ⟨_, h0⟩ | ⟨g, cap, cur, hv, _, hg, hc1, hc2, hc3, hc4⟩
  · omega
  · refine ⟨g, cap, cur, hv, hc1, hc2, fun i hi => ?_, y, L, roots, e, hT, hW, hfew, hb0, hy, hB, fun p hp => ?_, fun q hq => ?_⟩
    · have h1 : (cur.toList.take (k * 1))[i]? = (nums ls)[i]? := by rw [hc4]
      rw [List.getElem?_take_of_lt (by omega)] at h1
      rw [← Array.getElem?_toList, h1]
      unfold nums
      rw [List.getElem?_map, List.getD_eq_getElem?_getD, List.getElem?_eq_getElem (by omega)]
      rfl
    · rw [List.mem_map] at hp
      obtain ⟨i, hi, rfl⟩ := hp
      rw [List.mem_range] at hi
      have h1 : ls[i]? = some (ls.getD i 0) := by rw [List.getD_eq_getElem?_getD, List.getElem?_eq_getElem (by omega)]; rfl
      obtain ⟨m, a1, a2⟩ := hN.2 i _ h1
      obtain ⟨b1, b2⟩ := hd i m a1
      exact ⟨m, a2, b1, b2⟩
    · simp at hq
      subst hq
      exact ⟨hg, (hap g (by rw [hv]; rfl)).2⟩
end
end Go.Proofs.Ytffngpdngjfcfaa
