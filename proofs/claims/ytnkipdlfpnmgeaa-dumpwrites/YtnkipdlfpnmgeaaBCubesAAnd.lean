/-
  The law BddBack: lists of functions, and functions of lists.
  Ors of some cubes: their family; the laws' cubes, and what Or makes of them.
  The law BddLaws: what it makes of its cubes.
  A table, and the functions that some of its refs stand for: what each call leaves.
  The functions that BddLaws comes upon: ors of cubes, without one, and their complements.
  The laws' own cubes: the walk.
-/
import Derived.Test.YtnkipdlfpnmgeaaBBadAnd
import Derived.Test.YtnkipdlfpnmgeaaBBuildAnd
namespace Go.Proofs.Ytnkipdlfpnmgeaa
open Go.RowKit Go.Maps
open Bd (Nd)

end Go.Proofs.Ytnkipdlfpnmgeaa
namespace Go.Proofs.Ytnkipdlfpnmgeaa
open Bd (ff tt iteF cof From)

def notF (f : Bd.Fn) : Bd.Fn := iteF f ff tt
def dif (f g : Bd.Fn) : Bd.Fn := iteF g ff f
def orL : List ByteArray → List Bool → Nat → Bd.Fn
  | t :: ts, b :: bs, k => fun h => (b && suf t k h) || orL ts bs k h
  | _, _, _ => ff
/-- A row of bits as a number, and back. -/
def num : List Bool → Nat
  | [] => 0
  | b :: bs => (if b then 1 else 0) + 2 * num bs
def dec : Nat → Nat → List Bool
  | 0, _ => []
  | n + 1, j => (j % 2 == 1) :: dec n (j / 2)
theorem dec_num (bs : List Bool) : dec bs.length (num bs) = bs := by
  induction bs with
  | nil => rfl
  | cons b bs ih =>
    show ((num (b :: bs)) % 2 == 1) :: dec bs.length (num (b :: bs) / 2) = b :: bs
    have h1 : num (b :: bs) / 2 = num bs := by cases b <;> simp [num] <;> omega
    have h2 : (num (b :: bs) % 2 == 1) = b := by cases b <;> simp [num] <;> omega
    rw [h1, h2, ih]
theorem num_lt (bs : List Bool) : num bs < 2 ^ bs.length := by
  induction bs with
  | nil => simp [num]
  | cons b bs ih =>
    show num (b :: bs) < 2 ^ (bs.length + 1)
    rw [Nat.pow_succ]
    cases b <;> simp [num] <;> omega
theorem or_none (ts : List ByteArray) (bs : List Bool) (k : Nat) (h : num bs = 0) : orL ts bs k = ff := by
  induction ts generalizing bs with
  | nil => cases bs <;> rfl
  | cons t ts ih =>
    cases bs with
    | nil => rfl
    | cons b bs =>
      have hb : b = false := by cases b <;> simp [num] at h ⊢ <;> omega
      have hs : num bs = 0 := by simp [num] at h; omega
      subst hb
      funext x
      show (false && suf t k x || orL ts bs k x) = false
      rw [ih bs hs]; rfl
theorem from_or (ts : List ByteArray) (bs : List Bool) (k : Nat) : From k (orL ts bs k) := by
  induction ts generalizing bs with
  | nil => cases bs <;> exact Bd.from_ff _
  | cons t ts ih =>
    cases bs with
    | nil => exact Bd.from_ff _
    | cons b bs =>
      intro x z hxz
      show (b && suf t k x || orL ts bs k x) = (b && suf t k z || orL ts bs k z)
      rw [suf_from t k x z hxz, ih bs x z hxz]
theorem cof_or (ts : List ByteArray) (bs : List Bool) (k : Nat) (b : Bool) (hs : ∀ t, t ∈ ts → k < t.size) : ∃ bs', bs'.length = bs.length ∧ cof (orL ts bs k) k b = orL ts bs' (k + 1) := by
  induction ts generalizing bs with
  | nil => exact ⟨bs, rfl, by cases bs <;> rfl⟩
  | cons t ts ih =>
    cases bs with
    | nil => exact ⟨[], rfl, rfl⟩
    | cons c bs =>
      obtain ⟨bs', hl, e⟩ := ih bs (fun t ht => hs t (List.mem_cons_of_mem _ ht))
      rcases suf_cof (hs t List.mem_cons_self) b with h | h
      · refine ⟨c :: bs', by simp [hl], ?_⟩
        funext x
        show (c && cof (suf t k) k b x || cof (orL ts bs k) k b x) = (c && suf t (k + 1) x || orL ts bs' (k + 1) x)
        rw [h, e]
      · refine ⟨false :: bs', by simp [hl], ?_⟩
        funext x
        show (c && cof (suf t k) k b x || cof (orL ts bs k) k b x) = (false && suf t (k + 1) x || orL ts bs' (k + 1) x)
        rw [h, e]
        show (c && false || _) = _
        simp
theorem dif_none (f : Bd.Fn) : dif f ff = f := by funext x; rfl
theorem dif_ff (g : Bd.Fn) : dif ff g = ff := by funext x; unfold dif iteF ff; split <;> rfl
theorem notF_from {k : Nat} {f : Bd.Fn} (h : From k f) : From k (notF f) := Bd.from_iteF h (Bd.from_ff _) (Bd.from_tt _)

/-- The kinds of functions that the law comes upon. -/
def LawF (t0 : ByteArray) (ts : List ByteArray) (k : Nat) (f : Bd.Fn) : Prop :=
  (∃ bs : List Bool, bs.length = ts.length ∧ (f = orL ts bs k ∨ f = notF (orL ts bs k) ∨ f = dif (orL ts bs k) (suf t0 k) ∨ f = notF (dif (orL ts bs k) (suf t0 k)))) ∨ f = suf t0 k ∨ f = notF (suf t0 k)

theorem num_false (n : Nat) : num (List.replicate n false) = 0 := by
  induction n with
  | zero => rfl
  | succ n ih => simp [List.replicate_succ, num, ih]

def lawEn (t0 : ByteArray) (ts : List ByteArray) (k j : Nat) : Bd.Fn :=
  if j / 2048 = 0 then orL ts (dec ts.length (j % 2048)) k
  else if j / 2048 = 1 then notF (orL ts (dec ts.length (j % 2048)) k)
  else if j / 2048 = 2 then (if j % 2048 = 0 then suf t0 k else dif (orL ts (dec ts.length (j % 2048)) k) (suf t0 k))
  else (if j % 2048 = 0 then notF (suf t0 k) else notF (dif (orL ts (dec ts.length (j % 2048)) k) (suf t0 k)))

def lawFam (nb : Nat) (t0 : ByteArray) (ts : List ByteArray) (h0 : t0.size = nb) (hs : ∀ t, t ∈ ts → t.size = nb) (hl : ts.length ≤ 11) : Bd.Fam nb 8192 where
  F k f := LawF t0 ts k f
  dep k f h := by
    rcases h with ⟨bs, _, rfl | rfl | rfl | rfl⟩ | rfl | rfl
    · exact from_or ts bs k
    · exact notF_from (from_or ts bs k)
    · exact Bd.from_iteF (suf_from t0 k) (Bd.from_ff _) (from_or ts bs k)
    · exact notF_from (Bd.from_iteF (suf_from t0 k) (Bd.from_ff _) (from_or ts bs k))
    · exact suf_from t0 k
    · exact notF_from (suf_from t0 k)
  go k f b hk h := by
    have hts : ∀ t, t ∈ ts → k < t.size := fun t ht => by rw [hs t ht]; exact hk
    have h0' : k < t0.size := by rw [h0]; exact hk
    rcases h with ⟨bs, hbl, rfl | rfl | rfl | rfl⟩ | rfl | rfl
    · obtain ⟨bs', hl', e⟩ := cof_or ts bs k b hts
      exact Or.inl ⟨bs', hl'.trans hbl, Or.inl e⟩
    · obtain ⟨bs', hl', e⟩ := cof_or ts bs k b hts
      exact Or.inl ⟨bs', hl'.trans hbl, Or.inr (Or.inl (by show notF (cof (orL ts bs k) k b) = _; rw [e]))⟩
    · obtain ⟨bs', hl', e⟩ := cof_or ts bs k b hts
      rcases suf_cof h0' b with e0 | e0
      · exact Or.inl ⟨bs', hl'.trans hbl, Or.inr (Or.inr (Or.inl (by show dif (cof (orL ts bs k) k b) (cof (suf t0 k) k b) = _; rw [e, e0])))⟩
      · exact Or.inl ⟨bs', hl'.trans hbl, Or.inl (by show dif (cof (orL ts bs k) k b) (cof (suf t0 k) k b) = _; rw [e, e0, dif_none])⟩
    · obtain ⟨bs', hl', e⟩ := cof_or ts bs k b hts
      rcases suf_cof h0' b with e0 | e0
      · exact Or.inl ⟨bs', hl'.trans hbl, Or.inr (Or.inr (Or.inr (by show notF (dif (cof (orL ts bs k) k b) (cof (suf t0 k) k b)) = _; rw [e, e0])))⟩
      · exact Or.inl ⟨bs', hl'.trans hbl, Or.inr (Or.inl (by show notF (dif (cof (orL ts bs k) k b) (cof (suf t0 k) k b)) = _; rw [e, e0, dif_none]))⟩
    · rcases suf_cof h0' b with e0 | e0
      · exact Or.inr (Or.inl e0)
      · exact Or.inl ⟨List.replicate ts.length false, by simp, Or.inl (by rw [e0, or_none _ _ _ (num_false _)])⟩
    · rcases suf_cof h0' b with e0 | e0
      · exact Or.inr (Or.inr (by show notF (cof (suf t0 k) k b) = _; rw [e0]))
      · exact Or.inl ⟨List.replicate ts.length false, by simp, Or.inr (Or.inl (by show notF (cof (suf t0 k) k b) = _; rw [e0, or_none _ _ _ (num_false _)]))⟩
  en k j := lawEn t0 ts k j
  all k f _ h := by
    have hp : ∀ bs : List Bool, bs.length = ts.length → num bs < 2048 ∧ dec ts.length (num bs) = bs := by
      intro bs hb
      have h1 := num_lt bs
      have h2 : 2 ^ bs.length ≤ 2 ^ 11 := Nat.pow_le_pow_right (by omega) (by omega)
      exact ⟨by omega, by rw [← hb]; exact dec_num bs⟩
    have at_ : ∀ q j, q < 4 → j < 2048 → (q * 2048 + j) < 8192 ∧ (q * 2048 + j) / 2048 = q ∧ (q * 2048 + j) % 2048 = j := by
      intro q j hq hj
      refine ⟨by omega, by omega, by omega⟩
    rcases h with ⟨bs, hb, h⟩ | rfl | rfl
    · obtain ⟨n1, n2⟩ := hp bs hb
      have zero : num bs = 0 → orL ts bs k = ff := or_none ts bs k
      rcases h with rfl | rfl | rfl | rfl
      · obtain ⟨a1, a2, a3⟩ := at_ 0 (num bs) (by omega) n1
        exact ⟨_, a1, by unfold lawEn; rw [a2, a3, n2]; rfl⟩
      · obtain ⟨a1, a2, a3⟩ := at_ 1 (num bs) (by omega) n1
        exact ⟨_, a1, by unfold lawEn; rw [a2, a3, n2]; rfl⟩
      · by_cases hz : num bs = 0
        · obtain ⟨a1, a2, a3⟩ := at_ 0 (num bs) (by omega) n1
          exact ⟨_, a1, by unfold lawEn; rw [a2, a3, n2, zero hz, dif_ff]; rfl⟩
        · obtain ⟨a1, a2, a3⟩ := at_ 2 (num bs) (by omega) n1
          exact ⟨_, a1, by unfold lawEn; rw [a2, a3, n2, if_neg (by omega), if_neg (by omega), if_pos rfl, if_neg hz]⟩
      · by_cases hz : num bs = 0
        · obtain ⟨a1, a2, a3⟩ := at_ 1 (num bs) (by omega) n1
          exact ⟨_, a1, by unfold lawEn; rw [a2, a3, n2, zero hz, dif_ff]; rfl⟩
        · obtain ⟨a1, a2, a3⟩ := at_ 3 (num bs) (by omega) n1
          exact ⟨_, a1, by unfold lawEn; rw [a2, a3, n2, if_neg (by omega), if_neg (by omega), if_neg (by omega), if_neg hz]⟩
    · obtain ⟨a1, a2, a3⟩ := at_ 2 0 (by omega) (by omega)
      exact ⟨_, a1, by unfold lawEn; rw [a2, a3, if_neg (by omega), if_neg (by omega), if_pos rfl, if_pos rfl]⟩
    · obtain ⟨a1, a2, a3⟩ := at_ 3 0 (by omega) (by omega)
      exact ⟨_, a1, by unfold lawEn; rw [a2, a3, if_neg (by omega), if_neg (by omega), if_neg (by omega), if_pos rfl]⟩
end Go.Proofs.Ytnkipdlfpnmgeaa
namespace Go.Proofs.Ytnkipdlfpnmgeaa
open Go.RowKit Go.Maps
open Bd (Nd)

/-- A table that lies behind B; the functions of some refs; blocks that are not the table's. -/
structure Live {nb M : Nat} (A : Bd.Fam nb M) (B : Nat) (w0 w : World) (tb K : Nat) (fs : List (Nat × Bd.Fn)) (hs : List (Nat × Obj)) : Prop where
  ex : ∃ y L roots, y.tb = tb ∧ Tab w y ⟨L, roots, 2, nb, 1048576⟩ ∧ Bd.Within A L ∧ roots.length ≤ K ∧ Below B w0 w ∧ (∀ j, y.own j → B ≤ j) ∧ B ≤ w.heap.size ∧
    (∀ p, p ∈ fs → ∃ m, St.node? ⟨L, roots, 2, nb, 1048576⟩ p.1 = some m ∧ m < L.length + 2 ∧ Bd.den L m = p.2) ∧ (∀ q, q ∈ hs → w.heap[q.1]? = some q.2 ∧ ¬ y.own q.1)

section
variable {nb M : Nat} {A : Bd.Fam nb M} {B : Nat} {w0 w w' : World} {tb K : Nat} {fs : List (Nat × Bd.Fn)} {hs : List (Nat × Obj)}

theorem Live.below (h : Live A B w0 w tb K fs hs) (hb : Below w.heap.size w w') : Live A B w0 w' tb K fs hs := by
  obtain ⟨y, L, roots, e, hT, hW, hK, hb0, hy, hB, hf, hh⟩ := h.ex
  exact ⟨y, L, roots, e, hT.below hb, hW, hK, hb0.trans (hb.mono hB), hy, Nat.le_trans hB hb.size, hf, fun q hq => ⟨(hb.block _ (block_lt (hh q hq).1)).trans (hh q hq).1, (hh q hq).2⟩⟩

theorem Live.out (h : Live A B w0 w tb K fs hs) : Below B w0 w := by
  obtain ⟨y, L, roots, e, hT, hW, hK, hb0, hy, hB, hf, hh⟩ := h.ex
  exact hb0
theorem Live.size (h : Live A B w0 w tb K fs hs) : B ≤ w.heap.size := by
  obtain ⟨y, L, roots, e, hT, hW, hK, hb0, hy, hB, hf, hh⟩ := h.ex
  exact hB
theorem Live.held (h : Live A B w0 w tb K fs hs) {q : Nat × Obj} (hq : q ∈ hs) : w.heap[q.1]? = some q.2 := by
  obtain ⟨y, L, roots, e, hT, hW, hK, hb0, hy, hB, hf, hh⟩ := h.ex
  exact (hh q hq).1

theorem live_told {y : Lay} {L : List Nd} {roots : List Nat} {r : Nat} {f : Bd.Fn} (hK : roots.length ≤ K) (hb0 : Below B w0 w) (hy : ∀ j, y.own j → B ≤ j) (hB : B ≤ w.heap.size)
    (hf : ∀ p, p ∈ fs → ∃ m, St.node? ⟨L, roots, 2, nb, 1048576⟩ p.1 = some m ∧ m < L.length + 2 ∧ Bd.den L m = p.2) (hh : ∀ q, q ∈ hs → w.heap[q.1]? = some q.2 ∧ ¬ y.own q.1)
    (ht : Told A w y ⟨L, roots, 2, nb, 1048576⟩ w' r f) : Live A B w0 w' y.tb (K + 1) ((r, f) :: fs) hs := by
  obtain ⟨N, t, y', m, hT', hW', hn, hm, hd, hmv, ha⟩ := ht.ex
  obtain ⟨hb', hy'⟩ := moves_out hb0 hB hy hmv
  refine ⟨y', L ++ N, roots ++ t, hmv.tb, hT', hW', by rw [List.length_append]; have := ha.few; omega, hb', hy', Nat.le_trans hB hmv.size, fun p hp => ?_, fun q hq => ?_⟩
  · rcases List.mem_cons.1 hp with e | e
    · rw [e]; exact ⟨m, hn, hm, hd⟩
    · obtain ⟨m', h1, h2, h3⟩ := hf p e
      exact ⟨m', node_old h1 _ t, by rw [List.length_append]; omega, by rw [Bd.den_append_old _ _ h2]; exact h3⟩
  · obtain ⟨h1, h2⟩ := hh q hq
    have hl := block_lt h1
    refine ⟨(hmv.block _ hl h2 (fun h => h)).trans h1, fun ho => ?_⟩
    rcases hmv.own _ ho with h | h
    · exact h2 h
    · omega

theorem Live.one (h : Live A B w0 w tb K fs hs) {r r' : Nat} {f : Bd.Fn} (h1 : (r, f) ∈ fs) (h2 : (r', f) ∈ fs) : r = r' := by
  obtain ⟨y, L, roots, e, hT, hW, hK, hb0, hy, hB, hf, hh⟩ := h.ex
  obtain ⟨m, a1, a2, a3⟩ := hf _ h1
  obtain ⟨m', b1, b2, b3⟩ := hf _ h2
  have : m = m' := Bd.canon hT.okay a2 b2 (a3.trans b3.symm)
  subst this
  exact node_inj hT a1 b1
theorem Live.ends (h : Live A B w0 w tb K fs hs) : Live A B w0 w tb K ((0, Bd.ff) :: (1, Bd.tt) :: fs) hs := by
  obtain ⟨y, L, roots, e, hT, hW, hK, hb0, hy, hB, hf, hh⟩ := h.ex
  refine ⟨y, L, roots, e, hT, hW, hK, hb0, hy, hB, fun p hp => ?_, hh⟩
  rcases List.mem_cons.1 hp with e | hp
  · rw [e]; exact ⟨0, rfl, by omega, Bd.den_zero _⟩
  · rcases List.mem_cons.1 hp with e | hp
    · rw [e]; exact ⟨1, rfl, by omega, Bd.den_one _⟩
    · exact hf p hp

/-- The functions of a list of refs. -/
def FnsOf (fs : List (Nat × Bd.Fn)) (ls : List Nat) (gs : List Bd.Fn) : Prop := gs.length = ls.length ∧ ∀ (i : Nat) (r : Nat), ls[i]? = some r → ∃ g, gs[i]? = some g ∧ (r, g) ∈ fs
theorem nodes_of {L : List Nd} {roots : List Nat} (hf : ∀ p, p ∈ fs → ∃ m, St.node? ⟨L, roots, 2, nb, 1048576⟩ p.1 = some m ∧ m < L.length + 2 ∧ Bd.den L m = p.2) : ∀ {ls : List Nat} {gs : List Bd.Fn}, FnsOf fs ls gs →
    ∃ ns, NodesOf ⟨L, roots, 2, nb, 1048576⟩ ls ns ∧ (∀ m, m ∈ ns → m < L.length + 2) ∧ ∀ (k : Nat) (m : Nat), ns[k]? = some m → gs[k]? = some (Bd.den L m) := by
  intro ls
  induction ls with
  | nil => intro gs h; exact ⟨[], ⟨rfl, fun i r h => by simp at h⟩, fun m h => by simp at h, fun k m h => by simp at h⟩
  | cons r ls ih =>
    intro gs h
    cases gs with
    | nil => have := h.1; simp at this
    | cons g gs =>
      obtain ⟨ns, h1, h2, h3⟩ := @ih gs ⟨by have := h.1; simpa using this, fun i r' hi => by
        obtain ⟨g', a, b⟩ := h.2 (i + 1) r' (by simpa using hi)
        exact ⟨g', by simpa using a, b⟩⟩
      obtain ⟨g', a, b⟩ := h.2 0 r rfl
      have : g = g' := by simpa using a
      subst this
      obtain ⟨m, c1, c2, c3⟩ := hf _ b
      refine ⟨m :: ns, ⟨by simp [h1.1], fun i r' hi => ?_⟩, fun m' hm' => ?_, fun k m' hk => ?_⟩
      · cases i with
        | zero => simp at hi; subst hi; exact ⟨m, rfl, c1⟩
        | succ i => obtain ⟨m', x1, x2⟩ := h1.2 i r' (by simpa using hi); exact ⟨m', by simpa using x1, x2⟩
      · rcases List.mem_cons.1 hm' with e | e
        · rw [e]; exact c2
        · exact h2 m' e
      · cases k with
        | zero => simp at hk; subst hk; show some g = some (Bd.den L m); rw [show Bd.den L m = g from c3]
        | succ k => exact h3 k m' (by simpa using hk)

theorem live_or (h : Live A B w0 w tb K fs hs) (hK : K < 1000000) (hlim : nb * M ≤ 1048576) (v : Value) (ls : List Nat) (gs : List Bd.Fn) (hR : RefsAt w v ls) (hl : ls.length ≤ 1000000) (hG : FnsOf fs ls gs) (F : Nat → Bd.Fn) (hz : Bd.ff = F 0) (hF : ∀ k g, gs[k]? = some g → F (k + 1) = Bd.iteF (F k) Bd.tt g ∧ A.F 0 (F (k + 1))) :
    Calls Try.prog 24 #[.pointer (some ⟨tb, 0, none⟩), v] w fun e w' => ∃ r' : Nat, e = .returned (.tuple #[.int .i64 r', .int .i64 0]) ∧ Live A B w0 w' tb (K + 1) ((r', F ls.length) :: fs) hs := by
  obtain ⟨y, L, roots, rfl, hT, hW, hK', hb0, hy, hB, hf, hh⟩ := h.ex
  obtain ⟨ns, h1, h2, h3⟩ := nodes_of hf hG
  refine (Or_many (s := ⟨L, roots, 2, nb, 1048576⟩) A hT hW (Nat.le_refl _) (by show roots.length + 1 ≤ _; omega) hlim v ls ns hR hl h1 h2 F hz (fun k m hk => hF k _ (h3 k m hk))).mono ?_
  rintro e w' ⟨r', rfl, ht⟩
  rw [h1.1] at ht
  exact ⟨r', rfl, live_told hK' hb0 hy hB hf hh ht⟩
theorem fns_two {r0 r1 : Nat} {f0 f1 : Bd.Fn} (k0 : (r0, f0) ∈ fs) (k1 : (r1, f1) ∈ fs) : FnsOf fs [r0, r1] [f0, f1] := by
  refine ⟨rfl, fun i r hi => ?_⟩
  match i, hi with
  | 0, hi => simp at hi; subst hi; exact ⟨f0, rfl, k0⟩
  | 1, hi => simp at hi; subst hi; exact ⟨f1, rfl, k1⟩
  | (i + 2), hi => simp at hi
def two (z f0 f : Bd.Fn) : Nat → Bd.Fn
  | 0 => z
  | 1 => f0
  | _ => f
theorem live_or2 (h : Live A B w0 w tb K fs hs) (hK : K < 1000000) (hlim : nb * M ≤ 1048576) {r0 r1 : Nat} {f0 f1 : Bd.Fn} (k0 : (r0, f0) ∈ fs) (k1 : (r1, f1) ∈ fs) (hA : A.F 0 f0) (hF : A.F 0 (Bd.iteF f0 Bd.tt f1)) :
    Calls Try.prog 24 #[.pointer (some ⟨tb, 0, none⟩), .slice (some ⟨w.heap.size, 0, none⟩) 2 2] (w.alloc (.cells #[.int .i64 r0, .int .i64 r1] 25)) fun e w' => ∃ r' : Nat, e = .returned (.tuple #[.int .i64 r', .int .i64 0]) ∧ Live A B w0 w' tb (K + 1) ((r', Bd.iteF f0 Bd.tt f1) :: fs) hs := by
  have h1 := h.below ((Below.refl _ _).alloc (Nat.le_refl _) (.cells #[i6 r0, i6 r1] 25))
  refine live_or h1 hK hlim _ [r0, r1] [f0, f1] (refs_two w r0 r1) (by simp) (fns_two k0 k1) (two Bd.ff f0 (Bd.iteF f0 Bd.tt f1)) rfl (fun k g hk => ?_)
  match k, hk with
  | 0, hk => simp at hk; subst hk; exact ⟨rfl, hA⟩
  | 1, hk => simp at hk; subst hk; exact ⟨rfl, hF⟩
  | (k + 2), hk => simp at hk
/-- The laws' table with its cubes. -/
theorem Made.live {ss : List ByteArray} {k : Nat} {v : Value} {y : Lay} {L : List Nd} {roots ls ns : List Nat} (h : Made A B w0 w tb ss k v y L roots ls ns) (hk : 0 < k) :
    ∃ g cap cur, v = .slice (some ⟨g, 0, none⟩) k cap ∧ k ≤ cap ∧ cap ≤ maxLen ∧ (∀ i, i < k → cur[i]? = some (.int .i64 (ls.getD i 0 : Nat))) ∧ Live A B w0 w tb k (((List.range k).map fun i => (ls.getD i 0, suf (ss.getD i ByteArray.empty) 0))) [(g, .cells cur 25 (0, 0))] := by
  obtain ⟨e, hT, hW, hfew, hb0, hy, hB, hl, hrow, hap, hN, hd, hr⟩ := h
  rcases hrow.2 with ⟨_, h0⟩ | ⟨g, cap, cur, hv, _, hg, hc1, hc2, hc3, hc4⟩
  · omega
  · refine ⟨g, cap, cur, hv, hc1, hc2, fun i hi => ?_, y, L, roots, e, hT, hW, hfew, hb0, hy, hB, fun p hp => ?_, fun q hq => ?_⟩
    · have h1 : (cur.toList.take (k * 1))[i]? = (nums ls)[i]? := by rw [hc4]
      rw [List.getElem?_take_of_lt (by omega)] at h1
      rw [← Array.getElem?_toList, h1]
      unfold nums
      rw [List.getElem?_map, List.getD_eq_getElem?_getD, List.getElem?_eq_getElem (by omega)]
      rfl
    · rw [List.mem_map] at hp
      obtain ⟨i, hi, rfl⟩ := hp
      rw [List.mem_range] at hi
      have h1 : ls[i]? = some (ls.getD i 0) := by rw [List.getD_eq_getElem?_getD, List.getElem?_eq_getElem (by omega)]; rfl
      obtain ⟨m, a1, a2⟩ := hN.2 i _ h1
      obtain ⟨b1, b2⟩ := hd i m a1
      exact ⟨m, a2, b1, b2⟩
    · simp at hq
      subst hq
      exact ⟨hg, (hap g (by rw [hv]; rfl)).2⟩
end
end Go.Proofs.Ytnkipdlfpnmgeaa
namespace Go.Proofs.Ytnkipdlfpnmgeaa
open Go.RowKit Go.Maps
open Bd (Nd ff tt iteF)

theorem came_below {w w' : World} {a0 : Option Addr} {len cap : Nat} {ss : List ByteArray} (h : Came w a0 len cap ss) (hb : Below w.heap.size w w') : Came w' a0 len cap ss := by
  rcases h with h | ⟨a, h1, h2, h3, h4, h5, h6⟩
  · exact Or.inl h
  · refine Or.inr ⟨a, h1, h2, h3, h4, fun i hi => ?_, h6⟩
    obtain ⟨⟨g, o, rfl⟩, hl⟩ := addr_of (h5 0 (by omega))
    have := h5 i hi
    rw [addr_add] at this ⊢
    rw [hb.cell (p := ⟨g, o + i, none⟩) hl]
    exact this

/-- The first k of n. -/
def pre : Nat → Nat → List Bool
  | 0, _ => []
  | n + 1, 0 => false :: pre n 0
  | n + 1, k + 1 => true :: pre n k
theorem pre_length (n k : Nat) : (pre n k).length = n := by
  induction n generalizing k with
  | zero => rfl
  | succ n ih => cases k <;> simp [pre, ih]
theorem pre_none (n : Nat) : num (pre n 0) = 0 := by
  induction n with
  | zero => rfl
  | succ n ih => simp [pre, num, ih]
theorem or_pre0 (ts : List ByteArray) (n k : Nat) : orL ts (pre n 0) k = ff := or_none _ _ _ (pre_none n)
theorem or_step (ts : List ByteArray) (k : Nat) (t : ByteArray) (h : ts[k]? = some t) : orL ts (pre ts.length (k + 1)) 0 = iteF (orL ts (pre ts.length k) 0) tt (suf t 0) := by
  induction ts generalizing k with
  | nil => simp at h
  | cons t' ts ih =>
    cases k with
    | zero =>
      simp at h
      subst h
      funext x
      show ((true && suf t' 0 x) || orL ts (pre ts.length 0) 0 x) = if ((false && suf t' 0 x) || orL ts (pre ts.length 0) 0 x) then true else suf t' 0 x
      rw [or_pre0]
      show ((true && suf t' 0 x) || false) = if ((false && suf t' 0 x) || false) then true else suf t' 0 x
      cases suf t' 0 x <;> rfl
    | succ k =>
      have e := ih k (by simpa using h)
      funext x
      show ((true && suf t' 0 x) || orL ts (pre ts.length (k + 1)) 0 x) = if ((true && suf t' 0 x) || orL ts (pre ts.length k) 0 x) then true else suf t 0 x
      rw [e]
      show ((true && suf t' 0 x) || (if orL ts (pre ts.length k) 0 x then true else suf t 0 x)) = _
      cases suf t' 0 x <;> cases orL ts (pre ts.length k) 0 x <;> rfl

theorem fn_and (a s : Bd.Fn) : iteF a (notF s) ff = dif a s := by funext x; unfold dif notF iteF ff tt; cases a x <;> cases s x <;> rfl
theorem fn_or (a s : Bd.Fn) : iteF (notF a) tt s = notF (dif a s) := by funext x; unfold dif notF iteF ff tt; cases a x <;> cases s x <;> rfl
theorem fn_absorb (a s : Bd.Fn) : iteF a tt (dif a s) = a := by funext x; unfold dif iteF ff tt; cases a x <;> cases s x <;> rfl
theorem fn_middle (s : Bd.Fn) : iteF s tt (notF s) = tt := by funext x; unfold notF iteF ff tt; cases s x <;> rfl
theorem fn_none (s : Bd.Fn) : iteF s (notF s) ff = ff := by funext x; unfold notF iteF ff tt; cases s x <;> rfl

section
variable {nb M : Nat} {A : Bd.Fam nb M} {B : Nat} {w0 w w' : World} {tb K : Nat} {fs : List (Nat × Bd.Fn)} {hs : List (Nat × Obj)}
theorem Live.as {r : Nat} {f f' : Bd.Fn} (h : Live A B w0 w tb K ((r, f) :: fs) hs) (e : f = f') : Live A B w0 w tb K ((r, f') :: fs) hs := e ▸ h
theorem Live.cell {g : Nat} {cur : Array Value} {t : TypeId} (h : Live A B w0 w tb K fs [(g, .cells cur t (0, 0))]) (o : Nat) : w.cell? ⟨g, o, none⟩ = cur[o]? := cell_at (h.held List.mem_cons_self)
end

/-- The laws' table with cubes, all of which are right. -/
structure LawAt (nb : Nat) (w0 w : World) (tb n g cap r0 : Nat) : Prop where
  ex : ∃ (t0 : ByteArray) (ts : List ByteArray) (h0 : t0.size = nb) (hs : ∀ t, t ∈ ts → t.size = nb) (hl : ts.length ≤ 11) (fs : List (Nat × Bd.Fn)) (rs : List Nat) (cur : Array Value), ts.length = n ∧ rs.length = n ∧ n + 1 ≤ cap ∧ cap ≤ maxLen ∧ cur[0]? = some (.int .i64 r0) ∧ (∀ i r : Nat, rs[i]? = some r → cur[i + 1]? = some (.int .i64 r)) ∧
    (r0, suf t0 0) ∈ fs ∧ FnsOf fs rs (ts.map fun t => suf t 0) ∧ Live (lawFam nb t0 ts h0 hs hl) w0.heap.size w0 w tb (n + 1) fs [(g, .cells cur 25 (0, 0))]

theorem Made.law {nb : Nat} {w0 w : World} {tb : Nat} {ss : List ByteArray} {n k : Nat} {v : Value} {t0 : ByteArray} {ts : List ByteArray} {h0 : t0.size = nb} {hs : ∀ t, t ∈ ts → t.size = nb} {hl : ts.length ≤ 11} {y : Lay} {L : List Nd} {roots ls ns : List Nat}
    (h : Made (lawFam nb t0 ts h0 hs hl) w0.heap.size w0 w tb ss k v y L roots ls ns) (hk : k = n + 1) (e0 : t0 = ss.getD 0 ByteArray.empty) (es : ts = (List.range n).map fun i => ss.getD (i + 1) ByteArray.empty) : ∃ g cap r0, v = .slice (some ⟨g, 0, none⟩) (n + 1) cap ∧ LawAt nb w0 w tb n g cap r0 := by
  subst hk
  obtain ⟨g, cap, cur, hv, hc1, hc2, hc, hL⟩ := h.live (Nat.succ_pos n)
  refine ⟨g, cap, ls.getD 0 0, hv, t0, ts, h0, hs, hl, _, (List.range n).map fun i => ls.getD (i + 1) 0, cur, by rw [es]; simp, by simp, hc1, hc2, hc 0 (by omega), fun i r hi => ?_, ?_, ?_, hL⟩
  · have hi' : i < n := by have := Bd.getElem?_lt hi; simpa using this
    rw [List.getElem?_map, List.getElem?_range hi'] at hi
    simp at hi
    rw [hc (i + 1) (by omega), List.getD_eq_getElem?_getD, ← hi]
  · rw [e0]
    exact List.mem_map.2 ⟨0, List.mem_range.2 (by omega), rfl⟩
  · rw [es]
    refine ⟨by simp, fun i r hi => ?_⟩
    have hi' : i < n := by have := Bd.getElem?_lt hi; simpa using this
    rw [List.getElem?_map, List.getElem?_range hi'] at hi
    simp at hi
    refine ⟨suf (ss.getD (i + 1) ByteArray.empty) 0, ?_, ?_⟩
    · rw [List.getElem?_map, List.getElem?_map, List.getElem?_range hi']; rfl
    · exact List.mem_map.2 ⟨i + 1, List.mem_range.2 (by omega), by rw [List.getD_eq_getElem?_getD, hi]⟩

end Go.Proofs.Ytnkipdlfpnmgeaa
namespace Go.Proofs.Ytnkipdlfpnmgeaa
open Go.RowKit Go.Maps
open Bd (Nd ff tt iteF)

def orFam (nb c : Nat) (ts : List ByteArray) (hs : ∀ t, t ∈ ts → t.size = nb) (hl : ts.length ≤ c) : Bd.Fam nb (2 ^ c) where
  F k f := ∃ bs : List Bool, bs.length = ts.length ∧ f = orL ts bs k
  dep k f h := by
    obtain ⟨bs, _, rfl⟩ := h
    exact from_or ts bs k
  go k f b hk h := by
    obtain ⟨bs, hb, rfl⟩ := h
    obtain ⟨bs', hl', e⟩ := cof_or ts bs k b (fun t ht => by rw [hs t ht]; exact hk)
    exact ⟨bs', hl'.trans hb, e⟩
  en k j := orL ts (dec ts.length j) k
  all k f _ h := by
    obtain ⟨bs, hb, rfl⟩ := h
    have h1 := num_lt bs
    have h2 : 2 ^ bs.length ≤ 2 ^ c := Nat.pow_le_pow_right (by omega) (by omega)
    exact ⟨num bs, by omega, by rw [← hb, dec_num]⟩

/-- Just one of some. -/
def unit : Nat → Nat → List Bool
  | 0, _ => []
  | n + 1, 0 => true :: pre n 0
  | n + 1, i + 1 => false :: unit n i
theorem unit_length (n i : Nat) : (unit n i).length = n := by
  induction n generalizing i with
  | zero => rfl
  | succ n ih => cases i <;> simp [unit, ih, pre_length]
theorem or_unit (ts : List ByteArray) (i : Nat) (t : ByteArray) (h : ts[i]? = some t) (k : Nat) : orL ts (unit ts.length i) k = suf t k := by
  induction ts generalizing i with
  | nil => simp at h
  | cons t' ts ih =>
    cases i with
    | zero =>
      simp at h
      subst h
      funext x
      show ((true && suf t' k x) || orL ts (pre ts.length 0) k x) = suf t' k x
      rw [or_pre0]
      show ((true && suf t' k x) || false) = _
      simp
    | succ i =>
      funext x
      show ((false && suf t' k x) || orL ts (unit ts.length i) k x) = suf t k x
      rw [ih i (by simpa using h)]
      simp

/-- The texts that a law makes cubes of. -/
def firsts (ss : List ByteArray) (n : Nat) : List ByteArray := (List.range n).map fun i => ss.getD i ByteArray.empty
theorem firsts_length (ss : List ByteArray) (n : Nat) : (firsts ss n).length = n := by simp [firsts]
theorem firsts_at (ss : List ByteArray) {n i : Nat} (h : i < n) : (firsts ss n)[i]? = some (ss.getD i ByteArray.empty) := by
  unfold firsts
  rw [List.getElem?_map, List.getElem?_range h]; rfl
theorem firsts_mem {ss : List ByteArray} {n nb : Nat} (hall : ∀ i, i < n → (ss.getD i ByteArray.empty).size = nb) : ∀ t, t ∈ firsts ss n → t.size = nb := by
  intro t ht
  unfold firsts at ht
  rw [List.mem_map] at ht
  obtain ⟨i, hi, rfl⟩ := ht
  exact hall i (List.mem_range.1 hi)

theorem Made.refs {nb M : Nat} {A : Bd.Fam nb M} {B : Nat} {w0 w : World} {tb k : Nat} {ss : List ByteArray} {v : Value} {y : Lay} {L : List Nd} {roots ls ns : List Nat} (h : Made A B w0 w tb ss k v y L roots ls ns) : RefsAt w v ls := by
  rcases h.row.2 with ⟨e, h0⟩ | ⟨g, cap, cur, hv, _, hg, hc1, hc2, hc3, hc4⟩
  · have : ls = [] := List.length_eq_zero_iff.1 (by rw [h.len]; exact h0)
    subst this
    exact ⟨none, 0, by rw [e]; rfl, fun i r h => by simp at h⟩
  · refine ⟨some ⟨g, 0, none⟩, cap, by rw [hv, h.len], fun i r hi => ⟨g, 0, rfl, block_lt hg, ?_⟩⟩
    have hil := Bd.getElem?_lt hi
    have hl := h.len
    rw [cell_at hg, Nat.zero_add]
    have h1 : (cur.toList.take (k * 1))[i]? = (nums ls)[i]? := by rw [hc4]
    rw [List.getElem?_take_of_lt (by omega)] at h1
    rw [← Array.getElem?_toList, h1]
    unfold nums
    rw [List.getElem?_map, hi]; rfl

theorem made_or {nb c : Nat} {ss : List ByteArray} {n : Nat} {hs : ∀ t, t ∈ firsts ss n → t.size = nb} {hl : (firsts ss n).length ≤ c} {B : Nat} {w0 w : World} {tb : Nat} {v : Value} {y : Lay} {L : List Nd} {roots ls ns : List Nat}
    (h : Made (orFam nb c (firsts ss n) hs hl) B w0 w tb ss n v y L roots ls ns) (hn : n ≤ 1000) (hlim : nb * 2 ^ c ≤ 1048576) :
    Calls Try.prog 24 #[.pointer (some ⟨tb, 0, none⟩), v] w fun e w' => ∃ r : Nat, e = .returned (.tuple #[.int .i64 r, .int .i64 0]) ∧ Live (orFam nb c (firsts ss n) hs hl) B w0 w' tb (n + 1) [(r, orL (firsts ss n) (pre (firsts ss n).length n) 0)] [] := by
  have hR := h.refs
  obtain ⟨rfl, hT, hW, hf, hb, hy, hB, hlen, hrow, hap, hN, hd, hr⟩ := h
  have hnl : ns.length = n := by rw [hN.1, hlen]
  refine (Or_many (s := ⟨L, roots, 2, nb, 1048576⟩) (orFam nb c (firsts ss n) hs hl) hT hW (Nat.le_refl _) (by show roots.length + 1 ≤ _; omega) hlim v ls ns hR (by omega) hN (fun m hm => ?_) (fun k => orL (firsts ss n) (pre (firsts ss n).length k) 0) (or_pre0 _ _ 0).symm (fun k m hk => ?_)).mono ?_
  · obtain ⟨i, hi, e⟩ := List.mem_iff_getElem.1 hm
    exact (hd i m (by rw [List.getElem?_eq_getElem hi, e])).1
  · have hkn : k < n := by have := Bd.getElem?_lt hk; omega
    refine ⟨?_, pre (firsts ss n).length (k + 1), pre_length _ _, rfl⟩
    rw [(hd k m hk).2]
    exact or_step (firsts ss n) k _ (firsts_at ss hkn)
  · rintro e w' ⟨r, rfl, ht⟩
    refine ⟨r, rfl, ?_⟩
    rw [hnl] at ht
    exact live_told hf hb hy hB (fs := []) (hs := []) (fun p hp => by simp at hp) (fun q hq => by simp at hq) ht

end Go.Proofs.Ytnkipdlfpnmgeaa
namespace Go.Proofs.Ytnkipdlfpnmgeaa
open Go.RowKit Go.Maps
open Bd (Nd ff tt iteF)

set_option maxRecDepth 4000 in
set_option maxHeartbeats 1000000 in
/-- List, and where its nodes lie. -/
theorem List_new {w : World} {y : Lay} {s : St} (hT : Tab w y s) (h2 : 2 ≤ s.first) (r n : Nat) (hn : s.node? r = some n) (hnl : n < s.L.length + 2) :
    Calls Try.prog 15 #[.pointer (some ⟨y.tb, 0, none⟩), .int .i64 r] w fun e w' => ∃ g cap, e = .returned (.tuple #[.slice (some ⟨g, 0, none⟩) (listOf s.L n).length cap, .int .i64 0]) ∧ w'.ownsRow 0 62 3 (.slice (some ⟨g, 0, none⟩) (listOf s.L n).length cap) (listOf s.L n).length (flat (listOf s.L n)) ∧ w.heap.size ≤ g ∧ Below w.heap.size w w' := by
  have HT := keep hT
  have q1 := root_ok hT h2 r n hn
  clear hT hn
  go_enter Try.func15, Try.ntmps15
  go_wp2_with fail
  refine q1.mono ?_
  clear q1
  rintro e w1 ⟨rfl, hb1⟩
  have HB1 := keep hb1
  have HT1 := keep (HT.out.below hb1)
  have c3 : w1.cell? ⟨y.tb, 3, none⟩ = some y.ls := by rw [cell_at HT1.out.cells]; rfl
  obtain ⟨ao, cap, hls⟩ := HT1.out.list_slice
  rw [hls] at c3
  clear hb1
  go_wp2_with fail
  refine (orderOf_one (lv := .slice ao s.L.length cap) (L := s.L) (by rw [← hls]; exact HT1.out.list.alloc _) HT.out.okay.falls HT.out.small.1 n w1.heap.size 1 hnl (by simp) (by rw [cell_at (heap_alloc_new w1 _)]; rfl)).mono ?_
  rintro e w2 ⟨ob, pb, rfl, hO, hb2⟩
  have HB2 := keep (((Below.refl _ _).alloc (Nat.le_refl _) _).trans (hb2.mono (by simp)) : Below w1.heap.size w1 w2)
  have HO := keep hO
  clear hb2 hO
  have hnd := vis_nodup s.L 2 HT.out.okay.falls (by omega) (n + 1) n [] hnl (by simp)
  have hvl := vis_lt s.L 2 HT.out.okay.falls (by omega) (n + 1) n [] hnl (by simp)
  have hlen : (vis s.L 2 (n + 1) n []).length ≤ 1073741826 := by
    have h1 : (vis s.L 2 (n + 1) n []).length ≤ s.L.length + 2 := by
      have := List.Nodup.length_le_of_subset (l₂ := List.range (s.L.length + 2)) hnd (fun m hm => List.mem_range.2 (hvl m hm).2)
      simpa using this
    have := HT.out.small.1
    omega
  go_wp2_with fail
  refine (nodes_any HO.out hnd hvl (by omega) HT.out.okay.falls HT.out.small.1 (by omega) hlen).mono ?_
  rintro e w3 ⟨rfl, hown, hb3⟩
  have HOWN := keep hown
  clear hown hnd hvl
  go_wp2
  go_ret2
  have e1 : (listOf s.L n).length = (vis s.L 2 (n + 1) n []).length := by unfold listOf; rw [List.length_map]
  refine ⟨w2.heap.size, (vis s.L 2 (n + 1) n []).length, by rw [e1]; rfl, ?_, Nat.le_trans HB1.out.size HB2.out.size, HB1.out.trans ((HB2.out.trans (hb3.mono HB2.out.size)).mono HB1.out.size)⟩
  rw [e1]
  exact HOWN.out

theorem nodesIn_any {w : World} {g cap : Nat} {L : List Nd} (h : w.ownsRow 0 62 3 (.slice (some ⟨g, 0, none⟩) L.length cap) L.length (flat L)) : NodesIn w (.slice (some ⟨g, 0, none⟩) L.length cap) L := by
  rcases Nat.eq_zero_or_pos L.length with h0 | h0
  · exact ⟨g, cap, rfl, fun i x hx => by have := Bd.getElem?_lt hx; omega⟩
  · exact nodesIn_of h h0

/-- The list of a function. -/
structure Listed {nb M : Nat} (A : Bd.Fam nb M) (Q : List Nd) (f : Bd.Fn) : Prop where
  ex : ∃ L n, Bd.Okay nb L ∧ n < L.length + 2 ∧ Bd.den L n = f ∧ Q = listOf L n
  within : Bd.Within A Q
  few : Q.length ≤ 1073741824

theorem listed_one {nb M M' : Nat} {A : Bd.Fam nb M} {A' : Bd.Fam nb M'} {Q Q' : List Nd} {f : Bd.Fn} (h : Listed A Q f) (h' : Listed A' Q' f) : Q = Q' := by
  obtain ⟨L, n, a1, a2, a3, rfl⟩ := h.ex
  obtain ⟨L', n', b1, b2, b3, rfl⟩ := h'.ex
  exact list_alike a1 b1 ⟨a2, b2, a3.trans b3.symm⟩
theorem list_end {L : List Nd} {n : Nat} (h : n < 2) : listOf L n = [] := by
  unfold listOf vis
  rw [if_pos h]; rfl
theorem listed_right {nb M : Nat} {A : Bd.Fam nb M} {Q : List Nd} {f : Bd.Fn} (h : Listed A Q f) : (Q = [] ∧ (f = ff ∨ f = tt)) ∨ (Right nb Q ∧ 1 ≤ Q.length ∧ Bd.den Q (Q.length + 1) = f) := by
  obtain ⟨L, n, a1, a2, rfl, rfl⟩ := h.ex
  rcases Nat.lt_or_ge n 2 with h2 | h2
  · refine Or.inl ⟨list_end h2, ?_⟩
    rcases Nat.lt_or_ge n 1 with h1 | h1
    · have : n = 0 := by omega
      subst this
      exact Or.inl (Bd.den_zero _)
    · have : n = 1 := by omega
      subst this
      exact Or.inr (Bd.den_one _)
  · obtain ⟨b1, b2⟩ := list_last a1 h2 a2
    exact Or.inr ⟨list_right a1 h2 a2, b1, b2⟩
theorem listed_ok {nb M : Nat} (hnb : nb ≤ 128) {A : Bd.Fam nb M} {Q : List Nd} {f : Bd.Fn} (h : Listed A Q f) : Right nb Q := by
  rcases listed_right h with ⟨rfl, _⟩ | ⟨h, _⟩
  · exact Right.nil hnb
  · exact h
theorem listed_last {nb M : Nat} {A : Bd.Fam nb M} {Q : List Nd} {f : Bd.Fn} (h : Listed A Q f) (hf : f ≠ tt) : lastF Q = f := by
  unfold lastF
  rcases listed_right h with ⟨rfl, h | h⟩ | ⟨_, h1, h2⟩
  · rw [if_pos (show ([] : List Nd).length = 0 from rfl)]; exact h.symm
  · exact absurd h hf
  · rw [if_neg (by omega)]; exact h2
theorem listed_of {nb M : Nat} {A : Bd.Fam nb M} {L : List Nd} {n : Nat} (hL : Bd.Okay nb L) (hn : n < L.length + 2) (hW : Bd.Within A L) (hs : L.length ≤ 1073741824) : Listed A (listOf L n) (Bd.den L n) := by
  refine ⟨⟨L, n, hL, hn, rfl, rfl⟩, fun i x hx => ?_, Nat.le_trans (list_few hL hn) hs⟩
  obtain ⟨hQ, hd⟩ := list_okay hL hn
  have hi : i < (ords L n).length := by rw [← list_length]; exact Bd.getElem?_lt hx
  have e1 : (ords L n)[i]? = some (ords L n)[i] := List.getElem?_eq_getElem hi
  rw [hd i _ e1]
  rw [list_at e1] at hx
  obtain ⟨m1, m2⟩ := ords_lt hL hn _ (List.getElem_mem hi)
  generalize (ords L n)[i] = m at *
  have hx1 : x.1 = (L.getD (m - 2) (0, 0, 0)).1 := by rw [← Option.some.inj hx]; rfl
  rw [hx1]
  have hm := (half_of hL m1 m2).1
  have := hW (m - 2) _ hm
  rw [show m - 2 + 2 = m by omega] at this
  exact this
theorem listed_den {nb M : Nat} {A : Bd.Fam nb M} {Q : List Nd} {f : Bd.Fn} (h : Listed A Q f) (hQ : Bd.Okay nb Q) : Bd.Within (denFam A Q hQ) Q := fun i x hx => ⟨h.within i x hx, i + 2, by have := Bd.getElem?_lt hx; omega, rfl⟩

section
variable {nb M : Nat} {A : Bd.Fam nb M} {B : Nat} {w0 w w' : World} {tb K : Nat} {fs : List (Nat × Bd.Fn)} {hs : List (Nat × Obj)}

theorem Live.tt (h : Live A B w0 w tb K fs hs) {f : Bd.Fn} (hr : (1, f) ∈ fs) : f = tt := by
  obtain ⟨y, L, roots, e, hT, hW, hK, hb0, hy, hB, hf, hh⟩ := h.ex
  obtain ⟨m, a1, a2, a3⟩ := hf _ hr
  have : (1 : Nat) = m := Option.some.inj a1
  subst this
  exact a3.symm.trans (Bd.den_one _)

theorem live_list (h : Live A B w0 w tb K fs hs) {r : Nat} {f : Bd.Fn} (hr : (r, f) ∈ fs) :
    Calls Try.prog 15 #[.pointer (some ⟨tb, 0, none⟩), .int .i64 r] w fun e w' => ∃ (Q : List Nd) (g cap : Nat) (o : Obj), e = .returned (.tuple #[.slice (some ⟨g, 0, none⟩) Q.length cap, .int .i64 0]) ∧ Listed A Q f ∧ w'.ownsRow 0 62 3 (.slice (some ⟨g, 0, none⟩) Q.length cap) Q.length (flat Q) ∧ Live A B w0 w' tb K fs ((g, o) :: hs) := by
  have h0 := h
  obtain ⟨y, L, roots, rfl, hT, hW, hK, hb0, hy, hB, hf, hh⟩ := h.ex
  obtain ⟨m, a1, a2, a3⟩ := hf _ hr
  have a3' : Bd.den L m = f := a3
  subst a3'
  refine (List_new (s := ⟨L, roots, 2, nb, 1048576⟩) hT (Nat.le_refl _) r m a1 a2).mono ?_
  rintro e w' ⟨g, cap, rfl, hrow, hg, hb⟩
  obtain ⟨cur, hcur⟩ := owned_cells hrow (g := g) rfl
  refine ⟨listOf L m, g, cap, .cells cur 62 (0, 0), rfl, listed_of hT.okay a2 hW hT.small.1, hrow, y, L, roots, rfl, hT.below hb, hW, hK, hb0.trans (hb.mono hB), hy, Nat.le_trans hB hb.size, hf, fun q hq => ?_⟩
  rcases List.mem_cons.1 hq with e | hq
  · rw [e]; exact ⟨hcur, fun ho => by have := hT.lt ho; omega⟩
  · exact ⟨(hb.block _ (block_lt (hh q hq).1)).trans (hh q hq).1, (hh q hq).2⟩

theorem live_make (h : Live A B w0 w tb K fs hs) (hK : K < 1000000) (hlim : nb * M ≤ 1048576) {Q : List Nd} {g cap : Nat} {o : Obj} (hrow : w.ownsRow 0 62 3 (.slice (some ⟨g, 0, none⟩) Q.length cap) Q.length (flat Q)) (hg : (g, o) ∈ hs) (hR : Right nb Q) (hlen : Q.length ≤ 1073741824) (hF : Bd.Within A Q) :
    Calls Try.prog 60 #[.pointer (some ⟨tb, 0, none⟩), .slice (some ⟨g, 0, none⟩) Q.length cap] w fun e w' => ∃ r : Nat, e = .returned (.tuple #[.int .i64 r, .int .i64 0, .int .i64 0]) ∧ Live A B w0 w' tb (K + 1) ((r, lastF Q) :: fs) hs := by
  obtain ⟨y, L, roots, rfl, hT, hW, hK', hb0, hy, hB, hf, hh⟩ := h.ex
  refine (Make_ok (s := ⟨L, roots, 2, nb, 1048576⟩) A hT hW (Nat.le_refl _) (by show roots.length + 1 ≤ _; omega) hlim Q _ hrow (fun k hk => by cases hk; exact (hh _ hg).2) hR hlen hF).mono ?_
  rintro e w' ⟨r, rfl, ht⟩
  exact ⟨r, rfl, live_told hK' hb0 hy hB hf hh ht⟩
theorem row_held {o : Obj} {g cap n : Nat} {xs : List Value} (hrow : w.ownsRow 0 62 3 (.slice (some ⟨g, 0, none⟩) n cap) n xs) (h1 : w.heap[g]? = some o) (h2 : w'.heap[g]? = some o) : w'.ownsRow 0 62 3 (.slice (some ⟨g, 0, none⟩) n cap) n xs :=
  row_same hrow fun q hq => by cases hq; exact h2.trans h1.symm

theorem live_new (A : Bd.Fam nb M) (hb0 : Below B w0 w) (hB : B ≤ w.heap.size) (h1 : 1 ≤ nb) (h2 : nb ≤ 128) (hh : ∀ q, q ∈ hs → w.heap[q.1]? = some q.2) :
    Calls Try.prog 20 #[.int .i64 (nb : Int), .int .i64 1048576] w fun e w' => ∃ tb, e = .returned (.tuple #[.pointer (some ⟨tb, 0, none⟩), .int .i64 0]) ∧ Live A B w0 w' tb 0 [] hs := by
  refine (New_ok w nb 1048576 h1 h2 (Nat.le_refl _)).mono ?_
  rintro e w' ⟨y, rfl, hT, hb, hy⟩
  refine ⟨y.tb, rfl, y, [], [], rfl, hT, Bd.within_nil _, Nat.le_refl _, hb0.trans (hb.mono hB), fun j hj => Nat.le_trans hB (hy j hj), Nat.le_trans hB hb.size, fun p hp => by simp at hp, fun q hq => ?_⟩
  have hl := block_lt (hh q hq)
  exact ⟨(hb.block _ hl).trans (hh q hq), fun ho => by have := hy _ ho; omega⟩

/-- A table with no nodes but those of a list has as many. -/
theorem live_exact {Q : List Nd} {hQ : Bd.Okay nb Q} {f : Bd.Fn} {r : Nat} (h : Live (denFam A Q hQ) B w0 w tb K fs hs) (hr : (r, f) ∈ fs) (hl : Listed A Q f) : Calls Try.prog 13 #[.pointer (some ⟨tb, 0, none⟩)] w fun e w' => e = .returned (.int .i64 Q.length) ∧ w' = w := by
  obtain ⟨y, L, roots, rfl, hT, hW, hK, hb0, hy, hB, hf, hh⟩ := h.ex
  obtain ⟨m, a1, a2, a3⟩ := hf _ hr
  have a3' : Bd.den L m = f := a3
  have h1 := den_few hT.okay hW
  have h2 := list_few hT.okay a2
  have h3 : Q = listOf L m := listed_one hl (a3' ▸ listed_of hT.okay a2 hW hT.small.1)
  rw [← h3] at h2
  have e : L.length = Q.length := by
    have h1' : L.length ≤ Q.length := h1
    have h2' : Q.length ≤ L.length := h2
    omega
  have := Size_ok hT
  have hs' : (⟨L, roots, 2, nb, 1048576⟩ : St).L.length = Q.length := e
  rw [hs'] at this
  exact this
end
end Go.Proofs.Ytnkipdlfpnmgeaa
