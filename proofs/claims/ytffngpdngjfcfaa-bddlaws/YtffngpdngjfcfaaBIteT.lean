/-
  ite: the two halves, the node, what is known then.
-/
import Derived.Test.YtffngpdngjfcfaaBIteQ
namespace Go.Proofs.Ytffngpdngjfcfaa
open Go.RowKit Go.Maps
open Bd (Nd)

theorem Moves.not_own {X : Nat → Prop} {w w' : World} {y y' : Lay} (h : Moves X w y w' y') {k : Nat} (hk : k < w.heap.size) (hn : ¬ y.own k) : ¬ y'.own k := by
  intro ho
  rcases h.own k ho with h1 | h1
  · exact hn h1
  · omega

def iteSpec (n : Nat) : Prop := ∀ {M : Nat} (s : St) (A : Bd.Fam s.bits M) (w : World) (y : Lay) (sb room kb sz : Nat) (kf : Value → Option Int) (a b c kk : Nat), Tab w y s → Bd.Within A s.L → StepAt w sb y.tb room kb → ¬ y.own sb → ¬ y.own kb →
  s.bits * M ≤ room → room ≤ 1073741824 → s.bits * M ≤ 1048576 → MapOf Try.prog 91 3 w kb sz kf → KnownOk s.L kf → a < s.L.length + 2 → b < s.L.length + 2 → c < s.L.length + 2 →
  kk ≤ Bd.bitOf s.L a → kk ≤ Bd.bitOf s.L b → kk ≤ Bd.bitOf s.L c → A.F kk (Bd.iteF (Bd.den s.L a) (Bd.den s.L b) (Bd.den s.L c)) → 128 - kk ≤ n →
  Calls Try.prog 53 #[.pointer (some ⟨sb, 0, none⟩), .agg #[i6 a, i6 b, i6 c]] w fun e w' => ∃ r, e = .returned (i6 r) ∧ IteGot A w y s kb w' r (Bd.iteF (Bd.den s.L a) (Bd.den s.L b) (Bd.den s.L c))

/-- The blocks that a call of ite lays for its own use. -/
structure Three (w : World) (B : Nat) (x0 x1 x2 : Value × Value × Value) : Prop where
  b0 : w.heap[B]? = some (.cells #[x0.1, x0.2.1, x0.2.2] 91 (0, 0))
  b1 : w.heap[B + 1]? = some (.cells #[x1.1, x1.2.1, x1.2.2] 91 (0, 0))
  b2 : w.heap[B + 1 + 1]? = some (.cells #[x2.1, x2.2.1, x2.2.2] 91 (0, 0))

theorem Three.moves {w w' : World} {B : Nat} {x0 x1 x2 : Value × Value × Value} (h : Three w B x0 x1 x2) {X : Nat → Prop} {y y' : Lay} (hm : Moves X w y w' y') (hy : ∀ k, y.own k → k < B ∨ B + 3 ≤ k) (hX : ∀ k, X k → k < B) : Three w' B x0 x1 x2 := by
  have l0 := block_lt h.b0
  have l1 := block_lt h.b1
  have l2 := block_lt h.b2
  have key : ∀ j, j < 3 → w'.heap[B + j]? = w.heap[B + j]? := by
    intro j hj
    refine hm.block _ ?_ (fun ho => ?_) (fun hx => ?_)
    · have : j = 0 ∨ j = 1 ∨ j = 2 := by omega
      rcases this with rfl | rfl | rfl <;> omega
    · rcases hy _ ho with h | h <;> omega
    · have := hX _ hx; omega
  exact ⟨(key 0 (by omega)).trans h.b0, (key 1 (by omega)).trans h.b1, (key 2 (by omega)).trans h.b2⟩
theorem own_between {_w0 w w' : World} {X : Nat → Prop} {y y' : Lay} (hm : Moves X w y w' y') {B : Nat} (hB : B + 3 ≤ w.heap.size) (hy : ∀ k, y.own k → k < B ∨ B + 3 ≤ k) : ∀ k, y'.own k → k < B ∨ B + 3 ≤ k := by
  intro k hk
  rcases hm.own k hk with h | h
  · exact hy k h
  · exact Or.inr (by omega)

abbrev v3 (a b c : Nat) : Value × Value × Value := (i6 a, i6 b, i6 c)

theorem ite_three {n M : Nat} (ih : iteSpec n) {w : World} {y : Lay} {s : St} (A : Bd.Fam s.bits M) (hT : Tab w y s) (hW : Bd.Within A s.L) (sb room kb : Nat) (hS : StepAt w sb y.tb room kb) (hns : ¬ y.own sb) (hnk : ¬ y.own kb) (hroom : s.bits * M ≤ room) (hr3 : room ≤ 1073741824) (hbM : s.bits * M ≤ 1048576)
    (sz : Nat) (kf : Value → Option Int) (hM : MapOf Try.prog 91 3 w kb sz kf) (hK : KnownOk s.L kf) (a b c kk k : Nat) (ha : a < s.L.length + 2) (hb : b < s.L.length + 2) (hc : c < s.L.length + 2)
    (hkk : kk ≤ k) (hka : k ≤ Bd.bitOf s.L a) (hkb : k ≤ Bd.bitOf s.L b) (hkc : k ≤ Bd.bitOf s.L c) (hkbits : k < s.bits) (hF : A.F kk (Bd.iteF (Bd.den s.L a) (Bd.den s.L b) (Bd.den s.L c))) (hn : 128 - kk ≤ n + 1)
    (W : World) (hBW : Below w.heap.size w W) (h3 : Three W w.heap.size (v3 a b c) (v3 (Bd.loOf s.L a k) (Bd.loOf s.L b k) (Bd.loOf s.L c k)) (v3 (Bd.hiOf s.L a k) (Bd.hiOf s.L b k) (Bd.hiOf s.L c k))) :
    Calls Try.prog 53 #[.pointer (some ⟨sb, 0, none⟩), .agg #[i6 (Bd.loOf s.L a k), i6 (Bd.loOf s.L b k), i6 (Bd.loOf s.L c k)]] W fun e w1 => ∃ r1, e = .returned (i6 r1) ∧ Three w1 w.heap.size (v3 a b c) (v3 (Bd.loOf s.L a k) (Bd.loOf s.L b k) (Bd.loOf s.L c k)) (v3 (Bd.hiOf s.L a k) (Bd.hiOf s.L b k) (Bd.hiOf s.L c k)) ∧
      Hid (Calls Try.prog 53 #[.pointer (some ⟨sb, 0, none⟩), .agg #[i6 (Bd.hiOf s.L a k), i6 (Bd.hiOf s.L b k), i6 (Bd.hiOf s.L c k)]] w1 fun e w2 => ∃ r2, e = .returned (i6 r2) ∧ Three w2 w.heap.size (v3 a b c) (v3 (Bd.loOf s.L a k) (Bd.loOf s.L b k) (Bd.loOf s.L c k)) (v3 (Bd.hiOf s.L a k) (Bd.hiOf s.L b k) (Bd.hiOf s.L c k)) ∧
        Hid (Calls Try.prog 86 #[.pointer (some ⟨sb, 0, none⟩), i6 k, i6 r1, i6 r2] w2 fun e w3 => ∃ r, e = .returned (i6 r) ∧ Three w3 w.heap.size (v3 a b c) (v3 (Bd.loOf s.L a k) (Bd.loOf s.L b k) (Bd.loOf s.L c k)) (v3 (Bd.hiOf s.L a k) (Bd.hiOf s.L b k) (Bd.hiOf s.L c k)) ∧
          w3.cell? ⟨sb, 2, none⟩ = some (.map (some kb)) ∧ ∃ w4, (Instr.mapUpdate 140 (.map (some kb)) (.agg #[.int .i64 a, .int .i64 b, .int .i64 c]) (.int .i64 r)).run Try.prog w3.drew = .ok () w4 ∧
            Hid (IteGot A w y s kb w4 r (Bd.iteF (Bd.den s.L a) (Bd.den s.L b) (Bd.den s.L c))))) := by
  have hf128 := hT.okay.few
  have hk128 : k < 128 := by omega
  have lsb := block_lt hS
  have lkb := hM.lt
  have hTW := hT.below hBW
  have l2 := block_lt h3.b2
  have hy3 : ∀ j, y.own j → j < w.heap.size ∨ w.heap.size + 3 ≤ j := fun j hj => Or.inl (hT.lt hj)
  have hX3 : ∀ j, j = kb → j < w.heap.size := fun j hj => by omega
  obtain ⟨a1, a2⟩ := Bd.lo_lt hT.okay ha hk128
  obtain ⟨b1, b2⟩ := Bd.lo_lt hT.okay hb hk128
  obtain ⟨c1, c2⟩ := Bd.lo_lt hT.okay hc hk128
  obtain ⟨a3, a4⟩ := Bd.bit_half hT.okay ha hk128 hka
  obtain ⟨b3, b4⟩ := Bd.bit_half hT.okay hb hk128 hkb
  obtain ⟨c3, c4⟩ := Bd.bit_half hT.okay hc hk128 hkc
  obtain ⟨a5, a6⟩ := Bd.den_half hT.okay ha hk128 hka
  obtain ⟨b5, b6⟩ := Bd.den_half hT.okay hb hk128 hkb
  obtain ⟨c5, c6⟩ := Bd.den_half hT.okay hc hk128 hkc
  have hFrom : Bd.From k (Bd.iteF (Bd.den s.L a) (Bd.den s.L b) (Bd.den s.L c)) := Bd.from_iteF ((Bd.from_den hT.okay a ha).mono hka) ((Bd.from_den hT.okay b hb).mono hkb) ((Bd.from_den hT.okay c hc).mono hkc)
  have hFk := A.skip hF hFrom hkk (by omega)
  have hF0 := A.go k _ false hkbits hFk
  have hF1 := A.go k _ true hkbits hFk
  rw [Bd.cof_iteF, ← a5, ← b5, ← c5] at hF0
  rw [Bd.cof_iteF, ← a6, ← b6, ← c6] at hF1
  have hSW : StepAt W sb y.tb room kb := (hBW.block sb lsb).trans hS
  refine (ih s A W y sb room kb sz kf _ _ _ (k + 1) hTW hW hSW hns hnk hroom hr3 hbM (hM.same (hBW.block _ lkb)) hK a1 b1 c1 a3 b3 c3 hF0 (by omega)).mono ?_
  rintro e w1 ⟨r1, rfl, ⟨N1, y1, t1, wi1, hr1, d1, m1, sz1, kf1, k1, ko1⟩⟩
  have h31 := h3.moves m1 hy3 hX3
  refine ⟨r1, rfl, h31, ?_⟩
  have l1len : (s.L ++ N1).length = s.L.length + N1.length := List.length_append
  have hns1 := m1.not_own (Nat.lt_of_lt_of_le lsb hBW.size) hns
  have hnk1 := m1.not_own (Nat.lt_of_lt_of_le lkb hBW.size) hnk
  have hS1 : StepAt w1 sb y1.tb room kb := by
    rw [m1.tb]
    refine (m1.block sb (Nat.lt_of_lt_of_le lsb hBW.size) hns (fun e => ?_)).trans hSW
    subst e
    obtain ⟨es, cc, hm⟩ := map_block hM
    rw [hS] at hm
    cases hm
  have hF1' : A.F (k + 1) (Bd.iteF (Bd.den (s.L ++ N1) (Bd.hiOf s.L a k)) (Bd.den (s.L ++ N1) (Bd.hiOf s.L b k)) (Bd.den (s.L ++ N1) (Bd.hiOf s.L c k))) := by
    rw [Bd.den_append_old _ _ a2, Bd.den_append_old _ _ b2, Bd.den_append_old _ _ c2]; exact hF1
  refine (ih { s with L := s.L ++ N1 } A w1 y1 sb room kb sz1 kf1 (Bd.hiOf s.L a k) (Bd.hiOf s.L b k) (Bd.hiOf s.L c k) (k + 1) t1 wi1 hS1 hns1 hnk1 hroom hr3 hbM k1 ko1 (by show _ < (s.L ++ N1).length + 2; omega) (by show _ < (s.L ++ N1).length + 2; omega) (by show _ < (s.L ++ N1).length + 2; omega)
    (by show _ ≤ Bd.bitOf (s.L ++ N1) _; rw [Bd.bitOf_old _ _ a2]; exact a4) (by show _ ≤ Bd.bitOf (s.L ++ N1) _; rw [Bd.bitOf_old _ _ b2]; exact b4) (by show _ ≤ Bd.bitOf (s.L ++ N1) _; rw [Bd.bitOf_old _ _ c2]; exact c4) hF1' (by omega)).mono ?_
  rintro e w2 ⟨r2, rfl, ⟨N2, y2, t2, wi2, hr2, d2, m2, sz2, kf2, k2, ko2⟩⟩
  have t2' : Tab w2 y2 { s with L := s.L ++ N1 ++ N2 } := t2
  have wi2' : Bd.Within A (s.L ++ N1 ++ N2) := wi2
  have d2' : Bd.den (s.L ++ N1 ++ N2) r2 = _ := d2
  have hr2' : r2 < (s.L ++ N1 ++ N2).length + 2 := hr2
  have ko2' : KnownOk (s.L ++ N1 ++ N2) kf2 := ko2
  clear t2 wi2 d2 hr2 ko2
  have hX1 : w.heap.size + 3 ≤ w1.heap.size := by have := m1.size; omega
  have h32 := h31.moves m2 (own_between (_w0 := w) m1 (by omega) hy3) hX3
  refine ⟨r2, rfl, h32, ?_⟩
  have lW1 : sb < w1.heap.size := by have := m1.size; have := hBW.size; omega
  have lK1 : kb < w1.heap.size := by have := m1.size; have := hBW.size; omega
  have hns2 := m2.not_own lW1 hns1
  have hnk2 := m2.not_own lK1 hnk1
  have hS2 : StepAt w2 sb y2.tb room kb := by
    rw [m2.tb]
    refine (m2.block sb lW1 hns1 (fun e => ?_)).trans hS1
    subst e
    obtain ⟨es, cc, hm⟩ := map_block hM
    rw [hS] at hm
    cases hm
  have l2len : (s.L ++ N1 ++ N2).length = s.L.length + N1.length + N2.length := by rw [List.length_append, List.length_append]
  have dr1 : Bd.den (s.L ++ N1 ++ N2) r1 = Bd.cof (Bd.iteF (Bd.den s.L a) (Bd.den s.L b) (Bd.den s.L c)) k false := by
    rw [Bd.den_append_old _ _ hr1, d1, Bd.cof_iteF, a5, b5, c5]
  have dr2 : Bd.den (s.L ++ N1 ++ N2) r2 = Bd.cof (Bd.iteF (Bd.den s.L a) (Bd.den s.L b) (Bd.den s.L c)) k true := by
    rw [d2', Bd.cof_iteF, ← a6, ← b6, ← c6]
    show Bd.iteF (Bd.den (s.L ++ N1) _) (Bd.den (s.L ++ N1) _) (Bd.den (s.L ++ N1) _) = _
    rw [Bd.den_append_old _ _ a2, Bd.den_append_old _ _ b2, Bd.den_append_old _ _ c2]
  have hr1' : r1 < (s.L ++ N1 ++ N2).length + 2 := by omega
  have hmux : Bd.mux k (Bd.den (s.L ++ N1 ++ N2) r1) (Bd.den (s.L ++ N1 ++ N2) r2) = Bd.iteF (Bd.den s.L a) (Bd.den s.L b) (Bd.den s.L c) := by rw [dr1, dr2, Bd.mux_cof]
  refine (node_any (s := { s with L := s.L ++ N1 ++ N2 }) A t2' wi2' sb room kb hS2 hns2 hroom hr3 k r1 r2 hkbits hr1' hr2' ?_ ?_ ?_).mono ?_
  · have := Bd.bit_ge t2'.okay (r := r1) (k := k + 1) hr1' (by show Bd.From (k + 1) (Bd.den (s.L ++ N1 ++ N2) r1); rw [dr1]; exact Bd.from_cof hFrom _) (by omega)
    exact this
  · have := Bd.bit_ge t2'.okay (r := r2) (k := k + 1) hr2' (by show Bd.From (k + 1) (Bd.den (s.L ++ N1 ++ N2) r2); rw [dr2]; exact Bd.from_cof hFrom _) (by omega)
    exact this
  · show A.F k (Bd.mux k (Bd.den (s.L ++ N1 ++ N2) r1) (Bd.den (s.L ++ N1 ++ N2) r2))
    rw [hmux]; exact hFk
  · rintro e w3 ⟨r, rfl, ⟨N3, y3, t3, wi3, hr3', d3, m3⟩⟩
    have t3' : Tab w3 y3 { s with L := s.L ++ N1 ++ N2 ++ N3 } := t3
    have wi3' : Bd.Within A (s.L ++ N1 ++ N2 ++ N3) := wi3
    have hr3'' : r < (s.L ++ N1 ++ N2 ++ N3).length + 2 := hr3'
    have d3' : Bd.den (s.L ++ N1 ++ N2 ++ N3) r = Bd.iteF (Bd.den s.L a) (Bd.den s.L b) (Bd.den s.L c) := by rw [← hmux]; exact d3
    clear t3 wi3 hr3' d3
    have lW2 : sb < w2.heap.size := by have := m2.size; omega
    have lK2 : kb < w2.heap.size := by have := m2.size; omega
    have hX2 : w.heap.size + 3 ≤ w2.heap.size := by have := m2.size; omega
    have hown2 := own_between (_w0 := w) m2 (by omega) (own_between (_w0 := w) m1 (by omega) hy3)
    have h33 := h32.moves m3 hown2 (fun j hj => hj.elim)
    refine ⟨r, rfl, h33, ?_, ?_⟩
    · have h := m3.block sb lW2 hns2 (fun h => h)
      rw [World.cell?_of_block h, cell_at hS2]; rfl
    · have l3len : (s.L ++ N1 ++ N2 ++ N3).length = (s.L ++ N1 ++ N2).length + N3.length := List.length_append
      have hfew := wi3'.few t3'.okay
      have hk3 : MapOf Try.prog 91 3 w3 kb sz2 kf2 := k2.same (m3.block kb lK2 hnk2 (fun h => h))
      have ko3 : KnownOk (s.L ++ N1 ++ N2 ++ N3) kf2 := ko2'.grow N3
      obtain ⟨kl, hkl⟩ := key_arr (a := a) (b := b) (c := c) (by have := t3'.small.1; have : (s.L ++ N1 ++ N2 ++ N3).length ≤ 1073741824 := this; omega) (by have := t3'.small.1; have : (s.L ++ N1 ++ N2 ++ N3).length ≤ 1073741824 := this; omega) (by have := t3'.small.1; have : (s.L ++ N1 ++ N2 ++ N3).length ≤ 1073741824 := this; omega)
      obtain ⟨w4, hrun, hput, hg⟩ := MapOf.put_run (w := w3.drew) (hk3.same rfl) kArr Try.underlying140 Try.underlying3 (known_few hk3 ko3 (by omega)) hkl (c := (r : Int)) (wf64 (by have := t3'.small.1; have : (s.L ++ N1 ++ N2 ++ N3).length ≤ 1073741824 := this; omega))
      refine ⟨w4, hrun, ?_⟩
      obtain ⟨kf', hu⟩ := upd_exists kf2 (arV a b c) (some (r : Int))
      have hm4 := hput kf' hu
      have lK3 : kb < w3.heap.size := by have := m3.size; omega
      have hnk3 := m3.not_own lK2 hnk2
      have m4 : Moves (fun k => k = kb) w3 y3 w4 y3 := ⟨rfl, fun _ h => Or.inl h, hg.os, hg.tape, hg.output, hg.size, fun j hj _ hx => hg.block j hj (fun e => hx (by cases e; rfl))⟩
      have t4 : Tab w4 y3 { s with L := s.L ++ N1 ++ N2 ++ N3 } := t3'.same fun j hj => hg.block j (t3'.lt hj) (fun e => by cases e; exact hnk3 hj)
      have M1 : Moves (fun k => k = kb) w y W y := moves_below y hBW
      have MA := (M1.trans m1).trans (m2.trans ((m3.more (fun _ h => h.elim)).trans m4))
      refine ⟨N1 ++ (N2 ++ N3), y3, ?_, ?_, ?_, ?_, MA, _, kf', hm4, ?_⟩
      · rw [← List.append_assoc, ← List.append_assoc]; exact t4
      · rw [← List.append_assoc, ← List.append_assoc]; exact wi3'
      · rw [← List.append_assoc, ← List.append_assoc]; exact hr3''
      · rw [← List.append_assoc, ← List.append_assoc]; exact d3'
      · rw [← List.append_assoc, ← List.append_assoc]
        refine ko3.put (by omega) (by omega) (by omega) hr3'' ?_ hu
        have e3 : ∀ x, x < s.L.length + 2 → Bd.den (s.L ++ N1 ++ N2 ++ N3) x = Bd.den s.L x := by
          intro x hx
          rw [Bd.den_append_old _ _ (by omega), Bd.den_append_old _ _ (by omega), Bd.den_append_old _ _ hx]
        rw [d3', e3 a ha, e3 b hb, e3 c hc]
end Go.Proofs.Ytffngpdngjfcfaa
