/-
  The stable sort's swaps of two pieces of a row, and its rotation.
-/
import Derived.Test.YtemmhingmeinjaaGreatDoorVDocWAnd
import Derived.Test.YtemmhingmeinjaaGreatDoorUMathAnd
import Derived.Shelf.RegionOpenPlain
namespace Go.Proofs.YtemmhingmeinjaaGreatDoor
open Go.RowKit

set_option maxRecDepth 20000 in
set_option maxHeartbeats 2000000 in
theorem compare_any {w : World} {p q k l : Int} {m n : List UInt8} {ao bo : Option Addr} {la ca lb cb : Nat} :
    Calls Tryz.prog 42 #[.agg #[.int .i64 p, .string (tx m), .int .i64 k, .slice ao la ca], .agg #[.int .i64 q, .string (tx n), .int .i64 l, .slice bo lb cb]] w fun e w' => e = .returned (.int .i64 (if cmpI q p = 0 then cmpL m n else cmpI q p)) ∧ Below w.heap.size w w' := by
  have HI := hid (fun w' => cmpInt_any q p w')
  have HS := hid (fun w' => cmpStr_any m n w')
  obtain ⟨a, ha⟩ : ∃ a, a = cmpI q p := ⟨_, rfl⟩
  obtain ⟨b, hb⟩ : ∃ b, b = cmpL m n := ⟨_, rfl⟩
  rw [← ha] at HI ⊢
  rw [← hb] at HS ⊢
  obtain ⟨r, hr⟩ : ∃ r, r = (if a = 0 then b else a) := ⟨_, rfl⟩
  have HO := hid (fun (X : World) => cmpOr_two (w := (X.alloc (.cells #[.int .i64 a, .int .i64 b] 3)).drew) (g := X.heap.size) (a := a) (b := b) (by rw [cell_at (show ((X.alloc (.cells #[.int .i64 a, .int .i64 b] 3)).drew).heap[X.heap.size]? = some (.cells #[.int .i64 a, .int .i64 b] 3) from new_0 _ _)]; rfl) (by rw [cell_at (show ((X.alloc (.cells #[.int .i64 a, .int .i64 b] 3)).drew).heap[X.heap.size]? = some (.cells #[.int .i64 a, .int .i64 b] 3) from new_0 _ _)]; rfl))
  rw [← hr] at HO ⊢
  clear ha hb hr
  obtain ⟨X, hX⟩ : ∃ X, X = (w.alloc (rob p (tx m) k (.slice ao la ca))).alloc (rob q (tx n) l (.slice bo lb cb)) := ⟨_, rfl⟩
  have hXb0 : X.heap[w.heap.size]? = some (rob p (tx m) k (.slice ao la ca)) := by rw [hX]; exact new_old _ _ (new_0 w _)
  have hXb1 : X.heap[w.heap.size + 1]? = some (rob q (tx n) l (.slice bo lb cb)) := by rw [hX]; exact new_1 _ _ _
  have BX := hid (show Below w.heap.size w X by rw [hX]; exact ((Below.refl _ _).alloc (Nat.le_refl _) _).alloc (by simp) _)
  have SX := hid (fun (W : World) (h0 : W.heap[w.heap.size]? = some (rob p (tx m) k (.slice ao la ca))) (h1 : W.heap[w.heap.size + 1]? = some (rob q (tx n) l (.slice bo lb cb))) => And.intro (rob_cells h0).1 (And.intro (rob_cells h0).2.1 (And.intro (rob_cells h1).1 (rob_cells h1).2.1)))
  have S0 := hid (SX.out X hXb0 hXb1)
  have S1 := hid (fun (O : Obj) => SX.out (X.alloc O) (new_old _ _ hXb0) (new_old _ _ hXb1))
  clear hXb0 hXb1
  go_enter Tryz.func42, Tryz.ntmps42
  go_wp2_with fail
  rw [← hX]
  clear hX
  go_region_held2 (fun W => W.cell? ⟨w.heap.size, 0, none⟩ = some (.int .i64 p) ∧ W.cell? ⟨w.heap.size, 1, none⟩ = some (.string (tx m)) ∧ W.cell? ⟨w.heap.size + 1, 0, none⟩ = some (.int .i64 q) ∧ W.cell? ⟨w.heap.size + 1, 1, none⟩ = some (.string (tx n))) (first | exact S0.out | exact S1.out _ | assumption) (first | (go_at_call 75; refine (HI.out _).mono ?_; rintro en w2 ⟨rfl, rfl⟩) | (go_at_call 76; refine (HS.out _).mono ?_; rintro en w3 ⟨rfl, rfl⟩) | (go_at_call 74; refine (HO.out X).mono ?_; rintro en w4 ⟨rfl, rfl⟩))
  go_wp2
  go_ret
  exact ⟨rfl, (BX.out.alloc BX.out.size _).drew⟩
end Go.Proofs.YtemmhingmeinjaaGreatDoor
namespace Go.Proofs.YtemmhingmeinjaaGreatDoor
open Go.RowKit

def aheadB (p q : Int) (m n : List UInt8) : Bool := decide (q < p ∨ (p = q ∧ m < n))
set_option maxRecDepth 20000 in
set_option maxHeartbeats 2000000 in
theorem RAhead_any {w : World} {p q k l : Int} {m n : List UInt8} {ao bo : Option Addr} {la ca lb cb : Nat} :
    Calls Tryz.prog 48 #[.agg #[.int .i64 p, .string (tx m), .int .i64 k, .slice ao la ca], .agg #[.int .i64 q, .string (tx n), .int .i64 l, .slice bo lb cb]] w fun e w' => e = .returned (.bool (aheadB p q m n)) ∧ Below w.heap.size w w' := by
  have BX := hid (show Below w.heap.size w ((w.alloc (rob p (tx m) k (.slice ao la ca))).alloc (rob q (tx n) l (.slice bo lb cb))) from ((Below.refl _ _).alloc (Nat.le_refl _) _).alloc (by simp) _)
  by_cases h : p = q
  · subst h
    have HE := hid (show aheadB p p m n = Op.bytesLess m n by unfold aheadB; rw [bytesLess_eq]; simp)
    rw [HE.out]
    clear HE
    go_enter Tryz.func48, Tryz.ntmps48
    go_wp2
    go_ret
    exact ⟨rfl, BX.out⟩
  · have HE := hid (show aheadB p q m n = decide (q < p) by unfold aheadB; simp [h])
    rw [HE.out]
    clear HE
    have hne : (p == q) = false := by rw [beq_eq_false_iff_ne]; exact h
    go_enter Tryz.func48, Tryz.ntmps48
    go_wp2
    go_ret
    exact ⟨rfl, BX.out⟩
end Go.Proofs.YtemmhingmeinjaaGreatDoor
namespace Go.Proofs.YtemmhingmeinjaaGreatDoor
open Go.RowKit

def cmpR (a b : Raw) : Int := if cmpI b.prio a.prio = 0 then cmpL a.mat b.mat else cmpI b.prio a.prio

theorem block_old {w : World} {a : Addr} {v : Value} (h : w.cell? a = some v) : a.block < w.heap.size := World.block_lt_of_cell? w _ h

set_option maxRecDepth 20000 in
set_option maxHeartbeats 2000000 in
theorem order_cmp {w : World} {g o n cap i j c : Nat} {ps : List (Raw × Value)} (hv : w.cell? ⟨c, 0, none⟩ = some (.slice (some ⟨g, o, none⟩) n cap)) (h : RawView w g o ps) (hn : ps.length = n) {a b : Raw × Value} (ha : ps[i]? = some a) (hb : ps[j]? = some b) :
    Calls Tryz.prog 41 #[.int .i64 i, .int .i64 j, .pointer (some ⟨c, 0, none⟩)] w fun e w' => e = .returned (.int .i64 (cmpR a.1 b.1)) ∧ Below w.heap.size w w' := by
  obtain ⟨a0, a1, a2, a3⟩ := h.cell i a ha
  obtain ⟨b0, b1, b2, b3⟩ := h.cell j b hb
  have hi : i < n := by rw [← hn]; exact (List.getElem?_eq_some_iff.1 ha).1
  have hj : j < n := by rw [← hn]; exact (List.getElem?_eq_some_iff.1 hb).1
  have pa := (h.ports a (List.mem_of_getElem? ha)).1
  have pb := (h.ports b (List.mem_of_getElem? hb)).1
  obtain ⟨⟨p, m, k, za⟩, va⟩ := a
  obtain ⟨⟨q, m', l, zb⟩, vb⟩ := b
  simp only at a0 a1 a2 a3 b0 b1 b2 b3 pa pb
  obtain ⟨ao, ca, rfl, _⟩ := pa
  obtain ⟨bo, cb, rfl, _⟩ := pb
  have HC := hid (fun w' => compare_any (w := w') (p := p) (q := q) (k := k) (l := l) (m := m) (n := m') (ao := ao) (bo := bo) (la := za.length) (ca := ca) (lb := zb.length) (cb := cb))
  obtain ⟨r, hr⟩ : ∃ r, r = (if cmpI q p = 0 then cmpL m m' else cmpI q p) := ⟨_, rfl⟩
  show Calls _ _ _ _ fun e w' => e = .returned (.int .i64 (if cmpI q p = 0 then cmpL m m' else cmpI q p)) ∧ Below w.heap.size w w'
  rw [← hr] at HC ⊢
  clear ha hb h hn hr
  have i0 : (0 : Int) ≤ (i : Int) := by omega
  have i1 : (i : Int) < (n : Int) := by omega
  have j0 : (0 : Int) ≤ (j : Int) := by omega
  have j1 : (j : Int) < (n : Int) := by omega
  go_enter Tryz.func41, Tryz.ntmps41
  go_wp2_with fail
  go_region_held2 (fun W => W.cell? ⟨c, 0, none⟩ = some (.slice (some ⟨g, o, none⟩) n cap) ∧ W.cell? ⟨g, o + i * 4, none⟩ = some (.int .i64 p) ∧ W.cell? ⟨g, o + i * 4 + 1, none⟩ = some (.string (tx m)) ∧ W.cell? ⟨g, o + i * 4 + 2, none⟩ = some (.int .i64 k) ∧ W.cell? ⟨g, o + i * 4 + 3, none⟩ = some (.slice ao za.length ca) ∧ W.cell? ⟨g, o + j * 4, none⟩ = some (.int .i64 q) ∧ W.cell? ⟨g, o + j * 4 + 1, none⟩ = some (.string (tx m')) ∧ W.cell? ⟨g, o + j * 4 + 2, none⟩ = some (.int .i64 l) ∧ W.cell? ⟨g, o + j * 4 + 3, none⟩ = some (.slice bo zb.length cb)) (first | exact ⟨hv, a0, a1, a2, a3, b0, b1, b2, b3⟩ | exact hS2) (first | (go_at_call 42; refine (HC.out _).mono ?_; rintro en w2 ⟨rfl, hb2⟩; have B2 := hid hb2; have hS2 := And.intro ((hb2.cell (block_old hv)).trans hv) (And.intro ((hb2.cell (block_old a0)).trans a0) (And.intro ((hb2.cell (block_old a1)).trans a1) (And.intro ((hb2.cell (block_old a2)).trans a2) (And.intro ((hb2.cell (block_old a3)).trans a3) (And.intro ((hb2.cell (block_old b0)).trans b0) (And.intro ((hb2.cell (block_old b1)).trans b1) (And.intro ((hb2.cell (block_old b2)).trans b2) ((hb2.cell (block_old b3)).trans b3)))))))); clear hb2))
  go_wp2
  go_ret
  exact ⟨rfl, (Below.refl w.heap.size w).drew.trans (show Below w.heap.size w.drew w2 from B2.out)⟩
end Go.Proofs.YtemmhingmeinjaaGreatDoor
namespace Go.Proofs.YtemmhingmeinjaaGreatDoor
namespace St

structure Ord (c : Nat → Nat → Int) (n : Nat) : Prop where
  anti : ∀ x y, x < n → y < n → (c x y < 0 ↔ 0 < c y x)
  trans : ∀ x y z, x < n → y < n → z < n → c x y ≤ 0 → c y z ≤ 0 → c x z ≤ 0

def lt (c : Nat → Nat → Int) (x y : Nat) : Prop := c x y < 0 ∨ (c x y = 0 ∧ x < y)

variable {c : Nat → Nat → Int} {n : Nat}

theorem Ord.irr (h : Ord c n) {x : Nat} (hx : x < n) : ¬ lt c x x := by
  rintro (q | ⟨_, q⟩)
  · have := (h.anti x x hx hx).1 q; omega
  · omega
theorem Ord.tra (h : Ord c n) {x y z : Nat} (hx : x < n) (hy : y < n) (hz : z < n) (p : lt c x y) (q : lt c y z) : lt c x z := by
  have p0 : c x y ≤ 0 := by rcases p with p | ⟨p, _⟩ <;> omega
  have q0 : c y z ≤ 0 := by rcases q with q | ⟨q, _⟩ <;> omega
  have r0 := h.trans x y z hx hy hz p0 q0
  by_cases r : c x z < 0
  · exact Or.inl r
  have rz : c x z = 0 := by omega
  have zx : c z x ≤ 0 := by
    by_cases k : 0 < c z x
    · have := (h.anti x z hx hz).2 k; omega
    · omega
  refine Or.inr ⟨rz, ?_⟩
  rcases p with p | ⟨_, p⟩
  · have := h.trans y z x hy hz hx q0 zx
    have := (h.anti x y hx hy).1 p
    omega
  rcases q with q | ⟨_, q⟩
  · have := h.trans z x y hz hx hy zx p0
    have := (h.anti y z hy hz).1 q
    omega
  omega
theorem Ord.asy (h : Ord c n) {x y : Nat} (hx : x < n) (hy : y < n) (p : lt c x y) (q : lt c y x) : False := h.irr hx (h.tra hx hy hx p q)
theorem Ord.near (h : Ord c n) {x y : Nat} (hx : x < n) (hy : y < n) (hxy : x < y) (k : ¬ c y x < 0) : lt c x y := by
  by_cases q : c x y < 0
  · exact Or.inl q
  · refine Or.inr ⟨?_, hxy⟩
    by_cases r : 0 < c x y
    · exact absurd ((h.anti y x hy hx).2 r) k
    · omega
theorem far {x y : Nat} (k : c y x < 0) : lt c y x := Or.inl k

def Up (c : Nat → Nat → Int) (l : List Nat) : Prop := l.Pairwise (lt c)

theorem Ord.put (h : Ord c n) {A B : List Nat} {y : Nat} (hy : y < n) (hn : ∀ x ∈ A ++ B, x < n) (hs : Up c (A ++ B)) (hl : ∀ x ∈ A ++ B, x < y) (hb : ∀ b ∈ B, c y b < 0) (ha : ∀ a, A.getLast? = some a → ¬ c y a < 0) : Up c (A ++ y :: B) := by
  unfold Up at hs ⊢
  rw [List.pairwise_append] at hs ⊢
  obtain ⟨s1, s2, s3⟩ := hs
  have key : ∀ a ∈ A, lt c a y := by
    intro a hA
    rcases List.eq_nil_or_concat A with e | ⟨A', z, e⟩
    · rw [e] at hA; cases hA
    · have hz : lt c z y := h.near (hn z (by rw [e]; simp)) hy (hl z (by rw [e]; simp)) (ha z (by rw [e]; simp))
      rw [e, List.concat_eq_append] at hA s1
      rcases List.mem_append.1 hA with q | q
      · exact h.tra (hn a (by rw [e]; simp [q])) (hn z (by rw [e]; simp)) hy ((List.pairwise_append.1 s1).2.2 a q z (by simp)) hz
      · rw [List.mem_singleton.1 q]; exact hz
  refine ⟨s1, List.pairwise_cons.2 ⟨fun b hB => far (hb b hB), s2⟩, fun a hA b hB => ?_⟩
  rcases List.mem_cons.1 hB with rfl | hB
  · exact key a hA
  · exact s3 a hA b hB

theorem Ord.one (h : Ord c n) : ∀ {l m : List Nat}, (∀ x ∈ l, x < n) → Up c l → Up c m → l.Perm m → l = m := by
  intro l
  induction l with
  | nil => intro m _ _ _ p; exact (List.Perm.nil_eq p)
  | cons a l ih =>
    intro m hn hl hm p
    cases m with
    | nil => exact absurd p.length_eq (by simp)
    | cons b m =>
      have hab : a = b := by
        by_cases e : a = b
        · exact e
        exfalso
        have ha : a ∈ m := by
          have := p.mem_iff.1 (List.mem_cons_self (a := a) (l := l))
          rcases List.mem_cons.1 this with q | q
          · exact absurd q e
          · exact q
        have hb : b ∈ l := by
          have := p.mem_iff.2 (List.mem_cons_self (a := b) (l := m))
          rcases List.mem_cons.1 this with q | q
          · exact absurd q.symm e
          · exact q
        exact h.asy (hn a (by simp)) (hn b (by simp [hb])) ((List.pairwise_cons.1 hl).1 b hb) ((List.pairwise_cons.1 hm).1 a ha)
      subst hab
      rw [ih (fun x hx => hn x (by simp [hx])) (List.pairwise_cons.1 hl).2 (List.pairwise_cons.1 hm).2 (List.perm_cons a |>.1 p)]

theorem Ord.halves (h : Ord c n) {X1 X2 Y1 Y2 : List Nat} (hn : ∀ x ∈ (X1 ++ X2) ++ (Y1 ++ Y2), x < n) (hX : Up c (X1 ++ X2)) (hY : Up c (Y1 ++ Y2)) (hl : ∀ x ∈ X1 ++ X2, ∀ y ∈ Y1 ++ Y2, x < y)
    (h1 : ∀ x, X1.getLast? = some x → ∀ y, Y2.head? = some y → ¬ c y x < 0) (h2 : ∀ y, Y1.getLast? = some y → ∀ x, X2.head? = some x → c y x < 0) :
    ∀ u ∈ X1 ++ Y1, ∀ v ∈ X2 ++ Y2, lt c u v := by
  unfold Up at hX hY
  obtain ⟨sx1, sx2, sx⟩ := List.pairwise_append.1 hX
  obtain ⟨sy1, sy2, sy⟩ := List.pairwise_append.1 hY
  have B : ∀ x, x ∈ X1 ∨ x ∈ X2 ∨ x ∈ Y1 ∨ x ∈ Y2 → x < n := fun x q => hn x (by rcases q with q | q | q | q <;> simp [q])
  intro u hu v hv
  rcases List.mem_append.1 hu with hu | hu <;> rcases List.mem_append.1 hv with hv | hv
  · exact sx u hu v hv
  · -- x of the first, y of the last
    rcases List.eq_nil_or_concat X1 with e | ⟨A, x, e⟩
    · rw [e] at hu; cases hu
    cases hY2 : Y2 with
    | nil => rw [hY2] at hv; cases hv
    | cons y Y =>
      have hx1 : x ∈ X1 := by rw [e]; simp
      have hy2 : y ∈ Y2 := by rw [hY2]; simp
      have hxy : lt c x y := h.near (B x (by simp [hx1])) (B y (by simp [hy2])) (hl x (by simp [hx1]) y (by simp [hy2])) (h1 x (by rw [e]; simp) y (by rw [hY2]; rfl))
      have a1 : u = x ∨ lt c u x := by
        rw [e, List.concat_eq_append] at hu sx1
        rcases List.mem_append.1 hu with q | q
        · exact Or.inr ((List.pairwise_append.1 sx1).2.2 u q x (by simp))
        · exact Or.inl (List.mem_singleton.1 q)
      have a2 : v = y ∨ lt c y v := by
        rw [hY2] at hv sy2
        rcases List.mem_cons.1 hv with q | q
        · exact Or.inl q
        · exact Or.inr ((List.pairwise_cons.1 sy2).1 v q)
      have hvn := B v (by simp [hv])
      have hun := B u (by simp [hu])
      have a3 : lt c u y := by
        rcases a1 with rfl | q
        · exact hxy
        · exact h.tra hun (B x (by simp [hx1])) (B y (by simp [hy2])) q hxy
      rcases a2 with rfl | q
      · exact a3
      · exact h.tra hun (B y (by simp [hy2])) hvn a3 q
  · rcases List.eq_nil_or_concat Y1 with e | ⟨A, y, e⟩
    · rw [e] at hu; cases hu
    cases hX2 : X2 with
    | nil => rw [hX2] at hv; cases hv
    | cons x X =>
      have hy1 : y ∈ Y1 := by rw [e]; simp
      have hx2 : x ∈ X2 := by rw [hX2]; simp
      have hxy : lt c y x := far (h2 y (by rw [e]; simp) x (by rw [hX2]; rfl))
      have a1 : u = y ∨ lt c u y := by
        rw [e, List.concat_eq_append] at hu sy1
        rcases List.mem_append.1 hu with q | q
        · exact Or.inr ((List.pairwise_append.1 sy1).2.2 u q y (by simp))
        · exact Or.inl (List.mem_singleton.1 q)
      have a2 : v = x ∨ lt c x v := by
        rw [hX2] at hv sx2
        rcases List.mem_cons.1 hv with q | q
        · exact Or.inl q
        · exact Or.inr ((List.pairwise_cons.1 sx2).1 v q)
      have hvn := B v (by simp [hv])
      have hun := B u (by simp [hu])
      have a3 : lt c u x := by
        rcases a1 with rfl | q
        · exact hxy
        · exact h.tra hun (B y (by simp [hy1])) (B x (by simp [hx2])) q hxy
      rcases a2 with rfl | q
      · exact a3
      · exact h.tra hun (B x (by simp [hx2])) hvn a3 q
  · exact sy u hu v hv

theorem up_two {L H : List Nat} (h1 : Up c L) (h2 : Up c H) (h : ∀ u ∈ L, ∀ v ∈ H, lt c u v) : Up c (L ++ H) := List.pairwise_append.2 ⟨h1, h2, h⟩

def at_ (xs : List Nat) (k : Nat) : Nat := xs.getD k 0
theorem at_mid {P Q : List Nat} {x : Nat} {k : Nat} (hk : P.length = k) : at_ (P ++ x :: Q) k = x := by
  unfold at_; subst hk; simp [List.getD]
theorem swap_two {P Q : List Nat} {x y : Nat} {k : Nat} (hk : P.length = k) : ((P ++ x :: y :: Q).set k y).set (k + 1) x = P ++ y :: x :: Q := by
  subst hk
  simp
theorem swap_two' {P Q : List Nat} {x y : Nat} {k : Nat} (hk : P.length = k) : ((P ++ x :: y :: Q).set (k + 1) x).set k y = P ++ y :: x :: Q := by
  subst hk
  simp
theorem set_mid {P Q : List Nat} {x y : Nat} {k : Nat} (hk : P.length = k) : (P ++ x :: Q).set k y = P ++ y :: Q := by
  subst hk
  simp
end St
end Go.Proofs.YtemmhingmeinjaaGreatDoor
namespace Go.Proofs.YtemmhingmeinjaaGreatDoor
open Go.RowKit

def nvs (xs : List Nat) : Array Value := (xs.map fun x : Nat => Value.int .i64 (x : Int)).toArray
def Nums (w : World) (b : Nat) (xs : List Nat) : Prop := w.heap[b]? = some (.cells (nvs xs) 3 (0, 0))
theorem Nums.cell {w : World} {b : Nat} {xs : List Nat} (h : Nums w b xs) {k : Nat} (hk : k < xs.length) : w.cell? ⟨b, k, none⟩ = some (.int .i64 ((St.at_ xs k : Nat) : Int)) := by
  rw [cell_at h]
  unfold nvs St.at_
  simp [List.getD, List.getElem?_eq_getElem hk]
theorem Nums.free {w : World} {b : Nat} {xs : List Nat} (h : Nums w b xs) (k : Nat) : w.frozen? ⟨b, k, none⟩ = false := free_of h
theorem Nums.lt {w : World} {b : Nat} {xs : List Nat} (h : Nums w b xs) : b < w.heap.size := by
  unfold Nums at h
  rw [Array.getElem?_eq_some_iff] at h
  exact h.1
theorem Nums.set {w : World} {b : Nat} {xs : List Nat} (h : Nums w b xs) (k x : Nat) : Nums (w.setCell ⟨b, k, none⟩ (.int .i64 (x : Int))) b (xs.set k x) := by
  unfold Nums
  rw [block_set _ h]
  unfold nvs
  congr 2
  apply Array.ext'
  simp [List.map_set]
theorem Nums.below {w w' : World} {b B : Nat} {xs : List Nat} (h : Nums w b xs) (hb : Below B w w') (hB : b < B) : Nums w' b xs := below_block hb h hB
theorem Nums.on {w w' : World} {b : Nat} {xs : List Nat} (h : Nums w b xs) (hb : Below w.heap.size w w') : Nums w' b xs := h.below hb h.lt
theorem Nums.drew {w : World} {b : Nat} {xs : List Nat} (h : Nums w b xs) : Nums w.drew b xs := h

def Cmps (w : World) (b n : Nat) (c : Nat → Nat → Int) (cb : Nat) : Prop := ∀ (W : World), Below b w W → ∀ x y, x < n → y < n → Calls Tryz.prog 41 #[.int .i64 (x : Int), .int .i64 (y : Int), .pointer (some ⟨cb, 0, none⟩)] W fun e W' => e = .returned (.int .i64 (c x y)) ∧ Below W.heap.size W W'
theorem Cmps.on {w w' : World} {b n cb : Nat} {c : Nat → Nat → Int} (h : Cmps w b n c cb) (hb : Below b w w') : Cmps w' b n c cb := fun W hW => h W (hb.trans hW)
end Go.Proofs.YtemmhingmeinjaaGreatDoor
namespace Go.Proofs.YtemmhingmeinjaaGreatDoor
open Go.RowKit

abbrev clo (cb : Nat) : Value := .func (.func 41) #[] #[.pointer (some ⟨cb, 0, none⟩)]
theorem Tryz.entOrd : ∀ args w, (callFunc 41 args).run Tryz.prog w = .ok (.enter 41 args) w := fun _ _ => by kernel_rfl

theorem Tryz.mixed : Tryz.prog.follows Departure.mixedOrders = true := by kernel_rfl

def Sorts (c : Nat → Nat → Int) (w : World) (b : Nat) (P X S : List Nat) (w' : World) : Prop := Below b w w' ∧ ∃ Z, St.Up c Z ∧ Z.Perm X ∧ Nums w' b (P ++ Z ++ S)

structure InsAt (c : Nat → Nat → Int) (w : World) (b : Nat) (P Z S : List Nat) (y : Nat) (j : Nat) (w' : World) : Prop where
  parts : ∃ A B, Z = A ++ B ∧ j = P.length + A.length ∧ (∀ x ∈ B, c y x < 0) ∧ Nums w' b ((P ++ A) ++ y :: (B ++ S))
  low : Below b w w'
structure InsOut (c : Nat → Nat → Int) (w : World) (b : Nat) (P X S : List Nat) (k : Nat) (w' : World) (Z R : List Nat) : Prop where
  len : k = P.length + Z.length
  up : St.Up c Z
  parts : ∃ A, X = A ++ R ∧ Z.Perm A
  nums : Nums w' b (P ++ Z ++ (R ++ S))
  low : Below b w w'

theorem InsOut.step {c : Nat → Nat → Int} {N : Nat} {w w' : World} {b k : Nat} {P X S Z R : List Nat} {y : Nat} {A B : List Nat} {wr : World} (h : InsOut c w b P X S k wr Z (y :: R)) (hO : St.Ord c N) (hx : ∀ x ∈ X, x < N) (hX : X.Pairwise (· < ·)) (hAB : Z = A ++ B) (hB : ∀ x ∈ B, c y x < 0) (hA : ∀ x, A.getLast? = some x → ¬ c y x < 0) (hN : Nums w' b ((P ++ A) ++ y :: (B ++ (R ++ S)))) (hb : Below b w w') :
    InsOut c w b P X S (k + 1) w' (A ++ y :: B) R := by
  obtain ⟨A0, e0, p0⟩ := h.parts
  have hmem : ∀ x ∈ Z, x ∈ X := fun x q => by rw [e0]; exact List.mem_append_left _ (p0.mem_iff.1 q)
  have hy : y ∈ X := by rw [e0]; simp
  have hlt : ∀ x ∈ Z, x < y := fun x q => by
    rw [e0] at hX
    exact (List.pairwise_append.1 hX).2.2 x (p0.mem_iff.1 q) y (by simp)
  have up := h.up
  rw [hAB] at up hlt hmem
  refine ⟨?_, hO.put (hx y hy) (fun x q => hx x (hmem x q)) up hlt hB hA, ⟨A0 ++ [y], by rw [e0]; simp, ?_⟩, ?_, hb⟩
  · rw [h.len, hAB]; simp only [List.length_append, List.length_cons]; omega
  · refine List.Perm.trans List.perm_middle ?_
    rw [hAB] at p0
    exact (List.Perm.cons y p0).trans (List.perm_append_singleton y A0).symm
  · have e : P ++ (A ++ y :: B) ++ (R ++ S) = (P ++ A) ++ y :: (B ++ (R ++ S)) := by simp
    rw [e]; exact hN

set_option maxRecDepth 20000 in
set_option maxHeartbeats 2000000 in
theorem ins_any {w : World} {b n N cap cb a e : Nat} {c : Nat → Nat → Int} {P X S : List Nat} (hO : St.Ord c N) (hC : Cmps w b N c cb) (hN : Nums w b (P ++ X ++ S)) (hn : (P ++ X ++ S).length = n) (h62 : n < 4611686018427387904) (hx : ∀ x ∈ X, x < N) (hX : X.Pairwise (· < ·)) (ha : P.length = a) (he : a + X.length = e) :
    Calls Tryz.prog 111 #[.slice (some ⟨b, 0, none⟩) n cap, .int .i64 a, .int .i64 e, clo cb] w fun en w' => en = .returned (.tuple #[]) ∧ Sorts c w b P X S w' := by
  have HO := hid hO
  have HC := hid hC
  have HN := hid hN
  have HL := hid hn
  have HX := hid hx
  have HU := hid hX
  have HA := hid ha
  have HE := hid he
  have hent := Tryz.entOrd
  have mixed := Tryz.mixed
  have hen : e ≤ n := by rw [← hn]; simp only [List.length_append]; omega
  have ha62 : a < 4611686018427387904 := by omega
  cases hX0 : X with
  | nil =>
    have hae : ¬ ((a : Int) + 1 < (e : Int)) := by rw [hX0] at he; simp at he; omega
    clear hO hC hN hn hx hX ha he
    go_enter Tryz.func111, Tryz.ntmps111
    go_wp2_with fail
    refine wp_loop_rounds 1 ?_
    rw [rounds_succ]
    go_wp2
    exact bodyPost_end (v := .tuple #[]) (by simp [results, Tryz.results111, go_sem]) rfl ⟨rfl, Below.refl _ _, [], List.Pairwise.nil, List.Perm.nil, by have := HN.out; rw [hX0] at this; exact this⟩
  | cons x0 X1 =>
    have HI := hid (show InsOut c w b P X S (a + 1) w [x0] X1 from ⟨by rw [← ha]; rfl, List.pairwise_singleton _ _, ⟨[x0], by rw [hX0]; rfl, List.Perm.refl _⟩, by rw [hX0] at hN; simpa using hN, Below.refl _ _⟩)
    have hae : a + 1 ≤ e := by rw [hX0] at he; simp only [List.length_cons] at he; omega
    rw [← hX0]
    clear hO hC hN hn hx hX ha he hX0
    go_enter Tryz.func111, Tryz.ntmps111
    go_wp2_with fail
    go_loopw [8, 9] (fun i _ wr => ∃ (k : Nat) (Z R : List Nat), k ≤ e ∧ i = .int .i64 k ∧ Hid (InsOut c w b P X S k wr Z R)) (fun i _ _ => e - (intOf i).toNat)
    case atStart => exact ⟨a + 1, [x0], X1, hae, by go_num, HI⟩
    case round =>
      obtain ⟨k, Z, R, hke, rfl, HR⟩ := hrel
      rename World => wo
      have HKL := hid (show k + R.length = e by
        obtain ⟨A0, e0, p0⟩ := HR.out.parts
        have := HR.out.len
        have h1 := HE.out
        have h2 := HA.out
        have h3 := p0.length_eq
        rw [e0, List.length_append] at h1
        omega)
      by_cases hlt : k < e
      · cases hR : R with
        | nil => exfalso; have := HKL.out; rw [hR] at this; simp at this; omega
        | cons y R1 =>
          have hkI : (k : Int) < (e : Int) := by omega
          have HR1 := hid (show InsOut c w b P X S k wo Z (y :: R1) from hR ▸ HR.out)
          have HYN := hid (show y < N from HX.out y (by obtain ⟨A0, e0, _⟩ := HR1.out.parts; rw [e0]; simp))
          have HZN := hid (show ∀ x ∈ Z, x < N from fun x q => HX.out x (by obtain ⟨A0, e0, p0⟩ := HR1.out.parts; rw [e0]; exact List.mem_append_left _ (p0.mem_iff.1 q)))
          have HS0 := hid (show InsAt c w b P Z (R1 ++ S) y k wo from ⟨⟨Z, [], by simp, HR1.out.len, fun x q => by (cases q), by simpa using HR1.out.nums⟩, HR1.out.low⟩)
          have hak : a ≤ k := by have := HR1.out.len; have := HA.out; omega
          clear hR
          go_wp2_with fail
          go_loopw [9] (fun j wq => ∃ jj : Nat, a ≤ jj ∧ jj ≤ k ∧ j = .int .i64 jj ∧ Hid (InsAt c w b P Z (R1 ++ S) y jj wq)) (fun j _ => (intOf j).toNat)
          case atStart => exact ⟨k, hak, Nat.le_refl _, rfl, HS0⟩
          case round =>
            obtain ⟨jj, haj, hjk, rfl, HJ⟩ := hrel
            rename World => wr
            by_cases hja : a < jj
            · obtain ⟨t, htj⟩ : ∃ t, jj = t + 1 := ⟨jj - 1, by omega⟩
              have HTJ := hid htj
              obtain ⟨A, B, x, HP⟩ : ∃ (A B : List Nat) (x : Nat), Hid (Z = (A ++ [x]) ++ B ∧ t = (P ++ A).length ∧ (∀ z ∈ B, c y z < 0) ∧ Nums wr b ((P ++ A) ++ x :: y :: (B ++ (R1 ++ S)))) := by
                obtain ⟨A, B, h1, h2, h3, h4⟩ := HJ.out.parts
                rcases List.eq_nil_or_concat A with q | ⟨A', x, q⟩
                · exfalso; rw [q] at h2; have := HA.out; simp at h2; omega
                · rw [List.concat_eq_append] at q
                  exact ⟨A', B, x, by rw [← q]; exact h1, by rw [q] at h2; simp only [List.length_append, List.length_cons, List.length_nil] at h2 ⊢; omega, h3, by rw [q] at h4; simpa using h4⟩
              have hxN := hid (HZN.out x (by rw [HP.out.1]; simp))
              have c0 : wr.cell? ⟨b, t, none⟩ = some (.int .i64 (x : Int)) := by
                have := HP.out.2.2.2.cell (k := t) (by rw [HP.out.2.1]; simp)
                rw [St.at_mid HP.out.2.1.symm] at this
                exact this
              have c1 : wr.cell? ⟨b, jj, none⟩ = some (.int .i64 (y : Int)) := by
                have := HP.out.2.2.2.cell (k := t + 1) (by rw [HP.out.2.1]; simp; omega)
                rw [show (P ++ A) ++ x :: y :: (B ++ (R1 ++ S)) = ((P ++ A) ++ [x]) ++ y :: (B ++ (R1 ++ S)) by simp, St.at_mid (by rw [HP.out.2.1]; simp; omega)] at this
                rw [htj]; exact this
              have hjI : (a : Int) < (jj : Int) := by omega
              have hw1 : IntKind.i64.wrap ((jj : Int) - 1) = (t : Int) := by rw [IntKind.wrap_i64]; omega
              have ht0 : (0 : Int) ≤ (t : Int) := by omega
              have ht1 : (t : Int) < (n : Int) := by omega
              have hj0 : (0 : Int) ≤ (jj : Int) := by omega
              have hj1 : (jj : Int) < (n : Int) := by omega
              clear htj
              have HCC := hid (fun (W : World) (h : Below wr.heap.size wr W) => HC.out W (HJ.out.low.trans (h.mono (Nat.le_of_lt HP.out.2.2.2.lt))) y x HYN.out hxN.out)
              go_wp2_with fail
              go_region_held2 (fun W => W.cell? ⟨b, t, none⟩ = some (.int .i64 (x : Int)) ∧ W.cell? ⟨b, jj, none⟩ = some (.int .i64 (y : Int))) (first | exact ⟨c0, c1⟩ | exact hS2) (first | (go_at_call 41; refine (HCC.out _ (by first | exact Below.refl _ _ | exact (Below.refl _ _).drew)).mono ?_; rintro en w2 ⟨rfl, hb2⟩; have B2 := hid (show Below wr.heap.size wr w2 by (first | exact hb2 | exact undrew hb2)); have hS2 := And.intro ((B2.out.cell (by exact HP.out.2.2.2.lt)).trans c0) ((B2.out.cell (by exact HP.out.2.2.2.lt)).trans c1)))
              have N2 := hid (HP.out.2.2.2.on B2.out)
              have L2 := hid (HJ.out.low.trans (B2.out.mono (Nat.le_of_lt HP.out.2.2.2.lt)))
              have e0 : w2.cell? ⟨b, t, none⟩ = some (.int .i64 (x : Int)) := (B2.out.cell (by exact HP.out.2.2.2.lt)).trans c0
              have e1 : w2.cell? ⟨b, jj, none⟩ = some (.int .i64 (y : Int)) := (B2.out.cell (by exact HP.out.2.2.2.lt)).trans c1
              have g0 := N2.out.free t
              have g1 := N2.out.free jj
              clear hb2 c0 c1
              by_cases hc : c y x < 0
              · have HD := hid hc
                have e2 : (w2.setCell ⟨b, jj, none⟩ (.int .i64 (x : Int))).cell? ⟨b, t, none⟩ = some (.int .i64 (x : Int)) := by
                  rw [N2.out.set jj x |>.cell (k := t) (by rw [List.length_set, HP.out.2.1]; simp)]
                  congr 2
                  unfold St.at_
                  rw [List.getD_eq_getElem?_getD, List.getElem?_set_ne (by rw [HTJ.out]; omega), HP.out.2.1]
                  simp
                go_wp2_with fail
                go_big_region_o
                have HJ3 := hid (show InsAt c w b P Z (R1 ++ S) y t ((w2.setCell ⟨b, jj, none⟩ (.int .i64 (x : Int))).setCell ⟨b, t, none⟩ (.int .i64 (y : Int))).drew by
                  refine ⟨⟨A, x :: B, ?_, ?_, ?_, ?_⟩, ?_⟩
                  · rw [HP.out.1]; simp
                  · rw [HP.out.2.1]; simp
                  · intro z hz
                    rcases List.mem_cons.1 hz with rfl | hz
                    · exact HD.out
                    · exact HP.out.2.2.1 z hz
                  · have := ((N2.out.set jj x).set t y).drew
                    rw [HTJ.out, St.swap_two' HP.out.2.1.symm] at this
                    rw [HTJ.out]
                    exact this
                  · exact ((L2.out.setCell (Nat.le_refl _) _).setCell (Nat.le_refl _) _).drew)
                clear e0 e1 e2 g0 g1
                generalize ((w2.setCell ⟨b, jj, none⟩ (.int .i64 (x : Int))).setCell ⟨b, t, none⟩ (.int .i64 (y : Int))).drew = w3 at HJ3 ⊢
                go_wp2
                go_roundw
                case rel => exact ⟨t, by have := HTJ.out; omega, by have := HTJ.out; omega, by first | rfl | go_num, HJ3⟩
                case measure => have := HTJ.out; simp [intOf]; omega
              · have HN3 := hid (show InsOut c w b P X S (k + 1) w2 ((A ++ [x]) ++ y :: B) R1 from
                  HR1.out.step HO.out HX.out HU.out HP.out.1 HP.out.2.2.1 (fun z hz => by rw [List.getLast?_concat] at hz; cases hz; exact hc) (by have := N2.out; simpa using this) L2.out)
                go_wp2
                go_roundw
                case rel => exact ⟨k + 1, _, R1, by omega, by go_num, HN3⟩
                case measure => simp [intOf]; omega
            · have hjI : ¬ ((a : Int) < (jj : Int)) := by omega
              have HN3 := hid (show InsOut c w b P X S (k + 1) wr.drew ([] ++ y :: Z) R1 by
                obtain ⟨A, B, h1, h2, h3, h4⟩ := HJ.out.parts
                have hA0 : A = [] := List.length_eq_zero_iff.1 (by have := HA.out; omega)
                subst hA0
                rw [List.nil_append] at h1
                subst h1
                exact HR1.out.step HO.out HX.out HU.out rfl h3 (fun z hz => by cases hz) h4.drew HJ.out.low.drew)
              have hjaz : decide ((jj : Int) > (a : Int)) = false := decide_eq_false (by omega)
              go_wp2_with fail
              go_big_region_o
              generalize wr.drew = w3 at HN3 ⊢
              go_wp2
              go_roundw
              case rel => exact ⟨k + 1, _, R1, by omega, by go_num, HN3⟩
              case measure => simp [intOf]; omega
      · have hkI : ¬ ((k : Int) < (e : Int)) := by omega
        have HFIN := hid (show Sorts c w b P X S wo by
          have hR0 : R = [] := by have := HKL.out; exact List.length_eq_zero_iff.1 (by omega)
          refine ⟨HR.out.low, Z, HR.out.up, ?_, ?_⟩
          · obtain ⟨A0, e0, p0⟩ := HR.out.parts
            rw [hR0, List.append_nil] at e0
            rw [e0]; exact p0
          · have := HR.out.nums
            rw [hR0, List.nil_append] at this
            exact this)
        go_wp2
        exact bodyPost_end (v := .tuple #[]) (by simp [results, Tryz.results111, go_sem]) rfl ⟨rfl, HFIN.out⟩
end Go.Proofs.YtemmhingmeinjaaGreatDoor
namespace Go.Proofs.YtemmhingmeinjaaGreatDoor
open Go.RowKit

theorem Nums.second {w : World} {b : Nat} {xs : List Nat} (h : Nums w b xs) (i x : Nat) {j : Nat} (hj : j < xs.length) : ∃ u, (w.setCell ⟨b, i, none⟩ (.int .i64 (x : Int))).cell? ⟨b, j, none⟩ = some u :=
  ⟨_, (h.set i x).cell (k := j) (by rw [List.length_set]; exact hj)⟩
theorem Nums.at_ {w : World} {b : Nat} {U W : List Nat} {x k : Nat} (h : Nums w b (U ++ x :: W)) (hk : U.length = k) : w.cell? ⟨b, k, none⟩ = some (.int .i64 (x : Int)) := by
  have := h.cell (k := k) (by subst hk; simp)
  rw [St.at_mid hk] at this
  exact this
theorem St.swap_far {U V W : List Nat} {x y k l : Nat} (hk : U.length = k) (hl : (U ++ x :: V).length = l) : ((U ++ x :: V ++ y :: W).set k y).set l x = U ++ y :: V ++ x :: W := by
  have e1 : (U ++ x :: V ++ y :: W).set k y = (U ++ y :: V) ++ y :: W := by
    rw [List.append_assoc, List.cons_append, St.set_mid hk]; simp
  rw [e1, St.set_mid (by rw [← hl]; simp)]

set_option maxRecDepth 20000 in
set_option maxHeartbeats 2000000 in
theorem swapRange_any {w : World} {b n cap cb a e m : Nat} {P A M B S T : List Nat} (hT : P ++ B ++ M ++ A ++ S = T) (hN : Nums w b (P ++ A ++ M ++ B ++ S)) (hn : (P ++ A ++ M ++ B ++ S).length = n) (h62 : n < 4611686018427387904) (ha : P.length = a) (hA : A.length = m) (hB : B.length = m) (he : (P ++ A ++ M).length = e) :
    Calls Tryz.prog 173 #[.slice (some ⟨b, 0, none⟩) n cap, .int .i64 a, .int .i64 e, .int .i64 m, clo cb] w fun en w' => en = .returned (.tuple #[]) ∧ Below b w w' ∧ Nums w' b T := by
  have HT := hid hT
  have HN := hid hN
  have HL := hid hn
  have HP := hid ha
  have HA := hid hA
  have HB := hid hB
  have HE := hid he
  have mixed := Tryz.mixed
  have hb1 : a + m ≤ e := by rw [← he, ← ha, ← hA]; simp only [List.length_append]; omega
  have hb2 : e + m ≤ n := by rw [← hn, ← he, ← hB]; simp only [List.length_append]; omega
  clear hT hN hn ha hA hB he
  go_enter Tryz.func173, Tryz.ntmps173
  go_wp2_with fail
  go_loopw [10] (fun i wr => ∃ k : Nat, k ≤ m ∧ i = .int .i64 k ∧ Hid (Below b w wr ∧ ∃ A1 A2 B1 B2, A = A1 ++ A2 ∧ B = B1 ++ B2 ∧ A1.length = k ∧ B1.length = k ∧ Nums wr b (P ++ B1 ++ A2 ++ M ++ A1 ++ B2 ++ S))) (fun i _ => m - (intOf i).toNat)
  case atStart => exact ⟨0, Nat.zero_le _, rfl, Below.refl _ _, [], A, [], B, rfl, rfl, rfl, rfl, by simpa using HN.out⟩
  case round =>
    obtain ⟨k, hk, rfl, HR⟩ := hrel
    by_cases hlt : k < m
    · obtain ⟨A1, x, A2, B1, y, B2, HX⟩ : ∃ (A1 : List Nat) (x : Nat) (A2 B1 : List Nat) (y : Nat) (B2 : List Nat), Hid (A = A1 ++ x :: A2 ∧ B = B1 ++ y :: B2 ∧ A1.length = k ∧ B1.length = k ∧ Nums wr b ((P ++ B1) ++ x :: (A2 ++ M ++ A1) ++ y :: (B2 ++ S))) := by
        obtain ⟨_, A1, A2, B1, B2, h1, h2, h3, h4, h5⟩ := HR.out
        cases A2 with
        | nil => exfalso; have := HA.out; rw [h1] at this; simp at this; omega
        | cons x A2 =>
          cases B2 with
          | nil => exfalso; have := HB.out; rw [h2] at this; simp at this; omega
          | cons y B2 => exact ⟨A1, x, A2, B1, y, B2, h1, h2, h3, h4, by simpa using h5⟩
      obtain ⟨ia, hia⟩ : ∃ ia, ia = a + k := ⟨_, rfl⟩
      obtain ⟨ib, hib⟩ : ∃ ib, ib = e + k := ⟨_, rfl⟩
      have l1 := hid (show (P ++ B1).length = ia by rw [List.length_append, HP.out, HX.out.2.2.2.1, hia])
      have l2 := hid (show ((P ++ B1) ++ x :: (A2 ++ M ++ A1)).length = ib by
        have h1 := HE.out
        have h2 := HX.out.1
        rw [h2] at h1
        simp only [List.length_append, List.length_cons] at h1 ⊢
        rw [HX.out.2.2.2.1]
        omega)
      have c0 : wr.cell? ⟨b, ia, none⟩ = some (.int .i64 (x : Int)) := Nums.at_ (by have := HX.out.2.2.2.2; rw [List.append_assoc, List.cons_append] at this; exact this) l1.out
      have c1 : wr.cell? ⟨b, ib, none⟩ = some (.int .i64 (y : Int)) := HX.out.2.2.2.2.at_ l2.out
      have f0 := HX.out.2.2.2.2.free ia
      have f1 := HX.out.2.2.2.2.free ib
      obtain ⟨u, c2⟩ := HX.out.2.2.2.2.second ia y (j := ib) (by rw [List.length_append, l2.out]; simp)
      have w1 : IntKind.i64.wrap ((a : Int) + (k : Int)) = (ia : Int) := by rw [IntKind.wrap_i64]; omega
      have w2 : IntKind.i64.wrap ((e : Int) + (k : Int)) = (ib : Int) := by rw [IntKind.wrap_i64]; omega
      have i0 : (0 : Int) ≤ (ia : Int) := by omega
      have i1 : (ia : Int) < (n : Int) := by omega
      have j0 : (0 : Int) ≤ (ib : Int) := by omega
      have j1 : (ib : Int) < (n : Int) := by omega
      have hkI : (k : Int) < (m : Int) := by omega
      clear hia hib
      have HN3 := hid (show Below b w ((wr.setCell ⟨b, ia, none⟩ (.int .i64 (y : Int))).setCell ⟨b, ib, none⟩ (.int .i64 (x : Int))).drew ∧ ∃ A3 A4 B3 B4, A = A3 ++ A4 ∧ B = B3 ++ B4 ∧ A3.length = k + 1 ∧ B3.length = k + 1 ∧ Nums ((wr.setCell ⟨b, ia, none⟩ (.int .i64 (y : Int))).setCell ⟨b, ib, none⟩ (.int .i64 (x : Int))).drew b (P ++ B3 ++ A4 ++ M ++ A3 ++ B4 ++ S) from by
        obtain ⟨h1, h2, h3, h4, h5⟩ := HX.out
        refine ⟨((HR.out.1.setCell (Nat.le_refl _) _).setCell (Nat.le_refl _) _).drew, A1 ++ [x], A2, B1 ++ [y], B2, by rw [h1]; simp, by rw [h2]; simp, by simp [h3], by simp [h4], ?_⟩
        have := ((h5.set ia y).set ib x).drew
        rw [St.swap_far l1.out l2.out] at this
        simpa using this)
      go_wp2_with fail
      go_big_region_o
      generalize ((wr.setCell ⟨b, ia, none⟩ (.int .i64 (y : Int))).setCell ⟨b, ib, none⟩ (.int .i64 (x : Int))).drew = w3 at HN3 ⊢
      clear c0 c1 c2 f0 f1
      go_wp2
      go_roundw
      case rel => exact ⟨k + 1, by omega, by go_num, HN3⟩
      case measure => simp [intOf]; omega
    · have hkI : ¬ ((k : Int) < (m : Int)) := by omega
      have HF := hid (show Below b w wr ∧ Nums wr b T from by
        obtain ⟨h0, A1, A2, B1, B2, h1, h2, h3, h4, h5⟩ := HR.out
        have hA2 : A2 = [] := List.length_eq_zero_iff.1 (by have := HA.out; rw [h1, List.length_append] at this; omega)
        have hB2 : B2 = [] := List.length_eq_zero_iff.1 (by have := HB.out; rw [h2, List.length_append] at this; omega)
        subst hA2 hB2
        refine ⟨h0, ?_⟩
        rw [← HT.out, h1, h2]
        simpa using h5)
      go_wp2
      exact bodyPost_end (v := .tuple #[]) (by simp [results, Tryz.results173, go_sem]) rfl ⟨rfl, HF.out⟩

structure RotAt (w : World) (b m : Nat) (T : List Nat) (i j : Nat) (w' : World) (L U V R : List Nat) : Prop where
  iU : U.length = i
  jV : V.length = j
  pos : 1 ≤ i ∧ 1 ≤ j
  mid : (L ++ U).length = m
  nums : Nums w' b (L ++ U ++ V ++ R)
  goal : L ++ V ++ U ++ R = T
  low : Below b w w'
theorem split_len {U : List Nat} {i j : Nat} (h : U.length = i) (hj : j ≤ i) : ∃ U1 U2 : List Nat, U = U1 ++ U2 ∧ U1.length = j ∧ U2.length = i - j := ⟨U.take j, U.drop j, (List.take_append_drop j U).symm, by simp; omega, by simp; omega⟩

set_option maxRecDepth 20000 in
set_option maxHeartbeats 2000000 in
theorem rotate_any {w : World} {b n cap cb a m e : Nat} {P X Y S T : List Nat} (hT : P ++ Y ++ X ++ S = T) (hN : Nums w b (P ++ X ++ Y ++ S)) (hn : (P ++ X ++ Y ++ S).length = n) (h62 : n < 4611686018427387904) (ha : P.length = a) (hm : (P ++ X).length = m) (he : (P ++ X ++ Y).length = e) (hX : X ≠ []) (hY : Y ≠ []) :
    Calls Tryz.prog 146 #[.slice (some ⟨b, 0, none⟩) n cap, .int .i64 a, .int .i64 m, .int .i64 e, clo cb] w fun en w' => en = .returned (.tuple #[]) ∧ Below b w w' ∧ Nums w' b T := by
  have x1 : 1 ≤ X.length := List.length_pos_iff.2 hX
  have y1 : 1 ≤ Y.length := List.length_pos_iff.2 hY
  have HI := hid (show RotAt w b m T (m - a) (e - m) w P X Y S from ⟨by rw [← hm, ← ha]; simp, by rw [← he, ← hm]; simp; omega, by rw [← he, ← hm, ← ha]; simp; omega, hm, hN, hT, Below.refl _ _⟩)
  have h1 : a < m := by rw [← hm, ← ha]; simp; omega
  have h2 : m < e := by rw [← he, ← hm]; simp; omega
  have h3 : e ≤ n := by rw [← he, ← hn]; simp
  obtain ⟨i0, hi0⟩ : ∃ i0, i0 = m - a := ⟨_, rfl⟩
  obtain ⟨j0, hj0⟩ : ∃ j0, j0 = e - m := ⟨_, rfl⟩
  have w1 : IntKind.i64.wrap ((m : Int) - (a : Int)) = (i0 : Int) := by rw [IntKind.wrap_i64]; omega
  have w2 : IntKind.i64.wrap ((e : Int) - (m : Int)) = (j0 : Int) := by rw [IntKind.wrap_i64]; omega
  have HL := hid (show ∀ (w' : World) (i j : Nat) (L U V R : List Nat), RotAt w b m T i j w' L U V R → (L ++ U ++ V ++ R).length = n from fun _ _ _ _ _ _ _ h => by
    have q := congrArg List.length (h.goal.trans hT.symm)
    rw [← hn]
    simp only [List.length_append] at q ⊢
    omega)
  rw [← hi0, ← hj0] at HI
  clear hT hN hn ha hm he hX hY x1 y1 hi0 hj0
  go_enter Tryz.func146, Tryz.ntmps146
  go_wp2_with fail
  go_loopw [10, 11] (fun i j wr => ∃ (p q : Nat) (L U V R : List Nat), p ≤ m ∧ m + q ≤ n ∧ i = .int .i64 p ∧ j = .int .i64 q ∧ Hid (RotAt w b m T p q wr L U V R)) (fun i j _ => (intOf i).toNat + (intOf j).toNat)
  case atStart =>
    have h := HI.out
    have hl := HL.out _ _ _ _ _ _ _ h
    have hm := h.mid
    have hu := h.iU
    have hv := h.jV
    simp only [List.length_append] at hl hm
    exact ⟨i0, j0, P, X, Y, S, by omega, by omega, rfl, rfl, HI⟩
  case round =>
    obtain ⟨p, q, L, U, V, R, hpm, hqn, rfl, rfl, HR⟩ := hrel
    have hln := HL.out _ _ _ _ _ _ _ HR.out
    have HLN := hid hln
    have hpos := HR.out.pos
    have hlm := HR.out.mid
    have hLU := hid hlm
    have hLl : L.length = m - p := by have := HR.out.iU; rw [List.length_append] at hlm; omega
    have HLl := hid hLl
    clear hln hlm hLl
    obtain ⟨la, hla⟩ : ∃ la, la = m - p := ⟨_, rfl⟩
    have w3 : IntKind.i64.wrap ((m : Int) - (p : Int)) = (la : Int) := by rw [IntKind.wrap_i64]; omega
    rcases Nat.lt_trichotomy p q with hpq | hpq | hpq
    · have hne : ((p : Int) != (q : Int)) = true := by rw [bne_iff_ne]; omega
      have hgt : ¬ (q : Int) < (p : Int) := by omega
      obtain ⟨le, hle⟩ : ∃ le, le = m + q - p := ⟨_, rfl⟩
      have w4 : IntKind.i64.wrap ((m : Int) + (q : Int)) = (m : Int) + (q : Int) := by rw [IntKind.wrap_i64]; omega
      have w4' : IntKind.i64.wrap ((m : Int) + (q : Int) - (p : Int)) = (le : Int) := by rw [IntKind.wrap_i64]; omega
      obtain ⟨q', hq'⟩ : ∃ q', q' = q - p := ⟨_, rfl⟩
      have w5 : IntKind.i64.wrap ((q : Int) - (p : Int)) = (q' : Int) := by rw [IntKind.wrap_i64]; omega
      obtain ⟨V1, V2, hV, hV1, hV2⟩ := split_len HR.out.jV (Nat.sub_le q p)
      have hV2' : V2.length = p := by omega
      have HC := hid (swapRange_any (w := wr) (b := b) (n := n) (cap := cap) (cb := cb) (a := la) (e := le) (m := p) (P := L) (A := U) (M := V1) (B := V2) (S := R) (T := L ++ V2 ++ V1 ++ U ++ R) rfl (by have := HR.out.nums; rw [hV] at this; simpa using this) (by have := HLN.out; rw [hV] at this; simpa using this) h62 (by rw [HLl.out, hla]) HR.out.iU hV2' (by rw [List.length_append, hLU.out, hV1]; omega))
      have HV := hid (And.intro hV (And.intro hV1 hV2'))
      have HQ := hid hq'
      obtain ⟨T1, hT1⟩ : ∃ T1, T1 = L ++ V2 ++ V1 ++ U ++ R := ⟨_, rfl⟩
      rw [← hT1] at HC
      have HT1 := hid hT1
      clear hV hV1 hV2 hV2' hla hle hT1 hq'
      go_wp2_with fail
      refine HC.out.mono ?_
      rintro en w6 ⟨rfl, hb6, hn6⟩
      have HN6 := hid (show RotAt w b m T p q' w6 L V2 V1 (U ++ R) from ⟨HV.out.2.2, by rw [HV.out.2.1, HQ.out], by have := HQ.out; omega, by rw [List.length_append, HLl.out, HV.out.2.2]; omega, by rw [HT1.out] at hn6; simpa using hn6, by have := HR.out.goal; rw [HV.out.1] at this; simpa using this, HR.out.low.trans hb6⟩)
      clear hb6 hn6
      go_wp2
      go_roundw
      case rel => exact ⟨p, q', L, V2, V1, U ++ R, hpm, by have := HQ.out; omega, rfl, rfl, HN6⟩
      case measure => have := HQ.out; simp [intOf]; omega
    · subst hpq
      have HC := hid (swapRange_any (w := wr) (b := b) (n := n) (cap := cap) (cb := cb) (a := la) (e := m) (m := p) (P := L) (A := U) (M := []) (B := V) (S := R) (T := T) (by have := HR.out.goal; simpa using this) (by have := HR.out.nums; simpa using this) (by have := HLN.out; simpa using this) h62 (by rw [HLl.out, hla]) HR.out.iU HR.out.jV (by rw [List.append_nil]; exact hLU.out))
      have hne : ((p : Int) != (p : Int)) = false := by simp
      clear hla
      go_wp2_with fail
      refine HC.out.mono ?_
      rintro en w6 ⟨rfl, hb6, hn6⟩
      have HB6 := hid (HR.out.low.trans hb6)
      have HN6 := hid hn6
      clear hb6 hn6
      go_wp2
      exact bodyPost_end (v := .tuple #[]) (by simp [results, Tryz.results146, go_sem]) rfl ⟨rfl, HB6.out, HN6.out⟩
    · have hne : ((p : Int) != (q : Int)) = true := by rw [bne_iff_ne]; omega
      have hgt : (q : Int) < (p : Int) := by omega
      obtain ⟨p', hp'⟩ : ∃ p', p' = p - q := ⟨_, rfl⟩
      have w5 : IntKind.i64.wrap ((p : Int) - (q : Int)) = (p' : Int) := by rw [IntKind.wrap_i64]; omega
      obtain ⟨U1, U2, hU, hU1, hU2⟩ := split_len HR.out.iU (Nat.le_of_lt hpq)
      have HC := hid (swapRange_any (w := wr) (b := b) (n := n) (cap := cap) (cb := cb) (a := la) (e := m) (m := q) (P := L) (A := U1) (M := U2) (B := V) (S := R) (T := L ++ V ++ U2 ++ U1 ++ R) rfl (by have := HR.out.nums; rw [hU] at this; simpa using this) (by have := HLN.out; rw [hU] at this; simpa using this) h62 (by rw [HLl.out, hla]) hU1 HR.out.jV (by have := hLU.out; rw [hU] at this; simpa using this))
      have HV := hid (And.intro hU (And.intro hU1 hU2))
      have HQ := hid hp'
      obtain ⟨T1, hT1⟩ : ∃ T1, T1 = L ++ V ++ U2 ++ U1 ++ R := ⟨_, rfl⟩
      rw [← hT1] at HC
      have HT1 := hid hT1
      clear hU hU1 hU2 hla hT1 hp'
      go_wp2_with fail
      refine HC.out.mono ?_
      rintro en w6 ⟨rfl, hb6, hn6⟩
      have HN6 := hid (show RotAt w b m T p' q w6 (L ++ V) U2 U1 R from ⟨by rw [HV.out.2.2, HQ.out], HV.out.2.1, by have := HQ.out; omega, by have h1 := HR.out.jV; have h2 := HV.out.2.2; have h3 := HLl.out; simp only [List.length_append]; omega, by rw [HT1.out] at hn6; simpa using hn6, by have := HR.out.goal; rw [HV.out.1] at this; simpa using this, HR.out.low.trans hb6⟩)
      clear hb6 hn6
      go_wp2
      go_roundw
      case rel => exact ⟨p', q, L ++ V, U2, U1, R, by have := HQ.out; omega, hqn, rfl, rfl, HN6⟩
      case measure => have := HQ.out; simp [intOf]; omega
end Go.Proofs.YtemmhingmeinjaaGreatDoor
