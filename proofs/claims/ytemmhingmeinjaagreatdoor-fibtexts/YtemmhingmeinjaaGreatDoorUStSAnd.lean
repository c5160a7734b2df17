/-
  The stable sort's merge of any two pieces.
-/
import Derived.Test.YtemmhingmeinjaaGreatDoorUOrdAAnd
namespace Go.Proofs.YtemmhingmeinjaaGreatDoor
open Go.RowKit

namespace St
theorem at_left {U V : List Nat} {k : Nat} (h : k < U.length) : at_ (U ++ V) k = at_ U k := by
  unfold at_
  rw [List.getD_eq_getElem?_getD, List.getD_eq_getElem?_getD, List.getElem?_append_left h]
theorem at_right {U V : List Nat} {k : Nat} (h : U.length ≤ k) : at_ (U ++ V) k = at_ V (k - U.length) := by
  unfold at_
  rw [List.getD_eq_getElem?_getD, List.getD_eq_getElem?_getD, List.getElem?_append_right h]
theorem at_last {U : List Nat} {x : Nat} (h : U.getLast? = some x) : at_ U (U.length - 1) = x := by
  rw [List.getLast?_eq_getElem?] at h
  unfold at_
  rw [List.getD_eq_getElem?_getD, h]; rfl
theorem at_head {U : List Nat} {x : Nat} (h : U.head? = some x) : at_ U 0 = x := by
  rw [List.head?_eq_getElem?] at h
  unfold at_
  rw [List.getD_eq_getElem?_getD, h]; rfl
theorem at_mem {U : List Nat} {k : Nat} (h : k < U.length) : at_ U k ∈ U := by
  unfold at_
  rw [List.getD_eq_getElem?_getD, List.getElem?_eq_getElem h]
  exact List.getElem_mem h

theorem Ord.cut {c : Nat → Nat → Int} {N : Nat} (h : Ord c N) {P X Y S D : List Nat} {a m e s f : Nat} (hD : P ++ X ++ Y ++ S = D) (ha : P.length = a) (hm : a + X.length = m) (he : m + Y.length = e) (hs : a ≤ s ∧ s ≤ m) (hf : m ≤ f ∧ f ≤ e) (hX : Up c X) (hY : Up c Y) (hlt : ∀ x ∈ X, ∀ y ∈ Y, x < y) (hN : ∀ z ∈ X ++ Y, z < N)
    (hlo : s = a ∨ f = e ∨ ¬ c (at_ D f) (at_ D (s - 1)) < 0) (hhi : s = m ∨ f = m ∨ c (at_ D (f - 1)) (at_ D s) < 0) :
    ∃ X1 X2 Y1 Y2, X = X1 ++ X2 ∧ Y = Y1 ++ Y2 ∧ X1.length = s - a ∧ Y1.length = f - m ∧ ∀ u ∈ X1 ++ Y1, ∀ v ∈ X2 ++ Y2, lt c u v := by
  obtain ⟨X1, X2, eX, lX1, lX2⟩ := split_len (U := X) (i := m - a) (j := s - a) (by omega) (by omega)
  obtain ⟨Y1, Y2, eY, lY1, lY2⟩ := split_len (U := Y) (i := e - m) (j := f - m) (by omega) (by omega)
  refine ⟨X1, X2, Y1, Y2, eX, eY, lX1, lY1, ?_⟩
  subst eX eY
  have dX : ∀ k, k < X1.length + X2.length → at_ D (a + k) = at_ (X1 ++ X2) k := fun k hk => by
    rw [← hD, List.append_assoc, List.append_assoc, at_right (by omega), at_left (by rw [List.length_append]; omega), ha, Nat.add_sub_cancel_left]
  have dY : ∀ k, k < Y1.length + Y2.length → at_ D (m + k) = at_ (Y1 ++ Y2) k := fun k hk => by
    have e1 : (P ++ (X1 ++ X2)).length = m := by rw [List.length_append, ha]; exact hm
    rw [← hD, List.append_assoc, at_right (by omega), at_left (by rw [List.length_append]; omega), e1, Nat.add_sub_cancel_left]
  refine h.halves (by simpa using hN) hX hY hlt ?_ ?_
  · intro x hx y hy
    have p1 : 0 < X1.length := by cases X1 with | nil => cases hx | cons _ _ => simp
    have p2 : 0 < Y2.length := by cases Y2 with | nil => cases hy | cons _ _ => simp
    rcases hlo with q | q | q
    · omega
    · omega
    · have e1 : at_ D (s - 1) = x := by
        have := dX (X1.length - 1) (by omega)
        rw [show a + (X1.length - 1) = s - 1 by omega, at_left (by omega), at_last hx] at this
        exact this
      have e2 : at_ D f = y := by
        have := dY Y1.length (by omega)
        rw [show m + Y1.length = f by omega, at_right (Nat.le_refl _), Nat.sub_self, at_head hy] at this
        exact this
      rw [e1, e2] at q
      exact q
  · intro y hy x hx
    have p1 : 0 < Y1.length := by cases Y1 with | nil => cases hy | cons _ _ => simp
    have p2 : 0 < X2.length := by cases X2 with | nil => cases hx | cons _ _ => simp
    rcases hhi with q | q | q
    · omega
    · omega
    · have e1 : at_ D (f - 1) = y := by
        have := dY (Y1.length - 1) (by omega)
        rw [show m + (Y1.length - 1) = f - 1 by omega, at_left (by omega), at_last hy] at this
        exact this
      have e2 : at_ D s = x := by
        have := dX X1.length (by omega)
        rw [show a + X1.length = s by omega, at_right (Nat.le_refl _), Nat.sub_self, at_head hx] at this
        exact this
      rw [e1, e2] at q
      exact q
end St

structure SymIn (c : Nat → Nat → Int) (N : Nat) (w : World) (b n a m e : Nat) (P X Y S D : List Nat) : Prop where
  ord : St.Ord c N
  d : P ++ X ++ Y ++ S = D
  len : D.length = n
  big : n < 4611686018427387904
  a_ : P.length = a
  m_ : a + X.length = m
  e_ : m + Y.length = e
  upX : St.Up c X
  upY : St.Up c Y
  lt : ∀ x ∈ X, ∀ y ∈ Y, x < y
  bound : ∀ z ∈ X ++ Y, z < N
  nums : Nums w b D
theorem SymIn.leX {c : Nat → Nat → Int} {N : Nat} {w : World} {b n a m e : Nat} {P X Y S D : List Nat} (h : SymIn c N w b n a m e P X Y S D) : a ≤ m ∧ m ≤ e ∧ e ≤ n := by
  have h1 := h.a_; have h2 := h.m_; have h3 := h.e_
  refine ⟨by omega, by omega, ?_⟩
  rw [← h.len, ← h.d]
  simp only [List.length_append]
  omega
theorem SymIn.atN {c : Nat → Nat → Int} {N : Nat} {w : World} {b n a m e : Nat} {P X Y S D : List Nat} (h : SymIn c N w b n a m e P X Y S D) {k : Nat} (h1 : a ≤ k) (h2 : k < e) : St.at_ D k < N := by
  have q1 := h.a_; have q2 := h.m_; have q3 := h.e_
  refine h.bound _ ?_
  have e1 : St.at_ D k = St.at_ (X ++ Y) (k - a) := by
    rw [← h.d, List.append_assoc P X Y, List.append_assoc P, St.at_right (by omega), St.at_left (by rw [List.length_append]; omega), q1]
  rw [e1]
  exact St.at_mem (by rw [List.length_append]; omega)

theorem sym_one_up {c : Nat → Nat → Int} {w : World} {b n N a m e : Nat} {P Y S D A B : List Nat} {x i : Nat} (h : SymIn c N w b n a m e P [x] Y S D) (h1 : m ≤ i) (h2 : i ≤ e) (lo : i = m ∨ c (St.at_ D (i - 1)) (St.at_ D a) < 0) (hi : i = e ∨ ¬ c (St.at_ D i) (St.at_ D a) < 0) (hY : Y = A ++ B) (hA : A.length = i - m) : St.Up c (A ++ x :: B) := by
  have hma : m = a + 1 := h.m_.symm
  obtain ⟨X1, X2, Y1, Y2, e1, e2, e3, e4, e5⟩ := h.ord.cut (s := a) (f := i) h.d h.a_ h.m_ h.e_ ⟨Nat.le_refl _, by omega⟩ ⟨h1, h2⟩ h.upX h.upY h.lt h.bound (Or.inl rfl) (Or.inr lo)
  obtain ⟨X3, X4, Y3, Y4, f1, f2, f3, f4, f5⟩ := h.ord.cut (s := m) (f := i) h.d h.a_ h.m_ h.e_ ⟨by omega, Nat.le_refl _⟩ ⟨h1, h2⟩ h.upX h.upY h.lt h.bound (Or.inr (by rw [show m - 1 = a by omega]; exact hi)) (Or.inl rfl)
  obtain ⟨rfl, rfl⟩ := List.append_inj (e2.symm.trans hY) (by omega)
  obtain ⟨rfl, rfl⟩ := List.append_inj (f2.symm.trans hY) (by omega)
  have x1 : X1 = [] := List.length_eq_zero_iff.1 (by omega)
  subst x1
  rw [List.nil_append] at e1
  subst e1
  have x4 : X4 = [] := by
    have q := congrArg List.length f1
    simp only [List.length_append, List.length_cons, List.length_nil] at q
    exact List.length_eq_zero_iff.1 (by omega)
  subst x4
  rw [List.append_nil] at f1
  subst f1
  have up := h.upY
  rw [hY] at up
  obtain ⟨u1, u2, u3⟩ := List.pairwise_append.1 up
  exact List.pairwise_append.2 ⟨u1, List.pairwise_cons.2 ⟨fun v hv => f5 x (by simp) v (by simpa using hv), u2⟩, fun u hu v hv => e5 u (by simpa using hu) v (by simpa using hv)⟩
theorem sym_last_up {c : Nat → Nat → Int} {w : World} {b n N a m e : Nat} {P X S D A B : List Nat} {y i : Nat} (h : SymIn c N w b n a m e P X [y] S D) (h1 : a ≤ i) (h2 : i ≤ m) (lo : i = a ∨ ¬ c (St.at_ D m) (St.at_ D (i - 1)) < 0) (hi : i = m ∨ c (St.at_ D m) (St.at_ D i) < 0) (hX : X = A ++ B) (hA : A.length = i - a) : St.Up c (A ++ y :: B) := by
  have hma : e = m + 1 := h.e_.symm
  obtain ⟨X1, X2, Y1, Y2, e1, e2, e3, e4, e5⟩ := h.ord.cut (s := i) (f := e) h.d h.a_ h.m_ h.e_ ⟨h1, h2⟩ ⟨by omega, Nat.le_refl _⟩ h.upX h.upY h.lt h.bound (Or.inr (Or.inl rfl)) (by rw [show e - 1 = m by omega]; rcases hi with q | q; exact Or.inl q; exact Or.inr (Or.inr q))
  obtain ⟨X3, X4, Y3, Y4, f1, f2, f3, f4, f5⟩ := h.ord.cut (s := i) (f := m) h.d h.a_ h.m_ h.e_ ⟨h1, h2⟩ ⟨Nat.le_refl _, by omega⟩ h.upX h.upY h.lt h.bound (by rcases lo with q | q; exact Or.inl q; exact Or.inr (Or.inr q)) (Or.inr (Or.inl rfl))
  obtain ⟨rfl, rfl⟩ := List.append_inj (e1.symm.trans hX) (by omega)
  obtain ⟨rfl, rfl⟩ := List.append_inj (f1.symm.trans hX) (by omega)
  have y3 : Y3 = [] := List.length_eq_zero_iff.1 (by omega)
  subst y3
  rw [List.nil_append] at f2
  subst f2
  have y2 : Y2 = [] := by
    have q := congrArg List.length e2
    simp only [List.length_append, List.length_cons, List.length_nil] at q
    exact List.length_eq_zero_iff.1 (by omega)
  subst y2
  rw [List.append_nil] at e2
  subst e2
  have up := h.upX
  rw [hX] at up
  obtain ⟨u1, u2, u3⟩ := List.pairwise_append.1 up
  refine List.pairwise_append.2 ⟨u1, List.pairwise_cons.2 ⟨fun v hv => e5 y (by simp) v (by simpa using hv), u2⟩, fun u hu v hv => ?_⟩
  rcases List.mem_cons.1 hv with rfl | hv
  · exact f5 u (by simpa using hu) v (by simp)
  · exact f5 u (by simpa using hu) v (by simp [hv])

structure OneAt (c : Nat → Nat → Int) (w : World) (b : Nat) (D : List Nat) (a m e i j : Nat) (w' : World) : Prop where
  low : Below b w w'
  nums : Nums w' b D
  lo : i = m ∨ c (St.at_ D (i - 1)) (St.at_ D a) < 0
  hi : j = e ∨ ¬ c (St.at_ D j) (St.at_ D a) < 0
structure LastAt (c : Nat → Nat → Int) (w : World) (b : Nat) (D : List Nat) (a m i j : Nat) (w' : World) : Prop where
  low : Below b w w'
  nums : Nums w' b D
  lo : i = a ∨ ¬ c (St.at_ D m) (St.at_ D (i - 1)) < 0
  hi : j = m ∨ c (St.at_ D m) (St.at_ D j) < 0

set_option maxRecDepth 20000 in
set_option maxHeartbeats 4000000 in
theorem sym_one {c : Nat → Nat → Int} {w : World} {b n N cap cb a m e : Nat} {P Y S D : List Nat} {x : Nat} (h : SymIn c N w b n a m e P [x] Y S D) (hC : Cmps w b N c cb) :
    Calls Tryz.prog 112 #[.slice (some ⟨b, 0, none⟩) n cap, .int .i64 a, .int .i64 m, .int .i64 e, clo cb] w fun en w' => en = .returned (.tuple #[]) ∧ Sorts c w b P (x :: Y) S w' := by
  have H := hid h
  have HC := hid hC
  have hent := Tryz.entOrd
  have mixed := Tryz.mixed
  obtain ⟨l1, l2, l3⟩ := h.leX
  have h62 := h.big
  have hma : m = a + 1 := h.m_.symm
  have HMA := hid hma
  have w1 : IntKind.i64.wrap ((m : Int) - (a : Int)) = 1 := by rw [IntKind.wrap_i64]; omega
  have hlb := hid h.nums.lt
  clear h hC hma
  go_enter Tryz.func112, Tryz.ntmps112
  go_wp2_with fail
  go_loopw [10, 11, 12] (fun vi vj _ wr => ∃ (i j : Nat), m ≤ i ∧ i ≤ j ∧ j ≤ e ∧ vi = .int .i64 i ∧ vj = .int .i64 j ∧ Hid (OneAt c w b D a m e i j wr)) (fun vi vj _ _ => (intOf vj).toNat - (intOf vi).toNat)
  case atStart => exact ⟨m, e, Nat.le_refl _, l2, Nat.le_refl _, rfl, rfl, ⟨Below.refl _ _, H.out.nums, Or.inl rfl, Or.inl rfl⟩⟩
  case round =>
    obtain ⟨i, j, hmi, hij, hje, rfl, rfl, HR⟩ := hrel
    by_cases hlt : i < j
    · obtain ⟨hh, hhe⟩ : ∃ hh, hh = (i + j) / 2 := ⟨_, rfl⟩
      have HHE := hid hhe
      have q1 : ((i : Int) + (j : Int)) / 2 = (hh : Int) := by omega
      have hltI : (i : Int) < (j : Int) := by omega
      have b0 : (0 : Int) ≤ (hh : Int) := by omega
      have b1 : (hh : Int) < (n : Int) := by omega
      have b2 : (0 : Int) ≤ (a : Int) := by omega
      have b3 : (a : Int) < (n : Int) := by have := HMA.out; omega
      have d0 := HR.out.nums.cell (k := hh) (by rw [H.out.len]; omega)
      have d1 := HR.out.nums.cell (k := a) (by have := HMA.out; rw [H.out.len]; omega)
      have n0 := hid (H.out.atN (k := hh) (by have := HMA.out; omega) (by omega))
      have n1 := hid (H.out.atN (k := a) (Nat.le_refl _) (by have := HMA.out; omega))
      obtain ⟨y, hy⟩ : ∃ y, y = St.at_ D hh := ⟨_, rfl⟩
      obtain ⟨z, hz⟩ : ∃ z, z = St.at_ D a := ⟨_, rfl⟩
      have HYZ := hid (And.intro hy hz)
      rw [← hy] at d0 n0
      rw [← hz] at d1 n1
      have HCC := hid (fun (W : World) (h : Below wr.heap.size wr W) => HC.out W (HR.out.low.trans (h.mono (Nat.le_of_lt HR.out.nums.lt))) y z n0.out n1.out)
      clear hhe hy hz
      go_wp2_with fail
      go_region_held2 (fun W => W.cell? ⟨b, hh, none⟩ = some (.int .i64 (y : Int)) ∧ W.cell? ⟨b, a, none⟩ = some (.int .i64 (z : Int))) (first | exact ⟨d0, d1⟩ | exact hS2) (first | (go_at_call 41; refine (HCC.out _ (by first | exact Below.refl _ _ | exact (Below.refl _ _).drew)).mono ?_; rintro en w2 ⟨rfl, hb2⟩; have B2 := hid (show Below wr.heap.size wr w2 by (first | exact hb2 | exact undrew hb2)); have hS2 := And.intro ((B2.out.cell (by exact HR.out.nums.lt)).trans d0) ((B2.out.cell (by exact HR.out.nums.lt)).trans d1)))
      have N2 := hid (HR.out.nums.on B2.out)
      have L2 := hid (HR.out.low.trans (B2.out.mono (Nat.le_of_lt HR.out.nums.lt)))
      clear d0 d1
      by_cases hc : c y z < 0
      · have HN := hid (show OneAt c w b D a m e (hh + 1) j w2 from ⟨L2.out, N2.out, Or.inr (by rw [Nat.add_sub_cancel, ← HYZ.out.1, ← HYZ.out.2]; exact hc), HR.out.hi⟩)
        go_wp2
        go_roundw
        case rel => exact ⟨hh + 1, j, by have := HHE.out; omega, by have := HHE.out; omega, hje, by go_num, rfl, HN⟩
        case measure => have := HHE.out; simp [intOf]; omega
      · have HN := hid (show OneAt c w b D a m e i hh w2 from ⟨L2.out, N2.out, HR.out.lo, Or.inr (by rw [← HYZ.out.1, ← HYZ.out.2]; exact hc)⟩)
        go_wp2
        go_roundw
        case rel => exact ⟨i, hh, hmi, by have := HHE.out; omega, by have := HHE.out; omega, rfl, rfl, HN⟩
        case measure => have := HHE.out; simp [intOf]; omega
    · have hltI : ¬ ((i : Int) < (j : Int)) := by omega
      have hij2 : j = i := by omega
      subst hij2
      obtain ⟨i1, hi1⟩ : ∃ i1, i1 = j - 1 := ⟨_, rfl⟩
      have w2 : IntKind.i64.wrap ((j : Int) - 1) = (i1 : Int) := by rw [IntKind.wrap_i64]; have := HMA.out; omega
      have hi2 : a ≤ i1 := by have := HMA.out; omega
      have hi3 : i1 < n := by have := HMA.out; omega
      have HI1 := hid (show i1 = j - 1 ∧ 1 ≤ j ∧ j ≤ e from ⟨hi1, by have := HMA.out; omega, hje⟩)
      rename World => wo
      clear hi1
      go_wp2_with fail
      go_loopw [13] (fun vk wr => ∃ k : Nat, a ≤ k ∧ k ≤ i1 ∧ vk = .int .i64 k ∧ Hid (Below b w wr ∧ ∃ A B, Y = A ++ B ∧ A.length = k - a ∧ Nums wr b ((P ++ A) ++ x :: (B ++ S)))) (fun vk _ => i1 - (intOf vk).toNat)
      case atStart => exact ⟨a, Nat.le_refl _, hi2, rfl, HR.out.low, [], Y, rfl, by simp, by have := HR.out.nums; rw [← H.out.d] at this; simpa using this⟩
      case round =>
        obtain ⟨k, hak, hki, rfl, HK⟩ := hrel
        by_cases hlt2 : k < i1
        · have hkI : (k : Int) < (i1 : Int) := by omega
          obtain ⟨A, y, B, HA⟩ : ∃ (A : List Nat) (y : Nat) (B : List Nat), Hid (Y = A ++ y :: B ∧ (P ++ A).length = k ∧ Nums wr b ((P ++ A) ++ x :: y :: (B ++ S))) := by
            obtain ⟨_, A, B, h1, h2, h3⟩ := HK.out
            have hY := H.out.e_
            have hP := H.out.a_
            cases B with
            | nil => exfalso; rw [h1] at hY; simp at hY; have := HI1.out; have := HMA.out; omega
            | cons y B => exact ⟨A, y, B, h1, by rw [List.length_append, hP, h2]; omega, by simpa using h3⟩
          obtain ⟨k1, hk1⟩ : ∃ k1, k1 = k + 1 := ⟨_, rfl⟩
          have HK1 := hid hk1
          have w3 : IntKind.i64.wrap ((k : Int) + 1) = (k1 : Int) := by rw [IntKind.wrap_i64]; omega
          have c0 : wr.cell? ⟨b, k, none⟩ = some (.int .i64 (x : Int)) := HA.out.2.2.at_ HA.out.2.1
          have c1 : wr.cell? ⟨b, k1, none⟩ = some (.int .i64 (y : Int)) := Nums.at_ (U := (P ++ A) ++ [x]) (W := B ++ S) (by have := HA.out.2.2; simpa using this) (by rw [List.length_append, HA.out.2.1, hk1]; rfl)
          have f0 := HA.out.2.2.free k
          have f1 := HA.out.2.2.free k1
          obtain ⟨u, c2⟩ := HA.out.2.2.second k y (j := k1) (by rw [List.length_append, HA.out.2.1, hk1]; simp)
          have b0 : (0 : Int) ≤ (k : Int) := by omega
          have b1 : (k : Int) < (n : Int) := by omega
          have b2 : (0 : Int) ≤ (k1 : Int) := by omega
          have b3 : (k1 : Int) < (n : Int) := by omega
          have HN3 := hid (show Below b w ((wr.setCell ⟨b, k, none⟩ (.int .i64 (y : Int))).setCell ⟨b, k1, none⟩ (.int .i64 (x : Int))).drew ∧ ∃ A B, Y = A ++ B ∧ A.length = k1 - a ∧ Nums ((wr.setCell ⟨b, k, none⟩ (.int .i64 (y : Int))).setCell ⟨b, k1, none⟩ (.int .i64 (x : Int))).drew b ((P ++ A) ++ x :: (B ++ S)) from by
            have hP := H.out.a_
            have hl := HA.out.2.1
            rw [List.length_append] at hl
            refine ⟨((HK.out.1.setCell (Nat.le_refl _) _).setCell (Nat.le_refl _) _).drew, A ++ [y], B, by rw [HA.out.1]; simp, by rw [List.length_append, HK1.out]; simp only [List.length_cons, List.length_nil]; omega, ?_⟩
            have := ((HA.out.2.2.set k y).set k1 x).drew
            rw [HK1.out, St.swap_two HA.out.2.1] at this
            rw [HK1.out]
            simpa using this)
          clear hk1
          go_wp2_with fail
          go_big_region_o
          generalize ((wr.setCell ⟨b, k, none⟩ (.int .i64 (y : Int))).setCell ⟨b, k1, none⟩ (.int .i64 (x : Int))).drew = w3 at HN3 ⊢
          clear c0 c1 c2 f0 f1
          go_wp2
          go_roundw
          case rel => exact ⟨k1, by have := HK1.out; omega, by have := HK1.out; omega, by first | rfl | go_num, HN3⟩
          case measure => have := HK1.out; simp [intOf]; omega
        · have hkI : ¬ ((k : Int) < (i1 : Int)) := by omega
          have HF := hid (show Sorts c w b P (x :: Y) S wr by
            obtain ⟨h0, A, B, h1, h2, h3⟩ := HK.out
            have q1 := HI1.out
            have q2 := HMA.out
            refine ⟨h0, A ++ x :: B, sym_one_up H.out hmi hje HR.out.lo HR.out.hi h1 (by omega), ?_, by simpa using h3⟩
            rw [h1]
            exact List.perm_middle)
          go_wp2
          exact bodyPost_ret (v := .tuple #[]) (by simp [results, Tryz.results112, go_sem]) rfl ⟨rfl, HF.out⟩
end Go.Proofs.YtemmhingmeinjaaGreatDoor
namespace Go.Proofs.YtemmhingmeinjaaGreatDoor
open Go.RowKit

set_option maxRecDepth 20000 in
set_option maxHeartbeats 4000000 in
theorem sym_last {c : Nat → Nat → Int} {w : World} {b n N cap cb a m e : Nat} {P X S D T : List Nat} {y : Nat} (hT : X ++ [y] = T) (h : SymIn c N w b n a m e P X [y] S D) (hC : Cmps w b N c cb) (hX1 : X.length ≠ 1) :
    Calls Tryz.prog 112 #[.slice (some ⟨b, 0, none⟩) n cap, .int .i64 a, .int .i64 m, .int .i64 e, clo cb] w fun en w' => en = .returned (.tuple #[]) ∧ Sorts c w b P T S w' := by
  have HT0 := hid hT
  have H := hid h
  have HC := hid hC
  have hent := Tryz.entOrd
  have mixed := Tryz.mixed
  obtain ⟨l1, l2, l3⟩ := h.leX
  have h62 := h.big
  have hem : e = m + 1 := h.e_.symm
  have HEM := hid hem
  obtain ⟨xl, hxl⟩ : ∃ xl, xl = m - a := ⟨_, rfl⟩
  have w1 : IntKind.i64.wrap ((m : Int) - (a : Int)) = (xl : Int) := by rw [IntKind.wrap_i64]; omega
  have hx1 : ((xl : Int) == 1) = false := by rw [beq_eq_false_iff_ne]; have := h.m_; omega
  have hx1' : ¬ ((xl : Int) = 1) := by have := h.m_; omega
  have w2 : IntKind.i64.wrap ((e : Int) - (m : Int)) = 1 := by rw [IntKind.wrap_i64]; omega
  clear h hC hem hxl hX1 hT
  go_enter Tryz.func112, Tryz.ntmps112
  go_wp2_with fail
  go_loopw [14, 15, 16] (fun vi vj _ wr => ∃ (i j : Nat), a ≤ i ∧ i ≤ j ∧ j ≤ m ∧ vi = .int .i64 i ∧ vj = .int .i64 j ∧ Hid (LastAt c w b D a m i j wr)) (fun vi vj _ _ => (intOf vj).toNat - (intOf vi).toNat)
  case atStart => exact ⟨a, m, Nat.le_refl _, l1, Nat.le_refl _, rfl, rfl, ⟨Below.refl _ _, H.out.nums, Or.inl rfl, Or.inl rfl⟩⟩
  case round =>
    obtain ⟨i, j, hai, hij, hjm, rfl, rfl, HR⟩ := hrel
    by_cases hlt : i < j
    · obtain ⟨hh, hhe⟩ : ∃ hh, hh = (i + j) / 2 := ⟨_, rfl⟩
      have HHE := hid hhe
      have q1 : ((i : Int) + (j : Int)) / 2 = (hh : Int) := by omega
      have hltI : (i : Int) < (j : Int) := by omega
      have b0 : (0 : Int) ≤ (hh : Int) := by omega
      have b1 : (hh : Int) < (n : Int) := by omega
      have b2 : (0 : Int) ≤ (m : Int) := by omega
      have b3 : (m : Int) < (n : Int) := by have := HEM.out; omega
      have d0 := HR.out.nums.cell (k := hh) (by rw [H.out.len]; omega)
      have d1 := HR.out.nums.cell (k := m) (by have := HEM.out; rw [H.out.len]; omega)
      have n0 := hid (H.out.atN (k := hh) (by omega) (by omega))
      have n1 := hid (H.out.atN (k := m) l1 (by have := HEM.out; omega))
      obtain ⟨x, hx⟩ : ∃ x, x = St.at_ D hh := ⟨_, rfl⟩
      obtain ⟨z, hz⟩ : ∃ z, z = St.at_ D m := ⟨_, rfl⟩
      have HYZ := hid (And.intro hx hz)
      rw [← hx] at d0 n0
      rw [← hz] at d1 n1
      have HCC := hid (fun (W : World) (h : Below wr.heap.size wr W) => HC.out W (HR.out.low.trans (h.mono (Nat.le_of_lt HR.out.nums.lt))) z x n1.out n0.out)
      clear hhe hx hz
      go_wp2_with fail
      go_region_held2 (fun W => W.cell? ⟨b, hh, none⟩ = some (.int .i64 (x : Int)) ∧ W.cell? ⟨b, m, none⟩ = some (.int .i64 (z : Int))) (first | exact ⟨d0, d1⟩ | exact hS2) (first | (go_at_call 41; refine (HCC.out _ (by first | exact Below.refl _ _ | exact (Below.refl _ _).drew)).mono ?_; rintro en w2 ⟨rfl, hb2⟩; have B2 := hid (show Below wr.heap.size wr w2 by (first | exact hb2 | exact undrew hb2)); have hS2 := And.intro ((B2.out.cell (by exact HR.out.nums.lt)).trans d0) ((B2.out.cell (by exact HR.out.nums.lt)).trans d1)))
      have N2 := hid (HR.out.nums.on B2.out)
      have L2 := hid (HR.out.low.trans (B2.out.mono (Nat.le_of_lt HR.out.nums.lt)))
      clear d0 d1
      have HNy := hid (fun hc : c z x < 0 => show LastAt c w b D a m i hh w2 from ⟨L2.out, N2.out, HR.out.lo, Or.inr (by rw [← HYZ.out.1, ← HYZ.out.2]; exact hc)⟩)
      have HNn := hid (fun hc : ¬ c z x < 0 => show LastAt c w b D a m (hh + 1) j w2 from ⟨L2.out, N2.out, Or.inr (by rw [Nat.add_sub_cancel, ← HYZ.out.1, ← HYZ.out.2]; exact hc), HR.out.hi⟩)
      go_wp2
      · rename_i hv
        have HN := hid (HNn.out (by simpa using hv))
        go_roundw
        case rel => exact ⟨hh + 1, j, by have := HHE.out; omega, by have := HHE.out; omega, hjm, by go_num, rfl, HN⟩
        case measure => have := HHE.out; simp [intOf]; omega
      · rename_i hv
        have HN := hid (HNy.out (by simpa using hv))
        go_roundw
        case rel => exact ⟨i, hh, hai, by have := HHE.out; omega, by have := HHE.out; omega, rfl, rfl, HN⟩
        case measure => have := HHE.out; simp [intOf]; omega
    · have hltI : ¬ ((i : Int) < (j : Int)) := by omega
      have hij2 : j = i := by omega
      subst hij2
      rename World => wo
      go_wp2_with fail
      go_loopw [17] (fun vk wr => ∃ k : Nat, j ≤ k ∧ k ≤ m ∧ vk = .int .i64 k ∧ Hid (Below b w wr ∧ ∃ A B, X = A ++ B ∧ (P ++ A).length = k ∧ Nums wr b ((P ++ A) ++ y :: (B ++ S)))) (fun vk _ => (intOf vk).toNat)
      case atStart => exact ⟨m, hjm, Nat.le_refl _, rfl, HR.out.low, X, [], by simp, by rw [List.length_append, H.out.a_]; exact H.out.m_, by have := HR.out.nums; rw [← H.out.d] at this; simpa using this⟩
      case round =>
        obtain ⟨k, hjk, hkm, rfl, HK⟩ := hrel
        by_cases hlt2 : j < k
        · have hkI : (j : Int) < (k : Int) := by omega
          obtain ⟨t, htk⟩ : ∃ t, k = t + 1 := ⟨k - 1, by omega⟩
          have HT := hid htk
          obtain ⟨A, x, B, HA⟩ : ∃ (A : List Nat) (x : Nat) (B : List Nat), Hid (X = (A ++ [x]) ++ B ∧ (P ++ A).length = t ∧ Nums wr b ((P ++ A) ++ x :: y :: (B ++ S))) := by
            obtain ⟨_, A, B, h1, h2, h3⟩ := HK.out
            have hP := H.out.a_
            rcases List.eq_nil_or_concat A with q | ⟨A', x, q⟩
            · exfalso; rw [q] at h2; simp at h2; omega
            · rw [List.concat_eq_append] at q
              exact ⟨A', x, B, by rw [← q]; exact h1, by rw [q] at h2; simp only [List.length_append, List.length_cons, List.length_nil] at h2 ⊢; omega, by rw [q] at h3; simpa using h3⟩
          have w3 : IntKind.i64.wrap ((k : Int) - 1) = (t : Int) := by rw [IntKind.wrap_i64]; omega
          have c0 : wr.cell? ⟨b, t, none⟩ = some (.int .i64 (x : Int)) := HA.out.2.2.at_ HA.out.2.1
          have c1 : wr.cell? ⟨b, k, none⟩ = some (.int .i64 (y : Int)) := Nums.at_ (U := (P ++ A) ++ [x]) (W := B ++ S) (by have := HA.out.2.2; simpa using this) (by rw [List.length_append, HA.out.2.1, htk]; rfl)
          have f0 := HA.out.2.2.free t
          have f1 := HA.out.2.2.free k
          obtain ⟨u, c2⟩ := HA.out.2.2.second k x (j := t) (by rw [List.length_append, HA.out.2.1]; simp)
          have b0 : (0 : Int) ≤ (t : Int) := by omega
          have b1 : (t : Int) < (n : Int) := by omega
          have b2 : (0 : Int) ≤ (k : Int) := by omega
          have b3 : (k : Int) < (n : Int) := by have := HEM.out; omega
          have HN3 := hid (show Below b w ((wr.setCell ⟨b, k, none⟩ (.int .i64 (x : Int))).setCell ⟨b, t, none⟩ (.int .i64 (y : Int))).drew ∧ ∃ A B, X = A ++ B ∧ (P ++ A).length = t ∧ Nums ((wr.setCell ⟨b, k, none⟩ (.int .i64 (x : Int))).setCell ⟨b, t, none⟩ (.int .i64 (y : Int))).drew b ((P ++ A) ++ y :: (B ++ S)) from by
            refine ⟨((HK.out.1.setCell (Nat.le_refl _) _).setCell (Nat.le_refl _) _).drew, A, x :: B, by rw [HA.out.1]; simp, HA.out.2.1, ?_⟩
            have := ((HA.out.2.2.set k x).set t y).drew
            rw [HT.out, St.swap_two' HA.out.2.1] at this
            rw [HT.out]
            simpa using this)
          clear htk
          go_wp2_with fail
          go_big_region_o
          generalize ((wr.setCell ⟨b, k, none⟩ (.int .i64 (x : Int))).setCell ⟨b, t, none⟩ (.int .i64 (y : Int))).drew = w3 at HN3 ⊢
          clear c0 c1 c2 f0 f1
          go_wp2
          go_roundw
          case rel => exact ⟨t, by have := HT.out; omega, by have := HT.out; omega, by first | rfl | go_num, HN3⟩
          case measure => have := HT.out; simp [intOf]; omega
        · have hkI : ¬ ((j : Int) < (k : Int)) := by omega
          have HF := hid (show Sorts c w b P T S wr by
            rw [← HT0.out]
            obtain ⟨h0, A, B, h1, h2, h3⟩ := HK.out
            have hP := H.out.a_
            rw [List.length_append] at h2
            refine ⟨h0, A ++ y :: B, sym_last_up H.out hai hjm HR.out.lo HR.out.hi h1 (by omega), ?_, by simpa using h3⟩
            rw [h1]
            exact List.perm_middle.trans (List.perm_append_singleton y (A ++ B)).symm)
          go_wp2
          exact bodyPost_ret (v := .tuple #[]) (by simp [results, Tryz.results112, go_sem]) rfl ⟨rfl, HF.out⟩
end Go.Proofs.YtemmhingmeinjaaGreatDoor
namespace Go.Proofs.YtemmhingmeinjaaGreatDoor
open Go.RowKit

structure BigAt (c : Nat → Nat → Int) (w : World) (b : Nat) (D : List Nat) (nn s0 r0 s r : Nat) (w' : World) : Prop where
  low : Below b w w'
  nums : Nums w' b D
  lo : s = s0 ∨ ¬ c (St.at_ D (nn - s)) (St.at_ D (s - 1)) < 0
  hi : r = r0 ∨ c (St.at_ D (nn - 1 - r)) (St.at_ D r) < 0
structure Cut (c : Nat → Nat → Int) (a m e mid s f : Nat) (X Y X1 X2 Y1 Y2 : List Nat) : Prop where
  x : X = X1 ++ X2
  y : Y = Y1 ++ Y2
  lx1 : a + X1.length = s
  lx2 : s + X2.length = m
  ly1 : m + Y1.length = f
  ly2 : f + Y2.length = e
  mid_ : mid + m = s + f
  lt : ∀ u ∈ X1 ++ Y1, ∀ v ∈ X2 ++ Y2, St.lt c u v
def Ends (a m e mid nn s0 r0 : Nat) : Prop := (mid < m ∧ s0 = nn - e ∧ r0 = mid) ∨ (m ≤ mid ∧ s0 = a ∧ r0 = m)
theorem big_cut {c : Nat → Nat → Int} {w w' : World} {b n N a m e mid nn s0 r0 s f : Nat} {P X Y S D : List Nat} (h : SymIn c N w b n a m e P X Y S D) (hB : BigAt c w b D nn s0 r0 s s w') (hn : nn = mid + m) (hf : f = nn - s) (h1 : s0 ≤ s) (h2 : s ≤ r0) (h3 : mid = (a + e) / 2)
    (hq : Ends a m e mid nn s0 r0) (ha : a < m) (he : m < e) : ∃ X1 X2 Y1 Y2, Cut c a m e mid s f X Y X1 X2 Y1 Y2 := by
  have hb : a ≤ s ∧ s ≤ m ∧ m ≤ f ∧ f ≤ e := by rcases hq with ⟨_, q1, q2⟩ | ⟨_, q1, q2⟩ <;> omega
  obtain ⟨X1, X2, Y1, Y2, e1, e2, e3, e4, e5⟩ := h.ord.cut (s := s) (f := f) h.d h.a_ h.m_ h.e_ ⟨hb.1, hb.2.1⟩ ⟨hb.2.2.1, hb.2.2.2⟩ h.upX h.upY h.lt h.bound
    (by rcases hB.lo with q | q
        · rcases hq with ⟨_, q1, _⟩ | ⟨_, q1, _⟩
          · exact Or.inr (Or.inl (by omega))
          · exact Or.inl (by omega)
        · exact Or.inr (Or.inr (by rw [hf]; exact q)))
    (by rcases hB.hi with q | q
        · rcases hq with ⟨_, _, q1⟩ | ⟨_, _, q1⟩
          · exact Or.inr (Or.inl (by omega))
          · exact Or.inl (by omega)
        · exact Or.inr (Or.inr (by rw [hf, show nn - s - 1 = nn - 1 - s by omega]; exact q)))
  have l1 := h.m_
  have l2 := h.e_
  have l3 := congrArg List.length e1
  have l4 := congrArg List.length e2
  rw [List.length_append] at l3 l4
  exact ⟨X1, X2, Y1, Y2, e1, e2, by omega, by omega, by omega, by omega, by omega, e5⟩

section
variable {c : Nat → Nat → Int} {w w' w6 w7 w8 : World} {b n N a m e mid s f : Nat} {P X Y S D X1 X2 Y1 Y2 : List Nat}
theorem Cut.bound (k : Cut c a m e mid s f X Y X1 X2 Y1 Y2) (h : SymIn c N w b n a m e P X Y S D) : (∀ z ∈ X1 ++ Y1, z < N) ∧ (∀ z ∈ X2 ++ Y2, z < N) := by
  have hb := h.bound
  rw [k.x, k.y] at hb
  refine ⟨fun z hz => hb z ?_, fun z hz => hb z ?_⟩
  · rcases List.mem_append.1 hz with q | q <;> simp [q]
  · rcases List.mem_append.1 hz with q | q <;> simp [q]
theorem Cut.low (k : Cut c a m e mid s f X Y X1 X2 Y1 Y2) (h : SymIn c N w b n a m e P X Y S D) (hN : Nums w6 b (P ++ X1 ++ Y1 ++ (X2 ++ Y2 ++ S))) : SymIn c N w6 b n a s mid P X1 Y1 (X2 ++ Y2 ++ S) (P ++ X1 ++ Y1 ++ (X2 ++ Y2 ++ S)) := by
  have ux := h.upX
  have uy := h.upY
  have hl := h.lt
  have hd := h.len
  rw [k.x] at ux hl
  rw [k.y] at uy hl
  rw [← h.d, k.x, k.y] at hd
  have k1 := k.lx1; have k2 := k.lx2; have k3 := k.ly1; have k4 := k.ly2; have k5 := k.mid_
  refine ⟨h.ord, rfl, ?_, h.big, h.a_, k.lx1, by omega, (List.pairwise_append.1 ux).1, (List.pairwise_append.1 uy).1, fun x hx y hy => hl x (by simp [hx]) y (by simp [hy]), (k.bound h).1, hN⟩
  simp only [List.length_append] at hd ⊢
  omega
theorem Cut.high (k : Cut c a m e mid s f X Y X1 X2 Y1 Y2) (h : SymIn c N w b n a m e P X Y S D) {Z : List Nat} (hp : Z.Perm (X1 ++ Y1)) (hN : Nums w7 b (P ++ Z ++ (X2 ++ Y2 ++ S))) : SymIn c N w7 b n mid f e (P ++ Z) X2 Y2 S (P ++ Z ++ X2 ++ Y2 ++ S) := by
  have ux := h.upX
  have uy := h.upY
  have hl := h.lt
  have hd := h.len
  rw [k.x] at ux hl
  rw [k.y] at uy hl
  rw [← h.d, k.x, k.y] at hd
  have k1 := k.lx1; have k2 := k.lx2; have k3 := k.ly1; have k4 := k.ly2; have k5 := k.mid_
  have hz := hp.length_eq
  have ha := h.a_
  rw [List.length_append] at hz
  refine ⟨h.ord, rfl, ?_, h.big, by rw [List.length_append]; omega, by omega, k.ly2, (List.pairwise_append.1 ux).2.1, (List.pairwise_append.1 uy).2.1, fun x hx y hy => hl x (by simp [hx]) y (by simp [hy]), (k.bound h).2, by simpa using hN⟩
  simp only [List.length_append] at hd ⊢
  omega
theorem Cut.done (k : Cut c a m e mid s f X Y X1 X2 Y1 Y2) {T : List Nat} (hT : X ++ Y = T) (h6 : Below b w w6) {Z : List Nat} (h7 : Below b w6 w7) (hu : St.Up c Z) (hp : Z.Perm (X1 ++ Y1)) (h8 : Sorts c w7 b (P ++ Z) (X2 ++ Y2) S w8) : Sorts c w b P T S w8 := by
  obtain ⟨b8, Z2, u2, p2, n2⟩ := h8
  refine ⟨h6.trans (h7.trans b8), Z ++ Z2, St.up_two hu u2 (fun u q v r => k.lt u (hp.mem_iff.1 q) v (p2.mem_iff.1 r)), ?_, by simpa using n2⟩
  rw [← hT, k.x, k.y]
  refine (hp.append p2).trans ?_
  rw [List.append_assoc, List.append_assoc]
  refine List.Perm.append_left _ ?_
  rw [← List.append_assoc, ← List.append_assoc]
  exact List.perm_append_comm.append_right _
theorem Cut.still1 (k : Cut c a m e mid s f X Y X1 X2 Y1 Y2) (h : SymIn c N w b n a m e P X Y S D) (h0 : a = s ∨ s = mid) (hN : Nums w6 b (P ++ X1 ++ Y1 ++ (X2 ++ Y2 ++ S))) : Sorts c w6 b P (X1 ++ Y1) (X2 ++ Y2 ++ S) w6 := by
  have i := k.low h hN
  have k1 := k.lx1; have k2 := i.e_
  refine ⟨Below.refl _ _, X1 ++ Y1, ?_, List.Perm.refl _, by simpa using hN⟩
  rcases h0 with q | q
  · have : X1 = [] := List.length_eq_zero_iff.1 (by omega)
    rw [this]; exact i.upY
  · have : Y1 = [] := List.length_eq_zero_iff.1 (by omega)
    rw [this, List.append_nil]; exact i.upX
theorem Cut.still2 (k : Cut c a m e mid s f X Y X1 X2 Y1 Y2) (h : SymIn c N w b n a m e P X Y S D) {Z : List Nat} (hp : Z.Perm (X1 ++ Y1)) (h0 : mid = f ∨ f = e) (hN : Nums w7 b (P ++ Z ++ (X2 ++ Y2 ++ S))) : Sorts c w7 b (P ++ Z) (X2 ++ Y2) S w7 := by
  have i := k.high h hp hN
  have k1 := i.m_; have k2 := k.ly2
  refine ⟨Below.refl _ _, X2 ++ Y2, ?_, List.Perm.refl _, by simpa using hN⟩
  rcases h0 with q | q
  · have : X2 = [] := List.length_eq_zero_iff.1 (by omega)
    rw [this]; exact i.upY
  · have : Y2 = [] := List.length_eq_zero_iff.1 (by omega)
    rw [this, List.append_nil]; exact i.upX
theorem Cut.unturned (k : Cut c a m e mid s f X Y X1 X2 Y1 Y2) (h : SymIn c N w b n a m e P X Y S D) (h0 : s = m ∨ m = f) (hN : Nums w6 b D) : Nums w6 b (P ++ X1 ++ Y1 ++ (X2 ++ Y2 ++ S)) := by
  have k1 := k.lx2; have k2 := k.ly1
  rw [← h.d, k.x, k.y] at hN
  rcases h0 with q | q
  · have : X2 = [] := List.length_eq_zero_iff.1 (by omega)
    rw [this] at hN ⊢; simpa using hN
  · have : Y1 = [] := List.length_eq_zero_iff.1 (by omega)
    rw [this] at hN ⊢; simpa using hN
end
def Merges (c : Nat → Nat → Int) (N b n cap cb k : Nat) : Prop := ∀ (w : World) (a m e : Nat) (P X Y S D T : List Nat), X.length + Y.length < k → X ≠ [] → Y ≠ [] → X ++ Y = T → SymIn c N w b n a m e P X Y S D → Cmps w b N c cb →
  Calls Tryz.prog 112 #[.slice (some ⟨b, 0, none⟩) n cap, .int .i64 a, .int .i64 m, .int .i64 e, clo cb] w fun en w' => en = .returned (.tuple #[]) ∧ Sorts c w b P T S w'

set_option maxRecDepth 20000 in
set_option maxHeartbeats 16000000 in
theorem sym_bigA {c : Nat → Nat → Int} {w : World} {b n N cap cb a m e : Nat} {P X Y S D T : List Nat} (hT : X ++ Y = T) (h : SymIn c N w b n a m e P X Y S D) (hC : Cmps w b N c cb) (hX1 : 2 ≤ X.length) (hY1 : 2 ≤ Y.length) (hI : Merges c N b n cap cb (X.length + Y.length)) (hq : (a + e) / 2 < m) :
    Calls Tryz.prog 112 #[.slice (some ⟨b, 0, none⟩) n cap, .int .i64 a, .int .i64 m, .int .i64 e, clo cb] w fun en w' => en = .returned (.tuple #[]) ∧ Sorts c w b P T S w' := by
  have HT0 := hid hT
  have H := hid h
  have HC := hid hC
  have HI := hid hI
  have hent := Tryz.entOrd
  obtain ⟨l1, l2, l3⟩ := h.leX
  have h62 := h.big
  have g1 : a + 2 ≤ m := by have := h.m_; omega
  have g2 : m + 2 ≤ e := by have := h.e_; omega
  have HXY := hid (show X.length + Y.length = e - a by have := h.m_; have := h.e_; omega)
  obtain ⟨xl, hxl⟩ : ∃ xl, xl = m - a := ⟨_, rfl⟩
  obtain ⟨yl, hyl⟩ : ∃ yl, yl = e - m := ⟨_, rfl⟩
  have w1 : IntKind.i64.wrap ((m : Int) - (a : Int)) = (xl : Int) := by rw [IntKind.wrap_i64]; omega
  have hx1 : ((xl : Int) == 1) = false := by rw [beq_eq_false_iff_ne]; omega
  have hx1' : ¬ ((xl : Int) = 1) := by omega
  have w2 : IntKind.i64.wrap ((e : Int) - (m : Int)) = (yl : Int) := by rw [IntKind.wrap_i64]; omega
  have hy1 : ((yl : Int) == 1) = false := by rw [beq_eq_false_iff_ne]; omega
  have hy1' : ¬ ((yl : Int) = 1) := by omega
  obtain ⟨mid, hmid⟩ : ∃ mid, mid = (a + e) / 2 := ⟨_, rfl⟩
  have q0 : ((a : Int) + (e : Int)) / 2 = (mid : Int) := by omega
  obtain ⟨nn, hnn⟩ : ∃ nn, nn = mid + m := ⟨_, rfl⟩
  have w3 : IntKind.i64.wrap ((mid : Int) + (m : Int)) = (nn : Int) := by rw [IntKind.wrap_i64]; omega
  have w3' : ((mid : Int) + (m : Int)) = (nn : Int) := by omega
  obtain ⟨pp, hpp⟩ : ∃ pp, pp = nn - 1 := ⟨_, rfl⟩
  have w4 : IntKind.i64.wrap ((nn : Int) - 1) = (pp : Int) := by rw [IntKind.wrap_i64]; omega
  have w4' : ((nn : Int) - 1) = (pp : Int) := by omega
  rw [← hmid] at hq
  have hmI : (mid : Int) < (m : Int) := by omega
  obtain ⟨s0, hs0⟩ : ∃ s0, s0 = nn - e := ⟨_, rfl⟩
  have w7 : IntKind.i64.wrap ((nn : Int) - (e : Int)) = (s0 : Int) := by rw [IntKind.wrap_i64]; omega
  have w7' : ((nn : Int) - (e : Int)) = (s0 : Int) := by omega
  have HQ := hid (show mid = (a + e) / 2 ∧ nn = mid + m ∧ pp = nn - 1 from ⟨hmid, hnn, hpp⟩)
  have HS := hid (show Ends a m e mid nn s0 mid from Or.inl ⟨hq, hs0, rfl⟩)
  have HZ := hid (show s0 ≤ mid ∧ a ≤ s0 ∧ mid ≤ m ∧ mid ≤ mid ∧ mid < e ∧ a < mid by omega)
  have z1 := HZ.out.1
  have z5 := HZ.out.2.2.2.2.1
  have z6 := HZ.out.2.2.2.2.2
  have z7 : mid ≤ n := by omega
  clear h hC hxl hyl hX1 hY1 hI hT hmid hnn hpp hs0 hq
  go_enter Tryz.func112, Tryz.ntmps112
  go_wp2_with fail
  go_loopw [20, 21, 23] (fun vs vr _ wr => ∃ (s r : Nat), s0 ≤ s ∧ s ≤ r ∧ r ≤ mid ∧ vs = .int .i64 s ∧ vr = .int .i64 r ∧ Hid (BigAt c w b D nn s0 mid s r wr)) (fun vs vr _ _ => (intOf vr).toNat - (intOf vs).toNat)
  case atStart => exact ⟨s0, mid, Nat.le_refl _, z1, Nat.le_refl _, by first | rfl | go_num, by first | rfl | go_num, ⟨Below.refl _ _, H.out.nums, Or.inl rfl, Or.inl rfl⟩⟩
  case round =>
    obtain ⟨s, r, hs, hsr, hr, rfl, rfl, HR⟩ := hrel
    have hzz := HZ.out
    have HRB := hid (show a ≤ s ∧ r ≤ m ∧ r ≤ mid from by omega)
    clear hzz
    by_cases hlt : s < r
    · obtain ⟨cc, hcc⟩ : ∃ cc, cc = (s + r) / 2 := ⟨_, rfl⟩
      have HHE := hid hcc
      have q1 : ((s : Int) + (r : Int)) / 2 = (cc : Int) := by omega
      have hltI : (s : Int) < (r : Int) := by omega
      obtain ⟨pc, hpc⟩ : ∃ pc, pc = pp - cc := ⟨_, rfl⟩
      have HPC := hid (show pc = nn - 1 - cc ∧ m ≤ pc ∧ pc < e from by
        obtain ⟨e1, e2, e3⟩ := HQ.out
        rcases HS.out with ⟨f1, f2, f3⟩ | ⟨f1, f2, f3⟩ <;> (refine ⟨by omega, by omega, by omega⟩))
      have w5 : IntKind.i64.wrap ((pp : Int) - (cc : Int)) = (pc : Int) := by rw [IntKind.wrap_i64]; have := HPC.out; have := HQ.out; omega
      have v1 : (cc : Int) ≤ (pp : Int) := by have := HPC.out; have := HQ.out; omega
      have v2 : (pp : Int) < (n : Int) + (cc : Int) := by have := HPC.out; have := HQ.out; omega
      have v3 : cc ≤ pp := by have := HPC.out; have := HQ.out; omega
      have v4 : pp < n + cc := by have := HPC.out; have := HQ.out; omega
      have v5 : ((pp : Int) - (cc : Int)).toNat = pc := by have := HPC.out; have := HQ.out; omega
      have b0 : (0 : Int) ≤ (cc : Int) := by omega
      have b1 : (cc : Int) < (n : Int) := by omega
      have b2 : (0 : Int) ≤ (pc : Int) := by omega
      have b3 : (pc : Int) < (n : Int) := by have := HPC.out; omega
      have d0 := HR.out.nums.cell (k := cc) (by rw [H.out.len]; omega)
      have d1 := HR.out.nums.cell (k := pc) (by have := HPC.out; rw [H.out.len]; omega)
      have n0 := hid (H.out.atN (k := cc) (by omega) (by omega))
      have n1 := hid (H.out.atN (k := pc) (by have := HPC.out; omega) (by have := HPC.out; omega))
      obtain ⟨x, hx⟩ : ∃ x, x = St.at_ D cc := ⟨_, rfl⟩
      obtain ⟨z, hz⟩ : ∃ z, z = St.at_ D pc := ⟨_, rfl⟩
      have HYZ := hid (And.intro hx hz)
      rw [← hx] at d0 n0
      rw [← hz] at d1 n1
      have HCC := hid (fun (W : World) (h : Below wr.heap.size wr W) => HC.out W (HR.out.low.trans (h.mono (Nat.le_of_lt HR.out.nums.lt))) z x n1.out n0.out)
      clear hcc hpc hx hz
      go_wp2_with fail
      go_region_held2 (fun W => W.cell? ⟨b, cc, none⟩ = some (.int .i64 (x : Int)) ∧ W.cell? ⟨b, pc, none⟩ = some (.int .i64 (z : Int))) (first | exact ⟨d0, d1⟩ | exact hS2) (first | (go_at_call 41; refine (HCC.out _ (by first | exact Below.refl _ _ | exact (Below.refl _ _).drew)).mono ?_; rintro en w2 ⟨rfl, hb2⟩; have B2 := hid (show Below wr.heap.size wr w2 by (first | exact hb2 | exact undrew hb2)); have hS2 := And.intro ((B2.out.cell (by exact HR.out.nums.lt)).trans d0) ((B2.out.cell (by exact HR.out.nums.lt)).trans d1)))
      have N2 := hid (HR.out.nums.on B2.out)
      have L2 := hid (HR.out.low.trans (B2.out.mono (Nat.le_of_lt HR.out.nums.lt)))
      clear d0 d1
      have HNy := hid (fun hc : c z x < 0 => show BigAt c w b D nn s0 mid s cc w2 from ⟨L2.out, N2.out, HR.out.lo, Or.inr (by rw [← HPC.out.1, ← HYZ.out.1, ← HYZ.out.2]; exact hc)⟩)
      have HNn := hid (fun hc : ¬ c z x < 0 => show BigAt c w b D nn s0 mid (cc + 1) r w2 from ⟨L2.out, N2.out, Or.inr (by rw [Nat.add_sub_cancel, show nn - (cc + 1) = nn - 1 - cc by omega, ← HPC.out.1, ← HYZ.out.1, ← HYZ.out.2]; exact hc), HR.out.hi⟩)
      go_wp2
      · rename_i hv
        have HN := hid (HNn.out (by simpa using hv))
        go_roundw
        case rel => exact ⟨cc + 1, r, by have := HHE.out; omega, by have := HHE.out; omega, hr, by go_num, rfl, HN⟩
        case measure => have := HHE.out; simp [intOf]; omega
      · rename_i hv
        have HN := hid (HNy.out (by simpa using hv))
        go_roundw
        case rel => exact ⟨s, cc, hs, by have := HHE.out; omega, by have := HHE.out; omega, rfl, rfl, HN⟩
        case measure => have := HHE.out; simp [intOf]; omega
    · have hltI : ¬ ((s : Int) < (r : Int)) := by omega
      have hsr2 : r = s := by omega
      subst hsr2
      rename_i hlt0
      obtain ⟨f, hf⟩ : ∃ f, f = nn - r := ⟨_, rfl⟩
      obtain ⟨X1, X2, Y1, Y2, hK⟩ := big_cut H.out HR.out HQ.out.2.1 hf hs hr HQ.out.1 HS.out (by omega) (by omega)
      have HK := hid hK
      have k1 := hK.lx1; have k2 := hK.lx2; have k3 := hK.ly1; have k4 := hK.ly2; have k5 := hK.mid_
      have w6 : IntKind.i64.wrap ((nn : Int) - (r : Int)) = (f : Int) := by rw [IntKind.wrap_i64]; have := HQ.out; omega
      have w6' : ((nn : Int) - (r : Int)) = (f : Int) := by have := HQ.out; omega
      have HLEN := hid (show X1.length = r - a ∧ X2.length = m - r ∧ Y1.length = f - m ∧ Y2.length = e - f from by omega)
      have j1 : a ≤ r := by omega
      have j2 : r ≤ m := by omega
      have j3 : m ≤ f := by omega
      have j4 : f ≤ e := by omega
      have HM := hid k5
      obtain ⟨T1, hT1⟩ : ∃ T1, T1 = X1 ++ Y1 := ⟨_, rfl⟩
      obtain ⟨T2, hT2⟩ : ∃ T2, T2 = X2 ++ Y2 := ⟨_, rfl⟩
      obtain ⟨S1, hS1⟩ : ∃ S1, S1 = X2 ++ Y2 ++ S := ⟨_, rfl⟩
      obtain ⟨D2, hD2⟩ : ∃ D2, D2 = P ++ X1 ++ Y1 ++ (X2 ++ Y2 ++ S) := ⟨_, rfl⟩
      have HTS := hid (show T1 = X1 ++ Y1 ∧ T2 = X2 ++ Y2 ∧ S1 = X2 ++ Y2 ++ S ∧ D2 = P ++ X1 ++ Y1 ++ (X2 ++ Y2 ++ S) from ⟨hT1, hT2, hS1, hD2⟩)
      have HROT := hid (fun (q1 : r < m) (q2 : m < f) => rotate_any (w := wr) (b := b) (n := n) (cap := cap) (cb := cb) (a := r) (m := m) (e := f) (P := P ++ X1) (X := X2) (Y := Y1) (S := Y2 ++ S) (T := D2) (by rw [hD2]; simp) (by have := HR.out.nums; rw [← H.out.d, hK.x, hK.y] at this; simpa using this) (by have := H.out.len; rw [← H.out.d, hK.x, hK.y] at this; simpa using this) h62 (by rw [List.length_append, H.out.a_]; omega) (by rw [List.length_append, List.length_append, H.out.a_]; omega) (by rw [List.length_append, List.length_append, List.length_append, H.out.a_]; omega) (fun q => by rw [q] at k2; simp at k2; omega) (fun q => by rw [q] at k3; simp at k3; omega))
      have HSTILL := hid (fun (q : r = m ∨ m = f) => show Nums wr b D2 by rw [hD2]; exact hK.unturned H.out q HR.out.nums)
      have HREC1 := hid (fun (W : World) (hb : Below b w W) (hN : Nums W b D2) (q1 : a < r) (q2 : r < mid) => HI.out W a r mid P X1 Y1 S1 D2 T1 (by rw [HXY.out]; omega) (fun q => by rw [q] at k1; simp at k1; omega) (fun q => by rw [q] at k3; simp at k3; omega) hT1.symm (by rw [hS1, hD2]; exact hK.low H.out (by rw [hD2] at hN; exact hN)) (HC.out.on hb))
      have HST1 := hid (fun (W : World) (hN : Nums W b D2) (q : a = r ∨ r = mid) => show Sorts c W b P T1 S1 W by rw [hT1, hS1]; exact hK.still1 H.out q (by rw [hD2] at hN; exact hN))
      have HREC2 := hid (fun (W V : World) (hb : Below b w V) (h7 : Sorts c V b P T1 S1 W) (q1 : mid < f) (q2 : f < e) => show ∃ Z, Below b V W ∧ St.Up c Z ∧ Z.Perm (X1 ++ Y1) ∧ Calls Tryz.prog 112 #[.slice (some ⟨b, 0, none⟩) n cap, .int .i64 mid, .int .i64 f, .int .i64 e, clo cb] W fun en w' => en = .returned (.tuple #[]) ∧ Sorts c W b (P ++ Z) T2 S w' from by
        obtain ⟨b7, Z, u, p, hN⟩ := h7
        rw [hT1] at p
        rw [hS1] at hN
        exact ⟨Z, b7, u, p, HI.out W mid f e (P ++ Z) X2 Y2 S _ T2 (by rw [HXY.out]; omega) (fun q => by rw [q] at k2; simp at k2; omega) (fun q => by rw [q] at k4; simp at k4; omega) hT2.symm (hK.high H.out p hN) (HC.out.on (hb.trans b7))⟩)
      have HEND2 := hid (fun (W V U : World) (Z : List Nat) (hb : Below b w V) (b7 : Below b V W) (u : St.Up c Z) (p : Z.Perm (X1 ++ Y1)) (h8 : Sorts c W b (P ++ Z) T2 S U) => show Sorts c w b P T S U by rw [hT2] at h8; exact hK.done HT0.out hb b7 u p h8)
      have HEND1 := hid (fun (W V : World) (hb : Below b w V) (h7 : Sorts c V b P T1 S1 W) (q : mid = f ∨ f = e) => show Sorts c w b P T S W by
        obtain ⟨b7, Z, u, p, hN⟩ := h7
        rw [hT1] at p
        rw [hS1] at hN
        exact hK.done HT0.out hb b7 u p (hK.still2 H.out p q hN))
      have HLOW := hid HR.out.low
      clear k1 k2 k3 k4 k5 hT1 hT2 hS1 hD2 hK hf
      have hm5 : mid + m = r + f := HM.out
      by_cases y1 : r < m
      · skip
        by_cases y2 : r < mid
        · skip
          by_cases y3 : a < r
          · skip
            by_cases y4 : f < e
            · skip
              have t1 : (r : Int) < (m : Int) := by omega
              have t2 : (m : Int) < (f : Int) := by omega
              have t3 : (a : Int) < (r : Int) := by omega
              have t4 : (r : Int) < (mid : Int) := by omega
              have t5 : (mid : Int) < (f : Int) := by omega
              have t6 : (f : Int) < (e : Int) := by omega
              go_wp2_with fail
              refine (HROT.out (by omega) (by omega)).mono ?_
              rintro en1 v6 ⟨rfl, hb6, hn6⟩
              have B6 := hid (HLOW.out.trans hb6)
              have N6 := hid hn6
              clear hb6 hn6
              go_wp2_with fail
              refine (HREC1.out _ B6.out N6.out (by omega) (by omega)).mono ?_
              rintro en2 v7 ⟨rfl, hs7⟩
              have S7 := hid hs7
              clear hs7
              go_wp2_with fail
              obtain ⟨Z, b7, u7, p7, c8⟩ := HREC2.out _ _ B6.out S7.out (by omega) (by omega)
              have HP7 := hid (And.intro b7 (And.intro u7 p7))
              have C8 := hid c8
              clear b7 u7 p7 c8
              refine C8.out.mono ?_
              rintro en3 v8 ⟨rfl, hs8⟩
              have S8 := hid (HEND2.out _ _ _ _ B6.out HP7.out.1 HP7.out.2.1 HP7.out.2.2 hs8)
              clear hs8
              go_wp2
              exact bodyPost_end (v := .tuple #[]) (by simp [results, Tryz.results112, go_sem]) rfl ⟨rfl, S8.out⟩
            · skip
              have t1 : (r : Int) < (m : Int) := by omega
              have t2 : (m : Int) < (f : Int) := by omega
              have t3 : (a : Int) < (r : Int) := by omega
              have t4 : (r : Int) < (mid : Int) := by omega
              have t5 : (mid : Int) < (f : Int) := by omega
              have t6 : ¬ ((f : Int) < (e : Int)) := by omega
              go_wp2_with fail
              refine (HROT.out (by omega) (by omega)).mono ?_
              rintro en1 v6 ⟨rfl, hb6, hn6⟩
              have B6 := hid (HLOW.out.trans hb6)
              have N6 := hid hn6
              clear hb6 hn6
              go_wp2_with fail
              refine (HREC1.out _ B6.out N6.out (by omega) (by omega)).mono ?_
              rintro en2 v7 ⟨rfl, hs7⟩
              have S7 := hid hs7
              clear hs7
              have S8 := hid (HEND1.out _ _ B6.out S7.out (by omega))
              go_wp2
              exact bodyPost_end (v := .tuple #[]) (by simp [results, Tryz.results112, go_sem]) rfl ⟨rfl, S8.out⟩
          · skip
            by_cases y4 : f < e
            · skip
              have t1 : (r : Int) < (m : Int) := by omega
              have t2 : (m : Int) < (f : Int) := by omega
              have t3 : ¬ ((a : Int) < (r : Int)) := by omega
              have t4 : (r : Int) < (mid : Int) := by omega
              have t5 : (mid : Int) < (f : Int) := by omega
              have t6 : (f : Int) < (e : Int) := by omega
              go_wp2_with fail
              refine (HROT.out (by omega) (by omega)).mono ?_
              rintro en1 v6 ⟨rfl, hb6, hn6⟩
              have B6 := hid (HLOW.out.trans hb6)
              have N6 := hid hn6
              clear hb6 hn6
              go_wp2_with fail
              have S7 := hid (HST1.out _ N6.out (by omega))
              obtain ⟨Z, b7, u7, p7, c8⟩ := HREC2.out _ _ B6.out S7.out (by omega) (by omega)
              have HP7 := hid (And.intro b7 (And.intro u7 p7))
              have C8 := hid c8
              clear b7 u7 p7 c8
              refine C8.out.mono ?_
              rintro en3 v8 ⟨rfl, hs8⟩
              have S8 := hid (HEND2.out _ _ _ _ B6.out HP7.out.1 HP7.out.2.1 HP7.out.2.2 hs8)
              clear hs8
              go_wp2
              exact bodyPost_end (v := .tuple #[]) (by simp [results, Tryz.results112, go_sem]) rfl ⟨rfl, S8.out⟩
            · skip
              have t1 : (r : Int) < (m : Int) := by omega
              have t2 : (m : Int) < (f : Int) := by omega
              have t3 : ¬ ((a : Int) < (r : Int)) := by omega
              have t4 : (r : Int) < (mid : Int) := by omega
              have t5 : (mid : Int) < (f : Int) := by omega
              have t6 : ¬ ((f : Int) < (e : Int)) := by omega
              go_wp2_with fail
              refine (HROT.out (by omega) (by omega)).mono ?_
              rintro en1 v6 ⟨rfl, hb6, hn6⟩
              have B6 := hid (HLOW.out.trans hb6)
              have N6 := hid hn6
              clear hb6 hn6
              have S7 := hid (HST1.out _ N6.out (by omega))
              have S8 := hid (HEND1.out _ _ B6.out S7.out (by omega))
              go_wp2
              exact bodyPost_end (v := .tuple #[]) (by simp [results, Tryz.results112, go_sem]) rfl ⟨rfl, S8.out⟩
        · skip
          by_cases y3 : a < r
          · skip
            by_cases y4 : f < e
            · skip
              have t1 : (r : Int) < (m : Int) := by omega
              have t2 : ¬ ((m : Int) < (f : Int)) := by omega
              have t3 : (a : Int) < (r : Int) := by omega
              have t4 : ¬ ((r : Int) < (mid : Int)) := by omega
              have t5 : (mid : Int) < (f : Int) := by omega
              have t6 : (f : Int) < (e : Int) := by omega
              go_wp2_with fail
              have B6 := hid HLOW.out
              have N6 := hid (HSTILL.out (by omega))
              have S7 := hid (HST1.out _ N6.out (by omega))
              obtain ⟨Z, b7, u7, p7, c8⟩ := HREC2.out _ _ B6.out S7.out (by omega) (by omega)
              have HP7 := hid (And.intro b7 (And.intro u7 p7))
              have C8 := hid c8
              clear b7 u7 p7 c8
              refine C8.out.mono ?_
              rintro en3 v8 ⟨rfl, hs8⟩
              have S8 := hid (HEND2.out _ _ _ _ B6.out HP7.out.1 HP7.out.2.1 HP7.out.2.2 hs8)
              clear hs8
              go_wp2
              exact bodyPost_end (v := .tuple #[]) (by simp [results, Tryz.results112, go_sem]) rfl ⟨rfl, S8.out⟩
            · skip
              exfalso
              have i1 := HRB.out
              have i2 := HZ.out
              have i3 := HM.out
              have i4 := HLEN.out
              omega
          · skip
            by_cases y4 : f < e
            · skip
              exfalso
              have i1 := HRB.out
              have i2 := HZ.out
              have i3 := HM.out
              have i4 := HLEN.out
              omega
            · skip
              exfalso
              have i1 := HRB.out
              have i2 := HZ.out
              have i3 := HM.out
              have i4 := HLEN.out
              omega
      · skip
        by_cases y2 : r < mid
        · skip
          by_cases y3 : a < r
          · skip
            by_cases y4 : f < e
            · skip
              exfalso
              have i1 := HRB.out
              have i2 := HZ.out
              have i3 := HM.out
              have i4 := HLEN.out
              omega
            · skip
              exfalso
              have i1 := HRB.out
              have i2 := HZ.out
              have i3 := HM.out
              have i4 := HLEN.out
              omega
          · skip
            by_cases y4 : f < e
            · skip
              exfalso
              have i1 := HRB.out
              have i2 := HZ.out
              have i3 := HM.out
              have i4 := HLEN.out
              omega
            · skip
              exfalso
              have i1 := HRB.out
              have i2 := HZ.out
              have i3 := HM.out
              have i4 := HLEN.out
              omega
        · skip
          by_cases y3 : a < r
          · skip
            by_cases y4 : f < e
            · skip
              exfalso
              have i1 := HRB.out
              have i2 := HZ.out
              have i3 := HM.out
              have i4 := HLEN.out
              omega
            · skip
              exfalso
              have i1 := HRB.out
              have i2 := HZ.out
              have i3 := HM.out
              have i4 := HLEN.out
              omega
          · skip
            by_cases y4 : f < e
            · skip
              exfalso
              have i1 := HRB.out
              have i2 := HZ.out
              have i3 := HM.out
              have i4 := HLEN.out
              omega
            · skip
              exfalso
              have i1 := HRB.out
              have i2 := HZ.out
              have i3 := HM.out
              have i4 := HLEN.out
              omega
end Go.Proofs.YtemmhingmeinjaaGreatDoor
