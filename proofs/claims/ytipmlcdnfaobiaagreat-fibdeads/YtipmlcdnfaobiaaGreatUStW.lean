/-
  The stable sort: blocks, merged until there is one.
-/
import Derived.Test.YtipmlcdnfaobiaaGreatUStTAnd
namespace Go.Proofs.YtipmlcdnfaobiaaGreat
open Go.RowKit

theorem Merges.mono {c : Nat → Nat → Int} {N b n cap cb k k' : Nat} (h : Merges c N b n cap cb k) (hk : k' ≤ k) : Merges c N b n cap cb k' := fun w a m e P X Y S D T hl => h w a m e P X Y S D T (Nat.lt_of_lt_of_le hl hk)
theorem len_one {X : List Nat} (h : X.length = 1) : ∃ x, X = [x] := by
  cases X with
  | nil => simp at h
  | cons x r => exact ⟨x, by rw [show r = [] from List.length_eq_zero_iff.1 (by simpa using h)]⟩
theorem sym_all (c : Nat → Nat → Int) (N b n cap cb : Nat) : ∀ k, Merges c N b n cap cb k := by
  intro k
  induction k with
  | zero => intro w a m e P X Y S D T hl; omega
  | succ k ih =>
    intro w a m e P X Y S D T hl hX hY hT h hC
    have x1 : 1 ≤ X.length := List.length_pos_iff.2 hX
    have y1 : 1 ≤ Y.length := List.length_pos_iff.2 hY
    by_cases hx : X.length = 1
    · obtain ⟨x, rfl⟩ := len_one hx
      rw [← hT]
      exact sym_one h hC
    by_cases hy : Y.length = 1
    · obtain ⟨y, rfl⟩ := len_one hy
      exact sym_last hT h hC hx
    by_cases hm : (a + e) / 2 < m
    · exact sym_bigA hT h hC (by omega) (by omega) (ih.mono (by omega)) hm
    · exact sym_bigB hT h hC (by omega) (by omega) (ih.mono (by omega)) (by omega)

/-- The numbers from lo to hi, sorted. -/
structure Pc (c : Nat → Nat → Int) (lo hi : Nat) (Z : List Nat) : Prop where
  le : lo ≤ hi
  up : St.Up c Z
  perm : Z.Perm (List.range' lo (hi - lo))
theorem Pc.len {c : Nat → Nat → Int} {lo hi : Nat} {Z : List Nat} (h : Pc c lo hi Z) : lo + Z.length = hi := by
  have := h.perm.length_eq
  have := h.le
  rw [List.length_range'] at *
  omega
theorem Pc.mem {c : Nat → Nat → Int} {lo hi : Nat} {Z : List Nat} (h : Pc c lo hi Z) {x : Nat} (hx : x ∈ Z) : lo ≤ x ∧ x < hi := by
  have := h.perm.mem_iff.1 hx
  have hl := h.le
  rw [List.mem_range'_1] at this
  omega
theorem Pc.none (c : Nat → Nat → Int) (lo : Nat) : Pc c lo lo [] := ⟨Nat.le_refl _, List.Pairwise.nil, by rw [Nat.sub_self]; exact List.Perm.nil⟩
theorem Pc.both {c : Nat → Nat → Int} {lo mi hi : Nat} {X Y Z : List Nat} (hX : Pc c lo mi X) (hY : Pc c mi hi Y) (hu : St.Up c Z) (hp : Z.Perm (X ++ Y)) : Pc c lo hi Z := by
  have h1 := hX.le
  have h2 := hY.le
  refine ⟨by omega, hu, hp.trans ?_⟩
  have e : List.range' lo (hi - lo) = List.range' lo (mi - lo) ++ List.range' mi (hi - mi) := by
    have q := List.range'_append (s := lo) (m := mi - lo) (n := hi - mi) (step := 1)
    rw [Nat.one_mul, show lo + (mi - lo) = mi by omega, show mi - lo + (hi - mi) = hi - lo by omega] at q
    exact q.symm
  rw [e]
  exact hX.perm.append hY.perm
/-- Sorted blocks of so many numbers; the last one may be shorter. -/
inductive Bl (c : Nat → Nat → Int) (bs : Nat) : Nat → Nat → List Nat → Prop
  | one {lo hi : Nat} {Z : List Nat} (h : hi ≤ lo + bs) (p : Pc c lo hi Z) : Bl c bs lo hi Z
  | cons {lo hi : Nat} {Z R : List Nat} (p : Pc c lo (lo + bs) Z) (r : Bl c bs (lo + bs) hi R) : Bl c bs lo hi (Z ++ R)
section
variable {c : Nat → Nat → Int} {bs : Nat}
theorem Bl.len {lo hi : Nat} {R : List Nat} (h : Bl c bs lo hi R) : lo + R.length = hi := by
  induction h with
  | one h p => exact p.len
  | cons p r ih => rw [List.length_append]; have := p.len; omega
theorem Bl.head {lo hi : Nat} {R : List Nat} (h : Bl c bs lo hi R) (hl : lo + bs ≤ hi) : ∃ Z R2, R = Z ++ R2 ∧ Pc c lo (lo + bs) Z ∧ Bl c bs (lo + bs) hi R2 := by
  cases h with
  | one h p =>
    have e : hi = lo + bs := by omega
    subst e
    exact ⟨R, [], by simp, p, .one (by omega) (Pc.none c _)⟩
  | cons p r => exact ⟨_, _, rfl, p, r⟩
theorem Bl.short {lo hi : Nat} {R : List Nat} (h : Bl c bs lo hi R) (hl : hi ≤ lo + bs) : Pc c lo hi R := by
  cases h with
  | one h p => exact p
  | cons p r =>
    have q := r.len
    rename_i Z R2
    have e : R2 = [] := List.length_eq_zero_iff.1 (by omega)
    subst e
    have e2 : hi = lo + bs := by simp at q; omega
    rw [List.append_nil, e2]
    exact p
end
theorem SymIn.of {c : Nat → Nat → Int} {N : Nat} {w : World} {b n a m e : Nat} {P X Y S : List Nat} (hO : St.Ord c N) (hX : Pc c a m X) (hY : Pc c m e Y) (ha : P.length = a) (he : e ≤ N) (hn : (P ++ X ++ Y ++ S).length = n) (hb : n < 4611686018427387904) (hN : Nums w b (P ++ X ++ Y ++ S)) : SymIn c N w b n a m e P X Y S (P ++ X ++ Y ++ S) :=
  ⟨hO, rfl, hn, hb, ha, hX.len, hY.len, hX.up, hY.up, fun x q y r => by have := hX.mem q; have := hY.mem r; omega, fun z q => by
    have h1 := hX.le
    have h2 := hY.le
    rcases List.mem_append.1 q with q | q
    · have := hX.mem q; omega
    · have := hY.mem q; omega, hN⟩

/-- Where the first loop stands: A's blocks are sorted. -/
structure FirstAt (c : Nat → Nat → Int) (w : World) (b n a : Nat) (w' : World) (A : List Nat) : Prop where
  low : Below b w w'
  len : A.length = a
  go : ∀ R, Bl c 20 a n R → Bl c 20 0 n (A ++ R)
  nums : Nums w' b (A ++ List.range' a (n - a) ++ [])
/-- Where the inner loop of the second one stands: A's blocks are merged. -/
structure NextAt (c : Nat → Nat → Int) (w : World) (b n bs a : Nat) (w' : World) (A R : List Nat) : Prop where
  low : Below b w w'
  len : A.length = a
  go : ∀ R, Bl c (2 * bs) a n R → Bl c (2 * bs) 0 n (A ++ R)
  rest : Bl c bs a n R
  nums : Nums w' b (A ++ R)

theorem FirstAt.step {c : Nat → Nat → Int} {w w1 w2 : World} {b n a : Nat} {A : List Nat} (h : FirstAt c w b n a w1 A) (_hb : a + 20 ≤ n) (hs : Sorts c w1 b A (List.range' a 20) (List.range' (a + 20) (n - (a + 20))) w2) : ∃ A2, FirstAt c w b n (a + 20) w2 A2 := by
  obtain ⟨b2, Z, u, p, hN⟩ := hs
  have hp : Pc c a (a + 20) Z := ⟨by omega, u, by rw [Nat.add_sub_cancel_left]; exact p⟩
  refine ⟨A ++ Z, h.low.trans b2, ?_, fun R hR => ?_, by simpa using hN⟩
  · rw [List.length_append, h.len]; exact hp.len
  · have := h.go (Z ++ R) (.cons hp hR)
    simpa using this
theorem range_cut {a k n : Nat} (h : a + k ≤ n) : List.range' a (n - a) = List.range' a k ++ List.range' (a + k) (n - (a + k)) := by
  have q := List.range'_append (s := a) (m := k) (n := n - (a + k)) (step := 1)
  rw [Nat.one_mul, show k + (n - (a + k)) = n - a by omega] at q
  exact q.symm
theorem range_up (a k : Nat) : (List.range' a k).Pairwise (· < ·) := List.pairwise_lt_range'
/-- Where the outer loop of the second one stands. -/
structure OutAt (c : Nat → Nat → Int) (w : World) (b n bs : Nat) (w' : World) (L : List Nat) : Prop where
  low : Below b w w'
  bl : Bl c bs 0 n L
  nums : Nums w' b L
theorem OutAt.next {c : Nat → Nat → Int} {w w' : World} {b n bs : Nat} {L : List Nat} (h : OutAt c w b n bs w' L) : NextAt c w b n bs 0 w' [] L := ⟨h.low, rfl, fun _ hR => hR, h.bl, h.nums⟩
theorem NextAt.two {c : Nat → Nat → Int} {w w' : World} {b n bs a : Nat} {A R : List Nat} (h : NextAt c w b n bs a w' A R) (hb : a + 2 * bs ≤ n) : ∃ X Y R2, R = X ++ Y ++ R2 ∧ Pc c a (a + bs) X ∧ Pc c (a + bs) (a + 2 * bs) Y ∧ Bl c bs (a + 2 * bs) n R2 ∧ Nums w' b (A ++ X ++ Y ++ R2) ∧ (A ++ X ++ Y ++ R2).length = n := by
  obtain ⟨X, R1, e1, p1, r1⟩ := h.rest.head (by omega)
  obtain ⟨Y, R2, e2, p2, r2⟩ := r1.head (by omega)
  have hl := h.rest.len
  have hN := h.nums
  rw [show a + bs + bs = a + 2 * bs by omega] at p2 r2
  refine ⟨X, Y, R2, by rw [e1, e2]; simp, p1, p2, r2, by rw [e1, e2] at hN; simpa using hN, ?_⟩
  rw [e1, e2] at hl
  have := h.len
  simp only [List.length_append] at hl ⊢
  omega
theorem NextAt.last {c : Nat → Nat → Int} {w w' : World} {b n bs a : Nat} {A R : List Nat} (h : NextAt c w b n bs a w' A R) (h1 : a + bs < n) (h2 : n < a + 2 * bs) : ∃ X Y, R = X ++ Y ∧ Pc c a (a + bs) X ∧ Pc c (a + bs) n Y ∧ Nums w' b (A ++ X ++ Y ++ []) ∧ (A ++ X ++ Y ++ []).length = n := by
  obtain ⟨X, R1, e1, p1, r1⟩ := h.rest.head (by omega)
  have hl := h.rest.len
  have hN := h.nums
  refine ⟨X, R1, e1, p1, r1.short (by omega), by rw [e1] at hN; simpa using hN, ?_⟩
  rw [e1] at hl
  have := h.len
  simp only [List.length_append, List.length_nil] at hl ⊢
  omega
theorem NextAt.step {c : Nat → Nat → Int} {w w1 w2 : World} {b n bs a : Nat} {A R X Y R2 T : List Nat} (h : NextAt c w b n bs a w1 A R) (pX : Pc c a (a + bs) X) (pY : Pc c (a + bs) (a + 2 * bs) Y) (hR : Bl c bs (a + 2 * bs) n R2) (hT : X ++ Y = T) (hs : Sorts c w1 b A T R2 w2) : ∃ A2, NextAt c w b n bs (a + 2 * bs) w2 A2 R2 := by
  obtain ⟨b2, Z, u, p, hN⟩ := hs
  rw [← hT] at p
  have hp := pX.both pY u p
  refine ⟨A ++ Z, h.low.trans b2, ?_, fun R hR => ?_, hR, by simpa using hN⟩
  · rw [List.length_append, h.len]; exact hp.len
  · have := h.go (Z ++ R) (.cons hp hR)
    simpa using this
theorem NextAt.fin {c : Nat → Nat → Int} {w w1 w2 : World} {b n bs a : Nat} {A R X Y T : List Nat} (h : NextAt c w b n bs a w1 A R) (pX : Pc c a (a + bs) X) (pY : Pc c (a + bs) n Y) (h2 : n < a + 2 * bs) (hT : X ++ Y = T) (hs : Sorts c w1 b A T [] w2) : ∃ L, OutAt c w b n (2 * bs) w2 L := by
  obtain ⟨b2, Z, u, p, hN⟩ := hs
  rw [← hT] at p
  exact ⟨A ++ Z, h.low.trans b2, h.go Z (.one (by omega) (pX.both pY u p)), by simpa using hN⟩
theorem NextAt.end_ {c : Nat → Nat → Int} {w w1 : World} {b n bs a : Nat} {A R : List Nat} (h : NextAt c w b n bs a w1 A R) (h2 : n ≤ a + bs) : OutAt c w b n (2 * bs) w1 (A ++ R) :=
  ⟨h.low, h.go R (.one (by omega) (h.rest.short h2)), h.nums⟩

set_option maxRecDepth 20000 in
set_option maxHeartbeats 4000000 in
theorem stable_any {c : Nat → Nat → Int} {w : World} {b n cap cb : Nat} (hO : St.Ord c n) (hC : Cmps w b n c cb) (hN : Nums w b (List.range' 0 n)) (h60 : n < 1152921504606846976) :
    Calls Tryz.prog 85 #[.slice (some ⟨b, 0, none⟩) n cap, .int .i64 n, clo cb] w fun en w' => en = .returned (.tuple #[]) ∧ ∃ L, Hid (Pc c 0 n L ∧ Below b w w' ∧ Nums w' b L) := by
  have HO := hid hO
  have HC := hid hC
  have HF0 := hid (show FirstAt c w b n 0 w [] from ⟨Below.refl _ _, rfl, fun R hR => hR, by simpa using hN⟩)
  clear hO hC hN
  go_enter Tryz.func85, Tryz.ntmps85
  go_wp2_with fail
  go_loopw [7, 8] (fun va vb wr => ∃ (a bb : Nat) (A : List Nat), a ≤ n ∧ va = .int .i64 a ∧ vb = .int .i64 bb ∧ Hid (bb = a + 20) ∧ Hid (FirstAt c w b n a wr A)) (fun va _ _ => n - (intOf va).toNat)
  case atStart => exact ⟨0, 20, [], Nat.zero_le _, by first | rfl | go_num, by first | rfl | go_num, rfl, HF0⟩
  case round =>
    obtain ⟨a, bb, A, han, rfl, rfl, HBB, HF⟩ := hrel
    rename World => wo
    by_cases hle : bb ≤ n
    · have hleI : (bb : Int) ≤ (n : Int) := by omega
      have HI := hid (ins_any (w := wo) (b := b) (n := n) (N := n) (cap := cap) (cb := cb) (a := a) (e := bb) (c := c) (P := A) (X := List.range' a 20) (S := List.range' (a + 20) (n - (a + 20))) HO.out (HC.out.on HF.out.low) (by have := HF.out.nums; have hb := HBB.out; rw [range_cut (k := 20) (by omega)] at this; simpa using this) (by have hb := HBB.out; simp only [List.length_append, List.length_range', HF.out.len]; omega) (by omega) (fun x hx => by rw [List.mem_range'_1] at hx; have hb := HBB.out; omega) (range_up _ _) HF.out.len (by rw [List.length_range']; exact HBB.out.symm))
      obtain ⟨bc, hbc⟩ : ∃ bc, bc = bb + 20 := ⟨_, rfl⟩
      have HBC := hid hbc
      have w1 : IntKind.i64.wrap ((bb : Int) + 20) = (bc : Int) := by rw [IntKind.wrap_i64]; omega
      have w1' : ((bb : Int) + 20) = (bc : Int) := by omega
      clear hbc
      go_wp2_with fail
      refine HI.out.mono ?_
      rintro en w2 ⟨rfl, hs⟩
      obtain ⟨A2, hA2⟩ := HF.out.step (by have := HBB.out; omega) hs
      have HA2 := hid (show FirstAt c w b n bb w2 A2 by rw [HBB.out]; exact hA2)
      clear hA2 hs
      go_wp2
      go_roundw
      case rel => exact ⟨bb, bc, A2, hle, rfl, rfl, HBC, HA2⟩
      case measure => have := HBB.out; simp [intOf]; omega
    · have hleI : ¬ ((bb : Int) ≤ (n : Int)) := by omega
      have HI := hid (ins_any (w := wo) (b := b) (n := n) (N := n) (cap := cap) (cb := cb) (a := a) (e := n) (c := c) (P := A) (X := List.range' a (n - a)) (S := []) HO.out (HC.out.on HF.out.low) HF.out.nums (by simp only [List.length_append, List.length_range', HF.out.len, List.length_nil]; omega) (by omega) (fun x hx => by rw [List.mem_range'_1] at hx; omega) (range_up _ _) HF.out.len (by rw [List.length_range']; omega))
      go_wp2_with fail
      refine HI.out.mono ?_
      rintro en w2 ⟨rfl, hs⟩
      have HO2 := hid (show ∃ L, OutAt c w b n 20 w2 L by
        obtain ⟨b2, Z, u, p, hN⟩ := hs
        exact ⟨A ++ Z, HF.out.low.trans b2, HF.out.go Z (.one (by have := HBB.out; omega) ⟨han, u, p⟩), by simpa using hN⟩)
      clear hs
      go_wp2_with fail
      go_loopw [6, 7, 8, 9] (fun vs _ _ _ wr => ∃ bs : Nat, 20 ≤ bs ∧ vs = .int .i64 bs ∧ bs < 2305843009213693952 ∧ Hid (∃ L, OutAt c w b n bs wr L)) (fun vs _ _ _ _ => n - (intOf vs).toNat)
      case atStart => exact ⟨20, Nat.le_refl _, by first | rfl | go_num, by omega, HO2⟩
      case round =>
        obtain ⟨bs, hbs, rfl, hbig, HOut⟩ := hrel
        rename World => wp
        by_cases hlt : bs < n
        · have hltI : (bs : Int) < (n : Int) := by omega
          obtain ⟨L, hL⟩ := HOut.out
          have HN0 := hid hL.next
          clear hL
          obtain ⟨b2, hb2⟩ : ∃ b2, b2 = 2 * bs := ⟨_, rfl⟩
          have HB2 := hid hb2
          have v1 : (2 : Int) * (bs : Int) = (b2 : Int) := by omega
          have hb2n : b2 < 2305843009213693952 := by omega
          clear hb2
          go_wp2_with fail
          go_loopw [7, 8] (fun va vb wr => ∃ (a bb : Nat) (A R : List Nat), a ≤ n ∧ bb < 4611686018427387904 ∧ va = .int .i64 a ∧ vb = .int .i64 bb ∧ Hid (bb = a + 2 * bs) ∧ Hid (NextAt c w b n bs a wr A R)) (fun va _ _ => n - (intOf va).toNat)
          case atStart => exact ⟨0, b2, [], L, Nat.zero_le _, by omega, by first | rfl | go_num, by first | rfl | go_num, by rw [HB2.out]; show _ = _; omega, HN0⟩
          case round =>
            obtain ⟨a, bb, A, R, han, hbbb, rfl, rfl, HBB, HX⟩ := hrel
            rename World => wq
            obtain ⟨ma, hma⟩ : ∃ ma, ma = a + bs := ⟨_, rfl⟩
            have HMA := hid hma
            have v2 : IntKind.i64.wrap ((a : Int) + (bs : Int)) = (ma : Int) := by rw [IntKind.wrap_i64]; omega
            have v2' : ((a : Int) + (bs : Int)) = (ma : Int) := by omega
            clear hma
            by_cases hle : bb ≤ n
            · have hleI : (bb : Int) ≤ (n : Int) := by omega
              obtain ⟨X, Y, R2, hR⟩ := HX.out.two (by have := HBB.out; omega)
              have HR := hid hR
              obtain ⟨T, hT⟩ : ∃ T, X ++ Y = T := ⟨_, rfl⟩
              have HT := hid hT
              have HM := hid (sym_all c n b n cap cb (X.length + Y.length + 1) wq a ma bb A X Y R2 _ T (by omega) (fun q => by have h1 := HR.out.2.1.len; rw [q] at h1; simp at h1; omega) (fun q => by have h1 := HR.out.2.2.1.len; rw [q] at h1; simp at h1; omega) HT.out (SymIn.of HO.out (by rw [HMA.out]; exact HR.out.2.1) (by rw [HMA.out, HBB.out]; exact HR.out.2.2.1) HX.out.len hle HR.out.2.2.2.2.2 (by omega) HR.out.2.2.2.2.1) (HC.out.on HX.out.low))
              obtain ⟨bc, hbc⟩ : ∃ bc, bc = bb + 2 * bs := ⟨_, rfl⟩
              have HBC := hid hbc
              have v3 : IntKind.i64.wrap ((bb : Int) + (b2 : Int)) = (bc : Int) := by rw [IntKind.wrap_i64]; have := HB2.out; omega
              have v3' : ((bb : Int) + (b2 : Int)) = (bc : Int) := by have := HB2.out; omega
              have hbc2 : bc < 4611686018427387904 := by omega
              clear hbc hR hT
              go_wp2_with fail
              refine HM.out.mono ?_
              rintro en w3 ⟨rfl, hs⟩
              obtain ⟨A2, hA2⟩ := HX.out.step HR.out.2.1 HR.out.2.2.1 HR.out.2.2.2.1 HT.out hs
              have HA2 := hid (show NextAt c w b n bs bb w3 A2 R2 by rw [HBB.out]; exact hA2)
              clear hA2 hs
              go_wp2
              go_roundw
              case rel => exact ⟨bb, bc, A2, R2, hle, hbc2, rfl, rfl, HBC, HA2⟩
              case measure => have := HBB.out; simp [intOf]; omega
            · have hleI : ¬ ((bb : Int) ≤ (n : Int)) := by omega
              by_cases hm : ma < n
              · have hmI : (ma : Int) < (n : Int) := by omega
                obtain ⟨X, Y, hR⟩ := HX.out.last (by have := HMA.out; omega) (by have := HBB.out; omega)
                have HR := hid hR
                obtain ⟨T, hT⟩ : ∃ T, X ++ Y = T := ⟨_, rfl⟩
                have HT := hid hT
                have HM := hid (sym_all c n b n cap cb (X.length + Y.length + 1) wq a ma n A X Y [] _ T (by omega) (fun q => by have h1 := HR.out.2.1.len; rw [q] at h1; simp at h1; omega) (fun q => by have h1 := HR.out.2.2.1.len; have h2 := HMA.out; rw [q] at h1; simp at h1; omega) HT.out (SymIn.of HO.out (by rw [HMA.out]; exact HR.out.2.1) (by rw [HMA.out]; exact HR.out.2.2.1) HX.out.len (Nat.le_refl _) HR.out.2.2.2.2 (by omega) HR.out.2.2.2.1) (HC.out.on HX.out.low))
                clear hR hT
                go_wp2_with fail
                refine HM.out.mono ?_
                rintro en w3 ⟨rfl, hs⟩
                have HA2 := hid (show ∃ L, OutAt c w b n b2 w3 L by rw [HB2.out]; exact HX.out.fin HR.out.2.1 HR.out.2.2.1 (by have := HBB.out; omega) HT.out hs)
                clear hs
                go_wp2
                go_roundw
                case rel => exact ⟨b2, by have := HB2.out; omega, by first | rfl | go_num, hb2n, HA2⟩
                case measure => have := HB2.out; simp [intOf]; omega
              · have hmI : ¬ ((ma : Int) < (n : Int)) := by omega
                have HA2 := hid (show ∃ L, OutAt c w b n b2 wq L by rw [HB2.out]; exact ⟨_, HX.out.end_ (by have := HMA.out; omega)⟩)
                go_wp2
                go_roundw
                case rel => exact ⟨b2, by have := HB2.out; omega, by first | rfl | go_num, hb2n, HA2⟩
                case measure => have := HB2.out; simp [intOf]; omega
        · have hltI : ¬ ((bs : Int) < (n : Int)) := by omega
          have HFIN := hid (show ∃ L, Hid (Pc c 0 n L ∧ Below b w wp ∧ Nums wp b L) by
            obtain ⟨L, hL⟩ := HOut.out
            exact ⟨L, hL.bl.short (by omega), hL.low, hL.nums⟩)
          go_wp2
          exact bodyPost_end (v := .tuple #[]) (by simp [results, Tryz.results85, go_sem]) rfl ⟨rfl, HFIN.out⟩
end Go.Proofs.YtipmlcdnfaobiaaGreat
