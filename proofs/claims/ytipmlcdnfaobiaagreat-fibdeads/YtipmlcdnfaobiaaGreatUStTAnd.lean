/-
  The stable sort's merge of any two pieces: the other half.
  The stable sort's merge of any two pieces.
  The stable sort's merge, where the second piece is one number.
-/
import Derived.Test.YtipmlcdnfaobiaaGreatUStMAnd
namespace Go.Proofs.YtipmlcdnfaobiaaGreat
open Go.RowKit

set_option maxRecDepth 20000 in
set_option maxHeartbeats 4000000 in
theorem sym_last {c : Nat → Nat → Int} {w : World} {b n N cap cb a m e : Nat} {P X S D T : List Nat} {y : Nat} (hT : X ++ [y] = T) (h : SymIn c N w b n a m e P X [y] S D) (hC : Cmps w b N c cb) (hX1 : X.length ≠ 1) :
    Calls Tryz.prog 110 #[.slice (some ⟨b, 0, none⟩) n cap, .int .i64 a, .int .i64 m, .int .i64 e, clo cb] w fun en w' => en = .returned (.tuple #[]) ∧ Sorts c w b P T S w' := by
  have HT0 := hid hT
  have H := hid h
  have HC := hid hC
  have hent := Tryz.entOrd
  have mixed := Tryz.mixed
  obtain ⟨l1, l2, l3⟩ := h.leX
  have h62 := h.big
  have hem : e = m + 1 := h.e_.symm
  have HEM := hid hem
  obtain ⟨xl, hxl⟩ : ∃ xl, xl = m - a := ⟨_, rfl⟩
  have w1 : IntKind.i64.wrap ((m : Int) - (a : Int)) = (xl : Int) := by rw [IntKind.wrap_i64]; omega
  have hx1 : ((xl : Int) == 1) = false := by rw [beq_eq_false_iff_ne]; have := h.m_; omega
  have hx1' : ¬ ((xl : Int) = 1) := by have := h.m_; omega
  have w2 : IntKind.i64.wrap ((e : Int) - (m : Int)) = 1 := by rw [IntKind.wrap_i64]; omega
  clear h hC hem hxl hX1 hT
  go_enter Tryz.func110, Tryz.ntmps110
  go_wp2_with fail
  go_loopw [14, 15, 16] (fun vi vj _ wr => ∃ (i j : Nat), a ≤ i ∧ i ≤ j ∧ j ≤ m ∧ vi = .int .i64 i ∧ vj = .int .i64 j ∧ Hid (LastAt c w b D a m i j wr)) (fun vi vj _ _ => (intOf vj).toNat - (intOf vi).toNat)
  case atStart => exact ⟨a, m, Nat.le_refl _, l1, Nat.le_refl _, rfl, rfl, ⟨Below.refl _ _, H.out.nums, Or.inl rfl, Or.inl rfl⟩⟩
  case round =>
    obtain ⟨i, j, hai, hij, hjm, rfl, rfl, HR⟩ := hrel
    by_cases hlt : i < j
    · obtain ⟨hh, hhe⟩ : ∃ hh, hh = (i + j) / 2 := ⟨_, rfl⟩
      have HHE := hid hhe
      have q1 : ((i : Int) + (j : Int)) / 2 = (hh : Int) := by omega
      have hltI : (i : Int) < (j : Int) := by omega
      have b0 : (0 : Int) ≤ (hh : Int) := by omega
      have b1 : (hh : Int) < (n : Int) := by omega
      have b2 : (0 : Int) ≤ (m : Int) := by omega
      have b3 : (m : Int) < (n : Int) := by have := HEM.out; omega
      have d0 := HR.out.nums.cell (k := hh) (by rw [H.out.len]; omega)
      have d1 := HR.out.nums.cell (k := m) (by have := HEM.out; rw [H.out.len]; omega)
      have n0 := hid (H.out.atN (k := hh) (by omega) (by omega))
      have n1 := hid (H.out.atN (k := m) l1 (by have := HEM.out; omega))
      obtain ⟨x, hx⟩ : ∃ x, x = St.at_ D hh := ⟨_, rfl⟩
      obtain ⟨z, hz⟩ : ∃ z, z = St.at_ D m := ⟨_, rfl⟩
      have HYZ := hid (And.intro hx hz)
      rw [← hx] at d0 n0
      rw [← hz] at d1 n1
      have HCC := hid (fun (W : World) (h : Below wr.heap.size wr W) => HC.out W (HR.out.low.trans (h.mono (Nat.le_of_lt HR.out.nums.lt))) z x n1.out n0.out)
      clear hhe hx hz
      go_wp2_with fail
      go_region_held2 (fun W => W.cell? ⟨b, hh, none⟩ = some (.int .i64 (x : Int)) ∧ W.cell? ⟨b, m, none⟩ = some (.int .i64 (z : Int))) (first | exact ⟨d0, d1⟩ | exact hS2) (first | (go_at_call 65; refine (HCC.out _ (by first | exact Below.refl _ _ | exact (Below.refl _ _).drew)).mono ?_; rintro en w2 ⟨rfl, hb2⟩; have B2 := hid (show Below wr.heap.size wr w2 by (first | exact hb2 | exact undrew hb2)); have hS2 := And.intro ((B2.out.cell (by exact HR.out.nums.lt)).trans d0) ((B2.out.cell (by exact HR.out.nums.lt)).trans d1)))
      have N2 := hid (HR.out.nums.on B2.out)
      have L2 := hid (HR.out.low.trans (B2.out.mono (Nat.le_of_lt HR.out.nums.lt)))
      clear d0 d1
      have HNy := hid (fun hc : c z x < 0 => show LastAt c w b D a m i hh w2 from ⟨L2.out, N2.out, HR.out.lo, Or.inr (by rw [← HYZ.out.1, ← HYZ.out.2]; exact hc)⟩)
      have HNn := hid (fun hc : ¬ c z x < 0 => show LastAt c w b D a m (hh + 1) j w2 from ⟨L2.out, N2.out, Or.inr (by rw [Nat.add_sub_cancel, ← HYZ.out.1, ← HYZ.out.2]; exact hc), HR.out.hi⟩)
      go_wp2
      · rename_i hv
        have HN := hid (HNn.out (by simpa using hv))
        go_roundw
        case rel => exact ⟨hh + 1, j, by have := HHE.out; omega, by have := HHE.out; omega, hjm, by go_num, rfl, HN⟩
        case measure => have := HHE.out; simp [intOf]; omega
      · rename_i hv
        have HN := hid (HNy.out (by simpa using hv))
        go_roundw
        case rel => exact ⟨i, hh, hai, by have := HHE.out; omega, by have := HHE.out; omega, rfl, rfl, HN⟩
        case measure => have := HHE.out; simp [intOf]; omega
    · have hltI : ¬ ((i : Int) < (j : Int)) := by omega
      have hij2 : j = i := by omega
      subst hij2
      rename World => wo
      go_wp2_with fail
      go_loopw [17] (fun vk wr => ∃ k : Nat, j ≤ k ∧ k ≤ m ∧ vk = .int .i64 k ∧ Hid (Below b w wr ∧ ∃ A B, X = A ++ B ∧ (P ++ A).length = k ∧ Nums wr b ((P ++ A) ++ y :: (B ++ S)))) (fun vk _ => (intOf vk).toNat)
      case atStart => exact ⟨m, hjm, Nat.le_refl _, rfl, HR.out.low, X, [], by simp, by rw [List.length_append, H.out.a_]; exact H.out.m_, by have := HR.out.nums; rw [← H.out.d] at this; simpa using this⟩
      case round =>
        obtain ⟨k, hjk, hkm, rfl, HK⟩ := hrel
        by_cases hlt2 : j < k
        · have hkI : (j : Int) < (k : Int) := by omega
          obtain ⟨t, htk⟩ : ∃ t, k = t + 1 := ⟨k - 1, by omega⟩
          have HT := hid htk
          obtain ⟨A, x, B, HA⟩ : ∃ (A : List Nat) (x : Nat) (B : List Nat), Hid (X = (A ++ [x]) ++ B ∧ (P ++ A).length = t ∧ Nums wr b ((P ++ A) ++ x :: y :: (B ++ S))) := by
            obtain ⟨_, A, B, h1, h2, h3⟩ := HK.out
            have hP := H.out.a_
            rcases List.eq_nil_or_concat A with q | ⟨A', x, q⟩
            · exfalso; rw [q] at h2; simp at h2; omega
            · rw [List.concat_eq_append] at q
              exact ⟨A', x, B, by rw [← q]; exact h1, by rw [q] at h2; simp only [List.length_append, List.length_cons, List.length_nil] at h2 ⊢; omega, by rw [q] at h3; simpa using h3⟩
          have w3 : IntKind.i64.wrap ((k : Int) - 1) = (t : Int) := by rw [IntKind.wrap_i64]; omega
          have c0 : wr.cell? ⟨b, t, none⟩ = some (.int .i64 (x : Int)) := HA.out.2.2.at_ HA.out.2.1
          have c1 : wr.cell? ⟨b, k, none⟩ = some (.int .i64 (y : Int)) := Nums.at_ (U := (P ++ A) ++ [x]) (W := B ++ S) (by have := HA.out.2.2; simpa using this) (by rw [List.length_append, HA.out.2.1, htk]; rfl)
          have f0 := HA.out.2.2.free t
          have f1 := HA.out.2.2.free k
          obtain ⟨u, c2⟩ := HA.out.2.2.second k x (j := t) (by rw [List.length_append, HA.out.2.1]; simp)
          have b0 : (0 : Int) ≤ (t : Int) := by omega
          have b1 : (t : Int) < (n : Int) := by omega
          have b2 : (0 : Int) ≤ (k : Int) := by omega
          have b3 : (k : Int) < (n : Int) := by have := HEM.out; omega
          have HN3 := hid (show Below b w ((wr.setCell ⟨b, k, none⟩ (.int .i64 (x : Int))).setCell ⟨b, t, none⟩ (.int .i64 (y : Int))).drew ∧ ∃ A B, X = A ++ B ∧ (P ++ A).length = t ∧ Nums ((wr.setCell ⟨b, k, none⟩ (.int .i64 (x : Int))).setCell ⟨b, t, none⟩ (.int .i64 (y : Int))).drew b ((P ++ A) ++ y :: (B ++ S)) from by
            refine ⟨((HK.out.1.setCell (Nat.le_refl _) _).setCell (Nat.le_refl _) _).drew, A, x :: B, by rw [HA.out.1]; simp, HA.out.2.1, ?_⟩
            have := ((HA.out.2.2.set k x).set t y).drew
            rw [HT.out, St.swap_two' HA.out.2.1] at this
            rw [HT.out]
            simpa using this)
          clear htk
          go_wp2_with fail
          go_big_region_o
          generalize ((wr.setCell ⟨b, k, none⟩ (.int .i64 (x : Int))).setCell ⟨b, t, none⟩ (.int .i64 (y : Int))).drew = w3 at HN3 ⊢
          clear c0 c1 c2 f0 f1
          go_wp2
          go_roundw
          case rel => exact ⟨t, by have := HT.out; omega, by have := HT.out; omega, by first | rfl | go_num, HN3⟩
          case measure => have := HT.out; simp [intOf]; omega
        · have hkI : ¬ ((j : Int) < (k : Int)) := by omega
          have HF := hid (show Sorts c w b P T S wr by
            rw [← HT0.out]
            obtain ⟨h0, A, B, h1, h2, h3⟩ := HK.out
            have hP := H.out.a_
            rw [List.length_append] at h2
            refine ⟨h0, A ++ y :: B, sym_last_up H.out hai hjm HR.out.lo HR.out.hi h1 (by omega), ?_, by simpa using h3⟩
            rw [h1]
            exact List.perm_middle.trans (List.perm_append_singleton y (A ++ B)).symm)
          go_wp2
          exact bodyPost_ret (v := .tuple #[]) (by simp [results, Tryz.results110, go_sem]) rfl ⟨rfl, HF.out⟩
end Go.Proofs.YtipmlcdnfaobiaaGreat
namespace Go.Proofs.YtipmlcdnfaobiaaGreat
open Go.RowKit

/-- Where the search for the cut stands. -/
structure BigAt (c : Nat → Nat → Int) (w : World) (b : Nat) (D : List Nat) (nn s0 r0 s r : Nat) (w' : World) : Prop where
  low : Below b w w'
  nums : Nums w' b D
  lo : s = s0 ∨ ¬ c (St.at_ D (nn - s)) (St.at_ D (s - 1)) < 0
  hi : r = r0 ∨ c (St.at_ D (nn - 1 - r)) (St.at_ D r) < 0
/-- The cut that was found. -/
structure Cut (c : Nat → Nat → Int) (a m e mid s f : Nat) (X Y X1 X2 Y1 Y2 : List Nat) : Prop where
  x : X = X1 ++ X2
  y : Y = Y1 ++ Y2
  lx1 : a + X1.length = s
  lx2 : s + X2.length = m
  ly1 : m + Y1.length = f
  ly2 : f + Y2.length = e
  mid_ : mid + m = s + f
  lt : ∀ u ∈ X1 ++ Y1, ∀ v ∈ X2 ++ Y2, St.lt c u v
/-- Where the search begins, and where it ends. -/
def Ends (a m e mid nn s0 r0 : Nat) : Prop := (mid < m ∧ s0 = nn - e ∧ r0 = mid) ∨ (m ≤ mid ∧ s0 = a ∧ r0 = m)
theorem big_cut {c : Nat → Nat → Int} {w w' : World} {b n N a m e mid nn s0 r0 s f : Nat} {P X Y S D : List Nat} (h : SymIn c N w b n a m e P X Y S D) (hB : BigAt c w b D nn s0 r0 s s w') (hn : nn = mid + m) (hf : f = nn - s) (h1 : s0 ≤ s) (h2 : s ≤ r0) (h3 : mid = (a + e) / 2)
    (hq : Ends a m e mid nn s0 r0) (ha : a < m) (he : m < e) : ∃ X1 X2 Y1 Y2, Cut c a m e mid s f X Y X1 X2 Y1 Y2 := by
  have hb : a ≤ s ∧ s ≤ m ∧ m ≤ f ∧ f ≤ e := by rcases hq with ⟨_, q1, q2⟩ | ⟨_, q1, q2⟩ <;> omega
  obtain ⟨X1, X2, Y1, Y2, e1, e2, e3, e4, e5⟩ := h.ord.cut (s := s) (f := f) h.d h.a_ h.m_ h.e_ ⟨hb.1, hb.2.1⟩ ⟨hb.2.2.1, hb.2.2.2⟩ h.upX h.upY h.lt h.bound
    (by rcases hB.lo with q | q
        · rcases hq with ⟨_, q1, _⟩ | ⟨_, q1, _⟩
          · exact Or.inr (Or.inl (by omega))
          · exact Or.inl (by omega)
        · exact Or.inr (Or.inr (by rw [hf]; exact q)))
    (by rcases hB.hi with q | q
        · rcases hq with ⟨_, _, q1⟩ | ⟨_, _, q1⟩
          · exact Or.inr (Or.inl (by omega))
          · exact Or.inl (by omega)
        · exact Or.inr (Or.inr (by rw [hf, show nn - s - 1 = nn - 1 - s by omega]; exact q)))
  have l1 := h.m_
  have l2 := h.e_
  have l3 := congrArg List.length e1
  have l4 := congrArg List.length e2
  rw [List.length_append] at l3 l4
  exact ⟨X1, X2, Y1, Y2, e1, e2, by omega, by omega, by omega, by omega, by omega, e5⟩

section
variable {c : Nat → Nat → Int} {w w' w6 w7 w8 : World} {b n N a m e mid s f : Nat} {P X Y S D X1 X2 Y1 Y2 : List Nat}
theorem Cut.bound (k : Cut c a m e mid s f X Y X1 X2 Y1 Y2) (h : SymIn c N w b n a m e P X Y S D) : (∀ z ∈ X1 ++ Y1, z < N) ∧ (∀ z ∈ X2 ++ Y2, z < N) := by
  have hb := h.bound
  rw [k.x, k.y] at hb
  refine ⟨fun z hz => hb z ?_, fun z hz => hb z ?_⟩
  · rcases List.mem_append.1 hz with q | q <;> simp [q]
  · rcases List.mem_append.1 hz with q | q <;> simp [q]
theorem Cut.low (k : Cut c a m e mid s f X Y X1 X2 Y1 Y2) (h : SymIn c N w b n a m e P X Y S D) (hN : Nums w6 b (P ++ X1 ++ Y1 ++ (X2 ++ Y2 ++ S))) : SymIn c N w6 b n a s mid P X1 Y1 (X2 ++ Y2 ++ S) (P ++ X1 ++ Y1 ++ (X2 ++ Y2 ++ S)) := by
  have ux := h.upX
  have uy := h.upY
  have hl := h.lt
  have hd := h.len
  rw [k.x] at ux hl
  rw [k.y] at uy hl
  rw [← h.d, k.x, k.y] at hd
  have k1 := k.lx1; have k2 := k.lx2; have k3 := k.ly1; have k4 := k.ly2; have k5 := k.mid_
  refine ⟨h.ord, rfl, ?_, h.big, h.a_, k.lx1, by omega, (List.pairwise_append.1 ux).1, (List.pairwise_append.1 uy).1, fun x hx y hy => hl x (by simp [hx]) y (by simp [hy]), (k.bound h).1, hN⟩
  simp only [List.length_append] at hd ⊢
  omega
theorem Cut.high (k : Cut c a m e mid s f X Y X1 X2 Y1 Y2) (h : SymIn c N w b n a m e P X Y S D) {Z : List Nat} (hp : Z.Perm (X1 ++ Y1)) (hN : Nums w7 b (P ++ Z ++ (X2 ++ Y2 ++ S))) : SymIn c N w7 b n mid f e (P ++ Z) X2 Y2 S (P ++ Z ++ X2 ++ Y2 ++ S) := by
  have ux := h.upX
  have uy := h.upY
  have hl := h.lt
  have hd := h.len
  rw [k.x] at ux hl
  rw [k.y] at uy hl
  rw [← h.d, k.x, k.y] at hd
  have k1 := k.lx1; have k2 := k.lx2; have k3 := k.ly1; have k4 := k.ly2; have k5 := k.mid_
  have hz := hp.length_eq
  have ha := h.a_
  rw [List.length_append] at hz
  refine ⟨h.ord, rfl, ?_, h.big, by rw [List.length_append]; omega, by omega, k.ly2, (List.pairwise_append.1 ux).2.1, (List.pairwise_append.1 uy).2.1, fun x hx y hy => hl x (by simp [hx]) y (by simp [hy]), (k.bound h).2, by simpa using hN⟩
  simp only [List.length_append] at hd ⊢
  omega
theorem Cut.done (k : Cut c a m e mid s f X Y X1 X2 Y1 Y2) {T : List Nat} (hT : X ++ Y = T) (h6 : Below b w w6) {Z : List Nat} (h7 : Below b w6 w7) (hu : St.Up c Z) (hp : Z.Perm (X1 ++ Y1)) (h8 : Sorts c w7 b (P ++ Z) (X2 ++ Y2) S w8) : Sorts c w b P T S w8 := by
  obtain ⟨b8, Z2, u2, p2, n2⟩ := h8
  refine ⟨h6.trans (h7.trans b8), Z ++ Z2, St.up_two hu u2 (fun u q v r => k.lt u (hp.mem_iff.1 q) v (p2.mem_iff.1 r)), ?_, by simpa using n2⟩
  rw [← hT, k.x, k.y]
  refine (hp.append p2).trans ?_
  rw [List.append_assoc, List.append_assoc]
  refine List.Perm.append_left _ ?_
  rw [← List.append_assoc, ← List.append_assoc]
  exact List.perm_append_comm.append_right _
/-- A piece that is none, beside one that rises, rises. -/
theorem Cut.still1 (k : Cut c a m e mid s f X Y X1 X2 Y1 Y2) (h : SymIn c N w b n a m e P X Y S D) (h0 : a = s ∨ s = mid) (hN : Nums w6 b (P ++ X1 ++ Y1 ++ (X2 ++ Y2 ++ S))) : Sorts c w6 b P (X1 ++ Y1) (X2 ++ Y2 ++ S) w6 := by
  have i := k.low h hN
  have k1 := k.lx1; have k2 := i.e_
  refine ⟨Below.refl _ _, X1 ++ Y1, ?_, List.Perm.refl _, by simpa using hN⟩
  rcases h0 with q | q
  · have : X1 = [] := List.length_eq_zero_iff.1 (by omega)
    rw [this]; exact i.upY
  · have : Y1 = [] := List.length_eq_zero_iff.1 (by omega)
    rw [this, List.append_nil]; exact i.upX
theorem Cut.still2 (k : Cut c a m e mid s f X Y X1 X2 Y1 Y2) (h : SymIn c N w b n a m e P X Y S D) {Z : List Nat} (hp : Z.Perm (X1 ++ Y1)) (h0 : mid = f ∨ f = e) (hN : Nums w7 b (P ++ Z ++ (X2 ++ Y2 ++ S))) : Sorts c w7 b (P ++ Z) (X2 ++ Y2) S w7 := by
  have i := k.high h hp hN
  have k1 := i.m_; have k2 := k.ly2
  refine ⟨Below.refl _ _, X2 ++ Y2, ?_, List.Perm.refl _, by simpa using hN⟩
  rcases h0 with q | q
  · have : X2 = [] := List.length_eq_zero_iff.1 (by omega)
    rw [this]; exact i.upY
  · have : Y2 = [] := List.length_eq_zero_iff.1 (by omega)
    rw [this, List.append_nil]; exact i.upX
theorem Cut.unturned (k : Cut c a m e mid s f X Y X1 X2 Y1 Y2) (h : SymIn c N w b n a m e P X Y S D) (h0 : s = m ∨ m = f) (hN : Nums w6 b D) : Nums w6 b (P ++ X1 ++ Y1 ++ (X2 ++ Y2 ++ S)) := by
  have k1 := k.lx2; have k2 := k.ly1
  rw [← h.d, k.x, k.y] at hN
  rcases h0 with q | q
  · have : X2 = [] := List.length_eq_zero_iff.1 (by omega)
    rw [this] at hN ⊢; simpa using hN
  · have : Y1 = [] := List.length_eq_zero_iff.1 (by omega)
    rw [this] at hN ⊢; simpa using hN
end
/-- The contract of a merge of up to so many numbers. -/
def Merges (c : Nat → Nat → Int) (N b n cap cb k : Nat) : Prop := ∀ (w : World) (a m e : Nat) (P X Y S D T : List Nat), X.length + Y.length < k → X ≠ [] → Y ≠ [] → X ++ Y = T → SymIn c N w b n a m e P X Y S D → Cmps w b N c cb →
  Calls Tryz.prog 110 #[.slice (some ⟨b, 0, none⟩) n cap, .int .i64 a, .int .i64 m, .int .i64 e, clo cb] w fun en w' => en = .returned (.tuple #[]) ∧ Sorts c w b P T S w'

set_option maxRecDepth 20000 in
set_option maxHeartbeats 16000000 in
theorem sym_bigA {c : Nat → Nat → Int} {w : World} {b n N cap cb a m e : Nat} {P X Y S D T : List Nat} (hT : X ++ Y = T) (h : SymIn c N w b n a m e P X Y S D) (hC : Cmps w b N c cb) (hX1 : 2 ≤ X.length) (hY1 : 2 ≤ Y.length) (hI : Merges c N b n cap cb (X.length + Y.length)) (hq : (a + e) / 2 < m) :
    Calls Tryz.prog 110 #[.slice (some ⟨b, 0, none⟩) n cap, .int .i64 a, .int .i64 m, .int .i64 e, clo cb] w fun en w' => en = .returned (.tuple #[]) ∧ Sorts c w b P T S w' := by
  have HT0 := hid hT
  have H := hid h
  have HC := hid hC
  have HI := hid hI
  have hent := Tryz.entOrd
  obtain ⟨l1, l2, l3⟩ := h.leX
  have h62 := h.big
  have g1 : a + 2 ≤ m := by have := h.m_; omega
  have g2 : m + 2 ≤ e := by have := h.e_; omega
  have HXY := hid (show X.length + Y.length = e - a by have := h.m_; have := h.e_; omega)
  obtain ⟨xl, hxl⟩ : ∃ xl, xl = m - a := ⟨_, rfl⟩
  obtain ⟨yl, hyl⟩ : ∃ yl, yl = e - m := ⟨_, rfl⟩
  have w1 : IntKind.i64.wrap ((m : Int) - (a : Int)) = (xl : Int) := by rw [IntKind.wrap_i64]; omega
  have hx1 : ((xl : Int) == 1) = false := by rw [beq_eq_false_iff_ne]; omega
  have hx1' : ¬ ((xl : Int) = 1) := by omega
  have w2 : IntKind.i64.wrap ((e : Int) - (m : Int)) = (yl : Int) := by rw [IntKind.wrap_i64]; omega
  have hy1 : ((yl : Int) == 1) = false := by rw [beq_eq_false_iff_ne]; omega
  have hy1' : ¬ ((yl : Int) = 1) := by omega
  obtain ⟨mid, hmid⟩ : ∃ mid, mid = (a + e) / 2 := ⟨_, rfl⟩
  have q0 : ((a : Int) + (e : Int)) / 2 = (mid : Int) := by omega
  obtain ⟨nn, hnn⟩ : ∃ nn, nn = mid + m := ⟨_, rfl⟩
  have w3 : IntKind.i64.wrap ((mid : Int) + (m : Int)) = (nn : Int) := by rw [IntKind.wrap_i64]; omega
  have w3' : ((mid : Int) + (m : Int)) = (nn : Int) := by omega
  obtain ⟨pp, hpp⟩ : ∃ pp, pp = nn - 1 := ⟨_, rfl⟩
  have w4 : IntKind.i64.wrap ((nn : Int) - 1) = (pp : Int) := by rw [IntKind.wrap_i64]; omega
  have w4' : ((nn : Int) - 1) = (pp : Int) := by omega
  rw [← hmid] at hq
  have hmI : (mid : Int) < (m : Int) := by omega
  obtain ⟨s0, hs0⟩ : ∃ s0, s0 = nn - e := ⟨_, rfl⟩
  have w7 : IntKind.i64.wrap ((nn : Int) - (e : Int)) = (s0 : Int) := by rw [IntKind.wrap_i64]; omega
  have w7' : ((nn : Int) - (e : Int)) = (s0 : Int) := by omega
  have HQ := hid (show mid = (a + e) / 2 ∧ nn = mid + m ∧ pp = nn - 1 from ⟨hmid, hnn, hpp⟩)
  have HS := hid (show Ends a m e mid nn s0 mid from Or.inl ⟨hq, hs0, rfl⟩)
  have HZ := hid (show s0 ≤ mid ∧ a ≤ s0 ∧ mid ≤ m ∧ mid ≤ mid ∧ mid < e ∧ a < mid by omega)
  have z1 := HZ.out.1
  have z5 := HZ.out.2.2.2.2.1
  have z6 := HZ.out.2.2.2.2.2
  have z7 : mid ≤ n := by omega
  clear h hC hxl hyl hX1 hY1 hI hT hmid hnn hpp hs0 hq
  go_enter Tryz.func110, Tryz.ntmps110
  go_wp2_with fail
  go_loopw [20, 21, 23] (fun vs vr _ wr => ∃ (s r : Nat), s0 ≤ s ∧ s ≤ r ∧ r ≤ mid ∧ vs = .int .i64 s ∧ vr = .int .i64 r ∧ Hid (BigAt c w b D nn s0 mid s r wr)) (fun vs vr _ _ => (intOf vr).toNat - (intOf vs).toNat)
  case atStart => exact ⟨s0, mid, Nat.le_refl _, z1, Nat.le_refl _, by first | rfl | go_num, by first | rfl | go_num, ⟨Below.refl _ _, H.out.nums, Or.inl rfl, Or.inl rfl⟩⟩
  case round =>
    obtain ⟨s, r, hs, hsr, hr, rfl, rfl, HR⟩ := hrel
    have hzz := HZ.out
    have HRB := hid (show a ≤ s ∧ r ≤ m ∧ r ≤ mid from by omega)
    clear hzz
    by_cases hlt : s < r
    · obtain ⟨cc, hcc⟩ : ∃ cc, cc = (s + r) / 2 := ⟨_, rfl⟩
      have HHE := hid hcc
      have q1 : ((s : Int) + (r : Int)) / 2 = (cc : Int) := by omega
      have hltI : (s : Int) < (r : Int) := by omega
      obtain ⟨pc, hpc⟩ : ∃ pc, pc = pp - cc := ⟨_, rfl⟩
      have HPC := hid (show pc = nn - 1 - cc ∧ m ≤ pc ∧ pc < e from by
        obtain ⟨e1, e2, e3⟩ := HQ.out
        rcases HS.out with ⟨f1, f2, f3⟩ | ⟨f1, f2, f3⟩ <;> (refine ⟨by omega, by omega, by omega⟩))
      have w5 : IntKind.i64.wrap ((pp : Int) - (cc : Int)) = (pc : Int) := by rw [IntKind.wrap_i64]; have := HPC.out; have := HQ.out; omega
      have v1 : (cc : Int) ≤ (pp : Int) := by have := HPC.out; have := HQ.out; omega
      have v2 : (pp : Int) < (n : Int) + (cc : Int) := by have := HPC.out; have := HQ.out; omega
      have v3 : cc ≤ pp := by have := HPC.out; have := HQ.out; omega
      have v4 : pp < n + cc := by have := HPC.out; have := HQ.out; omega
      have v5 : ((pp : Int) - (cc : Int)).toNat = pc := by have := HPC.out; have := HQ.out; omega
      have b0 : (0 : Int) ≤ (cc : Int) := by omega
      have b1 : (cc : Int) < (n : Int) := by omega
      have b2 : (0 : Int) ≤ (pc : Int) := by omega
      have b3 : (pc : Int) < (n : Int) := by have := HPC.out; omega
      have d0 := HR.out.nums.cell (k := cc) (by rw [H.out.len]; omega)
      have d1 := HR.out.nums.cell (k := pc) (by have := HPC.out; rw [H.out.len]; omega)
      have n0 := hid (H.out.atN (k := cc) (by omega) (by omega))
      have n1 := hid (H.out.atN (k := pc) (by have := HPC.out; omega) (by have := HPC.out; omega))
      obtain ⟨x, hx⟩ : ∃ x, x = St.at_ D cc := ⟨_, rfl⟩
      obtain ⟨z, hz⟩ : ∃ z, z = St.at_ D pc := ⟨_, rfl⟩
      have HYZ := hid (And.intro hx hz)
      rw [← hx] at d0 n0
      rw [← hz] at d1 n1
      have HCC := hid (fun (W : World) (h : Below wr.heap.size wr W) => HC.out W (HR.out.low.trans (h.mono (Nat.le_of_lt HR.out.nums.lt))) z x n1.out n0.out)
      clear hcc hpc hx hz
      go_wp2_with fail
      go_region_held2 (fun W => W.cell? ⟨b, cc, none⟩ = some (.int .i64 (x : Int)) ∧ W.cell? ⟨b, pc, none⟩ = some (.int .i64 (z : Int))) (first | exact ⟨d0, d1⟩ | exact hS2) (first | (go_at_call 65; refine (HCC.out _ (by first | exact Below.refl _ _ | exact (Below.refl _ _).drew)).mono ?_; rintro en w2 ⟨rfl, hb2⟩; have B2 := hid (show Below wr.heap.size wr w2 by (first | exact hb2 | exact undrew hb2)); have hS2 := And.intro ((B2.out.cell (by exact HR.out.nums.lt)).trans d0) ((B2.out.cell (by exact HR.out.nums.lt)).trans d1)))
      have N2 := hid (HR.out.nums.on B2.out)
      have L2 := hid (HR.out.low.trans (B2.out.mono (Nat.le_of_lt HR.out.nums.lt)))
      clear d0 d1
      have HNy := hid (fun hc : c z x < 0 => show BigAt c w b D nn s0 mid s cc w2 from ⟨L2.out, N2.out, HR.out.lo, Or.inr (by rw [← HPC.out.1, ← HYZ.out.1, ← HYZ.out.2]; exact hc)⟩)
      have HNn := hid (fun hc : ¬ c z x < 0 => show BigAt c w b D nn s0 mid (cc + 1) r w2 from ⟨L2.out, N2.out, Or.inr (by rw [Nat.add_sub_cancel, show nn - (cc + 1) = nn - 1 - cc by omega, ← HPC.out.1, ← HYZ.out.1, ← HYZ.out.2]; exact hc), HR.out.hi⟩)
      go_wp2
      · rename_i hv
        have HN := hid (HNn.out (by simpa using hv))
        go_roundw
        case rel => exact ⟨cc + 1, r, by have := HHE.out; omega, by have := HHE.out; omega, hr, by go_num, rfl, HN⟩
        case measure => have := HHE.out; simp [intOf]; omega
      · rename_i hv
        have HN := hid (HNy.out (by simpa using hv))
        go_roundw
        case rel => exact ⟨s, cc, hs, by have := HHE.out; omega, by have := HHE.out; omega, rfl, rfl, HN⟩
        case measure => have := HHE.out; simp [intOf]; omega
    · have hltI : ¬ ((s : Int) < (r : Int)) := by omega
      have hsr2 : r = s := by omega
      subst hsr2
      rename_i hlt0
      obtain ⟨f, hf⟩ : ∃ f, f = nn - r := ⟨_, rfl⟩
      obtain ⟨X1, X2, Y1, Y2, hK⟩ := big_cut H.out HR.out HQ.out.2.1 hf hs hr HQ.out.1 HS.out (by omega) (by omega)
      have HK := hid hK
      have k1 := hK.lx1; have k2 := hK.lx2; have k3 := hK.ly1; have k4 := hK.ly2; have k5 := hK.mid_
      have w6 : IntKind.i64.wrap ((nn : Int) - (r : Int)) = (f : Int) := by rw [IntKind.wrap_i64]; have := HQ.out; omega
      have w6' : ((nn : Int) - (r : Int)) = (f : Int) := by have := HQ.out; omega
      have HLEN := hid (show X1.length = r - a ∧ X2.length = m - r ∧ Y1.length = f - m ∧ Y2.length = e - f from by omega)
      have j1 : a ≤ r := by omega
      have j2 : r ≤ m := by omega
      have j3 : m ≤ f := by omega
      have j4 : f ≤ e := by omega
      have HM := hid k5
      obtain ⟨T1, hT1⟩ : ∃ T1, T1 = X1 ++ Y1 := ⟨_, rfl⟩
      obtain ⟨T2, hT2⟩ : ∃ T2, T2 = X2 ++ Y2 := ⟨_, rfl⟩
      obtain ⟨S1, hS1⟩ : ∃ S1, S1 = X2 ++ Y2 ++ S := ⟨_, rfl⟩
      obtain ⟨D2, hD2⟩ : ∃ D2, D2 = P ++ X1 ++ Y1 ++ (X2 ++ Y2 ++ S) := ⟨_, rfl⟩
      have HTS := hid (show T1 = X1 ++ Y1 ∧ T2 = X2 ++ Y2 ∧ S1 = X2 ++ Y2 ++ S ∧ D2 = P ++ X1 ++ Y1 ++ (X2 ++ Y2 ++ S) from ⟨hT1, hT2, hS1, hD2⟩)
      have HROT := hid (fun (q1 : r < m) (q2 : m < f) => rotate_any (w := wr) (b := b) (n := n) (cap := cap) (cb := cb) (a := r) (m := m) (e := f) (P := P ++ X1) (X := X2) (Y := Y1) (S := Y2 ++ S) (T := D2) (by rw [hD2]; simp) (by have := HR.out.nums; rw [← H.out.d, hK.x, hK.y] at this; simpa using this) (by have := H.out.len; rw [← H.out.d, hK.x, hK.y] at this; simpa using this) h62 (by rw [List.length_append, H.out.a_]; omega) (by rw [List.length_append, List.length_append, H.out.a_]; omega) (by rw [List.length_append, List.length_append, List.length_append, H.out.a_]; omega) (fun q => by rw [q] at k2; simp at k2; omega) (fun q => by rw [q] at k3; simp at k3; omega))
      have HSTILL := hid (fun (q : r = m ∨ m = f) => show Nums wr b D2 by rw [hD2]; exact hK.unturned H.out q HR.out.nums)
      have HREC1 := hid (fun (W : World) (hb : Below b w W) (hN : Nums W b D2) (q1 : a < r) (q2 : r < mid) => HI.out W a r mid P X1 Y1 S1 D2 T1 (by rw [HXY.out]; omega) (fun q => by rw [q] at k1; simp at k1; omega) (fun q => by rw [q] at k3; simp at k3; omega) hT1.symm (by rw [hS1, hD2]; exact hK.low H.out (by rw [hD2] at hN; exact hN)) (HC.out.on hb))
      have HST1 := hid (fun (W : World) (hN : Nums W b D2) (q : a = r ∨ r = mid) => show Sorts c W b P T1 S1 W by rw [hT1, hS1]; exact hK.still1 H.out q (by rw [hD2] at hN; exact hN))
      have HREC2 := hid (fun (W V : World) (hb : Below b w V) (h7 : Sorts c V b P T1 S1 W) (q1 : mid < f) (q2 : f < e) => show ∃ Z, Below b V W ∧ St.Up c Z ∧ Z.Perm (X1 ++ Y1) ∧ Calls Tryz.prog 110 #[.slice (some ⟨b, 0, none⟩) n cap, .int .i64 mid, .int .i64 f, .int .i64 e, clo cb] W fun en w' => en = .returned (.tuple #[]) ∧ Sorts c W b (P ++ Z) T2 S w' from by
        obtain ⟨b7, Z, u, p, hN⟩ := h7
        rw [hT1] at p
        rw [hS1] at hN
        exact ⟨Z, b7, u, p, HI.out W mid f e (P ++ Z) X2 Y2 S _ T2 (by rw [HXY.out]; omega) (fun q => by rw [q] at k2; simp at k2; omega) (fun q => by rw [q] at k4; simp at k4; omega) hT2.symm (hK.high H.out p hN) (HC.out.on (hb.trans b7))⟩)
      have HEND2 := hid (fun (W V U : World) (Z : List Nat) (hb : Below b w V) (b7 : Below b V W) (u : St.Up c Z) (p : Z.Perm (X1 ++ Y1)) (h8 : Sorts c W b (P ++ Z) T2 S U) => show Sorts c w b P T S U by rw [hT2] at h8; exact hK.done HT0.out hb b7 u p h8)
      have HEND1 := hid (fun (W V : World) (hb : Below b w V) (h7 : Sorts c V b P T1 S1 W) (q : mid = f ∨ f = e) => show Sorts c w b P T S W by
        obtain ⟨b7, Z, u, p, hN⟩ := h7
        rw [hT1] at p
        rw [hS1] at hN
        exact hK.done HT0.out hb b7 u p (hK.still2 H.out p q hN))
      have HLOW := hid HR.out.low
      clear k1 k2 k3 k4 k5 hT1 hT2 hS1 hD2 hK hf
      have hm5 : mid + m = r + f := HM.out
      by_cases y1 : r < m
      · skip
        by_cases y2 : r < mid
        · skip
          by_cases y3 : a < r
          · skip
            by_cases y4 : f < e
            · skip
              have t1 : (r : Int) < (m : Int) := by omega
              have t2 : (m : Int) < (f : Int) := by omega
              have t3 : (a : Int) < (r : Int) := by omega
              have t4 : (r : Int) < (mid : Int) := by omega
              have t5 : (mid : Int) < (f : Int) := by omega
              have t6 : (f : Int) < (e : Int) := by omega
              go_wp2_with fail
              refine (HROT.out (by omega) (by omega)).mono ?_
              rintro en1 v6 ⟨rfl, hb6, hn6⟩
              have B6 := hid (HLOW.out.trans hb6)
              have N6 := hid hn6
              clear hb6 hn6
              go_wp2_with fail
              refine (HREC1.out _ B6.out N6.out (by omega) (by omega)).mono ?_
              rintro en2 v7 ⟨rfl, hs7⟩
              have S7 := hid hs7
              clear hs7
              go_wp2_with fail
              obtain ⟨Z, b7, u7, p7, c8⟩ := HREC2.out _ _ B6.out S7.out (by omega) (by omega)
              have HP7 := hid (And.intro b7 (And.intro u7 p7))
              have C8 := hid c8
              clear b7 u7 p7 c8
              refine C8.out.mono ?_
              rintro en3 v8 ⟨rfl, hs8⟩
              have S8 := hid (HEND2.out _ _ _ _ B6.out HP7.out.1 HP7.out.2.1 HP7.out.2.2 hs8)
              clear hs8
              go_wp2
              exact bodyPost_end (v := .tuple #[]) (by simp [results, Tryz.results110, go_sem]) rfl ⟨rfl, S8.out⟩
            · skip
              have t1 : (r : Int) < (m : Int) := by omega
              have t2 : (m : Int) < (f : Int) := by omega
              have t3 : (a : Int) < (r : Int) := by omega
              have t4 : (r : Int) < (mid : Int) := by omega
              have t5 : (mid : Int) < (f : Int) := by omega
              have t6 : ¬ ((f : Int) < (e : Int)) := by omega
              go_wp2_with fail
              refine (HROT.out (by omega) (by omega)).mono ?_
              rintro en1 v6 ⟨rfl, hb6, hn6⟩
              have B6 := hid (HLOW.out.trans hb6)
              have N6 := hid hn6
              clear hb6 hn6
              go_wp2_with fail
              refine (HREC1.out _ B6.out N6.out (by omega) (by omega)).mono ?_
              rintro en2 v7 ⟨rfl, hs7⟩
              have S7 := hid hs7
              clear hs7
              have S8 := hid (HEND1.out _ _ B6.out S7.out (by omega))
              go_wp2
              exact bodyPost_end (v := .tuple #[]) (by simp [results, Tryz.results110, go_sem]) rfl ⟨rfl, S8.out⟩
          · skip
            by_cases y4 : f < e
            · skip
              have t1 : (r : Int) < (m : Int) := by omega
              have t2 : (m : Int) < (f : Int) := by omega
              have t3 : ¬ ((a : Int) < (r : Int)) := by omega
              have t4 : (r : Int) < (mid : Int) := by omega
              have t5 : (mid : Int) < (f : Int) := by omega
              have t6 : (f : Int) < (e : Int) := by omega
              go_wp2_with fail
              refine (HROT.out (by omega) (by omega)).mono ?_
              rintro en1 v6 ⟨rfl, hb6, hn6⟩
              have B6 := hid (HLOW.out.trans hb6)
              have N6 := hid hn6
              clear hb6 hn6
              go_wp2_with fail
              have S7 := hid (HST1.out _ N6.out (by omega))
              obtain ⟨Z, b7, u7, p7, c8⟩ := HREC2.out _ _ B6.out S7.out (by omega) (by omega)
              have HP7 := hid (And.intro b7 (And.intro u7 p7))
              have C8 := hid c8
              clear b7 u7 p7 c8
              refine C8.out.mono ?_
              rintro en3 v8 ⟨rfl, hs8⟩
              have S8 := hid (HEND2.out _ _ _ _ B6.out HP7.out.1 HP7.out.2.1 HP7.out.2.2 hs8)
              clear hs8
              go_wp2
              exact bodyPost_end (v := .tuple #[]) (by simp [results, Tryz.results110, go_sem]) rfl ⟨rfl, S8.out⟩
            · skip
              have t1 : (r : Int) < (m : Int) := by omega
              have t2 : (m : Int) < (f : Int) := by omega
              have t3 : ¬ ((a : Int) < (r : Int)) := by omega
              have t4 : (r : Int) < (mid : Int) := by omega
              have t5 : (mid : Int) < (f : Int) := by omega
              have t6 : ¬ ((f : Int) < (e : Int)) := by omega
              go_wp2_with fail
              refine (HROT.out (by omega) (by omega)).mono ?_
              rintro en1 v6 ⟨rfl, hb6, hn6⟩
              have B6 := hid (HLOW.out.trans hb6)
              have N6 := hid hn6
              clear hb6 hn6
              have S7 := hid (HST1.out _ N6.out (by omega))
              have S8 := hid (HEND1.out _ _ B6.out S7.out (by omega))
              go_wp2
              exact bodyPost_end (v := .tuple #[]) (by simp [results, Tryz.results110, go_sem]) rfl ⟨rfl, S8.out⟩
        · skip
          by_cases y3 : a < r
          · skip
            by_cases y4 : f < e
            · skip
              have t1 : (r : Int) < (m : Int) := by omega
              have t2 : ¬ ((m : Int) < (f : Int)) := by omega
              have t3 : (a : Int) < (r : Int) := by omega
              have t4 : ¬ ((r : Int) < (mid : Int)) := by omega
              have t5 : (mid : Int) < (f : Int) := by omega
              have t6 : (f : Int) < (e : Int) := by omega
              go_wp2_with fail
              have B6 := hid HLOW.out
              have N6 := hid (HSTILL.out (by omega))
              have S7 := hid (HST1.out _ N6.out (by omega))
              obtain ⟨Z, b7, u7, p7, c8⟩ := HREC2.out _ _ B6.out S7.out (by omega) (by omega)
              have HP7 := hid (And.intro b7 (And.intro u7 p7))
              have C8 := hid c8
              clear b7 u7 p7 c8
              refine C8.out.mono ?_
              rintro en3 v8 ⟨rfl, hs8⟩
              have S8 := hid (HEND2.out _ _ _ _ B6.out HP7.out.1 HP7.out.2.1 HP7.out.2.2 hs8)
              clear hs8
              go_wp2
              exact bodyPost_end (v := .tuple #[]) (by simp [results, Tryz.results110, go_sem]) rfl ⟨rfl, S8.out⟩
            · skip
              exfalso
              have i1 := HRB.out
              have i2 := HZ.out
              have i3 := HM.out
              have i4 := HLEN.out
              omega
          · skip
            by_cases y4 : f < e
            · skip
              exfalso
              have i1 := HRB.out
              have i2 := HZ.out
              have i3 := HM.out
              have i4 := HLEN.out
              omega
            · skip
              exfalso
              have i1 := HRB.out
              have i2 := HZ.out
              have i3 := HM.out
              have i4 := HLEN.out
              omega
      · skip
        by_cases y2 : r < mid
        · skip
          by_cases y3 : a < r
          · skip
            by_cases y4 : f < e
            · skip
              exfalso
              have i1 := HRB.out
              have i2 := HZ.out
              have i3 := HM.out
              have i4 := HLEN.out
              omega
            · skip
              exfalso
              have i1 := HRB.out
              have i2 := HZ.out
              have i3 := HM.out
              have i4 := HLEN.out
              omega
          · skip
            by_cases y4 : f < e
            · skip
              exfalso
              have i1 := HRB.out
              have i2 := HZ.out
              have i3 := HM.out
              have i4 := HLEN.out
              omega
            · skip
              exfalso
              have i1 := HRB.out
              have i2 := HZ.out
              have i3 := HM.out
              have i4 := HLEN.out
              omega
        · skip
          by_cases y3 : a < r
          · skip
            by_cases y4 : f < e
            · skip
              exfalso
              have i1 := HRB.out
              have i2 := HZ.out
              have i3 := HM.out
              have i4 := HLEN.out
              omega
            · skip
              exfalso
              have i1 := HRB.out
              have i2 := HZ.out
              have i3 := HM.out
              have i4 := HLEN.out
              omega
          · skip
            by_cases y4 : f < e
            · skip
              exfalso
              have i1 := HRB.out
              have i2 := HZ.out
              have i3 := HM.out
              have i4 := HLEN.out
              omega
            · skip
              exfalso
              have i1 := HRB.out
              have i2 := HZ.out
              have i3 := HM.out
              have i4 := HLEN.out
              omega
end Go.Proofs.YtipmlcdnfaobiaaGreat
namespace Go.Proofs.YtipmlcdnfaobiaaGreat
open Go.RowKit

set_option maxRecDepth 20000 in
set_option maxHeartbeats 16000000 in
theorem sym_bigB {c : Nat → Nat → Int} {w : World} {b n N cap cb a m e : Nat} {P X Y S D T : List Nat} (hT : X ++ Y = T) (h : SymIn c N w b n a m e P X Y S D) (hC : Cmps w b N c cb) (hX1 : 2 ≤ X.length) (hY1 : 2 ≤ Y.length) (hI : Merges c N b n cap cb (X.length + Y.length)) (hq : m ≤ (a + e) / 2) :
    Calls Tryz.prog 110 #[.slice (some ⟨b, 0, none⟩) n cap, .int .i64 a, .int .i64 m, .int .i64 e, clo cb] w fun en w' => en = .returned (.tuple #[]) ∧ Sorts c w b P T S w' := by
  have HT0 := hid hT
  have H := hid h
  have HC := hid hC
  have HI := hid hI
  have hent := Tryz.entOrd
  obtain ⟨l1, l2, l3⟩ := h.leX
  have h62 := h.big
  have g1 : a + 2 ≤ m := by have := h.m_; omega
  have g2 : m + 2 ≤ e := by have := h.e_; omega
  have HXY := hid (show X.length + Y.length = e - a by have := h.m_; have := h.e_; omega)
  obtain ⟨xl, hxl⟩ : ∃ xl, xl = m - a := ⟨_, rfl⟩
  obtain ⟨yl, hyl⟩ : ∃ yl, yl = e - m := ⟨_, rfl⟩
  have w1 : IntKind.i64.wrap ((m : Int) - (a : Int)) = (xl : Int) := by rw [IntKind.wrap_i64]; omega
  have hx1 : ((xl : Int) == 1) = false := by rw [beq_eq_false_iff_ne]; omega
  have hx1' : ¬ ((xl : Int) = 1) := by omega
  have w2 : IntKind.i64.wrap ((e : Int) - (m : Int)) = (yl : Int) := by rw [IntKind.wrap_i64]; omega
  have hy1 : ((yl : Int) == 1) = false := by rw [beq_eq_false_iff_ne]; omega
  have hy1' : ¬ ((yl : Int) = 1) := by omega
  obtain ⟨mid, hmid⟩ : ∃ mid, mid = (a + e) / 2 := ⟨_, rfl⟩
  have q0 : ((a : Int) + (e : Int)) / 2 = (mid : Int) := by omega
  obtain ⟨nn, hnn⟩ : ∃ nn, nn = mid + m := ⟨_, rfl⟩
  have w3 : IntKind.i64.wrap ((mid : Int) + (m : Int)) = (nn : Int) := by rw [IntKind.wrap_i64]; omega
  have w3' : ((mid : Int) + (m : Int)) = (nn : Int) := by omega
  obtain ⟨pp, hpp⟩ : ∃ pp, pp = nn - 1 := ⟨_, rfl⟩
  have w4 : IntKind.i64.wrap ((nn : Int) - 1) = (pp : Int) := by rw [IntKind.wrap_i64]; omega
  have w4' : ((nn : Int) - 1) = (pp : Int) := by omega
  rw [← hmid] at hq
  have hmI : ¬ ((mid : Int) < (m : Int)) := by omega
  have HQ := hid (show mid = (a + e) / 2 ∧ nn = mid + m ∧ pp = nn - 1 from ⟨hmid, hnn, hpp⟩)
  have HS := hid (show Ends a m e mid nn a m from Or.inr ⟨hq, rfl, rfl⟩)
  have HZ := hid (show a ≤ m ∧ a ≤ a ∧ m ≤ m ∧ m ≤ mid ∧ mid < e ∧ a < mid by omega)
  have z1 := HZ.out.1
  have z5 := HZ.out.2.2.2.2.1
  have z6 := HZ.out.2.2.2.2.2
  have z7 : mid ≤ n := by omega
  clear h hC hxl hyl hX1 hY1 hI hT hmid hnn hpp  hq
  go_enter Tryz.func110, Tryz.ntmps110
  go_wp2_with fail
  go_loopw [20, 21, 23] (fun vs vr _ wr => ∃ (s r : Nat), a ≤ s ∧ s ≤ r ∧ r ≤ m ∧ vs = .int .i64 s ∧ vr = .int .i64 r ∧ Hid (BigAt c w b D nn a m s r wr)) (fun vs vr _ _ => (intOf vr).toNat - (intOf vs).toNat)
  case atStart => exact ⟨a, m, Nat.le_refl _, z1, Nat.le_refl _, by first | rfl | go_num, by first | rfl | go_num, ⟨Below.refl _ _, H.out.nums, Or.inl rfl, Or.inl rfl⟩⟩
  case round =>
    obtain ⟨s, r, hs, hsr, hr, rfl, rfl, HR⟩ := hrel
    have hzz := HZ.out
    have HRB := hid (show a ≤ s ∧ r ≤ m ∧ r ≤ mid from by omega)
    clear hzz
    by_cases hlt : s < r
    · obtain ⟨cc, hcc⟩ : ∃ cc, cc = (s + r) / 2 := ⟨_, rfl⟩
      have HHE := hid hcc
      have q1 : ((s : Int) + (r : Int)) / 2 = (cc : Int) := by omega
      have hltI : (s : Int) < (r : Int) := by omega
      obtain ⟨pc, hpc⟩ : ∃ pc, pc = pp - cc := ⟨_, rfl⟩
      have HPC := hid (show pc = nn - 1 - cc ∧ m ≤ pc ∧ pc < e from by
        obtain ⟨e1, e2, e3⟩ := HQ.out
        rcases HS.out with ⟨f1, f2, f3⟩ | ⟨f1, f2, f3⟩ <;> (refine ⟨by omega, by omega, by omega⟩))
      have w5 : IntKind.i64.wrap ((pp : Int) - (cc : Int)) = (pc : Int) := by rw [IntKind.wrap_i64]; have := HPC.out; have := HQ.out; omega
      have v1 : (cc : Int) ≤ (pp : Int) := by have := HPC.out; have := HQ.out; omega
      have v2 : (pp : Int) < (n : Int) + (cc : Int) := by have := HPC.out; have := HQ.out; omega
      have v3 : cc ≤ pp := by have := HPC.out; have := HQ.out; omega
      have v4 : pp < n + cc := by have := HPC.out; have := HQ.out; omega
      have v5 : ((pp : Int) - (cc : Int)).toNat = pc := by have := HPC.out; have := HQ.out; omega
      have b0 : (0 : Int) ≤ (cc : Int) := by omega
      have b1 : (cc : Int) < (n : Int) := by omega
      have b2 : (0 : Int) ≤ (pc : Int) := by omega
      have b3 : (pc : Int) < (n : Int) := by have := HPC.out; omega
      have d0 := HR.out.nums.cell (k := cc) (by rw [H.out.len]; omega)
      have d1 := HR.out.nums.cell (k := pc) (by have := HPC.out; rw [H.out.len]; omega)
      have n0 := hid (H.out.atN (k := cc) (by omega) (by omega))
      have n1 := hid (H.out.atN (k := pc) (by have := HPC.out; omega) (by have := HPC.out; omega))
      obtain ⟨x, hx⟩ : ∃ x, x = St.at_ D cc := ⟨_, rfl⟩
      obtain ⟨z, hz⟩ : ∃ z, z = St.at_ D pc := ⟨_, rfl⟩
      have HYZ := hid (And.intro hx hz)
      rw [← hx] at d0 n0
      rw [← hz] at d1 n1
      have HCC := hid (fun (W : World) (h : Below wr.heap.size wr W) => HC.out W (HR.out.low.trans (h.mono (Nat.le_of_lt HR.out.nums.lt))) z x n1.out n0.out)
      clear hcc hpc hx hz
      go_wp2_with fail
      go_region_held2 (fun W => W.cell? ⟨b, cc, none⟩ = some (.int .i64 (x : Int)) ∧ W.cell? ⟨b, pc, none⟩ = some (.int .i64 (z : Int))) (first | exact ⟨d0, d1⟩ | exact hS2) (first | (go_at_call 65; refine (HCC.out _ (by first | exact Below.refl _ _ | exact (Below.refl _ _).drew)).mono ?_; rintro en w2 ⟨rfl, hb2⟩; have B2 := hid (show Below wr.heap.size wr w2 by (first | exact hb2 | exact undrew hb2)); have hS2 := And.intro ((B2.out.cell (by exact HR.out.nums.lt)).trans d0) ((B2.out.cell (by exact HR.out.nums.lt)).trans d1)))
      have N2 := hid (HR.out.nums.on B2.out)
      have L2 := hid (HR.out.low.trans (B2.out.mono (Nat.le_of_lt HR.out.nums.lt)))
      clear d0 d1
      have HNy := hid (fun hc : c z x < 0 => show BigAt c w b D nn a m s cc w2 from ⟨L2.out, N2.out, HR.out.lo, Or.inr (by rw [← HPC.out.1, ← HYZ.out.1, ← HYZ.out.2]; exact hc)⟩)
      have HNn := hid (fun hc : ¬ c z x < 0 => show BigAt c w b D nn a m (cc + 1) r w2 from ⟨L2.out, N2.out, Or.inr (by rw [Nat.add_sub_cancel, show nn - (cc + 1) = nn - 1 - cc by omega, ← HPC.out.1, ← HYZ.out.1, ← HYZ.out.2]; exact hc), HR.out.hi⟩)
      go_wp2
      · rename_i hv
        have HN := hid (HNn.out (by simpa using hv))
        go_roundw
        case rel => exact ⟨cc + 1, r, by have := HHE.out; omega, by have := HHE.out; omega, hr, by go_num, rfl, HN⟩
        case measure => have := HHE.out; simp [intOf]; omega
      · rename_i hv
        have HN := hid (HNy.out (by simpa using hv))
        go_roundw
        case rel => exact ⟨s, cc, hs, by have := HHE.out; omega, by have := HHE.out; omega, rfl, rfl, HN⟩
        case measure => have := HHE.out; simp [intOf]; omega
    · have hltI : ¬ ((s : Int) < (r : Int)) := by omega
      have hsr2 : r = s := by omega
      subst hsr2
      rename_i hlt0
      obtain ⟨f, hf⟩ : ∃ f, f = nn - r := ⟨_, rfl⟩
      obtain ⟨X1, X2, Y1, Y2, hK⟩ := big_cut H.out HR.out HQ.out.2.1 hf hs hr HQ.out.1 HS.out (by omega) (by omega)
      have HK := hid hK
      have k1 := hK.lx1; have k2 := hK.lx2; have k3 := hK.ly1; have k4 := hK.ly2; have k5 := hK.mid_
      have w6 : IntKind.i64.wrap ((nn : Int) - (r : Int)) = (f : Int) := by rw [IntKind.wrap_i64]; have := HQ.out; omega
      have w6' : ((nn : Int) - (r : Int)) = (f : Int) := by have := HQ.out; omega
      have HLEN := hid (show X1.length = r - a ∧ X2.length = m - r ∧ Y1.length = f - m ∧ Y2.length = e - f from by omega)
      have j1 : a ≤ r := by omega
      have j2 : r ≤ m := by omega
      have j3 : m ≤ f := by omega
      have j4 : f ≤ e := by omega
      have HM := hid k5
      obtain ⟨T1, hT1⟩ : ∃ T1, T1 = X1 ++ Y1 := ⟨_, rfl⟩
      obtain ⟨T2, hT2⟩ : ∃ T2, T2 = X2 ++ Y2 := ⟨_, rfl⟩
      obtain ⟨S1, hS1⟩ : ∃ S1, S1 = X2 ++ Y2 ++ S := ⟨_, rfl⟩
      obtain ⟨D2, hD2⟩ : ∃ D2, D2 = P ++ X1 ++ Y1 ++ (X2 ++ Y2 ++ S) := ⟨_, rfl⟩
      have HTS := hid (show T1 = X1 ++ Y1 ∧ T2 = X2 ++ Y2 ∧ S1 = X2 ++ Y2 ++ S ∧ D2 = P ++ X1 ++ Y1 ++ (X2 ++ Y2 ++ S) from ⟨hT1, hT2, hS1, hD2⟩)
      have HROT := hid (fun (q1 : r < m) (q2 : m < f) => rotate_any (w := wr) (b := b) (n := n) (cap := cap) (cb := cb) (a := r) (m := m) (e := f) (P := P ++ X1) (X := X2) (Y := Y1) (S := Y2 ++ S) (T := D2) (by rw [hD2]; simp) (by have := HR.out.nums; rw [← H.out.d, hK.x, hK.y] at this; simpa using this) (by have := H.out.len; rw [← H.out.d, hK.x, hK.y] at this; simpa using this) h62 (by rw [List.length_append, H.out.a_]; omega) (by rw [List.length_append, List.length_append, H.out.a_]; omega) (by rw [List.length_append, List.length_append, List.length_append, H.out.a_]; omega) (fun q => by rw [q] at k2; simp at k2; omega) (fun q => by rw [q] at k3; simp at k3; omega))
      have HSTILL := hid (fun (q : r = m ∨ m = f) => show Nums wr b D2 by rw [hD2]; exact hK.unturned H.out q HR.out.nums)
      have HREC1 := hid (fun (W : World) (hb : Below b w W) (hN : Nums W b D2) (q1 : a < r) (q2 : r < mid) => HI.out W a r mid P X1 Y1 S1 D2 T1 (by rw [HXY.out]; omega) (fun q => by rw [q] at k1; simp at k1; omega) (fun q => by rw [q] at k3; simp at k3; omega) hT1.symm (by rw [hS1, hD2]; exact hK.low H.out (by rw [hD2] at hN; exact hN)) (HC.out.on hb))
      have HST1 := hid (fun (W : World) (hN : Nums W b D2) (q : a = r ∨ r = mid) => show Sorts c W b P T1 S1 W by rw [hT1, hS1]; exact hK.still1 H.out q (by rw [hD2] at hN; exact hN))
      have HREC2 := hid (fun (W V : World) (hb : Below b w V) (h7 : Sorts c V b P T1 S1 W) (q1 : mid < f) (q2 : f < e) => show ∃ Z, Below b V W ∧ St.Up c Z ∧ Z.Perm (X1 ++ Y1) ∧ Calls Tryz.prog 110 #[.slice (some ⟨b, 0, none⟩) n cap, .int .i64 mid, .int .i64 f, .int .i64 e, clo cb] W fun en w' => en = .returned (.tuple #[]) ∧ Sorts c W b (P ++ Z) T2 S w' from by
        obtain ⟨b7, Z, u, p, hN⟩ := h7
        rw [hT1] at p
        rw [hS1] at hN
        exact ⟨Z, b7, u, p, HI.out W mid f e (P ++ Z) X2 Y2 S _ T2 (by rw [HXY.out]; omega) (fun q => by rw [q] at k2; simp at k2; omega) (fun q => by rw [q] at k4; simp at k4; omega) hT2.symm (hK.high H.out p hN) (HC.out.on (hb.trans b7))⟩)
      have HEND2 := hid (fun (W V U : World) (Z : List Nat) (hb : Below b w V) (b7 : Below b V W) (u : St.Up c Z) (p : Z.Perm (X1 ++ Y1)) (h8 : Sorts c W b (P ++ Z) T2 S U) => show Sorts c w b P T S U by rw [hT2] at h8; exact hK.done HT0.out hb b7 u p h8)
      have HEND1 := hid (fun (W V : World) (hb : Below b w V) (h7 : Sorts c V b P T1 S1 W) (q : mid = f ∨ f = e) => show Sorts c w b P T S W by
        obtain ⟨b7, Z, u, p, hN⟩ := h7
        rw [hT1] at p
        rw [hS1] at hN
        exact hK.done HT0.out hb b7 u p (hK.still2 H.out p q hN))
      have HLOW := hid HR.out.low
      clear k1 k2 k3 k4 k5 hT1 hT2 hS1 hD2 hK hf
      have hm5 : mid + m = r + f := HM.out
      by_cases y1 : r < m
      · skip
        by_cases y2 : r < mid
        · skip
          by_cases y3 : a < r
          · skip
            by_cases y4 : f < e
            · skip
              have t1 : (r : Int) < (m : Int) := by omega
              have t2 : (m : Int) < (f : Int) := by omega
              have t3 : (a : Int) < (r : Int) := by omega
              have t4 : (r : Int) < (mid : Int) := by omega
              have t5 : (mid : Int) < (f : Int) := by omega
              have t6 : (f : Int) < (e : Int) := by omega
              go_wp2_with fail
              refine (HROT.out (by omega) (by omega)).mono ?_
              rintro en1 v6 ⟨rfl, hb6, hn6⟩
              have B6 := hid (HLOW.out.trans hb6)
              have N6 := hid hn6
              clear hb6 hn6
              go_wp2_with fail
              refine (HREC1.out _ B6.out N6.out (by omega) (by omega)).mono ?_
              rintro en2 v7 ⟨rfl, hs7⟩
              have S7 := hid hs7
              clear hs7
              go_wp2_with fail
              obtain ⟨Z, b7, u7, p7, c8⟩ := HREC2.out _ _ B6.out S7.out (by omega) (by omega)
              have HP7 := hid (And.intro b7 (And.intro u7 p7))
              have C8 := hid c8
              clear b7 u7 p7 c8
              refine C8.out.mono ?_
              rintro en3 v8 ⟨rfl, hs8⟩
              have S8 := hid (HEND2.out _ _ _ _ B6.out HP7.out.1 HP7.out.2.1 HP7.out.2.2 hs8)
              clear hs8
              go_wp2
              exact bodyPost_end (v := .tuple #[]) (by simp [results, Tryz.results110, go_sem]) rfl ⟨rfl, S8.out⟩
            · skip
              have t1 : (r : Int) < (m : Int) := by omega
              have t2 : (m : Int) < (f : Int) := by omega
              have t3 : (a : Int) < (r : Int) := by omega
              have t4 : (r : Int) < (mid : Int) := by omega
              have t5 : (mid : Int) < (f : Int) := by omega
              have t6 : ¬ ((f : Int) < (e : Int)) := by omega
              go_wp2_with fail
              refine (HROT.out (by omega) (by omega)).mono ?_
              rintro en1 v6 ⟨rfl, hb6, hn6⟩
              have B6 := hid (HLOW.out.trans hb6)
              have N6 := hid hn6
              clear hb6 hn6
              go_wp2_with fail
              refine (HREC1.out _ B6.out N6.out (by omega) (by omega)).mono ?_
              rintro en2 v7 ⟨rfl, hs7⟩
              have S7 := hid hs7
              clear hs7
              have S8 := hid (HEND1.out _ _ B6.out S7.out (by omega))
              go_wp2
              exact bodyPost_end (v := .tuple #[]) (by simp [results, Tryz.results110, go_sem]) rfl ⟨rfl, S8.out⟩
          · skip
            by_cases y4 : f < e
            · skip
              have t1 : (r : Int) < (m : Int) := by omega
              have t2 : (m : Int) < (f : Int) := by omega
              have t3 : ¬ ((a : Int) < (r : Int)) := by omega
              have t4 : (r : Int) < (mid : Int) := by omega
              have t5 : (mid : Int) < (f : Int) := by omega
              have t6 : (f : Int) < (e : Int) := by omega
              go_wp2_with fail
              refine (HROT.out (by omega) (by omega)).mono ?_
              rintro en1 v6 ⟨rfl, hb6, hn6⟩
              have B6 := hid (HLOW.out.trans hb6)
              have N6 := hid hn6
              clear hb6 hn6
              go_wp2_with fail
              have S7 := hid (HST1.out _ N6.out (by omega))
              obtain ⟨Z, b7, u7, p7, c8⟩ := HREC2.out _ _ B6.out S7.out (by omega) (by omega)
              have HP7 := hid (And.intro b7 (And.intro u7 p7))
              have C8 := hid c8
              clear b7 u7 p7 c8
              refine C8.out.mono ?_
              rintro en3 v8 ⟨rfl, hs8⟩
              have S8 := hid (HEND2.out _ _ _ _ B6.out HP7.out.1 HP7.out.2.1 HP7.out.2.2 hs8)
              clear hs8
              go_wp2
              exact bodyPost_end (v := .tuple #[]) (by simp [results, Tryz.results110, go_sem]) rfl ⟨rfl, S8.out⟩
            · skip
              have t1 : (r : Int) < (m : Int) := by omega
              have t2 : (m : Int) < (f : Int) := by omega
              have t3 : ¬ ((a : Int) < (r : Int)) := by omega
              have t4 : (r : Int) < (mid : Int) := by omega
              have t5 : (mid : Int) < (f : Int) := by omega
              have t6 : ¬ ((f : Int) < (e : Int)) := by omega
              go_wp2_with fail
              refine (HROT.out (by omega) (by omega)).mono ?_
              rintro en1 v6 ⟨rfl, hb6, hn6⟩
              have B6 := hid (HLOW.out.trans hb6)
              have N6 := hid hn6
              clear hb6 hn6
              have S7 := hid (HST1.out _ N6.out (by omega))
              have S8 := hid (HEND1.out _ _ B6.out S7.out (by omega))
              go_wp2
              exact bodyPost_end (v := .tuple #[]) (by simp [results, Tryz.results110, go_sem]) rfl ⟨rfl, S8.out⟩
        · skip
          by_cases y3 : a < r
          · skip
            by_cases y4 : f < e
            · skip
              exfalso
              have i1 := HRB.out
              have i2 := HZ.out
              have i3 := HM.out
              have i4 := HLEN.out
              omega
            · skip
              exfalso
              have i1 := HRB.out
              have i2 := HZ.out
              have i3 := HM.out
              have i4 := HLEN.out
              omega
          · skip
            by_cases y4 : f < e
            · skip
              exfalso
              have i1 := HRB.out
              have i2 := HZ.out
              have i3 := HM.out
              have i4 := HLEN.out
              omega
            · skip
              exfalso
              have i1 := HRB.out
              have i2 := HZ.out
              have i3 := HM.out
              have i4 := HLEN.out
              omega
      · skip
        by_cases y2 : r < mid
        · skip
          by_cases y3 : a < r
          · skip
            by_cases y4 : f < e
            · skip
              have t1 : ¬ ((r : Int) < (m : Int)) := by omega
              have t2 : (m : Int) < (f : Int) := by omega
              have t3 : (a : Int) < (r : Int) := by omega
              have t4 : (r : Int) < (mid : Int) := by omega
              have t5 : ¬ ((mid : Int) < (f : Int)) := by omega
              have t6 : (f : Int) < (e : Int) := by omega
              go_wp2_with fail
              have B6 := hid HLOW.out
              have N6 := hid (HSTILL.out (by omega))
              refine (HREC1.out _ B6.out N6.out (by omega) (by omega)).mono ?_
              rintro en2 v7 ⟨rfl, hs7⟩
              have S7 := hid hs7
              clear hs7
              have S8 := hid (HEND1.out _ _ B6.out S7.out (by omega))
              go_wp2
              exact bodyPost_end (v := .tuple #[]) (by simp [results, Tryz.results110, go_sem]) rfl ⟨rfl, S8.out⟩
            · skip
              exfalso
              have i1 := HRB.out
              have i2 := HZ.out
              have i3 := HM.out
              have i4 := HLEN.out
              omega
          · skip
            by_cases y4 : f < e
            · skip
              exfalso
              have i1 := HRB.out
              have i2 := HZ.out
              have i3 := HM.out
              have i4 := HLEN.out
              omega
            · skip
              exfalso
              have i1 := HRB.out
              have i2 := HZ.out
              have i3 := HM.out
              have i4 := HLEN.out
              omega
        · skip
          by_cases y3 : a < r
          · skip
            by_cases y4 : f < e
            · skip
              have t1 : ¬ ((r : Int) < (m : Int)) := by omega
              have t2 : ¬ ((m : Int) < (f : Int)) := by omega
              have t3 : (a : Int) < (r : Int) := by omega
              have t4 : ¬ ((r : Int) < (mid : Int)) := by omega
              have t5 : ¬ ((mid : Int) < (f : Int)) := by omega
              have t6 : (f : Int) < (e : Int) := by omega
              go_wp2_with fail
              have B6 := hid HLOW.out
              have N6 := hid (HSTILL.out (by omega))
              have S7 := hid (HST1.out _ N6.out (by omega))
              have S8 := hid (HEND1.out _ _ B6.out S7.out (by omega))
              exact bodyPost_end (v := .tuple #[]) (by simp [results, Tryz.results110, go_sem]) rfl ⟨rfl, S8.out⟩
            · skip
              exfalso
              have i1 := HRB.out
              have i2 := HZ.out
              have i3 := HM.out
              have i4 := HLEN.out
              omega
          · skip
            by_cases y4 : f < e
            · skip
              exfalso
              have i1 := HRB.out
              have i2 := HZ.out
              have i3 := HM.out
              have i4 := HLEN.out
              omega
            · skip
              exfalso
              have i1 := HRB.out
              have i2 := HZ.out
              have i3 := HM.out
              have i4 := HLEN.out
              omega
end Go.Proofs.YtipmlcdnfaobiaaGreat
