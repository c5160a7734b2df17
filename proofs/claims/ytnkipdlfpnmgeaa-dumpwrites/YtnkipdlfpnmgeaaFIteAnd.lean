/-
  shrink: behind the first nodes, what one needs is left.
  orderOf of one node; root, List, Size of a ref that is told; two lists that are the same.
  nodes: the walk.
  ite where there may be no room: of any three numbers.
-/
import Derived.Test.YtnkipdlfpnmgeaaBDropAAnd
import Derived.Laws.Cover1
import Derived.Deep.RegionHeld2
import Derived.Test.YtnkipdlfpnmgeaaBFoldAnd
import Derived.Test.YtnkipdlfpnmgeaaBTellAnd
namespace Go.Proofs.Ytnkipdlfpnmgeaa
open Go.RowKit Go.Maps
open Bd (Nd)

set_option maxRecDepth 2000 in
set_option maxHeartbeats 4000000 in
theorem ite_miss2 {n M : Nat} (ih : iteSpec2 n) {w : World} {y : Lay} {s : St} (A : Bd.Fam s.bits M) (hT : Tab w y s) (hW : Bd.Within A s.L) (sb room kb : Nat) (hS : StepAt w sb y.tb room kb) (hns : ¬ y.own sb) (hnk : ¬ y.own kb) (hr3 : room ≤ 1073741824) (hbM : s.bits * M ≤ 1048576)
    (sz : Nat) (kf : Value → Option Int) (hM : MapOf Try.prog 99 3 w kb sz kf) (hK : KnownOk s.L kf) (a b c kk : Nat) (ha : a < s.L.length + 2) (hb : b < s.L.length + 2) (hc : c < s.L.length + 2)
    (hka : kk ≤ Bd.bitOf s.L a) (hkb : kk ≤ Bd.bitOf s.L b) (hkc : kk ≤ Bd.bitOf s.L c) (hF : A.F kk (Bd.iteF (Bd.den s.L a) (Bd.den s.L b) (Bd.den s.L c))) (hn : 128 - kk ≤ n + 1)
    (ha2 : 2 ≤ a) (hbc : b ≠ c) (hq : ¬ (b = 1 ∧ c = 0)) (hv : kf (arV a b c) = none) :
    Calls Try.prog 76 #[.pointer (some ⟨sb, 0, none⟩), .agg #[i6 a, i6 b, i6 c]] w fun e w' => (∃ r, e = .returned (i6 r) ∧ IteL A w y s room kb w' r (Bd.iteF (Bd.den s.L a) (Bd.den s.L b) (Bd.den s.L c))) ∨ (e = .panicked noRoom ∧ Full (fun k => k = kb) A w y s room w') := by
  have hsm := hT.small.1
  obtain ⟨kl, hkl⟩ := key_arr (a := a) (b := b) (c := c) (by omega) (by omega) (by omega)
  have hlook : ∀ n o, (Instr.lookup 131 (.map (some kb)) (.agg #[.int .i64 a, .int .i64 b, .int .i64 c]) true).run Try.prog ((w.alloc o).drewN n) = .ok (.tuple #[.int .i64 0, .bool false]) ((w.alloc o).drewN n) := by
    intro n o
    have := MapOf.look (w := (w.alloc o).drewN n) (hM.same ((boxedN w o n).block _ hM.lt)) kArr Try.underlying131 Try.underlying3 (zero_int _) hkl
    have hv' : kf (.agg #[i6 a, i6 b, i6 c]) = none := hv
    rw [hv'] at this
    exact this
  have lsb := block_lt hS
  have s2 : ∀ n o, ((w.alloc o).drewN n).cell? ⟨sb, 2, none⟩ = some (.map (some kb)) := by
    intro n o
    have h1 : ((w.alloc o).drewN n).heap[sb]? = w.heap[sb]? := (boxedN w o n).block sb lsb
    rw [World.cell?_of_block h1, cell_at hS]; rfl
  have s0 : ∀ n o, ((w.alloc o).drewN n).cell? ⟨sb, 0, none⟩ = some (.pointer (some ⟨y.tb, 3, none⟩)) := by
    intro n o
    have h1 : ((w.alloc o).drewN n).heap[sb]? = w.heap[sb]? := (boxedN w o n).block sb lsb
    rw [World.cell?_of_block h1, cell_at hS]; rfl
  have c0 : w.cell? ⟨sb, 0, none⟩ = some (.pointer (some ⟨y.tb, 3, none⟩)) := by rw [cell_at hS]; rfl
  have a1 : ((a : Int) == 1) = false := int_ne (b := 1) (by omega)
  have a0 : ((a : Int) == 0) = false := int_ne (b := 0) (by omega)
  have bc := int_ne hbc
  have hbit : ∀ x, x < s.L.length + 2 → ∀ W, Below w.heap.size w W → Calls Try.prog 88 #[.pointer (some ⟨y.tb, 3, none⟩), i6 x] W fun e w' => e = .returned (i6 (Bd.bitOf s.L x)) ∧ w' = W :=
    fun x hx W hB => bit_any (hT.below hB) x hx
  obtain ⟨bo, hbo⟩ : ∃ bo, bo = Bd.bitOf s.L := ⟨_, rfl⟩
  rw [← hbo] at hbit
  have HBIT := keep hbit
  have ix0 := idx0 a b c
  have ix1 := idx1 a b c
  have ix2 := idx2 a b c
  have HBO := keep hbo
  have HTT := keep hT
  clear hbit hbo
  have hhalf : ∀ k, k < 128 → ∀ x, x < s.L.length + 2 → ∀ W, Below w.heap.size w W → Calls Try.prog 89 #[.pointer (some ⟨y.tb, 3, none⟩), i6 x, i6 k] W fun e w' => e = .returned (.tuple #[i6 (Bd.loOf s.L x k), i6 (Bd.hiOf s.L x k)]) ∧ Below W.heap.size W w' :=
    fun k hk x hx W hB => halves_any (hT.below hB) x k hx hk
  obtain ⟨k0, hk0⟩ : ∃ k0, k0 = min (bo a) (min (bo b) (bo c)) := ⟨_, rfl⟩
  have hmin : ∀ (ts : Array TypeId) (t : TypeId) (w : World), (Builtin.min_ ts t #[.int .i64 (bo a), .int .i64 (bo b), .int .i64 (bo c)]).run Try.prog w = .ok (.int .i64 k0) w := by
    intro ts t w
    rw [run_min_int3, hk0, min3]
  have hfew := hT.okay.few
  have hba := Bd.bitOf_lt hT.okay ha2 ha
  have HK : Hid (kk ≤ k0 ∧ k0 ≤ Bd.bitOf s.L a ∧ k0 ≤ Bd.bitOf s.L b ∧ k0 ≤ Bd.bitOf s.L c ∧ k0 < s.bits) := by
    rw [HBO.out] at hk0
    exact ⟨by omega, by omega, by omega, by omega, by omega⟩
  have hk128 : k0 < 128 := by have := HK.out.2.2.2.2; omega
  obtain ⟨lo, hlo⟩ : ∃ lo : Nat → Nat, lo = fun x => Bd.loOf s.L x k0 := ⟨_, rfl⟩
  obtain ⟨hi, hhi⟩ : ∃ hi : Nat → Nat, hi = fun x => Bd.hiOf s.L x k0 := ⟨_, rfl⟩
  have HHALF : Hid (∀ x, x < s.L.length + 2 → ∀ W, Below w.heap.size w W → Calls Try.prog 89 #[.pointer (some ⟨y.tb, 3, none⟩), i6 x, i6 k0] W fun e w' => e = .returned (.tuple #[i6 (lo x), i6 (hi x)]) ∧ Below W.heap.size W w') := by
    rw [hlo, hhi]
    exact hhalf k0 hk128
  have HFIN := keep (fun W hBW h3 => ite_three2 ih A hT hW sb room kb hS hns hnk hr3 hbM sz kf hM hK a b c kk k0 ha hb hc HK.out.1 HK.out.2.1 HK.out.2.2.1 HK.out.2.2.2.1 HK.out.2.2.2.2 hF hn W hBW h3)
  have el : ∀ x, Bd.loOf s.L x k0 = lo x := by intro x; rw [hlo]
  have eh : ∀ x, Bd.hiOf s.L x k0 = hi x := by intro x; rw [hhi]
  simp only [el, eh] at HFIN
  clear hk0 hlo hhi el eh hhalf hka hkb hkc hr3 hbM ih
  by_cases hb1 : b = 1
  · have hb1' : ((b : Int) == 1) = true := int_eq (b := 1) hb1
    have hc0 : ((c : Int) == 0) = false := int_ne (b := 0) (fun e => hq ⟨hb1, e⟩)
    clear hq hb1 hbc hT hW hM hK hS hv hkl hF
    go_enter Try.func76, Try.ntmps76
    go_wp2_with fail
    go_quiet (fail)
    go_wp2_with fail
    go_quiet (fail)
    go_wp2_with fail
    go_quiet (first | exact quiet_sum (HBIT.out _ (by first | exact ha | exact hb | exact hc) _ (boxedN _ _ _)))
    go_wp2_with fail
    go_loopw [74] (fun i wr => ∃ j : Nat, j ≤ 3 ∧ i = .int .i64 j ∧ Three wr w.heap.size (v3 a b c) (upTo j lo a b c) (upTo j hi a b c) ∧ Below w.heap.size w wr) (fun i _ => 3 - (intOf i).toNat)
    case atStart => exact ⟨0, by omega, rfl, three_start w _ (v3 a b c) (v3 0 0 0), three_below w _ _ _ _⟩
    case round =>
      obtain ⟨j, hj, rfl, h3, hBW⟩ := hrel
      have q0 : wr.cell? ⟨sb, 0, none⟩ = some (.pointer (some ⟨y.tb, 3, none⟩)) := (hBW.cell (p := ⟨sb, 0, none⟩) lsb).trans c0
      have hsz := block_lt h3.b2
      have hrs := hBW.size
      have hjj : j = 0 ∨ j = 1 ∨ j = 2 ∨ j = 3 := by omega
      have H3 := keep h3
      have HBW := keep hBW
      clear hj h3 hBW hlook s2 s0
      rcases hjj with rfl | rfl | rfl | rfl
      · go_wp2_with (first | (go_at_call 89; refine (HHALF.out a ha wr HBW.out).mono ?_; rintro e w1 ⟨rfl, hb1⟩; have T1 := H3.out.below hb1 (by omega); have HT1 := keep T1; obtain ⟨⟨d0, _, _⟩, ⟨e0, _, _⟩, fz1, fz2, _⟩ := T1.cells; clear T1))
        go_roundw
        case rel => exact ⟨1, by omega, by go_num, three_set HT1.out 0 _ _ rfl rfl, ((HBW.out.trans (hb1.mono hrs)).setCell (by simp <;> omega) _).setCell (by simp <;> omega) _⟩
        case measure => simp [intOf]
      · go_wp2_with (first | (go_at_call 89; refine (HHALF.out b hb wr HBW.out).mono ?_; rintro e w1 ⟨rfl, hb1⟩; have T1 := H3.out.below hb1 (by omega); have HT1 := keep T1; obtain ⟨⟨_, d0, _⟩, ⟨_, e0, _⟩, fz1, fz2, _⟩ := T1.cells; clear T1))
        go_roundw
        case rel => exact ⟨2, by omega, by go_num, three_set HT1.out 1 _ _ rfl rfl, ((HBW.out.trans (hb1.mono hrs)).setCell (by simp <;> omega) _).setCell (by simp <;> omega) _⟩
        case measure => simp [intOf]
      · go_wp2_with (first | (go_at_call 89; refine (HHALF.out c hc wr HBW.out).mono ?_; rintro e w1 ⟨rfl, hb1⟩; have T1 := H3.out.below hb1 (by omega); have HT1 := keep T1; obtain ⟨⟨_, _, d0⟩, ⟨_, _, e0⟩, fz1, fz2, _⟩ := T1.cells; clear T1))
        go_roundw
        case rel => exact ⟨3, by omega, by go_num, three_set HT1.out 2 _ _ rfl rfl, ((HBW.out.trans (hb1.mono hrs)).setCell (by simp <;> omega) _).setCell (by simp <;> omega) _⟩
        case measure => simp [intOf]
      · have S0 := H3.out.six
        obtain ⟨g0, g1, g2, g3, g4, g5⟩ := S0
        have HF1 := keep (HFIN.out wr.drew HBW.out.drew ⟨H3.out.b0, H3.out.b1, H3.out.b2⟩)
        simp only [upTo_three] at g0 g1 g2 g3 g4 g5
        go_wp2_with fail
        go_region_held2 (fun w' => w'.cell? ⟨w.heap.size + 1, 0, none⟩ = some (.int .i64 (lo a)) ∧ w'.cell? ⟨w.heap.size + 1, 1, none⟩ = some (.int .i64 (lo b)) ∧ w'.cell? ⟨w.heap.size + 1, 2, none⟩ = some (.int .i64 (lo c)) ∧ w'.cell? ⟨w.heap.size + 1 + 1, 0, none⟩ = some (.int .i64 (hi a)) ∧ w'.cell? ⟨w.heap.size + 1 + 1, 1, none⟩ = some (.int .i64 (hi b)) ∧ w'.cell? ⟨w.heap.size + 1 + 1, 2, none⟩ = some (.int .i64 (hi c))) (first | (go_keep; done) | exact T3.six | exact T2.six | exact T1.six) (first | (go_at_call 74; refine HC3.out.mono ?_; rintro e w3 (⟨r, rfl, T3, q2, w4, hrun, HG⟩ | ⟨rfl, hF'⟩); rotate_left; (exact ⟨rfl, Or.inr ⟨rfl, hF'.out⟩⟩)) | (go_at_call 76; refine HC2.out.mono ?_; rintro e w2 (⟨r2, rfl, T2, HC3⟩ | ⟨rfl, hF'⟩); rotate_left; (exact ⟨rfl, Or.inr ⟨rfl, hF'.out⟩⟩)) | (go_at_call 76; refine HF1.out.mono ?_; rintro e w1 (⟨r1, rfl, T1, HC2⟩ | ⟨rfl, hF'⟩); rotate_left; (exact ⟨rfl, Or.inr ⟨rfl, hF'.out⟩⟩)))
        obtain ⟨_, _, _, _, ⟨o0, o1, o2⟩⟩ := T3.cells
        go_wp2_with fail
        go_region
        go_wp2_with fail
        go_ret
        exact Or.inl ⟨r, rfl, HG.out⟩
  · have hb1' : ((b : Int) == 1) = false := int_ne (b := 1) hb1
    clear hq hb1 hbc hT hW hM hK hS hv hkl hF
    go_enter Try.func76, Try.ntmps76
    go_wp2_with fail
    go_quiet (fail)
    go_wp2_with fail
    go_quiet (fail)
    go_wp2_with fail
    go_quiet (first | exact quiet_sum (HBIT.out _ (by first | exact ha | exact hb | exact hc) _ (boxedN _ _ _)))
    go_wp2_with fail
    go_loopw [74] (fun i wr => ∃ j : Nat, j ≤ 3 ∧ i = .int .i64 j ∧ Three wr w.heap.size (v3 a b c) (upTo j lo a b c) (upTo j hi a b c) ∧ Below w.heap.size w wr) (fun i _ => 3 - (intOf i).toNat)
    case atStart => exact ⟨0, by omega, rfl, three_start w _ (v3 a b c) (v3 0 0 0), three_below w _ _ _ _⟩
    case round =>
      obtain ⟨j, hj, rfl, h3, hBW⟩ := hrel
      have q0 : wr.cell? ⟨sb, 0, none⟩ = some (.pointer (some ⟨y.tb, 3, none⟩)) := (hBW.cell (p := ⟨sb, 0, none⟩) lsb).trans c0
      have hsz := block_lt h3.b2
      have hrs := hBW.size
      have hjj : j = 0 ∨ j = 1 ∨ j = 2 ∨ j = 3 := by omega
      have H3 := keep h3
      have HBW := keep hBW
      clear hj h3 hBW hlook s2 s0
      rcases hjj with rfl | rfl | rfl | rfl
      · go_wp2_with (first | (go_at_call 89; refine (HHALF.out a ha wr HBW.out).mono ?_; rintro e w1 ⟨rfl, hb1⟩; have T1 := H3.out.below hb1 (by omega); have HT1 := keep T1; obtain ⟨⟨d0, _, _⟩, ⟨e0, _, _⟩, fz1, fz2, _⟩ := T1.cells; clear T1))
        go_roundw
        case rel => exact ⟨1, by omega, by go_num, three_set HT1.out 0 _ _ rfl rfl, ((HBW.out.trans (hb1.mono hrs)).setCell (by simp <;> omega) _).setCell (by simp <;> omega) _⟩
        case measure => simp [intOf]
      · go_wp2_with (first | (go_at_call 89; refine (HHALF.out b hb wr HBW.out).mono ?_; rintro e w1 ⟨rfl, hb1⟩; have T1 := H3.out.below hb1 (by omega); have HT1 := keep T1; obtain ⟨⟨_, d0, _⟩, ⟨_, e0, _⟩, fz1, fz2, _⟩ := T1.cells; clear T1))
        go_roundw
        case rel => exact ⟨2, by omega, by go_num, three_set HT1.out 1 _ _ rfl rfl, ((HBW.out.trans (hb1.mono hrs)).setCell (by simp <;> omega) _).setCell (by simp <;> omega) _⟩
        case measure => simp [intOf]
      · go_wp2_with (first | (go_at_call 89; refine (HHALF.out c hc wr HBW.out).mono ?_; rintro e w1 ⟨rfl, hb1⟩; have T1 := H3.out.below hb1 (by omega); have HT1 := keep T1; obtain ⟨⟨_, _, d0⟩, ⟨_, _, e0⟩, fz1, fz2, _⟩ := T1.cells; clear T1))
        go_roundw
        case rel => exact ⟨3, by omega, by go_num, three_set HT1.out 2 _ _ rfl rfl, ((HBW.out.trans (hb1.mono hrs)).setCell (by simp <;> omega) _).setCell (by simp <;> omega) _⟩
        case measure => simp [intOf]
      · have S0 := H3.out.six
        obtain ⟨g0, g1, g2, g3, g4, g5⟩ := S0
        have HF1 := keep (HFIN.out wr.drew HBW.out.drew ⟨H3.out.b0, H3.out.b1, H3.out.b2⟩)
        simp only [upTo_three] at g0 g1 g2 g3 g4 g5
        go_wp2_with fail
        go_region_held2 (fun w' => w'.cell? ⟨w.heap.size + 1, 0, none⟩ = some (.int .i64 (lo a)) ∧ w'.cell? ⟨w.heap.size + 1, 1, none⟩ = some (.int .i64 (lo b)) ∧ w'.cell? ⟨w.heap.size + 1, 2, none⟩ = some (.int .i64 (lo c)) ∧ w'.cell? ⟨w.heap.size + 1 + 1, 0, none⟩ = some (.int .i64 (hi a)) ∧ w'.cell? ⟨w.heap.size + 1 + 1, 1, none⟩ = some (.int .i64 (hi b)) ∧ w'.cell? ⟨w.heap.size + 1 + 1, 2, none⟩ = some (.int .i64 (hi c))) (first | (go_keep; done) | exact T3.six | exact T2.six | exact T1.six) (first | (go_at_call 74; refine HC3.out.mono ?_; rintro e w3 (⟨r, rfl, T3, q2, w4, hrun, HG⟩ | ⟨rfl, hF'⟩); rotate_left; (exact ⟨rfl, Or.inr ⟨rfl, hF'.out⟩⟩)) | (go_at_call 76; refine HC2.out.mono ?_; rintro e w2 (⟨r2, rfl, T2, HC3⟩ | ⟨rfl, hF'⟩); rotate_left; (exact ⟨rfl, Or.inr ⟨rfl, hF'.out⟩⟩)) | (go_at_call 76; refine HF1.out.mono ?_; rintro e w1 (⟨r1, rfl, T1, HC2⟩ | ⟨rfl, hF'⟩); rotate_left; (exact ⟨rfl, Or.inr ⟨rfl, hF'.out⟩⟩)))
        obtain ⟨_, _, _, _, ⟨o0, o1, o2⟩⟩ := T3.cells
        go_wp2_with fail
        go_region
        go_wp2_with fail
        go_ret
        exact Or.inl ⟨r, rfl, HG.out⟩
theorem ite_two_all : ∀ n, iteSpec2 n := by
  intro n
  induction n with
  | zero =>
    intro M s A w y sb room kb sz kf a b c kk hT hW hS hns hnk hr3 hbM hM hK ha hb hc hka hkb hkc hF hn
    have hb128 : 128 ≤ Bd.bitOf s.L a := by omega
    have ha2 : a < 2 := by
      rcases Nat.lt_or_ge a 2 with h | h
      · exact h
      · have := Bd.bitOf_lt hT.okay h ha
        have := hT.okay.few
        omega
    by_cases h1 : a = 1
    · subst h1
      refine (ite_one w _ b c).mono ?_
      rintro e w' ⟨rfl, hbw⟩
      exact Or.inl ⟨b, rfl, IteL.same hT hW hM hK hb (by rw [Bd.den_one, iteF_one]) hbw⟩
    · have h0 : a = 0 := by omega
      subst h0
      by_cases hbc : b = c
      · subst hbc
        refine (ite_same w _ 0 b h1).mono ?_
        rintro e w' ⟨rfl, hbw⟩
        exact Or.inl ⟨b, rfl, IteL.same hT hW hM hK hb (by rw [iteF_same]) hbw⟩
      · refine (ite_zero w _ b c hbc).mono ?_
        rintro e w' ⟨rfl, hbw⟩
        exact Or.inl ⟨c, rfl, IteL.same hT hW hM hK hc (by rw [Bd.den_zero, iteF_zero]) hbw⟩
  | succ n ih =>
    intro M s A w y sb room kb sz kf a b c kk hT hW hS hns hnk hr3 hbM hM hK ha hb hc hka hkb hkc hF hn
    by_cases h1 : a = 1
    · subst h1
      refine (ite_one w _ b c).mono ?_
      rintro e w' ⟨rfl, hbw⟩
      exact Or.inl ⟨b, rfl, IteL.same hT hW hM hK hb (by rw [Bd.den_one, iteF_one]) hbw⟩
    · by_cases hbc : b = c
      · subst hbc
        refine (ite_same w _ a b h1).mono ?_
        rintro e w' ⟨rfl, hbw⟩
        exact Or.inl ⟨b, rfl, IteL.same hT hW hM hK hb (by rw [iteF_same]) hbw⟩
      · by_cases h0 : a = 0
        · subst h0
          refine (ite_zero w _ b c hbc).mono ?_
          rintro e w' ⟨rfl, hbw⟩
          exact Or.inl ⟨c, rfl, IteL.same hT hW hM hK hc (by rw [Bd.den_zero, iteF_zero]) hbw⟩
        · by_cases hq : b = 1 ∧ c = 0
          · obtain ⟨rfl, rfl⟩ := hq
            refine (ite_self w _ a h1 h0).mono ?_
            rintro e w' ⟨rfl, hbw⟩
            exact Or.inl ⟨a, rfl, IteL.same hT hW hM hK ha (by rw [Bd.den_one, Bd.den_zero, iteF_self]) hbw⟩
          · cases hv : kf (arV a b c) with
            | some v => exact (ite_hitL A hT hW sb room kb hS sz kf hM hK a b c ha hb hc (by omega) hbc hq v hv).mono fun _ _ h => Or.inl h
            | none => exact ite_miss2 ih A hT hW sb room kb hS hns hnk hr3 hbM sz kf hM hK a b c kk ha hb hc hka hkb hkc hF hn (by omega) hbc hq hv
end Go.Proofs.Ytnkipdlfpnmgeaa
namespace Go.Proofs.Ytnkipdlfpnmgeaa
open Go.RowKit Go.Maps
open Bd (Nd)

theorem laid_row {w : World} {g : Nat} {cs : Array Value} {L : List Nd} {acc : List Nat} {least : Nat} (h : Laid cs L acc least (fun _ => false)) (hb : w.heap[g]? = some (.cells cs 62 (0, 0))) (hn : acc.length ≤ 1073741826) :
    w.ownsRow 0 62 3 (.slice (some ⟨g, 0, none⟩) acc.length acc.length) acc.length (flat (acc.map (rn L acc least))) := by
  have hlen : (flat (acc.map (rn L acc least))).length = acc.length * 3 := by rw [flat_length, List.length_map]
  refine ⟨hlen, Or.inr ⟨g, acc.length, cs, rfl, Nat.zero_le _, hb, Nat.le_refl _, by unfold maxLen; omega, h.1, ?_⟩⟩
  apply List.ext_getElem?
  intro z
  have hz : z = (z / 3) * 3 + z % 3 := by omega
  by_cases hlt : z < acc.length * 3
  · rw [List.getElem?_take, if_pos hlt]
    have hj : z / 3 < acc.length := by omega
    have hacc : acc[z / 3]? = some acc[z / 3] := List.getElem?_eq_getElem hj
    have hm : (acc.map (rn L acc least))[z / 3]? = some (rn L acc least acc[z / 3]) := by rw [List.getElem?_map, hacc]; rfl
    obtain ⟨f0, f1, f2⟩ := flat_at hm
    obtain ⟨c0, c1, c2⟩ := h.2 _ _ hacc rfl
    have h3 : z % 3 = 0 ∨ z % 3 = 1 ∨ z % 3 = 2 := by omega
    rcases h3 with h3 | h3 | h3
    · have e : z = (z / 3) * 3 := by omega
      rw [e, f0]; simpa using c0
    · have e : z = (z / 3) * 3 + 1 := by omega
      rw [e]
      have e2 : ((z / 3 * 3 + 1) / 3) = z / 3 := by omega
      rw [f1]; simpa using c1
    · have e : z = (z / 3) * 3 + 2 := by omega
      rw [e, f2]; simpa using c2
  · rw [List.getElem?_eq_none (by rw [List.length_take]; omega), List.getElem?_eq_none (by rw [hlen]; omega)]

set_option maxRecDepth 4000 in
set_option maxHeartbeats 4000000 in
theorem nodes_any {w : World} {ob pb : Nat} {lv : Value} {L : List Nd} {least : Nat} {acc : List Nat} (hO : OrdAt w ob pb lv L least acc) (hnd : acc.Nodup) (hacc : ∀ m ∈ acc, least ≤ m ∧ m < L.length + 2) (h2 : 2 ≤ least) (hL : Falls L) (hlen : L.length ≤ 1073741824) (hle : least ≤ 1073741824) (hn : acc.length ≤ 1073741826) :
    Calls Try.prog 37 #[.pointer (some ⟨ob, 0, none⟩)] w fun e w' => e = .returned (.slice (some ⟨w.heap.size, 0, none⟩) acc.length acc.length) ∧ w'.ownsRow 0 62 3 (.slice (some ⟨w.heap.size, 0, none⟩) acc.length acc.length) acc.length (flat (acc.map (rn L acc least))) ∧ Below w.heap.size w w' := by
  have c0 : w.cell? ⟨ob, 0, none⟩ = some lv := by rw [cell_at hO.cells]; rfl
  have c1 : w.cell? ⟨ob, 1, none⟩ = some (.int .i64 least) := by rw [cell_at hO.cells]; rfl
  have c2 : w.cell? ⟨ob, 2, none⟩ = some (.map (some pb)) := by rw [cell_at hO.cells]; rfl
  obtain ⟨f, hf, hr, hz⟩ := hO.place
  have hap := hO.apart
  have hln : (Builtin.len_ #[116] 3 #[.map (some pb)]).run Try.prog w = .ok (.int .i64 acc.length) w := hf.len Try.underlying116 _
  obtain ⟨D, hown, hsz, hview⟩ := hf
  have HO := keep hO
  have HR := keep hr
  have HZ := keep hz
  have HOWN := keep hown
  have HV := keep hview
  have HND := keep hnd
  have HACC := keep hacc
  have HL := keep hL
  obtain ⟨n, hnn⟩ : ∃ n, n = acc.length := ⟨_, rfl⟩
  have HN := keep hnn
  have hmk := run_blanks n (by omega)
  rw [← hnn] at hln HOWN hn ⊢
  clear hO hr hz hown hview hnd hacc hL hnn hsz
  have c2a : ∀ o, (w.alloc o).cell? ⟨ob, 2, none⟩ = some (.map (some pb)) := fun o => by rw [World.cell?_of_block (heap_alloc_old w o hap.2.2.2)]; exact c2
  go_enter Try.func37, Try.ntmps37
  go_wp2_with (first | (at_range; refine wpList_range_own _ rfl (.tmp 16) 116 rfl 3 3 kInt Try.underlying116 (plainElem Try.prog 3) pb n D rfl (HOWN.out.alloc _) ?_; intro w0 hrg0 hg0 hs0) | go_in)
  have e1 : (w.alloc (.cells (blanks n) 62)).heap.size = w.heap.size + 1 := by simp
  rw [e1] at hrg0 hs0 ⊢
  have HB0 : Hid (Below w.heap.size w w0) := by
    have h := (Below.refl w.heap.size w).alloc (Nat.le_refl _) (.cells (blanks n) 62)
    exact ⟨hg0.os.trans h.os, hg0.tape.trans h.tape, hg0.output.trans h.output, by omega, fun k hk => (hg0.block k (by rw [e1]; omega) (by simp)).trans (h.block k hk)⟩
  have HC0 : Hid (w0.heap[w.heap.size]? = some (.cells (blanks n) 62 (0, 0))) := (hg0.block _ (by rw [e1]; omega) (by simp)).trans (heap_alloc_new w _)
  have HS0 : Hid (Laid (blanks n) L acc least (Maps.has D)) := by
    refine ⟨by rw [blanks_size, HN.out], fun j m hj hm => ?_⟩
    obtain ⟨kl, hkl⟩ := key_int (a := m) (by have := HACC.out m (List.mem_of_getElem? hj); omega)
    have hkl2 : kl = .int .i64 (m : Int) := by have := keyOf_int_mk (P := Try.prog) Try.underlying3 (a := (m : Int)) (wf64 (by have := HACC.out m (List.mem_of_getElem? hj); omega)); rw [hkl] at this; exact Option.some.inj this
    subst hkl2
    have := (HV.out _ _ hkl).1
    rw [hm, (HR.out m).1 j hj] at this
    cases this
  have HRG := keep hrg0
  clear hrg0 hg0
  go_frame
  go_loopw [4] (fun _ wr => ∃ (left : Lit → Bool) (cnt : Nat) (cs : Array Value), wr.ranges Try.prog 3 (plainElem (H := Unit) Try.prog 3) pb (w.heap.size + 1) n D left cnt ∧ wr.heap[w.heap.size]? = some (.cells cs 62 (0, 0)) ∧ Laid cs L acc least left ∧ Below w.heap.size w wr) (fun _ wr => wr.rangeLeft pb (w.heap.size + 1))
  case atStart => exact ⟨_, _, _, HRG.out, HC0.out, HS0.out, HB0.out⟩
  case round =>
    obtain ⟨left, cnt, cs, hrg, hcs, hlaid, hB⟩ := hrel
    have HCS := keep hcs
    have HLD := keep hlaid
    have HB := keep hB
    clear hcs hlaid hB
    go_wp2_with (first | (at_next; refine wpList_next_ranges_ii _ rfl (.tmp 17) rfl 3 3 .i64 .i64 kInt Try.underlying3 Try.underlying3 pb (w.heap.size + 1) n D left cnt rfl hrg ?_ ?_) | go_in)
    · intro _ hl0
      have hend : left = fun _ => false := funext hl0
      have HD := HLD.out
      rw [hend] at HD
      have HROW := keep (laid_row HD HCS.out (by rw [← HN.out]; exact hn))
      clear HD hend hl0
      go_wp2
      go_ret
      refine ⟨rfl, ?_, HB.out⟩
      have := HROW.out
      rw [← HN.out] at this
      exact this
    · intro x c w1 cnt1 hwx hwc hlx hat hrg1 hlt hg1 hs1 hen
      have keyx : keyOf Try.prog 3 (.int .i64 x) = some (.int .i64 x) := keyOf_int_mk Try.underlying3 hwx
      obtain ⟨v1, v2⟩ := HV.out _ _ keyx
      rw [Maps.has_true_of_atKey hat] at v1
      obtain ⟨v, hfv⟩ := Option.isSome_iff_exists.1 v1.symm
      have hx0 := HZ.out x v1.symm
      obtain ⟨m, rfl⟩ : ∃ m : Nat, x = (m : Int) := ⟨x.toNat, by omega⟩
      have hmem : m ∈ acc := by
        rcases Classical.em (m ∈ acc) with h | h
        · exact h
        · have := (HR.out m).2 h
          have e : f (i6 m) = some v := hfv
          rw [e] at this
          cases this
      obtain ⟨j, hj⟩ : ∃ j, acc[j]? = some m := ⟨_, idx_at hmem⟩
      have hcj : c = ((least + j : Nat) : Int) := by
        have h1 := v2 _ ((HR.out m).1 j hj)
        rw [hat] at h1
        cases h1
        rfl
      have hma := HACC.out m hmem
      have hFall := HL.out.at (n := m) (by omega) hma.2
      have hjl := Bd.getElem?_lt hj
      have hjn : j < n := by rw [HN.out]; exact hjl
      obtain ⟨xn, hxn⟩ : ∃ xn, xn = L.getD (m - 2) (0, 0, 0) := ⟨_, rfl⟩
      rw [← hxn] at hFall
      obtain ⟨i, rfl⟩ : ∃ i, m = i + 2 := ⟨m - 2, by omega⟩
      have hxi : L[i]? = some xn := by have := hFall.2.2; simpa using this
      have hBw1 : Below w.heap.size w w1 := ⟨hg1.os.trans HB.out.os, hg1.tape.trans HB.out.tape, hg1.output.trans HB.out.output, by rw [hs1]; exact HB.out.size, fun k hk => (hg1.block k (by have := HB.out.size; omega) (by simp; omega)).trans (HB.out.block k hk)⟩
      have hO1 := HO.out.below hBw1
      have hcs1 : w1.heap[w.heap.size]? = some (.cells cs 62 (0, 0)) := (hg1.block _ (block_lt HCS.out) (by simp)).trans HCS.out
      obtain ⟨g, cap, hlv, _, hgl⟩ := HO.out.list.form (by omega)
      have hadd : ∀ j, (⟨g, 0, none⟩ : Addr).add j = ⟨g, j, none⟩ := by intro j; unfold Addr.add; split <;> simp_all
      obtain ⟨f0, f1, f2⟩ := flat_at hxi
      have hcl := hO1.list.cells (g := g) (by rw [hlv]; rfl)
      have d0 := hcl _ _ f0
      have d1 := hcl _ _ f1
      have d2 := hcl _ _ f2
      rw [hadd] at d0 d1 d2
      have k0 : w1.cell? ⟨ob, 0, none⟩ = some (.slice (some ⟨g, 0, none⟩) L.length cap) := by rw [hBw1.cell (by exact hap.2.2.2), ← hlv]; exact c0
      have k1 : w1.cell? ⟨ob, 1, none⟩ = some (.int .i64 least) := by rw [hBw1.cell (by exact hap.2.2.2)]; exact c1
      have l1 := block_lt hcs1
      have lob : ob < w1.heap.size := Nat.lt_of_lt_of_le hap.2.2.2 hBw1.size
      have oldA : ∀ o k, k < w1.heap.size → (w1.alloc o).heap[k]? = w1.heap[k]? := fun o k hk => heap_alloc_old w1 o hk
      have HNM : Hid (∀ q, q < 9223372036854775808 → Calls Try.prog 66 #[.pointer (some ⟨ob, 0, none⟩), .int .i64 (q : Nat)] (w1.alloc (.cells #[.int .i64 xn.1, .int .i64 xn.2.1, .int .i64 xn.2.2] 62)).drew fun e w' => e = .returned (.int .i64 (nm acc least q : Nat)) ∧ w' = (w1.alloc (.cells #[.int .i64 xn.1, .int .i64 xn.2.1, .int .i64 xn.2.2] 62)).drew) := by
        intro q hq
        exact name_any (hO1.below ((Below.refl _ _).alloc (Nat.le_refl _) _).drew) q hq
      have blo : xn.2.1 < 9223372036854775808 := by omega
      have bhi : xn.2.2 < 9223372036854775808 := by omega
      have k1a : ∀ o, (w1.alloc o).cell? ⟨ob, 1, none⟩ = some (.int .i64 least) := fun o => by rw [World.cell?_of_block (oldA o ob lob)]; exact k1
      have hcsz : cs.size = n * 3 := by rw [HN.out]; exact HLD.out.1
      have t0 : ∀ o, ∃ u, (w1.alloc o).cell? ⟨w.heap.size, j * 3, none⟩ = some u := fun o => ⟨cs[j * 3]'(by omega), by rw [World.cell?_of_block (oldA o _ l1), cell_at hcs1, Array.getElem?_eq_getElem]⟩
      have t1 : ∀ o, ∃ u, (w1.alloc o).cell? ⟨w.heap.size, j * 3 + 1, none⟩ = some u := fun o => ⟨cs[j * 3 + 1]'(by omega), by rw [World.cell?_of_block (oldA o _ l1), cell_at hcs1, Array.getElem?_eq_getElem]⟩
      have t2 : ∀ o, ∃ u, (w1.alloc o).cell? ⟨w.heap.size, j * 3 + 2, none⟩ = some u := fun o => ⟨cs[j * 3 + 2]'(by omega), by rw [World.cell?_of_block (oldA o _ l1), cell_at hcs1, Array.getElem?_eq_getElem]⟩
      obtain ⟨u0, z0⟩ := t0 (.cells #[.int .i64 xn.1, .int .i64 xn.2.1, .int .i64 xn.2.2] 62)
      obtain ⟨u1, z1⟩ := t1 (.cells #[.int .i64 xn.1, .int .i64 xn.2.1, .int .i64 xn.2.2] 62)
      obtain ⟨u2, z2⟩ := t2 (.cells #[.int .i64 xn.1, .int .i64 xn.2.1, .int .i64 xn.2.2] 62)
      have zf : ∀ q, (w1.alloc (.cells #[.int .i64 xn.1, .int .i64 xn.2.1, .int .i64 xn.2.2] 62)).frozen? ⟨w.heap.size, q, none⟩ = false := fun q => by rw [World.frozen?_of_block (oldA _ _ l1)]; exact not_frozen hcs1
      have ei : ((i + 2 : Nat) : Int) = (i : Int) + 2 := by omega
      have ec : ((least + j : Nat) : Int) = (least : Int) + (j : Int) := by omega
      have hw1 : IntKind.i64.wrap ((least : Int) + (j : Int) - (least : Int)) = (least : Int) + (j : Int) - (least : Int) := by
        rw [IntKind.wrap_i64]
        omega
      have hw2 : wrap64 ((least : Int) + (j : Int) - (least : Int)) = (least : Int) + (j : Int) - (least : Int) := by unfold wrap64; omega
      have hjI : (j : Int) < (n : Int) := by omega
      have hj0 : (0 : Int) ≤ (j : Int) := by omega
      have hb1 : (0 : Int) ≤ (least : Int) + (j : Int) - (least : Int) := by omega
      have hb2 : (least : Int) + (j : Int) - (least : Int) < (n : Int) := by omega
      have hb3 : ((least : Int) + (j : Int) - (least : Int)).toNat = j := by omega
      have hb4 : (least : Int) ≤ (least : Int) + (j : Int) := by omega
      have hb5 : (least : Int) + (j : Int) < (n : Int) + (least : Int) := by omega
      have hb6 : least ≤ least + j := by omega
      have hb7 : least + j < n + least := by omega
      have hiI : (i : Int) < (L.length : Int) := by omega
      have hlI : (L.length : Int) ≤ 1073741824 := by omega
      have hleI : (least : Int) ≤ 1073741824 := by omega
      have hnI : (n : Int) ≤ 1073741826 := by omega
      rw [ec] at hcj
      subst hcj
      rw [ei] at hen hrg1 ⊢
      have HFIN : Hid (∃ (left : Lit → Bool) (cnt : Nat) (cs : Array Value), World.ranges (World.setCell (World.setCell (World.setCell (w1.alloc (.cells #[.int .i64 xn.1, .int .i64 xn.2.1, .int .i64 xn.2.2] 62)).drew ⟨w.heap.size, j * 3, none⟩ (.int .i64 xn.1)) ⟨w.heap.size, j * 3 + 1, none⟩ (.int .i64 (nm acc least xn.2.1 : Nat))) ⟨w.heap.size, j * 3 + 2, none⟩ (.int .i64 (nm acc least xn.2.2 : Nat))) Try.prog 3 (plainElem (H := Unit) Try.prog 3) pb (w.heap.size + 1) n D left cnt ∧
          (World.setCell (World.setCell (World.setCell (w1.alloc (.cells #[.int .i64 xn.1, .int .i64 xn.2.1, .int .i64 xn.2.2] 62)).drew ⟨w.heap.size, j * 3, none⟩ (.int .i64 xn.1)) ⟨w.heap.size, j * 3 + 1, none⟩ (.int .i64 (nm acc least xn.2.1 : Nat))) ⟨w.heap.size, j * 3 + 2, none⟩ (.int .i64 (nm acc least xn.2.2 : Nat))).heap[w.heap.size]? = some (.cells cs 62 (0, 0)) ∧ Laid cs L acc least left ∧
          Below w.heap.size w (World.setCell (World.setCell (World.setCell (w1.alloc (.cells #[.int .i64 xn.1, .int .i64 xn.2.1, .int .i64 xn.2.2] 62)).drew ⟨w.heap.size, j * 3, none⟩ (.int .i64 xn.1)) ⟨w.heap.size, j * 3 + 1, none⟩ (.int .i64 (nm acc least xn.2.1 : Nat))) ⟨w.heap.size, j * 3 + 2, none⟩ (.int .i64 (nm acc least xn.2.2 : Nat))) ∧ cnt < cnt1 + 1) := by
        have hb0 : Below w.heap.size w (w1.alloc (.cells #[.int .i64 xn.1, .int .i64 xn.2.1, .int .i64 xn.2.2] 62)).drew := (hBw1.alloc hBw1.size _).drew
        have hbl : (w1.alloc (.cells #[.int .i64 xn.1, .int .i64 xn.2.1, .int .i64 xn.2.2] 62)).drew.heap[w.heap.size]? = _ := (oldA _ _ l1).trans hcs1
        have hrn : rn L acc least (i + 2) = (xn.1, nm acc least xn.2.1, nm acc least xn.2.2) := by unfold rn; rw [← hxn]
        have hsk : ∀ q : Nat, q ≠ i + 2 → (Lit.int .i64 (q : Int)).sameKey (.int .i64 ((i : Int) + 2)) = false := by
          intro q hq
          apply Maps.sameKey_ne
          intro e
          have e2 : (q : Int) = (i : Int) + 2 := by cases e; omega
          omega
        have hLP := HLD.out.put HND.out hj (fun z => left z && !z.sameKey (.int .i64 ((i : Int) + 2))) (fun q hq => by
          show (left (.int .i64 (q : Int)) && !(Lit.int .i64 (q : Int)).sameKey (.int .i64 ((i : Int) + 2))) = _
          rw [hsk q hq]
          simp)
        rw [hrn] at hLP
        refine ⟨_, cnt1, _, hrg1.kept (row := some w.heap.size) ⟨rfl, rfl, rfl, by simp, fun k hk hne => ?_⟩ ?_ ?_, set_block _ (set_block _ (set_block _ hbl)), hLP, ((hb0.setCell (Nat.le_refl _) _).setCell (Nat.le_refl _) _).setCell (Nat.le_refl _) _, by omega⟩
        · have hk' : k ≠ w.heap.size := fun e => hne (by rw [e])
          rw [set_other _ hk', set_other _ hk', set_other _ hk']
          exact oldA _ k hk
        · simp; have := hap.2.2.1; omega
        · simp
      have HNEST : Hid (Calls Try.prog 66 #[.pointer (some ⟨ob, 0, none⟩), .int .i64 (xn.2.1 : Nat)] (w1.alloc (.cells #[.int .i64 xn.1, .int .i64 xn.2.1, .int .i64 xn.2.2] 62)).drew fun e w2 => e = .returned (.int .i64 (nm acc least xn.2.1 : Nat)) ∧ (w2.cell? ⟨ob, 1, none⟩ = some (.int .i64 least) ∧ w2.cell? ⟨w1.heap.size, 0, none⟩ = some (.int .i64 xn.1) ∧ w2.cell? ⟨w1.heap.size, 1, none⟩ = some (.int .i64 xn.2.1) ∧ w2.cell? ⟨w1.heap.size, 2, none⟩ = some (.int .i64 xn.2.2)) ∧
          Hid (Calls Try.prog 66 #[.pointer (some ⟨ob, 0, none⟩), .int .i64 (xn.2.2 : Nat)] w2 fun e w3 => e = .returned (.int .i64 (nm acc least xn.2.2 : Nat)) ∧ (w3.cell? ⟨ob, 1, none⟩ = some (.int .i64 least) ∧ w3.cell? ⟨w1.heap.size, 0, none⟩ = some (.int .i64 xn.1) ∧ w3.cell? ⟨w1.heap.size, 1, none⟩ = some (.int .i64 xn.2.1) ∧ w3.cell? ⟨w1.heap.size, 2, none⟩ = some (.int .i64 xn.2.2)) ∧
            w3.cell? ⟨w.heap.size, j * 3, none⟩ = some u0 ∧ w3.cell? ⟨w.heap.size, j * 3 + 1, none⟩ = some u1 ∧ w3.cell? ⟨w.heap.size, j * 3 + 2, none⟩ = some u2 ∧ w3.frozen? ⟨w.heap.size, j * 3, none⟩ = false ∧ w3.frozen? ⟨w.heap.size, j * 3 + 1, none⟩ = false ∧ w3.frozen? ⟨w.heap.size, j * 3 + 2, none⟩ = false ∧ (∀ p q r, (((w3.setCell ⟨w.heap.size, j * 3, none⟩ p).setCell ⟨w.heap.size, j * 3 + 1, none⟩ q).setCell ⟨w.heap.size, j * 3 + 2, none⟩ r).cell? ⟨ob, 1, none⟩ = some (.int .i64 least) ∧ (((w3.setCell ⟨w.heap.size, j * 3, none⟩ p).setCell ⟨w.heap.size, j * 3 + 1, none⟩ q).setCell ⟨w.heap.size, j * 3 + 2, none⟩ r).cell? ⟨w1.heap.size, 0, none⟩ = some (.int .i64 xn.1) ∧ (((w3.setCell ⟨w.heap.size, j * 3, none⟩ p).setCell ⟨w.heap.size, j * 3 + 1, none⟩ q).setCell ⟨w.heap.size, j * 3 + 2, none⟩ r).cell? ⟨w1.heap.size, 1, none⟩ = some (.int .i64 xn.2.1) ∧ (((w3.setCell ⟨w.heap.size, j * 3, none⟩ p).setCell ⟨w.heap.size, j * 3 + 1, none⟩ q).setCell ⟨w.heap.size, j * 3 + 2, none⟩ r).cell? ⟨w1.heap.size, 2, none⟩ = some (.int .i64 xn.2.2)) ∧ Hid (w3 = (w1.alloc (.cells #[.int .i64 xn.1, .int .i64 xn.2.1, .int .i64 xn.2.2] 62)).drew))) := by
        have nb := heap_alloc_new w1 (.cells #[.int .i64 xn.1, .int .i64 xn.2.1, .int .i64 xn.2.2] 62)
        have four : (w1.alloc (.cells #[.int .i64 xn.1, .int .i64 xn.2.1, .int .i64 xn.2.2] 62)).drew.cell? ⟨ob, 1, none⟩ = some (.int .i64 least) ∧ (w1.alloc (.cells #[.int .i64 xn.1, .int .i64 xn.2.1, .int .i64 xn.2.2] 62)).drew.cell? ⟨w1.heap.size, 0, none⟩ = some (.int .i64 xn.1) ∧ (w1.alloc (.cells #[.int .i64 xn.1, .int .i64 xn.2.1, .int .i64 xn.2.2] 62)).drew.cell? ⟨w1.heap.size, 1, none⟩ = some (.int .i64 xn.2.1) ∧ (w1.alloc (.cells #[.int .i64 xn.1, .int .i64 xn.2.1, .int .i64 xn.2.2] 62)).drew.cell? ⟨w1.heap.size, 2, none⟩ = some (.int .i64 xn.2.2) := by
          have nb' : (w1.alloc (.cells #[.int .i64 xn.1, .int .i64 xn.2.1, .int .i64 xn.2.2] 62)).drew.heap[w1.heap.size]? = some (.cells #[.int .i64 xn.1, .int .i64 xn.2.1, .int .i64 xn.2.2] 62 (0, 0)) := nb
          exact ⟨k1a _, by rw [cell_at nb']; rfl, by rw [cell_at nb']; rfl, by rw [cell_at nb']; rfl⟩
        refine (HNM.out _ blo).mono ?_
        rintro e w2 ⟨rfl, rfl⟩
        refine ⟨rfl, four, ?_⟩
        refine (HNM.out _ bhi).mono ?_
        rintro e w3 ⟨rfl, rfl⟩
        refine ⟨rfl, four, z0, z1, z2, zf _, zf _, zf _, fun p q r => ?_, rfl⟩
        have far : ∀ (b o : Nat), b ≠ w.heap.size → ((((w1.alloc (.cells #[.int .i64 xn.1, .int .i64 xn.2.1, .int .i64 xn.2.2] 62)).drew.setCell ⟨w.heap.size, j * 3, none⟩ p).setCell ⟨w.heap.size, j * 3 + 1, none⟩ q).setCell ⟨w.heap.size, j * 3 + 2, none⟩ r).cell? ⟨b, o, none⟩ = (w1.alloc (.cells #[.int .i64 xn.1, .int .i64 xn.2.1, .int .i64 xn.2.2] 62)).drew.cell? ⟨b, o, none⟩ := by
          intro b o hb
          refine World.cell?_of_block ?_
          rw [set_other _ hb, set_other _ hb, set_other _ hb]
        rw [far _ _ (by have := hap.2.2.2; omega), far _ _ (by omega), far _ _ (by omega), far _ _ (by omega)]
        exact four
      simp only [i6] at d0 d1 d2
      obtain ⟨len, hlen0⟩ : ∃ len, len = L.length := ⟨_, rfl⟩
      rw [← hlen0] at k0 hiI hlI
      have KA := keep k1a
      clear HV HR HZ HOWN hat hlx v1 v2 hfv keyx hFall hxi hcl f0 f1 f2 hadd hO1 oldA t0 t1 t2 hcs1 hcsz hma hmem hj hjl hlen0 hwx hwc hBw1 hlv hxn ei ec hrg1 hg1 hs1 hx0
      go_wp2_with fail
      clear HNM z0 z1 z2 zf k1a
      go_region_held3 (fun w' => w'.cell? ⟨ob, 1, none⟩ = some (.int .i64 least) ∧ w'.cell? ⟨w1.heap.size, 0, none⟩ = some (.int .i64 xn.1) ∧ w'.cell? ⟨w1.heap.size, 1, none⟩ = some (.int .i64 xn.2.1) ∧ w'.cell? ⟨w1.heap.size, 2, none⟩ = some (.int .i64 xn.2.2)) (first | (go_keep; done) | exact S4 _ _ _ | exact S3 | exact S2) (first | (go_at_call 66; refine HN2.out.mono ?_; rintro e w3 ⟨rfl, S3, z0, z1, z2, zf0, zf1, zf2, S4, HEQ⟩) | (go_at_call 66; refine HNEST.out.mono ?_; rintro e w2 ⟨rfl, S2, HN2⟩))
      go_wp2_with fail
      go_roundw
      case rel =>
        have e := HEQ.out
        subst e
        obtain ⟨left', cnt', cs', r1, r2, r3, r4, _⟩ := HFIN.out
        exact ⟨left', cnt', cs', r1, r2, r3, r4⟩
      case measure =>
        have e := HEQ.out
        subst e
        obtain ⟨left', cnt', cs', r1, r2, r3, r4, r5⟩ := HFIN.out
        rw [r1.left_eq, hrg.left_eq]
        omega
end Go.Proofs.Ytnkipdlfpnmgeaa
namespace Go.Proofs.Ytnkipdlfpnmgeaa
open Go.RowKit Go.Maps
open Bd (Nd)

theorem make_order (w : World) : (Instr.makeMap 116 none).run Try.prog w = .ok (.map (some w.heap.size)) (w.alloc (.map #[] 0)) := by kernel_rfl

theorem ord_new {w : World} {lv : Value} {L : List Nd} {least : Nat} (hlist : w.ownsRow 0 62 3 lv L.length (flat L)) :
    OrdAt ((w.alloc (.map #[] 0)).alloc (.cells #[lv, i6 least, .map (some w.heap.size)] 118)) (w.heap.size + 1) w.heap.size lv L least [] := by
  have e1 : (w.alloc (.map #[] 0)).heap.size = w.heap.size + 1 := by simp
  refine ⟨?_, (hlist.alloc _).alloc _, fun _ => none, ?_, fun n => ⟨fun i h => by simp at h, fun _ => rfl⟩, fun x h => by simp at h⟩
  · have := heap_alloc_new (w.alloc (.map #[] 0)) (.cells #[lv, i6 least, .map (some w.heap.size)] 118)
    rw [e1] at this
    exact this
  · exact (MapOf.new Try.prog 3 3 w).same (heap_alloc_old _ _ (by omega))

set_option maxRecDepth 4000 in
set_option maxHeartbeats 1000000 in
theorem orderOf_one {w : World} {lv : Value} {L : List Nd} (hlist : w.ownsRow 0 62 3 lv L.length (flat L)) (hL : Falls L) (hlen : L.length ≤ 1073741824) (n gv cap : Nat) (hn : n < L.length + 2) (hg : gv < w.heap.size) (hc : w.cell? ⟨gv, 0, none⟩ = some (i6 n)) :
    Calls Try.prog 36 #[lv, .int .i64 2, .slice (some ⟨gv, 0, none⟩) 1 cap] w fun e w' => ∃ ob pb, e = .returned (.pointer (some ⟨ob, 0, none⟩)) ∧ OrdAt w' ob pb lv L 2 (vis L 2 (n + 1) n []) ∧ Below w.heap.size w w' := by
  have HO := keep (ord_new (least := 2) hlist)
  have hmk := make_order
  have c1 : ((w.alloc (.map #[] 0)).alloc (.cells #[lv, .int .i64 2, .map (some w.heap.size)] 118)).cell? ⟨gv, 0, none⟩ = some (i6 n) := by
    rw [World.cell?_of_block (heap_alloc_old _ _ (by simp; omega)), World.cell?_of_block (heap_alloc_old _ _ hg)]; exact hc
  obtain ⟨ao, cp, rfl⟩ : ∃ ao cp, lv = .slice ao L.length cp := by
    rcases hlist.2 with ⟨h1, h2⟩ | ⟨g, cp, cur, h1, _⟩
    · exact ⟨none, 0, by rw [h1, h2]⟩
    · exact ⟨_, _, h1⟩
  have HL := keep hL
  clear hlist hL
  go_enter Try.func36, Try.ntmps36
  go_wp2
  refine wp_loop_rounds 2 ?_
  rw [rounds_succ]
  go_wp2_with (go_at_call 65; refine (visit_any (w.heap.size + 1) w.heap.size _ L 2 HL.out hlen (by omega) (by omega) (n + 1) n [] _ (by omega) hn HO.out (by simp) (by simp)).mono ?_; rintro e w1 ⟨rfl, hO1, hon⟩; have HO1 := keep hO1; have HON := keep hon; clear hO1 hon)
  rw [rounds_succ]
  go_wp2
  go_ret
  refine ⟨_, _, rfl, HO1.out, ?_⟩
  have b0 : Below w.heap.size w ((w.alloc (.map #[] 0)).alloc (.cells #[.slice ao L.length cp, .int .i64 2, .map (some w.heap.size)] 118)) := ((Below.refl _ _).alloc (Nat.le_refl _) _).alloc (by simp) _
  have h := HON.out
  exact ⟨h.os.trans b0.os, h.tape.trans b0.tape, h.output.trans b0.output, Nat.le_trans b0.size h.size, fun k hk => (h.block k (Nat.lt_of_lt_of_le hk b0.size) (by omega)).trans (b0.block k hk)⟩
end Go.Proofs.Ytnkipdlfpnmgeaa
namespace Go.Proofs.Ytnkipdlfpnmgeaa
open Go.RowKit Go.Maps
open Bd (Nd)

set_option maxHeartbeats 1000000 in
theorem name_at {w : World} {ob pb : Nat} {lv : Value} {least : Nat} {acc : List Nat} (hc : w.heap[ob]? = some (.cells #[lv, i6 least, .map (some pb)] 118 (0, 0))) (hp : ∃ f, MapOf Try.prog 3 3 w pb acc.length f ∧ RefMap least acc f) (m : Nat) (hm : m < 9223372036854775808) :
    Calls Try.prog 66 #[.pointer (some ⟨ob, 0, none⟩), i6 m] w fun e w' => e = .returned (i6 (nm acc least m)) ∧ w' = w := by
  have c2 : w.cell? ⟨ob, 2, none⟩ = some (.map (some pb)) := by rw [cell_at hc]; rfl
  obtain ⟨f, hf, hr⟩ := hp
  obtain ⟨kl, hkl⟩ := key_int (a := m) hm
  have hlook := MapOf.look hf kInt Try.underlying116 Try.underlying3 (zero_int _) hkl
  by_cases hin : m ∈ acc
  · have hfx : f (i6 m) = some ((least + acc.idxOf m : Nat) : Int) := (hr m).1 _ (idx_at hin)
    rw [hfx] at hlook
    simp only [Option.getD_some, Option.isSome_some, i6] at hlook
    have e : nm acc least m = least + acc.idxOf m := by unfold nm; rw [if_pos hin]
    rw [e]
    obtain ⟨q, hq⟩ : ∃ q, q = least + acc.idxOf m := ⟨_, rfl⟩
    rw [← hq] at hlook ⊢
    clear hc hf hr hfx hin hkl hq e
    go_enter Try.func66, Try.ntmps66
    go_wp2_with fail
    go_ret
    exact ⟨rfl, rfl⟩
  · have hfx : f (i6 m) = none := (hr m).2 hin
    rw [hfx] at hlook
    simp only [Option.getD_none, Option.isSome_none, i6] at hlook
    have e : nm acc least m = m := by unfold nm; rw [if_neg hin]
    rw [e]
    clear hc hf hr hfx hin hkl e
    go_enter Try.func66, Try.ntmps66
    go_wp2_with fail
    go_ret
    exact ⟨rfl, rfl⟩

set_option maxRecDepth 4000 in
set_option maxHeartbeats 1000000 in
theorem orderOf_any {w : World} {lv : Value} {L : List Nd} (hlist : w.ownsRow 0 62 3 lv L.length (flat L)) (hL : Falls L) (hlen : L.length ≤ 1073741824) (least n gv cap : Nat) (h2 : 2 ≤ least) (hle : least ≤ 1073741824) (hn : n < L.length + 2) (hg : gv < w.heap.size) (hc : w.cell? ⟨gv, 0, none⟩ = some (i6 n)) :
    Calls Try.prog 36 #[lv, i6 least, .slice (some ⟨gv, 0, none⟩) 1 cap] w fun e w' => e = .returned (.pointer (some ⟨w.heap.size + 1, 0, none⟩)) ∧ OrdAt w' (w.heap.size + 1) w.heap.size lv L least (vis L least (n + 1) n []) ∧ Below w.heap.size w w' := by
  have HO := keep (ord_new (least := least) hlist)
  have hmk := make_order
  have c1 : ((w.alloc (.map #[] 0)).alloc (.cells #[lv, i6 least, .map (some w.heap.size)] 118)).cell? ⟨gv, 0, none⟩ = some (i6 n) := by
    rw [World.cell?_of_block (heap_alloc_old _ _ (by simp; omega)), World.cell?_of_block (heap_alloc_old _ _ hg)]; exact hc
  obtain ⟨ao, cp, rfl⟩ : ∃ ao cp, lv = .slice ao L.length cp := by
    rcases hlist.2 with ⟨h1, h2⟩ | ⟨g, cp, cur, h1, _⟩
    · exact ⟨none, 0, by rw [h1, h2]⟩
    · exact ⟨_, _, h1⟩
  have HL := keep hL
  clear hlist hL
  go_enter Try.func36, Try.ntmps36
  go_wp2
  refine wp_loop_rounds 2 ?_
  rw [rounds_succ]
  go_wp2_with (go_at_call 65; refine (visit_any (w.heap.size + 1) w.heap.size _ L least HL.out hlen h2 hle (n + 1) n [] _ (by omega) hn HO.out (by simp) (by simp)).mono ?_; rintro e w1 ⟨rfl, hO1, hon⟩; have HO1 := keep hO1; have HON := keep hon; clear hO1 hon)
  rw [rounds_succ]
  go_wp2
  go_ret
  refine ⟨rfl, HO1.out, ?_⟩
  have b0 : Below w.heap.size w ((w.alloc (.map #[] 0)).alloc (.cells #[.slice ao L.length cp, i6 least, .map (some w.heap.size)] 118)) := ((Below.refl _ _).alloc (Nat.le_refl _) _).alloc (by simp) _
  have h := HON.out
  exact ⟨h.os.trans b0.os, h.tape.trans b0.tape, h.output.trans b0.output, Nat.le_trans b0.size h.size, fun k hk => (h.block k (Nat.lt_of_lt_of_le hk b0.size) (by omega)).trans (b0.block k hk)⟩

/-- What shrink leaves of a list. -/
structure Left (bits : Nat) (L : List Nd) (mark n : Nat) (M : List Nd) (r : Nat) : Prop where
  okay : Bd.Okay bits (L.take mark ++ M)
  lt : r < (L.take mark ++ M).length + 2
  den : Bd.den (L.take mark ++ M) r = Bd.den L n
  within : ∀ {K : Nat} (A : Bd.Fam bits K), Bd.Within A L → Bd.Within A (L.take mark ++ M)

theorem left_of {bits : Nat} {L : List Nd} (hL : Bd.Okay bits L) {mark n : Nat} (hm : mark ≤ L.length) (hn : n < L.length + 2) :
    Left bits L mark n ((vis L (mark + 2) (n + 1) n []).map (rn L (vis L (mark + 2) (n + 1) n []) (mark + 2))) (nm (vis L (mark + 2) (n + 1) n []) (mark + 2) n) := by
  have hlen : (L.take mark).length = mark := by rw [List.length_take]; omega
  have hnd := vis_nodup L (mark + 2) hL.falls (by omega) (n + 1) n [] hn (by simp)
  have hacc := vis_lt L (mark + 2) hL.falls (by omega) (n + 1) n [] hn (by simp)
  have hC := vis_closed L (mark + 2) hL.falls (by omega) (n + 1) n [] (by omega) hn (fun j m h => by simp at h)
  have hhas := vis_has L (mark + 2) (n + 1) n [] (by omega)
  generalize vis L (mark + 2) (n + 1) n [] = acc at hnd hacc hC hhas ⊢
  have S := shrunk_all hL hm hnd hacc hC acc.length (Nat.le_refl _)
  have et : (acc.map (rn L acc (mark + 2))).take acc.length = acc.map (rn L acc (mark + 2)) := List.take_of_length_le (by rw [List.length_map]; exact Nat.le_refl _)
  have sok := S.okay
  have sden := S.den
  rw [et] at sok sden
  have hold : ∀ m, m < mark + 2 → Bd.den (L.take mark ++ acc.map (rn L acc (mark + 2))) m = Bd.den L m := by
    intro m h
    rw [Bd.den_append_old _ _ (by omega)]
    exact den_take L mark (by omega)
  have hlen2 : (L.take mark ++ acc.map (rn L acc (mark + 2))).length = mark + acc.length := by rw [List.length_append, hlen, List.length_map]
  refine ⟨sok, ?_, ?_, fun A hW i x hx => ?_⟩
  · unfold nm
    by_cases hin : n ∈ acc
    · rw [if_pos hin, hlen2]
      have := List.idxOf_lt_length_of_mem hin
      omega
    · rw [if_neg hin, hlen2]
      rcases hhas with h | h
      · omega
      · exact absurd h hin
  · unfold nm
    by_cases hin : n ∈ acc
    · rw [if_pos hin]
      exact sden _ n (List.idxOf_lt_length_of_mem hin) (idx_at hin)
    · rw [if_neg hin]
      rcases hhas with h | h
      · exact hold n h
      · exact absurd h hin
  · rcases Nat.lt_or_ge i mark with h | h
    · rw [hold _ (by omega)]
      rw [List.getElem?_append_left (by omega), List.getElem?_take_of_lt h] at hx
      exact hW i x hx
    · have hi := Bd.getElem?_lt hx
      rw [hlen2] at hi
      obtain ⟨m, hmj⟩ : ∃ m, acc[i - mark]? = some m := ⟨acc[i - mark]'(by omega), List.getElem?_eq_getElem _⟩
      rw [List.getElem?_append_right (by omega), hlen, List.getElem?_map, hmj] at hx
      have hxe : rn L acc (mark + 2) m = x := by simpa using hx
      have d := sden (i - mark) m (by omega) hmj
      rw [show mark + 2 + (i - mark) = i + 2 by omega] at d
      rw [d, ← hxe]
      obtain ⟨b1, b2⟩ := hacc m (List.mem_of_getElem? hmj)
      have hF := (hL.falls.at (n := m) (by omega) b2).2.2
      have := hW _ _ hF
      rw [show m - 2 + 2 = m by omega] at this
      exact this

set_option maxRecDepth 4000 in
set_option maxHeartbeats 2000000 in
theorem shrink_any {w : World} {y : Lay} {s : St} (hT : Tab w y s) (mark n : Nat) (hm : mark ≤ s.L.length) (hlen : s.L.length ≤ 268435456) (hr : ∀ m, m ∈ s.roots → m < mark + 2) (hn : n < s.L.length + 2) :
    Calls Try.prog 77 #[.pointer (some ⟨y.tb, 3, none⟩), i6 mark, i6 n] w fun e w' => ∃ r N, e = .returned (i6 r) ∧ Left s.bits s.L mark n N r ∧ ∃ y', Tab w' y' { s with L := s.L.take mark ++ N } ∧ Moves noX w y w' y' := by
  have HLEFT := keep (left_of hT.okay hm hn)
  have hnd := vis_nodup s.L (mark + 2) hT.okay.falls (by omega) (n + 1) n [] hn (by simp)
  have hacc := vis_lt s.L (mark + 2) hT.okay.falls (by omega) (n + 1) n [] hn (by simp)
  have hal : (vis s.L (mark + 2) (n + 1) n []).length ≤ s.L.length + 2 := by
    have := List.Nodup.length_le_of_subset (l₂ := List.range (s.L.length + 2)) hnd (fun m hm => List.mem_range.2 (hacc m hm).2)
    simpa using this
  have HT := keep hT
  obtain ⟨ao, cap, hls⟩ := hT.list_slice
  have c3 := hT.cell3
  rw [hls] at c3
  have b1 : Below w.heap.size w (w.alloc (.cells #[i6 n] 3)) := (Below.refl _ _).alloc (Nat.le_refl _) _
  have e1 : (w.alloc (.cells #[i6 n] 3)).heap.size = w.heap.size + 1 := by simp
  -- the four calls behind one another
  have Q1 : Hid (Calls Try.prog 36 #[.slice ao s.L.length cap, .int .i64 ((mark : Int) + 2), .slice (some ⟨w.heap.size, 0, none⟩) 1 1] (w.alloc (.cells #[i6 n] 3)) fun e w1 => e = .returned (.pointer (some ⟨w.heap.size + 1 + 1, 0, none⟩)) ∧
      Hid (Calls Try.prog 37 #[.pointer (some ⟨w.heap.size + 1 + 1, 0, none⟩)] w1 fun e w2 => ∃ lv, e = .returned lv ∧
      Hid (Calls Try.prog 72 #[.pointer (some ⟨y.tb, 3, none⟩), i6 mark] w2 fun e w3 => e = .returned (.tuple #[]) ∧
      Hid (Calls Try.prog 43 #[.pointer (some ⟨y.tb, 3, none⟩), lv] w3 fun e w4 => e = .returned (.tuple #[]) ∧
      Hid (Calls Try.prog 66 #[.pointer (some ⟨w.heap.size + 1 + 1, 0, none⟩), i6 n] w4 fun e w5 => e = .returned (i6 (nm (vis s.L (mark + 2) (n + 1) n []) (mark + 2) n)) ∧
        Hid (∃ y', Tab w5 y' { s with L := s.L.take mark ++ ((vis s.L (mark + 2) (n + 1) n []).map (rn s.L (vis s.L (mark + 2) (n + 1) n []) (mark + 2))) } ∧ Moves noX w y w5 y')))))) := by
    have hT1 := hT.below b1
    have hl1 := hT1.list
    rw [hls] at hl1
    have h := orderOf_any hl1 hT.okay.falls (by omega) (mark + 2) n w.heap.size 1 (by omega) (by omega) hn (by omega) (by rw [cell_at (heap_alloc_new w _)]; rfl)
    rw [e1] at h
    have e2 : (i6 (mark + 2) : Value) = .int .i64 ((mark : Int) + 2) := by simp [i6]
    rw [e2] at h
    refine h.mono ?_
    rintro e w1 ⟨rfl, hO, hb1⟩
    refine ⟨rfl, ?_⟩
    refine (nodes_any hO hnd hacc (by omega) hT.okay.falls (by omega) (by omega) (by omega)).mono ?_
    rintro e w2 ⟨rfl, hown, hb2⟩
    refine ⟨_, rfl, ?_⟩
    have z1 := hb1.size
    have z2 := hb2.size
    have hbw1 : Below w.heap.size w w1 := b1.trans (hb1.mono (by omega))
    have hbw2 : Below w.heap.size w w2 := hbw1.trans (hb2.mono (by omega))
    have hT2 := hT.below hbw2
    have lown : ∀ k, y.own k → k < w.heap.size := fun k hk => hT.lt hk
    refine (drop_any hT2 mark hm hr).mono ?_
    rintro e w3 ⟨rfl, y3, hT3, hm3⟩
    refine ⟨rfl, ?_⟩
    have own3 : ∀ k, y3.own k → k < w.heap.size ∨ w2.heap.size ≤ k := fun k hk => by
      rcases hm3.own k hk with h | h
      · exact Or.inl (lown k h)
      · exact Or.inr h
    have z3 := hm3.size
    have kept3 : ∀ k, w.heap.size ≤ k → k < w2.heap.size → w3.heap[k]? = w2.heap[k]? := fun k h1 h2 => hm3.block k h2 (fun ho => by have := lown k ho; omega) (fun h => h)
    have hl3 := hown.lt w1.heap.size rfl
    have hlput : (s.L.take mark ++ ((vis s.L (mark + 2) (n + 1) n []).map (rn s.L (vis s.L (mark + 2) (n + 1) n []) (mark + 2)))).length ≤ 1073741824 := by
      rw [List.length_append, List.length_take, List.length_map]; omega
    have hgw : ∀ g a b, (Value.slice (some ⟨w1.heap.size, 0, none⟩) a b).ownBlock = some g → g = w1.heap.size := fun g a b h => (Option.some.inj h).symm
    have hown3 := row_same (w' := w3) hown fun g hg => kept3 g (by rw [hgw _ _ _ hg]; omega) (by rw [hgw _ _ _ hg]; exact hl3.2)
    rw [← hm3.tb]
    refine (put_any hT3 _ _ (by rw [List.length_map]; exact hown3) (fun k hk ho => ?_) HLEFT.out.okay hlput).mono ?_
    · have e5 := hgw _ _ _ hk
      rcases own3 _ ho with h | h
      · omega
      · have := hl3.2; omega
    · rintro e w4 ⟨rfl, y4, hT4, hm4⟩
      refine ⟨rfl, ?_⟩
      have kept4 : ∀ k, w.heap.size ≤ k → k < w2.heap.size → w4.heap[k]? = w2.heap[k]? := fun k h1 h2 => (hm4.block k (by omega) (fun ho => by rcases own3 k ho with h | h <;> omega) (fun h => h)).trans (kept3 k h1 h2)
      obtain ⟨f, hf, hrf, _⟩ := hO.place
      have lf := hf.lt
      have lo := block_lt hO.cells
      have k2 : ∀ k, k < w1.heap.size → w.heap.size ≤ k → w4.heap[k]? = w1.heap[k]? := fun k h1 h2 => (kept4 k h2 (by omega)).trans (hb2.block k h1)
      refine (name_at ((k2 _ lo (by omega)).trans hO.cells) ⟨f, hf.same (k2 _ lf (by omega)), hrf⟩ n (by omega)).mono ?_
      rintro e w5 ⟨rfl, rfl⟩
      exact ⟨rfl, y4, hT4, (moves_below y hbw2).trans (hm3.trans hm4)⟩
  clear hT hnd hacc hal hr hls b1 e1 HT
  have hmI : (mark : Int) ≤ 1073741824 := by omega
  go_enter Try.func77, Try.ntmps77
  go_wp2_with fail
  refine Q1.out.mono ?_
  rintro e w1 ⟨rfl, Q2⟩
  clear Q1
  go_wp2_with fail
  refine Q2.out.mono ?_
  rintro e w2 ⟨lv, rfl, Q3⟩
  clear Q2
  go_wp2_with fail
  refine Q3.out.mono ?_
  rintro e w3 ⟨rfl, Q4⟩
  clear Q3
  go_wp2_with fail
  refine Q4.out.mono ?_
  rintro e w4 ⟨rfl, Q5⟩
  clear Q4
  go_wp2_with fail
  refine Q5.out.mono ?_
  rintro e w5 ⟨rfl, R⟩
  clear Q5
  go_wp2
  go_ret
  exact ⟨_, _, rfl, HLEFT.out, R.out⟩
end Go.Proofs.Ytnkipdlfpnmgeaa
