/-
  The stable sort: blocks, merged until there is one.
-/
import Derived.Test.YtemmhingmeinjaaGreatDoorUStSAnd
namespace Go.Proofs.YtemmhingmeinjaaGreatDoor
open Go.RowKit

set_option maxRecDepth 20000 in
set_option maxHeartbeats 16000000 in
theorem sym_bigB {c : Nat → Nat → Int} {w : World} {b n N cap cb a m e : Nat} {P X Y S D T : List Nat} (hT : X ++ Y = T) (h : SymIn c N w b n a m e P X Y S D) (hC : Cmps w b N c cb) (hX1 : 2 ≤ X.length) (hY1 : 2 ≤ Y.length) (hI : Merges c N b n cap cb (X.length + Y.length)) (hq : m ≤ (a + e) / 2) :
    Calls Tryz.prog 112 #[.slice (some ⟨b, 0, none⟩) n cap, .int .i64 a, .int .i64 m, .int .i64 e, clo cb] w fun en w' => en = .returned (.tuple #[]) ∧ Sorts c w b P T S w' := by
  have HT0 := hid hT
  have H := hid h
  have HC := hid hC
  have HI := hid hI
  have hent := Tryz.entOrd
  obtain ⟨l1, l2, l3⟩ := h.leX
  have h62 := h.big
  have g1 : a + 2 ≤ m := by have := h.m_; omega
  have g2 : m + 2 ≤ e := by have := h.e_; omega
  have HXY := hid (show X.length + Y.length = e - a by have := h.m_; have := h.e_; omega)
  obtain ⟨xl, hxl⟩ : ∃ xl, xl = m - a := ⟨_, rfl⟩
  obtain ⟨yl, hyl⟩ : ∃ yl, yl = e - m := ⟨_, rfl⟩
  have w1 : IntKind.i64.wrap ((m : Int) - (a : Int)) = (xl : Int) := by rw [IntKind.wrap_i64]; omega
  have hx1 : ((xl : Int) == 1) = false := by rw [beq_eq_false_iff_ne]; omega
  have hx1' : ¬ ((xl : Int) = 1) := by omega
  have w2 : IntKind.i64.wrap ((e : Int) - (m : Int)) = (yl : Int) := by rw [IntKind.wrap_i64]; omega
  have hy1 : ((yl : Int) == 1) = false := by rw [beq_eq_false_iff_ne]; omega
  have hy1' : ¬ ((yl : Int) = 1) := by omega
  obtain ⟨mid, hmid⟩ : ∃ mid, mid = (a + e) / 2 := ⟨_, rfl⟩
  have q0 : ((a : Int) + (e : Int)) / 2 = (mid : Int) := by omega
  obtain ⟨nn, hnn⟩ : ∃ nn, nn = mid + m := ⟨_, rfl⟩
  have w3 : IntKind.i64.wrap ((mid : Int) + (m : Int)) = (nn : Int) := by rw [IntKind.wrap_i64]; omega
  have w3' : ((mid : Int) + (m : Int)) = (nn : Int) := by omega
  obtain ⟨pp, hpp⟩ : ∃ pp, pp = nn - 1 := ⟨_, rfl⟩
  have w4 : IntKind.i64.wrap ((nn : Int) - 1) = (pp : Int) := by rw [IntKind.wrap_i64]; omega
  have w4' : ((nn : Int) - 1) = (pp : Int) := by omega
  rw [← hmid] at hq
  have hmI : ¬ ((mid : Int) < (m : Int)) := by omega
  have HQ := hid (show mid = (a + e) / 2 ∧ nn = mid + m ∧ pp = nn - 1 from ⟨hmid, hnn, hpp⟩)
  have HS := hid (show Ends a m e mid nn a m from Or.inr ⟨hq, rfl, rfl⟩)
  have HZ := hid (show a ≤ m ∧ a ≤ a ∧ m ≤ m ∧ m ≤ mid ∧ mid < e ∧ a < mid by omega)
  have z1 := HZ.out.1
  have z5 := HZ.out.2.2.2.2.1
  have z6 := HZ.out.2.2.2.2.2
  have z7 : mid ≤ n := by omega
  clear h hC hxl hyl hX1 hY1 hI hT hmid hnn hpp  hq
  go_enter Tryz.func112, Tryz.ntmps112
  go_wp2_with fail
  go_loopw [20, 21, 23] (fun vs vr _ wr => ∃ (s r : Nat), a ≤ s ∧ s ≤ r ∧ r ≤ m ∧ vs = .int .i64 s ∧ vr = .int .i64 r ∧ Hid (BigAt c w b D nn a m s r wr)) (fun vs vr _ _ => (intOf vr).toNat - (intOf vs).toNat)
  case atStart => exact ⟨a, m, Nat.le_refl _, z1, Nat.le_refl _, by first | rfl | go_num, by first | rfl | go_num, ⟨Below.refl _ _, H.out.nums, Or.inl rfl, Or.inl rfl⟩⟩
  case round =>
    obtain ⟨s, r, hs, hsr, hr, rfl, rfl, HR⟩ := hrel
    have hzz := HZ.out
    have HRB := hid (show a ≤ s ∧ r ≤ m ∧ r ≤ mid from by omega)
    clear hzz
    by_cases hlt : s < r
    · obtain ⟨cc, hcc⟩ : ∃ cc, cc = (s + r) / 2 := ⟨_, rfl⟩
      have HHE := hid hcc
      have q1 : ((s : Int) + (r : Int)) / 2 = (cc : Int) := by omega
      have hltI : (s : Int) < (r : Int) := by omega
      obtain ⟨pc, hpc⟩ : ∃ pc, pc = pp - cc := ⟨_, rfl⟩
      have HPC := hid (show pc = nn - 1 - cc ∧ m ≤ pc ∧ pc < e from by
        obtain ⟨e1, e2, e3⟩ := HQ.out
        rcases HS.out with ⟨f1, f2, f3⟩ | ⟨f1, f2, f3⟩ <;> (refine ⟨by omega, by omega, by omega⟩))
      have w5 : IntKind.i64.wrap ((pp : Int) - (cc : Int)) = (pc : Int) := by rw [IntKind.wrap_i64]; have := HPC.out; have := HQ.out; omega
      have v1 : (cc : Int) ≤ (pp : Int) := by have := HPC.out; have := HQ.out; omega
      have v2 : (pp : Int) < (n : Int) + (cc : Int) := by have := HPC.out; have := HQ.out; omega
      have v3 : cc ≤ pp := by have := HPC.out; have := HQ.out; omega
      have v4 : pp < n + cc := by have := HPC.out; have := HQ.out; omega
      have v5 : ((pp : Int) - (cc : Int)).toNat = pc := by have := HPC.out; have := HQ.out; omega
      have b0 : (0 : Int) ≤ (cc : Int) := by omega
      have b1 : (cc : Int) < (n : Int) := by omega
      have b2 : (0 : Int) ≤ (pc : Int) := by omega
      have b3 : (pc : Int) < (n : Int) := by have := HPC.out; omega
      have d0 := HR.out.nums.cell (k := cc) (by rw [H.out.len]; omega)
      have d1 := HR.out.nums.cell (k := pc) (by have := HPC.out; rw [H.out.len]; omega)
      have n0 := hid (H.out.atN (k := cc) (by omega) (by omega))
      have n1 := hid (H.out.atN (k := pc) (by have := HPC.out; omega) (by have := HPC.out; omega))
      obtain ⟨x, hx⟩ : ∃ x, x = St.at_ D cc := ⟨_, rfl⟩
      obtain ⟨z, hz⟩ : ∃ z, z = St.at_ D pc := ⟨_, rfl⟩
      have HYZ := hid (And.intro hx hz)
      rw [← hx] at d0 n0
      rw [← hz] at d1 n1
      have HCC := hid (fun (W : World) (h : Below wr.heap.size wr W) => HC.out W (HR.out.low.trans (h.mono (Nat.le_of_lt HR.out.nums.lt))) z x n1.out n0.out)
      clear hcc hpc hx hz
      go_wp2_with fail
      go_region_held2 (fun W => W.cell? ⟨b, cc, none⟩ = some (.int .i64 (x : Int)) ∧ W.cell? ⟨b, pc, none⟩ = some (.int .i64 (z : Int))) (first | exact ⟨d0, d1⟩ | exact hS2) (first | (go_at_call 41; refine (HCC.out _ (by first | exact Below.refl _ _ | exact (Below.refl _ _).drew)).mono ?_; rintro en w2 ⟨rfl, hb2⟩; have B2 := hid (show Below wr.heap.size wr w2 by (first | exact hb2 | exact undrew hb2)); have hS2 := And.intro ((B2.out.cell (by exact HR.out.nums.lt)).trans d0) ((B2.out.cell (by exact HR.out.nums.lt)).trans d1)))
      have N2 := hid (HR.out.nums.on B2.out)
      have L2 := hid (HR.out.low.trans (B2.out.mono (Nat.le_of_lt HR.out.nums.lt)))
      clear d0 d1
      have HNy := hid (fun hc : c z x < 0 => show BigAt c w b D nn a m s cc w2 from ⟨L2.out, N2.out, HR.out.lo, Or.inr (by rw [← HPC.out.1, ← HYZ.out.1, ← HYZ.out.2]; exact hc)⟩)
      have HNn := hid (fun hc : ¬ c z x < 0 => show BigAt c w b D nn a m (cc + 1) r w2 from ⟨L2.out, N2.out, Or.inr (by rw [Nat.add_sub_cancel, show nn - (cc + 1) = nn - 1 - cc by omega, ← HPC.out.1, ← HYZ.out.1, ← HYZ.out.2]; exact hc), HR.out.hi⟩)
      go_wp2
      · rename_i hv
        have HN := hid (HNn.out (by simpa using hv))
        go_roundw
        case rel => exact ⟨cc + 1, r, by have := HHE.out; omega, by have := HHE.out; omega, hr, by go_num, rfl, HN⟩
        case measure => have := HHE.out; simp [intOf]; omega
      · rename_i hv
        have HN := hid (HNy.out (by simpa using hv))
        go_roundw
        case rel => exact ⟨s, cc, hs, by have := HHE.out; omega, by have := HHE.out; omega, rfl, rfl, HN⟩
        case measure => have := HHE.out; simp [intOf]; omega
    · have hltI : ¬ ((s : Int) < (r : Int)) := by omega
      have hsr2 : r = s := by omega
      subst hsr2
      rename_i hlt0
      obtain ⟨f, hf⟩ : ∃ f, f = nn - r := ⟨_, rfl⟩
      obtain ⟨X1, X2, Y1, Y2, hK⟩ := big_cut H.out HR.out HQ.out.2.1 hf hs hr HQ.out.1 HS.out (by omega) (by omega)
      have HK := hid hK
      have k1 := hK.lx1; have k2 := hK.lx2; have k3 := hK.ly1; have k4 := hK.ly2; have k5 := hK.mid_
      have w6 : IntKind.i64.wrap ((nn : Int) - (r : Int)) = (f : Int) := by rw [IntKind.wrap_i64]; have := HQ.out; omega
      have w6' : ((nn : Int) - (r : Int)) = (f : Int) := by have := HQ.out; omega
      have HLEN := hid (show X1.length = r - a ∧ X2.length = m - r ∧ Y1.length = f - m ∧ Y2.length = e - f from by omega)
      have j1 : a ≤ r := by omega
      have j2 : r ≤ m := by omega
      have j3 : m ≤ f := by omega
      have j4 : f ≤ e := by omega
      have HM := hid k5
      obtain ⟨T1, hT1⟩ : ∃ T1, T1 = X1 ++ Y1 := ⟨_, rfl⟩
      obtain ⟨T2, hT2⟩ : ∃ T2, T2 = X2 ++ Y2 := ⟨_, rfl⟩
      obtain ⟨S1, hS1⟩ : ∃ S1, S1 = X2 ++ Y2 ++ S := ⟨_, rfl⟩
      obtain ⟨D2, hD2⟩ : ∃ D2, D2 = P ++ X1 ++ Y1 ++ (X2 ++ Y2 ++ S) := ⟨_, rfl⟩
      have HTS := hid (show T1 = X1 ++ Y1 ∧ T2 = X2 ++ Y2 ∧ S1 = X2 ++ Y2 ++ S ∧ D2 = P ++ X1 ++ Y1 ++ (X2 ++ Y2 ++ S) from ⟨hT1, hT2, hS1, hD2⟩)
      have HROT := hid (fun (q1 : r < m) (q2 : m < f) => rotate_any (w := wr) (b := b) (n := n) (cap := cap) (cb := cb) (a := r) (m := m) (e := f) (P := P ++ X1) (X := X2) (Y := Y1) (S := Y2 ++ S) (T := D2) (by rw [hD2]; simp) (by have := HR.out.nums; rw [← H.out.d, hK.x, hK.y] at this; simpa using this) (by have := H.out.len; rw [← H.out.d, hK.x, hK.y] at this; simpa using this) h62 (by rw [List.length_append, H.out.a_]; omega) (by rw [List.length_append, List.length_append, H.out.a_]; omega) (by rw [List.length_append, List.length_append, List.length_append, H.out.a_]; omega) (fun q => by rw [q] at k2; simp at k2; omega) (fun q => by rw [q] at k3; simp at k3; omega))
      have HSTILL := hid (fun (q : r = m ∨ m = f) => show Nums wr b D2 by rw [hD2]; exact hK.unturned H.out q HR.out.nums)
      have HREC1 := hid (fun (W : World) (hb : Below b w W) (hN : Nums W b D2) (q1 : a < r) (q2 : r < mid) => HI.out W a r mid P X1 Y1 S1 D2 T1 (by rw [HXY.out]; omega) (fun q => by rw [q] at k1; simp at k1; omega) (fun q => by rw [q] at k3; simp at k3; omega) hT1.symm (by rw [hS1, hD2]; exact hK.low H.out (by rw [hD2] at hN; exact hN)) (HC.out.on hb))
      have HST1 := hid (fun (W : World) (hN : Nums W b D2) (q : a = r ∨ r = mid) => show Sorts c W b P T1 S1 W by rw [hT1, hS1]; exact hK.still1 H.out q (by rw [hD2] at hN; exact hN))
      have HREC2 := hid (fun (W V : World) (hb : Below b w V) (h7 : Sorts c V b P T1 S1 W) (q1 : mid < f) (q2 : f < e) => show ∃ Z, Below b V W ∧ St.Up c Z ∧ Z.Perm (X1 ++ Y1) ∧ Calls Tryz.prog 112 #[.slice (some ⟨b, 0, none⟩) n cap, .int .i64 mid, .int .i64 f, .int .i64 e, clo cb] W fun en w' => en = .returned (.tuple #[]) ∧ Sorts c W b (P ++ Z) T2 S w' from by
        obtain ⟨b7, Z, u, p, hN⟩ := h7
        rw [hT1] at p
        rw [hS1] at hN
        exact ⟨Z, b7, u, p, HI.out W mid f e (P ++ Z) X2 Y2 S _ T2 (by rw [HXY.out]; omega) (fun q => by rw [q] at k2; simp at k2; omega) (fun q => by rw [q] at k4; simp at k4; omega) hT2.symm (hK.high H.out p hN) (HC.out.on (hb.trans b7))⟩)
      have HEND2 := hid (fun (W V U : World) (Z : List Nat) (hb : Below b w V) (b7 : Below b V W) (u : St.Up c Z) (p : Z.Perm (X1 ++ Y1)) (h8 : Sorts c W b (P ++ Z) T2 S U) => show Sorts c w b P T S U by rw [hT2] at h8; exact hK.done HT0.out hb b7 u p h8)
      have HEND1 := hid (fun (W V : World) (hb : Below b w V) (h7 : Sorts c V b P T1 S1 W) (q : mid = f ∨ f = e) => show Sorts c w b P T S W by
        obtain ⟨b7, Z, u, p, hN⟩ := h7
        rw [hT1] at p
        rw [hS1] at hN
        exact hK.done HT0.out hb b7 u p (hK.still2 H.out p q hN))
      have HLOW := hid HR.out.low
      clear k1 k2 k3 k4 k5 hT1 hT2 hS1 hD2 hK hf
      have hm5 : mid + m = r + f := HM.out
      by_cases y1 : r < m
      · skip
        by_cases y2 : r < mid
        · skip
          by_cases y3 : a < r
          · skip
            by_cases y4 : f < e
            · skip
              have t1 : (r : Int) < (m : Int) := by omega
              have t2 : (m : Int) < (f : Int) := by omega
              have t3 : (a : Int) < (r : Int) := by omega
              have t4 : (r : Int) < (mid : Int) := by omega
              have t5 : (mid : Int) < (f : Int) := by omega
              have t6 : (f : Int) < (e : Int) := by omega
              go_wp2_with fail
              refine (HROT.out (by omega) (by omega)).mono ?_
              rintro en1 v6 ⟨rfl, hb6, hn6⟩
              have B6 := hid (HLOW.out.trans hb6)
              have N6 := hid hn6
              clear hb6 hn6
              go_wp2_with fail
              refine (HREC1.out _ B6.out N6.out (by omega) (by omega)).mono ?_
              rintro en2 v7 ⟨rfl, hs7⟩
              have S7 := hid hs7
              clear hs7
              go_wp2_with fail
              obtain ⟨Z, b7, u7, p7, c8⟩ := HREC2.out _ _ B6.out S7.out (by omega) (by omega)
              have HP7 := hid (And.intro b7 (And.intro u7 p7))
              have C8 := hid c8
              clear b7 u7 p7 c8
              refine C8.out.mono ?_
              rintro en3 v8 ⟨rfl, hs8⟩
              have S8 := hid (HEND2.out _ _ _ _ B6.out HP7.out.1 HP7.out.2.1 HP7.out.2.2 hs8)
              clear hs8
              go_wp2
              exact bodyPost_end (v := .tuple #[]) (by simp [results, Tryz.results112, go_sem]) rfl ⟨rfl, S8.out⟩
            · skip
              have t1 : (r : Int) < (m : Int) := by omega
              have t2 : (m : Int) < (f : Int) := by omega
              have t3 : (a : Int) < (r : Int) := by omega
              have t4 : (r : Int) < (mid : Int) := by omega
              have t5 : (mid : Int) < (f : Int) := by omega
              have t6 : ¬ ((f : Int) < (e : Int)) := by omega
              go_wp2_with fail
              refine (HROT.out (by omega) (by omega)).mono ?_
              rintro en1 v6 ⟨rfl, hb6, hn6⟩
              have B6 := hid (HLOW.out.trans hb6)
              have N6 := hid hn6
              clear hb6 hn6
              go_wp2_with fail
              refine (HREC1.out _ B6.out N6.out (by omega) (by omega)).mono ?_
              rintro en2 v7 ⟨rfl, hs7⟩
              have S7 := hid hs7
              clear hs7
              have S8 := hid (HEND1.out _ _ B6.out S7.out (by omega))
              go_wp2
              exact bodyPost_end (v := .tuple #[]) (by simp [results, Tryz.results112, go_sem]) rfl ⟨rfl, S8.out⟩
          · skip
            by_cases y4 : f < e
            · skip
              have t1 : (r : Int) < (m : Int) := by omega
              have t2 : (m : Int) < (f : Int) := by omega
              have t3 : ¬ ((a : Int) < (r : Int)) := by omega
              have t4 : (r : Int) < (mid : Int) := by omega
              have t5 : (mid : Int) < (f : Int) := by omega
              have t6 : (f : Int) < (e : Int) := by omega
              go_wp2_with fail
              refine (HROT.out (by omega) (by omega)).mono ?_
              rintro en1 v6 ⟨rfl, hb6, hn6⟩
              have B6 := hid (HLOW.out.trans hb6)
              have N6 := hid hn6
              clear hb6 hn6
              go_wp2_with fail
              have S7 := hid (HST1.out _ N6.out (by omega))
              obtain ⟨Z, b7, u7, p7, c8⟩ := HREC2.out _ _ B6.out S7.out (by omega) (by omega)
              have HP7 := hid (And.intro b7 (And.intro u7 p7))
              have C8 := hid c8
              clear b7 u7 p7 c8
              refine C8.out.mono ?_
              rintro en3 v8 ⟨rfl, hs8⟩
              have S8 := hid (HEND2.out _ _ _ _ B6.out HP7.out.1 HP7.out.2.1 HP7.out.2.2 hs8)
              clear hs8
              go_wp2
              exact bodyPost_end (v := .tuple #[]) (by simp [results, Tryz.results112, go_sem]) rfl ⟨rfl, S8.out⟩
            · skip
              have t1 : (r : Int) < (m : Int) := by omega
              have t2 : (m : Int) < (f : Int) := by omega
              have t3 : ¬ ((a : Int) < (r : Int)) := by omega
              have t4 : (r : Int) < (mid : Int) := by omega
              have t5 : (mid : Int) < (f : Int) := by omega
              have t6 : ¬ ((f : Int) < (e : Int)) := by omega
              go_wp2_with fail
              refine (HROT.out (by omega) (by omega)).mono ?_
              rintro en1 v6 ⟨rfl, hb6, hn6⟩
              have B6 := hid (HLOW.out.trans hb6)
              have N6 := hid hn6
              clear hb6 hn6
              have S7 := hid (HST1.out _ N6.out (by omega))
              have S8 := hid (HEND1.out _ _ B6.out S7.out (by omega))
              go_wp2
              exact bodyPost_end (v := .tuple #[]) (by simp [results, Tryz.results112, go_sem]) rfl ⟨rfl, S8.out⟩
        · skip
          by_cases y3 : a < r
          · skip
            by_cases y4 : f < e
            · skip
              exfalso
              have i1 := HRB.out
              have i2 := HZ.out
              have i3 := HM.out
              have i4 := HLEN.out
              omega
            · skip
              exfalso
              have i1 := HRB.out
              have i2 := HZ.out
              have i3 := HM.out
              have i4 := HLEN.out
              omega
          · skip
            by_cases y4 : f < e
            · skip
              exfalso
              have i1 := HRB.out
              have i2 := HZ.out
              have i3 := HM.out
              have i4 := HLEN.out
              omega
            · skip
              exfalso
              have i1 := HRB.out
              have i2 := HZ.out
              have i3 := HM.out
              have i4 := HLEN.out
              omega
      · skip
        by_cases y2 : r < mid
        · skip
          by_cases y3 : a < r
          · skip
            by_cases y4 : f < e
            · skip
              have t1 : ¬ ((r : Int) < (m : Int)) := by omega
              have t2 : (m : Int) < (f : Int) := by omega
              have t3 : (a : Int) < (r : Int) := by omega
              have t4 : (r : Int) < (mid : Int) := by omega
              have t5 : ¬ ((mid : Int) < (f : Int)) := by omega
              have t6 : (f : Int) < (e : Int) := by omega
              go_wp2_with fail
              have B6 := hid HLOW.out
              have N6 := hid (HSTILL.out (by omega))
              refine (HREC1.out _ B6.out N6.out (by omega) (by omega)).mono ?_
              rintro en2 v7 ⟨rfl, hs7⟩
              have S7 := hid hs7
              clear hs7
              have S8 := hid (HEND1.out _ _ B6.out S7.out (by omega))
              go_wp2
              exact bodyPost_end (v := .tuple #[]) (by simp [results, Tryz.results112, go_sem]) rfl ⟨rfl, S8.out⟩
            · skip
              exfalso
              have i1 := HRB.out
              have i2 := HZ.out
              have i3 := HM.out
              have i4 := HLEN.out
              omega
          · skip
            by_cases y4 : f < e
            · skip
              exfalso
              have i1 := HRB.out
              have i2 := HZ.out
              have i3 := HM.out
              have i4 := HLEN.out
              omega
            · skip
              exfalso
              have i1 := HRB.out
              have i2 := HZ.out
              have i3 := HM.out
              have i4 := HLEN.out
              omega
        · skip
          by_cases y3 : a < r
          · skip
            by_cases y4 : f < e
            · skip
              have t1 : ¬ ((r : Int) < (m : Int)) := by omega
              have t2 : ¬ ((m : Int) < (f : Int)) := by omega
              have t3 : (a : Int) < (r : Int) := by omega
              have t4 : ¬ ((r : Int) < (mid : Int)) := by omega
              have t5 : ¬ ((mid : Int) < (f : Int)) := by omega
              have t6 : (f : Int) < (e : Int) := by omega
              go_wp2_with fail
              have B6 := hid HLOW.out
              have N6 := hid (HSTILL.out (by omega))
              have S7 := hid (HST1.out _ N6.out (by omega))
              have S8 := hid (HEND1.out _ _ B6.out S7.out (by omega))
              exact bodyPost_end (v := .tuple #[]) (by simp [results, Tryz.results112, go_sem]) rfl ⟨rfl, S8.out⟩
            · skip
              exfalso
              have i1 := HRB.out
              have i2 := HZ.out
              have i3 := HM.out
              have i4 := HLEN.out
              omega
          · skip
            by_cases y4 : f < e
            · skip
              exfalso
              have i1 := HRB.out
              have i2 := HZ.out
              have i3 := HM.out
              have i4 := HLEN.out
              omega
            · skip
              exfalso
              have i1 := HRB.out
              have i2 := HZ.out
              have i3 := HM.out
              have i4 := HLEN.out
              omega
end Go.Proofs.YtemmhingmeinjaaGreatDoor
namespace Go.Proofs.YtemmhingmeinjaaGreatDoor
open Go.RowKit

theorem Merges.mono {c : Nat → Nat → Int} {N b n cap cb k k' : Nat} (h : Merges c N b n cap cb k) (hk : k' ≤ k) : Merges c N b n cap cb k' := fun w a m e P X Y S D T hl => h w a m e P X Y S D T (Nat.lt_of_lt_of_le hl hk)
theorem len_one {X : List Nat} (h : X.length = 1) : ∃ x, X = [x] := by
  cases X with
  | nil => simp at h
  | cons x r => exact ⟨x, by rw [show r = [] from List.length_eq_zero_iff.1 (by simpa using h)]⟩
theorem sym_all (c : Nat → Nat → Int) (N b n cap cb : Nat) : ∀ k, Merges c N b n cap cb k := by
  intro k
  induction k with
  | zero => intro w a m e P X Y S D T hl; omega
  | succ k ih =>
    intro w a m e P X Y S D T hl hX hY hT h hC
    have x1 : 1 ≤ X.length := List.length_pos_iff.2 hX
    have y1 : 1 ≤ Y.length := List.length_pos_iff.2 hY
    by_cases hx : X.length = 1
    · obtain ⟨x, rfl⟩ := len_one hx
      rw [← hT]
      exact sym_one h hC
    by_cases hy : Y.length = 1
    · obtain ⟨y, rfl⟩ := len_one hy
      exact sym_last hT h hC hx
    by_cases hm : (a + e) / 2 < m
    · exact sym_bigA hT h hC (by omega) (by omega) (ih.mono (by omega)) hm
    · exact sym_bigB hT h hC (by omega) (by omega) (ih.mono (by omega)) (by omega)

structure Pc (c : Nat → Nat → Int) (lo hi : Nat) (Z : List Nat) : Prop where
  le : lo ≤ hi
  up : St.Up c Z
  perm : Z.Perm (List.range' lo (hi - lo))
theorem Pc.len {c : Nat → Nat → Int} {lo hi : Nat} {Z : List Nat} (h : Pc c lo hi Z) : lo + Z.length = hi := by
  have := h.perm.length_eq
  have := h.le
  rw [List.length_range'] at *
  omega
theorem Pc.mem {c : Nat → Nat → Int} {lo hi : Nat} {Z : List Nat} (h : Pc c lo hi Z) {x : Nat} (hx : x ∈ Z) : lo ≤ x ∧ x < hi := by
  have := h.perm.mem_iff.1 hx
  have hl := h.le
  rw [List.mem_range'_1] at this
  omega
theorem Pc.none (c : Nat → Nat → Int) (lo : Nat) : Pc c lo lo [] := ⟨Nat.le_refl _, List.Pairwise.nil, by rw [Nat.sub_self]; exact List.Perm.nil⟩
theorem Pc.both {c : Nat → Nat → Int} {lo mi hi : Nat} {X Y Z : List Nat} (hX : Pc c lo mi X) (hY : Pc c mi hi Y) (hu : St.Up c Z) (hp : Z.Perm (X ++ Y)) : Pc c lo hi Z := by
  have h1 := hX.le
  have h2 := hY.le
  refine ⟨by omega, hu, hp.trans ?_⟩
  have e : List.range' lo (hi - lo) = List.range' lo (mi - lo) ++ List.range' mi (hi - mi) := by
    have q := List.range'_append (s := lo) (m := mi - lo) (n := hi - mi) (step := 1)
    rw [Nat.one_mul, show lo + (mi - lo) = mi by omega, show mi - lo + (hi - mi) = hi - lo by omega] at q
    exact q.symm
  rw [e]
  exact hX.perm.append hY.perm
inductive Bl (c : Nat → Nat → Int) (bs : Nat) : Nat → Nat → List Nat → Prop
  | one {lo hi : Nat} {Z : List Nat} (h : hi ≤ lo + bs) (p : Pc c lo hi Z) : Bl c bs lo hi Z
  | cons {lo hi : Nat} {Z R : List Nat} (p : Pc c lo (lo + bs) Z) (r : Bl c bs (lo + bs) hi R) : Bl c bs lo hi (Z ++ R)
section
variable {c : Nat → Nat → Int} {bs : Nat}
theorem Bl.len {lo hi : Nat} {R : List Nat} (h : Bl c bs lo hi R) : lo + R.length = hi := by
  induction h with
  | one h p => exact p.len
  | cons p r ih => rw [List.length_append]; have := p.len; omega
theorem Bl.head {lo hi : Nat} {R : List Nat} (h : Bl c bs lo hi R) (hl : lo + bs ≤ hi) : ∃ Z R2, R = Z ++ R2 ∧ Pc c lo (lo + bs) Z ∧ Bl c bs (lo + bs) hi R2 := by
  cases h with
  | one h p =>
    have e : hi = lo + bs := by omega
    subst e
    exact ⟨R, [], by simp, p, .one (by omega) (Pc.none c _)⟩
  | cons p r => exact ⟨_, _, rfl, p, r⟩
theorem Bl.short {lo hi : Nat} {R : List Nat} (h : Bl c bs lo hi R) (hl : hi ≤ lo + bs) : Pc c lo hi R := by
  cases h with
  | one h p => exact p
  | cons p r =>
    have q := r.len
    rename_i Z R2
    have e : R2 = [] := List.length_eq_zero_iff.1 (by omega)
    subst e
    have e2 : hi = lo + bs := by simp at q; omega
    rw [List.append_nil, e2]
    exact p
end
theorem SymIn.of {c : Nat → Nat → Int} {N : Nat} {w : World} {b n a m e : Nat} {P X Y S : List Nat} (hO : St.Ord c N) (hX : Pc c a m X) (hY : Pc c m e Y) (ha : P.length = a) (he : e ≤ N) (hn : (P ++ X ++ Y ++ S).length = n) (hb : n < 4611686018427387904) (hN : Nums w b (P ++ X ++ Y ++ S)) : SymIn c N w b n a m e P X Y S (P ++ X ++ Y ++ S) :=
  ⟨hO, rfl, hn, hb, ha, hX.len, hY.len, hX.up, hY.up, fun x q y r => by have := hX.mem q; have := hY.mem r; omega, fun z q => by
    have h1 := hX.le
    have h2 := hY.le
    rcases List.mem_append.1 q with q | q
    · have := hX.mem q; omega
    · have := hY.mem q; omega, hN⟩

structure FirstAt (c : Nat → Nat → Int) (w : World) (b n a : Nat) (w' : World) (A : List Nat) : Prop where
  low : Below b w w'
  len : A.length = a
  go : ∀ R, Bl c 20 a n R → Bl c 20 0 n (A ++ R)
  nums : Nums w' b (A ++ List.range' a (n - a) ++ [])
structure NextAt (c : Nat → Nat → Int) (w : World) (b n bs a : Nat) (w' : World) (A R : List Nat) : Prop where
  low : Below b w w'
  len : A.length = a
  go : ∀ R, Bl c (2 * bs) a n R → Bl c (2 * bs) 0 n (A ++ R)
  rest : Bl c bs a n R
  nums : Nums w' b (A ++ R)

theorem FirstAt.step {c : Nat → Nat → Int} {w w1 w2 : World} {b n a : Nat} {A : List Nat} (h : FirstAt c w b n a w1 A) (_hb : a + 20 ≤ n) (hs : Sorts c w1 b A (List.range' a 20) (List.range' (a + 20) (n - (a + 20))) w2) : ∃ A2, FirstAt c w b n (a + 20) w2 A2 := by
  obtain ⟨b2, Z, u, p, hN⟩ := hs
  have hp : Pc c a (a + 20) Z := ⟨by omega, u, by rw [Nat.add_sub_cancel_left]; exact p⟩
  refine ⟨A ++ Z, h.low.trans b2, ?_, fun R hR => ?_, by simpa using hN⟩
  · rw [List.length_append, h.len]; exact hp.len
  · have := h.go (Z ++ R) (.cons hp hR)
    simpa using this
theorem range_cut {a k n : Nat} (h : a + k ≤ n) : List.range' a (n - a) = List.range' a k ++ List.range' (a + k) (n - (a + k)) := by
  have q := List.range'_append (s := a) (m := k) (n := n - (a + k)) (step := 1)
  rw [Nat.one_mul, show k + (n - (a + k)) = n - a by omega] at q
  exact q.symm
theorem range_up (a k : Nat) : (List.range' a k).Pairwise (· < ·) := List.pairwise_lt_range'
structure OutAt (c : Nat → Nat → Int) (w : World) (b n bs : Nat) (w' : World) (L : List Nat) : Prop where
  low : Below b w w'
  bl : Bl c bs 0 n L
  nums : Nums w' b L
theorem OutAt.next {c : Nat → Nat → Int} {w w' : World} {b n bs : Nat} {L : List Nat} (h : OutAt c w b n bs w' L) : NextAt c w b n bs 0 w' [] L := ⟨h.low, rfl, fun _ hR => hR, h.bl, h.nums⟩
theorem NextAt.two {c : Nat → Nat → Int} {w w' : World} {b n bs a : Nat} {A R : List Nat} (h : NextAt c w b n bs a w' A R) (hb : a + 2 * bs ≤ n) : ∃ X Y R2, R = X ++ Y ++ R2 ∧ Pc c a (a + bs) X ∧ Pc c (a + bs) (a + 2 * bs) Y ∧ Bl c bs (a + 2 * bs) n R2 ∧ Nums w' b (A ++ X ++ Y ++ R2) ∧ (A ++ X ++ Y ++ R2).length = n := by
  obtain ⟨X, R1, e1, p1, r1⟩ := h.rest.head (by omega)
  obtain ⟨Y, R2, e2, p2, r2⟩ := r1.head (by omega)
  have hl := h.rest.len
  have hN := h.nums
  rw [show a + bs + bs = a + 2 * bs by omega] at p2 r2
  refine ⟨X, Y, R2, by rw [e1, e2]; simp, p1, p2, r2, by rw [e1, e2] at hN; simpa using hN, ?_⟩
  rw [e1, e2] at hl
  have := h.len
  simp only [List.length_append] at hl ⊢
  omega
theorem NextAt.last {c : Nat → Nat → Int} {w w' : World} {b n bs a : Nat} {A R : List Nat} (h : NextAt c w b n bs a w' A R) (h1 : a + bs < n) (h2 : n < a + 2 * bs) : ∃ X Y, R = X ++ Y ∧ Pc c a (a + bs) X ∧ Pc c (a + bs) n Y ∧ Nums w' b (A ++ X ++ Y ++ []) ∧ (A ++ X ++ Y ++ []).length = n := by
  obtain ⟨X, R1, e1, p1, r1⟩ := h.rest.head (by omega)
  have hl := h.rest.len
  have hN := h.nums
  refine ⟨X, R1, e1, p1, r1.short (by omega), by rw [e1] at hN; simpa using hN, ?_⟩
  rw [e1] at hl
  have := h.len
  simp only [List.length_append, List.length_nil] at hl ⊢
  omega
theorem NextAt.step {c : Nat → Nat → Int} {w w1 w2 : World} {b n bs a : Nat} {A R X Y R2 T : List Nat} (h : NextAt c w b n bs a w1 A R) (pX : Pc c a (a + bs) X) (pY : Pc c (a + bs) (a + 2 * bs) Y) (hR : Bl c bs (a + 2 * bs) n R2) (hT : X ++ Y = T) (hs : Sorts c w1 b A T R2 w2) : ∃ A2, NextAt c w b n bs (a + 2 * bs) w2 A2 R2 := by
  obtain ⟨b2, Z, u, p, hN⟩ := hs
  rw [← hT] at p
  have hp := pX.both pY u p
  refine ⟨A ++ Z, h.low.trans b2, ?_, fun R hR => ?_, hR, by simpa using hN⟩
  · rw [List.length_append, h.len]; exact hp.len
  · have := h.go (Z ++ R) (.cons hp hR)
    simpa using this
theorem NextAt.fin {c : Nat → Nat → Int} {w w1 w2 : World} {b n bs a : Nat} {A R X Y T : List Nat} (h : NextAt c w b n bs a w1 A R) (pX : Pc c a (a + bs) X) (pY : Pc c (a + bs) n Y) (h2 : n < a + 2 * bs) (hT : X ++ Y = T) (hs : Sorts c w1 b A T [] w2) : ∃ L, OutAt c w b n (2 * bs) w2 L := by
  obtain ⟨b2, Z, u, p, hN⟩ := hs
  rw [← hT] at p
  exact ⟨A ++ Z, h.low.trans b2, h.go Z (.one (by omega) (pX.both pY u p)), by simpa using hN⟩
theorem NextAt.end_ {c : Nat → Nat → Int} {w w1 : World} {b n bs a : Nat} {A R : List Nat} (h : NextAt c w b n bs a w1 A R) (h2 : n ≤ a + bs) : OutAt c w b n (2 * bs) w1 (A ++ R) :=
  ⟨h.low, h.go R (.one (by omega) (h.rest.short h2)), h.nums⟩

set_option maxRecDepth 20000 in
set_option maxHeartbeats 4000000 in
theorem stable_any {c : Nat → Nat → Int} {w : World} {b n cap cb : Nat} (hO : St.Ord c n) (hC : Cmps w b n c cb) (hN : Nums w b (List.range' 0 n)) (h60 : n < 1152921504606846976) :
    Calls Tryz.prog 73 #[.slice (some ⟨b, 0, none⟩) n cap, .int .i64 n, clo cb] w fun en w' => en = .returned (.tuple #[]) ∧ ∃ L, Hid (Pc c 0 n L ∧ Below b w w' ∧ Nums w' b L) := by
  have HO := hid hO
  have HC := hid hC
  have HF0 := hid (show FirstAt c w b n 0 w [] from ⟨Below.refl _ _, rfl, fun R hR => hR, by simpa using hN⟩)
  clear hO hC hN
  go_enter Tryz.func73, Tryz.ntmps73
  go_wp2_with fail
  go_loopw [7, 8] (fun va vb wr => ∃ (a bb : Nat) (A : List Nat), a ≤ n ∧ va = .int .i64 a ∧ vb = .int .i64 bb ∧ Hid (bb = a + 20) ∧ Hid (FirstAt c w b n a wr A)) (fun va _ _ => n - (intOf va).toNat)
  case atStart => exact ⟨0, 20, [], Nat.zero_le _, by first | rfl | go_num, by first | rfl | go_num, rfl, HF0⟩
  case round =>
    obtain ⟨a, bb, A, han, rfl, rfl, HBB, HF⟩ := hrel
    rename World => wo
    by_cases hle : bb ≤ n
    · have hleI : (bb : Int) ≤ (n : Int) := by omega
      have HI := hid (ins_any (w := wo) (b := b) (n := n) (N := n) (cap := cap) (cb := cb) (a := a) (e := bb) (c := c) (P := A) (X := List.range' a 20) (S := List.range' (a + 20) (n - (a + 20))) HO.out (HC.out.on HF.out.low) (by have := HF.out.nums; have hb := HBB.out; rw [range_cut (k := 20) (by omega)] at this; simpa using this) (by have hb := HBB.out; simp only [List.length_append, List.length_range', HF.out.len]; omega) (by omega) (fun x hx => by rw [List.mem_range'_1] at hx; have hb := HBB.out; omega) (range_up _ _) HF.out.len (by rw [List.length_range']; exact HBB.out.symm))
      obtain ⟨bc, hbc⟩ : ∃ bc, bc = bb + 20 := ⟨_, rfl⟩
      have HBC := hid hbc
      have w1 : IntKind.i64.wrap ((bb : Int) + 20) = (bc : Int) := by rw [IntKind.wrap_i64]; omega
      have w1' : ((bb : Int) + 20) = (bc : Int) := by omega
      clear hbc
      go_wp2_with fail
      refine HI.out.mono ?_
      rintro en w2 ⟨rfl, hs⟩
      obtain ⟨A2, hA2⟩ := HF.out.step (by have := HBB.out; omega) hs
      have HA2 := hid (show FirstAt c w b n bb w2 A2 by rw [HBB.out]; exact hA2)
      clear hA2 hs
      go_wp2
      go_roundw
      case rel => exact ⟨bb, bc, A2, hle, rfl, rfl, HBC, HA2⟩
      case measure => have := HBB.out; simp [intOf]; omega
    · have hleI : ¬ ((bb : Int) ≤ (n : Int)) := by omega
      have HI := hid (ins_any (w := wo) (b := b) (n := n) (N := n) (cap := cap) (cb := cb) (a := a) (e := n) (c := c) (P := A) (X := List.range' a (n - a)) (S := []) HO.out (HC.out.on HF.out.low) HF.out.nums (by simp only [List.length_append, List.length_range', HF.out.len, List.length_nil]; omega) (by omega) (fun x hx => by rw [List.mem_range'_1] at hx; omega) (range_up _ _) HF.out.len (by rw [List.length_range']; omega))
      go_wp2_with fail
      refine HI.out.mono ?_
      rintro en w2 ⟨rfl, hs⟩
      have HO2 := hid (show ∃ L, OutAt c w b n 20 w2 L by
        obtain ⟨b2, Z, u, p, hN⟩ := hs
        exact ⟨A ++ Z, HF.out.low.trans b2, HF.out.go Z (.one (by have := HBB.out; omega) ⟨han, u, p⟩), by simpa using hN⟩)
      clear hs
      go_wp2_with fail
      go_loopw [6, 7, 8, 9] (fun vs _ _ _ wr => ∃ bs : Nat, 20 ≤ bs ∧ vs = .int .i64 bs ∧ bs < 2305843009213693952 ∧ Hid (∃ L, OutAt c w b n bs wr L)) (fun vs _ _ _ _ => n - (intOf vs).toNat)
      case atStart => exact ⟨20, Nat.le_refl _, by first | rfl | go_num, by omega, HO2⟩
      case round =>
        obtain ⟨bs, hbs, rfl, hbig, HOut⟩ := hrel
        rename World => wp
        by_cases hlt : bs < n
        · have hltI : (bs : Int) < (n : Int) := by omega
          obtain ⟨L, hL⟩ := HOut.out
          have HN0 := hid hL.next
          clear hL
          obtain ⟨b2, hb2⟩ : ∃ b2, b2 = 2 * bs := ⟨_, rfl⟩
          have HB2 := hid hb2
          have v1 : (2 : Int) * (bs : Int) = (b2 : Int) := by omega
          have hb2n : b2 < 2305843009213693952 := by omega
          clear hb2
          go_wp2_with fail
          go_loopw [7, 8] (fun va vb wr => ∃ (a bb : Nat) (A R : List Nat), a ≤ n ∧ bb < 4611686018427387904 ∧ va = .int .i64 a ∧ vb = .int .i64 bb ∧ Hid (bb = a + 2 * bs) ∧ Hid (NextAt c w b n bs a wr A R)) (fun va _ _ => n - (intOf va).toNat)
          case atStart => exact ⟨0, b2, [], L, Nat.zero_le _, by omega, by first | rfl | go_num, by first | rfl | go_num, by rw [HB2.out]; show _ = _; omega, HN0⟩
          case round =>
            obtain ⟨a, bb, A, R, han, hbbb, rfl, rfl, HBB, HX⟩ := hrel
            rename World => wq
            obtain ⟨ma, hma⟩ : ∃ ma, ma = a + bs := ⟨_, rfl⟩
            have HMA := hid hma
            have v2 : IntKind.i64.wrap ((a : Int) + (bs : Int)) = (ma : Int) := by rw [IntKind.wrap_i64]; omega
            have v2' : ((a : Int) + (bs : Int)) = (ma : Int) := by omega
            clear hma
            by_cases hle : bb ≤ n
            · have hleI : (bb : Int) ≤ (n : Int) := by omega
              obtain ⟨X, Y, R2, hR⟩ := HX.out.two (by have := HBB.out; omega)
              have HR := hid hR
              obtain ⟨T, hT⟩ : ∃ T, X ++ Y = T := ⟨_, rfl⟩
              have HT := hid hT
              have HM := hid (sym_all c n b n cap cb (X.length + Y.length + 1) wq a ma bb A X Y R2 _ T (by omega) (fun q => by have h1 := HR.out.2.1.len; rw [q] at h1; simp at h1; omega) (fun q => by have h1 := HR.out.2.2.1.len; rw [q] at h1; simp at h1; omega) HT.out (SymIn.of HO.out (by rw [HMA.out]; exact HR.out.2.1) (by rw [HMA.out, HBB.out]; exact HR.out.2.2.1) HX.out.len hle HR.out.2.2.2.2.2 (by omega) HR.out.2.2.2.2.1) (HC.out.on HX.out.low))
              obtain ⟨bc, hbc⟩ : ∃ bc, bc = bb + 2 * bs := ⟨_, rfl⟩
              have HBC := hid hbc
              have v3 : IntKind.i64.wrap ((bb : Int) + (b2 : Int)) = (bc : Int) := by rw [IntKind.wrap_i64]; have := HB2.out; omega
              have v3' : ((bb : Int) + (b2 : Int)) = (bc : Int) := by have := HB2.out; omega
              have hbc2 : bc < 4611686018427387904 := by omega
              clear hbc hR hT
              go_wp2_with fail
              refine HM.out.mono ?_
              rintro en w3 ⟨rfl, hs⟩
              obtain ⟨A2, hA2⟩ := HX.out.step HR.out.2.1 HR.out.2.2.1 HR.out.2.2.2.1 HT.out hs
              have HA2 := hid (show NextAt c w b n bs bb w3 A2 R2 by rw [HBB.out]; exact hA2)
              clear hA2 hs
              go_wp2
              go_roundw
              case rel => exact ⟨bb, bc, A2, R2, hle, hbc2, rfl, rfl, HBC, HA2⟩
              case measure => have := HBB.out; simp [intOf]; omega
            · have hleI : ¬ ((bb : Int) ≤ (n : Int)) := by omega
              by_cases hm : ma < n
              · have hmI : (ma : Int) < (n : Int) := by omega
                obtain ⟨X, Y, hR⟩ := HX.out.last (by have := HMA.out; omega) (by have := HBB.out; omega)
                have HR := hid hR
                obtain ⟨T, hT⟩ : ∃ T, X ++ Y = T := ⟨_, rfl⟩
                have HT := hid hT
                have HM := hid (sym_all c n b n cap cb (X.length + Y.length + 1) wq a ma n A X Y [] _ T (by omega) (fun q => by have h1 := HR.out.2.1.len; rw [q] at h1; simp at h1; omega) (fun q => by have h1 := HR.out.2.2.1.len; have h2 := HMA.out; rw [q] at h1; simp at h1; omega) HT.out (SymIn.of HO.out (by rw [HMA.out]; exact HR.out.2.1) (by rw [HMA.out]; exact HR.out.2.2.1) HX.out.len (Nat.le_refl _) HR.out.2.2.2.2 (by omega) HR.out.2.2.2.1) (HC.out.on HX.out.low))
                clear hR hT
                go_wp2_with fail
                refine HM.out.mono ?_
                rintro en w3 ⟨rfl, hs⟩
                have HA2 := hid (show ∃ L, OutAt c w b n b2 w3 L by rw [HB2.out]; exact HX.out.fin HR.out.2.1 HR.out.2.2.1 (by have := HBB.out; omega) HT.out hs)
                clear hs
                go_wp2
                go_roundw
                case rel => exact ⟨b2, by have := HB2.out; omega, by first | rfl | go_num, hb2n, HA2⟩
                case measure => have := HB2.out; simp [intOf]; omega
              · have hmI : ¬ ((ma : Int) < (n : Int)) := by omega
                have HA2 := hid (show ∃ L, OutAt c w b n b2 wq L by rw [HB2.out]; exact ⟨_, HX.out.end_ (by have := HMA.out; omega)⟩)
                go_wp2
                go_roundw
                case rel => exact ⟨b2, by have := HB2.out; omega, by first | rfl | go_num, hb2n, HA2⟩
                case measure => have := HB2.out; simp [intOf]; omega
        · have hltI : ¬ ((bs : Int) < (n : Int)) := by omega
          have HFIN := hid (show ∃ L, Hid (Pc c 0 n L ∧ Below b w wp ∧ Nums wp b L) by
            obtain ⟨L, hL⟩ := HOut.out
            exact ⟨L, hL.bl.short (by omega), hL.low, hL.nums⟩)
          go_wp2
          exact bodyPost_end (v := .tuple #[]) (by simp [results, Tryz.results73, go_sem]) rfl ⟨rfl, HFIN.out⟩
end Go.Proofs.YtemmhingmeinjaaGreatDoor
