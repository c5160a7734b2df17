/-
  Proved: for every vector and every text the law VectorTexts answers true (Text and Read answer as the document's own, and a vector's text reads as the vector), and leaves its arguments as they were. Conditions: the tables of Go's library and the two errors of strconv start as the program's text lays them (the card's tie); none on the arguments (the form's own reach bounds how long a text that comes in is).
  Versions that come in are uint64; how long a text that comes in may be; the tables and errors that are laid.
  How long a row of stamps that comes in may be.
  VectorTexts' law.
  The laws' own run: two vectors that agree.
  Read, walked.
-/
import Derived.Test.YtibbbjikehkbmabDoorGRWithAnd
import Derived.Test.YtibbbjikehkbmabDoorGGathAnd
import Derived.Test.YtibbbjikehkbmabDoorGTxtAnd
import Derived.Test.YtibbbjikehkbmabDoorGInsCAnd
import Derived.SizedLaws
import Derived.Test.YtibbbjikehkbmabDoorGMathAnd
import Derived.Stop.LaidErr
import Derived.Test.YtibbbjikehkbmabDoorRows
import Derived.Test.YtibbbjikehkbmabDoorCards
import Derived.Test.YtibbbjikehkbmabDoorTie
import Derived.WalkKit
import Derived.ProofKit
import Derived.OpenShut
import Derived.ShutString
import Derived.Lay
import Derived.LaidOnce
import Derived.SevenTiedAt
import Derived.LaidSub
import Derived.MakeChecks
namespace Go.Proofs.YtibbbjikehkbmabDoor.Ve
open Go.RowKit Go.Shelf
attribute [local go_sem] Oper.semAt_some
attribute [local go_sem ↓] appV_fold

theorem bears_sub {α : Type} {own own' : Nat → Prop} {J : List α → World → Prop} (h : ∀ q, own q → own' q) (b : Bears own' J) : Bears own J := fun s A B hs ⟨r, hg, hr⟩ => b s A B hs ⟨r, hg, fun q hq => h q (hr q hq)⟩
theorem keeps_below {N : Nat} {W W4 : World} (j : Nat) (hk : KeepsFrom N W W4) : KeepsFrom N W (W4.drewN j) := hk.trans (keeps_drewN N W4 j)
/-- A part is at fault. -/
theorem read_fail {w W W4 : World} {N j : Nat} {f : Int} (hk : KeepsFrom N W W4) (hr : Res w.heap.size (.slice none 0 0) 0 0 W4) (hb : Below w.heap.size w W4) :
    KeepsFrom N W ((((W4.drewN j).setCell ⟨w.heap.size, 0, none⟩ (.slice none 0 0)).setCell ⟨w.heap.size + 1, 0, none⟩ (.int .i64 f)).setCell ⟨w.heap.size + 1 + 1, 0, none⟩ (.int .i64 21)) ∧
    Res w.heap.size (.slice none 0 0) f 21 ((((W4.drewN j).setCell ⟨w.heap.size, 0, none⟩ (.slice none 0 0)).setCell ⟨w.heap.size + 1, 0, none⟩ (.int .i64 f)).setCell ⟨w.heap.size + 1 + 1, 0, none⟩ (.int .i64 21)) ∧
    Below w.heap.size w ((((W4.drewN j).setCell ⟨w.heap.size, 0, none⟩ (.slice none 0 0)).setCell ⟨w.heap.size + 1, 0, none⟩ (.int .i64 f)).setCell ⟨w.heap.size + 1 + 1, 0, none⟩ (.int .i64 21)) :=
  ⟨(keeps_below j hk).trans ((((KeepsOthers.setCell _ _ _).trans (KeepsOthers.setCell _ _ _)).trans (KeepsOthers.setCell _ _ _)).from _), res_set (show Res w.heap.size (.slice none 0 0) 0 0 (W4.drewN j) from hr),
    (((below_drewN hb).setCell (p := ⟨w.heap.size, 0, none⟩) (Nat.le_refl _) _).setCell (p := ⟨w.heap.size + 1, 0, none⟩) (by simp) _).setCell (p := ⟨w.heap.size + 1 + 1, 0, none⟩) (by simp; omega) _⟩
set_option maxRecDepth 100000 in
set_option maxHeartbeats 2000000 in
theorem Read_any (s : ByteArray) (hs : s.size ≤ 281474976710656) {w : World} (hw : Tabs w) :
    Calls Tryd.prog 14 #[.string s] w fun e w' => ∃ v', e = .returned (.tuple #[v', .int .i64 ((readP s.data.toList).2.1 : Nat), .int .i64 (readP s.data.toList).2.2]) ∧ OwnS w' w.heap.size v' (readP s.data.toList).1 ∧ Below w.heap.size w w' := by
  have HT := hid (fun W (hb : Below w.heap.size w W) => hw.below hb)
  have HS := hid hs
  have hs0 : s.data.toList.length ≤ 281474976710656 := by rw [bytes_len]; exact hs
  have HS0 := hid hs0
  clear hw hs hs0
  refine (callsIn_wide (n := 9)).1 ?_
  refine callsIn_of_wp_marks Tryd.func14 rfl trivial ?_ rfl
  simp only [Tryd.ntmps14, List.size_toArray, List.length_cons, List.length_nil, Nat.reduceAdd, Nat.reduceSub, Array.replicate_succ, Array.replicate_zero, List.push_toArray, List.append_toArray, List.nil_append, List.cons_append]
  obtain ⟨W0, hW0⟩ : ∃ W0, ((w.alloc (.cells #[.slice none 0 0] 23)).alloc (.cells #[.int .i64 0] 3)).alloc (.cells #[.int .i64 0] 24) = W0 := ⟨_, rfl⟩
  have hB0 : Below w.heap.size w W0 := by rw [← hW0]; exact (((Below.refl _ w).alloc (Nat.le_refl _) _).alloc (by simp) _).alloc (by simp; omega) _
  have z0 : W0.heap.size = w.heap.size + 1 + 1 + 1 := by rw [← hW0]; simp
  have hR0 : Res w.heap.size (.slice none 0 0) 0 0 W0 := by
    rw [← hW0]
    exact ⟨by repeat (first | exact boxed_new (by simp) | refine Boxed.alloc ?_ _), by repeat (first | exact boxed_new (by simp) | refine Boxed.alloc ?_ _), by repeat (first | exact boxed_new (by simp) | refine Boxed.alloc ?_ _)⟩
  by_cases h45 : s.data.toList = [45]
  · have hb : (s.toList == [45]) = true := by rw [Lib.toList_data, h45]; rfl
    have HE := hid (show readP s.data.toList = ([], 0, 0) by unfold readP; rw [if_pos h45])
    have hR1 := res_set (v' := .slice none 0 0) (f' := 0) (e' := 0) hR0
    have q2 := hR1.1.cell
    have q3 := hR1.2.1.cell
    have q4 := hR1.2.2.cell
    have HBF := hid ((((hB0.setCell (p := ⟨w.heap.size, 0, none⟩) (Nat.le_refl _) (.slice none 0 0)).setCell (p := ⟨w.heap.size + 1, 0, none⟩) (by simp) (.int .i64 0)).setCell (p := ⟨w.heap.size + 1 + 1, 0, none⟩) (by simp; omega) (.int .i64 0)))
    have f2 := hR0.1.frozen
    have f3 := hR0.2.1.frozen
    have f4 := hR0.2.2.frozen
    have c2 := hR0.1.cell
    have c3 := hR0.2.1.cell
    have c4 := hR0.2.2.cell
    clear h45
    gi_wp2
    refine ⟨.tuple #[.slice none 0 0, .int .i64 0, .int .i64 0], ?_, .slice none 0 0, by rw [HE.out]; rfl, by rw [HE.out]; exact World.ownsRow_nil _ _ _ _, HBF.out⟩
    simp [results, Tryd.f14, go_sem, q2, q3, q4]
  · have hb : (s.toList == [45]) = false := by rw [Lib.toList_data]; exact beq_eq_false_iff_ne.2 h45
    have HE := hid (show readP s.data.toList = goR [] 0 (spl s.data.toList) by unfold readP; rw [if_neg h45])
    clear h45
    gi_wp2
    obtain ⟨W1, hW1⟩ : ∃ W1, (W0.alloc (.cells #[.slice none 0 0] 23)).alloc (.cells #[.int .i64 0] 3) = W1 := ⟨_, rfl⟩
    have hB1 : Below W0.heap.size W0 W1 := by rw [← hW1]; exact ((Below.refl _ W0).alloc (Nat.le_refl _) _).alloc (by simp) _
    have z1 : W1.heap.size = W0.heap.size + 1 + 1 := by rw [← hW1]; simp
    have b5 : Boxed W1 W0.heap.size 23 (.slice none 0 0) := by rw [← hW1]; repeat (first | exact boxed_new (by simp) | refine Boxed.alloc ?_ _)
    have b6 : Boxed W1 (W0.heap.size + 1) 3 (.int .i64 0) := by rw [← hW1]; repeat (first | exact boxed_new (by simp) | refine Boxed.alloc ?_ _)
    rw [hW1]
    clear hW1
    refine ⟨trivial, ?_⟩
    refine (callsIn_wide.2 (SplitSeq_any s W1)).mono ?_
    rintro e W2 ⟨rfl, hW2⟩
    have hB2 : Below W1.heap.size W1 W2 := by rw [hW2]; exact (((Below.refl _ W1).alloc (Nat.le_refl _) _).alloc (by simp) _).alloc (by simp; omega) _
    have xs : Boxed W2 W1.heap.size 9 (.string s) := by rw [hW2]; repeat (first | exact boxed_new (by simp) | refine Boxed.alloc ?_ _)
    have xp : Boxed W2 (W1.heap.size + 1) 9 (.string ⟨#[32]⟩) := by rw [hW2]; repeat (first | exact boxed_new (by simp) | refine Boxed.alloc ?_ _)
    have xz : Boxed W2 (W1.heap.size + 1 + 1) 3 (.int .i64 0) := by rw [hW2]; repeat (first | exact boxed_new (by simp) | refine Boxed.alloc ?_ _)
    have z2 : W2.heap.size = W1.heap.size + 1 + 1 + 1 := by rw [hW2]; simp
    clear hW2
    have b5 := Boxed.on b5 hB2 b5.lt
    have b6 := Boxed.on b6 hB2 b6.lt
    have hB := below_tr (below_tr hB0 hB1) hB2
    have hR2 : Res w.heap.size (.slice none 0 0) 0 0 W2 := by
      have hq := below_tr hB1 hB2
      exact ⟨Boxed.on hR0.1 hq hR0.1.lt, Boxed.on hR0.2.1 hq hR0.2.1.lt, Boxed.on hR0.2.2 hq hR0.2.2.lt⟩
    have hI0 : RdI w.heap.size W2.heap.size w W0.heap.size (W0.heap.size + 1) W1.heap.size (W1.heap.size + 1) (W1.heap.size + 1 + 1) [] 0 W2 := ⟨⟨_, b5, World.ownsRow_nil _ _ _ _, fun q _ => by intro e; cases e⟩, b6, hB, Nat.le_refl _⟩
    have hz1 : W1.heap.size = w.heap.size + 1 + 1 + 1 + 1 + 1 := by rw [z1, z0]
    have hz2 : W2.heap.size = w.heap.size + 1 + 1 + 1 + 1 + 1 + 1 + 1 + 1 := by rw [z2, hz1]
    rw [z0] at hI0
    have HZ := hid (And.intro hz1 hz2)
    clear b5 b6 hB0 hB1 hB2 hR0 z0 z1 z2 hz1 hz2
    gi_wp2_with fail
    obtain ⟨hz1, hz2⟩ := HZ.out
    refine range_own (own := fun q => q = W1.heap.size) (by omega) (gf := 53) (lb := #[.pointer (some ⟨W1.heap.size + 1, 0, none⟩), .pointer (some ⟨W1.heap.size, 0, none⟩), .pointer (some ⟨W1.heap.size + 1 + 1, 0, none⟩)]) rfl (enters_of Tryd.func53 (by kernel_rfl) rfl)
      (fun q hq => by omega) (split_stops (nn := 9 - 1) (by omega) (w0 := w) (l0 := s.data.toList) hB HS0.out xs xp xz ⟨by omega, by omega, by omega⟩) KIt.trans (fun W l o o' hn h hc => kIt_b W l o o' (by omega) h hc) (fun _ => rfl)
      (fun pre W => RdI w.heap.size W2.heap.size w (w.heap.size + 1 + 1 + 1) (w.heap.size + 1 + 1 + 1 + 1) W1.heap.size (W1.heap.size + 1) (W1.heap.size + 1 + 1) (accR (pxs pre)) (atW pre) W ∧ Res w.heap.size (.slice none 0 0) 0 0 W ∧ OkR (pxs pre))
      (fun pre W => Res w.heap.size (.slice none 0 0) (atW pre.dropLast) 21 W ∧ Below w.heap.size w W ∧ (OkR (pxs pre.dropLast) ∧ ∃ x : Px, pre = pre.dropLast ++ [x] ∧ (partO x.1 = none ∨ ∃ y, partO x.1 = some y ∧ noRise (accR (pxs pre.dropLast)) y = true)))
      (OwnFrom.and (rdI_own (Nat.le_refl _) (by omega) _ _) (OwnFrom.and (res_own _ (fun _ => 0) _) (ownFrom_pure _ _)))
      (OwnFrom.and (res_own _ _ _) (OwnFrom.and (ownFrom_below (Nat.le_refl _) (by omega)) (ownFrom_pure _ _)))
      (bears_sub (fun q hq => Or.inl hq) (Bears.and (rdI_bears (Nat.le_refl _) (by omega) (by omega) ⟨by omega, by omega⟩ ⟨by omega, by omega⟩ _ _) (Bears.and (res_bears _ (fun _ => 0) _ ⟨by omega, by omega, by omega⟩) (bears_pure _))))
      (bears_sub (fun q hq => Or.inl hq) (Bears.and (res_bears (own := fun q => q = W1.heap.size ∨ q = W1.heap.size + 1) _ _ _ ⟨by omega, by omega, by omega⟩) (Bears.and (bears_below (by omega) (by omega) (Nat.le_refl _)) (bears_pure _))))
      ⟨hI0, hR2, ok_nil⟩ ?a1 ?assign ?body ?done ?stop
    case assign =>
      intro l x W K hK
      gi_wp2
      exact hK
    case body =>
      rintro l pre ⟨px, hpx⟩ W ⟨hI, hR, hok⟩ hpre
      have HST := hid (stampOf_any px hpx (HT.out W hI.2.2.1))
      have HI := hid hI
      have HR := hid hR
      have HOK := hid hok
      have hmx : Tryd.prog.follows .mixedOrders = true := by kernel_rfl
      have hpw := (wrap_two (k := px.length) (Nat.lt_of_le_of_lt hpx (by decide))).2
      clear hI hR hok hpre
      gi_wp2_with (first | (refine ⟨trivial, ?_⟩; gi_at_call 30; refine (CallsIn.inRound l (callsIn_wide.2 HST.out)).mono ?_; rintro e W3 ⟨d, u, ok, rfl, HQ, hb3⟩))
      obtain ⟨W4, hW4⟩ : ∃ W4, W4 = W3.alloc (.cells #[.int .i64 d, .int .u64 (u : Int)] 33) := ⟨_, rfl⟩
      have hb4 : Below W.heap.size W W4 := by rw [hW4]; exact below_tr hb3 (below_al _ _)
      have hst4 := steps_below (own := fun q => q = W1.heap.size ∨ q = W1.heap.size + 1) hb4
      have HI4 := hid (rdI_bears (Nat.le_refl _) (by omega) (by omega) ⟨by omega, by omega⟩ ⟨by omega, by omega⟩ (fun p : List Px => accR (pxs p)) (fun p => atW p) pre W W4 HI.out hst4)
      have HR4 := hid (show Res w.heap.size (.slice none 0 0) 0 0 W4 from ⟨boxed_below HR.out.1 hb4, boxed_below HR.out.2.1 hb4, boxed_below HR.out.2.2 hb4⟩)
      have HK4 := hid (show KeepsFrom W2.heap.size W W4 from (KeepsOthers.of_grownBy (grown_of_below none hb4) (fun j o ej _ => by cases ej)).from _)
      have HT4 := hid (show KIt w.heap.size W1.heap.size (W1.heap.size + 1) (W1.heap.size + 1 + 1) W W4 from ⟨hb4.mono HI.out.2.2.1.size, fun b _ ty v hv => boxed_below hv hb4⟩)
      have hbx : W4.heap[W3.heap.size]? = some (.cells #[.int .i64 d, .int .u64 (u : Int)] 33 (0, 0)) := by rw [hW4]; exact new_0 _ _
      have d0 : W4.cell? ⟨W3.heap.size, 0, none⟩ = some (.int .i64 d) := (cell_at hbx).trans rfl
      have d1 : W4.cell? ⟨W3.heap.size, 1, none⟩ = some (.int .u64 (u : Int)) := (cell_at hbx).trans rfl
      rw [← hW4]
      have hz3 : W.heap.size ≤ W3.heap.size := hb3.size
      have HZ3 := hid (show W2.heap.size ≤ W3.heap.size from Nat.le_trans HI.out.2.2.2 hz3)
      clear hW4 hb3 hb4 hst4 HI HR hbx hz3 HST
      obtain ⟨⟨v5, hv5, hr5, hG5⟩, hv6, hlow4, -⟩ := HI4.out
      obtain ⟨a5, k5, rfl⟩ := OwnS.form hr5
      obtain ⟨m, hm⟩ : ∃ m, m = (accR (pxs pre)).length := ⟨_, rfl⟩
      have HROW := hid (vec_row (OwnS.vec hr5))
      rw [← hm] at hv5
      have c5 := hv5.cell
      have c6 := hv6.cell
      have HM := hid hm
      have f2 := HR4.out.1.frozen
      have f3 := HR4.out.2.1.frozen
      have f4 := HR4.out.2.2.frozen
      have c2 := HR4.out.1.cell
      have c3 := HR4.out.2.1.cell
      have c4 := HR4.out.2.2.cell
      clear hv5 hr5 hG5 hv6 hlow4 hm
      rcases HQ.out with ⟨hk, hp⟩ | ⟨hk, hp⟩
      · subst hk
        have HP := hid hp
        rcases Nat.eq_zero_or_pos m with hm0 | hm0
        · have hacc : accR (pxs pre) = [] := List.eq_nil_of_length_eq_zero (by rw [← HM.out]; exact hm0)
          have HNR := hid (show noRise (accR (pxs pre)) (d, u) = false by rw [hacc]; rfl)
          subst hm0
          clear hp hacc
          refine region_round l hmx (by kernel_rfl) (by kernel_rfl) ?_
          repeat (gi_big_quiet_step (fail))
          refine wpQuietIn_nil ?_
          rintro _ ⟨nq, rfl⟩
          gi_wp2
          obtain ⟨a9, n9, k9, e9, -, hap⟩ := rd_app (rdI_drewN HI4.out nq) (Nat.le_refl _) (by omega) (by omega) (fun q hq => by omega) (by have := right_len HOK.out.1; omega) W2.heap.size
          obtain ⟨rfl, rfl, rfl⟩ : a9 = a5 ∧ n9 = 0 ∧ k9 = k5 := by
            have := (show W4.cell? ⟨w.heap.size + 1 + 1 + 1, 0, none⟩ = some (.slice a9 n9 k9) from e9)
            rw [c5] at this
            injection this with this
            injection this with h1 h2 h3
            exact ⟨h1.symm, h2.symm, h3.symm⟩
          obtain ⟨a8, k8, w8, hrun, g5, g6, H1, H2, H3, H4⟩ := hap (d, u)
          change Sem.run Tryd.prog (appV _ _ #[_, .slice (some ⟨W4.heap.size, 0, none⟩) 1 1]) _ = _ at hrun
          have u5 := H1.out.2.1.cell
          have u6 := H1.out.2.1.frozen
          clear hap e9
          gi_wp2_with fail
          obtain ⟨W6, hW6⟩ : ∃ W6, W6 = w8.setCell ⟨w.heap.size + 1 + 1 + 1, 0, none⟩ (.slice a8 (0 + 1) k8) := ⟨_, rfl⟩
          rw [← hW6] at H1 H2 H3 H4
          have hf := rd_fin (nq := 0) H1.out ((keeps_below nq HK4.out).trans H2.out) (KIt.trans (KIt.trans HT4.out (kIt_drewN _ _ _ _ W4 nq)) H3.out) (by omega) (by omega) (fun q hq => by omega) (wrap64 (atW pre + ((px.length : Int) + 1)))
          rw [World.drewN_zero] at hf
          have hres : Res w.heap.size (.slice none 0 0) 0 0 (W6.setCell ⟨w.heap.size + 1 + 1 + 1 + 1, 0, none⟩ (.int .i64 (wrap64 (atW pre + ((px.length : Int) + 1))))) :=
            ⟨(H4.out _ _ _ (by omega) (by decide) (show Boxed (W4.drewN nq) _ _ _ from HR4.out.1)).other (by omega) _, (H4.out _ _ _ (by omega) (by decide) (show Boxed (W4.drewN nq) _ _ _ from HR4.out.2.1)).other (by omega) _, (H4.out _ _ _ (by omega) (by decide) (show Boxed (W4.drewN nq) _ _ _ from HR4.out.2.2)).other (by omega) _⟩
          have hacc : accR (pxs (pre ++ [(⟨px, hpx⟩ : Px)])) = accR (pxs pre) ++ [(d, u)] := by rw [pxs_snoc]; exact accR_snoc HP.out
          have hatw := atW_snoc pre ⟨px, hpx⟩
          have hokn : OkR (pxs (pre ++ [(⟨px, hpx⟩ : Px)])) := by rw [pxs_snoc]; exact ok_next HOK.out HP.out HNR.out
          rw [hW6] at hf hres
          refine ⟨hf.1, hf.2.1, ?_, hres, hokn⟩
          rw [hacc, hatw]
          exact hf.2.2
        · obtain ⟨q, hq⟩ : ∃ q, m = q + 1 := ⟨m - 1, by omega⟩
          obtain ⟨y, hy, hyl⟩ := last_at (acc := accR (pxs pre)) (q := q) (by rw [← HM.out]; exact hq)
          obtain ⟨g, o, rfl, hg, hc⟩ := HROW.out.resolve_left (fun e => by rw [e] at hy; simp at hy)
          obtain ⟨y0, -⟩ := hc q y hy
          have hyl2 := rise_last (x := (d, u)) hyl
          have mI : (0 : Int) < (m : Int) := by omega
          have m1 : (m : Int) - 1 = (q : Int) := by omega
          have q0 : (0 : Int) ≤ (q : Int) := by omega
          have qI : (q : Int) < (m : Int) := by omega
          have qw := (wrap_two (k := q) (by have := right_len HOK.out.1; have := HM.out; omega)).1
          obtain ⟨e, eu⟩ := y
          simp only at y0 hyl2
          by_cases hle : d ≤ e
          · have HE9 := hid (show ∃ y, partO px = some y ∧ noRise (accR (pxs pre)) y = true from ⟨(d, u), hp, by rw [hyl2]; exact decide_eq_true hle⟩)
            clear hp hy hyl hyl2 hc hq
            refine region_round l hmx (by kernel_rfl) (by kernel_rfl) ?_
            repeat (gi_big_quiet_step (fail))
            refine wpQuietIn_nil ?_
            rintro _ ⟨nq, rfl⟩
            gi_wp2
            gi_region_o
            all_goals gi_wp2
            all_goals
              obtain ⟨t1, t2, t3⟩ := read_fail (f := atW pre) (j := nq + 1) HK4.out HR4.out HI4.out.2.2.1
              exact ⟨t1, rfl, by rw [List.dropLast_concat]; exact t2, t3, by rw [List.dropLast_concat]; exact HOK.out, ⟨px, hpx⟩, by rw [List.dropLast_concat], by rw [List.dropLast_concat]; exact Or.inr HE9.out⟩
          · have HNR := hid (show noRise (accR (pxs pre)) (d, u) = false by rw [hyl2]; exact decide_eq_false hle)
            have hle2 : ¬ d ≤ e := hle
            clear hp hy hyl hyl2 hc hle hq
            refine region_round l hmx (by kernel_rfl) (by kernel_rfl) ?_
            repeat (gi_big_quiet_step (fail))
            refine wpQuietIn_nil ?_
            rintro _ ⟨nq, rfl⟩
            gi_wp2
            obtain ⟨a9, n9, k9, e9, -, hap⟩ := rd_app (rdI_drewN HI4.out nq) (Nat.le_refl _) (by omega) (by omega) (fun q hq => by omega) (by have := right_len HOK.out.1; omega) W2.heap.size
            obtain ⟨rfl, rfl, rfl⟩ : a9 = (some ⟨g, o, none⟩) ∧ n9 = m ∧ k9 = k5 := by
              have := (show W4.cell? ⟨w.heap.size + 1 + 1 + 1, 0, none⟩ = some (.slice a9 n9 k9) from e9)
              rw [c5] at this
              injection this with this
              injection this with h1 h2 h3
              exact ⟨h1.symm, h2.symm, h3.symm⟩
            obtain ⟨a8, k8, w8, hrun, g5, g6, H1, H2, H3, H4⟩ := hap (d, u)
            change Sem.run Tryd.prog (appV _ _ #[_, .slice (some ⟨W4.heap.size, 0, none⟩) 1 1]) _ = _ at hrun
            have u5 := H1.out.2.1.cell
            have u6 := H1.out.2.1.frozen
            clear hap e9
            gi_wp2_with fail
            obtain ⟨W6, hW6⟩ : ∃ W6, W6 = w8.setCell ⟨w.heap.size + 1 + 1 + 1, 0, none⟩ (.slice a8 (n9 + 1) k8) := ⟨_, rfl⟩
            rw [← hW6] at H1 H2 H3 H4
            have hf := rd_fin (nq := 0) H1.out ((keeps_below nq HK4.out).trans H2.out) (KIt.trans (KIt.trans HT4.out (kIt_drewN _ _ _ _ W4 nq)) H3.out) (by omega) (by omega) (fun q hq => by omega) (wrap64 (atW pre + ((px.length : Int) + 1)))
            rw [World.drewN_zero] at hf
            have hres : Res w.heap.size (.slice none 0 0) 0 0 (W6.setCell ⟨w.heap.size + 1 + 1 + 1 + 1, 0, none⟩ (.int .i64 (wrap64 (atW pre + ((px.length : Int) + 1))))) :=
              ⟨(H4.out _ _ _ (by omega) (by decide) (show Boxed (W4.drewN nq) _ _ _ from HR4.out.1)).other (by omega) _, (H4.out _ _ _ (by omega) (by decide) (show Boxed (W4.drewN nq) _ _ _ from HR4.out.2.1)).other (by omega) _, (H4.out _ _ _ (by omega) (by decide) (show Boxed (W4.drewN nq) _ _ _ from HR4.out.2.2)).other (by omega) _⟩
            have hacc : accR (pxs (pre ++ [(⟨px, hpx⟩ : Px)])) = accR (pxs pre) ++ [(d, u)] := by rw [pxs_snoc]; exact accR_snoc HP.out
            have hatw := atW_snoc pre ⟨px, hpx⟩
            have hokn : OkR (pxs (pre ++ [(⟨px, hpx⟩ : Px)])) := by rw [pxs_snoc]; exact ok_next HOK.out HP.out HNR.out
            rw [hW6] at hf hres
            refine ⟨hf.1, hf.2.1, ?_, hres, hokn⟩
            rw [hacc, hatw]
            exact hf.2.2
      · subst hk
        have HP := hid hp
        clear hp
        refine region_round l hmx (by kernel_rfl) (by kernel_rfl) ?_
        repeat (gi_big_quiet_step (fail))
        refine wpQuietIn_nil ?_
        rintro _ ⟨nq, rfl⟩
        gi_wp2
        gi_region_o
        all_goals gi_wp2
        all_goals
          obtain ⟨t1, t2, t3⟩ := read_fail (f := atW pre) (j := nq + 1) HK4.out HR4.out HI4.out.2.2.1
          exact ⟨t1, rfl, by rw [List.dropLast_concat]; exact t2, t3, by rw [List.dropLast_concat]; exact HOK.out, ⟨px, hpx⟩, by rw [List.dropLast_concat], Or.inl HP.out⟩
    case done =>
      rintro D ys W hD hS ⟨⟨⟨v, hv, hr, hG⟩, hv5, hlow, hz⟩, hR, hok⟩ hK
      have HE2 := hid (show readP s.data.toList = (accR (pxs ys), 0, 0) by
        have := hok.2 []
        rw [List.append_nil, goR, hS] at this
        rw [HE.out, this, hS])
      have HS2 := hid hS
      clear hS
      have hne : ∀ b ty u, Boxed W b ty u → ty ≠ 33 → v.ownBlock ≠ some b := fun b ty u hb ht e => by
        obtain ⟨_, cs, hc⟩ := own_block hr e
        rw [show W.heap[b]? = _ from hb] at hc
        cases hc
        exact ht rfl
      have hneD : v.ownBlock ≠ some D := fun e => by
        obtain ⟨_, cs, hc⟩ := own_block hr e
        rw [hK] at hc
        cases hc
      have c5 := hv.cell
      obtain ⟨a5, k5, rfl⟩ := OwnS.form hr
      have c2 := hR.1.cell
      have c3 := hR.2.1.cell
      have c4 := hR.2.2.cell
      have f2 := hR.1.frozen
      have f3 := hR.2.1.frozen
      have f4 := hR.2.2.frozen
      have hR1 := res_set (v' := .slice a5 (accR (pxs ys)).length k5) (f' := 0) (e' := 0) hR
      obtain ⟨V, hV⟩ : ∃ V, V = ((W.setCell ⟨w.heap.size, 0, none⟩ (.slice a5 (accR (pxs ys)).length k5)).setCell ⟨w.heap.size + 1, 0, none⟩ (.int .i64 0)).setCell ⟨w.heap.size + 1 + 1, 0, none⟩ (.int .i64 0) := ⟨_, rfl⟩
      have hk : KeepsFrom W2.heap.size W V := by rw [hV]; exact (((KeepsOthers.setCell _ _ _).trans (KeepsOthers.setCell _ _ _)).trans (KeepsOthers.setCell _ _ _)).from _
      have hK' := hk.same D _ hD hK rfl
      have hlV : Below w.heap.size w V := by rw [hV]; exact ((hlow.setCell (p := ⟨w.heap.size, 0, none⟩) (Nat.le_refl _) _).setCell (p := ⟨w.heap.size + 1, 0, none⟩) (by simp) _).setCell (p := ⟨w.heap.size + 1 + 1, 0, none⟩) (by simp; omega) _
      have hrV : OwnS V w.heap.size (.slice a5 (accR (pxs ys)).length k5) (accR (pxs ys)) := by
        rw [hV]
        exact row_kept (row_kept (row_kept hr (grownBy_setCell' _ _ _) (fun q hq => by cases hq; exact hne _ _ _ hR.1 (by decide))) (grownBy_setCell' _ _ _) (fun q hq => by cases hq; exact hne _ _ _ hR.2.1 (by decide))) (grownBy_setCell' _ _ _) (fun q hq => by cases hq; exact hne _ _ _ hR.2.2 (by decide))
      rw [← hV] at hR1
      have HF := hid (And.intro hR1 (And.intro hK' (And.intro hlV hrV)))
      have HND := hid hneD
      clear hne hneD hR1 hK' hlV hrV hk hok hR hv hr hG hv5 hz
      gi_wp2
      rw [← hV]
      obtain ⟨hR1, hK', hlV, hrV⟩ := HF.out
      refine ⟨by simp, .inl ⟨_, _, rfl, run_takeDeferred hK', ?_⟩⟩
      have q2 := (hR1.1.kept (grownBy_putObj' _ D (.deferred none)) (fun e => by injection e with e; omega)).cell
      have q3 := (hR1.2.1.kept (grownBy_putObj' _ D (.deferred none)) (fun e => by injection e with e; omega)).cell
      have q4 := (hR1.2.2.kept (grownBy_putObj' _ D (.deferred none)) (fun e => by injection e with e; omega)).cell
      refine ⟨.tuple #[.slice a5 (accR (pxs ys)).length k5, .int .i64 0, .int .i64 0], ?_, .slice a5 (accR (pxs ys)).length k5, by rw [HE2.out]; rfl, by rw [HE2.out]; exact row_kept hrV (grownBy_putObj' _ D (.deferred none)) (fun q hq => by cases hq; exact HND.out), hlV.trans (belowK_b (w := w) (Nat.le_refl _) _ D _ _ (by omega) hK' rfl rfl)⟩
      simp [results, Tryd.f14, go_sem, q2, q3, q4]
    case stop =>
      rintro D pre W hD hS ⟨hR, hB9, hok, x, hx, hbad⟩ hK
      obtain ⟨q, hq⟩ : ∃ q, q = pre.dropLast := ⟨_, rfl⟩
      rw [← hq] at hR hok hx hbad
      obtain ⟨t, ht⟩ := hS
      have hat := atW_at s.data.toList HS0.out q.length q rfl ⟨x.1 :: t, by rw [← ht, hx, pxs_snoc, List.append_assoc]; rfl⟩
      have HE2 := hid (show readP s.data.toList = ([], atR (pxs q), 21) by
        rw [HE.out, ← ht, hx, pxs_snoc]
        exact ok_bad hok hbad t)
      have HAT := hid hat
      have HR := hid hR
      have HB9 := hid hB9
      have HKD := hid hK
      clear hat ht hx hbad hok hq hR hB9
      gi_wp2
      refine ⟨by simp, .inl ⟨_, _, rfl, run_takeDeferred HKD.out, ?_⟩⟩
      have q2 := (HR.out.1.kept (grownBy_putObj' _ D (.deferred none)) (fun e => by injection e with e; omega)).cell
      have q3 := (HR.out.2.1.kept (grownBy_putObj' _ D (.deferred none)) (fun e => by injection e with e; omega)).cell
      have q4 := (HR.out.2.2.kept (grownBy_putObj' _ D (.deferred none)) (fun e => by injection e with e; omega)).cell
      refine ⟨.tuple #[.slice none 0 0, .int .i64 (atW q), .int .i64 21], ?_, .slice none 0 0, by rw [HE2.out, HAT.out], by rw [HE2.out]; exact World.ownsRow_nil _ _ _ _, HB9.out.trans (belowK_b (w := w) (Nat.le_refl _) _ D _ _ (by omega) HKD.out rfl rfl)⟩
      simp [results, Tryd.f14, go_sem, q2, q3, q4]
end Go.Proofs.YtibbbjikehkbmabDoor.Ve
namespace Go.Proofs.YtibbbjikehkbmabDoor.Ve
open Go.RowKit

theorem vec_laid {w : World} {cs : Array Value} {t : TypeId} {l : List St} {b n : Nat} (hb : b = w.heap.size) (h : cs.toList = flatS l) (hn : n = l.length) : VecV (w.alloc (.cells cs t)) (.slice (some ⟨b, 0, none⟩) n n) l := by
  subst hb
  refine ⟨some ⟨w.heap.size, 0, none⟩, n, by rw [hn], by omega, fun q => (by cases q), Or.inr ⟨w.heap.size, 0, rfl, by simp, fun j s hj => ?_⟩⟩
  obtain ⟨h0, h1⟩ := flatS_get hj
  rw [← h] at h0 h1
  rw [Nat.zero_add, cell_news, cell_news, ← Array.getElem?_toList, ← Array.getElem?_toList]
  exact ⟨h0, h1⟩
def vA : List St := [(0, 1), (2, 5)]
def vB : List St := [(2, 5), (3, 1)]
def vC : List St := [(0, 1), (2, 5), (3, 1)]
theorem mrg_awake : mrgP [vA, vB] = (vC, true, 0) := by decide +kernel
theorem vtx_awake : vtx vC = [48, 58, 49, 32, 50, 58, 53, 32, 51, 58, 49] := by decide +kernel
theorem right_C : Right vC := by decide +kernel
set_option maxRecDepth 20000 in
set_option maxHeartbeats 2000000 in
theorem awake_any (w : World) : Calls Tryd.prog 11 #[] w fun e w' => e = .returned (.bool true) ∧ Below w.heap.size w w' := by
  obtain ⟨W1, hW1⟩ : ∃ W1, W1 = (w.alloc (.cells #[.int .i64 0, .int .u64 1, .int .i64 2, .int .u64 5] 33)).alloc (.cells #[.int .i64 2, .int .u64 5, .int .i64 3, .int .u64 1] 33) := ⟨_, rfl⟩
  have z1 : W1.heap.size = w.heap.size + 1 + 1 := by rw [hW1]; simp
  have hB1 : Below w.heap.size w W1 := by rw [hW1]; exact ((Below.refl _ w).alloc (Nat.le_refl _) _).alloc (by simp) _
  have va : VecV W1 (.slice (some ⟨w.heap.size, 0, none⟩) 2 2) vA := by
    rw [hW1]
    exact (vec_laid (w := w) (cs := #[.int .i64 0, .int .u64 1, .int .i64 2, .int .u64 5]) (t := 33) (l := vA) rfl rfl rfl).below (below_al _ _)
  have vb : VecV W1 (.slice (some ⟨w.heap.size + 1, 0, none⟩) 2 2) vB := by
    rw [hW1]
    exact vec_laid (l := vB) (by simp) rfl rfl
  have hv := vecs_two (t := 23) (n := w.heap.size + 1 + 1) z1.symm va vb
  have HM := hid (Merge_any hv (by simp [maxLen]) (fun l hl => by simp at hl; rcases hl with rfl | rfl <;> simp [maxLen, vA, vB]))
  rw [mrg_awake] at HM
  have HB := hid (hB1.alloc hB1.size (.cells #[.slice (some ⟨w.heap.size, 0, none⟩) 2 2, .slice (some ⟨w.heap.size + 1, 0, none⟩) 2 2] 23))
  have HVT := hid vtx_awake
  clear hv va vb z1 hB1
  subst hW1
  go_enter Tryd.func11, Tryd.ntmps11
  go_wp2_with fail
  refine HM.out.mono ?_
  rintro e w1 ⟨v1, rfl, ho, hb1⟩
  have HB1 := hid (HB.out.trans (hb1.mono HB.out.size))
  have HX := hid (Text_ok ho.vec right_C (by decide) (fun s hs => by
    have : ∀ s ∈ vC, (stS s).length ≤ 24 := by decide +kernel
    exact this s hs) (fun s hs W _ => by
    obtain ⟨d, u⟩ := s
    have hd : ∀ s ∈ vC, (0 ≤ s.1 ∧ s.1 < 100) ∧ s.2 < 100 := by decide
    obtain ⟨⟨h1, h2⟩, h3⟩ := hd _ hs
    obtain ⟨k, rfl⟩ : ∃ k : Nat, d = (k : Int) := ⟨d.toNat, by simp only at h1; omega⟩
    exact textOf_small k u (by simp only at h2; omega) h3 W))
  obtain ⟨a, c, e⟩ := ho.form
  subst e
  clear ho hb1
  rw [HVT.out] at HX
  go_wp2_with fail
  refine HX.out.mono ?_
  rintro e w2 ⟨rfl, hb2⟩
  go_wp2
  go_ret
  exact ⟨by rfl, HB1.out.trans (hb2.mono HB1.out.size)⟩
end Go.Proofs.YtibbbjikehkbmabDoor.Ve
namespace Go.Proofs.YtibbbjikehkbmabDoor.Ve
open Go.RowKit

theorem tSame {w : World} {v1 v2 : Value} {l : List St} (h1 : VecV w v1 l) (h2 : VecV w v2 l) (hl : l.length ≤ maxLen) : Calls Tryd.prog 8 #[v1, v2] w fun e w' => e = .returned (.bool true) ∧ ∃ n, w' = w.drewN n := by
  have h := RSame_any h1 h2 hl hl
  rw [show decide (l = l) = true from decide_eq_true rfl] at h
  exact h
theorem readP_right (s : List UInt8) : Right (readP s).1 := by
  unfold readP
  split
  · exact right_nil
  · exact goR_len right_nil
theorem tForm {w : World} {B : Nat} {v : Value} {l : List St} (h : OwnS w B v l) : ∃ a n c, v = .slice a n c := by
  obtain ⟨a, c, e⟩ := h.form
  exact ⟨a, _, c, e⟩
theorem vtx_len {a : List St} (hr : Right a) (hu : U64 a) : (vtx a).length ≤ 6400 := by
  unfold vtx
  split
  · simp
  · have h := join_lenV (xs := a.map stS) (fun x hx => by
      obtain ⟨s, hs, rfl⟩ := List.mem_map.1 hx
      exact stS_len (hr.1 s hs) (hu s hs))
    rw [List.length_map] at h
    have := right_len hr
    omega
set_option maxRecDepth 20000 in
set_option maxHeartbeats 4000000 in
theorem vtexts_any {w : World} {v : Value} {a : List St} (s : ByteArray) (ha : VecV w v a) (la : a.length ≤ maxLen) (hu : U64 a) (hs : s.size ≤ 281474976710656) (hw : Tabs w) :
    Calls Tryd.prog 4 #[v, .string s] w fun e w' => e = .returned (.bool true) ∧ Below w.heap.size w w' := by
  have HA := hid ha
  have HLA := hid la
  have T1 := hid (fun W (hb : Below w.heap.size w W) => Text_any (HA.out.below hb) la hu (hw.below hb).1)
  have T2 := hid (fun W (hb : Below w.heap.size w W) => RText_any (HA.out.below hb) la hu (hw.below hb).1)
  have R1 := hid (fun W (hb : Below w.heap.size w W) => Read_any s hs (hw.below hb))
  have R2 := hid (fun W (hb : Below w.heap.size w W) => RRead_any s hs (hw.below hb))
  have HRR := hid (readP_right s.data.toList)
  obtain ⟨⟨c, n, g⟩, hp⟩ : ∃ p, p = readP s.data.toList := ⟨_, rfl⟩
  rw [← hp] at R1 R2 HRR
  have HLC := hid (show c.length ≤ maxLen by have := right_len HRR.out; unfold maxLen; simp only at this; omega)
  simp only at R1 R2
  obtain ⟨ao, ca, rfl, -, -, -⟩ := ha
  obtain ⟨m, hm⟩ : ∃ m, m = a.length := ⟨_, rfl⟩
  rw [← hm] at HA T1 T2 ⊢
  have HW := hid awake_any
  have H0 := hid (Below.refl w.heap.size w)
  have hn : ((n : Int) != (n : Int)) = false := bne_self_eq_false _
  have hg : (g != g) = false := bne_self_eq_false _
  by_cases hr : Right a
  · have hE : txtP a = (vtx a, 0) := by unfold txtP; rw [if_pos hr]
    rw [hE] at T1 T2
    have R3 := hid (fun W (hb : Below w.heap.size w W) => Read_any (txV (vtx a)) (by rw [txV_size]; have := vtx_len hr hu; omega) (hw.below hb))
    rw [show (txV (vtx a)).data.toList = vtx a from rfl, read_text hr hu] at R3
    obtain ⟨t, ht⟩ : ∃ t, t = txV (vtx a) := ⟨_, rfl⟩
    simp only at T1 T2 R3
    rw [← ht] at T1 T2 R3
    clear hp hm hE ht hr hu hw hs la HRR
    go_enter Tryd.func4, Tryd.ntmps4
    go_wp2_with fail
    refine (T1.out _ H0.out).mono ?_
    rintro e w1 ⟨rfl, hb⟩
    have H1 := hid hb
    clear hb
    go_wp2_with fail
    refine (T2.out _ H1.out).mono ?_
    rintro e w2 ⟨rfl, hb⟩
    have H2 := hid (below_tr H1.out hb)
    clear hb
    go_wp2_with fail
    refine (R1.out _ H2.out).mono ?_
    rintro e w3 ⟨v3, rfl, ho, hb⟩
    have V3 := hid ho.vec
    obtain ⟨a3, n3, c3, rfl⟩ := tForm ho
    have H3 := hid (below_tr H2.out hb)
    clear hb ho
    go_wp2_with fail
    refine (R2.out _ H3.out).mono ?_
    rintro e w4 ⟨v4, rfl, ho, hb⟩
    have V3 := hid (V3.out.below hb)
    have V4 := hid ho.vec
    obtain ⟨a4, n4, c4, rfl⟩ := tForm ho
    have H4 := hid (below_tr H3.out hb)
    clear hb ho
    go_wp2_with fail
    refine (tSame V3.out V4.out HLC.out).mono ?_
    rintro e w5 ⟨rfl, hd⟩
    have H5 := hid (below_tr H4.out (drew_below hd))
    clear hd
    go_wp2_with fail
    refine (HW.out w5).mono ?_
    rintro e w6 ⟨rfl, hb⟩
    have H6 := hid (below_tr H5.out hb)
    clear hb
    go_wp2_with fail
    refine (R3.out _ H6.out).mono ?_
    rintro e w7 ⟨v7, rfl, ho, hb⟩
    have V7 := hid ho.vec
    obtain ⟨a7, n7, c7, rfl⟩ := tForm ho
    have H7 := hid (below_tr H6.out hb)
    clear hb ho
    go_wp2_with fail
    refine (tSame V7.out (HA.out.below H7.out) HLA.out).mono ?_
    rintro e w8 ⟨rfl, hd⟩
    have H8 := hid (below_tr H7.out (drew_below hd))
    clear hd
    go_wp2
    go_ret
    exact ⟨by rfl, H8.out⟩
  · have hE : txtP a = ([], 160) := by unfold txtP; rw [if_neg hr]
    rw [hE] at T1 T2
    simp only at T1 T2
    clear hp hm hE hr hu hw hs la HRR
    go_enter Tryd.func4, Tryd.ntmps4
    go_wp2_with fail
    refine (T1.out _ H0.out).mono ?_
    rintro e w1 ⟨rfl, hb⟩
    have H1 := hid hb
    clear hb
    go_wp2_with fail
    refine (T2.out _ H1.out).mono ?_
    rintro e w2 ⟨rfl, hb⟩
    have H2 := hid (below_tr H1.out hb)
    clear hb
    go_wp2_with fail
    refine (R1.out _ H2.out).mono ?_
    rintro e w3 ⟨v3, rfl, ho, hb⟩
    have V3 := hid ho.vec
    obtain ⟨a3, n3, c3, rfl⟩ := tForm ho
    have H3 := hid (below_tr H2.out hb)
    clear hb ho
    go_wp2_with fail
    refine (R2.out _ H3.out).mono ?_
    rintro e w4 ⟨v4, rfl, ho, hb⟩
    have V3 := hid (V3.out.below hb)
    have V4 := hid ho.vec
    obtain ⟨a4, n4, c4, rfl⟩ := tForm ho
    have H4 := hid (below_tr H3.out hb)
    clear hb ho
    go_wp2_with fail
    refine (tSame V3.out V4.out HLC.out).mono ?_
    rintro e w5 ⟨rfl, hd⟩
    have H5 := hid (below_tr H4.out (drew_below hd))
    clear hd
    go_wp2_with fail
    refine (HW.out w5).mono ?_
    rintro e w6 ⟨rfl, hb⟩
    have H6 := hid (below_tr H5.out hb)
    clear hb
    go_wp2
    go_ret
    exact ⟨by rfl, H6.out⟩
end Go.Proofs.YtibbbjikehkbmabDoor.Ve
namespace Go.Proofs.YtibbbjikehkbmabDoor.Ve
open Go.ChangeShapes Go.WideShapes Go.ChangeAt Go.RowKit

theorem row_bound {H : Type} {enc : TypeId × Value → H} {w : World} {base : Nat} {held : Bool} {t : TypeId} (ht : Tryd.prog.underlying t = some (.slice 33)) {fuel : Nat} {ao : Option Addr} {len cap : Nat} {x : DataW H × List MemPlace} (h : DataW.trod enc Tryd.prog w base (fun _ => true) held fuel t [.slice ao len cap] = some x) (hw : ∀ k ∈ x.1.weights Tryd.prog t, k ≤ reachBytes) : len * 16 ≤ reachBytes := by
  rcases DataW.trod_slice ht h with ⟨hcs, _⟩ | ⟨a, n, c, elems, rest, n2, hn2, hcs, hxe, _, hlc, hlm, hel, helem, _, _⟩
  · simp only [List.cons.injEq, and_true] at hcs
    injection hcs with _ e _
    subst e
    simp
  · simp only [List.cons.injEq, and_true] at hcs
    injection hcs with _ e _
    subst e
    have h1 := hw _ (by rw [hxe]; simp only [DataW.weights, ht]; exact List.mem_cons_self)
    rw [show Tryd.prog.bytesOf 33 = 16 by kernel_rfl] at h1
    simp only [List.length_map] at h1
    exact Nat.le_trans (Nat.mul_le_mul_right 16 (by omega)) h1
end Go.Proofs.YtibbbjikehkbmabDoor.Ve
namespace Go.Proofs.YtibbbjikehkbmabDoor.Ve
open Go.ChangeShapes Go.WideShapes Go.ChangeAt Go.RowKit

theorem star_err : "*" ++ "errors.errorString" = "*errors.errorString" := by decide
theorem row_err (u : TypeId) (h : Tryd.prog.typeName? 3 u = some "*errors.errorString") : u = 133 :=
  typeName_ptr_named (nm := "errors.errorString") (by rw [star_err]; kernel_rfl) (by kernel_rfl) (by decide) u (by rw [star_err]; exact h)
section
variable {H : Type} {enc : TypeId × Value → H} {w : World} {base : Nat} {held : Bool}
theorem st_u64 {fuel : Nat} {cs : List Value} {x : DataW H × List MemPlace} (h : DataW.trod enc Tryd.prog w base (fun _ => true) held fuel 33 cs = some x) {s : St} (hs : cs = [.int .i64 s.1, .int .u64 (s.2 : Int)]) : s.2 < 18446744073709551616 := by
  obtain ⟨fs, hfs, hl⟩ := structOfV (P := Tryd.prog) (t := 33) (l := [(3, 0), (31, 1)]) (by kernel_rfl)
  obtain ⟨xs, n, _, _, hlen, hxl, hf⟩ := DataW.trod_struct hfs h
  have hsz : fs.size = 2 := by have := congrArg List.length hl; simpa using this
  subst hs
  obtain ⟨f1, e1, t1, o1⟩ := fieldOfV hl (i := 1) rfl
  have g1 := hf 1 f1 e1
  rw [t1, o1, show Tryd.prog.cellsOf 31 = 1 by kernel_rfl, List.getElem?_eq_getElem (show 1 < xs.length by omega)] at g1
  obtain ⟨b, hb, _, hw⟩ := DataW.trod_int Tryd.underlying31 g1
  have := bounds_u64 hw
  simp at hb
  omega
/-- The versions of a vector that came in. -/
theorem row_u64 {t : TypeId} (ht : Tryd.prog.underlying t = some (.slice 33)) {fuel : Nat} {ao : Option Addr} {len cap : Nat} {x : DataW H × List MemPlace} {l : List St} (h : DataW.trod enc Tryd.prog w base (fun _ => true) held fuel t [.slice ao len cap] = some x) (hv : VecV w (.slice ao len cap) l) : U64 l := by
  obtain ⟨a', c', e, _, _, hr⟩ := hv
  injection e with e1 e2 _
  subst e1
  intro s hs
  obtain ⟨i, hi⟩ := List.getElem?_of_mem hs
  have hil := (List.getElem?_eq_some_iff.1 hi).1
  rcases DataW.trod_slice ht h with ⟨hcs, _⟩ | ⟨a, n, c, elems, rest, n2, hn2, hcs, _, _, hlc, hlm, hel, helem, _, _⟩
  · simp only [List.cons.injEq, and_true] at hcs
    injection hcs with _ e3 _
    omega
  · simp only [List.cons.injEq, and_true] at hcs
    injection hcs with e3 e4 _
    obtain ⟨g, o, e5, _, hc⟩ := hr.resolve_left (fun q => by rw [q] at hi; simp at hi)
    rw [e5] at e3
    injection e3 with e3
    subst e3
    rw [show Tryd.prog.cellsOf 33 = 2 by kernel_rfl] at helem
    have h1 := helem i (by omega)
    rw [List.getElem?_eq_getElem (show i < elems.length by omega), Option.bind_eq_some_iff] at h1
    obtain ⟨cs', h2, h3⟩ := h1
    obtain ⟨hl2, _, hcell⟩ := World.cells?_some h2
    obtain ⟨c0, c1⟩ := hc i s hi
    refine st_u64 h3 (s := s) ?_
    match cs', hl2 with
    | [x0, x1], _ =>
      have k0 : w.cell? ⟨g, o + i * 2, none⟩ = some x0 := by
        have := hcell 0 (by simp)
        rw [addr_addS, addr_addS] at this
        exact this
      have k1 : w.cell? ⟨g, o + i * 2 + 1, none⟩ = some x1 := by
        have := hcell 1 (by simp)
        rw [addr_addS, addr_addS] at this
        exact this
      rw [c0] at k0
      rw [c1] at k1
      simp only [Option.some.injEq] at k0 k1
      rw [k0, k1]
end
end Go.Proofs.YtibbbjikehkbmabDoor.Ve
namespace Go.Proofs.YtibbbjikehkbmabDoor
open Go.ChangeShapes Go.WideShapes Go.ChangeAt Go.RowKit Ve
open Go.ChangeMaps (open_string shut_string)

theorem GCTxt.pow {W : World} (h : laidMetH Tryd.prog Rows.vectorTextsRow.laid W) : Ve.PowTab W := by
  rw [MakeChecks.laidMetH_plain _ _ _ (by kernel_rfl)] at h
  have hF := h.filter (fun x => x.1 == "internal/strconv.uint64pow10")
  rw [show Rows.vectorTextsRow.laid.filter (fun x => x.1 == "internal/strconv.uint64pow10") = [("internal/strconv.uint64pow10", Lib.tabData .u64 Lib.pow10Tab)] by kernel_rfl] at hF
  exact Lib.tabIs_of_head (g := 0) (t := 117) (e := 31) (n := 20) (by kernel_rfl) (by kernel_rfl) (by kernel_rfl) (by kernel_rfl) (by kernel_rfl) (by kernel_rfl) hF
theorem GCTxt.syn {W : World} (h : laidMetH Tryd.prog Rows.vectorTextsRow.laid W) : Ve.ErrAt "strconv.ErrSyntax" W := by
  rw [MakeChecks.laidMetH_plain _ _ _ (by kernel_rfl)] at h
  have hF := h.filter (fun x => x.1 == "strconv.ErrSyntax")
  rw [show Rows.vectorTextsRow.laid.filter (fun x => x.1 == "strconv.ErrSyntax") = [("strconv.ErrSyntax", .iface "*errors.errorString" (.ptr (.agg [.lit (.string [105, 110, 118, 97, 108, 105, 100, 32, 115, 121, 110, 116, 97, 120])])))] by kernel_rfl] at hF
  obtain ⟨a, s, h1, _, _, _⟩ := laid_sentinel (g := 4) hF (by kernel_rfl) (by kernel_rfl) Tryd.underlying77 Ve.row_err Tryd.underlying133 Tryd.underlying135 rfl rfl Tryd.underlying9 (by kernel_rfl) (by kernel_rfl)
  exact ⟨_, _, h1⟩
theorem GCTxt.rng {W : World} (h : laidMetH Tryd.prog Rows.vectorTextsRow.laid W) : Ve.ErrAt "strconv.ErrRange" W := by
  rw [MakeChecks.laidMetH_plain _ _ _ (by kernel_rfl)] at h
  have hF := h.filter (fun x => x.1 == "strconv.ErrRange")
  rw [show Rows.vectorTextsRow.laid.filter (fun x => x.1 == "strconv.ErrRange") = [("strconv.ErrRange", .iface "*errors.errorString" (.ptr (.agg [.lit (.string [118, 97, 108, 117, 101, 32, 111, 117, 116, 32, 111, 102, 32, 114, 97, 110, 103, 101])])))] by kernel_rfl] at hF
  obtain ⟨a, s, h1, _, _, _⟩ := laid_sentinel (g := 5) hF (by kernel_rfl) (by kernel_rfl) Tryd.underlying77 Ve.row_err Tryd.underlying133 Tryd.underlying135 rfl rfl Tryd.underlying9 (by kernel_rfl) (by kernel_rfl)
  exact ⟨_, _, h1⟩
theorem GCTxt.tabs {W : World} (h : laidMetH Tryd.prog Rows.vectorTextsRow.laid W) : Ve.Tabs W := ⟨GCTxt.pow h, GCTxt.syn h, GCTxt.rng h⟩
set_option maxRecDepth 100000 in
set_option maxHeartbeats 2000000 in
theorem GCTxt.lifted (os : Os) (started : os.Started) (H : Type) (enc : TypeId × Value → H) :
    ReturnsInHanded {} Tryd.checked os 4 .any (fun w args => (Rows.vectorTextsSpec.pre enc Tryd.prog Tryd.f4 [] false w args ∧ laidMetH Tryd.prog Rows.vectorTextsRow.laid w) ∧ sizedMet enc Tryd.prog Tryd.f4 (OpenSpec.ofChange Rows.vectorTextsSpec) false w args)
      (Rows.vectorTextsSpec.post enc Tryd.prog Tryd.f4 false true false false) := by
  refine returnsInHanded_of_change_and (C := Tryd.checked) (X := fun w _ => laidMetH Tryd.prog Rows.vectorTextsRow.laid w) (fun _ _ _ hh h => h.of_heap hh) Ve.own started (by kernel_rfl) Tryd.func4
    (ChangeSpec.witness_shaped (enc := enc) (C := Tryd.checked) (os := os) (X := fun w _ => laidMetH Tryd.prog Rows.vectorTextsRow.laid w) false (World.laidAll Tryd.prog os Rows.vectorTextsRow.laid) #[.slice none 0 0, .string ByteArray.empty] 8 (World.laidAll_os _ _ _)
      (World.shaped_of_ZipB (by kernel_rfl) (by kernel_rfl)) (by kernel_rfl) (by kernel_rfl) (by kernel_rfl)
      (by rw [MakeChecks.laidMetH_plain _ _ _ (by kernel_rfl)]; exact laidMet_laidAll _ (by kernel_rfl) (by kernel_rfl))) ?_
  intro W base args ds gs before hval0 hW _ hsz hL _
  have hval : ∀ (j : Nat) t v, Tryd.f4.params[j]? = some t → args[j]? = some v → Value.okWide Tryd.prog W .any base t v := hval0
  have hW' := hW
  obtain ⟨p, q, hA0, hV, rfl, _, _⟩ := hW
  have hA : DataW.TrodAll enc Tryd.prog W 0 (fun _ => true) true Tryd.f4.params.toList args.toList ds p := hA0
  rw [Tryd.params4] at hA hval
  obtain ⟨v0, vs0, d0, ds0, p0, q0, hargs, rfl, rfl, h0, r0⟩ := trodAll_cons hA
  obtain ⟨v1, vs1, d1, ds1, p1, q1, rfl, rfl, rfl, h1, r1⟩ := trodAll_cons r0
  obtain ⟨rfl, rfl, rfl⟩ := trodAll_nil r1
  obtain rfl : args = #[v0, v1] := by cases args; simp_all
  obtain ⟨rfl, rfl⟩ := trodVars_none hV
  obtain ⟨a0, len0, cap0, rfl⟩ := okWide_slice Tryd.underlying23 (hval 0 23 v0 rfl rfl)
  have k0 := h0
  have lt0 : ∀ x ∈ p0, x.block < W.heap.size := by obtain ⟨m, hm⟩ := k0; exact DataW.trod_lt m _ _ _ hm
  obtain ⟨l0, hl0, hn0⟩ : ∃ l : List St, VecV W (.slice a0 len0 cap0) l ∧ l.length ≤ maxLen := by
    obtain ⟨fuel, hf⟩ := h0
    exact open_row Tryd.underlying23 hf
  have hu0 : Ve.U64 l0 := by
    obtain ⟨fuel, hf⟩ := k0
    exact Ve.row_u64 Tryd.underlying23 hf hl0
  have hw1 : ∀ k ∈ d1.weights Tryd.prog 9, k ≤ reachBytes := fun k hk => of_decide_eq_true (List.all_eq_true.1 hsz k (DataW.weights_mem_each (j := 1) (t := 9) (d := d1) (by rw [Tryd.params4]; rfl) rfl k hk))
  obtain ⟨s1, rfl, rfl, rfl, ws1⟩ := open_string Tryd.underlying9 (hval 1 9 v1 rfl rfl) h1
  have hq1 : s1.size ≤ 281474976710656 := by
    have h9 := hw1 s1.data.toList.length (by simp [DataW.weights])
    rw [Ve.bytes_len] at h9
    exact Nat.le_trans h9 (by decide)
  simp only [List.append_nil] at hW'
  refine (vtexts_any s1 hl0 hn0 hu0 hq1 (GCTxt.tabs hL)).mono fun e W' ⟨he, hb⟩ => ?_
  subst he
  exact ⟨_, rfl, _, _, _, [], _, [], hW', trodAll_mk1 (shut_bool Tryd.underlying4 _), (trodAll_cons_mk (Below.trod Ve.laidOut (by kernel_rfl) (of_decide_eq_true (by kernel_rfl)) k0 hb lt0) (trodAll_cons_mk (shut_string Tryd.underlying9 ws1) trodAll_mk0)), rfl, hb.frame _, fun h => by cases h⟩

theorem GCTxt.holds : Rows.VectorTextsSaid :=
  OpenClaim.holds_of_wide 4 Tryd.f4 rfl rfl rfl rfl rfl rfl rfl ⟨rfl, rfl, rfl, rfl, rfl⟩ rfl rfl rfl rfl rfl (by kernel_rfl) Tryd.func4 (by kernel_rfl)
    (of_decide_eq_true (by kernel_rfl)) (by unfold Func.isWrapper; first | (rw [if_pos (by decide +kernel)]; kernel_rfl) | (rw [if_neg (by decide +kernel)]; exact ⟨rfl, rfl⟩))
    (fun os started H enc _ => GCTxt.lifted os started H enc)

theorem VectorTexts_holds : Rows.VectorTextsCardSaid :=
  Claim7.holds_tied_plain_at .later [] [.data, .data, .data, .data, .sentinel, .sentinel, .pinned] true (true, "5e9ae0690197c78e296f56478f174566fe655fc2c4ebda5f6382cf85d0ee08bc") true GCTxt.holds (fun _ h => by cases h) (by kernel_rfl) (fun _ h => by cases h) vectorTexts_row_tie rfl ⟨rfl, rfl⟩ (by kernel_rfl) rfl
    (fun f fn hf hfn => by
      obtain rfl : f = 4 := Option.some.inj ((show Tryd.prog.funcNamed "milestone/milestonelaw16.VectorTexts" = some 4 by kernel_rfl).symm.trans hf) |>.symm
      obtain rfl : fn = Tryd.f4 := (Option.some.inj (Tryd.func4.symm.trans hfn)).symm
      exact ⟨by kernel_rfl, fun j t ht => by
        rw [Tryd.params4] at ht
        have hm : t ∈ [23, 9] := by simpa using Array.mem_of_getElem? ht
        have hall : ([23, 9].all fun u => !Tryd.prog.wantsStandIn u) = true := by kernel_rfl
        exact (show Tryd.prog.wantsStandIn t = false by simpa using List.all_eq_true.1 hall t hm)⟩)
    (by kernel_rfl)
#print axioms VectorTexts_holds
end Go.Proofs.YtibbbjikehkbmabDoor
