/-
  root, List, Size of a ref that is told; two lists that are the same.
  Or of two where there may be no room.
  And, Or of some; Ite, Not, Diff.
  fold in general.
-/
import Derived.Test.YtnkipdlfpnmgeaaFIteAnd
import Derived.Test.YtnkipdlfpnmgeaaBFoldAnd
import Derived.Test.YtnkipdlfpnmgeaaBDropAAnd
namespace Go.Proofs.Ytnkipdlfpnmgeaa
open Go.RowKit Go.Maps
open Bd (Nd)

/-- What a join means: a function of two. -/
structure Means (jn : Nat → Nat → Nat × Nat × Nat) (J : Bd.Fn → Bd.Fn → Bd.Fn) : Prop where
  lt : ∀ (L : List Nd) (a b : Nat), a < L.length + 2 → b < L.length + 2 → (jn a b).1 < L.length + 2 ∧ (jn a b).2.1 < L.length + 2 ∧ (jn a b).2.2 < L.length + 2
  den : ∀ (L : List Nd) (a b : Nat), Bd.iteF (Bd.den L (jn a b).1) (Bd.den L (jn a b).2.1) (Bd.den L (jn a b).2.2) = J (Bd.den L a) (Bd.den L b)

/-- A table in the midst of a fold. -/
structure Stands {bits M : Nat} (A : Bd.Fam bits M) (w : World) (y : Lay) (s : St) (w3 : World) (r : Nat) (f : Bd.Fn) : Prop where
  cell : ∃ ao len cap, w3.cell? ⟨y.tb, 3, none⟩ = some (.slice ao len cap) ∧ len ≤ 1048576 ∧ s.L.length ≤ len
  grew : Grew noX A w y s w3 r f

theorem stands_of {M : Nat} {w w3 : World} {y : Lay} {s : St} (A : Bd.Fam s.bits M) (hlim : s.bits * M ≤ s.limit) (hl : s.limit ≤ 1048576) {r : Nat} {f : Bd.Fn} (hG : Grew noX A w y s w3 r f) : Stands A w y s w3 r f := by
  refine ⟨?_, hG⟩
  obtain ⟨N, y', hT, hW, hr, hd, hm⟩ := hG.ex
  obtain ⟨ao, cap, hls⟩ := hT.list_slice
  have hfew := hW.few hT.okay
  refine ⟨ao, (s.L ++ N).length, cap, ?_, by omega, by rw [List.length_append]; omega⟩
  rw [← hm.tb, hT.cell3, hls]

theorem shrink_stands {M : Nat} {w w3 : World} {y : Lay} {s : St} (A : Bd.Fam s.bits M) (hT0 : Tab w y s) (hlim : s.bits * M ≤ s.limit) {r : Nat} {f : Bd.Fn} (hG : Grew noX A w y s w3 r f) (W : World) (hB : Below w3.heap.size w3 W) :
    Calls Try.prog 77 #[.pointer (some ⟨y.tb, 3, none⟩), i6 s.L.length, i6 r] W fun e w4 => ∃ r4, e = .returned (i6 r4) ∧ Stands A w y s w4 r4 f := by
  obtain ⟨N, y', hT, hW, hr, hd, hm⟩ := hG.ex
  have hsl := hT0.small
  have hfew := hW.few hT.okay
  have h := shrink_any (s := { s with L := s.L ++ N }) (hT.below hB) s.L.length r (by show _ ≤ (s.L ++ N).length; rw [List.length_append]; omega) (by show (s.L ++ N).length ≤ _; omega) (fun m hm => (hT0.valid.2 m hm).2) hr
  rw [hm.tb] at h
  refine h.mono ?_
  rintro e w4 ⟨r4, N4, rfl, hL, y4, hT4, hm4⟩
  have et : (s.L ++ N).take s.L.length = s.L := List.take_left
  obtain ⟨l1, l2, l3, l4⟩ := hL
  have l4' := l4 A hW
  simp only at hT4 l1 l2 l3 l4'
  rw [et] at hT4 l1 l2 l3 l4'
  exact ⟨r4, rfl, stands_of A hlim (by omega) ⟨N4, y4, hT4, l4', l2, l3.trans hd, hm.trans ((moves_below y' hB).trans hm4)⟩⟩

theorem fold_round {M : Nat} {w wr : World} {y : Lay} {s : St} (A : Bd.Fam s.bits M) (hT0 : Tab w y s) (hlim : s.bits * M ≤ s.limit) (fj : FuncId) (jn : Nat → Nat → Nat × Nat × Nat) (hJ : Joins fj jn) (J : Bd.Fn → Bd.Fn → Bd.Fn) (hM : Means jn J) {r m : Nat} {f : Bd.Fn} (hG : Grew noX A w y s wr r f) (hm : m < s.L.length + 2) (hF : A.F 0 (J f (Bd.den s.L m)))
    (room : Nat) (hroom : s.bits * M ≤ room) (hr3 : room ≤ 1073741824) (W : World) (hB : Below wr.heap.size wr W) :
    Calls Try.prog 47 #[.pointer (some ⟨y.tb, 3, none⟩), .int .i64 room] W fun e w1 => ∃ p, e = .returned p ∧ Hid (Calls Try.prog fj #[i6 r, i6 m] w1 fun e w2 => ∃ v, e = .returned v ∧ Hid (Calls Try.prog 76 #[p, v] w2 fun e w3 => ∃ r', e = .returned (i6 r') ∧ Hid (Stands A w y s w3 r' (J f (Bd.den s.L m))))) := by
  obtain ⟨N, y1, hT, hW, hr, hd, hmv⟩ := hG.ex
  have hsl := hT0.small
  have hmN : m < (s.L ++ N).length + 2 := by rw [List.length_append]; omega
  obtain ⟨l1, l2, l3⟩ := hM.lt (s.L ++ N) r m hr hmN
  have hden := hM.den (s.L ++ N) r m
  rw [hd, Bd.den_append_old s.L N hm] at hden
  have h := fold_step (s := { s with L := s.L ++ N }) A hT hW (by show s.bits * M ≤ _; omega) fj jn hJ r m room hroom hr3 l1 l2 l3 (by show A.F 0 (Bd.iteF (Bd.den (s.L ++ N) _) (Bd.den (s.L ++ N) _) (Bd.den (s.L ++ N) _)); rw [hden]; exact hF) W hB
  rw [hmv.tb] at h
  refine h.mono ?_
  rintro e w1 ⟨p, rfl, HJ1⟩
  refine ⟨p, rfl, ?_⟩
  refine HJ1.out.mono ?_
  rintro e w2 ⟨v, rfl, HI1⟩
  refine ⟨v, rfl, ?_⟩
  refine HI1.out.mono ?_
  rintro e w3 ⟨r', rfl, HG1⟩
  refine ⟨r', rfl, ?_⟩
  obtain ⟨N2, y3, hT3, hW3, hr3', hd3, hm3⟩ := HG1.out.ex
  refine stands_of A hlim (by omega) ⟨N ++ N2, y3, ?_, ?_, ?_, ?_, hmv.trans hm3⟩
  · have := hT3; simp only at this; rw [List.append_assoc] at this; exact this
  · have := hW3; simp only at this; rw [List.append_assoc] at this; exact this
  · have := hr3'; simp only at this; rw [List.append_assoc] at this; exact this
  · have := hd3; simp only at this; rw [List.append_assoc, hden] at this; exact this

set_option maxRecDepth 4000 in
set_option maxHeartbeats 8000000 in
theorem fold_any {M : Nat} {w : World} {y : Lay} {s : St} (A : Bd.Fam s.bits M) (hT : Tab w y s) (hW : Bd.Within A s.L) (hlim : s.bits * M ≤ s.limit) (fj : FuncId) (jn : Nat → Nat → Nat × Nat × Nat) (hJ : Joins fj jn) (J : Bd.Fn → Bd.Fn → Bd.Fn) (hM : Means jn J) (e0 g : Nat) (he : e0 < 2) (ns : List Nat) (hn : ns.length ≤ 1000000) (hNA : NodesAt w g ns) (hg : ¬ y.own g)
    (hns : ∀ m, m ∈ ns → m < s.L.length + 2) (F : Nat → Bd.Fn) (h0 : Bd.den s.L e0 = F 0) (hF : ∀ k m, ns[k]? = some m → F (k + 1) = J (F k) (Bd.den s.L m) ∧ A.F 0 (F (k + 1))) :
    Calls Try.prog 53 #[.pointer (some ⟨y.tb, 0, none⟩), .slice (some ⟨g, 0, none⟩) ns.length ns.length, i6 e0, .func (.func fj) #[] #[]] w fun e w' => ∃ r, e = .returned (i6 r) ∧ Grew noX A w y s w' r (F ns.length) := by
  obtain ⟨cs, g0, gs, gc⟩ := hNA
  have lg := block_lt g0
  have ltb := hT.lt y.own_tb
  have hsl := hT.small
  obtain ⟨ao, cap, hls⟩ := hT.list_slice
  have c3 := hT.cell3
  rw [hls] at c3
  have START : Hid (Stands A w y s w e0 (F 0)) := stands_of A hlim (by omega) (Grew.same hT hW (by omega) h0 (Below.refl _ _))
  obtain ⟨n, hnn⟩ : ∃ n, n = ns.length := ⟨_, rfl⟩
  have HNN := keep hnn
  obtain ⟨len, hlen⟩ : ∃ len, len = s.L.length := ⟨_, rfl⟩
  have HLEN := keep hlen
  -- what a round knows
  have ROUND : Hid (∀ (wr : World) (k r : Nat), k < n → Stands A w y s wr r (F k) → ∃ (m : Nat) (ao1 : Option Addr) (len1 cap1 : Nat), wr.cell? ⟨g, k, none⟩ = some (.int .i64 m) ∧ wr.cell? ⟨y.tb, 3, none⟩ = some (.slice ao1 len1 cap1) ∧ len1 ≤ 1048576 ∧ len ≤ len1 ∧ wr.cell? ⟨y.tb, 6, none⟩ = some (.int .i64 s.limit) ∧
      Hid (∀ (W : World) (room : Int), Below wr.heap.size wr W → (s.limit : Int) ≤ room → room ≤ 1073741824 → Calls Try.prog 47 #[.pointer (some ⟨y.tb, 3, none⟩), .int .i64 room] W fun e w1 => ∃ p, e = .returned p ∧ Hid (Calls Try.prog fj #[i6 r, i6 m] w1 fun e w2 => ∃ v, e = .returned v ∧ Hid (Calls Try.prog 76 #[p, v] w2 fun e w3 => ∃ r', e = .returned (i6 r') ∧ Hid (Stands A w y s w3 r' (F (k + 1))))))) := by
    intro wr k r hk hS
    obtain ⟨m, hm⟩ : ∃ m, ns[k]? = some m := ⟨ns[k]'(by omega), List.getElem?_eq_getElem _⟩
    obtain ⟨ao1, len1, cap1, q1, q2, q3⟩ := hS.cell
    obtain ⟨N, y1, hT1, hW1, hr1, hd1, hm1⟩ := hS.grew.ex
    have hb := hm1.block g lg hg (fun h => h)
    refine ⟨m, ao1, len1, cap1, ?_, q1, q2, by omega, ?_, ?_⟩
    · rw [World.cell?_of_block hb, cell_at g0]; exact gc k m hm
    · rw [← hm1.tb, cell_at hT1.cells]; rfl
    · intro W room hB h1 h2
      obtain ⟨rm, rfl⟩ : ∃ rm : Nat, room = (rm : Int) := ⟨room.toNat, by omega⟩
      obtain ⟨f1, f2⟩ := hF k m hm
      have := fold_round A hT hlim fj jn hJ J hM hS.grew (hns m (List.mem_of_getElem? hm)) (by rw [← f1]; exact f2) rm (by omega) (by omega) W hB
      rw [← f1] at this
      exact this
  have SHRINK : Hid (∀ (w3 : World) (k r : Nat), Stands A w y s w3 r (F k) → Calls Try.prog 77 #[.pointer (some ⟨y.tb, 3, none⟩), i6 len, i6 r] w3 fun e w4 => ∃ r4, e = .returned (i6 r4) ∧ Hid (Stands A w y s w4 r4 (F k))) := by
    intro w3 k r hS
    rw [hlen]
    exact shrink_stands A hT hlim hS.grew w3 (Below.refl _ _)
  have hent := hJ.enter
  have hlimI : (s.limit : Int) ≤ 1048576 := by omega
  have hlim0 : (0 : Int) ≤ (s.limit : Int) := by omega
  have hlenI : (len : Int) ≤ 1048576 := by
    have := hW.few hT.okay
    omega
  have hnI : (n : Int) ≤ 1000000 := by omega
  rw [← hnn]
  rw [← hlen] at c3
  clear hT hW hlim hJ hM g0 gs gc hls hsl hns h0 hF hg hnn hlen lg he
  go_enter Try.func53, Try.ntmps53
  go_wp2_with fail
  go_loopw [2, 10, 24] (fun u v i wr => ∃ k r d : Nat, k ≤ n ∧ u = .int .i64 r ∧ v = .int .i64 d ∧ d ≤ 1048576 ∧ i = .int .i64 k ∧ Hid (Stands A w y s wr r (F k))) (fun _ _ i _ => n - (intOf i).toNat)
  case atStart => exact ⟨0, e0, 0, Nat.zero_le _, rfl, rfl, by omega, rfl, START⟩
  case round =>
    obtain ⟨k, r, d, hk, rfl, rfl, hd, rfl, HS⟩ := hrel
    by_cases hlt : k < n
    · obtain ⟨m, ao1, len1, cap1, q0, q3, q4, q5, q6, QS⟩ := ROUND.out wr k r hlt HS.out
      have hkI : (k : Int) < (n : Int) := by omega
      have hk0 : (0 : Int) ≤ (k : Int) := by omega
      have h1I : (len1 : Int) ≤ 1048576 := by omega
      have hle : (len : Int) ≤ (len1 : Int) := by omega
      have hdI : (d : Int) ≤ 1048576 := by omega
      have hd0 : (0 : Int) ≤ (d : Int) := by omega
      clear HS
      by_cases hlast : k = n - 1
      · have hl1 : ((k : Int) == (n : Int) - 1) = true := by rw [beq_iff_eq]; omega
        have HLAST := keep hlast
        clear hlast
        go_wp2_with fail
        go_quiet (fail)
        go_wp2_with fail
        refine (QS.out _ _ (belowN (Below.refl _ _) _) (by omega) (by omega)).mono ?_
        rintro e w1 ⟨p, rfl, HJ1⟩
        clear QS q0 q3 q6
        go_wp2_with fail
        refine HJ1.out.mono ?_
        rintro e w2 ⟨v, rfl, HI1⟩
        clear HJ1
        go_wp2_with fail
        refine HI1.out.mono ?_
        rintro e w3 ⟨r', rfl, HS3⟩
        clear HI1
        obtain ⟨ao2, len2, cap2, p3, p4, p5⟩ := HS3.out.cell
        have hp5 : (len : Int) ≤ (len2 : Int) := by have := HLEN.out; omega
        have hp4 : (len2 : Int) ≤ 1048576 := by omega
        clear p5
        by_cases hmore : (len : Int) < (len1 : Int)
        · go_wp2_with fail
          refine (SHRINK.out w3 (k + 1) r' HS3.out).mono ?_
          rintro e w4 ⟨r4, rfl, HS4⟩
          obtain ⟨ao4, len4, cap4, t3, t4, t5⟩ := HS4.out.cell
          have ht5 : (len : Int) ≤ (len4 : Int) := by have := HLEN.out; omega
          have ht4 : (len4 : Int) ≤ 1048576 := by omega
          clear t5 p3
          go_wp2_with fail
          go_roundw
          case rel => exact ⟨k + 1, r4, len4 - len, by omega, rfl, by congr 1; omega, by omega, by go_num, HS4⟩
          case measure => simp [intOf]; omega
        · go_wp2_with fail
          go_roundw
          case rel => exact ⟨k + 1, r', d, by omega, rfl, rfl, hd, by go_num, HS3⟩
          case measure => simp [intOf]; omega
      · have hl1 : ((k : Int) == (n : Int) - 1) = false := by rw [beq_eq_false_iff_ne]; omega
        clear hlast
        go_wp2_with fail
        go_quiet (fail)
        go_wp2_with fail
        refine (QS.out _ _ (belowN (Below.refl _ _) _) (by omega) (by omega)).mono ?_
        rintro e w1 ⟨p, rfl, HJ1⟩
        clear QS q0 q3 q6
        go_wp2_with fail
        refine HJ1.out.mono ?_
        rintro e w2 ⟨v, rfl, HI1⟩
        clear HJ1
        go_wp2_with fail
        refine HI1.out.mono ?_
        rintro e w3 ⟨r', rfl, HS3⟩
        clear HI1
        obtain ⟨ao2, len2, cap2, p3, p4, p5⟩ := HS3.out.cell
        have hp5 : (len : Int) ≤ (len2 : Int) := by have := HLEN.out; omega
        have hp4 : (len2 : Int) ≤ 1048576 := by omega
        clear p5
        by_cases hmore : (len : Int) < (len1 : Int)
        · by_cases hbig : 2 * (d : Int) + 4096 < (len2 : Int) - (len : Int)
          · have hbig2 : 2 * (d : Int) + 4096 + (len : Int) < (len2 : Int) := by omega
            go_wp2_with fail
            refine (SHRINK.out w3 (k + 1) r' HS3.out).mono ?_
            rintro e w4 ⟨r4, rfl, HS4⟩
            obtain ⟨ao4, len4, cap4, t3, t4, t5⟩ := HS4.out.cell
            have ht5 : (len : Int) ≤ (len4 : Int) := by have := HLEN.out; omega
            have ht4 : (len4 : Int) ≤ 1048576 := by omega
            clear t5 p3
            go_wp2_with fail
            go_roundw
            case rel => exact ⟨k + 1, r4, len4 - len, by omega, rfl, by congr 1; omega, by omega, by go_num, HS4⟩
            case measure => simp [intOf]; omega
          · have hbig2 : ¬ (2 * (d : Int) + 4096 + (len : Int) < (len2 : Int)) := by omega
            go_wp2_with fail
            go_roundw
            case rel => exact ⟨k + 1, r', d, by omega, rfl, rfl, hd, by go_num, HS3⟩
            case measure => simp [intOf]; omega
        · go_wp2_with fail
          go_roundw
          case rel => exact ⟨k + 1, r', d, by omega, rfl, rfl, hd, by go_num, HS3⟩
          case measure => simp [intOf]; omega
    · have hkn : k = n := by omega
      subst hkn
      go_wp2_with fail
      go_ret
      have := HS.out.grew
      rw [HNN.out] at this
      exact ⟨r, rfl, by rw [← HNN.out] at this; exact this⟩
end Go.Proofs.Ytnkipdlfpnmgeaa
namespace Go.Proofs.Ytnkipdlfpnmgeaa
open Go.RowKit Go.Maps
open Bd (Nd)

theorem or_join (w : World) (a b : Nat) : Calls Try.prog 54 #[i6 a, i6 b] w fun e w' => e = .returned (.agg #[i6 a, i6 1, i6 b]) ∧ Below w.heap.size w w' := by
  go_enter Try.func54, Try.ntmps54
  go_wp2
  refine bodyPost_ret (v := .agg #[i6 a, i6 1, i6 b]) (by simp [results, Try.results54, go_sem]) rfl ⟨rfl, (Below.refl _ _).alloc (Nat.le_refl _) _⟩
theorem or_joins : Joins 54 (fun a b => (a, 1, b)) := ⟨fun args w => by kernel_rfl, fun w a b => or_join w a b⟩
theorem means_or : Means (fun a b => (a, 1, b)) (fun f g => Bd.iteF f Bd.tt g) := ⟨fun L a b ha hb => ⟨ha, by show 1 < _; omega, hb⟩, fun L a b => by show Bd.iteF _ (Bd.den L 1) _ = _; rw [Bd.den_one]⟩
theorem means_and : Means (fun a b => (a, b, 0)) (fun f g => Bd.iteF f g Bd.ff) := ⟨fun L a b ha hb => ⟨ha, hb, by show 0 < _; omega⟩, fun L a b => by show Bd.iteF _ _ (Bd.den L 0) = _; rw [Bd.den_zero]⟩
theorem enter_Or : ∀ args w, (callFunc 52 args).run Try.prog w = .ok (.enter 52 args) w := fun args w => by kernel_rfl
set_option maxHeartbeats 1000000 in
theorem or_how {M : Nat} {w : World} {y : Lay} {s : St} (A : Bd.Fam s.bits M) (hT : Tab w y s) (hW : Bd.Within A s.L) (hlim : s.bits * M ≤ s.limit) (B g : Nat) (ns : List Nat) (hn : ns.length ≤ 1000000) (h0 : w.heap[B]? = some (.cells #[.pointer (some ⟨y.tb, 0, none⟩)] 23 (0, 0))) (hNA : NodesAt w g ns) (hg : ¬ y.own g)
    (hns : ∀ m, m ∈ ns → m < s.L.length + 2) (F : Nat → Bd.Fn) (hz : Bd.ff = F 0) (hF : ∀ k m, ns[k]? = some m → F (k + 1) = Bd.iteF (F k) Bd.tt (Bd.den s.L m) ∧ A.F 0 (F (k + 1))) :
    Calls Try.prog 52 #[.slice (some ⟨g, 0, none⟩) ns.length ns.length, .pointer (some ⟨B, 0, none⟩)] w fun e w' => ∃ r, e = .returned (i6 r) ∧ Grew noX A w y s w' r (F ns.length) := by
  have c0 : w.cell? ⟨B, 0, none⟩ = some (.pointer (some ⟨y.tb, 0, none⟩)) := by rw [cell_at h0]; rfl
  have HF := keep (fold_any A hT hW hlim 54 (fun a b => (a, 1, b)) or_joins _ means_or 0 g (by omega) ns hn hNA hg hns F (by rw [Bd.den_zero]; exact hz) hF)
  obtain ⟨n, hnn⟩ : ∃ n, n = ns.length := ⟨_, rfl⟩
  rw [← hnn] at HF ⊢
  clear hT hW hF hNA h0 hlim hns hg hn hz hnn
  go_enter Try.func52, Try.ntmps52
  go_wp2_with fail
  refine HF.out.mono ?_
  rintro e w' ⟨r, rfl, hG⟩
  have HG := keep hG
  clear hG
  go_wp2_with fail
  go_ret
  exact ⟨r, rfl, HG.out⟩
set_option maxHeartbeats 1000000 in
theorem Or_many {M : Nat} {w : World} {y : Lay} {s : St} (A : Bd.Fam s.bits M) (hT : Tab w y s) (hW : Bd.Within A s.L) (h2 : 2 ≤ s.first) (hsm : s.roots.length + 1 ≤ 1073741824) (hlim : s.bits * M ≤ s.limit) (v : Value) (ls ns : List Nat) (hR : RefsAt w v ls) (hl : ls.length ≤ 1000000) (hN : NodesOf s ls ns)
    (hns : ∀ m, m ∈ ns → m < s.L.length + 2) (F : Nat → Bd.Fn) (hz : Bd.ff = F 0) (hF : ∀ k m, ns[k]? = some m → F (k + 1) = Bd.iteF (F k) Bd.tt (Bd.den s.L m) ∧ A.F 0 (F (k + 1))) :
    Calls Try.prog 24 #[.pointer (some ⟨y.tb, 0, none⟩), v] w fun e w' => ∃ r, e = .returned (.tuple #[i6 r, .int .i64 0]) ∧ Told A w y s w' r (F ns.length) := by
  have hmf : ∀ (fn : Fn) (first cap : Array Value) (w : World), (Instr.makeFunc fn first cap).run Try.prog w = .ok (.func fn first cap) w := fun _ _ _ _ => rfl
  have hb : Below w.heap.size w (w.alloc (.cells #[.pointer (some ⟨y.tb, 0, none⟩)] 23)) := (Below.refl _ _).alloc (Nat.le_refl _) _
  have x0 := heap_alloc_new w (.cells #[.pointer (some ⟨y.tb, 0, none⟩)] 23)
  have hT1 := hT.below hb
  have hnl := hN.1
  have h := answer_ok A hT1 h2 hsm hlim v ls ns (hR.below hb) hl hN 52 enter_Or #[.pointer (some ⟨w.heap.size, 0, none⟩)] (F ns.length) (fun w2 g hb2 hNA hg => by
    rw [← hnl]
    exact or_how A (hT1.below hb2) hW hlim w.heap.size g ns (by omega) ((hb2.block _ (block_lt x0)).trans x0) hNA (fun ho => by have := hT1.lt ho; omega) hns F hz hF)
  have HA := keep h
  have HB := keep hb
  clear h hT hT1 hW hR hN hF x0 hb hnl hns hz hl
  go_enter Try.func24, Try.ntmps24
  go_wp2_with fail
  refine HA.out.mono ?_
  rintro e w' ⟨r, rfl, ⟨N, t, y', m, q1, q2, q3, q4, q5, q6, q7⟩⟩
  have HG : Hid (Told A w y s w' r (F ns.length)) := ⟨N, t, y', m, q1, q2, q3, q4, q5, (moves_below y HB.out).trans q6, q7⟩
  clear q1 q2 q3 q4 q5 q6 q7
  go_wp2_with fail
  go_ret2
  exact ⟨r, rfl, HG.out⟩

end Go.Proofs.Ytnkipdlfpnmgeaa
namespace Go.Proofs.Ytnkipdlfpnmgeaa
open Go.RowKit Go.Maps
open Bd (Nd)

/-- A step of fold, where there may be no room. -/
theorem fold_step2 {M : Nat} {w : World} {y : Lay} {s : St} (A : Bd.Fam s.bits M) (hT : Tab w y s) (hW : Bd.Within A s.L) (hbM : s.bits * M ≤ 1048576) (fj : FuncId) (jn : Nat → Nat → Nat × Nat × Nat) (hJ : Joins fj jn) (a b : Nat) (room : Nat) (hr3 : room ≤ 1073741824)
    (h1 : (jn a b).1 < s.L.length + 2) (h2 : (jn a b).2.1 < s.L.length + 2) (h3 : (jn a b).2.2 < s.L.length + 2) (hF : A.F 0 (Bd.iteF (Bd.den s.L (jn a b).1) (Bd.den s.L (jn a b).2.1) (Bd.den s.L (jn a b).2.2))) (W : World) (hB : Below w.heap.size w W) :
    Calls Try.prog 47 #[.pointer (some ⟨y.tb, 3, none⟩), .int .i64 room] W fun e w1 => ∃ p, e = .returned p ∧ Hid (Calls Try.prog fj #[i6 a, i6 b] w1 fun e w2 => ∃ v, e = .returned v ∧ Hid (Calls Try.prog 76 #[p, v] w2 fun e w3 => (∃ r, e = .returned (i6 r) ∧
      Hid (GrewL noX A w y s room w3 r (Bd.iteF (Bd.den s.L (jn a b).1) (Bd.den s.L (jn a b).2.1) (Bd.den s.L (jn a b).2.2)))) ∨ (e = .panicked noRoom ∧ Hid (Full noX A w y s room w3)))) := by
  refine (step_any' W y.tb room).mono ?_
  rintro e w1 ⟨rfl, rfl⟩
  refine ⟨_, rfl, ?_⟩
  obtain ⟨s1, s2, s3⟩ := step_new W y.tb room
  have hbw := hB.trans (s3.mono hB.size)
  refine (hJ.calls _ a b).mono ?_
  rintro e w2 ⟨rfl, hb2⟩
  refine ⟨_, rfl, ?_⟩
  have hb2' : Below W.heap.size W w2 := s3.trans (hb2.mono s3.size)
  have hbw2 : Below w.heap.size w w2 := hB.trans (hb2'.mono hB.size)
  have l1 := block_lt s1
  have l2 := s2.lt
  have hzW := hB.size
  have hns : ¬ y.own (W.heap.size + 1) := fun ho => by have := hT.lt ho; omega
  have hnk : ¬ y.own W.heap.size := fun ho => by have := hT.lt ho; omega
  refine (ite_two_all 128 s A w2 y (W.heap.size + 1) room W.heap.size 0 (fun _ => none) _ _ _ 0 (hT.below hbw2) hW ((hb2.block _ l1).trans s1) hns hnk hr3 hbM (s2.same (hb2.block _ l2)) (known_none _) h1 h2 h3 (Nat.zero_le _) (Nat.zero_le _) (Nat.zero_le _) hF (by omega)).mono ?_
  have z := hbw2.size
  have key : ∀ {w3 : World} {y3 : Lay}, Moves (fun k => k = W.heap.size) w2 y w3 y3 → Moves noX w y w3 y3 := by
    intro w3 y3 m3
    have mA := (moves_below (X := fun k => k = W.heap.size) y hbw2).trans m3
    exact ⟨mA.tb, mA.own, mA.os, mA.tape, mA.output, mA.size, fun k hk hn _ => mA.block k hk hn (fun e => by omega)⟩
  rintro e w3 (⟨r, rfl, ⟨N, y3, t3, wi3, hr, d3, m3, g3, _⟩⟩ | ⟨rfl, ⟨N, y3, t3, wi3, m3, h4⟩⟩)
  · exact Or.inl ⟨r, rfl, N, y3, t3, wi3, hr, d3, key m3, g3⟩
  · exact Or.inr ⟨rfl, N, y3, t3, wi3, key m3, h4⟩

set_option maxRecDepth 3000 in
set_option maxHeartbeats 4000000 in
theorem fold_two2 {M : Nat} {w : World} {y : Lay} {s : St} (A : Bd.Fam s.bits M) (hT : Tab w y s) (hW : Bd.Within A s.L) (hbM : s.bits * M ≤ 1048576) (fj : FuncId) (jn : Nat → Nat → Nat × Nat × Nat) (hJ : Joins fj jn) (e0 n0 n1 g : Nat) (hNA : NodesAt w g [n0, n1])
    (hq : ∀ (W : World) (p : Value), Calls Try.prog 76 #[p, .agg #[i6 (jn e0 n0).1, i6 (jn e0 n0).2.1, i6 (jn e0 n0).2.2]] W fun e w' => e = .returned (i6 n0) ∧ Below W.heap.size W w')
    (h1 : (jn n0 n1).1 < s.L.length + 2) (h2 : (jn n0 n1).2.1 < s.L.length + 2) (h3 : (jn n0 n1).2.2 < s.L.length + 2) (hF : A.F 0 (Bd.iteF (Bd.den s.L (jn n0 n1).1) (Bd.den s.L (jn n0 n1).2.1) (Bd.den s.L (jn n0 n1).2.2))) :
    Calls Try.prog 53 #[.pointer (some ⟨y.tb, 0, none⟩), .slice (some ⟨g, 0, none⟩) 2 2, i6 e0, .func (.func fj) #[] #[]] w fun e w' => (∃ r, e = .returned (i6 r) ∧ GrewL noX A w y s s.limit w' r (Bd.iteF (Bd.den s.L (jn n0 n1).1) (Bd.den s.L (jn n0 n1).2.1) (Bd.den s.L (jn n0 n1).2.2))) ∨ (e = .panicked noRoom ∧ Full noX A w y s s.limit w') := by
  obtain ⟨cs, g0, gs, gc⟩ := hNA
  have k0 : w.cell? ⟨g, 0, none⟩ = some (.int .i64 n0) := by rw [cell_at g0]; exact gc 0 n0 rfl
  have k1 : w.cell? ⟨g, 1, none⟩ = some (.int .i64 n1) := by rw [cell_at g0]; exact gc 1 n1 rfl
  have lg := block_lt g0
  have ltb := hT.lt y.own_tb
  obtain ⟨ao, cap, hls⟩ := hT.list_slice
  have c3 := hT.cell3
  rw [hls] at c3
  have c6 : w.cell? ⟨y.tb, 6, none⟩ = some (.int .i64 s.limit) := by rw [cell_at hT.cells]; rfl
  have hsl := hT.small
  have HF1 := keep (fun (W : World) (hB : Below w.heap.size w W) (room : Int) => fold_first hT fj jn hJ e0 n0 room hq W hB)
  have HF2 := keep (fun (W : World) (hB : Below w.heap.size w W) => fold_step2 A hT hW hbM fj jn hJ n0 n1 s.limit (by omega) h1 h2 h3 hF W hB)
  have hent := hJ.enter
  obtain ⟨f, hf⟩ : ∃ f, f = Bd.iteF (Bd.den s.L (jn n0 n1).1) (Bd.den s.L (jn n0 n1).2.1) (Bd.den s.L (jn n0 n1).2.2) := ⟨_, rfl⟩
  rw [← hf] at HF2 ⊢
  obtain ⟨len, hlen⟩ : ∃ len, len = s.L.length := ⟨_, rfl⟩
  rw [← hlen] at c3
  have hlen2 : len ≤ 1073741824 := by omega
  have eroom : (len : Int) + (s.limit : Int) - (len : Int) = (s.limit : Int) := by omega
  have HF2 : Hid (∀ W, Below w.heap.size w W → Calls Try.prog 47 #[.pointer (some ⟨y.tb, 3, none⟩), .int .i64 ((len : Int) + (s.limit : Int) - (len : Int))] W fun e w1 => ∃ p, e = .returned p ∧ Hid (Calls Try.prog fj #[i6 n0, i6 n1] w1 fun e w2 => ∃ v, e = .returned v ∧ Hid (Calls Try.prog 76 #[p, v] w2 fun e w3 => (∃ r, e = .returned (i6 r) ∧ Hid (GrewL noX A w y s s.limit w3 r f)) ∨ (e = .panicked noRoom ∧ Hid (Full noX A w y s s.limit w3))))) := by
    rw [eroom]; exact HF2.out
  clear eroom
  have hlimI : (s.limit : Int) ≤ 1048576 := by omega
  have hlenI : (len : Int) ≤ 1073741824 := by omega
  clear hT hW hbM hJ hq h1 h2 h3 hF g0 gs gc hls hsl hf hlen
  go_enter Try.func53, Try.ntmps53
  go_wp2_with fail
  go_loopw [2, 24] (fun u i wr => (i = .int .i64 0 ∧ u = .int .i64 e0 ∧ Below w.heap.size w wr) ∨ (i = .int .i64 1 ∧ u = .int .i64 n0 ∧ Below w.heap.size w wr) ∨ (i = .int .i64 2 ∧ ∃ r : Nat, u = .int .i64 r ∧ Hid (GrewL noX A w y s s.limit wr r f))) (fun _ i _ => 2 - (intOf i).toNat)
  case atStart => exact Or.inl ⟨rfl, rfl, Below.refl _ _⟩
  case round =>
    rcases hrel with ⟨rfl, rfl, hB⟩ | ⟨rfl, rfl, hB⟩ | ⟨rfl, r, rfl, HG⟩
    · have j0 : wr.cell? ⟨g, 0, none⟩ = some (.int .i64 n0) := by rw [hB.cell (by exact lg)]; exact k0
      have j3 : wr.cell? ⟨y.tb, 3, none⟩ = some (.slice ao len cap) := by rw [hB.cell (by exact ltb)]; exact c3
      have HB := keep hB
      clear hB
      go_wp2_with fail
      go_quiet (fail)
      go_wp2_with fail
      refine (HF1.out _ (belowN HB.out _) _).mono ?_
      rintro e w1 ⟨p, rfl, HJ1⟩
      go_wp2_with fail
      refine HJ1.out.mono ?_
      rintro e w2 ⟨v, rfl, HI1⟩
      go_wp2_with fail
      refine HI1.out.mono ?_
      rintro e w3 ⟨rfl, hb3⟩
      go_wp2_with fail
      go_roundw
      case rel => exact Or.inr (Or.inl ⟨rfl, rfl, hb3⟩)
      case measure => simp [intOf]
    · have j1 : wr.cell? ⟨g, 1, none⟩ = some (.int .i64 n1) := by rw [hB.cell (by exact lg)]; exact k1
      have j3 : wr.cell? ⟨y.tb, 3, none⟩ = some (.slice ao len cap) := by rw [hB.cell (by exact ltb)]; exact c3
      have j6 : wr.cell? ⟨y.tb, 6, none⟩ = some (.int .i64 s.limit) := by rw [hB.cell (by exact ltb)]; exact c6
      have HB := keep hB
      clear hB
      go_wp2_with fail
      go_quiet (fail)
      go_wp2_with fail
      refine (HF2.out _ (belowN HB.out _)).mono ?_
      rintro e w1 ⟨p, rfl, HJ1⟩
      go_wp2_with fail
      refine HJ1.out.mono ?_
      rintro e w2 ⟨v, rfl, HI1⟩
      go_wp2_with fail
      refine HI1.out.mono ?_
      rintro e w3 (⟨r, rfl, HG⟩ | ⟨rfl, HFU⟩)
      rotate_left
      · exact ⟨rfl, Or.inr ⟨rfl, HFU.out⟩⟩
      go_wp2_with fail
      go_roundw
      case rel => exact Or.inr (Or.inr ⟨rfl, r, rfl, HG⟩)
      case measure => simp [intOf]
    · go_wp2_with fail
      go_ret
      exact Or.inl ⟨r, rfl, HG.out⟩
theorem ite_no1 (w : World) (p : Value) (n : Nat) : Calls Try.prog 76 #[p, .agg #[i6 0, i6 1, i6 n]] w fun e w' => e = .returned (i6 n) ∧ Below w.heap.size w w' := by
  by_cases h : n = 1
  · subst h; exact ite_same w p 0 1 (by omega)
  · exact ite_zero w p 1 n (fun e => h e.symm)

set_option maxHeartbeats 1000000 in
theorem or_how2 {M : Nat} {w : World} {y : Lay} {s : St} (A : Bd.Fam s.bits M) (hT : Tab w y s) (hW : Bd.Within A s.L) (hbM : s.bits * M ≤ 1048576) (B n0 n1 g : Nat) (h0 : w.heap[B]? = some (.cells #[.pointer (some ⟨y.tb, 0, none⟩)] 23 (0, 0))) (hNA : NodesAt w g [n0, n1])
    (h1 : n0 < s.L.length + 2) (h2 : n1 < s.L.length + 2) (hF : A.F 0 (Bd.iteF (Bd.den s.L n0) Bd.tt (Bd.den s.L n1))) :
    Calls Try.prog 52 #[.slice (some ⟨g, 0, none⟩) 2 2, .pointer (some ⟨B, 0, none⟩)] w fun e w' => (∃ r, e = .returned (i6 r) ∧ GrewL noX A w y s s.limit w' r (Bd.iteF (Bd.den s.L n0) Bd.tt (Bd.den s.L n1))) ∨ (e = .panicked noRoom ∧ Full noX A w y s s.limit w') := by
  have c0 : w.cell? ⟨B, 0, none⟩ = some (.pointer (some ⟨y.tb, 0, none⟩)) := by rw [cell_at h0]; rfl
  have h := fold_two2 A hT hW hbM 54 (fun a b => (a, 1, b)) or_joins 0 n0 n1 g hNA (fun W p => ite_no1 W p n0) h1 (by show 1 < _; omega) h2 (by show A.F 0 (Bd.iteF (Bd.den s.L n0) (Bd.den s.L 1) (Bd.den s.L n1)); rw [Bd.den_one]; exact hF)
  have e : Bd.iteF (Bd.den s.L ((fun a b => ((a, 1, b) : Nat × Nat × Nat)) n0 n1).1) (Bd.den s.L ((fun a b => ((a, 1, b) : Nat × Nat × Nat)) n0 n1).2.1) (Bd.den s.L ((fun a b => ((a, 1, b) : Nat × Nat × Nat)) n0 n1).2.2) = Bd.iteF (Bd.den s.L n0) Bd.tt (Bd.den s.L n1) := by
    show Bd.iteF (Bd.den s.L n0) (Bd.den s.L 1) (Bd.den s.L n1) = _
    rw [Bd.den_one]
  rw [e] at h
  have HF := keep h
  clear h e hT hW hF hNA h0
  go_enter Try.func52, Try.ntmps52
  go_wp2_with fail
  refine HF.out.mono ?_
  rintro e w' (⟨r, rfl, hG⟩ | ⟨rfl, hF⟩)
  · have HG := keep hG
    clear hG
    go_wp2_with fail
    go_ret
    exact Or.inl ⟨r, rfl, HG.out⟩
  · exact ⟨rfl, Or.inr ⟨rfl, hF⟩⟩

set_option maxHeartbeats 1000000 in
theorem Or_two {M : Nat} {w : World} {y : Lay} {s : St} (A : Bd.Fam s.bits M) (hT : Tab w y s) (hW : Bd.Within A s.L) (h2 : 2 ≤ s.first) (hsm : s.roots.length + 1 ≤ 1073741824) (hL : s.L.length ≤ s.limit) (hbM : s.bits * M ≤ 1048576) (v : Value) (r0 r1 n0 n1 : Nat) (hR : RefsAt w v [r0, r1]) (hn0 : s.node? r0 = some n0) (hn1 : s.node? r1 = some n1)
    (l0 : n0 < s.L.length + 2) (l1 : n1 < s.L.length + 2) (hF : A.F 0 (Bd.iteF (Bd.den s.L n0) Bd.tt (Bd.den s.L n1))) :
    Calls Try.prog 24 #[.pointer (some ⟨y.tb, 0, none⟩), v] w fun e w' => (∃ r, e = .returned (.tuple #[i6 r, .int .i64 0]) ∧ ToldL A w y s w' r (Bd.iteF (Bd.den s.L n0) Bd.tt (Bd.den s.L n1))) ∨ (e = .returned (.tuple #[i6 0, .int .i64 20]) ∧ FullT A w y s w') := by
  have hmf : ∀ (fn : Fn) (first cap : Array Value) (w : World), (Instr.makeFunc fn first cap).run Try.prog w = .ok (.func fn first cap) w := fun _ _ _ _ => rfl
  have hb : Below w.heap.size w (w.alloc (.cells #[.pointer (some ⟨y.tb, 0, none⟩)] 23)) := (Below.refl _ _).alloc (Nat.le_refl _) _
  have x0 := heap_alloc_new w (.cells #[.pointer (some ⟨y.tb, 0, none⟩)] 23)
  have hT1 := hT.below hb
  have hN : NodesOf s [r0, r1] [n0, n1] := by
    refine ⟨rfl, fun i r hi => ?_⟩
    match i, hi with
    | 0, hi => simp at hi; subst hi; exact ⟨n0, rfl, hn0⟩
    | 1, hi => simp at hi; subst hi; exact ⟨n1, rfl, hn1⟩
    | (i + 2), hi => simp at hi
  have h := answer_two A hT1 h2 hsm hL v [r0, r1] [n0, n1] (hR.below hb) (by simp) hN 52 enter_Or #[.pointer (some ⟨w.heap.size, 0, none⟩)] (Bd.iteF (Bd.den s.L n0) Bd.tt (Bd.den s.L n1)) (fun w2 g hb2 hNA hg => or_how2 A (hT1.below hb2) hW hbM w.heap.size n0 n1 g ((hb2.block _ (block_lt x0)).trans x0) hNA l0 l1 hF)
  have HA := keep h
  have HB := keep hb
  clear h hT hT1 hW hR hN hF x0 hb
  go_enter Try.func24, Try.ntmps24
  go_wp2_with fail
  refine HA.out.mono ?_
  rintro e w' (⟨r, rfl, ⟨N, t, y', m, q1, q2, q3, q4, q5, q6, q7, q8⟩⟩ | ⟨rfl, ⟨y', q1, q2, q3⟩⟩)
  · have HG : Hid (ToldL A w y s w' r (Bd.iteF (Bd.den s.L n0) Bd.tt (Bd.den s.L n1))) := ⟨N, t, y', m, q1, q2, q3, q4, q5, (moves_below y HB.out).trans q6, q7, q8⟩
    clear q1 q2 q3 q4 q5 q6 q7 q8
    go_wp2_with fail
    go_ret2
    exact Or.inl ⟨r, rfl, HG.out⟩
  · have HG : Hid (FullT A w y s w') := ⟨y', q1, (moves_below y HB.out).trans q2, q3⟩
    clear q1 q2 q3
    go_wp2_with fail
    go_ret2
    exact Or.inr ⟨rfl, HG.out⟩
end Go.Proofs.Ytnkipdlfpnmgeaa
namespace Go.Proofs.Ytnkipdlfpnmgeaa
open Go.RowKit Go.Maps
open Bd (Nd)

theorem refs_one (w : World) (r : Nat) : RefsAt (w.alloc (.cells #[i6 r] 25)) (.slice (some ⟨w.heap.size, 0, none⟩) 1 1) [r] := by
  refine ⟨_, 1, rfl, fun i q hi => ?_⟩
  have : i = 0 := by have := Bd.getElem?_lt hi; simp at this; exact this
  subst this
  simp at hi
  subst hi
  exact ⟨w.heap.size, 0, rfl, by simp, by rw [cell_at (heap_alloc_new w _)]; rfl⟩

set_option maxHeartbeats 1000000 in
theorem root_ok {w : World} {y : Lay} {s : St} (hT : Tab w y s) (h2 : 2 ≤ s.first) (r n : Nat) (hn : s.node? r = some n) :
    Calls Try.prog 35 #[.pointer (some ⟨y.tb, 0, none⟩), i6 r] w fun e w' => e = .returned (.tuple #[i6 n, .int .i64 0]) ∧ Below w.heap.size w w' := by
  have HT := keep hT
  have q1 := made_ok hT
  have q2 := find_ok (hT.below ((Below.refl _ _).alloc (Nat.le_refl _) (.cells #[i6 r] 25))) h2 _ [r] [n] (refs_one w r) (by simp) ⟨rfl, fun i q hi => by
    have : i = 0 := by have := Bd.getElem?_lt hi; simp at this; exact this
    subst this
    simp at hi
    subst hi
    exact ⟨n, rfl, hn⟩⟩
  clear hT hn
  go_enter Try.func35, Try.ntmps35
  go_wp2_with (go_at_call 34; refine q1.mono ?_; rintro e w' ⟨rfl, rfl⟩)
  refine q2.mono ?_
  clear q2
  rintro e w1 ⟨rfl, ⟨cs, hcs, hsz, hc⟩, hb⟩
  have c0 : w1.cell? ⟨w'.heap.size + 1, 0, none⟩ = some (i6 n) := by
    have := hc 0 n rfl
    have e1 : (w'.alloc (.cells #[i6 r] 25)).heap.size = w'.heap.size + 1 := by simp
    rw [e1] at hcs
    rw [cell_at hcs]; exact this
  have HB := keep (((Below.refl _ _).alloc (Nat.le_refl _) _).trans (hb.mono (by simp)) : Below w'.heap.size w' w1)
  clear hc hcs hsz hb q1
  go_wp2
  go_ret2
  exact ⟨rfl, HB.out⟩

/-- The list of a node. -/
def listOf (L : List Nd) (n : Nat) : List Nd := (vis L 2 (n + 1) n []).map (rn L (vis L 2 (n + 1) n []) 2)

set_option maxRecDepth 4000 in
set_option maxHeartbeats 1000000 in
theorem List_ok {w : World} {y : Lay} {s : St} (hT : Tab w y s) (h2 : 2 ≤ s.first) (r n : Nat) (hn : s.node? r = some n) (hnl : n < s.L.length + 2) :
    Calls Try.prog 15 #[.pointer (some ⟨y.tb, 0, none⟩), i6 r] w fun e w' => ∃ v, e = .returned (.tuple #[v, .int .i64 0]) ∧ w'.ownsRow 0 62 3 v (listOf s.L n).length (flat (listOf s.L n)) ∧ Below w.heap.size w w' := by
  have HT := keep hT
  have q1 := root_ok hT h2 r n hn
  clear hT hn
  go_enter Try.func15, Try.ntmps15
  go_wp2_with fail
  refine q1.mono ?_
  clear q1
  rintro e w1 ⟨rfl, hb1⟩
  have HB1 := keep hb1
  have HT1 := keep (HT.out.below hb1)
  have c3 : w1.cell? ⟨y.tb, 3, none⟩ = some y.ls := by rw [cell_at HT1.out.cells]; rfl
  obtain ⟨ao, cap, hls⟩ := HT1.out.list_slice
  rw [hls] at c3
  clear hb1
  go_wp2_with fail
  refine (orderOf_one (lv := .slice ao s.L.length cap) (L := s.L) (by rw [← hls]; exact HT1.out.list.alloc _) HT.out.okay.falls HT.out.small.1 n w1.heap.size 1 hnl (by simp) (by rw [cell_at (heap_alloc_new w1 _)]; rfl)).mono ?_
  rintro e w2 ⟨ob, pb, rfl, hO, hb2⟩
  have HB2 := keep (((Below.refl _ _).alloc (Nat.le_refl _) _).trans (hb2.mono (by simp)) : Below w1.heap.size w1 w2)
  have HO := keep hO
  clear hb2 hO
  have hnd := vis_nodup s.L 2 HT.out.okay.falls (by omega) (n + 1) n [] hnl (by simp)
  have hvl := vis_lt s.L 2 HT.out.okay.falls (by omega) (n + 1) n [] hnl (by simp)
  have hlen : (vis s.L 2 (n + 1) n []).length ≤ 1073741826 := by
    have h1 : (vis s.L 2 (n + 1) n []).length ≤ s.L.length + 2 := by
      have := List.Nodup.length_le_of_subset (l₂ := List.range (s.L.length + 2)) hnd (fun m hm => List.mem_range.2 (hvl m hm).2)
      simpa using this
    have := HT.out.small.1
    omega
  go_wp2_with fail
  refine (nodes_any HO.out hnd hvl (by omega) HT.out.okay.falls HT.out.small.1 (by omega) hlen).mono ?_
  rintro e w3 ⟨rfl, hown, hb3⟩
  have HOWN := keep hown
  clear hown hnd hvl
  go_wp2
  go_ret2
  refine ⟨.slice (some ⟨w2.heap.size, 0, none⟩) (vis s.L 2 (n + 1) n []).length (vis s.L 2 (n + 1) n []).length, rfl, ?_, HB1.out.trans ((HB2.out.trans (hb3.mono HB2.out.size)).mono HB1.out.size)⟩
  rw [show (listOf s.L n).length = (vis s.L 2 (n + 1) n []).length by unfold listOf; rw [List.length_map]]
  exact HOWN.out

set_option maxHeartbeats 400000 in
theorem Size_ok {w : World} {y : Lay} {s : St} (hT : Tab w y s) : Calls Try.prog 13 #[.pointer (some ⟨y.tb, 0, none⟩)] w fun e w' => e = .returned (.int .i64 s.L.length) ∧ w' = w := by
  have c3 : w.cell? ⟨y.tb, 3, none⟩ = some y.ls := by rw [cell_at hT.cells]; rfl
  obtain ⟨ao, cap, hls⟩ := hT.list_slice
  rw [hls] at c3
  have q1 := made_ok hT
  clear hT hls
  go_enter Try.func13, Try.ntmps13
  go_wp2_with (go_at_call 34; refine q1.mono ?_; rintro e w' ⟨rfl, rfl⟩)
  go_ret
  exact ⟨rfl, rfl⟩

/-- Nodes in cells that a walk can load. -/
def NodesIn (w : World) (v : Value) (L : List Nd) : Prop := ∃ g cap, v = .slice (some ⟨g, 0, none⟩) L.length cap ∧ ∀ (i : Nat) (x : Nd), L[i]? = some x → w.cell? ⟨g, i * 3, none⟩ = some (i6 x.1) ∧ w.cell? ⟨g, i * 3 + 1, none⟩ = some (i6 x.2.1) ∧ w.cell? ⟨g, i * 3 + 2, none⟩ = some (i6 x.2.2)
theorem nodesIn_of {w : World} {v : Value} {L : List Nd} (h : w.ownsRow 0 62 3 v L.length (flat L)) (h0 : 0 < L.length) : NodesIn w v L := by
  obtain ⟨g, cap, rfl, _, _⟩ := h.form h0
  refine ⟨g, cap, rfl, fun i x hi => ?_⟩
  have hadd : ∀ j, (⟨g, 0, none⟩ : Addr).add j = ⟨g, j, none⟩ := by intro j; unfold Addr.add; split <;> simp_all
  obtain ⟨f0, f1, f2⟩ := flat_at hi
  have hc := h.cells (g := g) rfl
  have d0 := hc _ _ f0
  have d1 := hc _ _ f1
  have d2 := hc _ _ f2
  rw [hadd] at d0 d1 d2
  exact ⟨d0, d1, d2⟩

set_option maxHeartbeats 1000000 in
theorem SameList_eq (v1 v2 : Value) (L : List Nd) (w : World) (hL : L.length ≤ 1073741826) (h1 : NodesIn w v1 L) (h2 : NodesIn w v2 L) :
    Calls Try.prog 17 #[v1, v2] w fun e w' => e = .returned (.bool true) ∧ Below w.heap.size w w' := by
  obtain ⟨g, c, rfl, hg⟩ := h1
  obtain ⟨g', c', rfl, hg'⟩ := h2
  have HG := keep hg
  have HG' := keep hg'
  clear hg hg'
  obtain ⟨n, hn⟩ : ∃ n, n = L.length := ⟨_, rfl⟩
  have HN := keep hn
  rw [← hn] at hL ⊢
  clear hn
  have hnb : ((n : Int) != (n : Int)) = false := by simp
  go_enter Try.func17, Try.ntmps17
  go_wp2
  clear hnb
  go_loopw [5] (fun i wr => ∃ k : Nat, k ≤ n ∧ i = .int .i64 k ∧ Hid (∃ m, wr = w.drewN m)) (fun i _ => n - (intOf i).toNat)
  case atStart => exact ⟨0, Nat.zero_le _, rfl, 0, rfl⟩
  case round =>
    obtain ⟨k, hk, rfl, HW⟩ := hrel
    obtain ⟨m0, rfl⟩ := HW.out
    by_cases hlt : k < n
    · obtain ⟨x, hx⟩ : ∃ x, L[k]? = some x := ⟨_, List.getElem?_eq_getElem (by rw [← HN.out]; exact hlt)⟩
      obtain ⟨p0, p1, p2⟩ := HG.out k x hx
      obtain ⟨r0, r1, r2⟩ := HG'.out k x hx
      clear hx
      have hkI : (0 : Int) ≤ (k : Int) := by omega
      have hkI2 : (k : Int) < (n : Int) := by omega
      go_wp2
      go_quiet (fail)
      go_wp2
      go_roundw
      case rel => exact ⟨k + 1, by omega, by go_num, _, rfl⟩
      case measure => simp [intOf]; omega
    · go_wp2
      go_ret
      exact ⟨rfl, (Below.refl _ _).trans ⟨rfl, rfl, rfl, Nat.le_refl _, fun _ _ => rfl⟩⟩
end Go.Proofs.Ytnkipdlfpnmgeaa
