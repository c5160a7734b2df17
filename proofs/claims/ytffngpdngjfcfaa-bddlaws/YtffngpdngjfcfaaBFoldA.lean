/-
  fold in general.
-/
import Derived.Test.YtffngpdngjfcfaaBShrA
import Derived.Test.YtffngpdngjfcfaaBAnd
namespace Go.Proofs.Ytffngpdngjfcfaa
open Go.RowKit Go.Maps
open Bd (Nd)

/-- What a join means: a function of two. -/
structure Means (jn : Nat → Nat → Nat × Nat × Nat) (J : Bd.Fn → Bd.Fn → Bd.Fn) : Prop where
  lt : ∀ (L : List Nd) (a b : Nat), a < L.length + 2 → b < L.length + 2 → (jn a b).1 < L.length + 2 ∧ (jn a b).2.1 < L.length + 2 ∧ (jn a b).2.2 < L.length + 2
  den : ∀ (L : List Nd) (a b : Nat), Bd.iteF (Bd.den L (jn a b).1) (Bd.den L (jn a b).2.1) (Bd.den L (jn a b).2.2) = J (Bd.den L a) (Bd.den L b)

/-- A table in the midst of a fold. -/
structure Stands {bits M : Nat} (A : Bd.Fam bits M) (w : World) (y : Lay) (s : St) (w3 : World) (r : Nat) (f : Bd.Fn) : Prop where
  cell : ∃ ao len cap, w3.cell? ⟨y.tb, 3, none⟩ = some (.slice ao len cap) ∧ len ≤ 1048576 ∧ s.L.length ≤ len
  grew : Grew noX A w y s w3 r f

theorem stands_of {M : Nat} {w w3 : World} {y : Lay} {s : St} (A : Bd.Fam s.bits M) (hlim : s.bits * M ≤ s.limit) (hl : s.limit ≤ 1048576) {r : Nat} {f : Bd.Fn} (hG : Grew noX A w y s w3 r f) : Stands A w y s w3 r f := by
  refine ⟨?_, hG⟩
  obtain ⟨N, y', hT, hW, hr, hd, hm⟩ := hG.ex
  obtain ⟨ao, cap, hls⟩ := hT.list_slice
  have hfew := hW.few hT.okay
  refine ⟨ao, (s.L ++ N).length, cap, ?_, by omega, by rw [List.length_append]; omega⟩
  rw [← hm.tb, hT.cell3, hls]

theorem shrink_stands {M : Nat} {w w3 : World} {y : Lay} {s : St} (A : Bd.Fam s.bits M) (hT0 : Tab w y s) (hlim : s.bits * M ≤ s.limit) {r : Nat} {f : Bd.Fn} (hG : Grew noX A w y s w3 r f) (W : World) (hB : Below w3.heap.size w3 W) :
    Calls Try.prog 83 #[.pointer (some ⟨y.tb, 3, none⟩), i6 s.L.length, i6 r] W fun e w4 => ∃ r4, e = .returned (i6 r4) ∧ Stands A w y s w4 r4 f := by
  obtain ⟨N, y', hT, hW, hr, hd, hm⟩ := hG.ex
  have hsl := hT0.small
  have hfew := hW.few hT.okay
  have h := shrink_any (s := { s with L := s.L ++ N }) (hT.below hB) s.L.length r (by show _ ≤ (s.L ++ N).length; rw [List.length_append]; omega) (by show (s.L ++ N).length ≤ _; omega) (fun m hm => (hT0.valid.2 m hm).2) hr
  rw [hm.tb] at h
  refine h.mono ?_
  rintro e w4 ⟨r4, N4, rfl, hL, y4, hT4, hm4⟩
  have et : (s.L ++ N).take s.L.length = s.L := List.take_left
  obtain ⟨l1, l2, l3, l4⟩ := hL
  have l4' := l4 A hW
  simp only at hT4 l1 l2 l3 l4'
  rw [et] at hT4 l1 l2 l3 l4'
  exact ⟨r4, rfl, stands_of A hlim (by omega) ⟨N4, y4, hT4, l4', l2, l3.trans hd, hm.trans ((moves_below y' hB).trans hm4)⟩⟩

theorem fold_round {M : Nat} {w wr : World} {y : Lay} {s : St} (A : Bd.Fam s.bits M) (hT0 : Tab w y s) (hlim : s.bits * M ≤ s.limit) (fj : FuncId) (jn : Nat → Nat → Nat × Nat × Nat) (hJ : Joins fj jn) (J : Bd.Fn → Bd.Fn → Bd.Fn) (hM : Means jn J) {r m : Nat} {f : Bd.Fn} (hG : Grew noX A w y s wr r f) (hm : m < s.L.length + 2) (hF : A.F 0 (J f (Bd.den s.L m)))
    (room : Nat) (hroom : s.bits * M ≤ room) (hr3 : room ≤ 1073741824) (W : World) (hB : Below wr.heap.size wr W) :
    Calls Try.prog 52 #[.pointer (some ⟨y.tb, 3, none⟩), .int .i64 room] W fun e w1 => ∃ p, e = .returned p ∧ Hid (Calls Try.prog fj #[i6 r, i6 m] w1 fun e w2 => ∃ v, e = .returned v ∧ Hid (Calls Try.prog 53 #[p, v] w2 fun e w3 => ∃ r', e = .returned (i6 r') ∧ Hid (Stands A w y s w3 r' (J f (Bd.den s.L m))))) := by
  obtain ⟨N, y1, hT, hW, hr, hd, hmv⟩ := hG.ex
  have hsl := hT0.small
  have hmN : m < (s.L ++ N).length + 2 := by rw [List.length_append]; omega
  obtain ⟨l1, l2, l3⟩ := hM.lt (s.L ++ N) r m hr hmN
  have hden := hM.den (s.L ++ N) r m
  rw [hd, Bd.den_append_old s.L N hm] at hden
  have h := fold_step (s := { s with L := s.L ++ N }) A hT hW (by show s.bits * M ≤ _; omega) fj jn hJ r m room hroom hr3 l1 l2 l3 (by show A.F 0 (Bd.iteF (Bd.den (s.L ++ N) _) (Bd.den (s.L ++ N) _) (Bd.den (s.L ++ N) _)); rw [hden]; exact hF) W hB
  rw [hmv.tb] at h
  refine h.mono ?_
  rintro e w1 ⟨p, rfl, HJ1⟩
  refine ⟨p, rfl, ?_⟩
  refine HJ1.out.mono ?_
  rintro e w2 ⟨v, rfl, HI1⟩
  refine ⟨v, rfl, ?_⟩
  refine HI1.out.mono ?_
  rintro e w3 ⟨r', rfl, HG1⟩
  refine ⟨r', rfl, ?_⟩
  obtain ⟨N2, y3, hT3, hW3, hr3', hd3, hm3⟩ := HG1.out.ex
  refine stands_of A hlim (by omega) ⟨N ++ N2, y3, ?_, ?_, ?_, ?_, hmv.trans hm3⟩
  · have := hT3; simp only at this; rw [List.append_assoc] at this; exact this
  · have := hW3; simp only at this; rw [List.append_assoc] at this; exact this
  · have := hr3'; simp only at this; rw [List.append_assoc] at this; exact this
  · have := hd3; simp only at this; rw [List.append_assoc, hden] at this; exact this

set_option maxRecDepth 4000 in
set_option maxHeartbeats 8000000 in
theorem fold_any {M : Nat} {w : World} {y : Lay} {s : St} (A : Bd.Fam s.bits M) (hT : Tab w y s) (hW : Bd.Within A s.L) (hlim : s.bits * M ≤ s.limit) (fj : FuncId) (jn : Nat → Nat → Nat × Nat × Nat) (hJ : Joins fj jn) (J : Bd.Fn → Bd.Fn → Bd.Fn) (hM : Means jn J) (e0 g : Nat) (he : e0 < 2) (ns : List Nat) (hn : ns.length ≤ 1000000) (hNA : NodesAt w g ns) (hg : ¬ y.own g)
    (hns : ∀ m, m ∈ ns → m < s.L.length + 2) (F : Nat → Bd.Fn) (h0 : Bd.den s.L e0 = F 0) (hF : ∀ k m, ns[k]? = some m → F (k + 1) = J (F k) (Bd.den s.L m) ∧ A.F 0 (F (k + 1))) :
    Calls Try.prog 47 #[.pointer (some ⟨y.tb, 0, none⟩), .slice (some ⟨g, 0, none⟩) ns.length ns.length, i6 e0, .func (.func fj) #[] #[]] w fun e w' => ∃ r, e = .returned (i6 r) ∧ Grew noX A w y s w' r (F ns.length) := by
  obtain ⟨cs, g0, gs, gc⟩ := hNA
  have lg := block_lt g0
  have ltb := hT.lt y.own_tb
  have hsl := hT.small
  obtain ⟨ao, cap, hls⟩ := hT.list_slice
  have c3 := hT.cell3
  rw [hls] at c3
  have START : Hid (Stands A w y s w e0 (F 0)) := stands_of A hlim (by omega) (Grew.same hT hW (by omega) h0 (Below.refl _ _))
  obtain ⟨n, hnn⟩ : ∃ n, n = ns.length := ⟨_, rfl⟩
  have HNN := keep hnn
  obtain ⟨len, hlen⟩ : ∃ len, len = s.L.length := ⟨_, rfl⟩
  have HLEN := keep hlen
  -- what a round knows
  have ROUND : Hid (∀ (wr : World) (k r : Nat), k < n → Stands A w y s wr r (F k) → ∃ (m : Nat) (ao1 : Option Addr) (len1 cap1 : Nat), wr.cell? ⟨g, k, none⟩ = some (.int .i64 m) ∧ wr.cell? ⟨y.tb, 3, none⟩ = some (.slice ao1 len1 cap1) ∧ len1 ≤ 1048576 ∧ len ≤ len1 ∧ wr.cell? ⟨y.tb, 6, none⟩ = some (.int .i64 s.limit) ∧
      Hid (∀ (W : World) (room : Int), Below wr.heap.size wr W → (s.limit : Int) ≤ room → room ≤ 1073741824 → Calls Try.prog 52 #[.pointer (some ⟨y.tb, 3, none⟩), .int .i64 room] W fun e w1 => ∃ p, e = .returned p ∧ Hid (Calls Try.prog fj #[i6 r, i6 m] w1 fun e w2 => ∃ v, e = .returned v ∧ Hid (Calls Try.prog 53 #[p, v] w2 fun e w3 => ∃ r', e = .returned (i6 r') ∧ Hid (Stands A w y s w3 r' (F (k + 1))))))) := by
    intro wr k r hk hS
    obtain ⟨m, hm⟩ : ∃ m, ns[k]? = some m := ⟨ns[k]'(by omega), List.getElem?_eq_getElem _⟩
    obtain ⟨ao1, len1, cap1, q1, q2, q3⟩ := hS.cell
    obtain ⟨N, y1, hT1, hW1, hr1, hd1, hm1⟩ := hS.grew.ex
    have hb := hm1.block g lg hg (fun h => h)
    refine ⟨m, ao1, len1, cap1, ?_, q1, q2, by omega, ?_, ?_⟩
    · rw [World.cell?_of_block hb, cell_at g0]; exact gc k m hm
    · rw [← hm1.tb, cell_at hT1.cells]; rfl
    · intro W room hB h1 h2
      obtain ⟨rm, rfl⟩ : ∃ rm : Nat, room = (rm : Int) := ⟨room.toNat, by omega⟩
      obtain ⟨f1, f2⟩ := hF k m hm
      have := fold_round A hT hlim fj jn hJ J hM hS.grew (hns m (List.mem_of_getElem? hm)) (by rw [← f1]; exact f2) rm (by omega) (by omega) W hB
      rw [← f1] at this
      exact this
  have SHRINK : Hid (∀ (w3 : World) (k r : Nat), Stands A w y s w3 r (F k) → Calls Try.prog 83 #[.pointer (some ⟨y.tb, 3, none⟩), i6 len, i6 r] w3 fun e w4 => ∃ r4, e = .returned (i6 r4) ∧ Hid (Stands A w y s w4 r4 (F k))) := by
    intro w3 k r hS
    rw [hlen]
    exact shrink_stands A hT hlim hS.grew w3 (Below.refl _ _)
  have hent := hJ.enter
  have hlimI : (s.limit : Int) ≤ 1048576 := by omega
  have hlim0 : (0 : Int) ≤ (s.limit : Int) := by omega
  have hlenI : (len : Int) ≤ 1048576 := by
    have := hW.few hT.okay
    omega
  have hnI : (n : Int) ≤ 1000000 := by omega
  rw [← hnn]
  rw [← hlen] at c3
  clear hT hW hlim hJ hM g0 gs gc hls hsl hns h0 hF hg hnn hlen lg he
  go_enter Try.func47, Try.ntmps47
  go_wp2_with fail
  go_loopw [2, 10, 24] (fun u v i wr => ∃ k r d : Nat, k ≤ n ∧ u = .int .i64 r ∧ v = .int .i64 d ∧ d ≤ 1048576 ∧ i = .int .i64 k ∧ Hid (Stands A w y s wr r (F k))) (fun _ _ i _ => n - (intOf i).toNat)
  case atStart => exact ⟨0, e0, 0, Nat.zero_le _, rfl, rfl, by omega, rfl, START⟩
  case round =>
    obtain ⟨k, r, d, hk, rfl, rfl, hd, rfl, HS⟩ := hrel
    by_cases hlt : k < n
    · obtain ⟨m, ao1, len1, cap1, q0, q3, q4, q5, q6, QS⟩ := ROUND.out wr k r hlt HS.out
      have hkI : (k : Int) < (n : Int) := by omega
      have hk0 : (0 : Int) ≤ (k : Int) := by omega
      have h1I : (len1 : Int) ≤ 1048576 := by omega
      have hle : (len : Int) ≤ (len1 : Int) := by omega
      have hdI : (d : Int) ≤ 1048576 := by omega
      have hd0 : (0 : Int) ≤ (d : Int) := by omega
      clear HS
      by_cases hlast : k = n - 1
      · have hl1 : ((k : Int) == (n : Int) - 1) = true := by rw [beq_iff_eq]; omega
        have HLAST := keep hlast
        clear hlast
        go_wp2_with fail
        go_quiet (fail)
        go_wp2_with fail
        refine (QS.out _ _ (belowN (Below.refl _ _) _) (by omega) (by omega)).mono ?_
        rintro e w1 ⟨p, rfl, HJ1⟩
        clear QS q0 q3 q6
        go_wp2_with fail
        refine HJ1.out.mono ?_
        rintro e w2 ⟨v, rfl, HI1⟩
        clear HJ1
        go_wp2_with fail
        refine HI1.out.mono ?_
        rintro e w3 ⟨r', rfl, HS3⟩
        clear HI1
        obtain ⟨ao2, len2, cap2, p3, p4, p5⟩ := HS3.out.cell
        have hp5 : (len : Int) ≤ (len2 : Int) := by have := HLEN.out; omega
        have hp4 : (len2 : Int) ≤ 1048576 := by omega
        clear p5
        by_cases hmore : (len : Int) < (len1 : Int)
        · go_wp2_with fail
          refine (SHRINK.out w3 (k + 1) r' HS3.out).mono ?_
          rintro e w4 ⟨r4, rfl, HS4⟩
          obtain ⟨ao4, len4, cap4, t3, t4, t5⟩ := HS4.out.cell
          have ht5 : (len : Int) ≤ (len4 : Int) := by have := HLEN.out; omega
          have ht4 : (len4 : Int) ≤ 1048576 := by omega
          clear t5 p3
          go_wp2_with fail
          go_roundw
          case rel => exact ⟨k + 1, r4, len4 - len, by omega, rfl, by congr 1; omega, by omega, by go_num, HS4⟩
          case measure => simp [intOf]; omega
        · go_wp2_with fail
          go_roundw
          case rel => exact ⟨k + 1, r', d, by omega, rfl, rfl, hd, by go_num, HS3⟩
          case measure => simp [intOf]; omega
      · have hl1 : ((k : Int) == (n : Int) - 1) = false := by rw [beq_eq_false_iff_ne]; omega
        clear hlast
        go_wp2_with fail
        go_quiet (fail)
        go_wp2_with fail
        refine (QS.out _ _ (belowN (Below.refl _ _) _) (by omega) (by omega)).mono ?_
        rintro e w1 ⟨p, rfl, HJ1⟩
        clear QS q0 q3 q6
        go_wp2_with fail
        refine HJ1.out.mono ?_
        rintro e w2 ⟨v, rfl, HI1⟩
        clear HJ1
        go_wp2_with fail
        refine HI1.out.mono ?_
        rintro e w3 ⟨r', rfl, HS3⟩
        clear HI1
        obtain ⟨ao2, len2, cap2, p3, p4, p5⟩ := HS3.out.cell
        have hp5 : (len : Int) ≤ (len2 : Int) := by have := HLEN.out; omega
        have hp4 : (len2 : Int) ≤ 1048576 := by omega
        clear p5
        by_cases hmore : (len : Int) < (len1 : Int)
        · by_cases hbig : 2 * (d : Int) + 4096 < (len2 : Int) - (len : Int)
          · have hbig2 : 2 * (d : Int) + 4096 + (len : Int) < (len2 : Int) := by omega
            go_wp2_with fail
            refine (SHRINK.out w3 (k + 1) r' HS3.out).mono ?_
            rintro e w4 ⟨r4, rfl, HS4⟩
            obtain ⟨ao4, len4, cap4, t3, t4, t5⟩ := HS4.out.cell
            have ht5 : (len : Int) ≤ (len4 : Int) := by have := HLEN.out; omega
            have ht4 : (len4 : Int) ≤ 1048576 := by omega
            clear t5 p3
            go_wp2_with fail
            go_roundw
            case rel => exact ⟨k + 1, r4, len4 - len, by omega, rfl, by congr 1; omega, by omega, by go_num, HS4⟩
            case measure => simp [intOf]; omega
          · have hbig2 : ¬ (2 * (d : Int) + 4096 + (len : Int) < (len2 : Int)) := by omega
            go_wp2_with fail
            go_roundw
            case rel => exact ⟨k + 1, r', d, by omega, rfl, rfl, hd, by go_num, HS3⟩
            case measure => simp [intOf]; omega
        · go_wp2_with fail
          go_roundw
          case rel => exact ⟨k + 1, r', d, by omega, rfl, rfl, hd, by go_num, HS3⟩
          case measure => simp [intOf]; omega
    · have hkn : k = n := by omega
      subst hkn
      go_wp2_with fail
      go_ret
      have := HS.out.grew
      rw [HNN.out] at this
      exact ⟨r, rfl, by rw [← HNN.out] at this; exact this⟩
end Go.Proofs.Ytffngpdngjfcfaa
