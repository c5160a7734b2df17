/-
  Whether a rule may be, of any rule: actionMayBe, Check.
  strconv.Itoa of any priority, by the library's contract and its table.
  The law RulesParses: both Parse come to the same.
  The document's SameRules: two rows of the same rules.
  alive: a rule's line.
  A rule's line; alive.
  A rule's words and line; alive.
  The words of an action and of a rule that may be.
-/
import Derived.Test.YtbfiggghpflioaaGreatDoorUDocFAnd
import Derived.Test.YtbfiggghpflioaaGreatDoorIULay
import Derived.Sort.Walk0
namespace Go.Proofs.YtbfiggghpflioaaGreatDoor
open Go.RowKit
open Wo (Wd)

def kwT (k : Nat) : List UInt8 := if k = 3 then [97, 108, 108] else [97, 110, 121]
theorem kindWord_k {k : Nat} (hk : k = 3 ∨ k = 4) (w : World) : Calls Tryz.prog 136 #[.int .i64 k] w fun e w' => e = .returned (.string (tx (kwT k))) ∧ w' = w := by
  rcases hk with rfl | rfl
  · exact kindWord_3 w
  · exact kindWord_4 w
/-- The first ports with their marks. -/
def marks (ps : List (List UInt8)) : Nat → List (List UInt8)
  | 0 => []
  | j + 1 => marks ps j ++ [if j = 0 then [40] else [44], ps.getD j []]
theorem marks_len (ps : List (List UInt8)) (j : Nat) : (marks ps j).length = 2 * j := by
  induction j with
  | zero => rfl
  | succ j ih => simp only [marks, List.length_append, ih, List.length_cons, List.length_nil]; omega
theorem svs_app (a b : List (List UInt8)) : svs (a ++ b) = svs a ++ svs b := by simp [svs]

/-- What holds while an action's words are put down. -/
structure AwInv (w : World) (ps : List (List UInt8)) (kw : List UInt8) (j : Nat) (v : Value) (wr : World) : Prop where
  le : j ≤ ps.length
  own : wr.ownsRow w.heap.size 9 1 v (2 * j + 1) (svs (kw :: marks ps j))
  below : Below w.heap.size w wr

set_option maxRecDepth 20000 in
set_option maxHeartbeats 2000000 in
theorem actionWords_right {w : World} {g o cap k : Nat} {ps : List (List UInt8)} (hk : k = 3 ∨ k = 4) (h1 : 1 ≤ ps.length) (h2 : ps.length ≤ 64) (hg : g < w.heap.size) (hc : ∀ i, i < ps.length → w.cell? ⟨g, o + i, none⟩ = some (.string (tx (ps.getD i [])))) :
    Calls Tryz.prog 98 #[.agg #[.int .i64 k, .slice (some ⟨g, o, none⟩) ps.length cap]] w fun en w' => ∃ v, en = .returned v ∧ w'.ownsRow w.heap.size 9 1 v (2 * ps.length + 2) (svs (kwT k :: (marks ps ps.length ++ [[41]]))) ∧ Below w.heap.size w w' := by
  obtain ⟨i0, hi, hz0, hz1, hz2⟩ := info_parts Tryz.infoStr
  have HI := hid hi
  have HZ0 := hid hz0
  have HZ1 := hid hz1
  have HZ2 := hid hz2
  clear hi hz0 hz1 hz2
  have HC := hid hc
  have HKW := hid (kindWord_k hk)
  obtain ⟨kw, hkw⟩ : ∃ kw, kw = kwT k := ⟨_, rfl⟩
  rw [← hkw] at HKW ⊢
  clear hc hkw hk
  have hne0 : ((ps.length : Int) == 0) = false := by rw [beq_eq_false_iff_ne]; omega
  go_enter Tryz.func98, Tryz.ntmps98
  go_wp2_with fail
  refine (HKW.out _).mono ?_
  rintro en w1 ⟨rfl, rfl⟩
  go_wp2_with fail
  go_loopw [3, 19] (fun u i wr => ∃ (j : Nat) (v : Value), u = v ∧ i = .int .i64 j ∧ Hid (AwInv w ps kw j v wr)) (fun _ i _ => ps.length - (intOf i).toNat)
  case atStart =>
    refine ⟨0, _, rfl, rfl, Nat.zero_le _, ?_, ?_⟩
    · exact ⟨rfl, Or.inr ⟨w.heap.size + 1, 1, #[.string (tx kw)], rfl, by omega, new_1 _ _ _, Nat.le_refl _, by decide, rfl, rfl⟩⟩
    · exact ((Below.refl _ _).alloc (Nat.le_refl _) _).alloc (by simp) _
  case round =>
    obtain ⟨j, v, rfl, rfl, HJ⟩ := hrel
    have hj := HJ.out.le
    have HO := hid HJ.out.own
    have HB := hid HJ.out.below
    obtain ⟨ao, vc, rfl⟩ := own_form HO.out
    have hsz : w.heap.size ≤ wr.heap.size := HB.out.size
    by_cases hlt : j < ps.length
    · have c0 := (HB.out.cell (p := ⟨g, o + j, none⟩) (by exact hg)).trans (HC.out j hlt)
      obtain ⟨p, hp⟩ : ∃ p, p = ps.getD j [] := ⟨_, rfl⟩
      rw [← hp] at c0
      have hkI : (j : Int) < (ps.length : Int) := by omega
      have hk0 : (0 : Int) ≤ (j : Int) := by omega
      obtain ⟨mk, hmk⟩ : ∃ mk : List UInt8, mk = if j = 0 then [40] else [44] := ⟨_, rfl⟩
      have HNX := hid (fun (v' : Value) (w5 : World) (ho : w5.ownsRow w.heap.size 9 1 v' (2 * j + 1 + 2) (svs (kw :: marks ps j) ++ [.string (tx mk), .string (tx p)])) => (show w5.ownsRow w.heap.size 9 1 v' (2 * (j + 1) + 1) (svs (kw :: marks ps (j + 1))) from by
        have e : svs (kw :: marks ps (j + 1)) = svs (kw :: marks ps j) ++ [.string (tx mk), .string (tx p)] := by
          rw [hmk, hp]; simp [svs, marks]
        rw [e, show 2 * (j + 1) + 1 = 2 * j + 1 + 2 by omega]
        exact ho))
      clear hp
      cases j with
      | zero =>
        have hm0 : mk = [40] := hmk
        subst hm0
        rw [Nat.add_zero] at c0
        clear hmk
        go_wp2_with (first | (at_builtin; refine wpList_append_own_at _ rfl _ _ 24 rfl w.heap.size 9 i0 (.string ByteArray.empty) 1 16 Tryz.underlying24 HI.out HZ0.out HZ1.out HZ2.out rfl (by decide) (.slice ao (2 * 0 + 1) vc) (2 * 0 + 1) (svs (kw :: marks ps 0)) rfl (HO.out.alloc _) ⟨wr.heap.size, 0, none⟩ 2 2 [.string (tx [40]), .string (tx p)] rfl rfl (new_cells _ #[.string (tx [40]), .string (tx p)] _ _ rfl) ?c2 ?c3 ?c4 ?c5 ?_))
        case c2 => simp [Value.oneCell']
        case c3 => unfold maxLen; omega
        case c4 => omega
        case c5 => first | omega | (simp only [World.size_alloc]; omega)
        intro v' w5 hown5 hgrow5 _ _
        obtain ⟨a5, c5, rfl⟩ := own_form hown5
        have J5 := hid (HNX.out _ w5 hown5)
        have B5 := hid (show Below w.heap.size w w5 from (HB.out.alloc HB.out.size _).grown hgrow5 (by simp only [World.size_alloc]; omega) (fun q hq => (HO.out.lt q hq).1))
        clear hown5 hgrow5
        go_wp2
        go_roundw
        case rel => exact ⟨0 + 1, _, rfl, by go_num, ⟨by omega, J5.out, B5.out⟩⟩
        case measure => simp [intOf]; omega
      | succ i =>
        have hm0 : mk = [44] := hmk
        subst hm0
        have hi1 : ¬ ((i : Int) + 1 = 0) := by omega
        clear hmk
        go_wp2_with (first | (at_builtin; refine wpList_append_own_at _ rfl _ _ 24 rfl w.heap.size 9 i0 (.string ByteArray.empty) 1 16 Tryz.underlying24 HI.out HZ0.out HZ1.out HZ2.out rfl (by decide) (.slice ao (2 * (i + 1) + 1) vc) (2 * (i + 1) + 1) (svs (kw :: marks ps (i + 1))) rfl (HO.out.alloc _) ⟨wr.heap.size, 0, none⟩ 2 2 [.string (tx [44]), .string (tx p)] rfl rfl (new_cells _ #[.string (tx [44]), .string (tx p)] _ _ rfl) ?c2 ?c3 ?c4 ?c5 ?_))
        case c2 => simp [Value.oneCell']
        case c3 => unfold maxLen; omega
        case c4 => omega
        case c5 => first | omega | (simp only [World.size_alloc]; omega)
        intro v' w5 hown5 hgrow5 _ _
        obtain ⟨a5, c5, rfl⟩ := own_form hown5
        have J5 := hid (HNX.out _ w5 hown5)
        have B5 := hid (show Below w.heap.size w w5 from (HB.out.alloc HB.out.size _).grown hgrow5 (by simp only [World.size_alloc]; omega) (fun q hq => (HO.out.lt q hq).1))
        clear hown5 hgrow5
        go_wp2
        go_roundw
        case rel => exact ⟨i + 1 + 1, _, rfl, by go_num, ⟨by omega, J5.out, B5.out⟩⟩
        case measure => simp [intOf]; omega
    · have hjn : j = ps.length := by omega
      subst hjn
      have hkI : ¬ ((ps.length : Int) < (ps.length : Int)) := by omega
      clear hlt
      obtain ⟨n, hn⟩ : ∃ n, n = ps.length := ⟨_, rfl⟩
      rw [← hn] at HO hkI h1 h2 hne0 ⊢
      have HNN := hid hn
      clear hn
      go_wp2_with (first | (at_builtin; refine wpList_append_own_at _ rfl _ _ 24 rfl w.heap.size 9 i0 (.string ByteArray.empty) 1 16 Tryz.underlying24 HI.out HZ0.out HZ1.out HZ2.out rfl (by decide) (.slice ao (2 * n + 1) vc) (2 * n + 1) (svs (kw :: marks ps n)) rfl (HO.out.alloc _) ⟨wr.heap.size, 0, none⟩ 1 1 [.string (tx [41])] rfl rfl (new_cells _ #[.string (tx [41])] _ _ rfl) ?c2 ?c3 ?c4 ?c5 ?_))
      case c2 => simp [Value.oneCell']
      case c3 => unfold maxLen; omega
      case c4 => omega
      case c5 => first | omega | (simp only [World.size_alloc]; omega)
      intro v' w5 hown5 hgrow5 _ _
      obtain ⟨a5, c5, rfl⟩ := own_form hown5
      have J5 := hid (show w5.ownsRow w.heap.size 9 1 (.slice a5 (2 * n + 1 + 1) c5) (2 * n + 2) (svs (kw :: (marks ps n ++ [[41]]))) from by
        have e : svs (kw :: (marks ps n ++ [[41]])) = svs (kw :: marks ps n) ++ [.string (tx [41])] := by simp [svs]
        rw [e]; exact hown5)
      have B5 := hid (show Below w.heap.size w w5 from (HB.out.alloc HB.out.size _).grown hgrow5 (by simp only [World.size_alloc]; omega) (fun q hq => (HO.out.lt q hq).1))
      clear hown5 hgrow5
      go_wp2
      go_ret
      exact ⟨_, rfl, (by rw [← HNN.out]; exact J5.out), B5.out⟩
end Go.Proofs.YtbfiggghpflioaaGreatDoor
namespace Go.Proofs.YtbfiggghpflioaaGreatDoor
open Go.RowKit
open Wo (Wd)

set_option maxHeartbeats 1000000 in
theorem small_5 (w : World) : Calls Tryz.prog 193 #[.int .i64 5] w fun e w' => e = .returned (.string (tx [53])) ∧ w' = w := by
  go_enter Tryz.func193, Tryz.ntmps193
  go_wp2
  go_ret
  exact ⟨rfl, rfl⟩
set_option maxHeartbeats 1000000 in
theorem FormatInt_5 (w : World) : Calls Tryz.prog 171 #[.int .i64 5, .int .i64 10] w fun e w' => e = .returned (.string (tx [53])) ∧ w' = w := by
  go_enter Tryz.func171, Tryz.ntmps171
  go_wp2_with fail
  refine (small_5 _).mono ?_
  rintro e w1 ⟨rfl, rfl⟩
  go_wp2
  go_ret
  exact ⟨rfl, rfl⟩
set_option maxHeartbeats 1000000 in
theorem iItoa_5 (w : World) : Calls Tryz.prog 135 #[.int .i64 5] w fun e w' => e = .returned (.string (tx [53])) ∧ w' = w := by
  go_enter Tryz.func135, Tryz.ntmps135
  go_wp2_with fail
  refine (FormatInt_5 _).mono ?_
  rintro e w1 ⟨rfl, rfl⟩
  go_wp2
  go_ret
  exact ⟨rfl, rfl⟩
set_option maxHeartbeats 1000000 in
theorem Itoa_5 (w : World) : Calls Tryz.prog 97 #[.int .i64 5] w fun e w' => e = .returned (.string (tx [53])) ∧ w' = w := by
  go_enter Tryz.func97, Tryz.ntmps97
  go_wp2_with fail
  refine (iItoa_5 _).mono ?_
  rintro e w1 ⟨rfl, rfl⟩
  go_wp2
  go_ret
  exact ⟨rfl, rfl⟩

theorem addr_plus (g j : Nat) : (⟨g, 0, none⟩ : Addr).add j = ⟨g, j, none⟩ := by unfold Addr.add; split <;> simp_all
theorem svs_one {zs : List (List UInt8)} : ∀ u ∈ svs zs, u.oneCell' = true := by
  intro u hu
  simp only [svs, List.mem_map] at hu
  obtain ⟨z, _, rfl⟩ := hu
  rfl

set_option maxRecDepth 20000 in
set_option maxHeartbeats 2000000 in
theorem ruleWords_5 {w : World} {g o cap k : Nat} {m : List UInt8} {ps : List (List UInt8)} (hk : k = 3 ∨ k = 4) (h1 : 1 ≤ ps.length) (h2 : ps.length ≤ 64) (hg : g < w.heap.size) (hc : ∀ i, i < ps.length → w.cell? ⟨g, o + i, none⟩ = some (.string (tx (ps.getD i [])))) :
    Calls Tryz.prog 60 #[.agg #[.int .i64 5, .string (tx m), .int .i64 k, .slice (some ⟨g, o, none⟩) ps.length cap]] w fun en w' => ∃ v, en = .returned v ∧ w'.ownsRow w.heap.size 9 1 v (2 * ps.length + 5) (svs (Ru.ruleT :: [53] :: m :: kwT k :: (marks ps ps.length ++ [[41]]))) ∧ Below w.heap.size w w' := by
  obtain ⟨i0, hi, hz0, hz1, hz2⟩ := info_parts Tryz.infoStr
  have HI := hid hi
  have HZ0 := hid hz0
  have HZ1 := hid hz1
  have HZ2 := hid hz2
  clear hi hz0 hz1 hz2
  have HC := hid hc
  have HAW := hid (fun (w' : World) (hg' : g < w'.heap.size) (hc' : ∀ i, i < ps.length → w'.cell? ⟨g, o + i, none⟩ = some (.string (tx (ps.getD i [])))) => actionWords_right (cap := cap) hk h1 h2 hg' hc')
  clear hc
  go_enter Tryz.func60, Tryz.ntmps60
  go_wp2_with fail
  have RB := hid (new_0 w (rob 5 (tx m) k (.slice (some ⟨g, o, none⟩) ps.length cap)))
  have SH := hid (fun (W : World) (hb : W.heap[w.heap.size]? = some (rob 5 (tx m) k (.slice (some ⟨g, o, none⟩) ps.length cap))) => (rob_cells hb))
  refine wp_region_held_drew (S := (fun w' => w'.cell? ⟨w.heap.size, 0, none⟩ = some (.int .i64 5) ∧ w'.cell? ⟨w.heap.size, 1, none⟩ = some (.string (tx m)) ∧ w'.cell? ⟨w.heap.size, 2, none⟩ = some (.int .i64 k) ∧ w'.cell? ⟨w.heap.size, 3, none⟩ = some (.slice (some ⟨g, o, none⟩) ps.length cap))) (by kernel_rfl) (by go_keep) (fun hHeld => ?_)
  refine wpAnyH_take (i := 0) (v := .pointer (some ⟨w.heap.size, 0, none⟩)) rfl (by kernel_rfl) (by kernel_rfl) (by kernel_rfl) (fun _ _ _ h => h) (Or.inl ⟨by rfl, fun w hSw => by (try dsimp only at hSw); go_simp⟩) hHeld ?_
  simp only [Act.put, List.setIfInBounds_toArray]
  refine wpAnyH_take (i := 1) (v := .int .i64 5) rfl (by kernel_rfl) (by kernel_rfl) (by kernel_rfl) (fun _ _ _ h => h) (Or.inl ⟨by rfl, fun w hSw => by (try dsimp only at hSw); go_simp⟩) hHeld ?_
  simp only [Act.put]
  refine wpAnyH_take (i := 3) (v := .pointer (some ⟨w.heap.size, 1, none⟩)) rfl (by kernel_rfl) (by kernel_rfl) (by kernel_rfl) (fun _ _ _ h => h) (Or.inl ⟨by rfl, fun w hSw => by (try dsimp only at hSw); go_simp⟩) hHeld ?_
  simp only [Act.put]
  refine wpAnyH_take (i := 4) (v := .string (tx m)) rfl (by kernel_rfl) (by kernel_rfl) (by kernel_rfl) (fun _ _ _ h => h) (Or.inl ⟨by rfl, fun w hSw => by (try dsimp only at hSw); go_simp⟩) hHeld ?_
  simp only [Act.put]
  refine wpAnyH_take (i := 6) (v := .pointer (some ⟨w.heap.size, 2, none⟩)) rfl (by kernel_rfl) (by kernel_rfl) (by kernel_rfl) (fun _ _ _ h => h) (Or.inl ⟨by rfl, fun w hSw => by (try dsimp only at hSw); go_simp⟩) hHeld ?_
  simp only [Act.put]
  refine wpAnyH_take (i := 7) (v := .agg #[.int .i64 k, .slice (some ⟨g, o, none⟩) ps.length cap]) rfl (by kernel_rfl) (by kernel_rfl) (by kernel_rfl) (fun _ _ _ h => h) (Or.inl ⟨by rfl, fun w hSw => by (try dsimp only at hSw); go_simp⟩) hHeld ?_
  simp only [Act.put]
  refine wpAnyH_ready (rs := [2]) (by kernel_rfl) (by simp) ?_
  refine AllReadyH.cons rfl (fun K hK => ?_) AllReadyH.nil
  go_simp
  refine (Itoa_5 _).mono ?_
  rintro en w1 ⟨rfl, rfl⟩
  refine hK.out _ _ hHeld (fun hHeld2 => ?_)
  clear hK K
  refine wpAnyH_ready (rs := [5, 8]) (by kernel_rfl) (by simp) ?_
  refine AllReadyH.cons rfl (fun K hK => ?_) ?_
  · go_simp
    have RBA := hid (show (((w.alloc (rob 5 (tx m) k (.slice (some ⟨g, o, none⟩) ps.length cap))).alloc (.cells #[.string ⟨#[114, 117, 108, 101]⟩, .string (tx [53]), .string (tx m)] 9)).drew).heap[w.heap.size]? = some (rob 5 (tx m) k (.slice (some ⟨g, o, none⟩) ps.length cap)) from new_old _ _ RB.out)
    refine hK.out _ _ ⟨(SH.out _ RBA.out).1, (SH.out _ RBA.out).2.1, (SH.out _ RBA.out).2.2.1, (SH.out _ RBA.out).2.2.2.1⟩ (fun _ => ?_)
    clear hK K
    have BA := hid (show Below w.heap.size w ((w.alloc (rob 5 (tx m) k (.slice (some ⟨g, o, none⟩) ps.length cap))).alloc (.cells #[.string ⟨#[114, 117, 108, 101]⟩, .string (tx [53]), .string (tx m)] 9)).drew from (((Below.refl _ _).alloc (Nat.le_refl _) _).alloc (by simp) _).drew)
    refine wpAnyH_ready (rs := [8]) (by kernel_rfl) (by simp) ?_
    refine AllReadyH.cons rfl (fun K hK => ?_) AllReadyH.nil
    go_simp
    refine (HAW.out _ (Nat.lt_of_lt_of_le hg BA.out.size) (fun i hi => (BA.out.cell (p := ⟨g, o + i, none⟩) (by exact hg)).trans (HC.out i hi))).mono ?_
    rintro en w3 ⟨v3, rfl, hown3, hb3⟩
    obtain ⟨g3, cap3, rfl, hg3, hc3⟩ := own_some hown3 (by omega)
    have hl3 := hown3.1
    have N3 := hid (fun j u (hu : (svs (kwT k :: (marks ps ps.length ++ [[41]])))[j]? = some u) => (by rw [addr_plus]; exact hc3 j u hu : w3.cell? ((⟨g3, 0, none⟩ : Addr).add j) = some u))
    have RBW := hid (below_block hb3 RBA.out (lt_of_block RBA.out))
    have BW := hid (show Below w.heap.size w w3 from BA.out.trans (hb3.mono BA.out.size))
    have O3 := hid (show w3.ownsRow w.heap.size 9 1 (.slice (some ⟨w.heap.size + 1, 0, none⟩) 3 3) 3 (svs [Ru.ruleT, [53], m]) from
      ⟨rfl, Or.inr ⟨w.heap.size + 1, 3, #[.string ⟨#[114, 117, 108, 101]⟩, .string (tx [53]), .string (tx m)], rfl, by omega, below_block hb3 (show (((w.alloc (rob 5 (tx m) k (.slice (some ⟨g, o, none⟩) ps.length cap))).alloc (.cells #[.string ⟨#[114, 117, 108, 101]⟩, .string (tx [53]), .string (tx m)] 9)).drew).heap[w.heap.size + 1]? = some (.cells #[.string ⟨#[114, 117, 108, 101]⟩, .string (tx [53]), .string (tx m)] 9) from new_1 _ _ _) (by simp [World.drew]), Nat.le_refl _, by decide, rfl, rfl⟩⟩)
    clear hown3 hb3 hc3
    refine hK.out _ _ ⟨(SH.out _ RBW.out).1, (SH.out _ RBW.out).2.1, (SH.out _ RBW.out).2.2.1, (SH.out _ RBW.out).2.2.2.1⟩ (fun _ => ?_)
    clear hK K
    refine wpAnyH_ready (rs := [9]) (by kernel_rfl) (by simp) ?_
    refine AllReadyH.cons rfl (fun K hK => ?_) AllReadyH.nil
    refine step_append_lies _ (by rfl) (.tmp 8) (.tmp 11) 24 (by rfl) w.heap.size 9 i0 (.string ByteArray.empty) 1 16 Tryz.underlying24 HI.out HZ0.out HZ1.out HZ2.out rfl (by decide) (.slice (some ⟨w.heap.size + 1, 0, none⟩) 3 3) 3 (svs [Ru.ruleT, [53], m]) rfl O3.out ⟨g3, 0, none⟩ (2 * ps.length + 2) cap3 (svs (kwT k :: (marks ps ps.length ++ [[41]]))) rfl hl3 N3.out svs_one (by omega) (by unfold maxLen; omega) (by omega) BW.out.size _ rfl ?_
    intro g5 cap5 w5 hown5 hgrow5 hat5 hlt5
    have RB5 := hid (block_grow (r := w.heap.size + 1) RBW.out hgrow5 (by omega))
    have OW := hid (show w5.ownsRow w.heap.size 9 1 (.slice (some ⟨g5, 0, none⟩) (3 + (2 * ps.length + 2)) cap5) (2 * ps.length + 5) (svs (Ru.ruleT :: [53] :: m :: kwT k :: (marks ps ps.length ++ [[41]]))) from by
      rw [show 2 * ps.length + 5 = 3 + (2 * ps.length + 2) by omega]
      exact hown5)
    have B5 := hid (show Below w.heap.size w w5 from BW.out.grown hgrow5 BW.out.size (fun q hq => by simp [Value.ownBlock] at hq; omega))
    clear hown5 hgrow5 hat5
    refine hK.out _ _ ⟨(SH.out _ RB5.out).1, (SH.out _ RB5.out).2.1, (SH.out _ RB5.out).2.2.1, (SH.out _ RB5.out).2.2.2.1⟩ (fun hHeld5 => ?_)
    clear hK K
    refine wpAnyH_ready (rs := [10]) (by kernel_rfl) (by simp) ?_
    refine AllReadyH.cons rfl (fun K hK => ?_) AllReadyH.nil
    go_simp
    refine hK.out _ _ hHeld5 (fun _ => ?_)
    refine wpAnyH_done (by kernel_rfl) ?_ _
    clear hK K
    go_wp2
    go_ret
    exact ⟨_, rfl, OW.out, B5.out⟩
  · refine AllReadyH.cons rfl (fun K hK => ?_) AllReadyH.nil
    go_simp
    have BA := hid (show Below w.heap.size w (w.alloc (rob 5 (tx m) k (.slice (some ⟨g, o, none⟩) ps.length cap))).drew from ((Below.refl _ _).alloc (Nat.le_refl _) _).drew)
    refine (HAW.out _ (Nat.lt_of_lt_of_le hg BA.out.size) (fun i hi => (BA.out.cell (p := ⟨g, o + i, none⟩) (by exact hg)).trans (HC.out i hi))).mono ?_
    rintro en w3 ⟨v3, rfl, hown3, hb3⟩
    obtain ⟨g3, cap3, rfl, hg3, hc3⟩ := own_some hown3 (by omega)
    have hl3 := hown3.1
    have RBX := hid (below_block hb3 (show ((w.alloc (rob 5 (tx m) k (.slice (some ⟨g, o, none⟩) ps.length cap))).drew).heap[w.heap.size]? = some (rob 5 (tx m) k (.slice (some ⟨g, o, none⟩) ps.length cap)) from RB.out) (by simp [World.drew]))
    have BX := hid (show Below w.heap.size w w3 from BA.out.trans (hb3.mono BA.out.size))
    refine hK.out _ _ ⟨(SH.out _ RBX.out).1, (SH.out _ RBX.out).2.1, (SH.out _ RBX.out).2.2.1, (SH.out _ RBX.out).2.2.2.1⟩ (fun _ => ?_)
    clear hK K
    have RBW := hid (new_old w3 (.cells #[.string ⟨#[114, 117, 108, 101]⟩, .string (tx [53]), .string (tx m)] 9) RBX.out)
    have BW := hid (BX.out.alloc BX.out.size (.cells #[.string ⟨#[114, 117, 108, 101]⟩, .string (tx [53]), .string (tx m)] 9))
    have hsz3 : w.heap.size < w3.heap.size := lt_of_block RBX.out
    have N3 := hid (fun j u (hu : (svs (kwT k :: (marks ps ps.length ++ [[41]])))[j]? = some u) => (by rw [addr_plus]; exact alloc_cell (hc3 j u hu) hg3 (.cells #[.string ⟨#[114, 117, 108, 101]⟩, .string (tx [53]), .string (tx m)] 9) : (w3.alloc (.cells #[.string ⟨#[114, 117, 108, 101]⟩, .string (tx [53]), .string (tx m)] 9)).cell? ((⟨g3, 0, none⟩ : Addr).add j) = some u))
    have O3 := hid (show (w3.alloc (.cells #[.string ⟨#[114, 117, 108, 101]⟩, .string (tx [53]), .string (tx m)] 9)).ownsRow w.heap.size 9 1 (.slice (some ⟨w3.heap.size, 0, none⟩) 3 3) 3 (svs [Ru.ruleT, [53], m]) from
      ⟨rfl, Or.inr ⟨w3.heap.size, 3, #[.string ⟨#[114, 117, 108, 101]⟩, .string (tx [53]), .string (tx m)], rfl, by omega, new_0 _ _, Nat.le_refl _, by decide, rfl, rfl⟩⟩)
    clear hown3 hb3 hc3
    refine wpAnyH_ready (rs := [5]) (by kernel_rfl) (by simp) ?_
    refine AllReadyH.cons rfl (fun K hK => ?_) AllReadyH.nil
    go_simp
    refine hK.out _ _ ⟨(SH.out _ RBW.out).1, (SH.out _ RBW.out).2.1, (SH.out _ RBW.out).2.2.1, (SH.out _ RBW.out).2.2.2.1⟩ (fun _ => ?_)
    clear hK K
    refine wpAnyH_ready (rs := [9]) (by kernel_rfl) (by simp) ?_
    refine AllReadyH.cons rfl (fun K hK => ?_) AllReadyH.nil
    refine step_append_lies _ (by rfl) (.tmp 8) (.tmp 11) 24 (by rfl) w.heap.size 9 i0 (.string ByteArray.empty) 1 16 Tryz.underlying24 HI.out HZ0.out HZ1.out HZ2.out rfl (by decide) (.slice (some ⟨w3.heap.size, 0, none⟩) 3 3) 3 (svs [Ru.ruleT, [53], m]) rfl O3.out ⟨g3, 0, none⟩ (2 * ps.length + 2) cap3 (svs (kwT k :: (marks ps ps.length ++ [[41]]))) rfl hl3 N3.out svs_one (by omega) (by unfold maxLen; omega) (by omega) BW.out.size _ rfl ?_
    intro g5 cap5 w5 hown5 hgrow5 hat5 hlt5
    have RB5 := hid (block_grow (r := w3.heap.size) RBW.out hgrow5 (by omega))
    have OW := hid (show w5.ownsRow w.heap.size 9 1 (.slice (some ⟨g5, 0, none⟩) (3 + (2 * ps.length + 2)) cap5) (2 * ps.length + 5) (svs (Ru.ruleT :: [53] :: m :: kwT k :: (marks ps ps.length ++ [[41]]))) from by
      rw [show 2 * ps.length + 5 = 3 + (2 * ps.length + 2) by omega]
      exact hown5)
    have B5 := hid (show Below w.heap.size w w5 from BW.out.grown hgrow5 BW.out.size (fun q hq => by simp [Value.ownBlock] at hq; omega))
    clear hown5 hgrow5 hat5
    refine hK.out _ _ ⟨(SH.out _ RB5.out).1, (SH.out _ RB5.out).2.1, (SH.out _ RB5.out).2.2.1, (SH.out _ RB5.out).2.2.2.1⟩ (fun hHeld5 => ?_)
    clear hK K
    refine wpAnyH_ready (rs := [10]) (by kernel_rfl) (by simp) ?_
    refine AllReadyH.cons rfl (fun K hK => ?_) AllReadyH.nil
    go_simp
    refine hK.out _ _ hHeld5 (fun _ => ?_)
    refine wpAnyH_done (by kernel_rfl) ?_ _
    clear hK K
    go_wp2
    go_ret
    exact ⟨_, rfl, OW.out, B5.out⟩
end Go.Proofs.YtbfiggghpflioaaGreatDoor
namespace Go.Proofs.YtbfiggghpflioaaGreatDoor
open Go.RowKit
open Wo (Wd)

set_option maxRecDepth 20000 in
set_option maxHeartbeats 2000000 in
theorem Line_5 {w : World} {g o cap k : Nat} {m : List UInt8} {ps : List (List UInt8)} (hk : k = 3 ∨ k = 4) (hp : okPorts ps) (h20 : ps.length ≤ 20) (hg : g < w.heap.size) (hc : ∀ i, i < ps.length → w.cell? ⟨g, o + i, none⟩ = some (.string (tx (ps.getD i []))))
    (hm : Cub.Cu.right m = true) (hml : 1 ≤ m.length ∧ m.length ≤ 128) (hsh : ∀ l ∈ Ru.ruleT :: [53] :: m :: kwT k :: (marks ps ps.length ++ [[41]]), l.length ≤ 4000) :
    Calls Tryz.prog 33 #[.agg #[.int .i64 5, .string (tx m), .int .i64 k, .slice (some ⟨g, o, none⟩) ps.length cap]] w fun en w' => en = .returned (.tuple #[.string (tx (sayS (Ru.ruleT :: [53] :: m :: kwT k :: (marks ps ps.length ++ [[41]])))), .int .i64 (sayE (Ru.ruleT :: [53] :: m :: kwT k :: (marks ps ps.length ++ [[41]])))]) ∧ Below w.heap.size w w' := by
  have HC := hid hc
  have HCK := hid (fun w' => uCheck m w')
  rw [if_pos hm] at HCK
  have HCH := hid (fun (w' : World) (hg' : g < w'.heap.size) (hc' : ∀ i, i < ps.length → w'.cell? ⟨g, o + i, none⟩ = some (.string (tx (ps.getD i [])))) => check_right (cap := cap) (p := 5) hk hp hg' hc' (by omega) hm hml)
  have HRW := hid (fun (w' : World) (hg' : g < w'.heap.size) (hc' : ∀ i, i < ps.length → w'.cell? ⟨g, o + i, none⟩ = some (.string (tx (ps.getD i [])))) => ruleWords_5 (cap := cap) (m := m) hk hp.1 hp.2.1 hg' hc')
  obtain ⟨ls, hls⟩ : ∃ ls, ls = Ru.ruleT :: [53] :: m :: kwT k :: (marks ps ps.length ++ [[41]]) := ⟨_, rfl⟩
  have hlen : ls.length = 2 * ps.length + 5 := by rw [hls]; simp [marks_len]
  rw [← hls] at HRW hsh ⊢
  have HSY := hid (fun (v : Value) (w' : World) (h : Txs w' v ls) => Say_any v ls w' h (by omega) hsh)
  have HLN := hid hlen
  clear hc hp hm hk hsh hls hlen
  go_enter Tryz.func33, Tryz.ntmps33
  go_wp2_with fail
  refine (HCK.out _).mono ?_
  rintro en w1 ⟨rfl, hb1⟩
  have OB := hid (below_block hb1 (new_0 w (rob 5 (tx m) k (.slice (some ⟨g, o, none⟩) ps.length cap))) (by simp))
  obtain ⟨d0, d1, d2, d3, _, _, _, _⟩ := rob_cells OB.out
  have B1 := hid (show Below w.heap.size w w1 from ((Below.refl _ _).alloc (Nat.le_refl _) _).trans (hb1.mono (by simp)))
  clear hb1
  go_wp2_with fail
  refine (HCH.out _ (Nat.lt_of_lt_of_le hg B1.out.size) (fun i hi => (B1.out.cell (p := ⟨g, o + i, none⟩) (by exact hg)).trans (HC.out i hi))).mono ?_
  rintro en w2 ⟨rfl, hb2⟩
  obtain ⟨f0, f1, f2, f3, _, _, _, _⟩ := rob_cells (below_block hb2 OB.out (lt_of_block OB.out))
  have B2 := hid (B1.out.trans (hb2.mono B1.out.size))
  clear hb2
  go_wp2_with fail
  refine (HRW.out _ (Nat.lt_of_lt_of_le hg B2.out.size) (fun i hi => (B2.out.cell (p := ⟨g, o + i, none⟩) (by exact hg)).trans (HC.out i hi))).mono ?_
  rintro en w3 ⟨v3, rfl, hown3, hb3⟩
  have HT := hid (own_txs (show w3.ownsRow _ 9 1 v3 ls.length (svs ls) by rw [HLN.out]; exact hown3))
  have B3 := hid (B2.out.trans (hb3.mono B2.out.size))
  obtain ⟨ao3, cap3, rfl⟩ := own_form hown3
  clear hb3 hown3
  go_wp2_with fail
  refine (HSY.out _ _ HT.out).mono ?_
  rintro en w4 ⟨rfl, hb4⟩
  have B4 := hid (B3.out.trans (hb4.mono B3.out.size))
  clear hb4
  go_wp2
  refine bodyPost_ret (v := .tuple #[.string (tx (sayS ls)), .int .i64 (sayE ls)]) (by simp [results, Tryz.results33, go_sem]) rfl ?_
  exact ⟨rfl, B4.out⟩
end Go.Proofs.YtbfiggghpflioaaGreatDoor
namespace Go.Proofs.YtbfiggghpflioaaGreatDoor
open Go.RowKit
open Wo (Wd)

/-- rule 5 10x any(p2,p1) -/
def aT : List UInt8 := [114, 117, 108, 101, 32, 53, 32, 49, 48, 120, 32, 97, 110, 121, 40, 112, 50, 44, 112, 49, 41]
def aR : Ru.Rl := ⟨5, [49, 48, 120], 4, [[112, 49], [112, 50]]⟩
theorem a_prs : Ru.prs aT 3 = .ok [aR] := by kernel_rfl
theorem a_say : sayS (Ru.ruleT :: [53] :: [49, 48, 120] :: kwT 4 :: (marks [[112, 49], [112, 50]] 2 ++ [[41]])) = [114, 117, 108, 101, 32, 53, 32, 49, 48, 120, 32, 97, 110, 121, 40, 112, 49, 44, 112, 50, 41] := by kernel_rfl
theorem a_sayE : sayE (Ru.ruleT :: [53] :: [49, 48, 120] :: kwT 4 :: (marks [[112, 49], [112, 50]] 2 ++ [[41]])) = 0 := by kernel_rfl
theorem a_ports : okPorts [[112, 49], [112, 50]] := by
  refine ⟨by decide, by decide, ?_, ?_⟩
  · intro p hp
    simp only [List.mem_cons, List.not_mem_nil, or_false] at hp
    rcases hp with rfl | rfl <;> decide
  · refine List.pairwise_cons.2 ⟨?_, by simp⟩
    intro b hb
    rw [List.mem_singleton] at hb
    subst hb
    decide

set_option maxRecDepth 20000 in
set_option maxHeartbeats 2000000 in
theorem ualive (w : World) : Calls Tryz.prog 10 #[] w fun e w' => e = .returned (.bool true) ∧ Below w.heap.size w w' := by
  have HP := hid (Parse_any aT 3 w (by decide))
  go_enter Tryz.func10, Tryz.ntmps10
  go_wp2_with fail
  refine HP.out.mono ?_
  rintro en w1 ⟨hb1, ⟨f, hf, rfl⟩ | ⟨v, ps, hr, rfl, hR⟩⟩
  · rw [a_prs] at hf; cases hf
  rw [a_prs] at hr
  simp only [Except.ok.injEq] at hr
  obtain ⟨u, rfl⟩ : ∃ u, ps = [(aR, u)] := by
    match ps, hr with
    | [(x, u)], h => simp only [List.map_cons, List.map_nil, List.cons.injEq, and_true] at h; exact ⟨u, by rw [h]⟩
  obtain ⟨g, cap, rfl, hg, hc⟩ := hR.some (by simp)
  obtain ⟨c0, c1, c2, c3⟩ := hc 0 (aR, u) rfl
  have hPV : PortsV w1 w.heap.size u [[112, 49], [112, 50]] := hR.ports (aR, u) (by simp)
  rcases hPV with ⟨e, _⟩ | ⟨b, pc, rfl, hb, hT⟩
  · cases e
  have B1 := hid hb1
  have HT := hid hT
  have hbl := hT.lt
  simp only [aR, Nat.zero_mul, Nat.zero_add, List.length_cons, List.length_nil] at c0 c1 c2 c3
  have HL := hid (fun (w' : World) (hg' : b < w'.heap.size) (hc' : ∀ i, i < 2 → w'.cell? ⟨b, 0 + i, none⟩ = some (.string (tx (([[112, 49], [112, 50]] : List (List UInt8)).getD i [])))) => Line_5 (cap := pc) (k := 4) (m := [49, 48, 120]) (ps := [[112, 49], [112, 50]]) (Or.inr rfl) a_ports (by decide) hg' hc' (by decide) (by decide) (by decide))
  simp only [List.length_cons, List.length_nil, Nat.zero_add] at HL
  rw [a_say, a_sayE] at HL
  clear hr hR hc hT hb1 HP
  simp only [List.length_cons, List.length_nil, Nat.zero_add]
  go_wp2_with fail
  refine (HL.out _ hbl (fun i hi => by
    have h2 : i = 0 ∨ i = 1 := by omega
    rcases h2 with rfl | rfl
    · exact HT.out.cell rfl
    · exact HT.out.cell rfl)).mono ?_
  rintro en w2 ⟨rfl, hb2⟩
  have e0 : w2.cell? ⟨g, 0, none⟩ = some (.int .i64 5) := by rw [hb2.cell (by exact hg)]; exact c0
  have B2 := hid (show Below w.heap.size w w2 from B1.out.trans (hb2.mono B1.out.size))
  clear hb2
  go_wp2
  first
    | (go_ret; exact ⟨rfl, B2.out⟩)
    | (go_quiet (fail); go_wp2; go_ret; exact ⟨rfl, below_drewN B2.out⟩)
end Go.Proofs.YtbfiggghpflioaaGreatDoor
namespace Go.Proofs.YtbfiggghpflioaaGreatDoor
open Go.RowKit
open Wo (Wd)

set_option maxRecDepth 20000 in
set_option maxHeartbeats 1000000 in
theorem Same_acts {w : World} {k : Nat} {v1 v2 : Value} {zs : List (List UInt8)} (h1 : Txs w v1 zs) (h2 : Txs w v2 zs) (hn : zs.length ≤ maxLen) :
    Calls Tryz.prog 31 #[.agg #[.int .i64 k, v1], .agg #[.int .i64 k, v2]] w fun e w' => e = .returned (.bool true) ∧ Below w.heap.size w w' := by
  have H1 := hid h1
  have H2 := hid h2
  obtain ⟨a1, c1, rfl, _⟩ := h1
  obtain ⟨a2, c2, rfl, _⟩ := h2
  have HT := hid (fun (w' : World) (hb : Below w.heap.size w w') => UTexts_same (H1.out.below hb) (H2.out.below hb) hn)
  clear hn
  have hkk : ((k : Int) == (k : Int)) = true := by simp
  have BA := hid (show Below w.heap.size w ((w.alloc (aob k (.slice a1 zs.length c1))).alloc (aob k (.slice a2 zs.length c2))) from ((Below.refl _ _).alloc (Nat.le_refl _) _).alloc (by simp) _)
  go_enter Tryz.func31, Tryz.ntmps31
  go_wp2_with fail
  refine (HT.out _ BA.out).mono ?_
  rintro en w1 ⟨rfl, hb1⟩
  have B1 := hid (show Below w.heap.size w w1 from BA.out.trans (hb1.mono BA.out.size))
  clear hb1
  go_wp2
  go_ret
  exact ⟨rfl, B1.out⟩

set_option maxHeartbeats 1000000 in
theorem SameRules_none (a1 a2 : Option Addr) (c1 c2 : Nat) (w : World) :
    Calls Tryz.prog 9 #[.slice a1 0 c1, .slice a2 0 c2] w fun e w' => e = .returned (.bool true) ∧ Below w.heap.size w w' := by
  go_enter Tryz.func9, Tryz.ntmps9
  go_wp2_with fail
  refine wp_loop_rounds 1 ?_
  rw [rounds_succ]
  go_wp2
  go_ret
  exact ⟨rfl, Below.refl _ _⟩

/-- A row of rules for reading: what stands in block g. -/
structure RView (w : World) (g : Nat) (ps : List (Ru.Rl × Value)) : Prop where
  old : g < w.heap.size
  cell : ∀ (i : Nat) (q : Ru.Rl × Value), ps[i]? = some q → w.cell? ⟨g, i * 4, none⟩ = some (.int .i64 q.1.prio) ∧ w.cell? ⟨g, i * 4 + 1, none⟩ = some (.string (tx q.1.mat)) ∧ w.cell? ⟨g, i * 4 + 2, none⟩ = some (.int .i64 q.1.kind) ∧ w.cell? ⟨g, i * 4 + 3, none⟩ = some q.2
  ports : ∀ q ∈ ps, Txs w q.2 q.1.ports ∧ q.1.ports.length ≤ maxLen

set_option maxRecDepth 20000 in
set_option maxHeartbeats 2000000 in
theorem SameRules_some {w : World} {g1 g2 : Nat} {ps1 ps2 : List (Ru.Rl × Value)} (c1 c2 n : Nat) (h1 : RView w g1 ps1) (h2 : RView w g2 ps2) (hl1 : ps1.length = n) (hl2 : ps2.length = n) (he : ps1.map Prod.fst = ps2.map Prod.fst) (hn : n ≤ 1048576) :
    Calls Tryz.prog 9 #[.slice (some ⟨g1, 0, none⟩) n c1, .slice (some ⟨g2, 0, none⟩) n c2] w fun e w' => e = .returned (.bool true) ∧ Below w.heap.size w w' := by
  have H1 := hid h1
  have H2 := hid h2
  have HL1 := hid hl1
  have HL2 := hid hl2
  have HE := hid he
  have ho1 := h1.old
  have ho2 := h2.old
  clear h1 h2 hl1 hl2 he
  have hne : ((n : Int) != (n : Int)) = false := by simp
  go_enter Tryz.func9, Tryz.ntmps9
  go_wp2_with fail
  go_loopw [5] (fun i wr => ∃ j : Nat, j ≤ n ∧ i = .int .i64 j ∧ Hid (Below w.heap.size w wr)) (fun i _ => n - (intOf i).toNat)
  case atStart => exact ⟨0, Nat.zero_le _, rfl, Below.refl _ _⟩
  case round =>
    obtain ⟨j, hj, rfl, HB⟩ := hrel
    by_cases hlt : j < n
    · obtain ⟨q1, hq1⟩ : ∃ q, ps1[j]? = some q := ⟨ps1[j]'(by rw [HL1.out]; exact hlt), List.getElem?_eq_getElem _⟩
      obtain ⟨q2, hq2⟩ : ∃ q, ps2[j]? = some q := ⟨ps2[j]'(by rw [HL2.out]; exact hlt), List.getElem?_eq_getElem _⟩
      have hq : q1.1 = q2.1 := by
        have := congrArg (fun l => l[j]?) HE.out
        simp only [List.getElem?_map, hq1, hq2, Option.map_some, Option.some.injEq] at this
        exact this
      obtain ⟨a0, a1, a2, a3⟩ := H1.out.cell j q1 hq1
      obtain ⟨b0, b1, b2, b3⟩ := H2.out.cell j q2 hq2
      have hp1 := H1.out.ports q1 (List.mem_of_getElem? hq1)
      have hp2 := H2.out.ports q2 (List.mem_of_getElem? hq2)
      rw [← hq] at b0 b1 b2 hp2
      obtain ⟨x, u1⟩ := q1
      obtain ⟨y, u2⟩ := q2
      simp only at a0 a1 a2 a3 b0 b1 b2 b3 hp1 hp2 hq
      have k0 := (HB.out.cell (p := ⟨g1, j * 4, none⟩) (by exact ho1)).trans a0
      have k1 := (HB.out.cell (p := ⟨g1, j * 4 + 1, none⟩) (by exact ho1)).trans a1
      have k2 := (HB.out.cell (p := ⟨g1, j * 4 + 2, none⟩) (by exact ho1)).trans a2
      have k3 := (HB.out.cell (p := ⟨g1, j * 4 + 3, none⟩) (by exact ho1)).trans a3
      have m0 := (HB.out.cell (p := ⟨g2, j * 4, none⟩) (by exact ho2)).trans b0
      have m1 := (HB.out.cell (p := ⟨g2, j * 4 + 1, none⟩) (by exact ho2)).trans b1
      have m2 := (HB.out.cell (p := ⟨g2, j * 4 + 2, none⟩) (by exact ho2)).trans b2
      have m3 := (HB.out.cell (p := ⟨g2, j * 4 + 3, none⟩) (by exact ho2)).trans b3
      have HS := hid (fun (w' : World) (hb : Below w.heap.size w w') => Same_acts (k := x.kind) (hp1.1.below hb) (hp2.1.below hb) hp1.2)
      obtain ⟨o1, s1, rfl, _⟩ := hp1.1
      obtain ⟨o2, s2, rfl, _⟩ := hp2.1
      have HSS : Hid (∀ W : World, Below w.heap.size w W → W.cell? ⟨g1, j * 4, none⟩ = some (.int .i64 x.prio) ∧ W.cell? ⟨g1, j * 4 + 1, none⟩ = some (.string (tx x.mat)) ∧ W.cell? ⟨g1, j * 4 + 2, none⟩ = some (.int .i64 x.kind) ∧ W.cell? ⟨g1, j * 4 + 3, none⟩ = some (.slice o1 x.ports.length s1) ∧ W.cell? ⟨g2, j * 4, none⟩ = some (.int .i64 x.prio) ∧ W.cell? ⟨g2, j * 4 + 1, none⟩ = some (.string (tx x.mat)) ∧ W.cell? ⟨g2, j * 4 + 2, none⟩ = some (.int .i64 x.kind) ∧ W.cell? ⟨g2, j * 4 + 3, none⟩ = some (.slice o2 x.ports.length s2)) := by
        intro W hW
        exact ⟨(hW.cell (p := ⟨g1, j * 4, none⟩) (by exact ho1)).trans a0, (hW.cell (p := ⟨g1, j * 4 + 1, none⟩) (by exact ho1)).trans a1, (hW.cell (p := ⟨g1, j * 4 + 2, none⟩) (by exact ho1)).trans a2, (hW.cell (p := ⟨g1, j * 4 + 3, none⟩) (by exact ho1)).trans a3,
          (hW.cell (p := ⟨g2, j * 4, none⟩) (by exact ho2)).trans b0, (hW.cell (p := ⟨g2, j * 4 + 1, none⟩) (by exact ho2)).trans b1, (hW.cell (p := ⟨g2, j * 4 + 2, none⟩) (by exact ho2)).trans b2, (hW.cell (p := ⟨g2, j * 4 + 3, none⟩) (by exact ho2)).trans b3⟩
      have hkI : (j : Int) < (n : Int) := by omega
      have hk0 : (0 : Int) ≤ (j : Int) := by omega
      have e1 : ((x.prio : Int) == (x.prio : Int)) = true := by simp
      have e2 : (x.mat == x.mat) = true := by simp
      clear hq1 hq2 hq a0 a1 a2 a3 b0 b1 b2 b3 hp1 hp2 k0 k1 k2 k3 m0 m1 m2 m3
      go_wp2_with fail
      go_region_held2 (fun W => W.cell? ⟨g1, j * 4, none⟩ = some (.int .i64 x.prio) ∧ W.cell? ⟨g1, j * 4 + 1, none⟩ = some (.string (tx x.mat)) ∧ W.cell? ⟨g1, j * 4 + 2, none⟩ = some (.int .i64 x.kind) ∧ W.cell? ⟨g1, j * 4 + 3, none⟩ = some (.slice o1 x.ports.length s1) ∧ W.cell? ⟨g2, j * 4, none⟩ = some (.int .i64 x.prio) ∧ W.cell? ⟨g2, j * 4 + 1, none⟩ = some (.string (tx x.mat)) ∧ W.cell? ⟨g2, j * 4 + 2, none⟩ = some (.int .i64 x.kind) ∧ W.cell? ⟨g2, j * 4 + 3, none⟩ = some (.slice o2 x.ports.length s2)) (first | exact hS2 | exact HSS.out _ HB.out.drew | exact HSS.out _ HB.out) (first | (go_at_call 31; refine (HS.out _ ?_).mono ?_; exact HB.out.drew; rintro en w2 ⟨rfl, hb2⟩; have B2 := hid (HB.out.drew.trans (hb2.mono HB.out.drew.size)); have hS2 := HSS.out w2 B2.out))
      go_wp2
      go_roundw
      case rel => exact ⟨j + 1, by omega, by go_num, B2⟩
      case measure => simp [intOf]; omega
    · have hkI : ¬ ((j : Int) < (n : Int)) := by omega
      go_wp2
      go_ret
      exact ⟨rfl, HB.out⟩
end Go.Proofs.YtbfiggghpflioaaGreatDoor
namespace Go.Proofs.YtbfiggghpflioaaGreatDoor
open Go.RowKit
open Wo (Wd)

theorem prt_few {e : Wd} {l : List Wd} {ps : List (List UInt8)} {t : List Wd} (h : Ru.prt e l = .ok (ps, t)) : ps.length ≤ 64 := by
  unfold Ru.prt at h
  split at h
  · cases h
  · revert h
    cases Ru.pts e l.tail [] with
    | error f => intro h; cases h
    | ok r =>
      obtain ⟨v, acc, t'⟩ := r
      intro h
      simp only at h
      split at h
      · cases h
      · rename_i h64
        simp only [Except.ok.injEq, Prod.mk.injEq] at h
        rw [← h.1]; omega
theorem act_few {e : Wd} {l : List Wd} {k : Nat} {ps : List (List UInt8)} {t : List Wd} (h : Ru.act e l = .ok (k, ps, t)) : ps.length ≤ 64 := by
  unfold Ru.act at h
  split at h
  · cases h
  · split at h
    · simp only [Except.ok.injEq, Prod.mk.injEq] at h
      rw [← h.2.1]; simp
    · revert h
      cases hp : Ru.prt e l.tail with
      | error f => intro h; cases h
      | ok r =>
        obtain ⟨ps', t'⟩ := r
        intro h
        simp only [Except.ok.injEq, Prod.mk.injEq] at h
        rw [← h.2.1]; exact prt_few hp
theorem rul_few {width : Nat} {l : List Wd} {y : Ru.Rl} (h : Ru.rul width l = .ok y) : y.ports.length ≤ 64 := by
  unfold Ru.rul at h
  split at h
  · cases h
  · split at h
    · cases h
    · split at h
      · cases h
      · split at h
        · cases h
        · revert h
          cases ha : Ru.act (Ru.endW l) l.tail.tail.tail with
          | error f => intro h; cases h
          | ok r =>
            obtain ⟨k, ps, t⟩ := r
            intro h
            simp only at h
            split at h
            · cases h
            · injection h with h
              rw [← h]
              exact act_few ha
theorem rds_few {width : Nat} (ls : List (List Wd)) : ∀ (acc rs : List Ru.Rl), Ru.rds width ls acc = .ok rs → acc.length ≤ 4096 → (∀ y ∈ acc, y.ports.length ≤ 64) → rs.length ≤ 4096 ∧ ∀ y ∈ rs, y.ports.length ≤ 64 := by
  induction ls with
  | nil =>
    intro acc rs h h1 h2
    rw [Ru.rds] at h
    injection h with h
    rw [← h]; exact ⟨h1, h2⟩
  | cons l r ih =>
    intro acc rs h h1 h2
    rw [Ru.rds] at h
    cases hy : Ru.rul width l with
    | error f => rw [hy] at h; cases h
    | ok x =>
      rw [hy] at h
      simp only at h
      split at h
      · cases h
      · split at h
        · cases h
        · rename_i h4
          refine ih _ rs h (by simp only [List.length_append, List.length_singleton]; omega) (fun y hy' => ?_)
          rcases List.mem_append.1 hy' with hy' | hy'
          · exact h2 y hy'
          · rw [List.mem_singleton.1 hy']; exact rul_few hy
theorem prs_few {s : List UInt8} {width : Int} {rs : List Ru.Rl} (h : Ru.prs s width = .ok rs) : rs.length ≤ 4096 ∧ ∀ y ∈ rs, y.ports.length ≤ 64 := by
  unfold Ru.prs at h
  split at h
  · cases h
  · split at h
    · cases h
    · exact rds_few _ [] rs h (by simp) (fun y hy => absurd hy (by simp))

theorem rs_view {w : World} {B : Nat} {v : Value} {ps : List (Ru.Rl × Value)} (h : RsAt w B v ps) (h0 : 0 < ps.length) (hf : ∀ q ∈ ps, q.1.ports.length ≤ 64) : ∃ g cap, v = .slice (some ⟨g, 0, none⟩) ps.length cap ∧ RView w g ps := by
  obtain ⟨g, cap, rfl, hg, hc⟩ := h.some h0
  exact ⟨g, cap, rfl, hg, hc, fun q hq => ⟨(h.ports q hq).txs, by have := hf q hq; unfold maxLen; omega⟩⟩
/-- Two rows of the same rules are the same. -/
theorem SameRules_any {w : World} {B1 B2 : Nat} {v1 v2 : Value} {ps1 ps2 : List (Ru.Rl × Value)} (h1 : RsAt w B1 v1 ps1) (h2 : RsAt w B2 v2 ps2) (he : ps1.map Prod.fst = ps2.map Prod.fst) (hn : ps1.length ≤ 4096) (hf : ∀ y ∈ ps1.map Prod.fst, y.ports.length ≤ 64) :
    Calls Tryz.prog 9 #[v1, v2] w fun e w' => e = .returned (.bool true) ∧ Below w.heap.size w w' := by
  have hlen : ps2.length = ps1.length := by have := congrArg List.length he; simpa using this.symm
  by_cases h0 : 0 < ps1.length
  · obtain ⟨g1, c1, rfl, r1⟩ := rs_view h1 h0 (fun q hq => hf _ (List.mem_map_of_mem hq))
    obtain ⟨g2, c2, rfl, r2⟩ := rs_view h2 (by omega) (fun q hq => hf _ (by rw [he]; exact List.mem_map_of_mem hq))
    rw [hlen]
    exact SameRules_some c1 c2 ps1.length r1 r2 rfl hlen he (by omega)
  · obtain ⟨a1, c1, rfl⟩ := h1.form
    obtain ⟨a2, c2, rfl⟩ := h2.form
    rw [hlen, show ps1.length = 0 by omega]
    exact SameRules_none a1 a2 c1 c2 w

/-- What a text comes to: the rules, or where it fails. -/
def prsA (s : List UInt8) (width : Int) : List Ru.Rl × Ru.Ft :=
  match Ru.prs s width with
  | .error f => ([], f)
  | .ok rs => (rs, (0, 0, 0))
theorem prsA_few (s : List UInt8) (width : Int) : (prsA s width).1.length ≤ 4096 ∧ ∀ y ∈ (prsA s width).1, y.ports.length ≤ 64 := by
  unfold prsA
  cases h : Ru.prs s width with
  | error f => exact ⟨by simp, fun y hy => absurd hy (by simp)⟩
  | ok rs => exact prs_few h
def OnePost (w : World) (s : List UInt8) (width : Int) (en : Ending) (w' : World) : Prop :=
  Below w.heap.size w w' ∧ ∃ v ps, ps.map Prod.fst = (prsA s width).1 ∧ en = .returned (.tuple #[v, .int .i64 (prsA s width).2.1, .int .i64 (prsA s width).2.2.1, .int .i64 (prsA s width).2.2.2]) ∧ RsAt w' 0 v ps
theorem ParsePost.one {w w' : World} {s : List UInt8} {width : Int} {en : Ending} (h : ParsePost w s width en w') : OnePost w s width en w' := by
  obtain ⟨hb, ⟨f, hf, rfl⟩ | ⟨v, ps, hr, rfl, hR⟩⟩ := h
  · have e : prsA s width = ([], f) := by unfold prsA; rw [hf]
    refine ⟨hb, .slice none 0 0, [], by rw [e]; rfl, by rw [e], RsAt.nil _ _⟩
  · have e : prsA s width = (ps.map Prod.fst, (0, 0, 0)) := by unfold prsA; rw [hr]
    exact ⟨hb, v, ps, by rw [e], by rw [e]; rfl, hR.d.at0⟩
theorem DParsePost.one {w w' : World} {s : List UInt8} {width : Int} {en : Ending} (h : DParsePost w s width en w') : OnePost w s width en w' := by
  obtain ⟨hb, ⟨f, hf, rfl⟩ | ⟨v, ps, hr, rfl, hR⟩⟩ := h
  · have e : prsA s width = ([], f) := by unfold prsA; rw [hf]
    refine ⟨hb, .slice none 0 0, [], by rw [e]; rfl, by rw [e], RsAt.nil _ _⟩
  · have e : prsA s width = (ps.map Prod.fst, (0, 0, 0)) := by unfold prsA; rw [hr]
    exact ⟨hb, v, ps, by rw [e], by rw [e]; rfl, hR.at0⟩

end Go.Proofs.YtbfiggghpflioaaGreatDoor
namespace Go.Proofs.YtbfiggghpflioaaGreatDoor
open Go.RowKit

/-- The table of the powers of ten stands in memory as it started. -/
abbrev PowTab (w : World) : Prop := Lib.TabIs Tryz.prog w "internal/strconv.uint64pow10" .u64 Lib.pow10Tab
theorem PowTab.below {w w' : World} (h : PowTab w) (hb : Below w.heap.size w w') : PowTab w' := by
  unfold PowTab Lib.TabIs World.var? at *
  cases hg : Tryz.prog.globalNamed "internal/strconv.uint64pow10" with
  | none => rw [hg] at h; cases h
  | some g =>
    rw [hg] at h
    simp only [Option.bind_some] at h ⊢
    have hlt : g < w.heap.size := by
      by_cases q : g < w.heap.size
      · exact q
      · rw [Array.getElem?_eq_none (by omega)] at h; cases h
    rw [hb.block g hlt]
    exact h
theorem below_grow_drewN (w : World) (k : Nat) (os : Array Obj) : Below w.heap.size w (Sort.grow (w.drewN k) os) := ⟨rfl, rfl, rfl, by simp [Sort.grow, World.drewN], fun _ hi => Sort.heap_grow_old (w.drewN k) os hi⟩
theorem Itoa_any (n : Nat) (hn : n ≤ 2147483647) {w : World} (h : PowTab w) : Calls Tryz.prog 97 #[.int .i64 n] w fun e w' => e = .returned (.string (tx (Lib.decDigits n))) ∧ Below w.heap.size w w' := by
  refine (Any.strconv_Itoa Tryz.laysItoa n (by omega) (by omega) w h).mono ?_
  rintro e w' ⟨rfl, k, os, rfl⟩
  refine ⟨?_, below_grow_drewN w k os⟩
  unfold Lib.itoa
  rw [if_neg (by omega)]
  rfl
end Go.Proofs.YtbfiggghpflioaaGreatDoor
namespace Go.Proofs.YtbfiggghpflioaaGreatDoor
open Go.RowKit
open Wo (Wd)

theorem rise_of_adj {ps : List (List UInt8)} (h : ∀ i, i + 1 < ps.length → ps.getD i [] < ps.getD (i + 1) []) : Ru.Rise ps := by
  refine List.pairwise_iff_getElem.2 ?_
  intro i j hi hj hij
  induction j with
  | zero => omega
  | succ j ih =>
    have hs : ps[j] < ps[j + 1] := by
      have := h j hj
      simpa [List.getD_eq_getElem?_getD, List.getElem?_eq_getElem hj, List.getElem?_eq_getElem (show j < ps.length by omega)] using this
    rcases Nat.lt_or_eq_of_le (Nat.le_of_lt_succ hij) with h1 | rfl
    · exact List.lt_trans (ih (by omega) h1) hs
    · exact hs
theorem getD_mem {ps : List (List UInt8)} {i : Nat} (h : i < ps.length) : ps.getD i [] ∈ ps := by
  have : ps.getD i [] = ps[i] := by simp [List.getD_eq_getElem?_getD, List.getElem?_eq_getElem h]
  rw [this]; exact List.getElem_mem _
theorem rise_getD {ps : List (List UInt8)} (h : Ru.Rise ps) {i : Nat} (hi : i + 1 < ps.length) : ps.getD i [] < ps.getD (i + 1) [] := by
  have := rise_at h hi
  simpa [List.getD_eq_getElem?_getD, List.getElem?_eq_getElem hi, List.getElem?_eq_getElem (show i < ps.length by omega)] using this
/-- Ports that are names and rise, as far as they are looked at. -/
structure Good (ps : List (List UInt8)) (n : Nat) : Prop where
  names : ∀ i, i < n → Wo.nameB (ps.getD i []) = true
  rise : ∀ i, i + 1 < n → ps.getD i [] < ps.getD (i + 1) []
theorem Good.zero (ps : List (List UInt8)) : Good ps 0 := ⟨fun i h => by omega, fun i h => by omega⟩
theorem Good.ok {ps : List (List UInt8)} (h : Good ps ps.length) (h1 : 1 ≤ ps.length) (h2 : ps.length ≤ 64) : okPorts ps := by
  refine ⟨h1, h2, fun p hp => ?_, rise_of_adj h.rise⟩
  obtain ⟨i, hi, rfl⟩ := List.mem_iff_getElem.1 hp
  have := h.names i hi
  simpa [List.getD_eq_getElem?_getD, List.getElem?_eq_getElem hi] using this

/-- An answer yes or no. -/
def YesNo (ok : Prop) (w : World) (en : Ending) (w' : World) : Prop := ∃ b, en = .returned (.bool b) ∧ (b = true ↔ ok) ∧ Below w.heap.size w w'
theorem YesNo.no {ok : Prop} {w w' : World} (h : ¬ ok) (hb : Below w.heap.size w w') : YesNo ok w (.returned (.bool false)) w' := ⟨false, rfl, ⟨fun e => absurd e (by decide), fun q => absurd q h⟩, hb⟩
theorem YesNo.yes {ok : Prop} {w w' : World} (h : ok) (hb : Below w.heap.size w w') : YesNo ok w (.returned (.bool true)) w' := ⟨true, rfl, ⟨fun _ => h, fun _ => rfl⟩, hb⟩

set_option maxRecDepth 4000 in
set_option maxHeartbeats 2000000 in
theorem mayBe_high {w : World} {g o cap k : Nat} {ps : List (List UInt8)} (hk : k = 3 ∨ k = 4) (h1 : 1 ≤ ps.length) (h2 : ps.length ≤ 64) (hz : ∀ p ∈ ps, p.length ≤ maxLen) (hg : g < w.heap.size) (hc : ∀ i, i < ps.length → w.cell? ⟨g, o + i, none⟩ = some (.string (tx (ps.getD i [])))) :
    Calls Tryz.prog 91 #[.agg #[.int .i64 k, .slice (some ⟨g, o, none⟩) ps.length cap]] w fun en w' => YesNo (okPorts ps) w en w' := by
  have HC := hid hc
  have HZ := hid hz
  clear hc hz
  go_enter Tryz.func91, Tryz.ntmps91
  go_wp2_with fail
  refine (portsOf_high k hk _).mono ?_
  rintro en w1 ⟨rfl, rfl⟩
  go_wp2_with fail
  go_loopw [28] (fun i wr => ∃ j : Nat, j ≤ ps.length ∧ i = .int .i64 j ∧ Hid (Good ps j) ∧ (∀ a, wr.cell? a = (w.alloc (aob k (.slice (some ⟨g, o, none⟩) ps.length cap))).cell? a) ∧ Below w.heap.size w wr) (fun i _ => ps.length - (intOf i).toNat)
  case atStart => exact ⟨0, Nat.zero_le _, rfl, Good.zero ps, fun _ => rfl, (Below.refl _ _).alloc (Nat.le_refl _) _⟩
  case round =>
    obtain ⟨j, hj, rfl, HG, hcl, hbl⟩ := hrel
    by_cases hlt : j < ps.length
    · have c0 := (hcl _).trans (alloc_cell (HC.out j hlt) hg _)
      have d1 := (hcl ⟨w.heap.size, 1, none⟩).trans (show _ = some (.slice (some ⟨g, o, none⟩) ps.length cap) by rw [cell_at (new_0 w (aob k (.slice (some ⟨g, o, none⟩) ps.length cap)))]; rfl)
      have HCL := hid hcl
      obtain ⟨p, hpq⟩ : ∃ p, p = ps.getD j [] := ⟨_, rfl⟩
      have HPQ := hid hpq
      rw [← hpq] at c0
      have HU := hid (fun w' => Name_any (tx p) w' (by rw [tx_size, hpq]; exact HZ.out _ (getD_mem hlt)))
      rw [tx_list] at HU
      have hkI : (j : Int) < (ps.length : Int) := by omega
      have hk0 : (0 : Int) ≤ (j : Int) := by omega
      cases hnm : Wo.nameB p with
      | false =>
        have HN := hid hnm
        rw [hnm] at HU
        clear hcl hnm hpq
        go_wp2_with fail
        refine (HU.out _).mono ?_
        rintro en w2 ⟨rfl, rfl⟩
        go_wp2
        go_ret
        refine YesNo.no (fun h => ?_) hbl
        have := h.2.2.1 _ (getD_mem hlt)
        rw [← HPQ.out, HN.out] at this
        exact absurd this (by decide)
      | true =>
        have HN := hid hnm
        rw [hnm] at HU
        cases j with
        | zero =>
          clear hcl hnm hpq
          rw [Nat.add_zero] at c0
          go_wp2_with fail
          refine (HU.out _).mono ?_
          rintro en w2 ⟨rfl, rfl⟩
          go_wp2
          go_roundw
          case rel => exact ⟨1, by omega, by go_num, ⟨fun i hi => by rw [show i = 0 by omega, ← HPQ.out]; exact HN.out, fun i hi => by omega⟩, HCL.out, hbl⟩
          case measure => simp [intOf]; omega
        | succ i =>
          have c1 := (hcl _).trans (alloc_cell (HC.out i (by omega)) hg _)
          obtain ⟨q, hq⟩ : ∃ q, q = ps.getD i [] := ⟨_, rfl⟩
          have HQ := hid hq
          rw [← hq] at c1
          have hpos : (0 : Int) < (i : Int) + 1 := by omega
          have hneg : (0 : Int) ≤ (i : Int) := by omega
          have hilt : (i : Int) < (ps.length : Int) := by omega
          cases hless : Op.bytesLess q p with
          | true =>
            have HL := hid (show q < p by rw [bytesLess_eq] at hless; simpa using hless)
            clear hcl hnm hpq hq
            go_wp2_with fail
            refine (HU.out _).mono ?_
            rintro en w2 ⟨rfl, rfl⟩
            go_wp2
            go_roundw
            case rel =>
              refine ⟨i + 1 + 1, by omega, by go_num, ⟨fun a ha => ?_, fun a ha => ?_⟩, HCL.out, hbl⟩
              · by_cases e : a = i + 1
                · rw [e, ← HPQ.out]; exact HN.out
                · exact HG.out.names a (by omega)
              · by_cases e : a = i
                · rw [e, ← HPQ.out, ← HQ.out]; exact HL.out
                · exact HG.out.rise a (by omega)
            case measure => simp [intOf]; omega
          | false =>
            have HL := hid (show ¬ q < p by rw [bytesLess_eq] at hless; simpa using hless)
            clear hcl hnm hpq hq
            go_wp2_with fail
            refine (HU.out _).mono ?_
            rintro en w2 ⟨rfl, rfl⟩
            go_wp2
            go_ret
            refine YesNo.no (fun h => ?_) hbl
            refine absurd ?_ HL.out
            rw [HQ.out, HPQ.out]
            exact rise_getD h.2.2.2 hlt
    · have hkI : ¬ ((j : Int) < (ps.length : Int)) := by omega
      have HO := hid (show okPorts ps by
        have : j = ps.length := by omega
        subst this
        exact HG.out.ok h1 h2)
      clear hcl
      go_wp2
      go_ret
      exact YesNo.yes HO.out hbl
/-- An action that may be. -/
def okAct (k : Int) (ps : List (List UInt8)) : Prop := ((k = 1 ∨ k = 2) ∧ ps = []) ∨ ((k = 3 ∨ k = 4) ∧ okPorts ps)

set_option maxHeartbeats 400000 in
theorem portsOf_none (k : Int) (h : k ≠ 1 ∧ k ≠ 2 ∧ k ≠ 3 ∧ k ≠ 4) (w : World) : Calls Tryz.prog 131 #[.int .i64 k] w fun e w' => e = .returned (.tuple #[.int .i64 1, .int .i64 0]) ∧ w' = w := by
  obtain ⟨h1, h2, h3, h4⟩ := h
  go_enter Tryz.func131, Tryz.ntmps131
  go_wp2
  refine bodyPost_ret (v := .tuple #[.int .i64 1, .int .i64 0]) (by simp [results, Tryz.results131, go_sem]) rfl ⟨rfl, rfl⟩

set_option maxRecDepth 4000 in
set_option maxHeartbeats 2000000 in
/-- Of ports that are too few or too many, whatever they are. -/
theorem mayBe_count {w : World} {ao : Option Addr} {n cap a b : Nat} {k : Int} (hp : ∀ w', Calls Tryz.prog 131 #[.int .i64 k] w' fun e w'' => e = .returned (.tuple #[.int .i64 a, .int .i64 b]) ∧ w'' = w') (hn : n < a ∨ b < n) :
    Calls Tryz.prog 91 #[.agg #[.int .i64 k, .slice ao n cap]] w fun en w' => en = .returned (.bool false) ∧ Below w.heap.size w w' := by
  have HP := hid hp
  clear hp
  by_cases h1 : n < a
  · have hI : (n : Int) < (a : Int) := by omega
    go_enter Tryz.func91, Tryz.ntmps91
    go_wp2_with fail
    refine (HP.out _).mono ?_
    rintro en w1 ⟨rfl, rfl⟩
    go_wp2
    go_ret
    exact ⟨rfl, (Below.refl _ _).alloc (Nat.le_refl _) _⟩
  · have hI : ¬ (n : Int) < (a : Int) := by omega
    have hJ : (b : Int) < (n : Int) := by omega
    go_enter Tryz.func91, Tryz.ntmps91
    go_wp2_with fail
    refine (HP.out _).mono ?_
    rintro en w1 ⟨rfl, rfl⟩
    go_wp2
    go_ret
    exact ⟨rfl, (Below.refl _ _).alloc (Nat.le_refl _) _⟩

set_option maxRecDepth 4000 in
set_option maxHeartbeats 2000000 in
theorem mayBe_low {w : World} {ao : Option Addr} {cap k : Nat} (hk : k = 1 ∨ k = 2) :
    Calls Tryz.prog 91 #[.agg #[.int .i64 k, .slice ao 0 cap]] w fun en w' => en = .returned (.bool true) ∧ Below w.heap.size w w' := by
  go_enter Tryz.func91, Tryz.ntmps91
  go_wp2_with fail
  refine (portsOf_low k hk _).mono ?_
  rintro en w1 ⟨rfl, rfl⟩
  go_wp2_with fail
  refine wp_loop_rounds 1 ?_
  rw [rounds_succ]
  go_wp2
  go_ret
  exact ⟨rfl, (Below.refl _ _).alloc (Nat.le_refl _) _⟩

/-- actionMayBe, of any action. -/
theorem mayBe_any {w : World} {v : Value} {k : Int} {ps : List (List UInt8)} (ht : Txs w v ps) (hz : ∀ p ∈ ps, p.length ≤ maxLen) :
    Calls Tryz.prog 91 #[.agg #[.int .i64 k, v]] w fun en w' => YesNo (okAct k ps) w en w' := by
  obtain ⟨ao, cap, rfl, hr⟩ := ht
  by_cases hk : k = 1 ∨ k = 2
  · obtain ⟨n, rfl, hn⟩ : ∃ n : Nat, k = n ∧ (n = 1 ∨ n = 2) := ⟨k.toNat, by omega, by omega⟩
    by_cases h0 : ps = []
    · subst h0
      exact (mayBe_low hn).mono fun _ _ ⟨e, hb⟩ => by rw [e]; exact YesNo.yes (Or.inl ⟨hk, rfl⟩) hb
    · have hl : 0 < ps.length := List.length_pos_iff.2 h0
      refine (mayBe_count (a := 0) (b := 0) (fun w' => portsOf_low n hn w') (Or.inr hl)).mono fun _ _ ⟨e, hb⟩ => ?_
      rw [e]
      exact YesNo.no (fun q => by rcases q with ⟨_, q⟩ | ⟨q, _⟩; exact h0 q; omega) hb
  · by_cases hh : k = 3 ∨ k = 4
    · obtain ⟨n, rfl, hn⟩ : ∃ n : Nat, k = n ∧ (n = 3 ∨ n = 4) := ⟨k.toNat, by omega, by omega⟩
      by_cases hl : 1 ≤ ps.length ∧ ps.length ≤ 64
      · rcases hr with rfl | ⟨g, o, rfl, hg, hc⟩
        · simp at hl
        · refine (mayBe_high (cap := cap) hn hl.1 hl.2 hz hg hc).mono fun _ _ ⟨b, e, hi, hb⟩ => ⟨b, e, hi.trans ⟨fun q => Or.inr ⟨hh, q⟩, fun q => ?_⟩, hb⟩
          rcases q with ⟨q, _⟩ | ⟨_, q⟩
          · exact absurd q hk
          · exact q
      · refine (mayBe_count (a := 1) (b := 64) (fun w' => portsOf_high n hn w') (by omega)).mono fun _ _ ⟨e, hb⟩ => ?_
        rw [e]
        exact YesNo.no (fun q => by rcases q with ⟨q, _⟩ | ⟨_, q⟩; exact hk q; exact hl ⟨q.1, q.2.1⟩) hb
    · refine (mayBe_count (a := 1) (b := 0) (fun w' => portsOf_none k (by omega) w') (by omega)).mono fun _ _ ⟨e, hb⟩ => ?_
      rw [e]
      exact YesNo.no (fun q => by rcases q with ⟨q, _⟩ | ⟨q, _⟩; exact hk q; exact hh q) hb
end Go.Proofs.YtbfiggghpflioaaGreatDoor
