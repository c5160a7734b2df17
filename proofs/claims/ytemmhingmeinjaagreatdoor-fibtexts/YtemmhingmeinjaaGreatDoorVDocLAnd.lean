/-
  The document's Order: its row so far.
-/
import Derived.Test.YtemmhingmeinjaaGreatDoorVDocWAnd
import Derived.Test.YtemmhingmeinjaaGreatDoorVMathAnd
import Derived.Laws.AppendOwnNone
import Derived.Shelf.RegionOpenPlain
import Derived.Test.YtemmhingmeinjaaGreatDoorUCopyAnd
namespace Go.Proofs.YtemmhingmeinjaaGreatDoor
open Go.RowKit
open Wo (Wd)

set_option maxRecDepth 20000 in
set_option maxHeartbeats 4000000 in
theorem RLine_any {w : World} {v : Value} {width : Nat} {x : Ru.Rl} (hx : Ru.OkRl width x) (hw : width ≤ 128) (ht : Txs w v x.ports) (hT : PowTab w) :
    Calls Tryz.prog 37 #[.agg #[.int .i64 x.prio, .string (tx x.mat), .int .i64 x.kind, v]] w fun en w' => en = .returned (.tuple #[.string (tx (Wo.sayL (Ru.lineW x))), .int .i64 0]) ∧ Below w.heap.size w w' := by
  obtain ⟨i0, hi, hz0, hz1, hz2⟩ := info_parts Tryz.infoStr
  have HI := hid hi
  have HZ0 := hid hz0
  have HZ1 := hid hz1
  have HZ2 := hid hz2
  clear hi hz0 hz1 hz2
  have ha := OkRl.actI hx
  have hp := hx.prio
  have hls := hid (line_short hx)
  have hSY := fun (v : Value) (w' : World) (h : Txs w' v (Ru.lineW x)) => RSay_anyL v (Ru.lineW x) w' h (by have := hls.out.2; omega) (fun l hl => by have := hls.out.1 l hl; omega)
  have hsE : sayE (Ru.lineW x) = 0 := by
    unfold sayE
    rw [if_pos]
    unfold allW
    exact List.all_eq_true.2 (Ru.isW_line hx)
  rw [line_said hx, hsE, show ((0 : Nat) : Int) = 0 from rfl] at hSY
  have HSY := hid hSY
  have HRT := hid (fun w' => uRight x.mat w' (by have := hx.len; omega))
  rw [hx.cube] at HRT
  have HRA := hid (fun (w' : World) (hb : Below w.heap.size w w') => RRight_any (k := x.kind) (ht.below hb) (fun p hp => by
      rcases hx.act with ⟨_, e⟩ | ⟨_, e⟩
      · rw [e] at hp; cases hp
      · have := nameB_short (e.2.2.1 p hp); unfold maxLen; omega) (by
      rcases hx.act with ⟨_, e⟩ | ⟨_, e⟩
      · rw [e]; unfold maxLen; simp
      · have := e.2.1; unfold maxLen; omega))
  rw [okActB_iff.2 ha] at HRA
  have HAW := hid (fun (w' : World) (hb : Below w.heap.size w w') => Rwords_any (k := x.kind) (ht.below hb) ha)
  have HIT := hid (fun (w' : World) (h : PowTab w') => Itoa_any x.prio hp h)
  have HPT := hid hT
  have hal : (actW x.kind x.ports).length ≤ 131 := by
    have : x.ports.length ≤ 64 := by rcases ha with ⟨_, e⟩ | ⟨_, q⟩; rw [e]; simp; exact q.2.1
    unfold actW; rw [List.length_cons]; have := tailW_len this; omega
  have hap : 1 ≤ (actW x.kind x.ports).length := by unfold actW; simp
  rw [lineW_eq] at HSY
  rw [lineW_eq]
  obtain ⟨T, hTT⟩ : ∃ T, T = Wo.sayL (Ru.ruleT :: Lib.decDigits x.prio :: x.mat :: actW x.kind x.ports) := ⟨_, rfl⟩
  rw [← hTT] at HSY ⊢
  obtain ⟨d, hd⟩ : ∃ d, d = Lib.decDigits x.prio := ⟨_, rfl⟩
  obtain ⟨aw, haw⟩ : ∃ aw, aw = actW x.kind x.ports := ⟨_, rfl⟩
  obtain ⟨n, hn⟩ : ∃ n, n = aw.length := ⟨_, rfl⟩
  rw [← hd] at HIT HSY
  rw [← haw] at HAW hal hap HSY
  rw [← hn] at HAW hal hap
  have HNN := hid hn
  obtain ⟨p, m, k, ps⟩ := x
  simp only at *
  obtain ⟨ao, cap, rfl, -⟩ := ht
  have hpI : ¬ ((2147483647 : Int) < (p : Int)) := by omega
  have hp0 : ¬ ((p : Int) < 0) := by omega
  clear hd haw hn ha hT hTT hx hSY hsE hls
  go_enter Tryz.func37, Tryz.ntmps37
  go_wp2_with fail
  refine (HRT.out _).mono ?_
  rintro en wz ⟨rfl, hwz⟩
  subst hwz
  go_wp2_with fail
  refine (HRA.out _ ((Below.refl _ _).alloc (Nat.le_refl _) _)).mono ?_
  rintro en wA ⟨rfl, hbA⟩
  have hRB := below_block hbA (new_0 w (rob p (tx m) k (.slice ao ps.length cap))) (by simp)
  have RB := hid hRB
  have BA0 := hid (show Below w.heap.size w wA.drew from (below_2 ((Below.refl w.heap.size w).alloc (Nat.le_refl _) _) hbA).drew)
  have SH := hid (fun (W : World) (hb : W.heap[w.heap.size]? = some (rob p (tx m) k (.slice ao ps.length cap))) => (rob_cells hb))
  obtain ⟨k0, k1, k2, k3, -⟩ := rob_cells hRB
  clear hRB hbA
  go_wp2_with fail
  refine wp_region_held_drew (S := (fun w' => w'.cell? ⟨w.heap.size, 0, none⟩ = some (.int .i64 p) ∧ w'.cell? ⟨w.heap.size, 1, none⟩ = some (.string (tx m)) ∧ w'.cell? ⟨w.heap.size, 2, none⟩ = some (.int .i64 k) ∧ w'.cell? ⟨w.heap.size, 3, none⟩ = some (.slice ao ps.length cap))) (by kernel_rfl) (by go_keep) (fun hHeld => ?_)
  refine wpAnyH_take (i := 0) (v := .pointer (some ⟨w.heap.size, 0, none⟩)) rfl (by kernel_rfl) (by kernel_rfl) (by kernel_rfl) (fun _ _ _ h => h) (Or.inl ⟨by rfl, fun w hSw => by (try dsimp only at hSw); go_simp⟩) hHeld ?_
  simp only [Act.put, List.setIfInBounds_toArray]
  refine wpAnyH_take (i := 1) (v := .int .i64 p) rfl (by kernel_rfl) (by kernel_rfl) (by kernel_rfl) (fun _ _ _ h => h) (Or.inl ⟨by rfl, fun w hSw => by (try dsimp only at hSw); go_simp⟩) hHeld ?_
  simp only [Act.put]
  refine wpAnyH_take (i := 3) (v := .pointer (some ⟨w.heap.size, 1, none⟩)) rfl (by kernel_rfl) (by kernel_rfl) (by kernel_rfl) (fun _ _ _ h => h) (Or.inl ⟨by rfl, fun w hSw => by (try dsimp only at hSw); go_simp⟩) hHeld ?_
  simp only [Act.put]
  refine wpAnyH_take (i := 4) (v := .string (tx m)) rfl (by kernel_rfl) (by kernel_rfl) (by kernel_rfl) (fun _ _ _ h => h) (Or.inl ⟨by rfl, fun w hSw => by (try dsimp only at hSw); go_simp⟩) hHeld ?_
  simp only [Act.put]
  refine wpAnyH_take (i := 6) (v := .pointer (some ⟨w.heap.size, 2, none⟩)) rfl (by kernel_rfl) (by kernel_rfl) (by kernel_rfl) (fun _ _ _ h => h) (Or.inl ⟨by rfl, fun w hSw => by (try dsimp only at hSw); go_simp⟩) hHeld ?_
  simp only [Act.put]
  refine wpAnyH_take (i := 7) (v := .agg #[.int .i64 k, .slice ao ps.length cap]) rfl (by kernel_rfl) (by kernel_rfl) (by kernel_rfl) (fun _ _ _ h => h) (Or.inl ⟨by rfl, fun w hSw => by (try dsimp only at hSw); go_simp⟩) hHeld ?_
  simp only [Act.put]
  refine wpAnyH_ready (rs := [2]) (by kernel_rfl) (by simp) ?_
  refine AllReadyH.cons rfl (fun K hK => ?_) AllReadyH.nil
  go_simp
  refine (HIT.out _ (HPT.out.below BA0.out)).mono ?_
  rintro en w1 ⟨rfl, hb1⟩
  have RB1 := hid (below_block hb1 (show (wA.drew).heap[w.heap.size]? = some (rob p (tx m) k (.slice ao ps.length cap)) from RB.out) (lt_of_block RB.out))
  have B1 := hid (show Below w.heap.size w w1 from BA0.out.trans (hb1.mono BA0.out.size))
  clear hb1
  refine hK.out _ _ ⟨(SH.out _ RB1.out).1, (SH.out _ RB1.out).2.1, (SH.out _ RB1.out).2.2.1, (SH.out _ RB1.out).2.2.2.1⟩ (fun hHeld2 => ?_)
  clear hK K
  have hsz1 : w.heap.size < w1.heap.size := lt_of_block RB1.out
  refine wpAnyH_ready (rs := [5, 8]) (by kernel_rfl) (by simp) ?_
  refine AllReadyH.cons rfl (fun K hK => ?_) ?_
  · go_simp
    have RBA := hid (show ((w1.alloc (.cells #[.string ⟨#[114, 117, 108, 101]⟩, .string (tx d), .string (tx m)] 9))).heap[w.heap.size]? = some (rob p (tx m) k (.slice ao ps.length cap)) from new_old _ _ RB1.out)
    refine hK.out _ _ ⟨(SH.out _ RBA.out).1, (SH.out _ RBA.out).2.1, (SH.out _ RBA.out).2.2.1, (SH.out _ RBA.out).2.2.2.1⟩ (fun _ => ?_)
    clear hK K
    have BA := hid (show Below w.heap.size w (w1.alloc (.cells #[.string ⟨#[114, 117, 108, 101]⟩, .string (tx d), .string (tx m)] 9)) from B1.out.alloc B1.out.size _)
    refine wpAnyH_ready (rs := [8]) (by kernel_rfl) (by simp) ?_
    refine AllReadyH.cons rfl (fun K hK => ?_) AllReadyH.nil
    go_simp
    refine (HAW.out _ BA.out).mono ?_
    rintro en w3 ⟨v3, rfl, hown3, hb3⟩
    obtain ⟨g3, cap3, rfl, hg3, hc3⟩ := own_some hown3 (by omega)
    have hl3 := hown3.1
    have N3 := hid (fun j u (hu : (svs aw)[j]? = some u) => (by rw [addr_plus]; exact hc3 j u hu : w3.cell? ((⟨g3, 0, none⟩ : Addr).add j) = some u))
    have RBW := hid (below_block hb3 RBA.out (lt_of_block RBA.out))
    have BW := hid (show Below w.heap.size w w3 from BA.out.trans (hb3.mono BA.out.size))
    have O3 := hid (show w3.ownsRow w.heap.size 9 1 (.slice (some ⟨w1.heap.size, 0, none⟩) 3 3) 3 (svs [Ru.ruleT, d, m]) from
      ⟨rfl, Or.inr ⟨w1.heap.size, 3, #[.string ⟨#[114, 117, 108, 101]⟩, .string (tx d), .string (tx m)], rfl, by omega, below_block hb3 (show ((w1.alloc (.cells #[.string ⟨#[114, 117, 108, 101]⟩, .string (tx d), .string (tx m)] 9))).heap[w1.heap.size]? = some (.cells #[.string ⟨#[114, 117, 108, 101]⟩, .string (tx d), .string (tx m)] 9) from new_0 _ _) (by simp), Nat.le_refl _, by decide, rfl, rfl⟩⟩)
    clear hown3 hb3 hc3
    refine hK.out _ _ ⟨(SH.out _ RBW.out).1, (SH.out _ RBW.out).2.1, (SH.out _ RBW.out).2.2.1, (SH.out _ RBW.out).2.2.2.1⟩ (fun _ => ?_)
    clear hK K
    refine wpAnyH_ready (rs := [9]) (by kernel_rfl) (by simp) ?_
    refine AllReadyH.cons rfl (fun K hK => ?_) AllReadyH.nil
    refine step_append_lies _ (by rfl) (.tmp 28) (.tmp 31) 47 (by rfl) w.heap.size 9 i0 (.string ByteArray.empty) 1 16 Tryz.underlying47 HI.out HZ0.out HZ1.out HZ2.out rfl (by decide) (.slice (some ⟨w1.heap.size, 0, none⟩) 3 3) 3 (svs [Ru.ruleT, d, m]) rfl O3.out ⟨g3, 0, none⟩ n cap3 (svs aw) rfl hl3 N3.out svs_one (by omega) (by unfold maxLen; omega) (by omega) BW.out.size _ rfl ?_
    intro g5 cap5 w5 hown5 hgrow5 hat5 hlt5
    have RB5 := hid (block_grow (r := w1.heap.size) RBW.out hgrow5 (by omega))
    have OW := hid (show w5.ownsRow w.heap.size 9 1 (.slice (some ⟨g5, 0, none⟩) (3 + n) cap5) (3 + n) (svs (Ru.ruleT :: d :: m :: aw)) from hown5)
    have B5 := hid (show Below w.heap.size w w5 from BW.out.grown hgrow5 BW.out.size (fun q hq => by simp [Value.ownBlock] at hq; omega))
    clear hown5 hgrow5 hat5
    refine hK.out _ _ ⟨(SH.out _ RB5.out).1, (SH.out _ RB5.out).2.1, (SH.out _ RB5.out).2.2.1, (SH.out _ RB5.out).2.2.2.1⟩ (fun hHeld5 => ?_)
    clear hK K
    refine wpAnyH_ready (rs := [10]) (by kernel_rfl) (by simp) ?_
    refine AllReadyH.cons rfl (fun K hK => ?_) AllReadyH.nil
    go_simp
    refine (HSY.out _ _ (own_txs (show w5.ownsRow _ 9 1 (.slice (some ⟨g5, 0, none⟩) (3 + n) cap5) (Ru.ruleT :: d :: m :: aw).length (svs (Ru.ruleT :: d :: m :: aw)) by rw [show (Ru.ruleT :: d :: m :: aw).length = 3 + n by rw [HNN.out]; simp only [List.length_cons]; omega]; exact OW.out))).mono ?_
    rintro en w6 ⟨rfl, hb6⟩
    have RB6 := hid (below_block hb6 RB5.out (lt_of_block RB5.out))
    have B6 := hid (show Below w.heap.size w w6 from B5.out.trans (hb6.mono B5.out.size))
    clear hb6
    refine hK.out _ _ ⟨(SH.out _ RB6.out).1, (SH.out _ RB6.out).2.1, (SH.out _ RB6.out).2.2.1, (SH.out _ RB6.out).2.2.2.1⟩ (fun hHeld6 => ?_)
    clear hK K
    refine wpAnyH_take (i := 11) (v := .tuple #[.string (tx T), .int .i64 0]) rfl (by kernel_rfl) (by kernel_rfl) (by kernel_rfl) (fun _ _ _ h => h) (Or.inl ⟨by rfl, fun w hSw => by (try dsimp only at hSw); go_simp⟩) hHeld6 ?_
    simp only [Act.put]
    refine wpAnyH_take (i := 12) (v := .string (tx T)) rfl (by kernel_rfl) (by kernel_rfl) (by kernel_rfl) (fun _ _ _ h => h) (Or.inl ⟨by rfl, fun w hSw => by (try dsimp only at hSw); go_simp⟩) hHeld6 ?_
    simp only [Act.put]
    refine wpAnyH_take (i := 13) (v := .int .i64 0) rfl (by kernel_rfl) (by kernel_rfl) (by kernel_rfl) (fun _ _ _ h => h) (Or.inl ⟨by rfl, fun w hSw => by (try dsimp only at hSw); go_simp⟩) hHeld6 ?_
    simp only [Act.put]
    refine wpAnyH_take (i := 14) (v := .string (tx T)) rfl (by kernel_rfl) (by kernel_rfl) (by kernel_rfl) (fun _ _ _ h => h) (Or.inl ⟨by rfl, fun w hSw => by (try dsimp only at hSw); go_simp⟩) hHeld6 ?_
    simp only [Act.put]
    refine wpAnyH_take (i := 15) (v := .int .i64 0) rfl (by kernel_rfl) (by kernel_rfl) (by kernel_rfl) (fun _ _ _ h => h) (Or.inl ⟨by rfl, fun w hSw => by (try dsimp only at hSw); go_simp⟩) hHeld6 ?_
    simp only [Act.put]
    refine wpAnyH_done (by kernel_rfl) ?_ _
    go_wp2
    refine bodyPost_ret (v := .tuple #[.string (tx T), .int .i64 0]) (by simp [results, Tryz.results37, go_sem]) rfl ⟨rfl, B6.out⟩
  · refine AllReadyH.cons rfl (fun K hK => ?_) AllReadyH.nil
    go_simp
    have BA := hid (show Below w.heap.size w w1 from B1.out)
    refine (HAW.out _ BA.out).mono ?_
    rintro en w3 ⟨v3, rfl, hown3, hb3⟩
    obtain ⟨g3, cap3, rfl, hg3, hc3⟩ := own_some hown3 (by omega)
    have hl3 := hown3.1
    have RBX := hid (below_block hb3 (show w1.heap[w.heap.size]? = some (rob p (tx m) k (.slice ao ps.length cap)) from RB1.out) hsz1)
    have BX := hid (show Below w.heap.size w w3 from BA.out.trans (hb3.mono BA.out.size))
    refine hK.out _ _ ⟨(SH.out _ RBX.out).1, (SH.out _ RBX.out).2.1, (SH.out _ RBX.out).2.2.1, (SH.out _ RBX.out).2.2.2.1⟩ (fun _ => ?_)
    clear hK K
    have RBW := hid (new_old w3 (.cells #[.string ⟨#[114, 117, 108, 101]⟩, .string (tx d), .string (tx m)] 9) RBX.out)
    have BW := hid (BX.out.alloc BX.out.size (.cells #[.string ⟨#[114, 117, 108, 101]⟩, .string (tx d), .string (tx m)] 9))
    have hsz3 : w.heap.size < w3.heap.size := lt_of_block RBX.out
    have N3 := hid (fun j u (hu : (svs aw)[j]? = some u) => (by rw [addr_plus]; exact alloc_cell (hc3 j u hu) hg3 (.cells #[.string ⟨#[114, 117, 108, 101]⟩, .string (tx d), .string (tx m)] 9) : (w3.alloc (.cells #[.string ⟨#[114, 117, 108, 101]⟩, .string (tx d), .string (tx m)] 9)).cell? ((⟨g3, 0, none⟩ : Addr).add j) = some u))
    have O3 := hid (show (w3.alloc (.cells #[.string ⟨#[114, 117, 108, 101]⟩, .string (tx d), .string (tx m)] 9)).ownsRow w.heap.size 9 1 (.slice (some ⟨w3.heap.size, 0, none⟩) 3 3) 3 (svs [Ru.ruleT, d, m]) from
      ⟨rfl, Or.inr ⟨w3.heap.size, 3, #[.string ⟨#[114, 117, 108, 101]⟩, .string (tx d), .string (tx m)], rfl, by omega, new_0 _ _, Nat.le_refl _, by decide, rfl, rfl⟩⟩)
    clear hown3 hb3 hc3
    refine wpAnyH_ready (rs := [5]) (by kernel_rfl) (by simp) ?_
    refine AllReadyH.cons rfl (fun K hK => ?_) AllReadyH.nil
    go_simp
    refine hK.out _ _ ⟨(SH.out _ RBW.out).1, (SH.out _ RBW.out).2.1, (SH.out _ RBW.out).2.2.1, (SH.out _ RBW.out).2.2.2.1⟩ (fun _ => ?_)
    clear hK K
    refine wpAnyH_ready (rs := [9]) (by kernel_rfl) (by simp) ?_
    refine AllReadyH.cons rfl (fun K hK => ?_) AllReadyH.nil
    refine step_append_lies _ (by rfl) (.tmp 28) (.tmp 31) 47 (by rfl) w.heap.size 9 i0 (.string ByteArray.empty) 1 16 Tryz.underlying47 HI.out HZ0.out HZ1.out HZ2.out rfl (by decide) (.slice (some ⟨w3.heap.size, 0, none⟩) 3 3) 3 (svs [Ru.ruleT, d, m]) rfl O3.out ⟨g3, 0, none⟩ n cap3 (svs aw) rfl hl3 N3.out svs_one (by omega) (by unfold maxLen; omega) (by omega) BW.out.size _ rfl ?_
    intro g5 cap5 w5 hown5 hgrow5 hat5 hlt5
    have RB5 := hid (block_grow (r := w3.heap.size) RBW.out hgrow5 (by omega))
    have OW := hid (show w5.ownsRow w.heap.size 9 1 (.slice (some ⟨g5, 0, none⟩) (3 + n) cap5) (3 + n) (svs (Ru.ruleT :: d :: m :: aw)) from hown5)
    have B5 := hid (show Below w.heap.size w w5 from BW.out.grown hgrow5 BW.out.size (fun q hq => by simp [Value.ownBlock] at hq; omega))
    clear hown5 hgrow5 hat5
    refine hK.out _ _ ⟨(SH.out _ RB5.out).1, (SH.out _ RB5.out).2.1, (SH.out _ RB5.out).2.2.1, (SH.out _ RB5.out).2.2.2.1⟩ (fun hHeld5 => ?_)
    clear hK K
    refine wpAnyH_ready (rs := [10]) (by kernel_rfl) (by simp) ?_
    refine AllReadyH.cons rfl (fun K hK => ?_) AllReadyH.nil
    go_simp
    refine (HSY.out _ _ (own_txs (show w5.ownsRow _ 9 1 (.slice (some ⟨g5, 0, none⟩) (3 + n) cap5) (Ru.ruleT :: d :: m :: aw).length (svs (Ru.ruleT :: d :: m :: aw)) by rw [show (Ru.ruleT :: d :: m :: aw).length = 3 + n by rw [HNN.out]; simp only [List.length_cons]; omega]; exact OW.out))).mono ?_
    rintro en w6 ⟨rfl, hb6⟩
    have RB6 := hid (below_block hb6 RB5.out (lt_of_block RB5.out))
    have B6 := hid (show Below w.heap.size w w6 from B5.out.trans (hb6.mono B5.out.size))
    clear hb6
    refine hK.out _ _ ⟨(SH.out _ RB6.out).1, (SH.out _ RB6.out).2.1, (SH.out _ RB6.out).2.2.1, (SH.out _ RB6.out).2.2.2.1⟩ (fun hHeld6 => ?_)
    clear hK K
    refine wpAnyH_take (i := 11) (v := .tuple #[.string (tx T), .int .i64 0]) rfl (by kernel_rfl) (by kernel_rfl) (by kernel_rfl) (fun _ _ _ h => h) (Or.inl ⟨by rfl, fun w hSw => by (try dsimp only at hSw); go_simp⟩) hHeld6 ?_
    simp only [Act.put]
    refine wpAnyH_take (i := 12) (v := .string (tx T)) rfl (by kernel_rfl) (by kernel_rfl) (by kernel_rfl) (fun _ _ _ h => h) (Or.inl ⟨by rfl, fun w hSw => by (try dsimp only at hSw); go_simp⟩) hHeld6 ?_
    simp only [Act.put]
    refine wpAnyH_take (i := 13) (v := .int .i64 0) rfl (by kernel_rfl) (by kernel_rfl) (by kernel_rfl) (fun _ _ _ h => h) (Or.inl ⟨by rfl, fun w hSw => by (try dsimp only at hSw); go_simp⟩) hHeld6 ?_
    simp only [Act.put]
    refine wpAnyH_take (i := 14) (v := .string (tx T)) rfl (by kernel_rfl) (by kernel_rfl) (by kernel_rfl) (fun _ _ _ h => h) (Or.inl ⟨by rfl, fun w hSw => by (try dsimp only at hSw); go_simp⟩) hHeld6 ?_
    simp only [Act.put]
    refine wpAnyH_take (i := 15) (v := .int .i64 0) rfl (by kernel_rfl) (by kernel_rfl) (by kernel_rfl) (fun _ _ _ h => h) (Or.inl ⟨by rfl, fun w hSw => by (try dsimp only at hSw); go_simp⟩) hHeld6 ?_
    simp only [Act.put]
    refine wpAnyH_done (by kernel_rfl) ?_ _
    go_wp2
    refine bodyPost_ret (v := .tuple #[.string (tx T), .int .i64 0]) (by simp [results, Tryz.results37, go_sem]) rfl ⟨rfl, B6.out⟩
end Go.Proofs.YtemmhingmeinjaaGreatDoor
namespace Go.Proofs.YtemmhingmeinjaaGreatDoor
open Go.RowKit

def flatV (rs : List (Raw × Value)) : List Value := rs.flatMap fun q => [.int .i64 q.1.prio, .string (tx q.1.mat), .int .i64 q.1.kind, q.2]
theorem flatV_len (rs : List (Raw × Value)) : (flatV rs).length = rs.length * 4 := by
  induction rs with
  | nil => rfl
  | cons q r ih =>
    show (_ :: _ :: _ :: _ :: flatV r).length = _
    simp only [List.length_cons, ih]; omega
theorem flatV_get {rs : List (Raw × Value)} : ∀ {i : Nat} {q : Raw × Value}, rs[i]? = some q → (flatV rs)[i * 4]? = some (.int .i64 q.1.prio) ∧ (flatV rs)[i * 4 + 1]? = some (.string (tx q.1.mat)) ∧ (flatV rs)[i * 4 + 2]? = some (.int .i64 q.1.kind) ∧ (flatV rs)[i * 4 + 3]? = some q.2 := by
  induction rs with
  | nil => intro i q h; simp at h
  | cons a r ih =>
    intro i q h
    have e : flatV (a :: r) = .int .i64 a.1.prio :: .string (tx a.1.mat) :: .int .i64 a.1.kind :: a.2 :: flatV r := rfl
    rw [e]
    cases i with
    | zero =>
      have : a = q := by simpa using h
      subst this
      exact ⟨rfl, rfl, rfl, rfl⟩
    | succ i =>
      obtain ⟨h0, h1, h2, h3⟩ := ih (by simpa using h)
      rw [show (i + 1) * 4 = i * 4 + 1 + 1 + 1 + 1 by omega]
      exact ⟨by simpa using h0, by simpa using h1, by simpa using h2, by simpa using h3⟩
theorem flatV_one {rs : List (Raw × Value)} (h : ∀ q ∈ rs, ∃ ao n c, q.2 = .slice ao n c) : ∀ u ∈ flatV rs, u.oneCell' = true := by
  intro u hu
  obtain ⟨q, hq, hu⟩ := List.mem_flatMap.1 hu
  obtain ⟨ao, n, c, e⟩ := h q hq
  simp only [List.mem_cons, List.not_mem_nil, or_false] at hu
  rcases hu with rfl | rfl | rfl | rfl
  · rfl
  · rfl
  · rfl
  · rw [e]; rfl
theorem flatV_append (a b : List (Raw × Value)) : flatV (a ++ b) = flatV a ++ flatV b := by simp [flatV]
theorem wpList_append_srcR {P : Program} (w : World) {ops : Array Oper} {rest : List Oper} {o : Oper} {a : Act} {Q : Exit → Act → World → Prop} (hgd : o.guard = none) (s x : Operand) (t : TypeId)
    (ho : o.op = .call { callee := .builtin .append, args := #[s, x], argTypes := #[t, t] })
    (base : Nat) (e : TypeId) (i : TypeInfo) (z : Value) (size bytes : Nat) (ht : P.underlying t = some (.slice e)) (hi : P.info? e = some i) (hz : i.zero = some z)
    (hsize : i.size = size) (hby : i.bytes = bytes) (hzs : z.cells.size = size) (hsz : 0 < size)
    (v : Value) (n : Nat) (xs : List Value) (hs : a.eval s = v) (hown : w.ownsRow base e size v n xs)
    (vx : Value) (m : Nat) (news : List Value) (hx : a.eval x = vx) (hsrc : (vx = .slice none 0 0 ∧ m = 0 ∧ news = []) ∨ ∃ ad c, vx = .slice (some ad) m c ∧ news.length = m * size ∧ ∀ j u, news[j]? = some u → w.cell? (ad.add j) = some u) (h1 : ∀ u ∈ news, u.oneCell' = true)
    (h63 : n + m ≤ maxLen) (hbytes : (n + m) * bytes ≤ 140737488355328) (hbase : base ≤ w.heap.size)
    (h : ∀ v' w', w'.ownsRow base e size v' (n + m) (xs ++ news) → w.grownBy w' v.ownBlock → wpList P ops Q rest (a.put o.dst v') w') :
    wpList P ops Q (o :: rest) a w := by
  rcases hsrc with ⟨rfl, rfl, rfl⟩ | ⟨ad, c, rfl, hl, hc⟩
  · refine wpList_append_own_none hgd s x t ho base e i size ht hi v n xs hs hown hx ?_
    exact h v w (by simpa using hown) (grown_refl _ _)
  · refine wpList_append_own_at w hgd s x t ho base e i z size bytes ht hi hz hsize hby hzs hsz v n xs hs hown ad m c news hx hl hc h1 h63 hbytes hbase ?_
    intro v' w' h1 h2 _ _
    exact h v' w' h1 h2

end Go.Proofs.YtemmhingmeinjaaGreatDoor
namespace Go.Proofs.YtemmhingmeinjaaGreatDoor
open Go.RowKit

def rowOf (ps : List (Raw × Value)) (S : List Nat) : List (Raw × Value) := S.map fun i => ps.getD i (⟨0, [], 0, []⟩, .slice none 0 0)
theorem rowOf_len (ps : List (Raw × Value)) (S : List Nat) : (rowOf ps S).length = S.length := by simp [rowOf]
theorem rowOf_get {ps : List (Raw × Value)} {S : List Nat} {t y : Nat} {q : Raw × Value} (hy : S[t]? = some y) (hq : ps[y]? = some q) : (rowOf ps S)[t]? = some q := by
  unfold rowOf
  rw [List.getElem?_map, hy]
  simp [List.getD_eq_getElem?_getD, hq]
theorem rowOf_append (ps : List (Raw × Value)) (A B : List Nat) : rowOf ps (A ++ B) = rowOf ps A ++ rowOf ps B := by simp [rowOf]
structure DocAt (w : World) (ps : List (Raw × Value)) (j : Nat) (vo : Value) (S : List Nat) (wr : World) : Prop where
  low : Below w.heap.size w wr
  own : wr.ownsRow w.heap.size 51 4 vo j (flatV (rowOf ps S))
  up : St.Up (cmpAt ps) S
  perm : S.Perm (List.range' 0 j)
theorem DocAt.len {w wr : World} {ps : List (Raw × Value)} {j : Nat} {vo : Value} {S : List Nat} (h : DocAt w ps j vo S wr) : S.length = j := by rw [h.perm.length_eq]; simp
theorem DocAt.mem {w wr : World} {ps : List (Raw × Value)} {j : Nat} {vo : Value} {S : List Nat} (h : DocAt w ps j vo S wr) {x : Nat} (hx : x ∈ S) : x < j := by
  have := h.perm.mem_iff.1 hx
  rw [List.mem_range'_1] at this
  omega
theorem own_kept {w w' : World} {B : Nat} {v : Value} {n : Nat} {xs : List Value} (h : w.ownsRow B 51 4 v n xs) (hb : Below w.heap.size w w') : w'.ownsRow B 51 4 v n xs := by
  obtain ⟨h1, h2⟩ := h
  refine ⟨h1, ?_⟩
  rcases h2 with h2 | ⟨g, cap, cur, e, hB, hh, r⟩
  · exact Or.inl h2
  · exact Or.inr ⟨g, cap, cur, e, hB, below_block hb hh (lt_of_block hh), r⟩
theorem own_cells {w : World} {B : Nat} {bo : Option Addr} {n c : Nat} {xs : List Value} (h : w.ownsRow B 51 4 (.slice bo n c) n xs) : (bo = none ∧ n = 0 ∧ c = 0) ∨ ∃ g, bo = some ⟨g, 0, none⟩ ∧ B ≤ g ∧ n ≤ c ∧ g < w.heap.size ∧ ∀ (j : Nat) (u : Value), xs[j]? = some u → w.cell? ⟨g, j, none⟩ = some u := by
  rcases h.2 with ⟨e, h0⟩ | ⟨g, cap, cur, e, hB, hh, hn, _, _, ht⟩
  · injection e with e1 e2 e3
    exact Or.inl ⟨e1, e2, e3⟩
  · injection e with e1 e2 e3
    refine Or.inr ⟨g, e1, hB, by omega, lt_of_block hh, fun j u hj => ?_⟩
    rw [cell_at hh, ← Array.getElem?_toList]
    rw [← ht, List.getElem?_take] at hj
    split at hj
    · exact hj
    · cases hj
end Go.Proofs.YtemmhingmeinjaaGreatDoor
