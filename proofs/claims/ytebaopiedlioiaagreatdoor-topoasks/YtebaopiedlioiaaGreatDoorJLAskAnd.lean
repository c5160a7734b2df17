/-
  TopoAsks: what is told of devices, ports and links of any topology, and which are alike, for whatever topologies, texts and device come in: the card.
  The law TopoAsks: what is told of devices, ports and links of any topology, and which are alike.
-/
import Derived.Test.YtebaopiedlioiaaGreatDoorJSameEAnd
import Derived.Test.YtebaopiedlioiaaGreatDoorJDocKAnd
import Derived.Test.YtebaopiedlioiaaGreatDoorRows
import Derived.Test.YtebaopiedlioiaaGreatDoorCards
import Derived.Test.YtebaopiedlioiaaGreatDoorTie
import Derived.WalkKit
import Derived.ProofKit
import Derived.OpenShut
import Derived.ShutString
import Derived.Lay
import Derived.LaidOnce
import Derived.SevenTiedAt
import Derived.LaidSub
import Derived.MakeChecks
namespace Go.Proofs.YtebaopiedlioiaaGreatDoor
open Go.RowKit

set_option maxRecDepth 20000 in
set_option maxHeartbeats 8000000 in
theorem tasks_any {w : World} {wd wd' : Int} {dv lv dv' lv' : Option Addr} {N dc M lc N' dc' M' lc' : Nat} {ds ds' : List (To.Dv × Value × Value)} {ls ls' : List LkZ} (hD : DvL w (.slice dv N dc) ds) (hL : LkV w (.slice lv M lc) ls) (hD' : DvL w (.slice dv' N' dc') ds') (hL' : LkV w (.slice lv' M' lc') ls') (hN : N ≤ dc) (hM : M ≤ lc) (hN' : N' ≤ dc') (hM' : M' ≤ lc')
    (hs : ∀ q ∈ ds, q.1.name.length ≤ 140737488355328 ∧ q.1.cls.length * 16 ≤ 140737488355328 ∧ ∀ z ∈ q.1.cls, z.length ≤ 140737488355328) (hp : ∀ q ∈ ls, q.2.1.length ≤ 140737488355328 ∧ q.2.2.2.length ≤ 140737488355328) (s : List UInt8) (d : Int) (m : List UInt8) :
    Calls Tryz.prog 6 #[.agg #[.int .i64 wd, .slice dv N dc, .slice lv M lc], .agg #[.int .i64 wd', .slice dv' N' dc', .slice lv' M' lc'], .string (tx s), .int .i64 d, .string (tx m)] w fun e w' => e = .returned (.bool true) ∧ Below w.heap.size w w' := by
  have HAL := hid alive11
  have HFW := hid (fun W => ofew_any (w := W) (wd := wd) hN hM hD.addr hL.addr)
  have HFV := hid (fun W => ofew_any (w := W) (wd := wd') hN' hM' hD'.addr hL'.addr)
  have HD := hid (hD.take 40)
  have HL := hid (hL.take 40)
  have HD' := hid (hD'.take 40)
  have HL' := hid (hL'.take 40)
  obtain ⟨n, hn⟩ : ∃ n, n = min N 40 := ⟨_, rfl⟩
  obtain ⟨k, hk⟩ : ∃ k, k = min M 40 := ⟨_, rfl⟩
  obtain ⟨n', hn'⟩ : ∃ n, n = min N' 40 := ⟨_, rfl⟩
  obtain ⟨k', hk'⟩ : ∃ k, k = min M' 40 := ⟨_, rfl⟩
  rw [← hn] at HD HFW
  rw [← hk] at HL HFW
  rw [← hn'] at HD' HFV
  rw [← hk'] at HL' HFV
  obtain ⟨es, hes⟩ : ∃ es, es = ds.take 40 := ⟨_, rfl⟩
  obtain ⟨js, hjs⟩ : ∃ js, js = ls.take 40 := ⟨_, rfl⟩
  obtain ⟨es', hes'⟩ : ∃ es, es = ds'.take 40 := ⟨_, rfl⟩
  obtain ⟨js', hjs'⟩ : ∃ js, js = ls'.take 40 := ⟨_, rfl⟩
  rw [← hes] at HD
  rw [← hjs] at HL
  rw [← hes'] at HD'
  rw [← hjs'] at HL'
  have HQ := hid (asks_all (wd := wd) (wd' := wd') HD.out HL.out HD'.out HL'.out (by rw [hes, List.length_take]; omega) (by rw [hjs, List.length_take]; omega) (by rw [hes', List.length_take]; omega) (by rw [hjs', List.length_take]; omega) (fun q hq => hs q (by rw [hes] at hq; exact List.mem_of_mem_take hq)) (fun q hq => hp q (by rw [hjs] at hq; exact List.mem_of_mem_take hq)) s d m)
  clear hD hL hD' hL' hN hM hN' hM' hn hk hn' hk' hes hjs hes' hjs' HD HL HD' HL' hs hp
  obtain ⟨W0, hW0⟩ : ∃ W0, W0 = ((w.alloc (topJ (.int .i64 wd) (.slice dv N dc) (.slice lv M lc))).alloc (topJ (.int .i64 wd') (.slice dv' N' dc') (.slice lv' M' lc'))).drew := ⟨_, rfl⟩
  have HT0 := hid (show TwI w (topJ (.int .i64 wd) (.slice dv N dc) (.slice lv M lc)) (topJ (.int .i64 wd') (.slice dv' N' dc') (.slice lv' M' lc')) W0 from by rw [hW0]; obtain ⟨q1, q2, q3⟩ := two_boxes w (topJ (.int .i64 wd) (.slice dv N dc) (.slice lv M lc)) (topJ (.int .i64 wd') (.slice dv' N' dc') (.slice lv' M' lc')); exact ⟨q1, q2, q3⟩)
  go_enter Tryz.func6, Tryz.ntmps6
  go_upto_region 1 with fail
  go_cut [] (fun wx => Hid (TwI w (topJ (.int .i64 wd) (.slice dv n dc) (.slice lv k lc)) (topJ (.int .i64 wd') (.slice dv' n' dc') (.slice lv' k' lc')) wx))
  case first =>
    refine wp_region_held_drew (S := fun _ => True) (by kernel_rfl) trivial (fun _ => ?_)
    rw [← hW0]
    clear hW0
    obtain ⟨c0, c1, c2⟩ := topJ_cells HT0.out.one
    obtain ⟨c3, c4, c5⟩ := topJ_cells HT0.out.two
    refine wpAnyH_ready (rs := [0, 2]) (by kernel_rfl) (by simp) ?_
    refine AllReadyH.cons rfl (fun K hK => ?_) ?_
    · go_simp
      refine hK.out _ _ trivial (fun _ => ?_)
      clear hK K
      (try simp only [Act.put, List.setIfInBounds_toArray, List.set_cons_zero, List.set_cons_succ])
      refine wpAnyH_ready (rs := [1, 2]) (by kernel_rfl) (by simp) ?_
      refine AllReadyH.cons rfl (fun K hK => ?_) ?_
      · go_simp
        refine (HFW.out _).mono ?_
        rintro en w1 ⟨rfl, hb1⟩
        have T2c1 := hid (HT0.out.on hb1)
        clear hb1 c0 c1 c2 c3 c4 c5
        obtain ⟨c0, c1, c2⟩ := topJ_cells T2c1.out.one
        obtain ⟨c3, c4, c5⟩ := topJ_cells T2c1.out.two
        refine hK.out _ _ trivial (fun _ => ?_)
        clear hK K
        (try simp only [Act.put, List.setIfInBounds_toArray, List.set_cons_zero, List.set_cons_succ])
        refine wpAnyH_ready (rs := [2]) (by kernel_rfl) (by simp) ?_
        refine AllReadyH.cons rfl (fun K hK => ?_) AllReadyH.nil
        go_simp
        refine hK.out _ _ trivial (fun _ => ?_)
        clear hK K
        (try simp only [Act.put, List.setIfInBounds_toArray, List.set_cons_zero, List.set_cons_succ])
        refine wpAnyH_ready (rs := [3]) (by kernel_rfl) (by simp) ?_
        refine AllReadyH.cons rfl (fun K hK => ?_) AllReadyH.nil
        go_simp
        refine (HFV.out _).mono ?_
        rintro en w3 ⟨rfl, hb3⟩
        have T4c3 := hid (T2c1.out.on hb3)
        clear hb3 c0 c1 c2 c3 c4 c5
        obtain ⟨c0, c1, c2⟩ := topJ_cells T4c3.out.one
        obtain ⟨c3, c4, c5⟩ := topJ_cells T4c3.out.two
        refine hK.out _ _ trivial (fun _ => ?_)
        clear hK K
        (try simp only [Act.put, List.setIfInBounds_toArray, List.set_cons_zero, List.set_cons_succ])
        refine wpAnyH_ready (rs := [4]) (by kernel_rfl) (by simp) ?_
        refine AllReadyH.cons rfl (fun K hK => ?_) AllReadyH.nil
        have f0 : w3.frozen? ⟨w.heap.size, 0, none⟩ = false := free_of T4c3.out.one
        have f1 : w3.frozen? ⟨w.heap.size, 1, none⟩ = false := free_of T4c3.out.one
        have f2 : w3.frozen? ⟨w.heap.size, 2, none⟩ = false := free_of T4c3.out.one
        obtain ⟨V1, hV1, hT1⟩ := TwI.put0 (a := .int .i64 wd) (b := .slice dv n dc) (c := .slice lv k lc) T4c3.out
        have T5s4 := hid hT1
        clear hT1
        go_simp
        rw [← hV1]
        clear hV1 c0 c1 c2 c3 c4 c5 f0 f1 f2
        obtain ⟨c0, c1, c2⟩ := topJ_cells T5s4.out.one
        obtain ⟨c3, c4, c5⟩ := topJ_cells T5s4.out.two
        refine hK.out _ _ trivial (fun _ => ?_)
        clear hK K
        (try simp only [Act.put, List.setIfInBounds_toArray, List.set_cons_zero, List.set_cons_succ])
        refine wpAnyH_ready (rs := [5]) (by kernel_rfl) (by simp) ?_
        refine AllReadyH.cons rfl (fun K hK => ?_) AllReadyH.nil
        have f3 : V1.frozen? ⟨w.heap.size + 1, 0, none⟩ = false := free_of T5s4.out.two
        have f4 : V1.frozen? ⟨w.heap.size + 1, 1, none⟩ = false := free_of T5s4.out.two
        have f5 : V1.frozen? ⟨w.heap.size + 1, 2, none⟩ = false := free_of T5s4.out.two
        obtain ⟨V2, hV2, hT2⟩ := TwI.put1 (a := .int .i64 wd') (b := .slice dv' n' dc') (c := .slice lv' k' lc') T5s4.out
        have T6s5 := hid hT2
        clear hT2
        go_simp
        rw [← hV2]
        clear hV2 c0 c1 c2 c3 c4 c5 f3 f4 f5
        refine hK.out _ _ trivial (fun _ => ?_)
        clear hK K
        (try simp only [Act.put, List.setIfInBounds_toArray, List.set_cons_zero, List.set_cons_succ])
        refine wpAnyH_done (by kernel_rfl) ?_ _
        go_wp2_with fail
        go_meet
        exact T6s5
      refine AllReadyH.cons rfl (fun K hK => ?_) AllReadyH.nil
      go_simp
      refine hK.out _ _ trivial (fun _ => ?_)
      clear hK K
      (try simp only [Act.put, List.setIfInBounds_toArray, List.set_cons_zero, List.set_cons_succ])
      refine wpAnyH_ready (rs := [1]) (by kernel_rfl) (by simp) ?_
      refine AllReadyH.cons rfl (fun K hK => ?_) AllReadyH.nil
      go_simp
      refine (HFW.out _).mono ?_
      rintro en w1 ⟨rfl, hb1⟩
      have T3c1 := hid (HT0.out.on hb1)
      clear hb1 c0 c1 c2 c3 c4 c5
      obtain ⟨c0, c1, c2⟩ := topJ_cells T3c1.out.one
      obtain ⟨c3, c4, c5⟩ := topJ_cells T3c1.out.two
      refine hK.out _ _ trivial (fun _ => ?_)
      clear hK K
      (try simp only [Act.put, List.setIfInBounds_toArray, List.set_cons_zero, List.set_cons_succ])
      refine wpAnyH_ready (rs := [3]) (by kernel_rfl) (by simp) ?_
      refine AllReadyH.cons rfl (fun K hK => ?_) AllReadyH.nil
      go_simp
      refine (HFV.out _).mono ?_
      rintro en w3 ⟨rfl, hb3⟩
      have T4c3 := hid (T3c1.out.on hb3)
      clear hb3 c0 c1 c2 c3 c4 c5
      obtain ⟨c0, c1, c2⟩ := topJ_cells T4c3.out.one
      obtain ⟨c3, c4, c5⟩ := topJ_cells T4c3.out.two
      refine hK.out _ _ trivial (fun _ => ?_)
      clear hK K
      (try simp only [Act.put, List.setIfInBounds_toArray, List.set_cons_zero, List.set_cons_succ])
      refine wpAnyH_ready (rs := [4]) (by kernel_rfl) (by simp) ?_
      refine AllReadyH.cons rfl (fun K hK => ?_) AllReadyH.nil
      have f0 : w3.frozen? ⟨w.heap.size, 0, none⟩ = false := free_of T4c3.out.one
      have f1 : w3.frozen? ⟨w.heap.size, 1, none⟩ = false := free_of T4c3.out.one
      have f2 : w3.frozen? ⟨w.heap.size, 2, none⟩ = false := free_of T4c3.out.one
      obtain ⟨V1, hV1, hT1⟩ := TwI.put0 (a := .int .i64 wd) (b := .slice dv n dc) (c := .slice lv k lc) T4c3.out
      have T5s4 := hid hT1
      clear hT1
      go_simp
      rw [← hV1]
      clear hV1 c0 c1 c2 c3 c4 c5 f0 f1 f2
      obtain ⟨c0, c1, c2⟩ := topJ_cells T5s4.out.one
      obtain ⟨c3, c4, c5⟩ := topJ_cells T5s4.out.two
      refine hK.out _ _ trivial (fun _ => ?_)
      clear hK K
      (try simp only [Act.put, List.setIfInBounds_toArray, List.set_cons_zero, List.set_cons_succ])
      refine wpAnyH_ready (rs := [5]) (by kernel_rfl) (by simp) ?_
      refine AllReadyH.cons rfl (fun K hK => ?_) AllReadyH.nil
      have f3 : V1.frozen? ⟨w.heap.size + 1, 0, none⟩ = false := free_of T5s4.out.two
      have f4 : V1.frozen? ⟨w.heap.size + 1, 1, none⟩ = false := free_of T5s4.out.two
      have f5 : V1.frozen? ⟨w.heap.size + 1, 2, none⟩ = false := free_of T5s4.out.two
      obtain ⟨V2, hV2, hT2⟩ := TwI.put1 (a := .int .i64 wd') (b := .slice dv' n' dc') (c := .slice lv' k' lc') T5s4.out
      have T6s5 := hid hT2
      clear hT2
      go_simp
      rw [← hV2]
      clear hV2 c0 c1 c2 c3 c4 c5 f3 f4 f5
      refine hK.out _ _ trivial (fun _ => ?_)
      clear hK K
      (try simp only [Act.put, List.setIfInBounds_toArray, List.set_cons_zero, List.set_cons_succ])
      refine wpAnyH_done (by kernel_rfl) ?_ _
      go_wp2_with fail
      go_meet
      exact T6s5
    refine AllReadyH.cons rfl (fun K hK => ?_) AllReadyH.nil
    go_simp
    refine hK.out _ _ trivial (fun _ => ?_)
    clear hK K
    (try simp only [Act.put, List.setIfInBounds_toArray, List.set_cons_zero, List.set_cons_succ])
    refine wpAnyH_ready (rs := [0]) (by kernel_rfl) (by simp) ?_
    refine AllReadyH.cons rfl (fun K hK => ?_) AllReadyH.nil
    go_simp
    refine hK.out _ _ trivial (fun _ => ?_)
    clear hK K
    (try simp only [Act.put, List.setIfInBounds_toArray, List.set_cons_zero, List.set_cons_succ])
    refine wpAnyH_ready (rs := [1]) (by kernel_rfl) (by simp) ?_
    refine AllReadyH.cons rfl (fun K hK => ?_) AllReadyH.nil
    go_simp
    refine (HFW.out _).mono ?_
    rintro en w1 ⟨rfl, hb1⟩
    have T3c1 := hid (HT0.out.on hb1)
    clear hb1 c0 c1 c2 c3 c4 c5
    obtain ⟨c0, c1, c2⟩ := topJ_cells T3c1.out.one
    obtain ⟨c3, c4, c5⟩ := topJ_cells T3c1.out.two
    refine hK.out _ _ trivial (fun _ => ?_)
    clear hK K
    (try simp only [Act.put, List.setIfInBounds_toArray, List.set_cons_zero, List.set_cons_succ])
    refine wpAnyH_ready (rs := [3]) (by kernel_rfl) (by simp) ?_
    refine AllReadyH.cons rfl (fun K hK => ?_) AllReadyH.nil
    go_simp
    refine (HFV.out _).mono ?_
    rintro en w3 ⟨rfl, hb3⟩
    have T4c3 := hid (T3c1.out.on hb3)
    clear hb3 c0 c1 c2 c3 c4 c5
    obtain ⟨c0, c1, c2⟩ := topJ_cells T4c3.out.one
    obtain ⟨c3, c4, c5⟩ := topJ_cells T4c3.out.two
    refine hK.out _ _ trivial (fun _ => ?_)
    clear hK K
    (try simp only [Act.put, List.setIfInBounds_toArray, List.set_cons_zero, List.set_cons_succ])
    refine wpAnyH_ready (rs := [4]) (by kernel_rfl) (by simp) ?_
    refine AllReadyH.cons rfl (fun K hK => ?_) AllReadyH.nil
    have f0 : w3.frozen? ⟨w.heap.size, 0, none⟩ = false := free_of T4c3.out.one
    have f1 : w3.frozen? ⟨w.heap.size, 1, none⟩ = false := free_of T4c3.out.one
    have f2 : w3.frozen? ⟨w.heap.size, 2, none⟩ = false := free_of T4c3.out.one
    obtain ⟨V1, hV1, hT1⟩ := TwI.put0 (a := .int .i64 wd) (b := .slice dv n dc) (c := .slice lv k lc) T4c3.out
    have T5s4 := hid hT1
    clear hT1
    go_simp
    rw [← hV1]
    clear hV1 c0 c1 c2 c3 c4 c5 f0 f1 f2
    obtain ⟨c0, c1, c2⟩ := topJ_cells T5s4.out.one
    obtain ⟨c3, c4, c5⟩ := topJ_cells T5s4.out.two
    refine hK.out _ _ trivial (fun _ => ?_)
    clear hK K
    (try simp only [Act.put, List.setIfInBounds_toArray, List.set_cons_zero, List.set_cons_succ])
    refine wpAnyH_ready (rs := [5]) (by kernel_rfl) (by simp) ?_
    refine AllReadyH.cons rfl (fun K hK => ?_) AllReadyH.nil
    have f3 : V1.frozen? ⟨w.heap.size + 1, 0, none⟩ = false := free_of T5s4.out.two
    have f4 : V1.frozen? ⟨w.heap.size + 1, 1, none⟩ = false := free_of T5s4.out.two
    have f5 : V1.frozen? ⟨w.heap.size + 1, 2, none⟩ = false := free_of T5s4.out.two
    obtain ⟨V2, hV2, hT2⟩ := TwI.put1 (a := .int .i64 wd') (b := .slice dv' n' dc') (c := .slice lv' k' lc') T5s4.out
    have T6s5 := hid hT2
    clear hT2
    go_simp
    rw [← hV2]
    clear hV2 c0 c1 c2 c3 c4 c5 f3 f4 f5
    refine hK.out _ _ trivial (fun _ => ?_)
    clear hK K
    (try simp only [Act.put, List.setIfInBounds_toArray, List.set_cons_zero, List.set_cons_succ])
    refine wpAnyH_done (by kernel_rfl) ?_ _
    go_wp2_with fail
    go_meet
    exact T6s5
  case rest =>
    clear hW0 HT0 HFW HFV
    have T1 := hid hcut.out
    clear hcut
    obtain ⟨c0, c1, c2⟩ := topJ_cells T1.out.one
    obtain ⟨i1, b1, i2, q2, b2, x3, l3, b3, H1, H2, H3, H4, H5, H6, H7, H8, H9⟩ := HQ.out
    have H1 := hid H1
    have H2 := hid H2
    have H3 := hid H3
    have H4 := hid H4
    have H5 := hid H5
    have H6 := hid H6
    have H7 := hid H7
    have H8 := hid H8
    have H9 := hid H9
    clear HQ
    have e1 : (i1 != i1) = false := by simp
    have e2 : (b1 != b1) = false := by simp
    have e3 : (i2 != i2) = false := by simp
    have e4 : (tx q2 != tx q2) = false := tx_neJ q2
    have e5 : (b2 != b2) = false := by simp
    have e6 : (tx x3 != tx x3) = false := tx_neJ x3
    have e7 : ((l3 : Int) != (l3 : Int)) = false := by simp
    have e8 : (b3 != b3) = false := by simp
    go_wp2_with fail
    refine (H1.out _ T1.out.below).mono ?_
    rintro en w2 ⟨rfl, hb⟩
    have T2 := hid (T1.out.on hb)
    clear hb c0 c1 c2
    obtain ⟨c0, c1, c2⟩ := topJ_cells T2.out.one
    go_wp2_with fail
    refine (H2.out _ T2.out.below).mono ?_
    rintro en w3 ⟨rfl, hb⟩
    have T3 := hid (T2.out.on hb)
    clear hb c0 c1 c2
    obtain ⟨c0, c1, c2⟩ := topJ_cells T3.out.one
    go_wp2_with fail
    refine (H3.out _ T3.out.below).mono ?_
    rintro en w4 ⟨rfl, hb⟩
    have T4 := hid (T3.out.on hb)
    clear hb c0 c1 c2
    obtain ⟨c0, c1, c2⟩ := topJ_cells T4.out.one
    go_wp2_with fail
    refine (H4.out _ T4.out.below).mono ?_
    rintro en w5 ⟨rfl, hb⟩
    have T5 := hid (T4.out.on hb)
    clear hb c0 c1 c2
    obtain ⟨c0, c1, c2⟩ := topJ_cells T5.out.one
    go_wp2_with fail
    refine (H5.out _ T5.out.below).mono ?_
    rintro en w6 ⟨⟨a3, k3, rfl⟩, hb⟩
    obtain ⟨W6, hW6⟩ : ∃ W6, W6 = w6.alloc (.cells #[.string (tx x3), .slice a3 l3 k3] 49) := ⟨_, rfl⟩
    obtain ⟨N6, hN6⟩ : ∃ N6, N6 = w6.heap.size := ⟨_, rfl⟩
    have hB6 : Below w5.heap.size w5 W6 := by rw [hW6]; exact hb.alloc hb.size _
    have HX6 := hid (show W6.heap[N6]? = some (.cells #[.string (tx x3), .slice a3 l3 k3] 49 (0, 0)) by rw [hW6, hN6]; exact new_0 _ _)
    have T6 := hid (T5.out.on hB6)
    clear hb hB6 c0 c1 c2
    obtain ⟨c0, c1, c2⟩ := topJ_cells T6.out.one
    go_upto_region 7 with fail
    rw [← hN6, ← hW6]
    clear hW6 hN6
    go_wp2_with fail
    refine (H6.out _ T6.out.below).mono ?_
    rintro en w7 ⟨⟨a4, k4, rfl⟩, hb⟩
    obtain ⟨W7, hW7⟩ : ∃ W7, W7 = w7.alloc (.cells #[.string (tx x3), .slice a4 l3 k4] 49) := ⟨_, rfl⟩
    obtain ⟨N7, hN7⟩ : ∃ N7, N7 = w7.heap.size := ⟨_, rfl⟩
    have hB7 : Below W6.heap.size W6 W7 := by rw [hW7]; exact hb.alloc hb.size _
    have HX7 := hid (show W7.heap[N7]? = some (.cells #[.string (tx x3), .slice a4 l3 k4] 49 (0, 0)) by rw [hW7, hN7]; exact new_0 _ _)
    have HY7 := hid ((hB7.block _ (lt_of_block HX6.out)).trans HX6.out)
    have T7 := hid (T6.out.on hB7)
    clear hb hB7 c0 c1 c2
    have x0 : W7.cell? ⟨N6, 0, none⟩ = some (.string (tx x3)) := by rw [cell_at HY7.out]; rfl
    have x1 : W7.cell? ⟨N6, 1, none⟩ = some (.slice a3 l3 k3) := by rw [cell_at HY7.out]; rfl
    have y0 : W7.cell? ⟨N7, 0, none⟩ = some (.string (tx x3)) := by rw [cell_at HX7.out]; rfl
    have y1 : W7.cell? ⟨N7, 1, none⟩ = some (.slice a4 l3 k4) := by rw [cell_at HX7.out]; rfl
    go_upto_region 8 with fail
    rw [← hN7, ← hW7]
    clear hW7 hN7 HX6
    go_upto_region 10 with fail
    clear x0 x1 y0 y1 HX7 HY7 e1 e2 e3 e4 e5 e6 e7 e8 H1 H2 H3 H4 H5 H6
    obtain ⟨c0, c1, c2⟩ := topJ_cells T7.out.one
    have T8 := hid (show TwI w (topJ (.int .i64 wd) (.slice dv n dc) (.slice lv k lc)) (topJ (.int .i64 wd') (.slice dv' n' dc') (.slice lv' k' lc')) W7.drew from ⟨T7.out.one, T7.out.two, T7.out.below.drew⟩)
    clear T7
    refine wp_region_held_drew (S := (fun W => W.cell? ⟨w.heap.size, 0, none⟩ = some (.int .i64 wd) ∧ W.cell? ⟨w.heap.size, 1, none⟩ = some (.slice dv n dc) ∧ W.cell? ⟨w.heap.size, 2, none⟩ = some (.slice lv k lc))) (by kernel_rfl) ?hSb0 (fun hHeld => ?_)
    case hSb0 => exact topJ_cells T8.out.one
    refine tkH (i := 0) (v := ?vb0) rfl (by kernel_rfl) (by kernel_rfl) (by kernel_rfl) (fun _ _ _ h => h) (by rfl) ?yb0 (by assumption) ?rb0
    case yb0 => (intro w hSw; (try dsimp only at hSw); go_simp; (try with_reducible rfl))
    (try simp only [Act.put, List.setIfInBounds_toArray, List.set_cons_zero, List.set_cons_succ])
    refine tkH (i := 1) (v := ?vb1) rfl (by kernel_rfl) (by kernel_rfl) (by kernel_rfl) (fun _ _ _ h => h) (by rfl) ?yb1 (by assumption) ?rb1
    case yb1 => (intro w hSw; (try dsimp only at hSw); go_simp; (try with_reducible rfl))
    (try simp only [Act.put, List.setIfInBounds_toArray, List.set_cons_zero, List.set_cons_succ])
    refine tkH (i := 3) (v := ?vb3) rfl (by kernel_rfl) (by kernel_rfl) (by kernel_rfl) (fun _ _ _ h => h) (by rfl) ?yb3 (by assumption) ?rb3
    case yb3 => (intro w hSw; (try dsimp only at hSw); go_simp; (try with_reducible rfl))
    (try simp only [Act.put, List.setIfInBounds_toArray, List.set_cons_zero, List.set_cons_succ])
    refine tkH (i := 4) (v := ?vb4) rfl (by kernel_rfl) (by kernel_rfl) (by kernel_rfl) (fun _ _ _ h => h) (by rfl) ?yb4 (by assumption) ?rb4
    case yb4 => (intro w hSw; (try dsimp only at hSw); go_simp; (try with_reducible rfl))
    (try simp only [Act.put, List.setIfInBounds_toArray, List.set_cons_zero, List.set_cons_succ])
    refine caH (i := 2) rfl (by kernel_rfl) (by rfl) (fun K hK => ?_)
    go_simp
    refine (H7.out _ T8.out.below).mono ?_
    rintro en w8 ⟨⟨vw8, rfl, hvw8⟩, hb⟩
    have T9 := hid (T8.out.on hb)
    obtain ⟨aow8, cpw8, rfl, hcw8⟩ := hvw8.form
    have G8 := hid hcw8
    have Bw8 := hid hb
    clear hb hvw8 hcw8
    refine hK.out _ _ (topJ_cells T9.out.one) (fun hHeld => ?_)
    clear hK K
    (try simp only [Act.put, List.setIfInBounds_toArray, List.set_cons_zero, List.set_cons_succ])
    refine caH (i := 5) rfl (by kernel_rfl) (by rfl) (fun K hK => ?_)
    go_simp
    refine (H8.out _ T9.out.below).mono ?_
    rintro en w9 ⟨⟨vw9, rfl, hvw9⟩, hb⟩
    have T10 := hid (T9.out.on hb)
    obtain ⟨aow9, cpw9, rfl, hcw9⟩ := hvw9.form
    have G9 := hid hcw9
    have Bw9 := hid hb
    clear hb hvw9 hcw9
    refine hK.out _ _ (topJ_cells T10.out.one) (fun hHeld => ?_)
    clear hK K
    (try simp only [Act.put, List.setIfInBounds_toArray, List.set_cons_zero, List.set_cons_succ])
    refine tkH (i := 6) (v := ?vb6) rfl (by kernel_rfl) (by kernel_rfl) (by kernel_rfl) (fun _ _ _ h => h) (by rfl) ?yb6 (by assumption) ?rb6
    case yb6 => (intro w hSw; (try dsimp only at hSw); go_simp; (try with_reducible rfl))
    (try simp only [Act.put, List.setIfInBounds_toArray, List.set_cons_zero, List.set_cons_succ])
    refine tkH (i := 7) (v := ?vb7) rfl (by kernel_rfl) (by kernel_rfl) (by kernel_rfl) (fun _ _ _ h => h) (by rfl) ?yb7 (by assumption) ?rb7
    case yb7 => (intro w hSw; (try dsimp only at hSw); go_simp; (try with_reducible rfl))
    (try simp only [Act.put, List.setIfInBounds_toArray, List.set_cons_zero, List.set_cons_succ])
    refine wpAnyH_done (by kernel_rfl) ?_ _
    obtain ⟨L, hL⟩ : ∃ L, L = (nearS d js).length := ⟨_, rfl⟩
    rw [← hL]
    have HLL := hid hL
    have G8' := hid (show nearS d js = [] ∨ ∃ g, aow8 = some ⟨g, 0, none⟩ ∧ ∀ (i : Nat) (z : Int), (nearS d js)[i]? = some z → w9.cell? ⟨g, i, none⟩ = some (.int .i64 z) from G8.out.imp id (fun ⟨g, h1, h2, h3⟩ => ⟨g, h1, fun i z hz => (World.cell?_of_block (a := ⟨g, i, none⟩) (Bw9.out.block g h2)).trans (h3 i z hz)⟩))
    have e9 : ((L : Int) != (L : Int)) = false := by simp
    have hL63 : L ≤ 80 := by rw [hL]; have h1 := nearS_len d js; have h2 := H9.out.1; omega
    clear hL G8 Bw8 Bw9 T8 T9 c0 c1 c2
    go_wp2_with fail
    go_loopw [27] (fun i wr => ∃ j : Nat, j ≤ L ∧ i = .int .i64 j ∧ Hid (Below w9.heap.size w9 wr)) (fun i _ => L - (intOf i).toNat)
    case atStart => exact ⟨0, Nat.zero_le _, rfl, hid (Below.refl _ _)⟩
    case round =>
      obtain ⟨j, hj, rfl, HB⟩ := hrel
      by_cases hlt : j < L
      · obtain ⟨z, hz⟩ : ∃ z, (nearS d js)[j]? = some z := ⟨_, List.getElem?_eq_getElem (by have := HLL.out; omega)⟩
        obtain ⟨g, rfl, hc⟩ := G8'.out.resolve_left (fun e => by rw [e] at hz; simp at hz)
        obtain ⟨g2, rfl, hg2, hc2⟩ := G9.out.resolve_left (fun e => by rw [e] at hz; simp at hz)
        have y0 := hc j z hz
        have z0 := hc2 j z hz
        have hgl : g < w9.heap.size := cell_ltJ y0
        have y1 := (World.cell?_of_block (a := ⟨g, j, none⟩) (HB.out.block g hgl)).trans y0
        have z1 := (World.cell?_of_block (a := ⟨g2, j, none⟩) (HB.out.block g2 hg2)).trans z0
        have jI : (j : Int) < (L : Int) := by omega
        have j0 : (0 : Int) ≤ (j : Int) := by omega
        have ez : (z != z) = false := by simp
        clear hc hc2 hz y0 z0 hg2 hgl
        go_wp2_with fail
        have HBd := hid HB.out.drew
        go_region_held3 (fun W => W.cell? ⟨g, j, none⟩ = some (.int .i64 z) ∧ W.cell? ⟨g2, j, none⟩ = some (.int .i64 z)) (go_keep) (fail)
        go_wp2_with fail
        go_roundw
        case rel => exact ⟨j + 1, by omega, by go_num, HBd⟩
        case measure => simp [intOf]; omega
      · have jI : ¬ (j : Int) < (L : Int) := by omega
        have T11 := hid (T10.out.on HB.out)
        clear T10
        have T12 := hid (show TwI w (topJ (.int .i64 wd) (.slice dv n dc) (.slice lv k lc)) (topJ (.int .i64 wd') (.slice dv' n' dc') (.slice lv' k' lc')) wr.drew from ⟨T11.out.one, T11.out.two, T11.out.below.drew⟩)
        clear T11
        obtain ⟨c0, c1, c2⟩ := topJ_cells T12.out.one
        obtain ⟨c3, c4, c5⟩ := topJ_cells T12.out.two
        obtain ⟨HSA, HSB, HSC⟩ := H9.out.2
        have HSA := hid HSA
        have HSB := hid HSB
        have HSC := hid HSC
        clear H9 G8' G9 HLL H7 H8
        go_upto_region 18 with fail
        obtain ⟨bb, hbb⟩ : ∃ bb, bb = sameT wd (es.map (·.1)) js wd' (es'.map (·.1)) js' := ⟨_, rfl⟩
        rw [← hbb] at HSA HSB
        clear hbb
        cases bb
        · skip
          refine wp_region_held_drew (S := (fun W => (W.cell? ⟨w.heap.size, 0, none⟩ = some (.int .i64 wd) ∧ W.cell? ⟨w.heap.size, 1, none⟩ = some (.slice dv n dc) ∧ W.cell? ⟨w.heap.size, 2, none⟩ = some (.slice lv k lc)) ∧ W.cell? ⟨w.heap.size + 1, 0, none⟩ = some (.int .i64 wd') ∧ W.cell? ⟨w.heap.size + 1, 1, none⟩ = some (.slice dv' n' dc') ∧ W.cell? ⟨w.heap.size + 1, 2, none⟩ = some (.slice lv' k' lc'))) (by kernel_rfl) ?hSc0 (fun hHeld => ?_)
          case hSc0 => exact And.intro (topJ_cells T12.out.one) (topJ_cells T12.out.two)
          refine tkH (i := 0) (v := ?vc0) rfl (by kernel_rfl) (by kernel_rfl) (by kernel_rfl) (fun _ _ _ h => h) (by rfl) ?yc0 (by assumption) ?rc0
          case yc0 => (intro w hSw; (try dsimp only at hSw); go_simp; (try with_reducible rfl))
          (try simp only [Act.put, List.setIfInBounds_toArray, List.set_cons_zero, List.set_cons_succ])
          refine tkH (i := 1) (v := ?vc1) rfl (by kernel_rfl) (by kernel_rfl) (by kernel_rfl) (fun _ _ _ h => h) (by rfl) ?yc1 (by assumption) ?rc1
          case yc1 => (intro w hSw; (try dsimp only at hSw); go_simp; (try with_reducible rfl))
          (try simp only [Act.put, List.setIfInBounds_toArray, List.set_cons_zero, List.set_cons_succ])
          refine tkH (i := 3) (v := ?vc3) rfl (by kernel_rfl) (by kernel_rfl) (by kernel_rfl) (fun _ _ _ h => h) (by rfl) ?yc3 (by assumption) ?rc3
          case yc3 => (intro w hSw; (try dsimp only at hSw); go_simp; (try with_reducible rfl))
          (try simp only [Act.put, List.setIfInBounds_toArray, List.set_cons_zero, List.set_cons_succ])
          refine tkH (i := 4) (v := ?vc4) rfl (by kernel_rfl) (by kernel_rfl) (by kernel_rfl) (fun _ _ _ h => h) (by rfl) ?yc4 (by assumption) ?rc4
          case yc4 => (intro w hSw; (try dsimp only at hSw); go_simp; (try with_reducible rfl))
          (try simp only [Act.put, List.setIfInBounds_toArray, List.set_cons_zero, List.set_cons_succ])
          refine caH (i := 2) rfl (by kernel_rfl) (by rfl) (fun K hK => ?_)
          go_simp
          refine (HSA.out _ T12.out.below).mono ?_
          rintro en w13 ⟨rfl, hb⟩
          have T13 := hid (T12.out.on hb)
          clear hb
          refine hK.out _ _ (And.intro (topJ_cells T13.out.one) (topJ_cells T13.out.two)) (fun hHeld => ?_)
          clear hK K
          (try simp only [Act.put, List.setIfInBounds_toArray, List.set_cons_zero, List.set_cons_succ])
          refine caH (i := 5) rfl (by kernel_rfl) (by rfl) (fun K hK => ?_)
          go_simp
          refine (HSB.out _ T13.out.below).mono ?_
          rintro en w14 ⟨rfl, hb⟩
          have T14 := hid (T13.out.on hb)
          clear hb
          refine hK.out _ _ (And.intro (topJ_cells T14.out.one) (topJ_cells T14.out.two)) (fun hHeld => ?_)
          clear hK K
          (try simp only [Act.put, List.setIfInBounds_toArray, List.set_cons_zero, List.set_cons_succ])
          refine tkH (i := 6) (v := ?vc6) rfl (by kernel_rfl) (by kernel_rfl) (by kernel_rfl) (fun _ _ _ h => h) (by rfl) ?yc6 (by assumption) ?rc6
          case yc6 => (intro w hSw; (try dsimp only at hSw); go_simp; (try with_reducible rfl))
          (try simp only [Act.put, List.setIfInBounds_toArray, List.set_cons_zero, List.set_cons_succ])
          refine tkH (i := 7) (v := ?vc7) rfl (by kernel_rfl) (by kernel_rfl) (by kernel_rfl) (fun _ _ _ h => h) (by rfl) ?yc7 (by assumption) ?rc7
          case yc7 => (intro w hSw; (try dsimp only at hSw); go_simp; (try with_reducible rfl))
          (try simp only [Act.put, List.setIfInBounds_toArray, List.set_cons_zero, List.set_cons_succ])
          refine tkH (i := 8) (v := ?vc8) rfl (by kernel_rfl) (by kernel_rfl) (by kernel_rfl) (fun _ _ _ h => h) (by rfl) ?yc8 (by assumption) ?rc8
          case yc8 => (intro w hSw; (try dsimp only at hSw); go_simp; (try with_reducible rfl))
          (try simp only [Act.put, List.setIfInBounds_toArray, List.set_cons_zero, List.set_cons_succ])
          refine tkH (i := 9) (v := ?vc9) rfl (by kernel_rfl) (by kernel_rfl) (by kernel_rfl) (fun _ _ _ h => h) (by rfl) ?yc9 (by assumption) ?rc9
          case yc9 => (intro w hSw; (try dsimp only at hSw); go_simp; (try with_reducible rfl))
          (try simp only [Act.put, List.setIfInBounds_toArray, List.set_cons_zero, List.set_cons_succ])
          refine caH (i := 10) rfl (by kernel_rfl) (by rfl) (fun K hK => ?_)
          go_simp
          refine (HSC.out _ T14.out.below).mono ?_
          rintro en w15 ⟨rfl, hb⟩
          have T15 := hid (T14.out.on hb)
          clear hb
          refine hK.out _ _ (And.intro (topJ_cells T15.out.one) (topJ_cells T15.out.two)) (fun hHeld => ?_)
          clear hK K
          (try simp only [Act.put, List.setIfInBounds_toArray, List.set_cons_zero, List.set_cons_succ])
          refine tkH (i := 11) (v := ?vc11) rfl (by kernel_rfl) (by kernel_rfl) (by kernel_rfl) (fun _ _ _ h => h) (by rfl) ?yc11 (by assumption) ?rc11
          case yc11 => (intro w hSw; (try dsimp only at hSw); go_simp; (try with_reducible rfl))
          (try simp only [Act.put, List.setIfInBounds_toArray, List.set_cons_zero, List.set_cons_succ])
          refine tkH (i := 12) (v := ?vc12) rfl (by kernel_rfl) (by kernel_rfl) (by kernel_rfl) (fun _ _ _ h => h) (by rfl) ?yc12 (by assumption) ?rc12
          case yc12 => (intro w hSw; (try dsimp only at hSw); go_simp; (try with_reducible rfl))
          (try simp only [Act.put, List.setIfInBounds_toArray, List.set_cons_zero, List.set_cons_succ])
          refine caH (i := 13) rfl (by kernel_rfl) (by rfl) (fun K hK => ?_)
          go_simp
          refine (HAL.out _).mono ?_
          rintro en w16 ⟨rfl, hb⟩
          have T16 := hid (T15.out.on hb)
          clear hb
          refine hK.out _ _ (And.intro (topJ_cells T16.out.one) (topJ_cells T16.out.two)) (fun hHeld => ?_)
          clear hK K
          (try simp only [Act.put, List.setIfInBounds_toArray, List.set_cons_zero, List.set_cons_succ])
          refine tkH (i := 14) (v := ?vc14) rfl (by kernel_rfl) (by kernel_rfl) (by kernel_rfl) (fun _ _ _ h => h) (by rfl) ?yc14 (by assumption) ?rc14
          case yc14 => (intro w hSw; (try dsimp only at hSw); go_simp; (try with_reducible rfl))
          (try simp only [Act.put, List.setIfInBounds_toArray, List.set_cons_zero, List.set_cons_succ])
          refine tkH (i := 15) (v := ?vc15) rfl (by kernel_rfl) (by kernel_rfl) (by kernel_rfl) (fun _ _ _ h => h) (by rfl) ?yc15 (by assumption) ?rc15
          case yc15 => (intro w hSw; (try dsimp only at hSw); go_simp; (try with_reducible rfl))
          (try simp only [Act.put, List.setIfInBounds_toArray, List.set_cons_zero, List.set_cons_succ])
          refine wpAnyH_done (by kernel_rfl) ?_ _
          go_wp2
          go_ret
          exact ⟨rfl, T16.out.below⟩
        · skip
          refine wp_region_held_drew (S := (fun W => (W.cell? ⟨w.heap.size, 0, none⟩ = some (.int .i64 wd) ∧ W.cell? ⟨w.heap.size, 1, none⟩ = some (.slice dv n dc) ∧ W.cell? ⟨w.heap.size, 2, none⟩ = some (.slice lv k lc)) ∧ W.cell? ⟨w.heap.size + 1, 0, none⟩ = some (.int .i64 wd') ∧ W.cell? ⟨w.heap.size + 1, 1, none⟩ = some (.slice dv' n' dc') ∧ W.cell? ⟨w.heap.size + 1, 2, none⟩ = some (.slice lv' k' lc'))) (by kernel_rfl) ?hSe0 (fun hHeld => ?_)
          case hSe0 => exact And.intro (topJ_cells T12.out.one) (topJ_cells T12.out.two)
          refine tkH (i := 0) (v := ?ve0) rfl (by kernel_rfl) (by kernel_rfl) (by kernel_rfl) (fun _ _ _ h => h) (by rfl) ?ye0 (by assumption) ?re0
          case ye0 => (intro w hSw; (try dsimp only at hSw); go_simp; (try with_reducible rfl))
          (try simp only [Act.put, List.setIfInBounds_toArray, List.set_cons_zero, List.set_cons_succ])
          refine tkH (i := 1) (v := ?ve1) rfl (by kernel_rfl) (by kernel_rfl) (by kernel_rfl) (fun _ _ _ h => h) (by rfl) ?ye1 (by assumption) ?re1
          case ye1 => (intro w hSw; (try dsimp only at hSw); go_simp; (try with_reducible rfl))
          (try simp only [Act.put, List.setIfInBounds_toArray, List.set_cons_zero, List.set_cons_succ])
          refine tkH (i := 3) (v := ?ve3) rfl (by kernel_rfl) (by kernel_rfl) (by kernel_rfl) (fun _ _ _ h => h) (by rfl) ?ye3 (by assumption) ?re3
          case ye3 => (intro w hSw; (try dsimp only at hSw); go_simp; (try with_reducible rfl))
          (try simp only [Act.put, List.setIfInBounds_toArray, List.set_cons_zero, List.set_cons_succ])
          refine tkH (i := 4) (v := ?ve4) rfl (by kernel_rfl) (by kernel_rfl) (by kernel_rfl) (fun _ _ _ h => h) (by rfl) ?ye4 (by assumption) ?re4
          case ye4 => (intro w hSw; (try dsimp only at hSw); go_simp; (try with_reducible rfl))
          (try simp only [Act.put, List.setIfInBounds_toArray, List.set_cons_zero, List.set_cons_succ])
          refine caH (i := 2) rfl (by kernel_rfl) (by rfl) (fun K hK => ?_)
          go_simp
          refine (HSA.out _ T12.out.below).mono ?_
          rintro en w13 ⟨rfl, hb⟩
          have T13 := hid (T12.out.on hb)
          clear hb
          refine hK.out _ _ (And.intro (topJ_cells T13.out.one) (topJ_cells T13.out.two)) (fun hHeld => ?_)
          clear hK K
          (try simp only [Act.put, List.setIfInBounds_toArray, List.set_cons_zero, List.set_cons_succ])
          refine caH (i := 5) rfl (by kernel_rfl) (by rfl) (fun K hK => ?_)
          go_simp
          refine (HSB.out _ T13.out.below).mono ?_
          rintro en w14 ⟨rfl, hb⟩
          have T14 := hid (T13.out.on hb)
          clear hb
          refine hK.out _ _ (And.intro (topJ_cells T14.out.one) (topJ_cells T14.out.two)) (fun hHeld => ?_)
          clear hK K
          (try simp only [Act.put, List.setIfInBounds_toArray, List.set_cons_zero, List.set_cons_succ])
          refine tkH (i := 6) (v := ?ve6) rfl (by kernel_rfl) (by kernel_rfl) (by kernel_rfl) (fun _ _ _ h => h) (by rfl) ?ye6 (by assumption) ?re6
          case ye6 => (intro w hSw; (try dsimp only at hSw); go_simp; (try with_reducible rfl))
          (try simp only [Act.put, List.setIfInBounds_toArray, List.set_cons_zero, List.set_cons_succ])
          refine tkH (i := 7) (v := ?ve7) rfl (by kernel_rfl) (by kernel_rfl) (by kernel_rfl) (fun _ _ _ h => h) (by rfl) ?ye7 (by assumption) ?re7
          case ye7 => (intro w hSw; (try dsimp only at hSw); go_simp; (try with_reducible rfl))
          (try simp only [Act.put, List.setIfInBounds_toArray, List.set_cons_zero, List.set_cons_succ])
          refine tkH (i := 8) (v := ?ve8) rfl (by kernel_rfl) (by kernel_rfl) (by kernel_rfl) (fun _ _ _ h => h) (by rfl) ?ye8 (by assumption) ?re8
          case ye8 => (intro w hSw; (try dsimp only at hSw); go_simp; (try with_reducible rfl))
          (try simp only [Act.put, List.setIfInBounds_toArray, List.set_cons_zero, List.set_cons_succ])
          refine tkH (i := 9) (v := ?ve9) rfl (by kernel_rfl) (by kernel_rfl) (by kernel_rfl) (fun _ _ _ h => h) (by rfl) ?ye9 (by assumption) ?re9
          case ye9 => (intro w hSw; (try dsimp only at hSw); go_simp; (try with_reducible rfl))
          (try simp only [Act.put, List.setIfInBounds_toArray, List.set_cons_zero, List.set_cons_succ])
          refine caH (i := 10) rfl (by kernel_rfl) (by rfl) (fun K hK => ?_)
          go_simp
          refine (HSC.out _ T14.out.below).mono ?_
          rintro en w15 ⟨rfl, hb⟩
          have T15 := hid (T14.out.on hb)
          clear hb
          refine hK.out _ _ (And.intro (topJ_cells T15.out.one) (topJ_cells T15.out.two)) (fun hHeld => ?_)
          clear hK K
          (try simp only [Act.put, List.setIfInBounds_toArray, List.set_cons_zero, List.set_cons_succ])
          refine tkH (i := 11) (v := ?ve11) rfl (by kernel_rfl) (by kernel_rfl) (by kernel_rfl) (fun _ _ _ h => h) (by rfl) ?ye11 (by assumption) ?re11
          case ye11 => (intro w hSw; (try dsimp only at hSw); go_simp; (try with_reducible rfl))
          (try simp only [Act.put, List.setIfInBounds_toArray, List.set_cons_zero, List.set_cons_succ])
          refine tkH (i := 12) (v := ?ve12) rfl (by kernel_rfl) (by kernel_rfl) (by kernel_rfl) (fun _ _ _ h => h) (by rfl) ?ye12 (by assumption) ?re12
          case ye12 => (intro w hSw; (try dsimp only at hSw); go_simp; (try with_reducible rfl))
          (try simp only [Act.put, List.setIfInBounds_toArray, List.set_cons_zero, List.set_cons_succ])
          refine caH (i := 13) rfl (by kernel_rfl) (by rfl) (fun K hK => ?_)
          go_simp
          refine (HAL.out _).mono ?_
          rintro en w16 ⟨rfl, hb⟩
          have T16 := hid (T15.out.on hb)
          clear hb
          refine hK.out _ _ (And.intro (topJ_cells T16.out.one) (topJ_cells T16.out.two)) (fun hHeld => ?_)
          clear hK K
          (try simp only [Act.put, List.setIfInBounds_toArray, List.set_cons_zero, List.set_cons_succ])
          refine tkH (i := 14) (v := ?ve14) rfl (by kernel_rfl) (by kernel_rfl) (by kernel_rfl) (fun _ _ _ h => h) (by rfl) ?ye14 (by assumption) ?re14
          case ye14 => (intro w hSw; (try dsimp only at hSw); go_simp; (try with_reducible rfl))
          (try simp only [Act.put, List.setIfInBounds_toArray, List.set_cons_zero, List.set_cons_succ])
          refine tkH (i := 15) (v := ?ve15) rfl (by kernel_rfl) (by kernel_rfl) (by kernel_rfl) (fun _ _ _ h => h) (by rfl) ?ye15 (by assumption) ?re15
          case ye15 => (intro w hSw; (try dsimp only at hSw); go_simp; (try with_reducible rfl))
          (try simp only [Act.put, List.setIfInBounds_toArray, List.set_cons_zero, List.set_cons_succ])
          refine wpAnyH_done (by kernel_rfl) ?_ _
          go_wp2
          go_ret
          exact ⟨rfl, T16.out.below⟩
end Go.Proofs.YtebaopiedlioiaaGreatDoor
namespace Go.Proofs.YtebaopiedlioiaaGreatDoor
open Go.ChangeShapes Go.WideShapes Go.ChangeAt Go.RowKit
open Go.ChangeMaps (open_string shut_string)

theorem JCAsk.laidOut : laidOutB Tryz.prog = true := by kernel_rfl
theorem JCAsk.own : ownKnob Tryz.prog.godebug = none := by kernel_rfl

set_option maxRecDepth 100000 in
set_option maxHeartbeats 2000000 in
theorem JCAsk.lifted (os : Os) (started : os.Started) (H : Type) (enc : TypeId × Value → H) :
    ReturnsInHanded {} Tryz.checked os 6 .any (fun w args => (Rows.topoAsksSpec.pre enc Tryz.prog Tryz.f6 [] false w args ∧ laidMetH Tryz.prog Rows.topoAsksRow.laid w) ∧ sizedMet enc Tryz.prog Tryz.f6 (OpenSpec.ofChange Rows.topoAsksSpec) false w args)
      (Rows.topoAsksSpec.post enc Tryz.prog Tryz.f6 false true false false) := by
  refine returnsInHanded_of_change_and (C := Tryz.checked) (X := fun w _ => laidMetH Tryz.prog Rows.topoAsksRow.laid w) (fun _ _ _ hh h => h.of_heap hh) JCAsk.own started (by kernel_rfl) Tryz.func6
    (ChangeSpec.witness_shaped (enc := enc) (C := Tryz.checked) (os := os) (X := fun w _ => laidMetH Tryz.prog Rows.topoAsksRow.laid w) false (World.laidAll Tryz.prog os Rows.topoAsksRow.laid) #[.agg #[.int .i64 0, .slice none 0 0, .slice none 0 0], .agg #[.int .i64 0, .slice none 0 0, .slice none 0 0], .string ByteArray.empty, .int .i64 0, .string ByteArray.empty] 8 (World.laidAll_os _ _ _)
      (World.shaped_of_ZipB (by kernel_rfl) (by kernel_rfl)) (by kernel_rfl) (by kernel_rfl) (by kernel_rfl)
      (by rw [MakeChecks.laidMetH_plain _ _ _ (by kernel_rfl)]; exact laidMet_laidAll _ (by kernel_rfl) (by kernel_rfl))) ?_
  intro W base args ds gs before hval0 hW _ hsz _ _
  have hval : ∀ (j : Nat) t v, Tryz.f6.params[j]? = some t → args[j]? = some v → Value.okWide Tryz.prog W .any base t v := hval0
  have hW' := hW
  obtain ⟨p, q, hA0, hV, rfl, _, _⟩ := hW
  have hA : DataW.TrodAll enc Tryz.prog W 0 (fun _ => true) true Tryz.f6.params.toList args.toList ds p := hA0
  rw [Tryz.params6] at hA hval
  obtain ⟨v0, vs0, d0, ds0, p0, q0, hargs, rfl, rfl, h0, r0⟩ := trodAll_cons hA
  obtain ⟨v1, vs1, d1, ds1, p1, q1, rfl, rfl, rfl, h1, r1⟩ := trodAll_cons r0
  obtain ⟨v2, vs2, d2, ds2, p2, q2, rfl, rfl, rfl, h2, r2⟩ := trodAll_cons r1
  obtain ⟨v3, vs3, d3, ds3, p3, q3, rfl, rfl, rfl, h3, r3⟩ := trodAll_cons r2
  obtain ⟨v4, vs4, d4, ds4, p4, q4, rfl, rfl, rfl, h4, r4⟩ := trodAll_cons r3
  obtain ⟨rfl, rfl, rfl⟩ := trodAll_nil r4
  obtain rfl : args = #[v0, v1, v2, v3, v4] := by cases args; simp_all
  obtain ⟨rfl, rfl⟩ := trodVars_none hV
  obtain ⟨fs, hfs, _⟩ := structOfJ (P := Tryz.prog) (t := 25) (l := [(3, 0), (22, 1), (23, 2)]) (by kernel_rfl)
  obtain ⟨cs0, rfl, hcs0⟩ := okWide_struct hfs (hval 0 25 v0 rfl rfl)
  have k0 := h0
  have lt0 : ∀ x ∈ p0, x.block < W.heap.size := by obtain ⟨m, hm⟩ := k0; exact DataW.trod_lt m _ _ _ hm
  obtain ⟨wd0, dv0, N0, dc0, lv0, M0, lc0, es0, js0, hr0, hD0, hL0, hN0, hM0, hn0, hm0, hz0, hs0⟩ : ∃ (wd : Int) (dv : Option Addr) (N dc : Nat) (lv : Option Addr) (M lc : Nat) (ds : List (To.Dv × Value × Value)) (ls : List LkZ), cs0 = #[.int .i64 wd, .slice dv N dc, .slice lv M lc] ∧ DvL W (.slice dv N dc) ds ∧ LkV W (.slice lv M lc) ls ∧ N ≤ dc ∧ M ≤ lc ∧ N ≤ maxLen ∧ M ≤ maxLen ∧ DvShort ds ∧ LkShort ls := by
    obtain ⟨m, hm⟩ := h0
    obtain ⟨wd, dv, N, dc, lv, M, lc, ds, ls, e1, e2⟩ := open_topo hm
    refine ⟨wd, dv, N, dc, lv, M, lc, ds, ls, ?_, e2⟩
    apply Array.toList_inj.1
    simpa [Value.cells] using e1
  subst hr0
  have hw0 : ∀ k ∈ d0.weights Tryz.prog 25, k ≤ reachBytes := fun k hk => of_decide_eq_true (List.all_eq_true.1 hsz k (DataW.weights_mem_each (j := 0) (t := 25) (d := d0) (by rw [Tryz.params6]; rfl) rfl k hk))
  have hR0 : DvReach es0 ∧ ∀ q ∈ js0, q.2.1.length ≤ reachBytes ∧ q.2.2.2.length ≤ reachBytes := by
    obtain ⟨m, hm⟩ := k0
    exact topo_small (by simpa [Value.cells] using hm) hw0 hD0 hL0
  obtain ⟨cs1, rfl, hcs1⟩ := okWide_struct hfs (hval 1 25 v1 rfl rfl)
  have k1 := h1
  have lt1 : ∀ x ∈ p1, x.block < W.heap.size := by obtain ⟨m, hm⟩ := k1; exact DataW.trod_lt m _ _ _ hm
  obtain ⟨wd1, dv1, N1, dc1, lv1, M1, lc1, es1, js1, hr1, hD1, hL1, hN1, hM1, hn1, hm1, hz1, hs1⟩ : ∃ (wd : Int) (dv : Option Addr) (N dc : Nat) (lv : Option Addr) (M lc : Nat) (ds : List (To.Dv × Value × Value)) (ls : List LkZ), cs1 = #[.int .i64 wd, .slice dv N dc, .slice lv M lc] ∧ DvL W (.slice dv N dc) ds ∧ LkV W (.slice lv M lc) ls ∧ N ≤ dc ∧ M ≤ lc ∧ N ≤ maxLen ∧ M ≤ maxLen ∧ DvShort ds ∧ LkShort ls := by
    obtain ⟨m, hm⟩ := h1
    obtain ⟨wd, dv, N, dc, lv, M, lc, ds, ls, e1, e2⟩ := open_topo hm
    refine ⟨wd, dv, N, dc, lv, M, lc, ds, ls, ?_, e2⟩
    apply Array.toList_inj.1
    simpa [Value.cells] using e1
  subst hr1
  have hw1 : ∀ k ∈ d1.weights Tryz.prog 25, k ≤ reachBytes := fun k hk => of_decide_eq_true (List.all_eq_true.1 hsz k (DataW.weights_mem_each (j := 1) (t := 25) (d := d1) (by rw [Tryz.params6]; rfl) rfl k hk))
  have hR1 : DvReach es1 ∧ ∀ q ∈ js1, q.2.1.length ≤ reachBytes ∧ q.2.2.2.length ≤ reachBytes := by
    obtain ⟨m, hm⟩ := k1
    exact topo_small (by simpa [Value.cells] using hm) hw1 hD1 hL1
  obtain ⟨s2, rfl, rfl, rfl, ws2⟩ := open_string Tryz.underlying9 (hval 2 9 v2 rfl rfl) h2
  obtain ⟨a3, rfl, rfl, rfl, w3⟩ := open_int Tryz.underlying3 (hval 3 3 v3 rfl rfl) h3
  obtain ⟨s4, rfl, rfl, rfl, ws4⟩ := open_string Tryz.underlying9 (hval 4 9 v4 rfl rfl) h4
  simp only [List.append_nil] at hW'
  refine (tasks_any (wd := wd0) (wd' := wd1) hD0 hL0 hD1 hL1 hN0 hM0 hN1 hM1 (fun q hq => ⟨Nat.le_trans (hR0.1 q hq).1 (by decide), Nat.le_trans (hR0.1 q hq).2.1.1 (by decide), fun z hz => Nat.le_trans ((hR0.1 q hq).2.1.2 z hz) (by decide)⟩) (fun q hq => ⟨Nat.le_trans (hR0.2 q hq).1 (by decide), Nat.le_trans (hR0.2 q hq).2 (by decide)⟩) s2.data.toList a3 s4.data.toList).mono fun e W' ⟨he, hb⟩ => ?_
  subst he
  exact ⟨_, rfl, _, _, _, [], _, [], hW', trodAll_mk1 (shut_bool Tryz.underlying4 _), (trodAll_cons_mk (Below.trod JCAsk.laidOut (by kernel_rfl) (of_decide_eq_true (by kernel_rfl)) k0 hb lt0) (trodAll_cons_mk (Below.trod JCAsk.laidOut (by kernel_rfl) (of_decide_eq_true (by kernel_rfl)) k1 hb lt1) (trodAll_cons_mk (shut_string Tryz.underlying9 ws2) (trodAll_cons_mk (shut_int Tryz.underlying3 w3) (trodAll_cons_mk (shut_string Tryz.underlying9 ws4) trodAll_mk0))))), rfl, hb.frame _, fun h => by cases h⟩

theorem JCAsk.holds : Rows.TopoAsksSaid :=
  OpenClaim.holds_of_wide 6 Tryz.f6 rfl rfl rfl rfl rfl rfl rfl ⟨rfl, rfl, rfl, rfl, rfl⟩ rfl rfl rfl rfl rfl (by kernel_rfl) Tryz.func6 (by kernel_rfl)
    (of_decide_eq_true (by kernel_rfl)) (by unfold Func.isWrapper; first | (rw [if_pos (by decide +kernel)]; kernel_rfl) | (rw [if_neg (by decide +kernel)]; exact ⟨rfl, rfl⟩))
    (fun os started H enc _ => JCAsk.lifted os started H enc)

theorem TopoAsks_holds : Rows.TopoAsksCardSaid :=
  Claim7.holds_tied_plain_at .later [] [.data, .pinned] true (true, "0620ee3e491877ded258c3de5b83ee95dbbb9082b4e3ac5f8d4f2dfacaa3ec88") false JCAsk.holds (fun _ h => by cases h) (by kernel_rfl) (fun _ h => by cases h) topoAsks_row_tie rfl ⟨rfl, rfl⟩ (by kernel_rfl) rfl
    (fun f fn hf hfn => by
      obtain rfl : f = 6 := Option.some.inj ((show Tryz.prog.funcNamed "milestone/milestonelaw11.TopoAsks" = some 6 by kernel_rfl).symm.trans hf) |>.symm
      obtain rfl : fn = Tryz.f6 := (Option.some.inj (Tryz.func6.symm.trans hfn)).symm
      exact ⟨by kernel_rfl, fun j t ht => by
        rw [Tryz.params6] at ht
        have hm : t ∈ [25, 25, 9, 3, 9] := by simpa using Array.mem_of_getElem? ht
        have hall : ([25, 25, 9, 3, 9].all fun u => !Tryz.prog.wantsStandIn u) = true := by kernel_rfl
        exact (show Tryz.prog.wantsStandIn t = false by simpa using List.all_eq_true.1 hall t hm)⟩)
    (by kernel_rfl)
#print axioms TopoAsks_holds
end Go.Proofs.YtebaopiedlioiaaGreatDoor
