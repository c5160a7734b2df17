/-
  The document's find and put.
-/
import Derived.Test.YtibbbjikehkbmabDoorGOwn
namespace Go.Proofs.YtibbbjikehkbmabDoor.Ve
open Go.RowKit

set_option maxRecDepth 20000 in
set_option maxHeartbeats 2000000 in
theorem RFind_any {w : World} {v : Value} {l : List St} (h : VecV w v l) (hn : l.length ≤ maxLen) (d : Int) :
    Calls Tryd.prog 25 #[v, .int .i64 d] w fun e w' => e = .returned (.tuple #[.int .u64 ((fndP l d).1 : Nat), .bool (fndP l d).2]) ∧ w' = w := by
  obtain ⟨ao, c, rfl, -, -, hr⟩ := h
  obtain ⟨n, hnn⟩ : ∃ n, n = l.length := ⟨_, rfl⟩
  have HN := hid hnn
  rw [← hnn] at hn ⊢
  have HR := hid hr
  unfold maxLen at hn
  clear hnn hr
  go_enter Tryd.func25, Tryd.ntmps25
  go_wp2_with fail
  go_loopw [6] (fun i wr => ∃ k : Nat, k ≤ n ∧ i = .int .i64 k ∧ wr = w ∧ Hid (∀ i, i < k → ∀ t, l[i]? = some t → t.1 ≠ d)) (fun i _ => n - (intOf i).toNat)
  case atStart => exact ⟨0, Nat.zero_le _, rfl, rfl, fun i hi => absurd hi (Nat.not_lt_zero _)⟩
  case round =>
    obtain ⟨k, hk, rfl, hwr, HA⟩ := hrel
    subst hwr
    by_cases hlt : k < n
    · obtain ⟨⟨x, u⟩, hx⟩ : ∃ x, l[k]? = some x := ⟨_, List.getElem?_eq_getElem (by have := HN.out; omega)⟩
      obtain ⟨g, o, rfl, hg, hc⟩ := HR.out.resolve_left (fun e => by rw [e] at hx; simp at hx)
      obtain ⟨c0, c1⟩ := hc k _ hx
      simp only at c0 c1
      have kI : (k : Int) < (n : Int) := by omega
      have k0 : (0 : Int) ≤ (k : Int) := by omega
      have HX := hid hx
      clear hx hc
      by_cases e : x = d
      · have HE := hid (get_at HA.out HX.out e)
        have eb : (x == d) = true := by rw [beq_iff_eq]; exact e
        clear e
        go_wp2
        go_ret2
        exact ⟨by rw [HE.out]; rfl, rfl⟩
      · have eb : (x == d) = false := by rw [beq_eq_false_iff_ne]; exact e
        have HA2 := hid (show ∀ i, i < k + 1 → ∀ t, l[i]? = some t → t.1 ≠ d from fun i hi t ht => by
          by_cases q : i = k
          · rw [q, HX.out] at ht
            cases ht
            exact e
          · exact HA.out i (by omega) t ht)
        clear e
        go_wp2
        go_roundw
        case rel => exact ⟨k + 1, by omega, by go_num, trivial, HA2⟩
        case measure => simp [intOf]; omega
    · have hkn : k = n := by omega
      have HE := hid (get_no (hkn.trans HN.out) HA.out)
      have kI : ¬ (k : Int) < (n : Int) := by omega
      clear hkn
      go_wp2
      go_ret2
      exact ⟨by rw [HE.out]; rfl, rfl⟩

set_option maxRecDepth 20000 in
set_option maxHeartbeats 4000000 in
theorem RPut_any {w : World} {v : Value} {l : List St} (h : VecV w v l) (hr : Right l) (s : St) :
    Calls Tryd.prog 24 #[v, .agg #[.int .i64 s.1, .int .u64 (s.2 : Int)]] w fun e w' => ∃ v', e = .returned v' ∧ VecV w' v' (putV l s) ∧ Below w.heap.size w w' := by
  obtain ⟨ao, c, rfl, -, -, hrow⟩ := h
  obtain ⟨n, hnn⟩ : ∃ n, n = l.length := ⟨_, rfl⟩
  have HN := hid hnn
  have hn := right_len hr
  rw [← hnn] at hn ⊢
  have HR := hid hr
  obtain ⟨sd, su⟩ := s
  obtain ⟨W0, hW0⟩ : ∃ W0, w.alloc (.cells #[.int .i64 sd, .int .u64 (su : Int)] 33) = W0 := ⟨_, rfl⟩
  have HB0 := hid (show Below w.heap.size w W0 by rw [← hW0]; exact below_al _ _)
  have HROW := hid (hrow.below HB0.out)
  have b0 : W0.cell? ⟨w.heap.size, 0, none⟩ = some (.int .i64 sd) := by rw [← hW0]; exact cell_news 0
  have b1 : W0.cell? ⟨w.heap.size, 1, none⟩ = some (.int .u64 (su : Int)) := by rw [← hW0]; exact cell_news 1
  have hz : w.heap.size < W0.heap.size := by rw [← hW0]; simp
  have HBX := hid (And.intro b0 b1)
  obtain ⟨i0, hi, hz0, hz1, hz2⟩ := info_parts info_stamp
  have HI := hid hi
  have HZ0 := hid hz0
  have HZ1 := hid hz1
  have HZ2 := hid hz2
  have HLEN := hid (fun k => pk_len (s := (sd, su)) (k := k) hr)
  clear hnn hrow b0 b1 hi hz0 hz1 hz2 hr
  go_enter Tryd.func24, Tryd.ntmps24
  go_wp2_with fail
  clear hW0
  go_loopw [5, 6, 7] (fun vo vd vi wr => ∃ (k m : Nat) (a : Option Addr) (c : Nat) (b : Bool), k ≤ n ∧ vi = .int .i64 k ∧ vd = .bool b ∧ vo = .slice a m c ∧ Hid (m = (pk l (sd, su) k).length ∧ b = dn l sd k) ∧ Hid (Below W0.heap.size W0 wr ∧ OwnS wr W0.heap.size (.slice a m c) (pk l (sd, su) k))) (fun _ _ vi _ => n - (intOf vi).toNat)
  case atStart => exact ⟨0, 0, none, 0, false, Nat.zero_le _, rfl, rfl, rfl, ⟨by rw [pk_zero]; rfl, (dn_zero _ _).symm⟩, Below.refl _ _, by rw [pk_zero]; exact World.ownsRow_nil _ _ _ _⟩
  case round =>
    obtain ⟨k, m, a, c1, b, hk, rfl, rfl, rfl, HMB, HIN⟩ := hrel
    by_cases hlt : k < n
    · obtain ⟨⟨x, u⟩, hx⟩ : ∃ x, l[k]? = some x := ⟨_, List.getElem?_eq_getElem (by have := HN.out; omega)⟩
      have HX := hid hx
      have HB := hid HIN.out.1
      obtain ⟨g, o, rfl, hg, hc⟩ := (HROW.out.below HB.out).resolve_left (fun e => by rw [e] at hx; simp at hx)
      obtain ⟨c0, c1'⟩ := hc k _ hx
      simp only at c0 c1'
      have hbx : w.heap.size < W0.heap.size := hz
      have d0 := (HB.out.cell (p := ⟨w.heap.size, 0, none⟩) hbx).trans HBX.out.1
      have d1 := (HB.out.cell (p := ⟨w.heap.size, 1, none⟩) hbx).trans HBX.out.2
      have kI : (k : Int) < (n : Int) := by omega
      have k0 : (0 : Int) ≤ (k : Int) := by omega
      have hm513 : m ≤ 513 := by have := HLEN.out k; have := HMB.out.1; omega
      have HD := hid (fun q => HIN.out.2.at_ HMB.out.1 q)
      have HG := hid hg
      clear hx hc
      rcases bool_two b with hb | hb
      · subst hb
        have hdn := HMB.out.2.symm
        rcases Int.lt_trichotomy x sd with hlx | hlx | hlx
        · have HP := hid (pk_a (s := (sd, su)) HX.out hdn hlx)
          have x1 : ¬ sd ≤ x := by omega
          have x2 : (x != sd) = true := by rw [bne_iff_ne]; omega
          clear hdn hlx
          go_wp2_with fail
          go_quiet (fail)
          go_wp2_with fail
          go_quiet (fail)
          go_wp2_with (first | (at_builtin; refine wpList_append_own_at _ rfl _ _ 23 rfl W0.heap.size 33 i0 (.agg #[.int .i64 0, .int .u64 0]) 2 16 Tryd.underlying23 HI.out HZ0.out HZ1.out HZ2.out rfl (by decide) (.slice a m c1) (m) (flatS (pk l (sd, su) k)) rfl ((HD.out _).alloc _) ⟨wr.heap.size, 0, none⟩ 1 1 [.int .i64 x, .int .u64 (u : Int)] rfl rfl (World.news_of_block (new_0 _ _)) ?c2 ?c3 ?c4 ?c5 ?_))
          case c2 => simp [Value.oneCell']
          case c3 => unfold maxLen; omega
          case c4 => omega
          case c5 => have := HB.out.size; (try have := HB6.out.size); simp; omega
          intro v6 w6 hown6 hgrow6 _ _
          have HNX := hid (HIN.out.2.next' (s := (x, u)) HIN.out.1 HMB.out.1 hown6 hgrow6)
          obtain ⟨a6, c6, rfl⟩ := HNX.out.2.2
          clear hown6 hgrow6
          go_wp2
          go_roundw
          case rel => exact ⟨k + 1, m + 1, a6, c6, false, by omega, by go_num, rfl, rfl, ⟨by rw [HP.out.1, List.length_append, ← HMB.out.1]; rfl, HP.out.2.symm⟩, HNX.out.2.1, by rw [HP.out.1]; exact HNX.out.1⟩
          case measure => simp [intOf]; omega
        · have HP := hid (pk_b (s := (sd, su)) HX.out hdn hlx)
          have x1 : sd ≤ x := by omega
          have x2 : (x != sd) = false := by rw [bne_eq_false_iff_eq]; exact hlx
          clear hdn hlx
          go_wp2_with fail
          go_quiet (fail)
          go_wp2_with (first | (at_builtin; refine wpList_append_own_at _ rfl _ _ 23 rfl W0.heap.size 33 i0 (.agg #[.int .i64 0, .int .u64 0]) 2 16 Tryd.underlying23 HI.out HZ0.out HZ1.out HZ2.out rfl (by decide) (.slice a m c1) (m) (flatS (pk l (sd, su) k)) rfl ((HD.out _).alloc _) ⟨wr.heap.size, 0, none⟩ 1 1 [.int .i64 sd, .int .u64 (su : Int)] rfl rfl (World.news_of_block (new_0 _ _)) ?c2 ?c3 ?c4 ?c5 ?_))
          case c2 => simp [Value.oneCell']
          case c3 => unfold maxLen; omega
          case c4 => omega
          case c5 => have := HB.out.size; (try have := HB6.out.size); simp; omega
          intro v6 w6 hown6 hgrow6 _ _
          have HNX := hid (HIN.out.2.next' (s := (sd, su)) HIN.out.1 HMB.out.1 hown6 hgrow6)
          obtain ⟨a6, c6, rfl⟩ := HNX.out.2.2
          clear hown6 hgrow6
          have d06 := (HNX.out.2.1.cell (p := ⟨w.heap.size, 0, none⟩) hbx).trans HBX.out.1
          have d16 := (HNX.out.2.1.cell (p := ⟨w.heap.size, 1, none⟩) hbx).trans HBX.out.2
          obtain ⟨c06, c16⟩ := (HROW.out.below HNX.out.2.1).at_ HX.out
          simp only at c06 c16
          go_wp2_with fail
          go_quiet (fail)
          go_wp2
          go_roundw
          case rel => exact ⟨k + 1, m + 1, a6, c6, true, by omega, by go_num, rfl, rfl, ⟨by rw [HP.out.1, List.length_append, ← HMB.out.1]; rfl, HP.out.2.symm⟩, below_drewN HNX.out.2.1, by rw [HP.out.1]; exact HNX.out.1.drewN _⟩
          case measure => simp [intOf]; omega
        · have HP := hid (pk_c (s := (sd, su)) HX.out hdn hlx)
          have x1 : sd ≤ x := by omega
          have x2 : (x != sd) = true := by rw [bne_iff_ne]; omega
          clear hdn hlx
          go_wp2_with fail
          go_quiet (fail)
          go_wp2_with (first | (at_builtin; refine wpList_append_own_at _ rfl _ _ 23 rfl W0.heap.size 33 i0 (.agg #[.int .i64 0, .int .u64 0]) 2 16 Tryd.underlying23 HI.out HZ0.out HZ1.out HZ2.out rfl (by decide) (.slice a m c1) (m) (flatS (pk l (sd, su) k)) rfl ((HD.out _).alloc _) ⟨wr.heap.size, 0, none⟩ 1 1 [.int .i64 sd, .int .u64 (su : Int)] rfl rfl (World.news_of_block (new_0 _ _)) ?c2 ?c3 ?c4 ?c5 ?_))
          case c2 => simp [Value.oneCell']
          case c3 => unfold maxLen; omega
          case c4 => omega
          case c5 => have := HB.out.size; (try have := HB6.out.size); simp; omega
          intro v6 w6 hown6 hgrow6 _ _
          have HNX := hid (HIN.out.2.next' (s := (sd, su)) HIN.out.1 HMB.out.1 hown6 hgrow6)
          obtain ⟨a6, c6, rfl⟩ := HNX.out.2.2
          clear hown6 hgrow6
          have d06 := (HNX.out.2.1.cell (p := ⟨w.heap.size, 0, none⟩) hbx).trans HBX.out.1
          have d16 := (HNX.out.2.1.cell (p := ⟨w.heap.size, 1, none⟩) hbx).trans HBX.out.2
          obtain ⟨c06, c16⟩ := (HROW.out.below HNX.out.2.1).at_ HX.out
          simp only at c06 c16
          have HM6 := hid (show m + 1 = (pk l (sd, su) k ++ [(sd, su)]).length by rw [List.length_append, ← HMB.out.1]; rfl)
          have HD6 := hid (fun q => HNX.out.1.at_ HM6.out q)
          have HB6 := hid HNX.out.2.1
          go_wp2_with fail
          go_quiet (fail)
          go_wp2_with (first | (at_builtin; refine wpList_append_own_at _ rfl _ _ 23 rfl W0.heap.size 33 i0 (.agg #[.int .i64 0, .int .u64 0]) 2 16 Tryd.underlying23 HI.out HZ0.out HZ1.out HZ2.out rfl (by decide) (.slice a6 (m + 1) c6) (m + 1) (flatS (pk l (sd, su) k ++ [(sd, su)])) rfl ((HD6.out _).alloc _) ⟨w6.heap.size, 0, none⟩ 1 1 [.int .i64 x, .int .u64 (u : Int)] rfl rfl (World.news_of_block (new_0 _ _)) ?c2 ?c3 ?c4 ?c5 ?_))
          case c2 => simp [Value.oneCell']
          case c3 => unfold maxLen; omega
          case c4 => omega
          case c5 => have := HB.out.size; (try have := HB6.out.size); simp; omega
          intro v7 w7 hown7 hgrow7 _ _
          have HNY := hid (HNX.out.1.next' (s := (x, u)) HNX.out.2.1 HM6.out hown7 hgrow7)
          obtain ⟨a7, c7, rfl⟩ := HNY.out.2.2
          clear hown7 hgrow7
          go_wp2
          go_roundw
          case rel => exact ⟨k + 1, m + 1 + 1, a7, c7, true, by omega, by go_num, rfl, rfl, ⟨by rw [HP.out.1, List.length_append, ← HM6.out]; rfl, HP.out.2.symm⟩, HNY.out.2.1, by rw [HP.out.1]; exact HNY.out.1⟩
          case measure => simp [intOf]; omega
      · subst hb
        have hdn := HMB.out.2.symm
        have hlx := dn_true HR.out HX.out hdn
        have HP := hid (pk_d (s := (sd, su)) HR.out HX.out hdn)
        simp only at hlx
        have x2 : (x != sd) = true := by rw [bne_iff_ne]; omega
        clear hdn hlx
        go_wp2_with fail
        go_quiet (fail)
        go_wp2_with fail
        go_quiet (fail)
        go_wp2_with (first | (at_builtin; refine wpList_append_own_at _ rfl _ _ 23 rfl W0.heap.size 33 i0 (.agg #[.int .i64 0, .int .u64 0]) 2 16 Tryd.underlying23 HI.out HZ0.out HZ1.out HZ2.out rfl (by decide) (.slice a m c1) (m) (flatS (pk l (sd, su) k)) rfl ((HD.out _).alloc _) ⟨wr.heap.size, 0, none⟩ 1 1 [.int .i64 x, .int .u64 (u : Int)] rfl rfl (World.news_of_block (new_0 _ _)) ?c2 ?c3 ?c4 ?c5 ?_))
        case c2 => simp [Value.oneCell']
        case c3 => unfold maxLen; omega
        case c4 => omega
        case c5 => have := HB.out.size; (try have := HB6.out.size); simp; omega
        intro v6 w6 hown6 hgrow6 _ _
        have HNX := hid (HIN.out.2.next' (s := (x, u)) HIN.out.1 HMB.out.1 hown6 hgrow6)
        obtain ⟨a6, c6, rfl⟩ := HNX.out.2.2
        clear hown6 hgrow6
        go_wp2
        go_roundw
        case rel => exact ⟨k + 1, m + 1, a6, c6, true, by omega, by go_num, rfl, rfl, ⟨by rw [HP.out.1, List.length_append, ← HMB.out.1]; rfl, HP.out.2.symm⟩, HNX.out.2.1, by rw [HP.out.1]; exact HNX.out.1⟩
        case measure => simp [intOf]; omega
    · have hkn : k = n := by omega
      have HKN := hid (hkn.trans HN.out)
      have kI : ¬ (k : Int) < (n : Int) := by omega
      have HB := hid HIN.out.1
      have hm513 : m ≤ 513 := by have := HLEN.out k; have := HMB.out.1; omega
      have HD := hid (fun q => HIN.out.2.at_ HMB.out.1 q)
      have hbx : w.heap.size < W0.heap.size := hz
      have d0 := (HB.out.cell (p := ⟨w.heap.size, 0, none⟩) hbx).trans HBX.out.1
      have d1 := (HB.out.cell (p := ⟨w.heap.size, 1, none⟩) hbx).trans HBX.out.2
      have HD0 := hid (HIN.out.2.row HMB.out.1)
      clear hkn
      rcases bool_two b with hb | hb
      · subst hb
        have HP := hid (pk_last HKN.out HMB.out.2.symm (s := (sd, su)))
        go_wp2_with (first | (at_builtin; refine wpList_append_own_at _ rfl _ _ 23 rfl W0.heap.size 33 i0 (.agg #[.int .i64 0, .int .u64 0]) 2 16 Tryd.underlying23 HI.out HZ0.out HZ1.out HZ2.out rfl (by decide) (.slice a m c1) m (flatS (pk l (sd, su) k)) rfl (HD0.out.alloc _) ⟨wr.heap.size, 0, none⟩ 1 1 [.int .i64 sd, .int .u64 (su : Int)] rfl rfl (World.news_of_block (new_0 _ _)) ?c2 ?c3 ?c4 ?c5 ?_))
        case c2 => simp [Value.oneCell']
        case c3 => unfold maxLen; omega
        case c4 => omega
        case c5 => have := HB.out.size; simp; omega
        intro v6 w6 hown6 hgrow6 _ _
        have HNX := hid (OwnS.next (s := (sd, su)) HIN.out.1 HIN.out.1.size HIN.out.2 (by rw [HMB.out.1]) hown6 hgrow6)
        obtain ⟨a6, c6, rfl⟩ := HNX.out.2.2
        clear hown6 hgrow6
        go_wp2
        go_ret
        exact ⟨_, rfl, by rw [← HP.out]; exact HNX.out.1.vec, below_tr HB0.out HNX.out.2.1⟩
      · subst hb
        have HP := hid (pk_end HKN.out HMB.out.2.symm (s := (sd, su)))
        go_wp2
        go_ret
        exact ⟨_, rfl, by rw [← HP.out]; exact HIN.out.2.vec, below_tr HB0.out HB.out⟩
end Go.Proofs.YtibbbjikehkbmabDoor.Ve
