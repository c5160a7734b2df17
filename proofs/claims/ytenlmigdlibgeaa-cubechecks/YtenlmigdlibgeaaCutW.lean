/-
  cut: the parts of a ternary without another one, put behind those that are there.
-/
import Derived.Test.YtenlmigdlibgeaaCutP
namespace Go.Proofs.Ytenlmigdlibgeaa
open Go.RowKit

set_option maxHeartbeats 1000000 in
theorem cut_apart (a b : List UInt8) (width : Nat) (v : Value) (n : Nat) (xs : List Value) (base : Nat) (w : World) (ha : Cu.right a = true) (hb : Cu.right b = true) (h : a.length = b.length) (hm : Cu.meetsB a b = false)
    (hown : w.ownsRow base 69 4 v n xs) (hbase : base ≤ w.heap.size) (hn : n ≤ 1000000) :
    Calls Try.prog 34 #[tv a, tv b, .int .i64 (width : Int), v] w fun e w' => ∃ v', e = .returned v' ∧ w'.ownsRow base 69 4 v' (n + 1) (xs ++ flat [a]) ∧ w.grownBy w' v.ownBlock ∧
      (v'.ownBlock = v.ownBlock ∨ ∃ g, v'.ownBlock = some g ∧ w.heap.size ≤ g) := by
  have HA : Hid (Cu.right a = true) := ha
  have HB : Hid (Cu.right b = true) := hb
  have HL : Hid (a.length = b.length) := h
  have I0 : Hid (CutInv w base v (tc a) (tc b) v n xs ((w.alloc (.cells (tc a) 69)).alloc (.cells (tc b) 69))) :=
    ⟨new_old _ _ (new_0 _ _), new_1 _ _ _, (hown.alloc _).alloc _, grown_of_below _ (((Below.refl _ _).alloc (Nat.le_refl _) _).alloc (by simp) _), Or.inl rfl, fun g hg => (hown.lt g hg).2⟩
  clear ha hb h hown
  obtain ⟨i0, hi, hz0, hz1, hz2⟩ := info_parts Try.infoTern
  have HI : Hid _ := hi
  have HZ0 : Hid _ := hz0
  have HZ1 : Hid _ := hz1
  have HZ2 : Hid _ := hz2
  clear hi hz0 hz1 hz2
  go_enter Try.func34, Try.ntmps34
  go_wp2_with fail
  refine (meets_any a b _ HA.out HB.out HL.out).mono ?_
  rintro e w1 ⟨rfl, hb1⟩
  have I1 : Hid _ := I0.out.below hb1
  obtain ⟨t0, t1, t2, t3⟩ := four_cell I1.out.t
  go_wp2_with (first | (at_builtin; refine wpList_append_own_at _ rfl _ _ 40 rfl base 69 i0 (.agg zero4) 4 32 Try.underlying40 HI.out HZ0.out HZ1.out HZ2.out rfl (by decide) v n xs rfl (I1.out.own.alloc _) ⟨w1.heap.size, 0, none⟩ 1 1 (tc a).toList rfl rfl (new_cells _ _ _ _ rfl) ?c2 ?c3 ?c4 ?c5 ?_))
  case c2 => rw [tc_list]; simp [Value.oneCell']
  case c3 => unfold maxLen; omega
  case c4 => omega
  case c5 => have := I1.out.size; simp; omega
  intro v' w2 hown2 hgrow2 _ hat2
  have I2 : Hid _ := (I1.out.below ((Below.refl _ _).alloc (Nat.le_refl _) _)).append hown2 hgrow2 (by simpa using hat2)
  clear hown2 hgrow2 hat2 t0 t1 t2 t3
  go_wp2
  go_ret
  refine ⟨v', rfl, ?_, I2.out.grown, ?_⟩
  · rw [flat_one]; exact I2.out.own
  · rcases I2.out.place with e | ⟨g, e, hg⟩
    · exact Or.inl e
    · exact Or.inr ⟨g, e, by omega⟩

set_option maxHeartbeats 4000000 in
theorem cut_meet (a b : List UInt8) (width : Nat) (v : Value) (n : Nat) (xs : List Value) (base : Nat) (w : World) (ha : Cu.right a = true) (hb : Cu.right b = true) (h : a.length = b.length) (hw : a.length = width) (hm : Cu.meetsB a b = true)
    (hown : w.ownsRow base 69 4 v n xs) (hbase : base ≤ w.heap.size) (hn : n ≤ 1000000) :
    Calls Try.prog 34 #[tv a, tv b, .int .i64 (width : Int), v] w fun e w' => ∃ v', e = .returned v' ∧ w'.ownsRow base 69 4 v' (n + (Cu.cutTo a b width).length) (xs ++ flat (Cu.cutTo a b width)) ∧ w.grownBy w' v.ownBlock ∧
      (v'.ownBlock = v.ownBlock ∨ ∃ g, v'.ownBlock = some g ∧ w.heap.size ≤ g) := by
  have HA : Hid (Cu.right a = true) := ha
  have HB : Hid (Cu.right b = true) := hb
  have HL : Hid (a.length = b.length) := h
  have HW : Hid (a.length = width) := hw
  obtain ⟨ha1, ha2, ha3⟩ := Cu.right_all ha
  have HS : Hid (a.all Cu.sym = true) := ha1
  have HSB : Hid (b.all Cu.sym = true) := (Cu.right_all hb).1
  have hw128 : width ≤ 128 := by omega
  have I0 : Hid (CutInv w base v (tc a) (tc b) v n xs ((w.alloc (.cells (tc a) 69)).alloc (.cells (tc b) 69))) :=
    ⟨new_old _ _ (new_0 _ _), new_1 _ _ _, (hown.alloc _).alloc _, grown_of_below _ (((Below.refl _ _).alloc (Nat.le_refl _) _).alloc (by simp) _), Or.inl rfl, fun g hg => (hown.lt g hg).2⟩
  clear ha hb h hown hw ha1 ha2 ha3
  obtain ⟨i0, hi, hz0, hz1, hz2⟩ := info_parts Try.infoTern
  have HI : Hid _ := hi
  have HZ0 : Hid _ := hz0
  have HZ1 : Hid _ := hz1
  have HZ2 : Hid _ := hz2
  clear hi hz0 hz1 hz2
  go_enter Try.func34, Try.ntmps34
  go_wp2_with fail
  refine (meets_any a b _ HA.out HB.out HL.out).mono ?_
  rintro e w1 ⟨rfl, hb1⟩
  have I1 : Hid _ := I0.out.below hb1
  go_wp2
  go_loopw [3, 21] (fun p i wr => ∃ k : Nat, k ≤ width ∧ i = .int .i64 k ∧ CutInv w base v (tc (Cu.mix a b k)) (tc b) p (n + (Cu.cutTo a b k).length) (xs ++ flat (Cu.cutTo a b k)) wr)
    (fun _ i _ => width - (intOf i).toNat)
  case atStart =>
    refine ⟨0, Nat.zero_le _, rfl, ?_⟩
    rw [Cu.mix_zero, Cu.cutTo, flat_nil, List.append_nil]
    exact I1.out
  case round =>
    obtain ⟨k, hk, rfl, inv⟩ := hrel
    have J0 : Hid _ := inv
    clear inv I0 I1 hb1
    by_cases hlt : k < width
    · have h128 : k < 128 := by omega
      have HK : Hid (k < a.length) := by show _ < _; rw [HW.out]; exact hlt
      have HF : Hid (Cu.fixAt (Cu.mix a b k) k = Cu.fixAt a k) := Cu.mix_fix HL.out HK.out
      obtain ⟨t0, t1, t2, t3⟩ := four_cell J0.out.t
      rcases bool_two (Cu.fixAt a k) with hfa | hfa
      · have hf : Cu.fixAt (Cu.mix a b k) k = false := HF.out.trans hfa
        have HFA : Hid (Cu.fixAt a k = false) := hfa
        clear hfa
        go_wp2_with fail
        refine (has_any (Cu.fixAt (Cu.mix a b k)) k _ h128).mono ?_
        rintro e w1 ⟨rfl, hb1⟩
        have J1 : Hid _ := J0.out.below hb1
        obtain ⟨y0, y1, y2, y3⟩ := four_cell J1.out.u
        clear t0 t1 t2 t3
        rcases bool_two (Cu.fixAt b k) with hfb | hfb
        · go_wp2_with fail
          refine (has_any (Cu.fixAt b) k _ h128).mono ?_
          rintro e w2 ⟨rfl, hb2⟩
          have J2 : Hid _ := J1.out.below hb2
          have HC : Hid (Cu.cond a b k = false) := by show _ = _; simp [Cu.cond, hfb]
          clear y0 y1 y2 y3
          go_wp2
          go_roundw
          case rel =>
            refine ⟨k + 1, by omega, by go_num, ?_⟩
            rw [Cu.mix_same HS.out HSB.out HL.out HK.out HC.out, Cu.cutTo, HC.out, if_neg (by simp), List.append_nil]
            exact J2.out
          case measure => simp [intOf]; omega
        · have HC : Hid (Cu.cond a b k = true) := by show _ = _; simp [Cu.cond, hfb, HFA.out]
          go_wp2_with fail
          refine (has_any (Cu.fixAt b) k _ h128).mono ?_
          rintro e w2 ⟨rfl, hb2⟩
          have J2 : Hid _ := J1.out.below hb2
          clear y0 y1 y2 y3
          obtain ⟨y0, y1, y2, y3⟩ := four_cell J2.out.u
          go_wp2_with fail
          refine (has_any (Cu.oneAt b) k _ h128).mono ?_
          rintro e w3 ⟨rfl, hb3⟩
          have J3 : Hid _ := J2.out.below hb3
          clear y0 y1 y2 y3
          obtain ⟨t0, t1, t2, t3⟩ := four_cell J3.out.t
          go_wp2_with fail
          refine (fix_any (Cu.fixAt (Cu.mix a b k)) (Cu.oneAt (Cu.mix a b k)) k w3.heap.size (!Cu.oneAt b k) _ h128 (new_0 _ _)).mono ?_
          rintro e w4 ⟨rfl, hP, g4⟩
          rw [← Cu.fix_part HL.out HK.out HC.out, ← Cu.one_part HL.out HK.out HC.out] at hP
          have J4 : Hid _ := (J3.out.below ((Below.refl _ _).alloc (Nat.le_refl _) _)).write g4 J3.out.size (fun e => by have := (J3.out.own.lt _ e).2; omega)
          clear t0 t1 t2 t3
          obtain ⟨t0, t1, t2, t3⟩ := four_cell hP
          have hcl := Cu.cutTo_length a b k
          go_wp2_with (first | (at_builtin; refine wpList_append_own_at _ rfl _ _ 40 rfl base 69 i0 (.agg zero4) 4 32 Try.underlying40 HI.out HZ0.out HZ1.out HZ2.out rfl (by decide) u3 (n + (Cu.cutTo a b k).length) (xs ++ flat (Cu.cutTo a b k)) rfl (J4.out.own.alloc _) ⟨w4.heap.size, 0, none⟩ 1 1 (tc (Cu.partL a b k)).toList rfl rfl (new_cells _ _ _ _ rfl) ?c2 ?c3 ?c4 ?c5 ?_))
          case c2 => rw [tc_list]; simp [Value.oneCell']
          case c3 => unfold maxLen; omega
          case c4 => omega
          case c5 => have := J4.out.size; simp; omega
          intro v' w5 hown5 hgrow5 _ hat5
          have J5 : Hid _ := (J4.out.below ((Below.refl _ _).alloc (Nat.le_refl _) _)).append hown5 hgrow5 (by simpa using hat5)
          clear hown5 hgrow5 hat5 t0 t1 t2 t3 hP g4
          go_wp2_with fail
          refine (fix_any (Cu.fixAt (Cu.mix a b k)) (Cu.oneAt (Cu.mix a b k)) k w.heap.size (Cu.oneAt b k) w5 h128 J5.out.t).mono ?_
          rintro e w6 ⟨rfl, hT, g6⟩
          rw [← Cu.fix_next HS.out HL.out HK.out HC.out, ← Cu.one_next HS.out HL.out HK.out HC.out] at hT
          have J6 : Hid _ := J5.out.fixT g6 hT
          clear hT g6
          go_wp2
          go_roundw
          case rel =>
            refine ⟨k + 1, by omega, by go_num, ?_⟩
            rw [Cu.cutTo, HC.out, if_pos rfl, flat_append, flat_one, List.length_append, List.length_singleton, ← Nat.add_assoc]
            exact J6.out
          case measure => simp [intOf]; omega
      · have hf : Cu.fixAt (Cu.mix a b k) k = true := HF.out.trans hfa
        have HC : Hid (Cu.cond a b k = false) := by show _ = _; simp [Cu.cond, hfa]
        clear hfa
        go_wp2_with fail
        refine (has_any (Cu.fixAt (Cu.mix a b k)) k _ h128).mono ?_
        rintro e w1 ⟨rfl, hb1⟩
        have J1 : Hid _ := J0.out.below hb1
        clear t0 t1 t2 t3
        go_wp2
        go_roundw
        case rel =>
          refine ⟨k + 1, by omega, by go_num, ?_⟩
          rw [Cu.mix_same HS.out HSB.out HL.out HK.out HC.out, Cu.cutTo, HC.out, if_neg (by simp), List.append_nil]
          exact J1.out
        case measure => simp [intOf]; omega
    · have hkw : k = width := by omega
      subst hkw
      go_wp2
      go_ret
      refine ⟨u3, rfl, J0.out.own, J0.out.grown, ?_⟩
      rcases J0.out.place with e | ⟨g, e, hg⟩
      · exact Or.inl e
      · exact Or.inr ⟨g, e, by omega⟩
end Go.Proofs.Ytenlmigdlibgeaa
