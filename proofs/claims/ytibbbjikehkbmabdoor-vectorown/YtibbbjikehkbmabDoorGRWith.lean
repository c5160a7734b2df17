/-
  With: the document's.
-/
import Derived.Test.YtibbbjikehkbmabDoorGWith
import Derived.Test.YtibbbjikehkbmabDoorGRChk
import Derived.Test.YtibbbjikehkbmabDoorGCopy
namespace Go.Proofs.YtibbbjikehkbmabDoor.Ve
open Go.RowKit

/-- All of a vector behind a new row without stamps. -/
theorem copy_new {w : World} {a : Option Addr} {n c : Nat} {l : List St} (h : VecV w (.slice a n c) l) (hl : l.length * 16 ≤ 140737488355328) :
    ∃ a' c' w', (appC #[23, 23] 23 #[.slice (some ⟨w.heap.size, 0, none⟩) 0 0, .slice a n c]).run Tryd.prog (w.alloc (.cells #[] 33)) = .ok (.slice a' n c') w' ∧ Hid (OwnS w' w.heap.size (.slice a' n c') l ∧ Below w.heap.size w w') := by
  have h' := h.below (below_al w (.cells #[] 33))
  obtain ⟨ao, c0, e, hc, hn, hr⟩ := h'
  injection e with e1 e2 e3
  subst e1 e2 e3
  obtain ⟨i0, hi, hz0, hz1, hz2⟩ := info_parts info_stamp
  have ho0 : (w.alloc (.cells #[] 33)).ownsRow w.heap.size 33 2 (.slice (some ⟨w.heap.size, 0, none⟩) 0 0) 0 [] :=
    ⟨rfl, Or.inr ⟨w.heap.size, 0, #[], rfl, Nat.le_refl _, new_0 _ _, Nat.le_refl _, Nat.zero_le _, rfl, rfl⟩⟩
  by_cases h0 : l = []
  · subst h0
    refine ⟨some ⟨w.heap.size, 0, none⟩, 0, w.alloc (.cells #[] 33), ?_, ho0, below_al _ _⟩
    have hs : Src Tryd.prog i0.size 23 (.slice a 0 c) 0 [] (w.alloc (.cells #[] 33)) := by
      refine ⟨Or.inl ⟨_, Tryd.underlying23⟩, fun w' => ?_, ?_, ?_, by simp, fun u hu => by cases hu⟩
      · simp [Builtin.lenOf]
      · cases a <;> simp [Builtin.firstCells, loadCells, loadCellsFrom, go_sem]
      · cases a <;> simp [Builtin.firstCells, loadCells, loadCellsFrom, go_sem]
    exact run_append_nothing (P := Tryd.prog) _ 23 23 23 33 i0 Tryd.underlying23 hi _ 0 0 (Nat.le_refl _) (.slice a 0 c) hs
  · obtain ⟨g, o, rfl, hg, hcell⟩ := hr.resolve_left h0
    obtain ⟨v', w2, hrun, hown, hgr, _, _⟩ := run_append_own_at (P := Tryd.prog) (w := w.alloc (.cells #[] 33)) w.heap.size 23 23 33 i0 (.agg #[.int .i64 0, .int .u64 0]) 2 16 Tryd.underlying23 hi hz0 hz1 hz2 rfl (by decide) (.slice (some ⟨w.heap.size, 0, none⟩) 0 0) 0 [] ho0 ⟨g, o, none⟩ l.length c (flatS l) (flatS_len l) (row_cells hr) (flatS_one l) (by unfold maxLen; omega) (by omega) (below_al w (.cells #[] 33)).size
    have ho : OwnS w2 w.heap.size v' l := by
      unfold OwnS
      rw [Nat.zero_add, List.nil_append] at hown
      exact hown
    obtain ⟨a', c', e'⟩ := ho.form
    subst e'
    exact ⟨a', c', w2, hrun, ho, (below_al w (.cells #[] 33)).grown hgr (below_al w (.cells #[] 33)).size (fun q hq => by cases hq; exact Nat.le_refl _)⟩
attribute [local go_sem ↓] appC_fold
set_option maxRecDepth 20000 in
set_option maxHeartbeats 8000000 in
theorem RWith_any {w : World} {v u : Value} {a l : List St} (ha : VecV w v a) (hl : VecV w u l) (la : a.length ≤ maxLen) (ll : l.length ≤ maxLen) :
    Calls Tryd.prog 9 #[v, u] w fun e w' => ∃ v', e = .returned (.tuple #[v', .int .i64 (withP a l).2]) ∧ OwnS w' w.heap.size v' (withP a l).1 ∧ Below w.heap.size w w' := by
  have HA := hid ha
  have HC := hid (RCheck_any (vecs_one (t := 23) (n := w.heap.size) rfl ha) (by simp [maxLen]) (fun x hx => by simp at hx; subst hx; exact la))
  obtain ⟨ao, ca, rfl, -, -, -⟩ := ha
  obtain ⟨lo, cl, rfl, -, -, hrow⟩ := hl
  obtain ⟨n, hn⟩ : ∃ n, n = l.length := ⟨_, rfl⟩
  obtain ⟨m, hm⟩ : ∃ m, m = a.length := ⟨_, rfl⟩
  rw [← hn] at ll ⊢
  rw [← hm] at HA HC ⊢
  have HN := hid hn
  have HM := hid hm
  have HROW := hid hrow
  unfold maxLen at ll
  clear hn hm hrow la
  by_cases hr : Right a
  · rw [chk_one, if_pos hr] at HC
    have HR := hid hr
    clear hr
    go_enter Tryd.func9, Tryd.ntmps9
    go_wp2_with fail
    refine HC.out.mono ?_
    rintro e w1 ⟨rfl, hd⟩
    have HB1 := hid (below_tr (below_al _ _) (drew_below hd))
    clear hd
    go_wp2_with fail
    go_loopw [7] (fun vc wr => ∃ k : Nat, k ≤ n ∧ vc = .int .i64 k ∧ Hid (Below w.heap.size w wr) ∧ Hid (devs (l.take k))) (fun vc _ => n - (intOf vc).toNat)
    case atStart => exact ⟨0, Nat.zero_le _, rfl, HB1.out, fun s hs => by simp at hs⟩
    case round =>
      obtain ⟨k, hk, rfl, HB, HDV⟩ := hrel
      by_cases hlt : k < n
      · obtain ⟨s, hs⟩ : ∃ s, l[k]? = some s := ⟨_, List.getElem?_eq_getElem (by have := HN.out; omega)⟩
        obtain ⟨g, o, rfl, hg, hc⟩ := (HROW.out.below HB.out).resolve_left (fun e => by rw [e] at hs; simp at hs)
        obtain ⟨c0, c1⟩ := hc k s hs
        have kI : (k : Int) < (n : Int) := by omega
        have k0 : (0 : Int) ≤ (k : Int) := by omega
        have HS := hid hs
        have HIS := hid (RDevice_any s.1)
        obtain ⟨d, u⟩ := s
        simp only at c0 c1 HIS
        clear hs hc hlt
        rcases bool_two (devB d) with hd | hd
        · rw [hd] at HIS
          have HE := hid (show withP a l = ([], 5) by
            unfold withP
            rw [if_pos HR.out, if_neg (fun q => devB_not.1 hd (q _ (List.mem_of_getElem? HS.out)))])
          clear hd
          go_wp2_with fail
          refine (HIS.out _).mono ?_
          rintro e w' ⟨rfl, e'⟩
          subst e'
          go_wp2
          go_ret2
          exact ⟨.slice none 0 0, by rw [HE.out]; rfl, by rw [HE.out]; exact World.ownsRow_nil _ _ _ _, HB.out⟩
        · rw [hd] at HIS
          have HDV2 := hid (devs_next HS.out HDV.out (devB_iff.1 hd))
          clear hd
          go_wp2_with fail
          refine (HIS.out _).mono ?_
          rintro e w' ⟨rfl, e'⟩
          subst e'
          go_wp2
          go_roundw
          case rel => exact ⟨k + 1, by omega, by go_num, HB.out, HDV2⟩
          case measure => simp [intOf]; omega
      · have hkn : k = n := by omega
        have kI : ¬ (k : Int) < (n : Int) := by omega
        have HDL := hid (show devs l by have := HDV.out; rw [hkn, HN.out, List.take_length] at this; exact this)
        have HE := hid (show withP a l = (putL a l, 0) by unfold withP; rw [if_pos HR.out, if_pos HDL.out])
        clear hkn
        go_wp2_with fail
        go_loopw [0, 8] (fun vt vc wr => ∃ (k : Nat) (b : Option Addr) (j cc : Nat), k ≤ n ∧ vc = .int .i64 k ∧ vt = .slice b j cc ∧ Hid (j = (putL a (l.take k)).length ∧ True) ∧ Hid (Below w.heap.size w wr ∧ VecV wr (.slice b j cc) (putL a (l.take k)))) (fun _ vc _ => n - (intOf vc).toNat)
        case atStart => exact ⟨0, ao, m, ca, Nat.zero_le _, rfl, rfl, ⟨by rw [List.take_zero]; exact HM.out, trivial⟩, HB.out, by rw [List.take_zero]; exact HA.out.below HB.out⟩
        case round =>
          obtain ⟨k, b, j, cc, hk, rfl, rfl, HJ, HBO⟩ := hrel
          by_cases hlt : k < n
          · obtain ⟨s, hs⟩ : ∃ s, l[k]? = some s := ⟨_, List.getElem?_eq_getElem (by have := HN.out; omega)⟩
            obtain ⟨g, o, rfl, hg, hc⟩ := (HROW.out.below HBO.out.1).resolve_left (fun e => by rw [e] at hs; simp at hs)
            obtain ⟨c0, c1⟩ := hc k s hs
            have kI : (k : Int) < (n : Int) := by omega
            have k0 : (0 : Int) ≤ (k : Int) := by omega
            have hrt := putL_right HR.out (devs_take HDL.out k)
            have HNX := hid (show putL a (l.take (k + 1)) = putV (putL a (l.take k)) s by rw [take_snocS hs, putL_snoc])
            have HPT := hid (RPut_any HBO.out.2 hrt s)
            obtain ⟨d, u⟩ := s
            simp only at c0 c1 HPT
            clear hs hc hlt hrt
            go_wp2_with fail
            refine HPT.out.mono ?_
            rintro e w3 ⟨v3, rfl, hv3, hb3⟩
            have HV3 := hid hv3
            obtain ⟨a3, c3, e3, -⟩ := hv3
            subst e3
            have HB3 := hid (HBO.out.1.trans (hb3.mono HBO.out.1.size))
            obtain ⟨m3, hm3⟩ : ∃ m3, m3 = (putV (putL a (l.take k)) (d, u)).length := ⟨_, rfl⟩
            rw [← hm3] at HV3 ⊢
            have HM3 := hid hm3
            clear hb3 hm3
            go_wp2
            go_roundw
            case rel => exact ⟨k + 1, a3, m3, c3, by omega, by go_num, rfl, ⟨by rw [HNX.out]; exact HM3.out, trivial⟩, HB3.out, by rw [HNX.out]; exact HV3.out⟩
            case measure => simp [intOf]; omega
          · have hkn : k = n := by omega
            have kI : ¬ (k : Int) < (n : Int) := by omega
            have hE2 : putL a (l.take k) = putL a l := by rw [hkn, HN.out, List.take_length]
            rw [hE2] at HJ HBO
            have hlen := right_len (putL_right HR.out HDL.out)
            have hv := HBO.out.2
            obtain ⟨a', c', w', hrun, H⟩ := copy_new (w := wr) (a := b) (n := j) (c := cc) hv (by omega)
            clear hkn hlen hv hE2
            go_wp2
            go_ret2
            exact ⟨_, by rw [HE.out]; rfl, by rw [HE.out]; exact own_mono H.out.1 HBO.out.1.size, below_tr HBO.out.1 H.out.2⟩
  · rw [chk_one, if_neg hr] at HC
    have HE := hid (show withP a l = ([], 160) by unfold withP; rw [if_neg hr])
    clear hr
    go_enter Tryd.func9, Tryd.ntmps9
    go_wp2_with fail
    refine HC.out.mono ?_
    rintro e w1 ⟨rfl, hd⟩
    have HB1 := hid (below_tr (below_al _ _) (drew_below hd))
    clear hd
    go_wp2
    go_ret2
    exact ⟨.slice none 0 0, by rw [HE.out]; rfl, by rw [HE.out]; exact World.ownsRow_nil _ _ _ _, HB1.out⟩
end Go.Proofs.YtibbbjikehkbmabDoor.Ve
