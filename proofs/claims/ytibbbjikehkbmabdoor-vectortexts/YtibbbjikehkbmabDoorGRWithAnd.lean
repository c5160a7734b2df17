/-
  Read: the program's.
  The document's Read, walked.
  The document's Read.
  With: the document's.
-/
import Derived.Test.YtibbbjikehkbmabDoorGGathAnd
import Derived.Test.YtibbbjikehkbmabDoorGInsCAnd
import Derived.Test.YtibbbjikehkbmabDoorGTxtAnd
import Derived.Test.YtibbbjikehkbmabDoorGPuAnd
import Derived.Test.YtibbbjikehkbmabDoorGCutAnd
import Derived.Test.YtibbbjikehkbmabDoorGBelAnd
namespace Go.Proofs.YtibbbjikehkbmabDoor.Ve
open Go.RowKit

/-- All of a vector behind a new row without stamps. -/
theorem copy_new {w : World} {a : Option Addr} {n c : Nat} {l : List St} (h : VecV w (.slice a n c) l) (hl : l.length * 16 ≤ 140737488355328) :
    ∃ a' c' w', (appC #[23, 23] 23 #[.slice (some ⟨w.heap.size, 0, none⟩) 0 0, .slice a n c]).run Tryd.prog (w.alloc (.cells #[] 33)) = .ok (.slice a' n c') w' ∧ Hid (OwnS w' w.heap.size (.slice a' n c') l ∧ Below w.heap.size w w') := by
  have h' := h.below (below_al w (.cells #[] 33))
  obtain ⟨ao, c0, e, hc, hn, hr⟩ := h'
  injection e with e1 e2 e3
  subst e1 e2 e3
  obtain ⟨i0, hi, hz0, hz1, hz2⟩ := info_parts info_stamp
  have ho0 : (w.alloc (.cells #[] 33)).ownsRow w.heap.size 33 2 (.slice (some ⟨w.heap.size, 0, none⟩) 0 0) 0 [] :=
    ⟨rfl, Or.inr ⟨w.heap.size, 0, #[], rfl, Nat.le_refl _, new_0 _ _, Nat.le_refl _, Nat.zero_le _, rfl, rfl⟩⟩
  by_cases h0 : l = []
  · subst h0
    refine ⟨some ⟨w.heap.size, 0, none⟩, 0, w.alloc (.cells #[] 33), ?_, ho0, below_al _ _⟩
    have hs : Src Tryd.prog i0.size 23 (.slice a 0 c) 0 [] (w.alloc (.cells #[] 33)) := by
      refine ⟨Or.inl ⟨_, Tryd.underlying23⟩, fun w' => ?_, ?_, ?_, by simp, fun u hu => by cases hu⟩
      · simp [Builtin.lenOf]
      · cases a <;> simp [Builtin.firstCells, loadCells, loadCellsFrom, go_sem]
      · cases a <;> simp [Builtin.firstCells, loadCells, loadCellsFrom, go_sem]
    exact run_append_nothing (P := Tryd.prog) _ 23 23 23 33 i0 Tryd.underlying23 hi _ 0 0 (Nat.le_refl _) (.slice a 0 c) hs
  · obtain ⟨g, o, rfl, hg, hcell⟩ := hr.resolve_left h0
    obtain ⟨v', w2, hrun, hown, hgr, _, _⟩ := run_append_own_at (P := Tryd.prog) (w := w.alloc (.cells #[] 33)) w.heap.size 23 23 33 i0 (.agg #[.int .i64 0, .int .u64 0]) 2 16 Tryd.underlying23 hi hz0 hz1 hz2 rfl (by decide) (.slice (some ⟨w.heap.size, 0, none⟩) 0 0) 0 [] ho0 ⟨g, o, none⟩ l.length c (flatS l) (flatS_len l) (row_cells hr) (flatS_one l) (by unfold maxLen; omega) (by omega) (below_al w (.cells #[] 33)).size
    have ho : OwnS w2 w.heap.size v' l := by
      unfold OwnS
      rw [Nat.zero_add, List.nil_append] at hown
      exact hown
    obtain ⟨a', c', e'⟩ := ho.form
    subst e'
    exact ⟨a', c', w2, hrun, ho, (below_al w (.cells #[] 33)).grown hgr (below_al w (.cells #[] 33)).size (fun q hq => by cases hq; exact Nat.le_refl _)⟩
attribute [local go_sem ↓] appC_fold
set_option maxRecDepth 20000 in
set_option maxHeartbeats 8000000 in
theorem RWith_any {w : World} {v u : Value} {a l : List St} (ha : VecV w v a) (hl : VecV w u l) (la : a.length ≤ maxLen) (ll : l.length ≤ maxLen) :
    Calls Tryd.prog 9 #[v, u] w fun e w' => ∃ v', e = .returned (.tuple #[v', .int .i64 (withP a l).2]) ∧ OwnS w' w.heap.size v' (withP a l).1 ∧ Below w.heap.size w w' := by
  have HA := hid ha
  have HC := hid (RCheck_any (vecs_one (t := 23) (n := w.heap.size) rfl ha) (by simp [maxLen]) (fun x hx => by simp at hx; subst hx; exact la))
  obtain ⟨ao, ca, rfl, -, -, -⟩ := ha
  obtain ⟨lo, cl, rfl, -, -, hrow⟩ := hl
  obtain ⟨n, hn⟩ : ∃ n, n = l.length := ⟨_, rfl⟩
  obtain ⟨m, hm⟩ : ∃ m, m = a.length := ⟨_, rfl⟩
  rw [← hn] at ll ⊢
  rw [← hm] at HA HC ⊢
  have HN := hid hn
  have HM := hid hm
  have HROW := hid hrow
  unfold maxLen at ll
  clear hn hm hrow la
  by_cases hr : Right a
  · rw [chk_one, if_pos hr] at HC
    have HR := hid hr
    clear hr
    go_enter Tryd.func9, Tryd.ntmps9
    go_wp2_with fail
    refine HC.out.mono ?_
    rintro e w1 ⟨rfl, hd⟩
    have HB1 := hid (below_tr (below_al _ _) (drew_below hd))
    clear hd
    go_wp2_with fail
    go_loopw [7] (fun vc wr => ∃ k : Nat, k ≤ n ∧ vc = .int .i64 k ∧ Hid (Below w.heap.size w wr) ∧ Hid (devs (l.take k))) (fun vc _ => n - (intOf vc).toNat)
    case atStart => exact ⟨0, Nat.zero_le _, rfl, HB1.out, fun s hs => by simp at hs⟩
    case round =>
      obtain ⟨k, hk, rfl, HB, HDV⟩ := hrel
      by_cases hlt : k < n
      · obtain ⟨s, hs⟩ : ∃ s, l[k]? = some s := ⟨_, List.getElem?_eq_getElem (by have := HN.out; omega)⟩
        obtain ⟨g, o, rfl, hg, hc⟩ := (HROW.out.below HB.out).resolve_left (fun e => by rw [e] at hs; simp at hs)
        obtain ⟨c0, c1⟩ := hc k s hs
        have kI : (k : Int) < (n : Int) := by omega
        have k0 : (0 : Int) ≤ (k : Int) := by omega
        have HS := hid hs
        have HIS := hid (RDevice_any s.1)
        obtain ⟨d, u⟩ := s
        simp only at c0 c1 HIS
        clear hs hc hlt
        rcases bool_two (devB d) with hd | hd
        · rw [hd] at HIS
          have HE := hid (show withP a l = ([], 5) by
            unfold withP
            rw [if_pos HR.out, if_neg (fun q => devB_not.1 hd (q _ (List.mem_of_getElem? HS.out)))])
          clear hd
          go_wp2_with fail
          refine (HIS.out _).mono ?_
          rintro e w' ⟨rfl, e'⟩
          subst e'
          go_wp2
          go_ret2
          exact ⟨.slice none 0 0, by rw [HE.out]; rfl, by rw [HE.out]; exact World.ownsRow_nil _ _ _ _, HB.out⟩
        · rw [hd] at HIS
          have HDV2 := hid (devs_next HS.out HDV.out (devB_iff.1 hd))
          clear hd
          go_wp2_with fail
          refine (HIS.out _).mono ?_
          rintro e w' ⟨rfl, e'⟩
          subst e'
          go_wp2
          go_roundw
          case rel => exact ⟨k + 1, by omega, by go_num, HB.out, HDV2⟩
          case measure => simp [intOf]; omega
      · have hkn : k = n := by omega
        have kI : ¬ (k : Int) < (n : Int) := by omega
        have HDL := hid (show devs l by have := HDV.out; rw [hkn, HN.out, List.take_length] at this; exact this)
        have HE := hid (show withP a l = (putL a l, 0) by unfold withP; rw [if_pos HR.out, if_pos HDL.out])
        clear hkn
        go_wp2_with fail
        go_loopw [0, 8] (fun vt vc wr => ∃ (k : Nat) (b : Option Addr) (j cc : Nat), k ≤ n ∧ vc = .int .i64 k ∧ vt = .slice b j cc ∧ Hid (j = (putL a (l.take k)).length ∧ True) ∧ Hid (Below w.heap.size w wr ∧ VecV wr (.slice b j cc) (putL a (l.take k)))) (fun _ vc _ => n - (intOf vc).toNat)
        case atStart => exact ⟨0, ao, m, ca, Nat.zero_le _, rfl, rfl, ⟨by rw [List.take_zero]; exact HM.out, trivial⟩, HB.out, by rw [List.take_zero]; exact HA.out.below HB.out⟩
        case round =>
          obtain ⟨k, b, j, cc, hk, rfl, rfl, HJ, HBO⟩ := hrel
          by_cases hlt : k < n
          · obtain ⟨s, hs⟩ : ∃ s, l[k]? = some s := ⟨_, List.getElem?_eq_getElem (by have := HN.out; omega)⟩
            obtain ⟨g, o, rfl, hg, hc⟩ := (HROW.out.below HBO.out.1).resolve_left (fun e => by rw [e] at hs; simp at hs)
            obtain ⟨c0, c1⟩ := hc k s hs
            have kI : (k : Int) < (n : Int) := by omega
            have k0 : (0 : Int) ≤ (k : Int) := by omega
            have hrt := putL_right HR.out (devs_take HDL.out k)
            have HNX := hid (show putL a (l.take (k + 1)) = putV (putL a (l.take k)) s by rw [take_snocS hs, putL_snoc])
            have HPT := hid (RPut_any HBO.out.2 hrt s)
            obtain ⟨d, u⟩ := s
            simp only at c0 c1 HPT
            clear hs hc hlt hrt
            go_wp2_with fail
            refine HPT.out.mono ?_
            rintro e w3 ⟨v3, rfl, hv3, hb3⟩
            have HV3 := hid hv3
            obtain ⟨a3, c3, e3, -⟩ := hv3
            subst e3
            have HB3 := hid (HBO.out.1.trans (hb3.mono HBO.out.1.size))
            obtain ⟨m3, hm3⟩ : ∃ m3, m3 = (putV (putL a (l.take k)) (d, u)).length := ⟨_, rfl⟩
            rw [← hm3] at HV3 ⊢
            have HM3 := hid hm3
            clear hb3 hm3
            go_wp2
            go_roundw
            case rel => exact ⟨k + 1, a3, m3, c3, by omega, by go_num, rfl, ⟨by rw [HNX.out]; exact HM3.out, trivial⟩, HB3.out, by rw [HNX.out]; exact HV3.out⟩
            case measure => simp [intOf]; omega
          · have hkn : k = n := by omega
            have kI : ¬ (k : Int) < (n : Int) := by omega
            have hE2 : putL a (l.take k) = putL a l := by rw [hkn, HN.out, List.take_length]
            rw [hE2] at HJ HBO
            have hlen := right_len (putL_right HR.out HDL.out)
            have hv := HBO.out.2
            obtain ⟨a', c', w', hrun, H⟩ := copy_new (w := wr) (a := b) (n := j) (c := cc) hv (by omega)
            clear hkn hlen hv hE2
            go_wp2
            go_ret2
            exact ⟨_, by rw [HE.out]; rfl, by rw [HE.out]; exact own_mono H.out.1 HBO.out.1.size, below_tr HBO.out.1 H.out.2⟩
  · rw [chk_one, if_neg hr] at HC
    have HE := hid (show withP a l = ([], 160) by unfold withP; rw [if_neg hr])
    clear hr
    go_enter Tryd.func9, Tryd.ntmps9
    go_wp2_with fail
    refine HC.out.mono ?_
    rintro e w1 ⟨rfl, hd⟩
    have HB1 := hid (below_tr (below_al _ _) (drew_below hd))
    clear hd
    go_wp2
    go_ret2
    exact ⟨.slice none 0 0, by rw [HE.out]; rfl, by rw [HE.out]; exact World.ownsRow_nil _ _ _ _, HB1.out⟩
end Go.Proofs.YtibbbjikehkbmabDoor.Ve
namespace Go.Proofs.YtibbbjikehkbmabDoor.Ve
open Go.RowKit

/-- A stamp more in a row of one's own. -/
theorem app_one {W : World} {B m c g : Nat} {a : Option Addr} {acc : List St} (x : St) (hg : g = W.heap.size) (ho : OwnS W B (.slice a m c) acc) (hm : m = acc.length) (h256 : m ≤ 256) (hB : B ≤ W.heap.size) :
    ∃ a' c' w2, (appC #[23, 23] 23 #[.slice a m c, .slice (some ⟨g, 0, none⟩) 1 1]).run Tryd.prog (W.alloc (.cells #[.int .i64 x.1, .int .u64 (x.2 : Int)] 33)) = .ok (.slice a' (m + 1) c') w2 ∧ Hid (OwnS w2 B (.slice a' (m + 1) c') (acc ++ [x])) ∧ Hid (∀ w : World, w.heap.size ≤ B → Below w.heap.size w W → Below w.heap.size w w2) := by
  subst hg
  obtain ⟨i0, hi, hz0, hz1, hz2⟩ := info_parts info_stamp
  have ho' : (W.alloc (.cells #[.int .i64 x.1, .int .u64 (x.2 : Int)] 33)).ownsRow B 33 2 (.slice a m c) m (flatS acc) := by
    have := ho.on (below_al W (.cells #[.int .i64 x.1, .int .u64 (x.2 : Int)] 33))
    unfold OwnS at this
    rw [← hm] at this
    exact this
  obtain ⟨v', w2, hrun, hown, hgr, _, _⟩ := run_append_own_at (P := Tryd.prog) (w := W.alloc (.cells #[.int .i64 x.1, .int .u64 (x.2 : Int)] 33)) B 23 23 33 i0 (.agg #[.int .i64 0, .int .u64 0]) 2 16 Tryd.underlying23 hi hz0 hz1 hz2 rfl (by decide) (.slice a m c) m (flatS acc) ho' ⟨W.heap.size, 0, none⟩ 1 1 [.int .i64 x.1, .int .u64 (x.2 : Int)] rfl (World.news_of_block (new_0 _ _)) (by simp [Value.oneCell']) (by unfold maxLen; omega) (by omega) (by simp; omega)
  have hl : (acc ++ [x]).length = m + 1 := by rw [List.length_append, hm]; rfl
  have hown2 : OwnS w2 B v' (acc ++ [x]) := by
    unfold OwnS
    rw [hl, flatS_append]
    exact hown
  obtain ⟨a', c', e'⟩ := hown2.form
  rw [hl] at e'
  subst e'
  exact ⟨a', c', w2, hrun, hown2, fun w hw hb => (hb.alloc hb.size _).grown hgr (by have := hb.size; simp; omega) (fun q hq => by have := (World.ownsRow.lt ho' q hq).1; omega)⟩
/-- Where the reading stands. -/
def RdS (s : List UInt8) (k f : Nat) (acc : List St) : Prop := Right acc ∧ ((k ≤ s.length ∧ f ≤ k ∧ (∀ b ∈ (s.drop f).take (k - f), b ≠ 32) ∧ readP s = goR acc f (spl (s.drop f))) ∨ (k = s.length + 1 ∧ readP s = (acc, 0, 0)))
theorem rd_start {s : List UInt8} (h : s ≠ [45]) : RdS s 0 0 [] := ⟨right_nil, Or.inl ⟨Nat.zero_le _, Nat.le_refl _, fun b hb => by simp at hb, by unfold readP; rw [if_neg h, List.drop_zero]⟩⟩
theorem rd_more {s : List UInt8} {k f : Nat} {acc : List St} {c : UInt8} (h : RdS s k f acc) (hc : s[k]? = some c) (h32 : c ≠ 32) : RdS s (k + 1) f acc := by
  have hlt := (List.getElem?_eq_some_iff.1 hc).1
  obtain ⟨hr, ⟨h1, h2, h3, h4⟩ | ⟨h1, _⟩⟩ := h
  · refine ⟨hr, Or.inl ⟨by omega, by omega, fun b hb => ?_, h4⟩⟩
    rw [show k + 1 - f = (k - f) + 1 by omega, List.take_succ_eq_append_getElem (by rw [List.length_drop]; omega)] at hb
    rcases List.mem_append.1 hb with hb | hb
    · exact h3 b hb
    · rw [List.mem_singleton, List.getElem_drop] at hb
      have e : s[f + (k - f)]'(by omega) = c := by
        have h5 := (List.getElem?_eq_some_iff.1 hc).2
        simp only [show f + (k - f) = k by omega]
        exact h5
      rw [hb, e]
      exact h32
  · omega
theorem rd_cut {s : List UInt8} {k f : Nat} {acc : List St} (h : RdS s k f acc) (hk : k ≤ s.length) (hc : k = s.length ∨ s[k]? = some 32) : f ≤ k ∧ readP s = goR acc f (((s.drop f).take (k - f)) :: (if k = s.length then [] else spl (s.drop (k + 1)))) := by
  obtain ⟨hr, ⟨h1, h2, h3, h4⟩ | ⟨h1, _⟩⟩ := h
  · refine ⟨h2, ?_⟩
    rw [h4]
    congr 1
    by_cases e : k = s.length
    · rw [if_pos e]
      have : (s.drop f).take (k - f) = s.drop f := List.take_of_length_le (by rw [List.length_drop]; omega)
      rw [this] at h3 ⊢
      exact spl_one h3
    · rw [if_neg e]
      have hc := hc.resolve_left e
      have hlt := (List.getElem?_eq_some_iff.1 hc).1
      have e2 : s.drop f = (s.drop f).take (k - f) ++ 32 :: s.drop (k + 1) := by
        conv => lhs; rw [← List.take_append_drop (k - f) (s.drop f)]
        congr 1
        rw [List.drop_drop, show f + (k - f) = k by omega, List.drop_eq_getElem_cons hlt, (List.getElem?_eq_some_iff.1 hc).2]
      conv => lhs; rw [e2]
      exact spl_cut h3
  · omega
theorem rd_bad {s : List UInt8} {k f : Nat} {acc : List St} (h : RdS s k f acc) (hk : k ≤ s.length) (hc : k = s.length ∨ s[k]? = some 32) (hb : partO ((s.drop f).take (k - f)) = none ∨ ∃ x, partO ((s.drop f).take (k - f)) = some x ∧ noRise acc x = true) : readP s = ([], f, 21) := by
  rw [(rd_cut h hk hc).2, goR]
  rcases hb with hb | ⟨x, hb, hn⟩
  · rw [hb]
  · rw [hb]
    simp only
    rw [if_pos hn]
theorem rd_part {s : List UInt8} {x : St} (h : partO s = some x) : isP s x := by
  unfold partO at h
  split at h
  · rename_i hx
    simp only [Option.some.injEq] at h
    rw [← h]
    exact hx.choose_spec
  · cases h
theorem rise_right {acc : List St} {x : St} (h : Right acc) (hx : 0 ≤ x.1 ∧ x.1 < 256) (hn : noRise acc x = false) : Right (acc ++ [x]) := by
  refine right_snoc.2 ⟨h, hx, fun t ht => ?_⟩
  have hl : ∃ y, acc.getLast? = some y := by
    cases e2 : acc.getLast? with
    | some y => exact ⟨y, rfl⟩
    | none => rw [List.getLast?_eq_none_iff] at e2; rw [e2] at ht; cases ht
  obtain ⟨y, hy⟩ := hl
  unfold noRise at hn
  rw [hy] at hn
  simp only [decide_eq_false_iff_not] at hn
  obtain ⟨k, hk⟩ : ∃ k, acc[k]? = some t := List.getElem?_of_mem ht
  have hkl := (List.getElem?_eq_some_iff.1 hk).1
  rw [List.getLast?_eq_getElem?] at hy
  by_cases hkk : k = acc.length - 1
  · rw [hkk, hy] at hk; cases hk; omega
  · have := right_lt h hk hy (by omega)
    omega
theorem rd_next {s : List UInt8} {k f : Nat} {acc : List St} {x : St} (h : RdS s k f acc) (hk : k ≤ s.length) (hc : k = s.length ∨ s[k]? = some 32) (hp : partO ((s.drop f).take (k - f)) = some x) (hn : noRise acc x = false) : RdS s (k + 1) (k + 1) (acc ++ [x]) := by
  obtain ⟨hf, he⟩ := rd_cut h hk hc
  rw [goR, hp] at he
  simp only [hn] at he
  have hl : f + ((s.drop f).take (k - f)).length + 1 = k + 1 := by rw [List.length_take, List.length_drop]; omega
  rw [hl] at he
  refine ⟨rise_right h.1 (rd_part hp).1 hn, ?_⟩
  by_cases e : k = s.length
  · rw [if_pos e, goR] at he
    exact Or.inr ⟨by omega, he⟩
  · rw [if_neg e] at he
    exact Or.inl ⟨by omega, Nat.le_refl _, fun b hb => by simp at hb, he⟩
theorem rd_end {s : List UInt8} {k f : Nat} {acc : List St} (h : RdS s k f acc) (hk : ¬ k ≤ s.length) : readP s = (acc, 0, 0) := by
  obtain ⟨_, ⟨h1, _⟩ | ⟨_, h2⟩⟩ := h
  · exact absurd h1 hk
  · exact h2
end Go.Proofs.YtibbbjikehkbmabDoor.Ve
namespace Go.Proofs.YtibbbjikehkbmabDoor.Ve
open Go.RowKit

theorem seg_bytes (s : ByteArray) (f k : Nat) : (s.extract f k).data.toList = (s.data.toList.drop f).take (k - f) := by rw [Lib.extract_eq]
theorem last_at {acc : List St} {q : Nat} (h : acc.length = q + 1) : ∃ y, acc[q]? = some y ∧ acc.getLast? = some y := by
  refine ⟨acc[q]'(by omega), List.getElem?_eq_getElem _, ?_⟩
  rw [List.getLast?_eq_getElem?, show acc.length - 1 = q by omega]
  exact List.getElem?_eq_getElem _
theorem rise_last {acc : List St} {x y : St} (h : acc.getLast? = some y) : noRise acc x = decide (x.1 ≤ y.1) := by
  unfold noRise
  rw [h]
theorem vec_row {w : World} {a : Option Addr} {n c : Nat} {l : List St} (h : VecV w (.slice a n c) l) : RowIn w a l := by
  obtain ⟨ao, c0, e, _, _, hr⟩ := h
  injection e with e _ _
  subst e
  exact hr
theorem rise_none (x : St) : noRise [] x = false := rfl
attribute [local go_sem ↓] appC_fold
set_option maxRecDepth 20000 in
set_option maxHeartbeats 2000000 in
theorem RRead_any (s : ByteArray) (hs : s.size ≤ 281474976710656) {w : World} (hw : Tabs w) :
    Calls Tryd.prog 15 #[.string s] w fun e w' => ∃ v', e = .returned (.tuple #[v', .int .i64 ((readP s.data.toList).2.1 : Nat), .int .i64 (readP s.data.toList).2.2]) ∧ OwnS w' w.heap.size v' (readP s.data.toList).1 ∧ Below w.heap.size w w' := by
  have HT := hid (fun W (hb : Below w.heap.size w W) => hw.below hb)
  have HS := hid hs
  clear hw
  by_cases h45 : s.data.toList = [45]
  · have hb : (s.toList == [45]) = true := by rw [Lib.toList_data, h45]; rfl
    have HE := hid (show readP s.data.toList = ([], 0, 0) by unfold readP; rw [if_pos h45])
    clear h45
    go_enter Tryd.func15, Tryd.ntmps15
    go_wp2_with fail
    refine bodyPost_ret (results_tmp3 (fn := Tryd.f15) rfl _ _ _) rfl ?_
    exact ⟨.slice none 0 0, by rw [HE.out]; rfl, by rw [HE.out]; exact World.ownsRow_nil _ _ _ _, Below.refl _ _⟩
  · have hb : (s.toList == [45]) = false := by rw [Lib.toList_data]; exact beq_eq_false_iff_ne.2 h45
    have HR0 := hid (rd_start h45)
    have HN := hid (bytes_len s)
    clear h45
    go_enter Tryd.func15, Tryd.ntmps15
    go_wp2_with fail
    go_loopw [5, 6, 7, 8, 9] (fun vo vf vi _ _ wr => ∃ (k f m : Nat) (b : Option Addr) (cc : Nat) (acc : List St), k ≤ s.size + 1 ∧ vi = .int .i64 k ∧ vf = .int .i64 f ∧ vo = .slice b m cc ∧ Hid (m = acc.length ∧ RdS s.data.toList k f acc) ∧ Hid (Below w.heap.size w wr ∧ OwnS wr w.heap.size (.slice b m cc) acc)) (fun _ _ vi _ _ _ => s.size + 1 - (intOf vi).toNat)
    case atStart => exact ⟨0, 0, 0, none, 0, [], Nat.zero_le _, rfl, rfl, rfl, ⟨rfl, HR0.out⟩, Below.refl _ _, World.ownsRow_nil _ _ _ _⟩
    case round =>
      obtain ⟨k, f, m, b, cc, acc, hk, rfl, rfl, rfl, HM, HO⟩ := hrel
      have k0 : (0 : Int) ≤ (k : Int) := by omega
      by_cases hkn : k ≤ s.size
      · have kI : (k : Int) ≤ (s.size : Int) := by omega
        by_cases hsp : ∃ h : k < s.size, s[k]'h ≠ 32
        · obtain ⟨hlt, h32⟩ := hsp
          have kJ : (k : Int) < (s.size : Int) := by omega
          have hcI : ¬ ((s[k]'hlt).toNat : Int) = 32 := by
            intro e
            have h2 : (s[k]'hlt).toNat = 32 := by omega
            exact h32 (UInt8.toNat_inj.1 h2)
          have hcB : (((s[k]'hlt).toNat : Int) == 32) = false := by rw [beq_eq_false_iff_ne]; exact hcI
          have hcN : (((s[k]'hlt).toNat : Int) != 32) = true := by rw [bne_iff_ne]; exact hcI
          have HX := hid (rd_more HM.out.2 (List.getElem?_eq_getElem (by rw [bytes_len]; exact hlt)) (show s.data.toList[k]'(by rw [bytes_len]; exact hlt) ≠ 32 from h32))
          clear h32
          go_wp2_with fail
          go_roundw
          case rel => exact ⟨k + 1, f, m, b, cc, acc, by omega, by go_num, rfl, rfl, ⟨HM.out.1, HX.out⟩, HO⟩
          case measure => simp [intOf]; omega
        · have hcut : k = s.data.toList.length ∨ s.data.toList[k]? = some 32 := by
            by_cases hlt : k < s.size
            · refine Or.inr ?_
              by_cases h32 : s[k]'hlt = 32
              · rw [List.getElem?_eq_getElem (by rw [bytes_len]; exact hlt)]
                exact congrArg some h32
              · exact absurd ⟨hlt, h32⟩ hsp
            · exact Or.inl (by rw [bytes_len]; omega)
          have hkl : k ≤ s.data.toList.length := by rw [bytes_len]; exact hkn
          have hfk := (rd_cut HM.out.2 hkl hcut).1
          have f0 : (0 : Int) ≤ (f : Int) := by omega
          have fI : (f : Int) ≤ (k : Int) := by omega
          have HP := hid (fun W (hb : Below w.heap.size w W) => Rpart_any (s.extract f k) (ext_le s _ _ _ HS.out) (HT.out W hb))
          have HBAD := hid (fun hb => rd_bad HM.out.2 hkl hcut hb)
          have HNEXT := hid (fun x hp hn => rd_next (x := x) HM.out.2 hkl hcut hp hn)
          rw [← seg_bytes] at HBAD HNEXT
          have h256 := right_len HM.out.2.1
          have hm256 : m ≤ 256 := by have := HM.out.1; omega
          have hgo : ¬ (k < s.size) ∨ ∃ h : k < s.size, s[k]'h = 32 := by
            by_cases hlt : k < s.size
            · exact Or.inr ⟨hlt, by
                by_cases h32 : s[k]'hlt = 32
                · exact h32
                · exact absurd ⟨hlt, h32⟩ hsp⟩
            · exact Or.inl hlt
          obtain ⟨pc, hpc⟩ : ∃ pc, pc = s.extract f k := ⟨_, rfl⟩
          rw [← hpc] at HP HBAD HNEXT
          clear hsp hcut hfk h256
          rcases hgo with hge | ⟨hlt, h32⟩
          · have kJ : ¬ (k : Int) < (s.size : Int) := by omega
            clear hge
            have HPC := hid hpc
            clear hpc
            go_wp2_with fail
            rw [← HPC.out]
            refine (HP.out _ HO.out.1).mono ?_
            rintro e w3 ⟨d, u, ok, rfl, HQ, hb3⟩
            have HB3 := hid (below_tr HO.out.1 hb3)
            have HO3 := hid (HO.out.2.on hb3)
            clear hb3
            rcases HQ.out with ⟨hok, hp⟩ | ⟨hok, hp⟩
            · subst hok
              rcases Nat.eq_zero_or_pos m with hm0 | hm0
              · have hacc : acc = [] := List.eq_nil_of_length_eq_zero (by rw [← HM.out.1]; exact hm0)
                have HNX := hid (HNEXT.out (d, u) hp (by rw [hacc]; rfl))
                subst hm0
                clear hp hacc
                go_wp2_with fail
                go_quiet (fail)
                have hw5 := HO3.out.on (below_drewN (below_al w3 (.cells #[.int .i64 d, .int .u64 (u : Int)] 33)) (n := nq))
                have HB4 := hid (below_drewN (HB3.out.alloc HB3.out.size (.cells #[.int .i64 d, .int .u64 (u : Int)] 33)) (n := nq))
                obtain ⟨a5, c5, w5, hrun, HO5, HB5⟩ := app_one (g := w3.heap.size + 1) (W := (w3.alloc (.cells #[.int .i64 d, .int .u64 (u : Int)] 33)).drewN nq) (d, u) (by simp) hw5 HM.out.1 (by omega) (by have := HB3.out.size; simp; omega)
                have HB6 := hid (HB5.out w (Nat.le_refl _) HB4.out)
                clear hw5 HB5 HB4
                go_wp2_with fail
                go_roundw
                case rel => exact ⟨k + 1, k + 1, 0 + 1, a5, c5, acc ++ [(d, u)], by omega, by go_num, by go_num, rfl, ⟨by rw [List.length_append, ← HM.out.1]; rfl, HNX.out⟩, HB6.out, HO5.out⟩
                case measure => simp [intOf]; omega
              · obtain ⟨q, hq⟩ : ∃ q, m = q + 1 := ⟨m - 1, by omega⟩
                obtain ⟨y, hy, hyl⟩ := last_at (acc := acc) (q := q) (by rw [← HM.out.1]; exact hq)
                obtain ⟨g, o, rfl, hg, hc⟩ := (vec_row HO3.out.vec).resolve_left (fun e => by rw [e] at hy; simp at hy)
                obtain ⟨y0, -⟩ := hc q y hy
                have hyl2 := rise_last (x := (d, u)) hyl
                have mI : (0 : Int) < (m : Int) := by omega
                have m1 : (m : Int) - 1 = (q : Int) := by omega
                have q0 : (0 : Int) ≤ (q : Int) := by omega
                have qI : (q : Int) < (m : Int) := by omega
                obtain ⟨e, eu⟩ := y
                simp only at y0 hyl2
                have y9 : (w3.alloc (.cells #[.int .i64 d, .int .u64 (u : Int)] 33)).cell? ⟨g, o + q * 2, none⟩ = some (.int .i64 e) := (below_al w3 _).cell (block_oldS y0) |>.trans y0
                by_cases hle : d ≤ e
                · have HE := hid (HBAD.out (Or.inr ⟨(d, u), hp, by rw [hyl2]; exact decide_eq_true hle⟩))
                  clear hp hy hyl hyl2 hc hq
                  go_wp2_with fail
                  go_quiet (fail)
                  go_wp2_with fail
                  refine bodyPost_ret (results_tmp3 (fn := Tryd.f15) rfl _ _ _) rfl ?_
                  exact ⟨.slice none 0 0, by rw [HE.out]; rfl, by rw [HE.out]; exact World.ownsRow_nil _ _ _ _, below_drewN (HB3.out.alloc HB3.out.size _)⟩
                · have HNX := hid (HNEXT.out (d, u) hp (by rw [hyl2]; exact decide_eq_false hle))
                  have hle2 : ¬ d ≤ e := hle
                  clear hp hy hyl hyl2 hc hle hq
                  go_wp2_with fail
                  go_quiet (fail)
                  have hw5 := HO3.out.on (below_drewN (below_al w3 (.cells #[.int .i64 d, .int .u64 (u : Int)] 33)) (n := nq))
                  have HB4 := hid (below_drewN (HB3.out.alloc HB3.out.size (.cells #[.int .i64 d, .int .u64 (u : Int)] 33)) (n := nq))
                  obtain ⟨a5, c5, w5, hrun, HO5, HB5⟩ := app_one (g := w3.heap.size + 1) (W := (w3.alloc (.cells #[.int .i64 d, .int .u64 (u : Int)] 33)).drewN nq) (d, u) (by simp) hw5 HM.out.1 (by omega) (by have := HB3.out.size; simp; omega)
                  have HB6 := hid (HB5.out w (Nat.le_refl _) HB4.out)
                  clear hw5 HB5 HB4
                  go_wp2_with fail
                  go_roundw
                  case rel => exact ⟨k + 1, k + 1, m + 1, a5, c5, acc ++ [(d, u)], by omega, by go_num, by go_num, rfl, ⟨by rw [List.length_append, ← HM.out.1]; rfl, HNX.out⟩, HB6.out, HO5.out⟩
                  case measure => simp [intOf]; omega
            · subst hok
              have HE := hid (HBAD.out (Or.inl hp))
              clear hp
              go_wp2_with fail
              go_quiet (fail)
              go_wp2_with fail
              refine bodyPost_ret (results_tmp3 (fn := Tryd.f15) rfl _ _ _) rfl ?_
              exact ⟨.slice none 0 0, by rw [HE.out]; rfl, by rw [HE.out]; exact World.ownsRow_nil _ _ _ _, below_drewN (HB3.out.alloc HB3.out.size _)⟩
          · have kJ : (k : Int) < (s.size : Int) := by omega
            have hcI : ((s[k]'hlt).toNat : Int) = 32 := by rw [h32]; rfl
            clear h32
            have HPC := hid hpc
            clear hpc
            go_wp2_with fail
            rw [← HPC.out]
            refine (HP.out _ HO.out.1).mono ?_
            rintro e w3 ⟨d, u, ok, rfl, HQ, hb3⟩
            have HB3 := hid (below_tr HO.out.1 hb3)
            have HO3 := hid (HO.out.2.on hb3)
            clear hb3
            rcases HQ.out with ⟨hok, hp⟩ | ⟨hok, hp⟩
            · subst hok
              rcases Nat.eq_zero_or_pos m with hm0 | hm0
              · have hacc : acc = [] := List.eq_nil_of_length_eq_zero (by rw [← HM.out.1]; exact hm0)
                have HNX := hid (HNEXT.out (d, u) hp (by rw [hacc]; rfl))
                subst hm0
                clear hp hacc
                go_wp2_with fail
                go_quiet (fail)
                have hw5 := HO3.out.on (below_drewN (below_al w3 (.cells #[.int .i64 d, .int .u64 (u : Int)] 33)) (n := nq))
                have HB4 := hid (below_drewN (HB3.out.alloc HB3.out.size (.cells #[.int .i64 d, .int .u64 (u : Int)] 33)) (n := nq))
                obtain ⟨a5, c5, w5, hrun, HO5, HB5⟩ := app_one (g := w3.heap.size + 1) (W := (w3.alloc (.cells #[.int .i64 d, .int .u64 (u : Int)] 33)).drewN nq) (d, u) (by simp) hw5 HM.out.1 (by omega) (by have := HB3.out.size; simp; omega)
                have HB6 := hid (HB5.out w (Nat.le_refl _) HB4.out)
                clear hw5 HB5 HB4
                go_wp2_with fail
                go_roundw
                case rel => exact ⟨k + 1, k + 1, 0 + 1, a5, c5, acc ++ [(d, u)], by omega, by go_num, by go_num, rfl, ⟨by rw [List.length_append, ← HM.out.1]; rfl, HNX.out⟩, HB6.out, HO5.out⟩
                case measure => simp [intOf]; omega
              · obtain ⟨q, hq⟩ : ∃ q, m = q + 1 := ⟨m - 1, by omega⟩
                obtain ⟨y, hy, hyl⟩ := last_at (acc := acc) (q := q) (by rw [← HM.out.1]; exact hq)
                obtain ⟨g, o, rfl, hg, hc⟩ := (vec_row HO3.out.vec).resolve_left (fun e => by rw [e] at hy; simp at hy)
                obtain ⟨y0, -⟩ := hc q y hy
                have hyl2 := rise_last (x := (d, u)) hyl
                have mI : (0 : Int) < (m : Int) := by omega
                have m1 : (m : Int) - 1 = (q : Int) := by omega
                have q0 : (0 : Int) ≤ (q : Int) := by omega
                have qI : (q : Int) < (m : Int) := by omega
                obtain ⟨e, eu⟩ := y
                simp only at y0 hyl2
                have y9 : (w3.alloc (.cells #[.int .i64 d, .int .u64 (u : Int)] 33)).cell? ⟨g, o + q * 2, none⟩ = some (.int .i64 e) := (below_al w3 _).cell (block_oldS y0) |>.trans y0
                by_cases hle : d ≤ e
                · have HE := hid (HBAD.out (Or.inr ⟨(d, u), hp, by rw [hyl2]; exact decide_eq_true hle⟩))
                  clear hp hy hyl hyl2 hc hq
                  go_wp2_with fail
                  go_quiet (fail)
                  go_wp2_with fail
                  refine bodyPost_ret (results_tmp3 (fn := Tryd.f15) rfl _ _ _) rfl ?_
                  exact ⟨.slice none 0 0, by rw [HE.out]; rfl, by rw [HE.out]; exact World.ownsRow_nil _ _ _ _, below_drewN (HB3.out.alloc HB3.out.size _)⟩
                · have HNX := hid (HNEXT.out (d, u) hp (by rw [hyl2]; exact decide_eq_false hle))
                  have hle2 : ¬ d ≤ e := hle
                  clear hp hy hyl hyl2 hc hle hq
                  go_wp2_with fail
                  go_quiet (fail)
                  have hw5 := HO3.out.on (below_drewN (below_al w3 (.cells #[.int .i64 d, .int .u64 (u : Int)] 33)) (n := nq))
                  have HB4 := hid (below_drewN (HB3.out.alloc HB3.out.size (.cells #[.int .i64 d, .int .u64 (u : Int)] 33)) (n := nq))
                  obtain ⟨a5, c5, w5, hrun, HO5, HB5⟩ := app_one (g := w3.heap.size + 1) (W := (w3.alloc (.cells #[.int .i64 d, .int .u64 (u : Int)] 33)).drewN nq) (d, u) (by simp) hw5 HM.out.1 (by omega) (by have := HB3.out.size; simp; omega)
                  have HB6 := hid (HB5.out w (Nat.le_refl _) HB4.out)
                  clear hw5 HB5 HB4
                  go_wp2_with fail
                  go_roundw
                  case rel => exact ⟨k + 1, k + 1, m + 1, a5, c5, acc ++ [(d, u)], by omega, by go_num, by go_num, rfl, ⟨by rw [List.length_append, ← HM.out.1]; rfl, HNX.out⟩, HB6.out, HO5.out⟩
                  case measure => simp [intOf]; omega
            · subst hok
              have HE := hid (HBAD.out (Or.inl hp))
              clear hp
              go_wp2_with fail
              go_quiet (fail)
              go_wp2_with fail
              refine bodyPost_ret (results_tmp3 (fn := Tryd.f15) rfl _ _ _) rfl ?_
              exact ⟨.slice none 0 0, by rw [HE.out]; rfl, by rw [HE.out]; exact World.ownsRow_nil _ _ _ _, below_drewN (HB3.out.alloc HB3.out.size _)⟩
      · have kI : ¬ (k : Int) ≤ (s.size : Int) := by omega
        have HE := hid (rd_end HM.out.2 (by rw [bytes_len]; exact hkn))
        go_wp2_with fail
        refine bodyPost_ret (results_tmp3 (fn := Tryd.f15) rfl _ _ _) rfl ?_
        exact ⟨_, by rw [HE.out]; rfl, by rw [HE.out]; exact HO.out.2, HO.out.1⟩
end Go.Proofs.YtibbbjikehkbmabDoor.Ve
namespace Go.Proofs.YtibbbjikehkbmabDoor.Ve
open Go.RowKit Go.Shelf
attribute [local go_sem] Oper.semAt_some
attribute [local go_sem ↓] appV_fold

/-- What was read, and where the next part stands. -/
noncomputable def accR (pre : List (List UInt8)) : List St := pre.filterMap partO
def atR (pre : List (List UInt8)) : Nat := (pre.map fun p => p.length + 1).sum
theorem accR_snoc {pre : List (List UInt8)} {p : List UInt8} {x : St} (h : partO p = some x) : accR (pre ++ [p]) = accR pre ++ [x] := by
  unfold accR
  rw [List.filterMap_append]
  simp [h]
theorem atR_snoc (pre : List (List UInt8)) (p : List UInt8) : atR (pre ++ [p]) = atR pre + p.length + 1 := by
  unfold atR
  rw [List.map_append, List.sum_append]
  simp
  omega
/-- All was right so far. -/
def OkR (pre : List (List UInt8)) : Prop := Right (accR pre) ∧ ∀ rest, goR [] 0 (pre ++ rest) = goR (accR pre) (atR pre) rest
theorem ok_nil : OkR [] := ⟨right_nil, fun _ => rfl⟩
theorem ok_next {pre : List (List UInt8)} {p : List UInt8} {x : St} (h : OkR pre) (hp : partO p = some x) (hn : noRise (accR pre) x = false) : OkR (pre ++ [p]) := by
  refine ⟨by rw [accR_snoc hp]; exact rise_right h.1 (rd_part hp).1 hn, fun rest => ?_⟩
  rw [List.append_assoc, h.2, List.cons_append, List.nil_append, goR, hp, accR_snoc hp, atR_snoc]
  simp only [hn]
  rfl
theorem ok_bad {pre : List (List UInt8)} {p : List UInt8} (h : OkR pre) (hb : partO p = none ∨ ∃ x, partO p = some x ∧ noRise (accR pre) x = true) (rest : List (List UInt8)) : goR [] 0 (pre ++ [p] ++ rest) = ([], atR pre, 21) := by
  rw [List.append_assoc, h.2, List.cons_append, List.nil_append, goR]
  rcases hb with hb | ⟨x, hb, hn⟩
  · rw [hb]
  · rw [hb]
    simp only
    rw [if_pos hn]
theorem atR_le {pre : List (List UInt8)} {s : List UInt8} (h : pre <+: spl s) : atR pre ≤ s.length + 1 := by
  have key : ∀ s : List UInt8, atR (spl s) = s.length + 1 := by
    intro s
    induction s with
    | nil => rfl
    | cons c r ih =>
      unfold spl
      split
      · show atR ([] :: spl r) = _
        unfold atR at ih ⊢
        rw [List.map_cons, List.sum_cons, ih, List.length_cons]
        simp
        omega
      · split
        · rename_i e
          rw [e] at ih
          unfold atR at ih
          simp at ih
        · rename_i p ps e
          rw [e] at ih
          unfold atR at ih ⊢
          rw [List.map_cons, List.sum_cons] at ih ⊢
          rw [List.length_cons, List.length_cons]
          omega
  obtain ⟨t, ht⟩ := h
  have := key s
  rw [← ht] at this
  unfold atR at this ⊢
  rw [List.map_append, List.sum_append] at this
  omega
/-- The place, as the program adds it up. -/
def atW (pre : List Px) : Int := pre.foldl (fun a p => wrap64 (a + ((p.1.length : Int) + 1))) 0
theorem atW_snoc (pre : List Px) (p : Px) : atW (pre ++ [p]) = wrap64 (atW pre + ((p.1.length : Int) + 1)) := by
  unfold atW
  rw [List.foldl_append]
  rfl
theorem atW_at (s : List UInt8) (hs : s.length ≤ 281474976710656) : ∀ (n : Nat) (pre : List Px), pre.length = n → pxs pre <+: spl s → atW pre = (atR (pxs pre) : Int)
  | 0, pre, hl, _ => by
    rw [List.eq_nil_of_length_eq_zero hl]
    rfl
  | n + 1, pre, hl, h => by
    have hne : pre ≠ [] := fun e => by rw [e] at hl; cases hl
    obtain ⟨q, p, rfl⟩ : ∃ q p, pre = q ++ [p] := ⟨pre.dropLast, pre.getLast hne, (List.dropLast_concat_getLast hne).symm⟩
    rw [List.length_append] at hl
    rw [pxs_snoc] at h
    have h1 : pxs q <+: spl s := (List.prefix_append _ _).trans h
    have h2 := atR_le h
    rw [atR_snoc] at h2
    have h3 : atR (pxs q) + p.1.length < 900000000000000 := Nat.lt_of_le_of_lt (Nat.le_trans (Nat.le_of_succ_le_succ h2) hs) (by decide)
    rw [atW_snoc, atW_at s hs n q (by simpa using hl) h1, pxs_snoc, atR_snoc]
    have h4 := (wrap_two h3).2
    rw [Int.natCast_add] at h4
    rw [← Int.add_assoc, h4]
    simp
/-- The three boxes of the answer. -/
def Res (n : Nat) (v : Value) (f e : Int) (W : World) : Prop := Boxed W n 23 v ∧ Boxed W (n + 1) 3 (.int .i64 f) ∧ Boxed W (n + 1 + 1) 24 (.int .i64 e)
theorem res_own {α : Type} {B n : Nat} (v : Value) (f : List α → Int) (e : Int) : OwnFrom B (fun s W => Res n v (f s) e W) :=
  OwnFrom.and (Own.from (boxed_own n 23 (fun _ => v)) _) (OwnFrom.and (Own.from (boxed_own (n + 1) 3 (fun s => .int .i64 (f s))) _) (Own.from (boxed_own (n + 1 + 1) 24 (fun _ => .int .i64 e)) _))
theorem res_bears {α : Type} {own : Nat → Prop} {n : Nat} (v : Value) (f : List α → Int) (e : Int) (h : ¬ own n ∧ ¬ own (n + 1) ∧ ¬ own (n + 1 + 1)) : Bears own (fun s W => Res n v (f s) e W) :=
  Bears.and (bears_boxed (fun _ => v) h.1) (Bears.and (bears_boxed (fun s => .int .i64 (f s)) h.2.1) (bears_boxed (fun _ => .int .i64 e) h.2.2))
/-- The three are written. -/
theorem res_set {W : World} {n : Nat} {v v' : Value} {f f' e e' : Int} (h : Res n v f e W) : Res n v' f' e' (((W.setCell ⟨n, 0, none⟩ v').setCell ⟨n + 1, 0, none⟩ (.int .i64 f')).setCell ⟨n + 1 + 1, 0, none⟩ (.int .i64 e')) := by
  obtain ⟨h1, h2, h3⟩ := h
  refine ⟨((h1.set v').other (by omega) _).other (by omega) _, ((h2.other (by omega) _).set _).other (by omega) _, ((h3.other (by omega) _).other (by omega) _).set _⟩
end Go.Proofs.YtibbbjikehkbmabDoor.Ve
