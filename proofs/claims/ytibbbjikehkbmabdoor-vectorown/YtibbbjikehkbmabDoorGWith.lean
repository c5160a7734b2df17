/-
  With: the program's.
-/
import Derived.Test.YtibbbjikehkbmabDoorGIns
import Derived.Test.YtibbbjikehkbmabDoorGBel
namespace Go.Proofs.YtibbbjikehkbmabDoor.Ve
open Go.RowKit

/-- What With comes to. -/
def devs (l : List St) : Prop := ∀ s ∈ l, 0 ≤ s.1 ∧ s.1 < 256
instance (l : List St) : Decidable (devs l) := by unfold devs; infer_instance
def putL (v l : List St) : List St := l.foldl putV v
def withP (v l : List St) : List St × Int := if Right v then (if devs l then (putL v l, 0) else ([], 5)) else ([], 160)
theorem putL_right {v : List St} (hv : Right v) : ∀ {l : List St}, devs l → Right (putL v l) := by
  intro l
  induction l generalizing v with
  | nil => intro _; exact hv
  | cons s l ih =>
    intro h
    exact ih (putV_right hv (h s (by simp))) (fun t ht => h t (by simp [ht]))
theorem putL_snoc (v l : List St) (s : St) : putL v (l ++ [s]) = putV (putL v l) s := by
  unfold putL
  rw [List.foldl_append]
  rfl
theorem devs_take {l : List St} (h : devs l) (k : Nat) : devs (l.take k) := fun s hs => h s (List.mem_of_mem_take hs)
theorem devs_next {l : List St} {k : Nat} {s : St} (hs : l[k]? = some s) (h : devs (l.take k)) (hd : 0 ≤ s.1 ∧ s.1 < 256) : devs (l.take (k + 1)) := fun t ht => by
  rw [take_snocS hs] at ht
  rcases List.mem_append.1 ht with ht | ht
  · exact h t ht
  · rw [List.mem_singleton.1 ht]; exact hd
theorem vecs_one {w : World} {va : Value} {a : List St} {t : TypeId} {n : Nat} (hn : n = w.heap.size) (ha : VecV w va a) : VecsV (w.alloc (.cells #[va] t)) (.slice (some ⟨n, 0, none⟩) 1 1) [a] := by
  subst hn
  refine ⟨some ⟨w.heap.size, 0, none⟩, 1, rfl, Nat.le_refl _, fun q => (by cases q), Or.inr ⟨w.heap.size, 0, rfl, by simp, fun j l hj => ?_⟩⟩
  rcases j with _ | j
  · have : a = l := by simpa using hj
    subst this
    exact ⟨va, cell_news 0, ha.below (below_al _ _)⟩
  · simp at hj
theorem chk_one {a : List St} : chkN [a] = if Right a then 0 else 160 := by
  unfold chkN
  by_cases h : Right a
  · rw [if_pos h, if_pos (fun v hv => by simp at hv; subst hv; exact h)]
  · rw [if_neg h, if_neg (fun q => h (q a (by simp)))]
theorem flatS_set (l : List St) (s : St) : ∀ {p : Nat}, p < l.length → flatS (l.set p s) = ((flatS l).set (p * 2) (.int .i64 s.1)).set (p * 2 + 1) (.int .u64 (s.2 : Int)) := by
  induction l with
  | nil => intro p h; simp at h
  | cons a r ih =>
    intro p h
    have e : flatS (a :: r) = .int .i64 a.1 :: .int .u64 (a.2 : Int) :: flatS r := rfl
    cases p with
    | zero =>
      have e2 : flatS (s :: r) = .int .i64 s.1 :: .int .u64 (s.2 : Int) :: flatS r := rfl
      rw [List.set_cons_zero, e, e2]
      rfl
    | succ p =>
      have e2 : flatS (a :: r.set p s) = .int .i64 a.1 :: .int .u64 (a.2 : Int) :: flatS (r.set p s) := rfl
      rw [List.set_cons_succ, e, e2, ih (by simpa using h), show (p + 1) * 2 = p * 2 + 1 + 1 by omega]
      rfl
/-- A stamp of a row of one's own is stored anew. -/
theorem own_setS {w : World} {B g n c p : Nat} {l : List St} {s : St} (h : OwnS w B (.slice (some ⟨g, 0, none⟩) n c) l) (hp : p < l.length) : OwnS ((w.setCell ⟨g, p * 2, none⟩ (.int .i64 s.1)).setCell ⟨g, p * 2 + 1, none⟩ (.int .u64 (s.2 : Int))) B (.slice (some ⟨g, 0, none⟩) n c) (l.set p s) := by
  obtain ⟨h1, h2⟩ := h
  refine ⟨by rw [flatS_len, List.length_set], ?_⟩
  rw [List.length_set]
  rcases h2 with ⟨e, h0⟩ | ⟨g', cap, cur, e, hB, hh, hn, hm, hs, ht⟩
  · omega
  · refine Or.inr ⟨g', cap, (cur.setIfInBounds (p * 2) (.int .i64 s.1)).setIfInBounds (p * 2 + 1) (.int .u64 (s.2 : Int)), e, hB, ?_, hn, hm, by simpa using hs, ?_⟩
    · injection e with e1 _ _
      injection e1 with e1
      injection e1 with e1 _ _
      subst e1
      exact block_set _ (block_set _ hh)
    · rw [flatS_set l s hp, ← ht]
      simp only [Array.toList_setIfInBounds, List.take_set]
set_option maxRecDepth 20000 in
set_option maxHeartbeats 8000000 in
theorem With_any {w : World} {v u : Value} {a l : List St} (ha : VecV w v a) (hl : VecV w u l) (la : a.length ≤ maxLen) (ll : l.length ≤ maxLen) :
    Calls Tryd.prog 5 #[v, u] w fun e w' => ∃ v', e = .returned (.tuple #[v', .int .i64 (withP a l).2]) ∧ OwnS w' w.heap.size v' (withP a l).1 ∧ Below w.heap.size w w' := by
  have HA := hid ha
  have HC := hid (Check_any (vecs_one (t := 23) (n := w.heap.size) rfl ha) (by simp [maxLen]) (fun x hx => by simp at hx; subst hx; exact la))
  have HCO := hid (fun W (hh : VecV W v a) (h16 : a.length * 16 ≤ 140737488355328) => copyOf_any hh h16)
  obtain ⟨ao, ca, rfl, -, -, -⟩ := ha
  obtain ⟨lo, cl, rfl, -, -, hrow⟩ := hl
  obtain ⟨n, hn⟩ : ∃ n, n = l.length := ⟨_, rfl⟩
  obtain ⟨m, hm⟩ : ∃ m, m = a.length := ⟨_, rfl⟩
  rw [← hn] at ll ⊢
  rw [← hm] at HA HC HCO ⊢
  have HN := hid hn
  have HM := hid hm
  have HROW := hid hrow
  unfold maxLen at ll
  clear hn hm hrow la
  by_cases hr : Right a
  · rw [chk_one, if_pos hr] at HC
    have hm256 : m ≤ 256 := by have := right_len hr; have := HM.out; omega
    have HR := hid hr
    clear hr
    go_enter Tryd.func5, Tryd.ntmps5
    go_wp2_with fail
    refine HC.out.mono ?_
    rintro e w1 ⟨rfl, hb1⟩
    have HB1 := hid (below_tr (below_al _ _) hb1)
    clear hb1
    go_wp2_with fail
    go_loopw [8, 22] (fun _ vc wr => ∃ k : Nat, k ≤ n ∧ vc = .int .i64 k ∧ Hid (Below w.heap.size w wr) ∧ Hid (devs (l.take k))) (fun _ vc _ => n - (intOf vc).toNat)
    case atStart => exact ⟨0, Nat.zero_le _, rfl, HB1.out, fun s hs => by simp at hs⟩
    case round =>
      obtain ⟨k, hk, rfl, HB, HDV⟩ := hrel
      by_cases hlt : k < n
      · obtain ⟨s, hs⟩ : ∃ s, l[k]? = some s := ⟨_, List.getElem?_eq_getElem (by have := HN.out; omega)⟩
        obtain ⟨g, o, rfl, hg, hc⟩ := (HROW.out.below HB.out).resolve_left (fun e => by rw [e] at hs; simp at hs)
        obtain ⟨c0, c1⟩ := hc k s hs
        have kI : (k : Int) < (n : Int) := by omega
        have k0 : (0 : Int) ≤ (k : Int) := by omega
        have HS := hid hs
        have HIS := hid (isDev_any s.1)
        obtain ⟨d, u⟩ := s
        simp only at c0 c1 HIS
        clear hs hc hlt
        rcases bool_two (devB d) with hd | hd
        · rw [hd] at HIS
          have HE := hid (show withP a l = ([], 5) by
            unfold withP
            rw [if_pos HR.out, if_neg (fun q => devB_not.1 hd (q _ (List.mem_of_getElem? HS.out)))])
          clear hd
          go_wp2_with fail
          refine (HIS.out _).mono ?_
          rintro e w' ⟨rfl, e'⟩
          subst e'
          go_wp2
          go_ret2
          exact ⟨.slice none 0 0, by rw [HE.out]; rfl, by rw [HE.out]; exact World.ownsRow_nil _ _ _ _, HB.out.alloc HB.out.size _⟩
        · rw [hd] at HIS
          have HDV2 := hid (devs_next HS.out HDV.out (devB_iff.1 hd))
          clear hd
          go_wp2_with fail
          refine (HIS.out _).mono ?_
          rintro e w' ⟨rfl, e'⟩
          subst e'
          go_wp2
          go_roundw
          case rel => exact ⟨k + 1, by omega, by go_num, HB.out.alloc HB.out.size _, HDV2⟩
          case measure => simp [intOf]; omega
      · have hkn : k = n := by omega
        have kI : ¬ (k : Int) < (n : Int) := by omega
        have HDL := hid (show devs l by have := HDV.out; rw [hkn, HN.out, List.take_length] at this; exact this)
        have HE := hid (show withP a l = (putL a l, 0) by unfold withP; rw [if_pos HR.out, if_pos HDL.out])
        clear hkn
        go_wp2_with fail
        refine (HCO.out wr (HA.out.below HB.out) (by have := HM.out; omega)).mono ?_
        rintro e w2 ⟨v2, rfl, ho, hb2⟩
        have HB2 := hid (below_tr HB.out hb2)
        have HO2 := hid (own_mono ho HB.out.size)
        obtain ⟨a2, c2, e2⟩ := ho.form
        have e2' : v2 = .slice a2 m c2 := by rw [e2, ← HM.out]
        clear e2
        subst e2'
        clear ho hb2
        go_wp2_with fail
        go_loopw [9, 11, 12, 13, 35] (fun vt _ _ _ vc wr => ∃ (k : Nat) (b : Option Addr) (j cc : Nat), k ≤ n ∧ vc = .int .i64 k ∧ vt = .slice b j cc ∧ Hid (j = (putL a (l.take k)).length) ∧ Hid (Below w.heap.size w wr ∧ OwnS wr w.heap.size (.slice b j cc) (putL a (l.take k)))) (fun _ _ _ _ vc _ => n - (intOf vc).toNat)
        case atStart => exact ⟨0, a2, m, c2, Nat.zero_le _, rfl, rfl, by rw [List.take_zero]; exact HM.out, HB2.out, by rw [List.take_zero]; exact HO2.out⟩
        case round =>
          clear HB2 HO2
          obtain ⟨k, b, j, cc, hk, rfl, rfl, HJ, HBO⟩ := hrel
          by_cases hlt : k < n
          · obtain ⟨s, hs⟩ : ∃ s, l[k]? = some s := ⟨_, List.getElem?_eq_getElem (by have := HN.out; omega)⟩
            obtain ⟨g, o, rfl, hg, hc⟩ := (HROW.out.below HBO.out.1).resolve_left (fun e => by rw [e] at hs; simp at hs)
            obtain ⟨c0, c1⟩ := hc k s hs
            have kI : (k : Int) < (n : Int) := by omega
            have k0 : (0 : Int) ≤ (k : Int) := by omega
            have hrt := putL_right HR.out (devs_take HDL.out k)
            have hsd := HDL.out s (List.mem_of_getElem? hs)
            have hnx : putL a (l.take (k + 1)) = putV (putL a (l.take k)) s := by rw [take_snocS hs, putL_snoc]
            obtain ⟨T, hT⟩ : ∃ T, T = putL a (l.take k) := ⟨_, rfl⟩
            rw [← hT] at HJ HBO hrt hnx
            have HT := hid hT
            have HRT := hid hrt
            have HNX := hid hnx
            have HSD := hid hsd
            have hj256 : j ≤ 256 := by have := right_len hrt; have := HJ.out; omega
            obtain ⟨wb, hwb⟩ : ∃ wb, wb = wr.alloc (.cells #[.int .i64 s.1, .int .u64 (s.2 : Int)] 33) := ⟨_, rfl⟩
            have HOB := hid (show OwnS wb w.heap.size (.slice b j cc) T by rw [hwb]; exact HBO.out.2.on (below_al _ _))
            have HBB := hid (show Below w.heap.size w wb by rw [hwb]; exact HBO.out.1.alloc HBO.out.1.size _)
            have HBX := hid (show wb.heap[wr.heap.size]? = some (.cells #[.int .i64 s.1, .int .u64 (s.2 : Int)] 33 (0, 0)) by rw [hwb]; exact new_0 _ _)
            have HOL := hid (show ∀ q, (Value.slice b j cc).ownBlock = some q → q < wr.heap.size from fun q hq => (World.ownsRow.lt HBO.out.2 q hq).2)
            have HF := hid (find_any (w := wb) HOB.out.vec hrt s.1)
            obtain ⟨⟨q1, ok⟩, hq⟩ : ∃ q, q = fndP T s.1 := ⟨_, rfl⟩
            rw [← hq] at HF
            have HQ := hid hq
            obtain ⟨p, hp⟩ : ∃ p, p = lowI T s.1 := ⟨_, rfl⟩
            rw [← hp] at HF
            have HPP := hid hp
            obtain ⟨d, u⟩ := s
            simp only at c0 c1 HF
            subst hwb
            clear hs hc hlt hrt hnx hsd hT hq hp
            go_wp2_with fail
            refine HF.out.mono ?_
            rintro e w3 ⟨rfl, hb3⟩
            have HB3 := hid (HBB.out.trans (hb3.mono HBB.out.size))
            have HO3 := hid (HOB.out.on hb3)
            have hbx : w3.heap[wr.heap.size]? = some (.cells #[.int .i64 d, .int .u64 (u : Int)] 33 (0, 0)) := below_block hb3 HBX.out (by simp)
            have HBX3 := hid hbx
            have x0 : w3.cell? ⟨wr.heap.size, 0, none⟩ = some (.int .i64 d) := by rw [cell_at hbx]; rfl
            have x1 : w3.cell? ⟨wr.heap.size, 1, none⟩ = some (.int .u64 (u : Int)) := by rw [cell_at hbx]; rfl
            have HSZ := hid (show wr.heap.size < w3.heap.size from lt_of_block hbx)
            clear hb3 hbx HF HOB HBX HBB HBO
            rcases bool_two ok with hok | hok
            · subst hok
              have HTS := hid (show T.take p ++ (d, u) :: T.drop p = putV T (d, u) by rw [HPP.out]; exact putV_ins (s := (d, u)) HRT.out (show (fndP T d).2 = false by rw [← HQ.out]))
              have HIN := hid (Insert_any (w := w3.alloc (.cells #[.int .i64 d, .int .u64 (u : Int)] 33)) (B := w.heap.size) (k := p) (vb := w3.heap.size) (q := (d, u)) (HO3.out.on (below_al _ _)) (by have := HB3.out.size; simp; omega) (by rw [HPP.out]; exact low_le d) (by have := HJ.out; omega) (new_0 _ _) (fun e => by have := (World.ownsRow.lt HO3.out _ e).2; omega))
              have HLT := hid (show ∀ q, (Value.slice b j cc).ownBlock = some q → w.heap.size ≤ q from fun q hq => (World.ownsRow.lt HO3.out q hq).1)
              go_wp2_with fail
              refine HIN.out.mono ?_
              rintro e w4 ⟨v4, rfl, ho4, hg4⟩
              have HB4 := hid ((HB3.out.alloc HB3.out.size (.cells #[.int .i64 d, .int .u64 (u : Int)] 33)).grown hg4 (by have := HB3.out.size; simp; omega) HLT.out)
              rw [HTS.out] at ho4
              have HO4 := hid ho4
              obtain ⟨a4, c4, e4⟩ := ho4.form
              subst e4
              clear ho4 hg4
              obtain ⟨n4, hn4⟩ : ∃ n4, n4 = (putV T (d, u)).length := ⟨_, rfl⟩
              rw [← hn4] at HO4 ⊢
              have HN4 := hid hn4
              clear hn4
              go_wp2
              go_roundw
              case rel => exact ⟨k + 1, a4, n4, c4, by omega, by go_num, rfl, hid (by rw [HNX.out]; exact HN4.out), HB4.out, by rw [HNX.out]; exact HO4.out⟩
              case measure => simp [intOf]; omega
            · subst hok
              have hat := low_at HRT.out (show (fndP T d).2 = true by rw [← HQ.out])
              rw [← HPP.out] at hat
              have hpl := (List.getElem?_eq_some_iff.1 hat).1
              have pI : (p : Int) < (j : Int) := by have := HJ.out; omega
              have p0 : (0 : Int) ≤ (p : Int) := by omega
              obtain ⟨gb, rfl, hpart⟩ : ∃ gb, b = some ⟨gb, 0, none⟩ ∧ ∃ cur, w.heap.size ≤ gb ∧ w3.heap[gb]? = some (.cells cur 33 (0, 0)) ∧ j ≤ cc ∧ cc ≤ maxLen ∧ cur.size = cc * 2 ∧ cur.toList.take (j * 2) = flatS T := by
                rcases HO3.out.2 with ⟨e, h0⟩ | ⟨g', cap, cur, e, hB, hh, hn, hm, hs, ht⟩
                · omega
                · injection e with e1 e2 e3
                  subst e1 e3
                  exact ⟨g', rfl, cur, hB, hh, by have := HJ.out; omega, hm, hs, by rw [HJ.out]; exact ht⟩
              obtain ⟨cur, hgB, hgh, hjc, hcm, hcs, htk⟩ := hpart
              have y0 : ∃ z, w3.cell? ⟨gb, p * 2, none⟩ = some z := cells_some hgh (by rw [hcs]; have := HJ.out; omega)
              have y1 : ∃ z, w3.cell? ⟨gb, p * 2 + 1, none⟩ = some z := cells_some hgh (by rw [hcs]; have := HJ.out; omega)
              obtain ⟨z0, y0⟩ := y0
              obtain ⟨z1, y1⟩ := y1
              have f0 := free_of (o := p * 2) hgh
              have f1 := free_of (o := p * 2 + 1) hgh
              have HGH := hid hgh
              have HOX := hid (own_setS (s := (d, u)) HO3.out hpl)
              have HTS := hid (show T.set p (d, u) = putV T (d, u) by rw [HPP.out]; exact putV_set (s := (d, u)) HRT.out (show (fndP T d).2 = true by rw [← HQ.out]))
              have HBX2 := hid (show Below w.heap.size w ((w3.setCell ⟨gb, p * 2, none⟩ (.int .i64 d)).setCell ⟨gb, p * 2 + 1, none⟩ (.int .u64 (u : Int))) from (HB3.out.setCell (p := ⟨gb, p * 2, none⟩) hgB _).setCell (p := ⟨gb, p * 2 + 1, none⟩) hgB _)
              have HLN := hid (show (putV T (d, u)).length = T.length by rw [← HTS.out, List.length_set])
              clear hat hpl hgh htk
              go_wp2_with fail
              go_roundw
              case rel => exact ⟨k + 1, some ⟨gb, 0, none⟩, j, cc, by omega, by go_num, rfl, hid (by rw [HNX.out, HLN.out]; exact HJ.out), HBX2.out, by rw [HNX.out, ← HTS.out]; exact HOX.out⟩
              case measure => simp [intOf]; omega
          · have hkn : k = n := by omega
            have kI : ¬ (k : Int) < (n : Int) := by omega
            have HE2 := hid (show putL a (l.take k) = putL a l by rw [hkn, HN.out, List.take_length])
            clear hkn
            go_wp2
            go_ret2
            exact ⟨_, by rw [HE.out]; rfl, by rw [HE.out, ← HE2.out]; exact HBO.out.2, HBO.out.1⟩
  · rw [chk_one, if_neg hr] at HC
    have HE := hid (show withP a l = ([], 160) by unfold withP; rw [if_neg hr])
    clear hr
    go_enter Tryd.func5, Tryd.ntmps5
    go_wp2_with fail
    refine HC.out.mono ?_
    rintro e w1 ⟨rfl, hb1⟩
    have HB1 := hid (below_tr (below_al _ _) hb1)
    clear hb1
    go_wp2
    go_ret2
    exact ⟨.slice none 0 0, by rw [HE.out]; rfl, by rw [HE.out]; exact World.ownsRow_nil _ _ _ _, HB1.out⟩
end Go.Proofs.YtibbbjikehkbmabDoor.Ve
