/-
  The law WordsBlanks: of any texts, blanks and remark it answers true.
-/
import Derived.Test.YtalmcdhohoplpaaDoorWLBack
import Derived.Test.YtalmcdhohoplpaaDoorWBlank
namespace Go.Proofs.YtalmcdhohoplpaaDoor
open Go.RowKit

/-- What is known of a slice of bytes that came in. -/
def CameB (w : World) (a0 : Option Addr) (len cap : Nat) (zs : List Int) : Prop :=
  (a0 = none ∧ len = 0 ∧ cap = 0 ∧ zs = []) ∨ ∃ a, a0 = some a ∧ len ≤ cap ∧ cap ≤ maxLen ∧ zs.length = cap ∧ (∀ i, i < zs.length → w.cell? (a.add i) = some (.int .u8 (zs.getD i 0))) ∧ ∀ z ∈ zs, 0 ≤ z ∧ z ≤ 255
/-- How many tabs stand ahead of the word i: told so that a walk can use it. -/
def Tabs (w : World) (a0 : Option Addr) (len i : Nat) : Prop :=
  ¬ i < len ∨ (i < len ∧ ∃ g o z, a0 = some ⟨g, o, none⟩ ∧ w.cell? ⟨g, o + i, none⟩ = some (.int .u8 z) ∧ (0 : Int) ≤ z ∧ z ≤ 255)
theorem tabs_of {w w' : World} {a0 : Option Addr} {len cap : Nat} {zs : List Int} (h : CameB w a0 len cap zs) (hb : Below w.heap.size w w') (i : Nat) : Tabs w' a0 len i := by
  rcases h with ⟨rfl, rfl, rfl, rfl⟩ | ⟨a, rfl, hl, hm, hz, hc, hr⟩
  · left; omega
  · by_cases hi : i < len
    · right
      refine ⟨hi, ?_⟩
      obtain ⟨⟨g, o, rfl⟩, hg⟩ := addr_of (hc 0 (by omega))
      refine ⟨g, o, zs.getD i 0, rfl, ?_, ?_⟩
      · rw [hb.cell (by exact hg)]
        have := hc i (by omega)
        rw [addr_add] at this
        exact this
      · have hi' : i < zs.length := by omega
        rw [List.getD_eq_getElem?_getD, List.getElem?_eq_getElem hi']
        exact hr _ (List.getElem_mem hi')
    · left; exact hi

theorem wide_len {t x : List UInt8} {j : Nat} : (t ++ (32 :: (List.replicate j 9 ++ x))).length = t.length + 1 + j + x.length := by
  simp only [List.length_append, List.length_cons, List.length_replicate]; omega
theorem take_getD {ls : List (List UInt8)} {k : Nat} (h : k < ls.length) : ls.take (k + 1) = ls.take k ++ [ls.getD k []] := by
  rw [List.take_succ_eq_append_getElem h, List.getD_eq_getElem?_getD, List.getElem?_eq_getElem h]; rfl
theorem tab_snoc (t : List UInt8) (j : Nat) : t ++ (32 :: List.replicate j 9) ++ [9] = t ++ (32 :: List.replicate (j + 1) 9) := by
  rw [List.append_assoc, List.replicate_succ']; rfl
/-- What the last loop of WordsBlanks looks at. -/
structure Looks1 (w : World) (ls : List (List UInt8)) (g g2 cap2 gl ol : Nat) : Prop extends Looks w ls g g2 cap2 gl ol where
  line : ∀ i, i < ls.length → w.cell? ⟨g2, i * 3 + 1, none⟩ = some (.int .i64 1)
theorem looks1_of {w : World} {B : Nat} {v vl : Value} {ls : List (List UInt8)} {ws : List Wo.Wd} (h : LinesAt w B v [ws]) (hm : ws.map (·.1) = ls) (h1 : ∀ x ∈ ws, x.2.1 = 1) (h0 : ls ≠ []) (ht : Txs w vl ls) :
    ∃ g cap g2 cap2 gl ol capl, v = .slice (some ⟨g, 0, none⟩) 1 cap ∧ vl = .slice (some ⟨gl, ol, none⟩) ls.length capl ∧ Looks1 w ls g g2 cap2 gl ol := by
  have hl : ws.length = ls.length := by rw [← hm, List.length_map]
  have hlp : 0 < ls.length := List.length_pos_iff.2 h0
  obtain ⟨g, cap, hv, hg, hi⟩ := h.at (by simp)
  obtain ⟨g2, cap2, hg2, c0, hc⟩ := hi 0 ws rfl (by omega)
  obtain ⟨ao, capl, e, hr⟩ := ht
  rcases hr with hr | ⟨gl, ol, ea, _, hcl⟩
  · exact absurd hr h0
  · refine ⟨g, cap, g2, cap2, gl, ol, capl, by simpa using hv, by rw [e, ea], ⟨⟨by rw [← hl]; exact c0, fun i hi' => ?_, hcl⟩, fun i hi' => ?_⟩⟩
    · obtain ⟨y, hy⟩ : ∃ y, ws[i]? = some y := ⟨_, List.getElem?_eq_getElem (by omega)⟩
      rw [← map_getD hm hy]
      exact hc _ _ (flatW_at hy).1
    · obtain ⟨y, hy⟩ : ∃ y, ws[i]? = some y := ⟨_, List.getElem?_eq_getElem (by omega)⟩
      have := (flatW_at hy).2.1
      rw [h1 y (List.mem_of_getElem? hy)] at this
      exact hc _ _ this

set_option maxRecDepth 4000 in
set_option maxHeartbeats 4000000 in
theorem blanks_any (a0 : Option Addr) (len cap : Nat) (ss : List ByteArray) (b0 : Option Addr) (lenb capb : Nat) (zs : List Int) (rk : ByteArray) (w : World) (hv : Came w a0 len cap ss) (hz : CameB w b0 lenb capb zs) (hlb : lenb ≤ maxLen) (hrk : rk.size ≤ maxLen) :
    Calls Tryd.prog 7 #[.slice a0 len cap, .slice b0 lenb capb, .string rk] w fun e w' => e = .returned (.bool true) ∧ Below w.heap.size w w' := by
  unfold maxLen at hlb hrk
  have hn := fewL_len ss len
  have h4 : ∀ l ∈ fewL ss len, l.length ≤ 4000 := fewT_short _ _
  have q0 := few_any a0 len cap ss w hv
  have HZ := hid hz
  obtain ⟨ls, hls⟩ : ∃ ls, ls = fewL ss len := ⟨_, rfl⟩
  rw [← hls] at hn h4 q0
  clear hls hv hz
  have H4 := hid h4
  have q1 := fun (v : Value) (w : World) (h : Txs w v ls) => Say_any v ls w h hn H4.out
  clear h4
  by_cases hgo : allW ls = true ∧ ls ≠ [] ∧ rk.size ≤ 4000
  · obtain ⟨hw, h0, hr4⟩ := hgo
    have e2 : sayE ls = 0 := by unfold sayE; rw [hw]; rfl
    rw [e2] at q1
    obtain ⟨sd, hsd⟩ : ∃ sd, sd = tx (sayS ls) := ⟨_, rfl⟩
    rw [← hsd] at q1
    have HWA := hid (allW_getD.1 hw)
    have H0 := hid h0
    have hp : 0 < ls.length := List.length_pos_iff.2 h0
    obtain ⟨n, hnn⟩ : ∃ n, n = ls.length := ⟨_, rfl⟩
    have HN := hid hnn
    rw [← hnn] at hn hp
    clear e2 hsd hw h0 hnn
    have hp1 : ((n : Int) == 0) = false := by rw [beq_eq_false_iff_ne]; omega
    have hp4 : ¬ n = 0 := by omega
    have hp2 : decide ((4000 : Int) < (rk.size : Int)) = false := decide_eq_false (by omega)
    have hp3 : ¬ 4000 < rk.size := by omega
    go_enter Tryd.func7, Tryd.ntmps7
    go_wp2_with fail
    refine q0.mono ?_
    clear q0
    rintro e w1 ⟨v, rfl, HT, hb1⟩
    go_wp2_with fail
    refine (q1 v w1 HT.out).mono ?_
    clear q1
    rintro e w2 ⟨rfl, hb2⟩
    have HB2 := hid (below_two hb1 hb2)
    have HT2 := hid (HT.out.below hb2)
    obtain ⟨gl, ol, cl, rfl, hcl⟩ : ∃ gl ol cl, v = .slice (some ⟨gl, ol, none⟩) n cl ∧ ∀ i, i < n → w2.cell? ⟨gl, ol + i, none⟩ = some (.string (tx (ls.getD i []))) := by
      obtain ⟨ao, cl, e, hr⟩ := HT2.out
      rcases hr with hr | ⟨gl, ol, ea, _, hcl⟩
      · exact absurd hr H0.out
      · exact ⟨gl, ol, cl, by rw [e, ea, HN.out], fun i hi => hcl i (by rw [← HN.out]; exact hi)⟩
    have HCL := hid hcl
    have HTB := hid (fun i => tabs_of HZ.out HB2.out i)
    clear hcl hb1 hb2
    go_wp2
    clear hp1 hp2
    go_loop [9, 10] (fun s i => ∃ (k : Nat) (t : List UInt8), k ≤ n ∧ i = .int .i64 k ∧ s = .string (tx t) ∧ t.length ≤ 4010 * k ∧ Hid (Wo.Wide t (ls.take k)) ∧ Hid (Wo.one t)) (fun _ i => n - (intOf i).toNat)
    case atStart => exact ⟨0, [], Nat.zero_le _, rfl, rfl, by simp, by show Wo.Wide _ _; simpa using Wo.Wide.nil, by show Wo.one _; intro a ha; exact absurd ha (by simp)⟩
    case round =>
      obtain ⟨k, t, hk, rfl, rfl, htl, HWI, HON⟩ := hrel
      by_cases hlt : k < n
      · have ck := HCL.out k hlt
        obtain ⟨x, hx⟩ : ∃ x, x = ls.getD k [] := ⟨_, rfl⟩
        have hxl := getD_len ls H4.out k
        have hxw := HWA.out k (by rw [← HN.out]; exact hlt)
        rw [← hx] at ck hxl hxw
        have HX := hid hx
        have HXW := hid hxw
        clear hx hxw
        have hkI : (0 : Int) ≤ (k : Int) := by omega
        have hkI2 : (k : Int) < (n : Int) := by omega
        have ho1 : ¬ 9223372036854775807 < t.length + 1 := by omega
        have fin : ∀ m : Nat, m ≤ 3 → Hid (Wo.Wide (t ++ (32 :: List.replicate m 9) ++ x) (ls.take (k + 1)) ∧ Wo.one (t ++ (32 :: List.replicate m 9) ++ x) ∧ (t ++ (32 :: List.replicate m 9) ++ x).length ≤ 4010 * (k + 1)) := fun m hm => by
          have e : t ++ (32 :: List.replicate m 9) ++ x = t ++ (32 :: (List.replicate m 9 ++ x)) := by simp
          show _ ∧ _
          rw [e, take_getD (by rw [← HN.out]; exact hlt), ← HX.out]
          exact ⟨HWI.out.snoc HXW.out m, Wo.one_snoc HON.out HXW.out m, by rw [wide_len]; omega⟩
        have HFIN := hid fin
        clear fin
        rcases HTB.out k with htb | ⟨htb, g, o, z, rfl, cz, hz0, hz1⟩
        · go_wp2
          go_loop [9, 11] (fun s j => ∃ m : Nat, m ≤ 3 ∧ j = .int .i64 m ∧ s = .string (tx (t ++ (32 :: List.replicate m 9)))) (fun _ j => 4 - (intOf j).toNat)
          case atStart => exact ⟨0, Nat.zero_le _, rfl, by rw [show ({ data := #[32] } : ByteArray) = tx [32] from rfl, tx_app]; rfl⟩
          case round =>
            obtain ⟨m, hm, rfl, rfl⟩ := hrel
            obtain ⟨t2, ht2⟩ : ∃ t2, t2 = t ++ (32 :: List.replicate m 9) := ⟨_, rfl⟩
            have hl2 : t2.length ≤ 4010 * k + 4 := by rw [ht2]; simp only [List.length_append, List.length_cons, List.length_replicate]; omega
            have HF := HFIN.out m hm
            rw [← ht2] at HF ⊢
            clear ht2
            have ho2 : ¬ 9223372036854775807 < t2.length + x.length := by omega
            go_wp2
            go_round
            case rel => exact ⟨k + 1, t2 ++ x, by omega, by go_num, by rw [tx_app], HF.out.2.2, HF.out.1, HF.out.2.1⟩
            case measure => simp [intOf]; omega
        · have hlbI : (k : Int) < (lenb : Int) := by omega
          go_wp2
          go_loop [9, 11] (fun s j => ∃ m : Nat, m ≤ 3 ∧ j = .int .i64 m ∧ s = .string (tx (t ++ (32 :: List.replicate m 9)))) (fun _ j => 4 - (intOf j).toNat)
          case atStart => exact ⟨0, Nat.zero_le _, rfl, by rw [show ({ data := #[32] } : ByteArray) = tx [32] from rfl, tx_app]; rfl⟩
          case round =>
            obtain ⟨m, hm, rfl, rfl⟩ := hrel
            obtain ⟨t2, ht2⟩ : ∃ t2, t2 = t ++ (32 :: List.replicate m 9) := ⟨_, rfl⟩
            have hl2 : t2.length ≤ 4010 * k + 4 := by rw [ht2]; simp only [List.length_append, List.length_cons, List.length_replicate]; omega
            have HF := HFIN.out m hm
            have HS2 := hid (show t2 ++ [9] = t ++ (32 :: List.replicate (m + 1) 9) by rw [ht2]; exact tab_snoc t m)
            rw [← ht2] at HF ⊢
            clear ht2
            have ho2 : ¬ 9223372036854775807 < t2.length + x.length := by omega
            have ho3 : ¬ 9223372036854775807 < t2.length + 1 := by omega
            by_cases hj : (m : Int) < z % 4
            · go_wp2
              go_round
              case rel => exact ⟨m + 1, by omega, by go_num, by rw [← HS2.out, show ({ data := #[9] } : ByteArray) = tx [9] from rfl, tx_app]⟩
              case measure => simp [intOf]; omega
            · have hjd : decide ((m : Int) < z % 4) = false := decide_eq_false hj
              go_wp2
              go_round
              case rel => exact ⟨k + 1, t2 ++ x, by omega, by go_num, by rw [tx_app], HF.out.2.2, HF.out.1, HF.out.2.1⟩
              case measure => simp [intOf]; omega
      · have HW9 := hid (show Wo.Wide t ls by have := HWI.out; rw [show k = n by omega, HN.out, List.take_length] at this; exact this)
        have htn : t.length ≤ 240600 := by omega
        have ho4 : ¬ 9223372036854775807 < t.length + 2 := by omega
        go_wp2
        go_loop [9, 12] (fun s j => ∃ m : Nat, m ≤ rk.size ∧ j = .int .i64 m ∧ s = .string (tx (t ++ [32, 35] ++ Wo.rem (rk.data.toList.take m)))) (fun _ j => rk.size - (intOf j).toNat)
        case atStart => exact ⟨0, Nat.zero_le _, rfl, by rw [show ({ data := #[32, 35] } : ByteArray) = tx [32, 35] from rfl, tx_app]; simp [Wo.rem]⟩
        case round =>
          obtain ⟨m, hm, rfl, rfl⟩ := hrel
          have hrl := Wo.rem_len (rk.data.toList.take m)
          rw [List.length_take] at hrl
          obtain ⟨u, hu⟩ : ∃ u, u = Wo.rem (rk.data.toList.take m) := ⟨_, rfl⟩
          rw [← hu] at hrl ⊢
          have HU := hid hu
          clear hu
          obtain ⟨t3, ht3⟩ : ∃ t3, t3 = t ++ [32, 35] ++ u := ⟨_, rfl⟩
          have hl3 : t3.length ≤ 244602 + 1 := by rw [ht3]; simp only [List.length_append, List.length_cons, List.length_nil]; omega
          rw [← ht3]
          have HT3 := hid ht3
          clear ht3
          have ho5 : ¬ 9223372036854775807 < t3.length + 1 := by omega
          by_cases hlr : m < rk.size
          · have hmI : (0 : Int) ≤ (m : Int) := by omega
            have hmI2 : (m : Int) < (rk.size : Int) := by omega
            have hmI3 : (m : Int) ≤ (m : Int) + 1 := by omega
            have hmI4 : (m : Int) + 1 ≤ (rk.size : Int) := by omega
            have HTK := hid (take_snoc rk m hlr)
            by_cases h10 : (rk[m]'hlr).toNat = 10
            · have hb : (((rk[m]'hlr).toNat : Int) != 10) = false := by simp [h10]
              have HU2 := hid (show Wo.rem (rk.data.toList.take (m + 1)) = u by rw [HTK.out, Wo.rem_snoc, if_pos h10, List.append_nil, HU.out])
              clear h10
              go_wp2
              go_round
              case rel => exact ⟨m + 1, by omega, by go_num, by rw [HU2.out, ← HT3.out]⟩
              case measure => simp [intOf]; omega
            · have hb : (((rk[m]'hlr).toNat : Int) != 10) = true := by rw [bne_iff_ne]; omega
              have HU2 := hid (show Wo.rem (rk.data.toList.take (m + 1)) = u ++ [rk[m]'hlr] by rw [HTK.out, Wo.rem_snoc, if_neg h10, HU.out])
              have HEX := hid (show rk.extract m (m + 1) = tx [rk[m]'hlr] by
                rw [Lib.extract_eq, drop_at rk m hlr]; simp)
              have hes : (rk.extract m (m + 1)).size = 1 := by rw [HEX.out]; rfl
              have ho6 : ¬ 9223372036854775807 < t3.length + (rk.extract m (m + 1)).size := by rw [hes]; omega
              have ho7 : ¬ 9223372036854775807 < t3.length + (min (m + 1) rk.size - m) := by omega
              clear h10 hes
              go_wp2
              go_round
              case rel => exact ⟨m + 1, by omega, by go_num, by rw [HU2.out, ← List.append_assoc, ← HT3.out, ← tx_app, ← HEX.out]⟩
              case measure => simp [intOf]; omega
          · have hto : Wo.one u := by rw [HU.out]; exact Wo.rem_one _
            obtain ⟨k1, k2, k3, xs, k4, k5, k6⟩ := Wo.read_wide HW9.out HON.out H0.out hto
            have q2 := fun w => Lines_any (t ++ [32, 35] ++ u ++ [10]) w (by rw [← HT3.out]; simp only [List.length_append, List.length_cons, List.length_nil]; omega)
            rw [k1, k2, k3, k4, ← HT3.out, ← tx_app] at q2
            have HM := hid k5
            have HL1 := hid k6
            clear k1 k2 k3 k4 k5 k6 hto
            go_wp2_with fail
            refine (q2 _).mono ?_
            clear q2
            rintro e w3 ⟨v3, rfl, HL3, hb3⟩
            obtain ⟨g, c, g2, c2, gl', ol', cl', rfl, hvv, hlk⟩ := looks1_of HL3.out HM.out HL1.out H0.out (HT2.out.below hb3)
            injection hvv with u1 u2 u3
            injection u1 with u1
            injection u1 with u4 u5 _
            subst u4
            subst u5
            have HK := hid hlk
            have HB := hid (below_two HB2.out hb3)
            have hrow := hlk.row
            rw [← HN.out] at hrow
            clear hb3 hlk u2 u3
            have hp5 : ((n : Int) != (n : Int)) = false := by simp
            go_wp2
            go_loopw [17] (fun i wr => ∃ k : Nat, k ≤ n ∧ i = .int .i64 k ∧ Hid (∃ m, wr = w3.drewN m)) (fun i _ => n - (intOf i).toNat)
            case atStart => exact ⟨0, Nat.zero_le _, rfl, 0, rfl⟩
            case round =>
              obtain ⟨k, hk, rfl, HW⟩ := hrel
              obtain ⟨m0, rfl⟩ := HW.out
              by_cases hlt : k < n
              · have ck := HK.out.word k (by rw [← HN.out]; exact hlt)
                have cl := HK.out.text k (by rw [← HN.out]; exact hlt)
                have c1 := HK.out.line k (by rw [← HN.out]; exact hlt)
                obtain ⟨x, hx⟩ : ∃ x, x = ls.getD k [] := ⟨_, rfl⟩
                rw [← hx] at ck cl
                clear hx
                have hkI : (0 : Int) ≤ (k : Int) := by omega
                have hkI2 : (k : Int) < (n : Int) := by omega
                go_wp2
                go_quiet (fail)
                go_wp2
                go_roundw
                case rel => exact ⟨k + 1, by omega, by go_num, _, rfl⟩
                case measure => simp [intOf]; omega
              · go_wp2_with (first | (go_at_call 9; refine (alive_any _).mono ?_; rintro e w9 ⟨rfl, hb9⟩))
                go_ret
                exact ⟨rfl, below_two (below_drewN HB.out) hb9⟩
  · obtain ⟨sd, hsd⟩ : ∃ sd, sd = tx (sayS ls) := ⟨_, rfl⟩
    rw [← hsd] at q1
    clear hsd
    have hcase : sayE ls = 31 ∨ (sayE ls = 0 ∧ ls = []) ∨ (sayE ls = 0 ∧ 0 < ls.length ∧ (4000 : Int) < (rk.size : Int)) := by
      rcases bool_two (allW ls) with hw | hw
      · left; unfold sayE; rw [hw]; rfl
      · right
        have e : sayE ls = 0 := by unfold sayE; rw [hw]; rfl
        by_cases h0 : ls = []
        · exact Or.inl ⟨e, h0⟩
        · refine Or.inr ⟨e, List.length_pos_iff.2 h0, ?_⟩
          by_cases h4 : rk.size ≤ 4000
          · exact absurd ⟨hw, h0, h4⟩ hgo
          · omega
    clear hgo
    rcases hcase with e2 | ⟨e2, h0⟩ | ⟨e2, h0, hr4⟩
    · rw [e2] at q1
      clear e2
      go_enter Tryd.func7, Tryd.ntmps7
      go_wp2_with fail
      refine q0.mono ?_
      clear q0
      rintro e w1 ⟨v, rfl, HT, hb1⟩
      go_wp2_with fail
      refine (q1 v w1 HT.out).mono ?_
      clear q1
      rintro e w2 ⟨rfl, hb2⟩
      have HB2 := hid (below_two hb1 hb2)
      clear hb1 hb2
      go_wp2_with (first | (go_at_call 9; refine (alive_any _).mono ?_; rintro e w9 ⟨rfl, hb9⟩))
      go_ret
      exact ⟨rfl, below_two HB2.out hb9⟩
    · rw [e2] at q1
      subst h0
      clear e2
      go_enter Tryd.func7, Tryd.ntmps7
      go_wp2_with fail
      refine q0.mono ?_
      clear q0
      rintro e w1 ⟨v, rfl, HT, hb1⟩
      go_wp2_with fail
      refine (q1 v w1 HT.out).mono ?_
      clear q1
      rintro e w2 ⟨rfl, hb2⟩
      obtain ⟨al, cl, rfl⟩ : ∃ al cl, v = .slice al 0 cl := by obtain ⟨al, cl, e, _⟩ := HT.out; exact ⟨al, cl, e⟩
      have HB2 := hid (below_two hb1 hb2)
      clear hb1 hb2
      go_wp2_with (first | (go_at_call 9; refine (alive_any _).mono ?_; rintro e w9 ⟨rfl, hb9⟩))
      go_ret
      exact ⟨rfl, below_two HB2.out hb9⟩
    · rw [e2] at q1
      obtain ⟨n, hnn⟩ : ∃ n, n = ls.length := ⟨_, rfl⟩
      have HN := hid hnn
      rw [← hnn] at h0 hn
      clear e2 hnn
      have hp1 : ((n : Int) == 0) = false := by rw [beq_eq_false_iff_ne]; omega
      have hp4 : ¬ n = 0 := by omega
      go_enter Tryd.func7, Tryd.ntmps7
      go_wp2_with fail
      refine q0.mono ?_
      clear q0
      rintro e w1 ⟨v, rfl, HT, hb1⟩
      go_wp2_with fail
      refine (q1 v w1 HT.out).mono ?_
      clear q1
      rintro e w2 ⟨rfl, hb2⟩
      obtain ⟨al, cl, rfl⟩ : ∃ al cl, v = .slice al n cl := by obtain ⟨al, cl, e, _⟩ := HT.out; exact ⟨al, cl, by rw [e, HN.out]⟩
      have HB2 := hid (below_two hb1 hb2)
      clear hb1 hb2
      go_wp2_with (first | (go_at_call 9; refine (alive_any _).mono ?_; rintro e w9 ⟨rfl, hb9⟩))
      go_ret
      exact ⟨rfl, below_two HB2.out hb9⟩
end Go.Proofs.YtalmcdhohoplpaaDoor
