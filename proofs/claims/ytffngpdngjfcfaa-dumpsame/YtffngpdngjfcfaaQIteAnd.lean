/-
  The family of made's functions; texts of bytes.
  made: a table, and the document's, with the headers that some cubes have together.
  The program's table beside the document's: what made's loop leaves.
  The document's Right, Or, New.
  The document's ite: the walk.
-/
import Derived.Test.YtffngpdngjfcfaaQTellAnd
import Derived.Test.YtffngpdngjfcfaaBFindAnd
import Derived.Test.YtffngpdngjfcfaaBCubesAAnd
import Derived.Test.YtffngpdngjfcfaaBBadAnd
import Derived.Test.YtffngpdngjfcfaaDWriteAnd
import Derived.Laws.BytesArg
namespace Go.Proofs.Ytffngpdngjfcfaa
open Go.RowKit Go.Maps
open Bd (Nd)

theorem Try.infoDone : (Try.prog.info? 158).map (fun i => (i.zero, i.size, i.bytes)) = some (some (.agg #[i6 0, i6 0, i6 0, i6 0]), 4, 32) := by kernel_rfl

/-- A row holds one list. -/
theorem row_uniq {w : World} {base e size n : Nat} {v : Value} {xs ys : List Value} (h1 : w.ownsRow base e size v n xs) (h2 : w.ownsRow base e size v n ys) : xs = ys := by
  have l1 := h1.1
  have l2 := h2.1
  rcases h1.2 with ⟨x1, x2⟩ | ⟨g, cp, cur, x1, _, x3, _, _, _, x7⟩
  · rw [x2, Nat.zero_mul] at l1 l2
    rw [List.length_eq_zero_iff.1 l1, List.length_eq_zero_iff.1 l2]
  · rcases h2.2 with ⟨z1, z2⟩ | ⟨g', cp', cur', z1, _, z3, _, _, _, z7⟩
    · rw [z2, Nat.zero_mul] at l1 l2
      rw [List.length_eq_zero_iff.1 l1, List.length_eq_zero_iff.1 l2]
    · rw [x1] at z1
      cases z1
      rw [x3] at z3
      cases z3
      rw [← x7, ← z7]
theorem run_min_nat {P : Program} {w : World} (ts : Array TypeId) (t : TypeId) (k k' : IntKind) (p q : Nat) : (Builtin.min_ ts t #[.int k (p : Int), .int k' (q : Int)]).run P w = .ok (.int k ((min p q : Nat) : Int)) w := by
  rw [run_min_int2]
  have e : (if (q : Int) < (p : Int) then (q : Int) else (p : Int)) = ((min p q : Nat) : Int) := by split <;> omega
  rw [e]
attribute [local go_sem ↓] run_min_nat

set_option maxHeartbeats 400000 in
theorem qite_first (w : World) (tb mb a b c : Nat) (h : a = 1 ∨ b = c) : Calls Try.prog 71 #[.pointer (some ⟨tb, 0, none⟩), .pointer (some ⟨mb, 0, none⟩), i6 a, i6 b, i6 c] w fun e w' => e = .returned (i6 b) ∧ w' = w := by
  by_cases h1 : a = 1
  · subst h1
    go_enter Try.func71, Try.ntmps71
    go_wp2
    go_ret
    exact ⟨rfl, rfl⟩
  · have e1 : ((a : Int) == 1) = false := by rw [beq_eq_false_iff_ne]; omega
    have hb : b = c := by omega
    subst hb
    go_enter Try.func71, Try.ntmps71
    go_wp2
    go_ret
    exact ⟨rfl, rfl⟩
set_option maxHeartbeats 400000 in
theorem qite_zero (w : World) (tb mb b c : Nat) (hbc : b ≠ c) : Calls Try.prog 71 #[.pointer (some ⟨tb, 0, none⟩), .pointer (some ⟨mb, 0, none⟩), i6 0, i6 b, i6 c] w fun e w' => e = .returned (i6 c) ∧ w' = w := by
  have eb : ((b : Int) == (c : Int)) = false := by rw [beq_eq_false_iff_ne]; omega
  go_enter Try.func71, Try.ntmps71
  go_wp2
  go_ret
  exact ⟨rfl, rfl⟩

set_option maxRecDepth 2000 in
set_option maxHeartbeats 4000000 in
theorem qite_loop {n0 M : Nat} (ih : qiteSpec n0) {w : World} {y : QLay} {s : QSt} (A : Bd.Fam s.bits M) (hT : QTab w y s) (hW : Bd.Within A s.L) (hbM : s.bits * M ≤ 524288) {mb : Nat} {mv : Value} {D : List Dn} (hM : MemoAt w mb mv D) (hK : MemoOk s.L D) (a b c kk : Nat)
    (ha : a < s.L.length + 2) (hb : b < s.L.length + 2) (hc : c < s.L.length + 2) (h2 : b < 2 ∨ c < 2) (hka : kk ≤ Bd.bitOf s.L a) (hkb : kk ≤ Bd.bitOf s.L b) (hkc : kk ≤ Bd.bitOf s.L c) (hF : A.F kk (Bd.iteF (Bd.den s.L a) (Bd.den s.L b) (Bd.den s.L c))) (hn : 128 - kk ≤ n0 + 1)
    (ha2 : 2 ≤ a) (hbc : b ≠ c) :
    Calls Try.prog 71 #[.pointer (some ⟨y.tb, 0, none⟩), .pointer (some ⟨mb, 0, none⟩), i6 a, i6 b, i6 c] w fun e w' => ∃ r, e = .returned (i6 r) ∧ QIteGot A w y s mb mv D kk w' r (Bd.iteF (Bd.den s.L a) (Bd.den s.L b) (Bd.den s.L c)) := by
  have e1 : ((a : Int) == 1) = false := by rw [beq_eq_false_iff_ne]; omega
  have e0 : ((a : Int) == 0) = false := by rw [beq_eq_false_iff_ne]; omega
  have eb : ((b : Int) == (c : Int)) = false := by rw [beq_eq_false_iff_ne]; omega
  have hfew := hT.okay.few
  have hba := Bd.bitOf_lt hT.okay ha2 ha
  have hq : ∀ x, x < s.L.length + 2 → qbit s.bits s.L x ≤ Bd.bitOf s.L x ∧ (qbit s.bits s.L x < s.bits → qbit s.bits s.L x = Bd.bitOf s.L x) := fun x hx => by
    unfold qbit
    split
    · rename_i h
      rw [Bd.bitOf_end _ h]
      omega
    · exact ⟨Nat.le_refl _, fun _ => rfl⟩
  obtain ⟨k0, hk0⟩ : ∃ k0, k0 = min (qbit s.bits s.L a) (min (qbit s.bits s.L b) (qbit s.bits s.L c)) := ⟨_, rfl⟩
  have hqa : qbit s.bits s.L a = Bd.bitOf s.L a := by unfold qbit; rw [if_neg (by omega)]
  have hKB : kk ≤ k0 ∧ k0 ≤ Bd.bitOf s.L a ∧ k0 ≤ Bd.bitOf s.L b ∧ k0 ≤ Bd.bitOf s.L c ∧ k0 < s.bits ∧ (Bd.bitOf s.L a = k0 ∨ Bd.bitOf s.L b = k0 ∨ Bd.bitOf s.L c = k0) := by
    have h1 := hq a ha
    have h2 := hq b hb
    have h3 := hq c hc
    have h4 : kk ≤ qbit s.bits s.L b := by
      rcases Nat.lt_or_ge (qbit s.bits s.L b) s.bits with h | h
      · rw [h2.2 h]; exact hkb
      · omega
    have h5 : kk ≤ qbit s.bits s.L c := by
      rcases Nat.lt_or_ge (qbit s.bits s.L c) s.bits with h | h
      · rw [h3.2 h]; exact hkc
      · omega
    refine ⟨by omega, by omega, by omega, by omega, by omega, ?_⟩
    by_cases x1 : k0 = qbit s.bits s.L a
    · left; omega
    · by_cases x2 : k0 = qbit s.bits s.L b
      · right; left; have := h2.2 (by omega); omega
      · right; right; have x3 : k0 = qbit s.bits s.L c := by omega
        have := h3.2 (by omega); omega
  have HKB := keep hKB
  have HBIT : Hid (∀ x, x < s.L.length + 2 → ∀ W, Below w.heap.size w W → Calls Try.prog 94 #[.pointer (some ⟨y.tb, 0, none⟩), i6 x] W fun e w' => e = .returned (i6 (qbit s.bits s.L x)) ∧ w' = W) := fun x hx W hB => qbit_any (hT.below hB) x hx
  have HHALF : Hid (∀ x, x < s.L.length + 2 → ∀ q W, Below w.heap.size w W → Calls Try.prog 95 #[.pointer (some ⟨y.tb, 0, none⟩), i6 x, i6 k0, .bool q] W fun e w' => e = .returned (i6 (halfOf s.L x k0 q)) ∧ w' = W) := fun x hx q W hB => qhalf_any (hT.below hB) x k0 q hx hKB.2.2.2.2.1
  have HTHREE := keep (fun W hBW => qite_three ih A hT hW hbM hM hK a b c kk k0 ha hb hc h2 hKB.1 hKB.2.1 hKB.2.2.1 hKB.2.2.2.1 hKB.2.2.2.2.1 hF hn W hBW)
  have hDfew := hK.few (by have := hW.few hT.okay; omega)
  have HT := keep hT
  have HW := keep hW
  have HM := keep hM
  have HMK := keep hK
  have HA := keep ha
  have HB := keep hb
  have HC := keep hc
  have H2 := keep h2
  obtain ⟨ao, cap, hmv⟩ := row_slice hM.row
  obtain ⟨n, hnn⟩ : ∃ n, n = D.length := ⟨_, rfl⟩
  have HN := keep hnn
  have c0 : w.cell? ⟨mb, 0, none⟩ = some (.slice ao n cap) := by rw [cell_at hM.cell, hnn, ← hmv]; rfl
  have lmb := hM.lt.1
  have HMV := keep hmv
  rw [← hnn] at hDfew
  have hmin : (if (qbit s.bits s.L c : Int) < (qbit s.bits s.L b : Int) then (qbit s.bits s.L c : Int) else (qbit s.bits s.L b : Int)) = ((min (qbit s.bits s.L b) (qbit s.bits s.L c) : Nat) : Int) := by
    split <;> omega
  have hk0I : (k0 : Int) ≤ 128 := by have := hKB.2.2.2.2.1; omega
  have hsm := hT.small.1
  obtain ⟨i0, hi0, hz0, hz1, hz2⟩ := info_parts Try.infoDone
  have HI := keep hi0
  have HZ0 := keep hz0
  have HZ1 := keep hz1
  have HZ2 := keep hz2
  have HK0 := keep hk0
  clear hT hW hM hK hF hq hqa hKB h2 hka hkb hkc ih hmv hnn hk0 hi0 hz0 hz1 hz2 hba ha hb hc
  go_enter Try.func71, Try.ntmps71
  go_wp2
  go_loopw [11] (fun i wr => ∃ j : Nat, j ≤ n ∧ i = .int .i64 j ∧ Hid (∀ q d, q < j → D[q]? = some d → keyD d ≠ (a, b, c)) ∧ Hid (Below w.heap.size w wr)) (fun i _ => n - (intOf i).toNat)
  case atStart => exact ⟨0, Nat.zero_le _, rfl, fun q d hq => absurd hq (Nat.not_lt_zero q), Below.refl _ _⟩
  case round =>
    obtain ⟨j, hj, rfl, HQ, HBL⟩ := hrel
    have c0r : wr.cell? ⟨mb, 0, none⟩ = some (.slice ao n cap) := by rw [HBL.out.cell (by exact lmb)]; exact c0
    by_cases hlt : j < n
    · obtain ⟨x, hx⟩ : ∃ x, D[j]? = some x := ⟨D[j]'(by rw [← HN.out]; exact hlt), List.getElem?_eq_getElem (by rw [← HN.out]; exact hlt)⟩
      have HX := keep hx
      obtain ⟨g, cap', hv, d0, d1, d2, d3⟩ := (HM.out.below HBL.out).done hx
      rw [HMV.out] at hv
      cases hv
      clear hx
      have hjI : (j : Int) < (n : Int) := by omega
      have hnI : (n : Int) ≤ 1099520016400 := by omega
      by_cases x0 : x.1 = a
      · by_cases x1 : x.2.1 = b
        · by_cases x2 : x.2.2.1 = c
          · have HR : Hid (∀ w', Below w.heap.size w w' → QIteGot A w y s mb mv D kk w' x.2.2.2 (Bd.iteF (Bd.den s.L a) (Bd.den s.L b) (Bd.den s.L c))) := fun w' hb' => by
              obtain ⟨_, _, _, f4, _, f6⟩ := HMK.out.fit x (List.mem_of_getElem? HX.out)
              rw [x0, x1, x2] at f6
              exact QIteGot.same HT.out HW.out HM.out HMK.out f4 f6 hb'
            rw [x0] at d0
            rw [x1] at d1
            rw [x2] at d2
            clear x0 x1 x2 HX
            go_wp2
            go_ret
            exact ⟨x.2.2.2, rfl, HR.out _ HBL.out⟩
          · have hb2 : ((x.2.2.1 : Int) == (c : Int)) = false := by rw [beq_eq_false_iff_ne]; omega
            have HQ2 : Hid (∀ q d, q < j + 1 → D[q]? = some d → keyD d ≠ (a, b, c)) := fun q d hq hd => by
              by_cases e : q = j
              · subst e; rw [HX.out] at hd; cases hd; intro h; exact x2 (congrArg (fun z => z.2.2) h)
              · exact HQ.out q d (by omega) hd
            rw [x0] at d0
            rw [x1] at d1
            clear x0 x1 x2 HX HQ
            go_wp2
            go_roundw
            case rel => exact ⟨j + 1, by omega, by go_num, HQ2, HBL⟩
            case measure => simp [intOf]; omega
        · have hb1 : ((x.2.1 : Int) == (b : Int)) = false := by rw [beq_eq_false_iff_ne]; omega
          have HQ2 : Hid (∀ q d, q < j + 1 → D[q]? = some d → keyD d ≠ (a, b, c)) := fun q d hq hd => by
            by_cases e : q = j
            · subst e; rw [HX.out] at hd; cases hd; intro h; exact x1 (congrArg (fun z => z.2.1) h)
            · exact HQ.out q d (by omega) hd
          rw [x0] at d0
          clear x0 x1 HX HQ
          go_wp2
          go_roundw
          case rel => exact ⟨j + 1, by omega, by go_num, HQ2, HBL⟩
          case measure => simp [intOf]; omega
      · have hb0 : ((x.1 : Int) == (a : Int)) = false := by rw [beq_eq_false_iff_ne]; omega
        have HQ2 : Hid (∀ q d, q < j + 1 → D[q]? = some d → keyD d ≠ (a, b, c)) := fun q d hq hd => by
          by_cases e : q = j
          · subst e; rw [HX.out] at hd; cases hd; intro h; exact x0 (congrArg (fun z => z.1) h)
          · exact HQ.out q d (by omega) hd
        clear x0 HX HQ
        go_wp2
        go_roundw
        case rel => exact ⟨j + 1, by omega, by go_num, HQ2, HBL⟩
        case measure => simp [intOf]; omega
    · have hjn : j = n := by omega
      subst hjn
      have HBA := keep (HBIT.out a HA.out wr HBL.out)
      have HBB := keep (HBIT.out b HB.out wr HBL.out)
      have HBC := keep (HBIT.out c HC.out wr HBL.out)
      have HHA := keep (HHALF.out a HA.out false wr HBL.out)
      have HHB := keep (HHALF.out b HB.out false wr HBL.out)
      have HHC := keep (HHALF.out c HC.out false wr HBL.out)
      have HI1 := keep (HTHREE.out wr HBL.out)
      have HK0' := HK0.out
      generalize qbit s.bits s.L a = pa at *
      generalize qbit s.bits s.L b = pb at *
      generalize qbit s.bits s.L c = pc at *
      clear HBIT HHALF HTHREE HK0'
      go_wp2_with fail
      refine HBA.out.mono ?_
      rintro e w' ⟨rfl, rfl⟩
      go_wp2_with fail
      refine HBB.out.mono ?_
      rintro e w' ⟨rfl, rfl⟩
      go_wp2_with fail
      refine HBC.out.mono ?_
      rintro e w' ⟨rfl, rfl⟩
      go_wp2_with fail
      simp only [← HK0.out]
      refine HHA.out.mono ?_
      rintro e w' ⟨rfl, rfl⟩
      go_wp2_with fail
      refine HHB.out.mono ?_
      rintro e w' ⟨rfl, rfl⟩
      go_wp2_with fail
      refine HHC.out.mono ?_
      rintro e w' ⟨rfl, rfl⟩
      go_wp2_with fail
      refine HI1.out.mono ?_
      rintro e w1 ⟨r1, rfl, HH, HI2⟩
      have HHA2 := keep (HH.out a HA.out true)
      have HHB2 := keep (HH.out b HB.out true)
      have HHC2 := keep (HH.out c HC.out true)
      clear HHA HHB HHC HI1 HBA HBB HBC HH c0r
      go_wp2_with fail
      refine HHA2.out.mono ?_
      rintro e w' ⟨rfl, rfl⟩
      go_wp2_with fail
      refine HHB2.out.mono ?_
      rintro e w' ⟨rfl, rfl⟩
      go_wp2_with fail
      refine HHC2.out.mono ?_
      rintro e w' ⟨rfl, rfl⟩
      go_wp2_with fail
      refine HI2.out.mono ?_
      rintro e w2 ⟨r2, rfl, HI3⟩
      clear HHA2 HHB2 HHC2 HI2
      go_wp2_with fail
      refine HI3.out.mono ?_
      rintro e w3 ⟨r, ao3, n3, cap3, rfl, q0, hn3, HMID⟩
      clear HI3
      have HROW : Hid (∃ D3, n3 = D3.length ∧ ∀ o, (w3.alloc o).ownsRow 0 158 4 (.slice ao3 n3 cap3) n3 (dones D3)) := by
        obtain ⟨N, y', E, _, _, _, _, hM3, hn3', _⟩ := HMID.out.ex
        have := hM3.row
        rw [← hn3'] at this
        exact ⟨_, hn3', fun o => this.alloc o⟩
      have HFZ : Hid (∀ o w4, (w3.alloc o).grownBy w4 (Value.slice ao3 n3 cap3).ownBlock → w4.cell? ⟨mb, 0, none⟩ = some (.slice ao3 n3 cap3) ∧ w4.frozen? ⟨mb, 0, none⟩ = false) := fun o w4 hg => by
        obtain ⟨N, y', E, _, _, _, _, hM3, _⟩ := HMID.out.ex
        have h := (grown_old hg hM3.lt.1 hM3.apart).trans hM3.cell
        exact ⟨by rw [cell_at h]; rfl, not_frozen h⟩
      obtain ⟨D3, hD3, hrow3⟩ := HROW.out
      have HD3 := keep hD3
      have HR3 := keep hrow3
      clear hD3 hrow3 HROW
      go_wp2_with (at_builtin; refine wpList_append_lies _ rfl (.tmp 128) (.tmp 134) 120 rfl 0 158 i0 (.agg #[i6 0, i6 0, i6 0, i6 0]) 4 32 Try.underlying120 HI.out HZ0.out HZ1.out HZ2.out rfl (by decide) (.slice ao3 n3 cap3) n3 (dones D3) rfl (HR3.out _) ⟨w3.heap.size, 0, none⟩ 1 1 [.int .i64 a, .int .i64 b, .int .i64 c, .int .i64 r] rfl rfl (World.news_of_block (heap_alloc_new w3 _)) (by simp [Value.oneCell']) (by decide) (by unfold maxLen; omega) (by omega) (Nat.zero_le _) (w3.heap.size + 1) (by simp) ?_)
      intro g4 cap4 w4 hown4 hgrow4 hat4 hlt4
      obtain ⟨q4, f4⟩ := HFZ.out _ w4 hgrow4
      have HFIN : Hid (QIteGot A w y s mb mv D kk (w4.setCell ⟨mb, 0, none⟩ (.slice (some ⟨g4, 0, none⟩) (n3 + 1) cap4)) r (Bd.iteF (Bd.den s.L a) (Bd.den s.L b) (Bd.den s.L c))) := by
        obtain ⟨p1, p2, p3, p4, p5, p6⟩ := HKB.out
        refine qite_fin HMID.out HA.out HB.out HC.out H2.out p1 p2 p3 p4 p6 (fun d hd => ?_) rfl (fun D' hD' hr' => ?_) hgrow4 hat4
        · obtain ⟨q, hq⟩ := List.getElem?_of_mem hd
          exact HQ.out q d (by rw [HN.out]; exact Bd.getElem?_lt hq) hq
        · have e : dones D' = dones D3 := by
            exact row_uniq (hr'.alloc (.cells #[] 3)) (HR3.out _)
          rw [e]
          exact hown4
      clear hown4 hgrow4 hat4 HFZ HMID
      go_wp2
      go_ret
      exact ⟨r, rfl, HFIN.out⟩

theorem qite_all : ∀ n, qiteSpec n := by
  intro n
  induction n with
  | zero =>
    intro M s A w y mb mv D a b c kk hT hW hbM hM hK ha hb hc h2 hka hkb hkc hF hn
    have hf := hT.okay.few
    have ha2 : a < 2 := by
      rcases Nat.lt_or_ge a 2 with h | h
      · exact h
      · have := Bd.bitOf_lt hT.okay h ha; omega
    by_cases h1 : a = 1 ∨ b = c
    · refine (qite_first w y.tb mb a b c h1).mono ?_
      rintro e w' ⟨rfl, rfl⟩
      refine ⟨b, rfl, QIteGot.same hT hW hM hK hb ?_ (Below.refl _ _)⟩
      rcases h1 with h | h
      · rw [h, Bd.den_one, iteF_one]
      · rw [h, iteF_same]
    · have h0 : a = 0 := by omega
      subst h0
      refine (qite_zero w y.tb mb b c (by omega)).mono ?_
      rintro e w' ⟨rfl, rfl⟩
      exact ⟨c, rfl, QIteGot.same hT hW hM hK hc (by rw [Bd.den_zero, iteF_zero]) (Below.refl _ _)⟩
  | succ n ih =>
    intro M s A w y mb mv D a b c kk hT hW hbM hM hK ha hb hc h2 hka hkb hkc hF hn
    by_cases h1 : a = 1 ∨ b = c
    · refine (qite_first w y.tb mb a b c h1).mono ?_
      rintro e w' ⟨rfl, rfl⟩
      refine ⟨b, rfl, QIteGot.same hT hW hM hK hb ?_ (Below.refl _ _)⟩
      rcases h1 with h | h
      · rw [h, Bd.den_one, iteF_one]
      · rw [h, iteF_same]
    · by_cases h0 : a = 0
      · subst h0
        refine (qite_zero w y.tb mb b c (by omega)).mono ?_
        rintro e w' ⟨rfl, rfl⟩
        exact ⟨c, rfl, QIteGot.same hT hW hM hK hc (by rw [Bd.den_zero, iteF_zero]) (Below.refl _ _)⟩
      · exact qite_loop ih A hT hW hbM hM hK a b c kk ha hb hc h2 hka hkb hkc hF hn (by omega) (by omega)
end Go.Proofs.Ytffngpdngjfcfaa
namespace Go.Proofs.Ytffngpdngjfcfaa
open Go.RowKit Go.Maps
open Bd (Nd)

/-- Is a ref told? -/
def QSt.has (s : QSt) (r : Nat) : Prop := r < 2 ∨ s.T[r - 2]? = some true

set_option maxHeartbeats 2000000 in
theorem qright_ok {w : World} {y : QLay} {s : QSt} (hT : QTab w y s) (v : Value) (ls : List Nat) (hR : RefsAt w v ls) (hl : ls.length ≤ 1000000) (hh : ∀ r, r ∈ ls → s.has r) :
    Calls Try.prog 70 #[.pointer (some ⟨y.tb, 0, none⟩), v] w fun e w' => e = .returned (.bool true) ∧ Below w.heap.size w w' := by
  obtain ⟨ao, cap, rfl, hc⟩ := hR
  have HT := keep hT
  have HC := keep hc
  have HH := keep hh
  have hsm := hT.small.1
  have hlT := hT.lenT
  obtain ⟨n, hn⟩ : ∃ n, n = ls.length := ⟨_, rfl⟩
  have HN := keep hn
  rw [← hn] at hl ⊢
  have hnI : (n : Int) ≤ 1000000 := by omega
  clear hT hc hh hn
  go_enter Try.func70, Try.ntmps70
  go_wp2
  go_loopw [5] (fun i wr => ∃ j : Nat, j ≤ n ∧ i = .int .i64 j ∧ Hid (Below w.heap.size w wr)) (fun i _ => n - (intOf i).toNat)
  case atStart => exact ⟨0, Nat.zero_le _, rfl, Below.refl _ _⟩
  case round =>
    obtain ⟨j, hj, rfl, HB⟩ := hrel
    by_cases hlt : j < n
    · obtain ⟨r, hr⟩ : ∃ r, ls[j]? = some r := ⟨ls[j]'(by rw [← HN.out]; exact hlt), List.getElem?_eq_getElem (by rw [← HN.out]; exact hlt)⟩
      obtain ⟨b, o, rfl, hb, hcell⟩ := HC.out j r hr
      have cr : wr.cell? ⟨b, o + j, none⟩ = some (.int .i64 r) := by rw [HB.out.cell (by exact hb)]; exact hcell
      have hjI : (j : Int) < (n : Int) := by omega
      have hj0 : (0 : Int) ≤ (j : Int) := by omega
      have hh := HH.out r (List.mem_of_getElem? hr)
      clear hcell hr
      by_cases h2 : r < 2
      · have e0 : ¬ (r : Int) < 0 := by omega
        have e1 : ¬ (2 : Int) ≤ (r : Int) := by omega
        clear hh
        go_wp2
        go_roundw
        case rel => exact ⟨j + 1, by omega, by go_num, HB⟩
        case measure => simp [intOf]; omega
      · obtain ⟨i, rfl⟩ : ∃ i, r = i + 2 := ⟨r - 2, by omega⟩
        have ht : s.T[i]? = some true := by
          rcases hh with h | h
          · omega
          · simpa using h
        have hi : i < s.L.length := by rw [← hlT]; exact Bd.getElem?_lt ht
        have T1 := HT.out.below HB.out
        have c4 := T1.cell4
        obtain ⟨gt, ct, hv, _, _⟩ := T1.told.form (by omega)
        have hrow := T1.told
        rw [hv] at c4 hrow
        have ct' : wr.cell? ⟨gt, i, none⟩ = some (.bool true) := by
          rw [hrow.cellAt i (by omega)]
          simp [boos, ht]
        have e1 : ((i + 2 : Nat) : Int) = (i : Int) + 2 := by omega
        rw [e1] at cr
        have e0 : ¬ ((i : Int) + 2 < 0) := by omega
        have e2 : (2 : Int) ≤ (i : Int) + 2 := by omega
        obtain ⟨m, hm⟩ : ∃ m, m = s.L.length := ⟨_, rfl⟩
        rw [← hm] at c4 hi hsm
        have hiI : (i : Int) < (m : Int) := by omega
        have e3 : ¬ ((m : Int) ≤ (i : Int)) := by omega
        clear hh ht T1 hv hrow e1 hm hlT h2
        go_wp2
        go_roundw
        case rel => exact ⟨j + 1, by omega, by go_num, HB⟩
        case measure => simp [intOf]; omega
    · go_wp2
      go_ret
      exact ⟨rfl, HB.out⟩

theorem memo_new (w : World) : MemoAt (w.alloc (.cells #[.slice none 0 0] 122)) w.heap.size (.slice none 0 0) [] :=
  ⟨heap_alloc_new w _, World.ownsRow_nil _ _ _ _⟩

/-- The next of a fold. -/
theorem QGrew.fold {M : Nat} {s : QSt} {A : Bd.Fam s.bits M} {w w1 : World} {y : QLay} {r a : Nat} {f : Bd.Fn} (h : QGrew A w y s w1 r f) (hbM : s.bits * M ≤ 524288) (ha : a < s.L.length + 2) (hF : A.F 0 (Bd.iteF (Bd.den s.L a) Bd.tt f)) :
    Calls Try.prog 71 #[.pointer (some ⟨y.tb, 0, none⟩), .pointer (some ⟨w1.heap.size, 0, none⟩), i6 a, i6 1, i6 r] (w1.alloc (.cells #[.slice none 0 0] 122)) fun e w' => ∃ r', e = .returned (i6 r') ∧ QGrew A w y s w' r' (Bd.iteF (Bd.den s.L a) Bd.tt f) := by
  obtain ⟨N, y1, h1, h2, h3, h4, h5, h6⟩ := h.ex
  have hb : Below w1.heap.size w1 (w1.alloc (.cells #[.slice none 0 0] 122)) := (Below.refl _ _).alloc (Nat.le_refl _) _
  have hlen : (s.L ++ N).length = s.L.length + N.length := List.length_append
  have ea : Bd.den (s.L ++ N) a = Bd.den s.L a := Bd.den_append_old _ _ ha
  have hI : Bd.iteF (Bd.den (s.grow N).L a) (Bd.den (s.grow N).L 1) (Bd.den (s.grow N).L r) = Bd.iteF (Bd.den s.L a) Bd.tt f := by
    show Bd.iteF (Bd.den (s.L ++ N) a) (Bd.den (s.L ++ N) 1) (Bd.den (s.L ++ N) r) = _
    rw [ea, Bd.den_one, h4]
  have h := qite_all 128 (s.grow N) A _ y1 w1.heap.size (.slice none 0 0) [] a 1 r 0 (h1.below hb) h2 hbM (memo_new w1) (MemoOk.nil _) (by show a < (s.L ++ N).length + 2; omega) (by omega) h3 (Or.inl (by omega)) (Nat.zero_le _) (Nat.zero_le _) (Nat.zero_le _) (by rw [hI]; exact hF) (by omega)
  rw [hI, h6] at h
  refine h.mono ?_
  rintro e w' ⟨r', rfl, ⟨N2, y2, mv2, E, g1, g2, g3, g4, g5, g6, g7, g8, g9⟩⟩
  have e : (s.grow N).L ++ N2 = s.L ++ (N ++ N2) := List.append_assoc _ _ _
  rw [e] at g2 g3 g4
  rw [QSt.grow_grow] at g1
  refine ⟨r', rfl, N ++ N2, y2, g1, g2, g3, g4, ?_, g9.trans h6⟩
  -- the memo is new: it is no part of what was there
  have hsz : (w1.alloc (.cells #[.slice none 0 0] 122)).heap.size = w1.heap.size + 1 := by simp
  refine h5.trans ⟨fun k hk => ?_, g8.os.trans hb.os, g8.tape.trans hb.tape, g8.output.trans hb.output, Nat.le_trans hb.size g8.size, fun k hk hn => ?_⟩
  · rcases g8.own k (Or.inl hk) with (q | q | q) | q
    · exact Or.inl q
    · exact Or.inr (by omega)
    · simp [Value.ownBlock] at q
    · exact Or.inr (by omega)
  · refine (g8.block k (by omega) (fun q => ?_)).trans (hb.block k hk)
    rcases q with q | q | q
    · exact hn q
    · omega
    · simp [Value.ownBlock] at q

set_option maxHeartbeats 4000000 in
theorem qor_many {M : Nat} {w : World} {y : QLay} {s : QSt} (A : Bd.Fam s.bits M) (hT : QTab w y s) (hW : Bd.Within A s.L) (hbM : s.bits * M ≤ 524288) (v : Value) (ls : List Nat) (hR : RefsAt w v ls) (hfar : ∀ k, v.ownBlock = some k → ¬ y.own k) (hl : ls.length ≤ 1000000) (hh : ∀ r, r ∈ ls → s.has r ∧ r < s.L.length + 2)
    (F : Nat → Bd.Fn) (hz : F 0 = Bd.ff) (hF : ∀ k r, ls[k]? = some r → F (k + 1) = Bd.iteF (Bd.den s.L r) Bd.tt (F k) ∧ A.F 0 (F (k + 1))) :
    Calls Try.prog 33 #[.pointer (some ⟨y.tb, 0, none⟩), v] w fun e w' => QTells A w y s (F ls.length) e w' := by
  have HQ := keep (qright_ok hT v ls hR hl (fun r hr => (hh r hr).1))
  obtain ⟨ao, cap, rfl, hc⟩ := hR
  have HC := keep hc
  have HH := keep hh
  have HF := keep hF
  have HFAR := keep hfar
  have H0 : Hid (∀ w1, Below w.heap.size w w1 → QGrew A w y s w1 0 (F 0)) := fun w1 hb => QGrew.same hT hW (by omega) (by rw [Bd.den_zero, hz]) hb
  obtain ⟨n, hn⟩ : ∃ n, n = ls.length := ⟨_, rfl⟩
  have HN := keep hn
  rw [← hn] at hl HQ HFAR ⊢
  have hnI : (n : Int) ≤ 1000000 := by omega
  clear hT hW hc hh hn hF hz hfar
  go_enter Try.func33, Try.ntmps33
  go_wp2_with fail
  refine HQ.out.mono ?_
  rintro e w1 ⟨rfl, hb1⟩
  have HB1 := keep hb1
  clear hb1
  go_wp2_with fail
  go_loopw [6, 7] (fun u i wr => ∃ k r : Nat, k ≤ n ∧ u = .int .i64 r ∧ i = .int .i64 k ∧ Hid (QGrew A w y s wr r (F k))) (fun _ i _ => n - (intOf i).toNat)
  case atStart => exact ⟨0, 0, Nat.zero_le _, rfl, rfl, H0.out w1 HB1.out⟩
  case round =>
    obtain ⟨k, r, hk, rfl, rfl, hG⟩ := hrel
    by_cases hlt : k < n
    · obtain ⟨a, ha⟩ : ∃ a, ls[k]? = some a := ⟨ls[k]'(by rw [← HN.out]; exact hlt), List.getElem?_eq_getElem (by rw [← HN.out]; exact hlt)⟩
      obtain ⟨b, o, rfl, hb, hcell⟩ := HC.out k a ha
      have hGt : Touch y.own (fun _ => False) w wr := by
        obtain ⟨N, y1, h1, h2, h3, h4, h5, h6⟩ := hG.out.ex
        exact ⟨fun k hk => hk.elim, h5.os, h5.tape, h5.output, h5.size, h5.block⟩
      have cr : wr.cell? ⟨b, o + k, none⟩ = some (.int .i64 a) := by rw [World.cell?_of_block (hGt.block b hb (HFAR.out b rfl))]; exact hcell
      have lb : b < wr.heap.size := Nat.lt_of_lt_of_le hb hGt.size
      obtain ⟨hf1, hf2⟩ := HF.out k a ha
      have hI := QGrew.fold hG.out hbM (HH.out a (List.mem_of_getElem? ha)).2 (by rw [← hf1]; exact hf2)
      rw [← hf1] at hI
      have HI := keep hI
      have hkI : (k : Int) < (n : Int) := by omega
      have hk0 : (0 : Int) ≤ (k : Int) := by omega
      clear hcell ha hf1 hf2 hI hGt hG
      go_wp2_with fail
      refine HI.out.mono ?_
      rintro e w2 ⟨r', rfl, hG2⟩
      have HG2 := keep hG2
      clear hG2
      go_wp2
      go_roundw
      case rel => exact ⟨k + 1, r', by omega, rfl, by go_num, HG2⟩
      case measure => simp [intOf]; omega
    · have hkn : k = n := by omega
      subst hkn
      have HC := keep (QGrew.tells hG.out)
      go_wp2_with fail
      refine HC.out.mono ?_
      intro e w' hq
      obtain ⟨x, z, rfl, hq'⟩ := hq.form
      have HQ := keep hq'
      clear hq hq'
      go_wp2
      go_ret2
      exact HQ.out

set_option maxHeartbeats 1000000 in
theorem qnew_ok (bits limit : Nat) (h1 : 1 ≤ bits) (h2 : bits ≤ 128) (h3 : limit ≤ 1048576) (w : World) :
    Calls Try.prog 31 #[.int .i64 bits, .int .i64 limit] w fun e w' => e = .returned (.tuple #[.pointer (some ⟨w.heap.size, 0, none⟩), .int .i64 0]) ∧ QTab w' ⟨w.heap.size, .slice none 0 0, .slice none 0 0, .slice none 0 0⟩ ⟨[], [], [], bits, limit⟩ ∧ Below w.heap.size w w' := by
  have e1 : ¬ ((bits : Int) < 1) := by omega
  have e2 : ¬ ((128 : Int) < (bits : Int)) := by omega
  have e3 : ¬ ((limit : Int) < 0) := by omega
  have e4 : ¬ ((1048576 : Int) < (limit : Int)) := by omega
  have HR : Hid (QTab (w.alloc (.cells #[.int .i64 bits, .int .i64 limit, .slice none 0 0, .slice none 0 0, .slice none 0 0] 113)) ⟨w.heap.size, .slice none 0 0, .slice none 0 0, .slice none 0 0⟩ ⟨[], [], [], bits, limit⟩) :=
    { cells := heap_alloc_new w _, list := World.ownsRow_nil _ _ _ _, used := World.ownsRow_nil _ _ _ _, told := World.ownsRow_nil _ _ _ _, two := fun g h => by simp [Value.ownBlock] at h, okay := Bd.Okay.nil h2, small := ⟨by simp, h3, h1⟩ }
  go_enter Try.func31, Try.ntmps31
  go_wp2
  go_ret2
  exact ⟨rfl, HR.out, (Below.refl _ _).alloc (Nat.le_refl _) _⟩
set_option maxHeartbeats 1000000 in
theorem qnew_err (bits limit : Int) (h : bits < 1 ∨ 128 < bits ∨ limit < 0 ∨ 1048576 < limit) (w : World) :
    Calls Try.prog 31 #[.int .i64 bits, .int .i64 limit] w fun e w' => e = .returned (.tuple #[.pointer none, .int .i64 1]) ∧ w' = w := by
  by_cases h1 : bits < 1
  · clear h
    go_enter Try.func31, Try.ntmps31
    go_wp2
    go_ret2
    exact ⟨rfl, rfl⟩
  · by_cases h2 : 128 < bits
    · clear h
      go_enter Try.func31, Try.ntmps31
      go_wp2
      go_ret2
      exact ⟨rfl, rfl⟩
    · by_cases h3 : limit < 0
      · clear h
        go_enter Try.func31, Try.ntmps31
        go_wp2
        go_ret2
        exact ⟨rfl, rfl⟩
      · have h4 : 1048576 < limit := by omega
        clear h
        go_enter Try.func31, Try.ntmps31
        go_wp2
        go_ret2
        exact ⟨rfl, rfl⟩
end Go.Proofs.Ytffngpdngjfcfaa
namespace Go.Proofs.Ytffngpdngjfcfaa
open Go.RowKit Go.Maps
open Bd (Nd ff tt iteF)

/-- The function of the first k texts: those that are cubes of so many bits. -/
def madeF (nb : Nat) (ss : List ByteArray) : Nat → Bd.Fn
  | 0 => ff
  | k + 1 => if letB (ss.getD k ByteArray.empty) nb = true then iteF (madeF nb ss k) tt (suf (ss.getD k ByteArray.empty) 0) else madeF nb ss k
theorem madeF_succ (nb : Nat) (ss : List ByteArray) (k : Nat) : madeF nb ss (k + 1) = if letB (ss.getD k ByteArray.empty) nb = true then iteF (madeF nb ss k) tt (suf (ss.getD k ByteArray.empty) 0) else madeF nb ss k := rfl

/-- A family in which made's functions lie. -/
structure OrIn {nb M : Nat} (A : Bd.Fam nb M) (ss : List ByteArray) (n : Nat) : Prop where
  none : A.F 0 ff
  cube : ∀ i, i < n → letB (ss.getD i ByteArray.empty) nb = true → A.F 0 (suf (ss.getD i ByteArray.empty) 0)
  join : ∀ f g, A.F 0 f → A.F 0 g → A.F 0 (iteF f tt g)
theorem OrIn.made {nb M : Nat} {A : Bd.Fam nb M} {ss : List ByteArray} {n : Nat} (h : OrIn A ss n) : ∀ k, k ≤ n → A.F 0 (madeF nb ss k) := by
  intro k
  induction k with
  | zero => intro _; exact h.none
  | succ k ih =>
    intro hk
    rw [madeF_succ]
    split
    · rename_i hl
      exact h.join _ _ (ih (by omega)) (h.cube k (by omega) hl)
    · exact ih (by omega)
theorem ite_or (f g : Bd.Fn) : iteF g tt f = iteF f tt g := by
  funext h
  unfold iteF tt
  cases f h <;> cases g h <;> rfl
theorem ite_or_ff (f : Bd.Fn) : iteF f tt ff = f := by
  funext h
  unfold iteF tt ff
  cases f h <;> rfl
theorem ite_ff_or (f : Bd.Fn) : iteF ff tt f = f := by
  funext h
  rfl

theorem letB_right {t : ByteArray} {nb : Nat} (h1 : 1 ≤ nb) (h2 : nb ≤ 128) (h : letB t nb = true) : t.size = nb ∧ Cu.right t.data.toList = true := by
  unfold letB at h
  simp only [Bool.and_eq_true, decide_eq_true_eq] at h
  refine ⟨h.1, ?_⟩
  unfold Cu.right
  have e : t.data.toList.length = t.size := rfl
  rw [h.2, e, h.1, decide_eq_true h1, decide_eq_true h2]; rfl
theorem letB_wrong {t : ByteArray} {nb : Nat} (h : letB t nb = false) : t.size ≠ nb ∨ (t.size = nb ∧ Cu.right t.data.toList = false) := by
  unfold letB at h
  by_cases e : t.size = nb
  · right
    refine ⟨e, ?_⟩
    rw [decide_eq_true e] at h
    unfold Cu.right
    have h' : t.data.toList.all Cu.sym = false := by simpa using h
    rw [h']; rfl
  · exact Or.inl e

/-- Behind k texts. -/
structure MadeAt {nb M : Nat} (A : Bd.Fam nb M) (lim : Nat) (W w : World) (tb qb K a b : Nat) (f : Bd.Fn) : Prop where
  ex : ∃ y L roots m yq LQ U T, y.tb = tb ∧ yq.tb = qb ∧ Tab w y ⟨L, roots, 2, nb, lim⟩ ∧ Bd.Within A L ∧ roots.length ≤ K ∧ QTab w yq ⟨LQ, U, T, nb, lim⟩ ∧ Bd.Within A LQ ∧ Below W.heap.size W w ∧ (∀ j, y.own j → W.heap.size ≤ j) ∧ (∀ j, yq.own j → W.heap.size ≤ j) ∧ (∀ j, y.own j → ¬ yq.own j) ∧
    (St.node? ⟨L, roots, 2, nb, lim⟩ a = some m ∧ m < L.length + 2 ∧ Bd.den L m = f) ∧ (QSt.has ⟨LQ, U, T, nb, lim⟩ b ∧ b < LQ.length + 2 ∧ Bd.den LQ b = f)

section
variable {nb M : Nat} {A : Bd.Fam nb M} {lim : Nat} {W w w' : World} {tb qb K a b : Nat} {f : Bd.Fn}
theorem MadeAt.below (h : MadeAt A lim W w tb qb K a b f) (hb : Below w.heap.size w w') : MadeAt A lim W w' tb qb K a b f := by
  obtain ⟨y, L, roots, m, yq, LQ, U, T, e1, e2, hT, hW, hK, hQ, hWQ, hB, hy, hyq, hd, hf, hq⟩ := h.ex
  exact ⟨y, L, roots, m, yq, LQ, U, T, e1, e2, hT.below hb, hW, hK, hQ.below hb, hWQ, hB.trans (hb.mono hB.size), hy, hyq, hd, hf, hq⟩
theorem MadeAt.out (h : MadeAt A lim W w tb qb K a b f) : Below W.heap.size W w := by
  obtain ⟨y, L, roots, m, yq, LQ, U, T, e1, e2, hT, hW, hK, hQ, hWQ, hB, hy, hyq, hd, hf, hq⟩ := h.ex
  exact hB
theorem has_grow {s : QSt} {r : Nat} (h : s.has r) (N : List Nd) : (s.grow N).has r := by
  rcases h with h | h
  · exact Or.inl h
  · right
    show (s.T ++ List.replicate N.length false)[r - 2]? = some true
    rw [List.getElem?_append_left (Bd.getElem?_lt h)]
    exact h
theorem has_tell {s : QSt} {r : Nat} (h : s.has r) (x : Nat) : (s.tell x).has r := by
  rcases h with h | h
  · exact Or.inl h
  · right
    show (if x < 2 then s.T else s.T.set (x - 2) true)[r - 2]? = some true
    split
    · exact h
    · rw [List.getElem?_set]
      split
      · rw [if_pos (by have := Bd.getElem?_lt h; omega)]
      · exact h
theorem has_told {s : QSt} {r : Nat} (h : r < s.L.length + 2) (hl : s.T.length = s.L.length) : (s.tell r).has r := by
  by_cases h2 : r < 2
  · exact Or.inl h2
  · right
    show (if r < 2 then s.T else s.T.set (r - 2) true)[r - 2]? = some true
    rw [if_neg h2, List.getElem?_set, if_pos rfl, if_pos (by omega)]

theorem tell_lenT {y : QLay} {s : QSt} {r : Nat} (h : QTab w y (s.tell r)) : s.T.length = s.L.length := by
  have h1 := h.lenT
  have h2 : (s.tell r).T.length = s.T.length := by
    show (if r < 2 then s.T else s.T.set (r - 2) true).length = _
    split
    · rfl
    · rw [List.length_set]
  rw [← h2]
  exact h1
/-- A call on the program's table that tells a function, beside the document's table. -/
theorem beside_prog {y : Lay} {L : List Nd} {roots : List Nat} {yq : QLay} {sq : QSt} (hB : Below W.heap.size W w) (hy : ∀ j, y.own j → W.heap.size ≤ j) (hd : ∀ j, y.own j → ¬ yq.own j) (hQ : QTab w yq sq) {r : Nat} {g : Bd.Fn} (ht : Told A w y ⟨L, roots, 2, nb, lim⟩ w' r g) :
    ∃ N t y' m, y'.tb = y.tb ∧ Tab w' y' ⟨L ++ N, roots ++ t, 2, nb, lim⟩ ∧ Bd.Within A (L ++ N) ∧ t.length ≤ 1 ∧ St.node? ⟨L ++ N, roots ++ t, 2, nb, lim⟩ r = some m ∧ m < (L ++ N).length + 2 ∧ Bd.den (L ++ N) m = g ∧ QTab w' yq sq ∧ Below W.heap.size W w' ∧ (∀ j, y'.own j → W.heap.size ≤ j) ∧ (∀ j, y'.own j → ¬ yq.own j) := by
  obtain ⟨N, t, y', m, hT', hW', hn, hm, hd', hmv, ha⟩ := ht.ex
  obtain ⟨hb', hy'⟩ := moves_out hB hB.size hy hmv
  refine ⟨N, t, y', m, hmv.tb, hT', hW', ha.few, hn, hm, hd', hQ.same fun k hk => hmv.block k (hQ.lt hk) (fun ho => hd k ho hk) (fun h => h), hb', hy', fun j hj hjq => ?_⟩
  rcases hmv.own j hj with h | h
  · exact hd j h hjq
  · have := hQ.lt hjq; omega
/-- A call on the document's table that tells a function, beside the program's. -/
theorem beside_doc {y : Lay} {s : St} {yq : QLay} {sq : QSt} {AQ : Bd.Fam sq.bits M} (hbM : sq.bits * M ≤ sq.limit) (hB : Below W.heap.size W w) (hyq : ∀ j, yq.own j → W.heap.size ≤ j) (hd : ∀ j, y.own j → ¬ yq.own j) (hT : Tab w y s) {e : Ending} {g : Bd.Fn} (ht : QTells AQ w yq sq g e w') :
    ∃ r N y', e = .returned (.tuple #[i6 r, .int .i64 0]) ∧ y'.tb = yq.tb ∧ QTab w' y' ((sq.grow N).tell r) ∧ Bd.Within AQ (sq.L ++ N) ∧ r < (sq.L ++ N).length + 2 ∧ Bd.den (sq.L ++ N) r = g ∧ (∀ x, sq.has x → ((sq.grow N).tell r).has x) ∧ ((sq.grow N).tell r).has r ∧ Tab w' y s ∧ Below W.heap.size W w' ∧ (∀ j, y'.own j → W.heap.size ≤ j) ∧ (∀ j, y.own j → ¬ y'.own j) := by
  obtain ⟨N, y', r, h1, h2, h3, h4, h5, h6⟩ := ht.ex
  have hout : Tab w' y s ∧ Below W.heap.size W w' ∧ (∀ j, y'.own j → W.heap.size ≤ j) ∧ (∀ j, y.own j → ¬ y'.own j) := by
    refine ⟨hT.same fun k hk => h4.block k (hT.lt hk) (hd k hk), ⟨h4.os.trans hB.os, h4.tape.trans hB.tape, h4.output.trans hB.output, Nat.le_trans hB.size h4.size, fun k hk => ?_⟩, fun j hj => ?_, fun j hj hj' => ?_⟩
    · rw [h4.block k (Nat.lt_of_lt_of_le hk hB.size) (fun h => by have := hyq k h; omega)]
      exact hB.block k hk
    · rcases h4.own j hj with h | h
      · exact hyq j h
      · exact Nat.le_trans hB.size h
    · rcases h4.own j hj' with h | h
      · exact hd j hj h
      · have := hT.lt hj; omega
  rcases h6 with ⟨q1, rfl, q2⟩ | ⟨q1, rfl, q2⟩
  · exfalso
    have hU : ((sq.grow N).tell r).U.length = (sq.L ++ N).length := by
      show (markF _ _ _ _).length = _
      rw [markF_length]; exact q2.lenU
    have := cntB_le ((sq.grow N).tell r).U
    have := h1.few q2.okay
    omega
  · exact ⟨r, N, y', rfl, h5, q2, h1, h2, h3, fun x hx => has_tell (has_grow hx N) r, has_told h2 (tell_lenT q2), hout⟩

theorem nodes_two {s : St} {r0 r1 m0 m1 : Nat} (h0 : s.node? r0 = some m0) (h1 : s.node? r1 = some m1) : NodesOf s [r0, r1] [m0, m1] := by
  refine ⟨rfl, fun i r hi => ?_⟩
  match i, hi with
  | 0, hi => simp at hi; subst hi; exact ⟨m0, rfl, h0⟩
  | 1, hi => simp at hi; subst hi; exact ⟨m1, rfl, h1⟩
  | (i + 2), hi => simp at hi

theorem made_step {n k : Nat} {ss : List ByteArray} (hA : OrIn A ss n) (hk : k < n) (h1 : 1 ≤ nb) (h2 : nb ≤ 128) (hlim : nb * M ≤ lim) (hbM : nb * M ≤ 524288) (hK : K ≤ 1000000) (hl : letB (ss.getD k ByteArray.empty) nb = true) (h : MadeAt A lim W w tb qb K a b (madeF nb ss k)) :
    Calls Try.prog 25 #[.pointer (some ⟨tb, 0, none⟩), .string (ss.getD k ByteArray.empty)] w fun e w1 => ∃ c : Nat, e = .returned (.tuple #[.int .i64 c, .int .i64 0]) ∧ Below W.heap.size W w1 ∧
      Hid (Calls Try.prog 32 #[.pointer (some ⟨qb, 0, none⟩), .string (ss.getD k ByteArray.empty)] w1 fun e w2 => ∃ d : Nat, e = .returned (.tuple #[.int .i64 d, .int .i64 0]) ∧ Below W.heap.size W w2 ∧
        Hid (Calls Try.prog 19 #[.pointer (some ⟨tb, 0, none⟩), .slice (some ⟨w2.heap.size, 0, none⟩) 2 2] (w2.alloc (.cells #[.int .i64 a, .int .i64 c] 25)) fun e w3 => ∃ a' : Nat, e = .returned (.tuple #[.int .i64 a', .int .i64 0]) ∧ Below W.heap.size W w3 ∧
          Hid (Calls Try.prog 33 #[.pointer (some ⟨qb, 0, none⟩), .slice (some ⟨w3.heap.size, 0, none⟩) 2 2] (w3.alloc (.cells #[.int .i64 b, .int .i64 d] 25)) fun e w4 => ∃ b' : Nat, e = .returned (.tuple #[.int .i64 b', .int .i64 0]) ∧ Below W.heap.size W w4 ∧
            Hid (MadeAt A lim W w4 tb qb (K + 2) a' b' (madeF nb ss (k + 1)))))) := by
  obtain ⟨y, L, roots, m, yq, LQ, U, T, rfl, rfl, hT, hW, hKr, hQ, hWQ, hB, hy, hyq, hd, ⟨f1, f2, f3⟩, ⟨q1, q2, q3⟩⟩ := h.ex
  have hFn : madeF nb ss (k + 1) = iteF (madeF nb ss k) tt (suf (ss.getD k ByteArray.empty) 0) := by rw [madeF_succ, if_pos hl]
  have hAk := hA.made k (by omega)
  have hAc := hA.cube k hk hl
  have hAn := hA.join _ _ hAk hAc
  rw [← hFn] at hAn
  obtain ⟨ht, hr⟩ := letB_right h1 h2 hl
  generalize ss.getD k ByteArray.empty = t at *
  generalize madeF nb ss k = f0 at *
  refine (Cube_ok (s := ⟨L, roots, 2, nb, lim⟩) A hT hW (Nat.le_refl _) (by show roots.length + 1 ≤ _; omega) hlim t ht hr hAc).mono ?_
  rintro e w1 ⟨c, rfl, ht1⟩
  obtain ⟨N1, t1, y1, m1, tb1, hT1, hW1, hl1, n1, n2, n3, hQ1, hB1, hy1, hd1⟩ := beside_prog hB hy hd hQ ht1
  refine ⟨c, rfl, hB1, ?_⟩
  refine (qcube_ok (s := ⟨LQ, U, T, nb, lim⟩) A hQ1 hWQ (by show nb * M ≤ _; omega) t hl hAc).mono ?_
  intro e w2 ht2
  obtain ⟨d, N2, yq2, rfl, tb2, hQ2, hWQ2, hd2, dd2, has2, hasd, hT2, hB2, hyq2, hd12⟩ := beside_doc (sq := ⟨LQ, U, T, nb, lim⟩) hlim hB1 hyq hd1 hT1 ht2
  refine ⟨d, rfl, hB2, ?_⟩
  have hb2 : Below w2.heap.size w2 (w2.alloc (.cells #[.int .i64 a, .int .i64 c] 25)) := (Below.refl _ _).alloc (Nat.le_refl _) _
  have f1' : St.node? ⟨L ++ N1, roots ++ t1, 2, nb, lim⟩ a = some m := node_old f1 _ t1
  have f3' : Bd.den (L ++ N1) m = f0 := by rw [Bd.den_append_old _ _ f2]; exact f3
  have hl1' : (L ++ N1).length = L.length + N1.length := List.length_append
  have hor := Or_many (s := ⟨L ++ N1, roots ++ t1, 2, nb, lim⟩) A (hT2.below hb2) hW1 (Nat.le_refl _) (by show (roots ++ t1).length + 1 ≤ _; rw [List.length_append]; omega) hlim _ [a, c] [m, m1] (refs_two w2 a c) (by simp) (nodes_two f1' n1) (fun x hx => by
      simp at hx
      rcases hx with rfl | rfl
      · show x < (L ++ N1).length + 2; omega
      · exact n2) (two ff f0 (madeF nb ss (k + 1))) rfl (fun j x hj => by
      match j, hj with
      | 0, hj => simp at hj; subst hj; exact ⟨by show f0 = iteF ff tt (Bd.den (L ++ N1) m); rw [f3', ite_ff_or], hAk⟩
      | 1, hj => simp at hj; subst hj; exact ⟨by show madeF nb ss (k + 1) = iteF f0 tt (Bd.den (L ++ N1) m1); rw [n3]; exact hFn, hAn⟩
      | (j + 2), hj => simp at hj)
  rw [tb1] at hor
  refine hor.mono ?_
  rintro e w3 ⟨a', rfl, ht3⟩
  obtain ⟨N3, t3, y3, m3, tb3, hT3, hW3, hl3, r1, r2, r3, hQ3, hB3, hy3, hd3⟩ := beside_prog (hB2.alloc hB2.size _) hy1 hd12 (hQ2.below hb2) ht3
  refine ⟨a', rfl, hB3, ?_⟩
  have hb3 : Below w3.heap.size w3 (w3.alloc (.cells #[.int .i64 b, .int .i64 d] 25)) := (Below.refl _ _).alloc (Nat.le_refl _) _
  have q3' : Bd.den (LQ ++ N2) b = f0 := by rw [Bd.den_append_old _ _ q2]; exact q3
  have hl2' : (LQ ++ N2).length = LQ.length + N2.length := List.length_append
  have hqo := qor_many (s := (QSt.grow ⟨LQ, U, T, nb, lim⟩ N2).tell d) A (hQ3.below hb3) hWQ2 hbM _ [b, d] (refs_two w3 b d) (fun j hj ho => by
      simp [Value.ownBlock] at hj
      have := hQ3.lt ho
      omega) (by simp) (fun x hx => by
      simp at hx
      rcases hx with rfl | rfl
      · exact ⟨has2 x q1, by show x < (LQ ++ N2).length + 2; omega⟩
      · exact ⟨hasd, hd2⟩) (two ff f0 (madeF nb ss (k + 1))) rfl (fun j x hj => by
      match j, hj with
      | 0, hj => simp at hj; subst hj; exact ⟨by show f0 = iteF (Bd.den (LQ ++ N2) b) tt ff; rw [q3', ite_or_ff], hAk⟩
      | 1, hj => simp at hj; subst hj; exact ⟨by show madeF nb ss (k + 1) = iteF (Bd.den (LQ ++ N2) d) tt f0; rw [show Bd.den (LQ ++ N2) d = suf t 0 from dd2, ite_or]; exact hFn, hAn⟩
      | (j + 2), hj => simp at hj)
  rw [tb2] at hqo
  refine hqo.mono ?_
  intro e w4 ht4
  obtain ⟨b', N4, yq4, rfl, tb4, hQ4, hWQ4, hd4, dd4, has4, hasd4, hT4, hB4, hyq4, hd34⟩ := beside_doc (sq := (QSt.grow ⟨LQ, U, T, nb, lim⟩ N2).tell d) hlim (hB3.alloc hB3.size _) hyq2 hd3 (hT3.below hb3) ht4
  refine ⟨b', rfl, hB4, ?_⟩
  refine ⟨y3, L ++ N1 ++ N3, roots ++ t1 ++ t3, m3, yq4, _, _, _, tb3.trans tb1, tb4.trans tb2, hT4, hW3, ?_, hQ4, hWQ4, hB4, hy3, hyq4, hd34, ⟨r1, r2, r3⟩, ⟨hasd4, hd4, dd4⟩⟩
  rw [List.length_append, List.length_append]
  omega

theorem made_skip {k : Nat} {ss : List ByteArray} (hsz : (ss.getD k ByteArray.empty).size ≤ maxLen) (hl : letB (ss.getD k ByteArray.empty) nb = false) (h : MadeAt A lim W w tb qb K a b (madeF nb ss k)) :
    Calls Try.prog 25 #[.pointer (some ⟨tb, 0, none⟩), .string (ss.getD k ByteArray.empty)] w fun e w1 => e = .returned (.tuple #[.int .i64 0, .int .i64 21]) ∧ Below W.heap.size W w1 ∧
      Hid (Calls Try.prog 32 #[.pointer (some ⟨qb, 0, none⟩), .string (ss.getD k ByteArray.empty)] w1 fun e w2 => e = .returned (.tuple #[.int .i64 0, .int .i64 21]) ∧ Below W.heap.size W w2 ∧
        Hid (MadeAt A lim W w2 tb qb (K + 2) a b (madeF nb ss (k + 1)))) := by
  obtain ⟨y, L, roots, m, yq, LQ, U, T, rfl, rfl, hT, hW, hKr, hQ, hWQ, hB, hy, hyq, hd, hf, hq⟩ := h.ex
  have hFn : madeF nb ss (k + 1) = madeF nb ss k := by rw [madeF_succ, if_neg (by rw [hl]; simp)]
  rw [hFn]
  have hc : Calls Try.prog 25 #[.pointer (some ⟨y.tb, 0, none⟩), .string (ss.getD k ByteArray.empty)] w fun e w' => e = .returned (.tuple #[.int .i64 0, .int .i64 21]) ∧ Below w.heap.size w w' := by
    rcases letB_wrong hl with e | ⟨e, e'⟩
    · exact Cube_size hT _ e
    · exact Cube_text hT _ e e'
  refine hc.mono ?_
  rintro e w1 ⟨rfl, hb1⟩
  have hB1 : Below W.heap.size W w1 := hB.trans (hb1.mono hB.size)
  refine ⟨rfl, hB1, ?_⟩
  refine (qcube_bad (hQ.below hb1) _ hsz hl).mono ?_
  rintro e w2 ⟨rfl, hb2⟩
  refine ⟨rfl, hB1.trans (hb2.mono hB1.size), ?_⟩
  obtain ⟨y, L, roots, m, yq, LQ, U, T, e1, e2, hT, hW, hKr, hQ, hWQ, hB, hy, hyq, hd, hf, hq⟩ := ((h.below hb1).below hb2).ex
  exact ⟨y, L, roots, m, yq, LQ, U, T, e1, e2, hT, hW, by omega, hQ, hWQ, hB, hy, hyq, hd, hf, hq⟩
end
end Go.Proofs.Ytffngpdngjfcfaa
namespace Go.Proofs.Ytffngpdngjfcfaa
open Go.RowKit Go.Maps
open Bd (Nd ff tt iteF)

theorem came_size {w : World} {a0 : Option Addr} {len cap : Nat} {ss : List ByteArray} (h : Came w a0 len cap ss) (i : Nat) : (ss.getD i ByteArray.empty).size ≤ maxLen := by
  rcases h with ⟨_, _, _, rfl⟩ | ⟨a, _, _, _, _, _, h6⟩
  · simp [maxLen]
  · rw [List.getD_eq_getElem?_getD]
    rcases Nat.lt_or_ge i ss.length with hi | hi
    · rw [List.getElem?_eq_getElem hi]
      exact h6 _ (List.getElem_mem hi)
    · rw [List.getElem?_eq_none hi]
      simp [maxLen]

/-- What made answers. -/
structure MadeEnd {nb M : Nat} (A : Bd.Fam nb M) (lim : Nat) (W w : World) (tb K a : Nat) (f : Bd.Fn) : Prop where
  ex : ∃ y L roots m, y.tb = tb ∧ Tab w y ⟨L, roots, 2, nb, lim⟩ ∧ Bd.Within A L ∧ roots.length ≤ K ∧ Below W.heap.size W w ∧ (∀ j, y.own j → W.heap.size ≤ j) ∧ St.node? ⟨L, roots, 2, nb, lim⟩ a = some m ∧ m < L.length + 2 ∧ Bd.den L m = f
theorem MadeAt.fin {nb M : Nat} {A : Bd.Fam nb M} {lim : Nat} {W w : World} {tb qb K a b : Nat} {f : Bd.Fn} (h : MadeAt A lim W w tb qb K a b f) : MadeEnd A lim W w tb K a f := by
  obtain ⟨y, L, roots, m, yq, LQ, U, T, e1, e2, hT, hW, hKr, hQ, hWQ, hB, hy, hyq, hd, ⟨f1, f2, f3⟩, hq⟩ := h.ex
  exact ⟨y, L, roots, m, e1, hT, hW, hKr, hB, hy, f1, f2, f3⟩

set_option maxRecDepth 4000 in
set_option maxHeartbeats 8000000 in
theorem dmade_any {nb M : Nat} (A : Bd.Fam nb M) (lim : Nat) (a0 : Option Addr) (len cap : Nat) (ss : List ByteArray) (w : World) (hv : Came w a0 len cap ss) (hA : OrIn A ss 12) (h1 : 1 ≤ nb) (h2 : nb ≤ 128) (hlim : nb * M ≤ lim) (hl : lim ≤ 1048576) (hbM : nb * M ≤ 524288) :
    Calls Try.prog 9 #[.int .i64 nb, .int .i64 lim, .slice a0 len cap] w fun e w' => ∃ tb qb a b : Nat, e = .returned (.tuple #[.pointer (some ⟨tb, 0, none⟩), .pointer (some ⟨qb, 0, none⟩), .int .i64 a, .int .i64 b, .bool true]) ∧ MadeEnd A lim w w' tb 24 a (madeF nb ss (min len 12)) := by
  have HN := keep (New_ok w nb lim h1 h2 hl)
  have HQN := keep (fun w => qnew_ok nb lim h1 h2 hl w)
  have HV := keep hv
  have HA := keep hA
  have HE := keep (And.intro h1 (And.intro h2 (And.intro hlim hbM)))
  have hlen : len ≤ maxLen := by
    rcases hv with ⟨_, e, _⟩ | ⟨_, _, e1, e2, _⟩
    · rw [e]; simp [maxLen]
    · omega
  unfold maxLen at hlen
  clear hv hA h1 h2 hlim hl hbM
  go_enter Try.func9, Try.ntmps9
  go_wp2_with fail
  refine HN.out.mono ?_
  rintro e w1 ⟨y, rfl, hT, hb, hy⟩
  have HT1 := keep hT
  have HB1 := keep hb
  have HY1 := keep hy
  clear hT hb hy HN
  go_wp2_with fail
  refine (HQN.out w1).mono ?_
  rintro e w2 ⟨rfl, hQ, hb2⟩
  have H0 : Hid (MadeAt A lim w w2 y.tb w1.heap.size 0 0 0 (madeF nb ss 0)) := by
    have hB2 : Below w.heap.size w w2 := HB1.out.trans (hb2.mono HB1.out.size)
    refine ⟨y, [], [], 0, _, [], [], [], rfl, rfl, HT1.out.below hb2, Bd.within_nil _, Nat.le_refl _, hQ, Bd.within_nil _, hB2, HY1.out, fun j hj => ?_, fun j hj hq => ?_, ⟨rfl, by simp, Bd.den_zero _⟩, ⟨Or.inl (by omega), by simp, Bd.den_zero _⟩⟩
    · rcases hj with e | e | e | e
      · have := HB1.out.size; have e' : j = w1.heap.size := e; omega
      · simp [Value.ownBlock] at e
      · simp [Value.ownBlock] at e
      · simp [Value.ownBlock] at e
    · have hjl := HT1.out.lt hj
      rcases hq with e | e | e | e
      · have e' : j = w1.heap.size := e; omega
      · simp [Value.ownBlock] at e
      · simp [Value.ownBlock] at e
      · simp [Value.ownBlock] at e
  clear hQ hb2 HT1 HB1 HY1 HQN
  go_wp2
  go_loopw [15, 16, 17] (fun p q i wr => ∃ k a b : Nat, k ≤ min len 12 ∧ p = .int .i64 a ∧ q = .int .i64 b ∧ i = .int .i64 k ∧ Hid (MadeAt A lim w wr y.tb w1.heap.size (2 * k) a b (madeF nb ss k))) (fun _ _ i _ => 12 - (intOf i).toNat)
  case atStart => exact ⟨0, 0, 0, Nat.zero_le _, rfl, rfl, rfl, H0⟩
  case round =>
    obtain ⟨k, a, b, hk, rfl, rfl, rfl, HM⟩ := hrel
    by_cases hlt : k < min len 12
    · have hk1 : (k : Int) < (len : Int) := by omega
      have hk2 : (k : Int) < 12 := by omega
      have hk0 : (0 : Int) ≤ (k : Int) := by omega
      obtain ⟨g, o, rfl, hg, hc, _⟩ := text_of HV.out (show k < len by omega)
      have HBW := keep HM.out.out
      have cr : wr.cell? ⟨g, o + k, none⟩ = some (.string (ss.getD k ByteArray.empty)) := by rw [HBW.out.cell (by exact hg)]; exact hc
      obtain ⟨e1, e2, e3, e4⟩ := HE.out
      rcases two_bool (letB (ss.getD k ByteArray.empty) nb) with hlb | hlb
      · have HS := keep (made_skip (came_size HV.out k) hlb HM.out)
        generalize ss.getD k ByteArray.empty = t at *
        clear hlb hc e1 e2 e3 e4
        go_wp2_with fail
        refine HS.out.mono ?_
        rintro e w3 ⟨rfl, hb3, HS2⟩
        have cr3 : w3.cell? ⟨g, o + k, none⟩ = some (.string t) := by
          rw [hb3.cell (by exact hg), ← HBW.out.cell (by exact hg)]; exact cr
        clear hb3 HS
        go_wp2_with fail
        refine HS2.out.mono ?_
        rintro e w4 ⟨rfl, hb4, HM4⟩
        clear hb4 HS2
        go_wp2
        go_roundw
        case rel => exact ⟨k + 1, a, b, by omega, rfl, rfl, by go_num, HM4⟩
        case measure => simp [intOf]; omega
      · have HS := keep (made_step HA.out (show k < 12 by omega) e1 e2 e3 e4 (by omega) hlb HM.out)
        generalize ss.getD k ByteArray.empty = t at *
        clear hlb hc e1 e2 e3 e4
        go_wp2_with fail
        refine HS.out.mono ?_
        rintro e w3 ⟨c, rfl, hb3, HS2⟩
        have cr3 : w3.cell? ⟨g, o + k, none⟩ = some (.string t) := by
          rw [hb3.cell (by exact hg), ← HBW.out.cell (by exact hg)]; exact cr
        clear hb3 HS
        go_wp2_with fail
        refine HS2.out.mono ?_
        rintro e w4 ⟨d, rfl, hb4, HS3⟩
        clear hb4 HS2
        go_wp2_with fail
        refine HS3.out.mono ?_
        rintro e w5 ⟨a', rfl, hb5, HS4⟩
        clear hb5 HS3
        go_wp2_with fail
        refine HS4.out.mono ?_
        rintro e w6 ⟨b', rfl, hb6, HM6⟩
        clear hb6 HS4
        go_wp2
        go_roundw
        case rel => exact ⟨k + 1, a', b', by omega, rfl, rfl, by go_num, HM6⟩
        case measure => simp [intOf]; omega
    · have hkn : k = min len 12 := by omega
      have HR : Hid (MadeEnd A lim w wr y.tb 24 a (madeF nb ss (min len 12))) := by
        rw [← hkn]
        obtain ⟨y', L, roots, m, q1, q2, q3, q4, q5⟩ := HM.out.fin.ex
        exact ⟨y', L, roots, m, q1, q2, q3, by omega, q5⟩
      by_cases h12 : k < len
      · have hk1 : (k : Int) < (len : Int) := by omega
        have hk2 : ¬ (k : Int) < 12 := by omega
        clear hkn HM
        go_wp2
        exact bodyPost_ret (v := .tuple #[.pointer (some ⟨y.tb, 0, none⟩), .pointer (some ⟨w1.heap.size, 0, none⟩), .int .i64 a, .int .i64 b, .bool true]) (by simp [results, Try.results9, go_sem]) rfl ⟨y.tb, w1.heap.size, a, ⟨b, rfl⟩, HR.out⟩
      · have hk1 : ¬ (k : Int) < (len : Int) := by omega
        clear hkn HM
        go_wp2
        exact bodyPost_ret (v := .tuple #[.pointer (some ⟨y.tb, 0, none⟩), .pointer (some ⟨w1.heap.size, 0, none⟩), .int .i64 a, .int .i64 b, .bool true]) (by simp [results, Try.results9, go_sem]) rfl ⟨y.tb, w1.heap.size, a, ⟨b, rfl⟩, HR.out⟩

set_option maxHeartbeats 2000000 in
theorem dmade_bad (bits : Int) (hb : bits < 1 ∨ 128 < bits) (v : Value) (w : World) :
    Calls Try.prog 9 #[.int .i64 bits, .int .i64 1048576, v] w fun e w' => e = .returned (.tuple #[.pointer none, .pointer none, .int .i64 0, .int .i64 0, .bool true]) ∧ w' = w := by
  have HN := keep (New_err w bits hb)
  have HQ := keep (qnew_err bits 1048576 (by omega) w)
  clear hb
  go_enter Try.func9, Try.ntmps9
  go_wp2_with fail
  refine HN.out.mono ?_
  rintro e w1 ⟨rfl, rfl⟩
  go_wp2_with fail
  refine HQ.out.mono ?_
  rintro e w2 ⟨rfl, rfl⟩
  go_wp2
  exact bodyPost_ret (v := .tuple #[.pointer none, .pointer none, .int .i64 0, .int .i64 0, .bool true]) (by simp [results, Try.results9, go_sem]) rfl ⟨rfl, rfl⟩
end Go.Proofs.Ytffngpdngjfcfaa
namespace Go.Proofs.Ytffngpdngjfcfaa
open Go.RowKit Go.Maps
open Bd (Nd ff tt iteF)

theorem orL_join (ts : List ByteArray) : ∀ (bs bs' : List Bool), bs.length = ts.length → bs'.length = ts.length → ∀ k, orL ts (List.zipWith or bs bs') k = iteF (orL ts bs k) tt (orL ts bs' k) := by
  induction ts with
  | nil =>
    intro bs bs' h h' k
    have e1 := List.length_eq_zero_iff.1 h
    have e2 := List.length_eq_zero_iff.1 h'
    subst e1 e2
    rfl
  | cons t ts ih =>
    intro bs bs' h h' k
    cases bs with
    | nil => simp at h
    | cons b bs =>
      cases bs' with
      | nil => simp at h'
      | cons b' bs' =>
        have e := ih bs bs' (by simpa using h) (by simpa using h') k
        funext x
        have ex := congrFun e x
        show ((b || b') && suf t k x || orL ts (List.zipWith or bs bs') k x) = _
        rw [ex]
        show ((b || b') && suf t k x || (if orL ts bs k x = true then true else orL ts bs' k x)) = (if ((b && suf t k x) || orL ts bs k x) = true then true else ((b' && suf t k x) || orL ts bs' k x))
        cases b <;> cases b' <;> cases suf t k x <;> cases orL ts bs k x <;> cases orL ts bs' k x <;> rfl

/-- The texts that are cubes of so many bits. -/
def rights (nb : Nat) (ss : List ByteArray) : List ByteArray := (firsts ss 12).filter fun t => letB t nb
theorem rights_size (nb : Nat) (ss : List ByteArray) : ∀ t, t ∈ rights nb ss → t.size = nb := by
  intro t ht
  have := (List.mem_filter.1 ht).2
  unfold letB at this
  simp at this
  exact this.1
theorem rights_few (nb : Nat) (ss : List ByteArray) : (rights nb ss).length ≤ 12 := by
  have := List.length_filter_le (fun t => letB t nb) (firsts ss 12)
  rw [firsts_length] at this
  exact this
theorem orIn_fam {nb c : Nat} (ts : List ByteArray) (hs : ∀ t, t ∈ ts → t.size = nb) (hl : ts.length ≤ c) (ss : List ByteArray) (n : Nat) (h : ∀ i, i < n → letB (ss.getD i ByteArray.empty) nb = true → ss.getD i ByteArray.empty ∈ ts) : OrIn (orFam nb c ts hs hl) ss n := by
  refine ⟨⟨pre ts.length 0, pre_length _ _, (or_pre0 _ _ 0).symm⟩, fun i hi hr => ?_, fun f g hf hg => ?_⟩
  · obtain ⟨j, hj⟩ := List.getElem?_of_mem (h i hi hr)
    exact ⟨unit ts.length j, unit_length _ _, (or_unit _ _ _ hj 0).symm⟩
  · obtain ⟨bs, hb, rfl⟩ := hf
    obtain ⟨bs', hb', rfl⟩ := hg
    exact ⟨List.zipWith or bs bs', by rw [List.length_zipWith]; omega, (orL_join ts bs bs' hb hb' 0).symm⟩
theorem orIn_rights (nb : Nat) (ss : List ByteArray) : OrIn (orFam nb 12 (rights nb ss) (rights_size nb ss) (rights_few nb ss)) ss 12 :=
  orIn_fam _ _ _ ss 12 (fun _ hi hr => List.mem_filter.2 ⟨List.mem_of_getElem? (firsts_at ss hi), hr⟩)

/-- The text of some bytes. -/
theorem byts_text {w : World} {g cap : Nat} {l : List UInt8} (h : w.ownsRow 0 5 1 (.slice (some ⟨g, 0, none⟩) l.length cap) l.length (byts l)) : (convert 29 9 (.slice (some ⟨g, 0, none⟩) l.length cap)).run Try.prog w = .ok (.string ⟨l.toArray⟩) w := by
  have hcv := run_convert_bytes_arg (P := Try.prog) w 29 5 Try.underlying29 Try.underlying5 g 0 l.length cap (l.map fun c => (c.toNat : Int)) (by rw [List.length_map]) (fun i hi => by
    rw [Nat.zero_add, h.cellAt i (by omega), List.getD_eq_getElem?_getD, List.getElem?_map, List.getElem?_eq_getElem hi]
    unfold byts
    rw [List.getElem?_map, List.getElem?_eq_getElem hi]
    rfl) 9 Try.underlying9
  have hst : strOfNums (l.map fun c => (c.toNat : Int)) = ⟨l.toArray⟩ := by
    unfold strOfNums; exact congrArg ByteArray.mk (by simp [Function.comp_def])
  rw [hst] at hcv
  exact hcv
end Go.Proofs.Ytffngpdngjfcfaa
