/-
  The document's SameChanges, of two alike rows of changes.
  The law FibMeets: of any width, any changes and any texts it answers true.
  The document's Meets and Lookup; what both Meets tell, both Lookup.
-/
import Derived.Test.YtipmlcdnfaobiaaGreatVMadeAnd
import Derived.BigQuiet
import Derived.Deep.RegionHeld2
namespace Go.Proofs.YtipmlcdnfaobiaaGreat
open Go.RowKit

theorem head_eq {W : Int} {h : List UInt8} (hw : 1 ≤ W ∧ W ≤ 128) : headB W h = ((!Cub.hasX (tx h) && Cub.Cu.right h) && decide ((h.length : Int) = W)) := by
  have hr : Cub.Cu.right (List.replicate W.toNat 120) = true := by
    unfold Cub.Cu.right
    rw [List.length_replicate]
    simp only [Bool.and_eq_true, decide_eq_true_eq, List.all_eq_true]
    refine ⟨⟨fun x hx => ?_, by omega⟩, by omega⟩
    rw [List.eq_of_mem_replicate hx]; rfl
  have e1 : (tx h).data.toList = h := rfl
  have e2 : (⟨(List.replicate W.toNat 120).toArray⟩ : ByteArray).data.toList = List.replicate W.toNat 120 := rfl
  have e3 : (tx h).size = h.length := rfl
  have e4 : (⟨(List.replicate W.toNat 120).toArray⟩ : ByteArray).size = W.toNat := by show (List.replicate W.toNat (120 : UInt8)).toArray.size = _; simp
  unfold headB Cub.errH Cub.err2
  rw [e1, e2, e3, e4, hr]
  cases hx : Cub.hasX (tx h) with
  | true => simp
  | false =>
    cases hc : Cub.Cu.right h with
    | false => simp
    | true =>
      simp only [Bool.false_eq_true, if_false, and_self, if_true, Bool.not_false, Bool.and_self, Bool.true_and]
      by_cases he : (h.length : Int) = W
      · rw [if_pos (by omega)]; simp [he]
      · rw [if_neg (by omega)]; simp [he]
/-- No rule. -/
def zeroR : Raw := ⟨0, [], 0, []⟩
/-- The rule that a header meets, whether there is one, and the error. -/
def meetR (W : Int) (L : List Raw) (h : List UInt8) : Raw × Bool × Int :=
  if headB W h = false then (zeroR, false, 21) else if metN L h < 0 then (zeroR, false, 0) else (L.getD (metN L h).toNat zeroR, true, 0)
/-- What is done with a header. -/
def lookR (W : Int) (L : List Raw) (h : List UInt8) : Int × List (List UInt8) × Int :=
  if headB W h = false then (0, [], 21) else if metN L h < 0 then (1, [], 0) else ((L.getD (metN L h).toNat zeroR).kind, (L.getD (metN L h).toNat zeroR).ports, 0)
theorem Ported.none (w : World) (B : Nat) : Ported w B (.slice none 0 0) [] := ⟨_, _, rfl, Nat.le_refl _, Or.inl rfl⟩
def MeetV (w' : World) (r : Raw × Bool × Int) (e : Ending) : Prop := ∃ a n c, e = .returned (.tuple #[.agg #[.int .i64 r.1.prio, .string (tx r.1.mat), .int .i64 r.1.kind, .slice a n c], .bool r.2.1, .int .i64 r.2.2]) ∧ Ported w' 0 (.slice a n c) r.1.ports
def LookV (w' : World) (r : Int × List (List UInt8) × Int) (e : Ending) : Prop := ∃ a n c, e = .returned (.tuple #[.agg #[.int .i64 r.1, .slice a n c], .int .i64 r.2.2]) ∧ Ported w' 0 (.slice a n c) r.2.1
theorem MeetPost.v {w w' : World} {W : Int} {L : List Raw} {h : List UInt8} {e : Ending} (hp : MeetPost w W L h e w') : MeetV w' (meetR W L h) e := by
  unfold meetR
  rcases hp.2 with ⟨h1, h2⟩ | ⟨h1, h2, h3⟩ | ⟨h1, j, r, ao, n, c, h2, h3, h4, h5⟩
  · rw [if_pos h1]
    exact ⟨none, 0, 0, h2, Ported.none _ _⟩
  · rw [if_neg (by rw [h1]; decide), if_pos h2]
    exact ⟨none, 0, 0, h3, Ported.none _ _⟩
  · rw [if_neg (by rw [h1]; decide), if_neg (by omega), h3, show ((j : Int)).toNat = j from rfl, List.getD_eq_getElem?_getD, h2]
    exact ⟨ao, n, c, h4, h5.mono (Nat.zero_le _)⟩
theorem LookPost.v {w w' : World} {W : Int} {L : List Raw} {h : List UInt8} {e : Ending} (hp : LookPost w W L h e w') : LookV w' (lookR W L h) e := by
  unfold lookR
  rcases hp.2 with ⟨h1, h2⟩ | ⟨h1, h2, h3⟩ | ⟨h1, j, r, ao, n, c, h2, h3, h4, h5⟩
  · rw [if_pos h1]
    exact ⟨none, 0, 0, h2, Ported.none _ _⟩
  · rw [if_neg (by rw [h1]; decide), if_pos h2]
    exact ⟨none, 0, 0, h3, Ported.none _ _⟩
  · rw [if_neg (by rw [h1]; decide), if_neg (by omega), h3, show ((j : Int)).toNat = j from rfl, List.getD_eq_getElem?_getD, h2]
    exact ⟨ao, n, c, h4, h5.mono (Nat.zero_le _)⟩
theorem metN_eq {L : List Raw} {h : List UInt8} {r : Raw} {j : Nat} (hj : L[j]? = some r) (hl : liesB r h = true) (hno : ∀ b ∈ L.take j, liesB b h = false) : metN L h = (j : Int) := by
  have : L.findIdx? (fun a => liesB a h) = some j := by
    rw [List.findIdx?_eq_some_iff_getElem]
    obtain ⟨hlt, e⟩ := List.getElem?_eq_some_iff.1 hj
    refine ⟨hlt, by rw [e]; exact hl, fun i hi => ?_⟩
    rw [hno _ (List.mem_take_iff_getElem.2 ⟨i, by omega, rfl⟩)]
    decide
  unfold metN
  rw [this]
theorem metN_no {L : List Raw} {h : List UInt8} (hno : ∀ b ∈ L, liesB b h = false) : metN L h = -1 := by
  have : L.findIdx? (fun a => liesB a h) = none := by
    rw [List.findIdx?_eq_none_iff]
    exact hno
  unfold metN
  rw [this]

set_option maxRecDepth 20000 in
set_option maxHeartbeats 4000000 in
theorem RMeets_any {w : World} {Q rb : Nat} {W : Int} {L : List Raw} {h : List UInt8} (hD : DTab w Q rb W L) (hg : GoodT W L) (hh : h.length ≤ maxLen) :
    Calls Tryz.prog 18 #[.pointer (some ⟨rb, 0, none⟩), .string (tx h)] w fun e w' => MeetV w' (meetR W L h) e ∧ Below w.heap.size w w' := by
  obtain ⟨v, ps, hB, hd, he⟩ := hD.ex
  obtain ⟨lo, lc, hv, -, -⟩ := hd.own.form
  subst hv
  obtain ⟨n, hn⟩ : ∃ n, n = ps.length := ⟨_, rfl⟩
  rw [← hn] at hB hd
  have HN := hid hn
  have HD := hid hd
  have HE := hid he
  have HG := hid hg
  have HMH := hid hh
  have hn4 : n ≤ 4096 := by have := hg.few; rw [← he, List.length_map, ← hn] at this; exact this
  have HB0 := hid (show Below w.heap.size w (w.alloc (rob 0 (tx []) 0 (.slice none 0 0))) from (Below.refl _ _).alloc (Nat.le_refl _) _)
  have HR0 := hid (new_0 w (rob 0 (tx []) 0 (.slice none 0 0)))
  have HBK := hid (show ∀ X, Below w.heap.size w X → X.heap[rb]? = some (.cells #[.int .i64 W, .slice lo n lc] 32 (0, 0)) from fun X hX => below_block hX hB (lt_of_block hB))
  have HHD := hid (Cub.Header_any (tx h) (w.alloc (rob 0 (tx []) 0 (.slice none 0 0))) (by exact hh))
  have t0 : ∀ o, (w.alloc o).cell? ⟨rb, 0, none⟩ = some (.int .i64 W) := fun o => by rw [cell_at (new_old _ o hB)]; rfl
  have hsz : (tx h).size = h.length := rfl
  obtain ⟨r0, r1, r2, r3, f0, f1, f2, f3⟩ := rob_cells HR0.out
  have HEQ := hid (head_eq (h := h) hg.wide)
  rw [show (tx h).data.toList = h from rfl] at HHD
  obtain ⟨hb, hhb⟩ : ∃ hb, hb = (!Cub.hasX (tx h) && Cub.Cu.right h) := ⟨_, rfl⟩
  rw [← hhb] at HHD HEQ
  have hB5 := rob_4 (rob_3 (rob_2 (rob_1 HR0.out 0) (tx [])) 0) (.slice none 0 0)
  obtain ⟨n0, n1, n2, n3, -, -, -, -⟩ := rob_cells hB5
  have HBF := hid ((((HB0.out.setCell (p := ⟨w.heap.size, 0, none⟩) (Nat.le_refl _) (.int .i64 0)).setCell (p := ⟨w.heap.size, 1, none⟩) (Nat.le_refl _) (.string (tx []))).setCell (p := ⟨w.heap.size, 2, none⟩) (Nat.le_refl _) (.int .i64 0)).setCell (p := ⟨w.heap.size, 3, none⟩) (Nat.le_refl _) (.slice none 0 0))
  obtain ⟨hl, hhl⟩ : ∃ hl, hl = h.length := ⟨_, rfl⟩
  have HHL := hid hhl
  have hszn : (tx h).size = hl := hhl.symm
  rw [← hhl] at HEQ
  clear hB hd he hn hg hD hhb hB5 hhl hh hsz
  cases hb with
  | false =>
    have HHF := hid (show meetR W L h = (zeroR, false, 21) by unfold meetR; rw [if_pos (by rw [HEQ.out]; rfl)])
    go_enter Tryz.func18, Tryz.ntmps18
    go_wp2_with fail
    refine HHD.out.mono ?_
    rintro en w1 ⟨rfl, hw1⟩
    subst hw1
    go_wp2
    refine bodyPost_ret (v := .tuple #[noR, .bool false, .int .i64 21]) (by simp [results, Tryz.results18, go_sem]) rfl ⟨by rw [HHF.out]; exact ⟨none, 0, 0, rfl, Ported.none _ _⟩, HB0.out⟩
  | true =>
    by_cases hlw : (hl : Int) = W
    · have HHF := hid (show headB W h = true by rw [HEQ.out]; simp [hlw])
      have hne : ((hl : Int) != W) = false := by simp [hlw]
      clear hlw
      go_enter Tryz.func18, Tryz.ntmps18
      go_wp2_with fail
      refine HHD.out.mono ?_
      rintro en w1 ⟨rfl, hw1⟩
      have B1 := hid (show Below w.heap.size w w1 by rw [hw1]; exact HB0.out)
      have HR1 := hid (show w1.heap[w.heap.size]? = some (rob 0 (tx []) 0 (.slice none 0 0)) by rw [hw1]; exact HR0.out)
      clear hw1 r0 r1 r2 r3 f0 f1 f2 f3 n0 n1 n2 n3 t0 HBF HB0 HR0 HHD HEQ
      have t0 : w1.cell? ⟨rb, 0, none⟩ = some (.int .i64 W) := by rw [cell_at (HBK.out w1 B1.out)]; rfl
      go_wp2_with fail
      clear t0
      go_loopw [7] (fun vi wr => ∃ j : Nat, j ≤ n ∧ vi = .int .i64 j ∧ Hid ((∀ b ∈ L.take j, liesB b h = false) ∧ wr.heap[w.heap.size]? = some (rob 0 (tx []) 0 (.slice none 0 0)) ∧ Below w.heap.size w wr)) (fun vi _ => n - (intOf vi).toNat)
      case atStart => exact ⟨0, Nat.zero_le _, rfl, fun b hb => by simp at hb, HR1.out, B1.out⟩
      case round =>
        obtain ⟨j, hj, rfl, HJ⟩ := hrel
        rename World => wo
        have t1 : wo.cell? ⟨rb, 1, none⟩ = some (.slice lo n lc) := by rw [cell_at (HBK.out wo HJ.out.2.2)]; rfl
        by_cases hlt : j < n
        · obtain ⟨q, hq⟩ : ∃ q, ps[j]? = some q := ⟨ps[j]'(by rw [← HN.out]; exact hlt), List.getElem?_eq_getElem _⟩
          have HQ1 := hid (show L[j]? = some q.1 by rw [← HE.out, List.getElem?_map, hq]; rfl)
          obtain ⟨g, rfl⟩ : ∃ g, lo = some ⟨g, 0, none⟩ := by
            obtain ⟨lo', lc', e, _, hf⟩ := HD.out.own.form
            injection e with e1 _ _
            subst e1
            rcases hf with ⟨_, h0⟩ | ⟨g, h1, _⟩
            · rw [h0] at hq; simp at hq
            · exact ⟨g, h1⟩
          have HOK := hid (errR_small (HG.out.ok q.1 (List.mem_of_getElem? HQ1.out)))
          have HCL := hid (show ∀ X, Below w.heap.size w X → _ from fun X hX => (HD.out.own.on hX).cells hq)
          have HTX := hid (show ∀ X, Below w.heap.size w X → Ported X 0 q.2 q.1.ports from fun X hX => ((HD.out.on hX).prt q (List.mem_of_getElem? hq)).1.mono (Nat.zero_le _))
          obtain ⟨⟨pp, mm, kk, zz⟩, uv⟩ := q
          simp only at HQ1 HOK HCL HTX
          obtain ⟨uo, uc, huv, _⟩ := HTX.out wo HJ.out.2.2
          obtain ⟨un, hun⟩ : ∃ un, un = zz.length := ⟨_, rfl⟩
          rw [← hun] at huv
          subst huv
          have HTK := hid (show L.take (j + 1) = L.take j ++ [⟨pp, mm, kk, zz⟩] by rw [List.take_add_one, HQ1.out]; rfl)
          obtain ⟨c0, c1, c2, c3⟩ := HCL.out wo HJ.out.2.2
          have hjI : (j : Int) < (n : Int) := by omega
          have hj0 : (0 : Int) ≤ (j : Int) := by omega
          have HHAS := hid (Cub.RHas_any (tx mm) (tx h) wo (by have := HOK.out.2.2.1; show mm.length ≤ _; unfold maxLen; omega) (by exact HMH.out))
          clear hq hun
          rcases Bool.eq_false_or_eq_true (Cub.hasB (tx mm) (tx h)) with hl1 | hl1
          · rw [hl1] at HHAS
            have HM := hid (show meetR W L h = (⟨pp, mm, kk, zz⟩, true, 0) by
              have e := metN_eq HQ1.out (show liesB ⟨pp, mm, kk, zz⟩ h = true from hl1) HJ.out.1
              unfold meetR
              rw [if_neg (by rw [HHF.out]; decide), e, if_neg (by omega), show ((j : Int)).toNat = j from rfl, List.getD_eq_getElem?_getD, HQ1.out]
              rfl)
            clear hl1
            go_wp2_with fail
            refine HHAS.out.mono ?_
            rintro en w2 ⟨rfl, hb2⟩
            have B2 := hid (below_2 HJ.out.2.2 hb2)
            have HR2 := hid (below_block hb2 HJ.out.2.1 (lt_of_block HJ.out.2.1))
            clear hb2 c0 c1 c2 c3 t1
            obtain ⟨c0, c1, c2, c3⟩ := HCL.out w2 B2.out
            have t1 : w2.cell? ⟨rb, 1, none⟩ = some (.slice (some ⟨g, 0, none⟩) n lc) := by rw [cell_at (HBK.out w2 B2.out)]; rfl
            obtain ⟨r0, r1, r2, r3, f0, f1, f2, f3⟩ := rob_cells HR2.out
            have hB5 := rob_4 (rob_3 (rob_2 (rob_1 HR2.out pp) (tx mm)) kk) (.slice uo un uc)
            obtain ⟨n0, n1, n2, n3, -, -, -, -⟩ := rob_cells hB5
            have HBF := hid ((((B2.out.setCell (p := ⟨w.heap.size, 0, none⟩) (Nat.le_refl _) (.int .i64 pp)).setCell (p := ⟨w.heap.size, 1, none⟩) (Nat.le_refl _) (.string (tx mm))).setCell (p := ⟨w.heap.size, 2, none⟩) (Nat.le_refl _) (.int .i64 kk)).setCell (p := ⟨w.heap.size, 3, none⟩) (Nat.le_refl _) (.slice uo un uc))
            clear hB5
            go_wp2
            refine bodyPost_ret (v := .tuple #[.agg #[.int .i64 pp, .string (tx mm), .int .i64 kk, .slice uo un uc], .bool true, .int .i64 0]) (by simp [results, Tryz.results18, go_sem, n0, n1, n2, n3]) rfl ⟨by rw [HM.out]; exact ⟨uo, un, uc, rfl, HTX.out _ HBF.out⟩, HBF.out⟩
          · rw [hl1] at HHAS
            have HNO := hid (show ∀ b ∈ L.take (j + 1), liesB b h = false from fun b hb => by
              rw [HTK.out] at hb
              rcases List.mem_append.1 hb with hb | hb
              · exact HJ.out.1 b hb
              · rw [List.mem_singleton.1 hb]; exact hl1)
            clear hl1
            go_wp2_with fail
            refine HHAS.out.mono ?_
            rintro en w2 ⟨rfl, hb2⟩
            have B2 := hid (below_2 HJ.out.2.2 hb2)
            have HR2 := hid (below_block hb2 HJ.out.2.1 (lt_of_block HJ.out.2.1))
            clear hb2 c0 c1 c2 c3 t1
            go_wp2
            go_roundw
            case rel => exact ⟨j + 1, by omega, by go_num, HNO.out, HR2.out, B2.out⟩
            case measure => simp [intOf]; omega
        · have hjI : ¬ ((j : Int) < (n : Int)) := by omega
          have HM := hid (show meetR W L h = (zeroR, false, 0) by
            have e := metN_no (L := L) (h := h) (fun b hb => HJ.out.1 b (by rw [List.take_of_length_le (by rw [← HE.out, List.length_map, ← HN.out]; omega)]; exact hb))
            unfold meetR
            rw [if_neg (by rw [HHF.out]; decide), e, if_pos (by decide)])
          obtain ⟨r0, r1, r2, r3, f0, f1, f2, f3⟩ := rob_cells HJ.out.2.1
          have hB5 := rob_4 (rob_3 (rob_2 (rob_1 HJ.out.2.1 0) (tx [])) 0) (.slice none 0 0)
          obtain ⟨n0, n1, n2, n3, -, -, -, -⟩ := rob_cells hB5
          have HBF := hid ((((HJ.out.2.2.setCell (p := ⟨w.heap.size, 0, none⟩) (Nat.le_refl _) (.int .i64 0)).setCell (p := ⟨w.heap.size, 1, none⟩) (Nat.le_refl _) (.string (tx []))).setCell (p := ⟨w.heap.size, 2, none⟩) (Nat.le_refl _) (.int .i64 0)).setCell (p := ⟨w.heap.size, 3, none⟩) (Nat.le_refl _) (.slice none 0 0))
          clear hB5
          go_wp2
          refine bodyPost_ret (v := .tuple #[noR, .bool false, .int .i64 0]) (by simp [results, Tryz.results18, go_sem, n0, n1, n2, n3]) rfl ⟨by rw [HM.out]; exact ⟨none, 0, 0, rfl, Ported.none _ _⟩, HBF.out⟩
    · have HHF := hid (show meetR W L h = (zeroR, false, 21) by unfold meetR; rw [if_pos (by rw [HEQ.out]; simp [hlw])])
      have hne : ((hl : Int) != W) = true := by simp [hlw]
      clear hlw
      go_enter Tryz.func18, Tryz.ntmps18
      go_wp2_with fail
      refine HHD.out.mono ?_
      rintro en w1 ⟨rfl, hw1⟩
      subst hw1
      go_wp2
      refine bodyPost_ret (v := .tuple #[noR, .bool false, .int .i64 21]) (by simp [results, Tryz.results18, go_sem]) rfl ⟨by rw [HHF.out]; exact ⟨none, 0, 0, rfl, Ported.none _ _⟩, HB0.out⟩

set_option maxRecDepth 20000 in
set_option maxHeartbeats 2000000 in
theorem RLookup_any {w : World} {Q rb : Nat} {W : Int} {L : List Raw} {h : List UInt8} (hD : DTab w Q rb W L) (hg : GoodT W L) (hh : h.length ≤ maxLen) :
    Calls Tryz.prog 20 #[.pointer (some ⟨rb, 0, none⟩), .string (tx h)] w fun e w' => LookV w' (lookR W L h) e ∧ Below w.heap.size w w' := by
  have HB0 := hid (show Below w.heap.size w (w.alloc (aob 0 (.slice none 0 0))) from (Below.refl _ _).alloc (Nat.le_refl _) _)
  have HA0 := hid (new_0 w (aob 0 (.slice none 0 0)))
  have HM := hid (RMeets_any (h := h) (hD.on HB0.out) hg hh)
  have HREL := hid (show (meetR W L h).2.2 = (lookR W L h).2.2 ∧ ((meetR W L h).2.2 ≠ 0 → (lookR W L h).1 = 0 ∧ (lookR W L h).2.1 = []) ∧ ((meetR W L h).2.2 = 0 → (meetR W L h).2.1 = false → (lookR W L h).1 = 1 ∧ (lookR W L h).2.1 = []) ∧ ((meetR W L h).2.1 = true → (lookR W L h).1 = (meetR W L h).1.kind ∧ (lookR W L h).2.1 = (meetR W L h).1.ports) from by
    unfold meetR lookR
    split
    · simp
    · split <;> simp)
  clear hD hg hh
  obtain ⟨⟨r, x, er⟩, hr⟩ : ∃ q, q = meetR W L h := ⟨_, rfl⟩
  obtain ⟨⟨lk, lp, le⟩, hl⟩ : ∃ q, q = lookR W L h := ⟨_, rfl⟩
  rw [← hr] at HM HREL
  rw [← hl] at HREL ⊢
  simp only at HREL
  clear hr hl
  go_enter Tryz.func20, Tryz.ntmps20
  go_wp2_with fail
  refine HM.out.mono ?_
  rintro en w2 ⟨⟨ao, n, c, rfl, htx⟩, hb2⟩
  have HTX := hid htx
  have B2 := hid (below_2 HB0.out hb2)
  have hA2 := below_block hb2 HA0.out (lt_of_block HA0.out)
  have a0 : ∀ o, (w2.alloc o).cell? ⟨w.heap.size, 0, none⟩ = some (.int .i64 0) := fun o => by rw [cell_at (new_old _ o hA2)]; rfl
  have a1 : ∀ o, (w2.alloc o).cell? ⟨w.heap.size, 1, none⟩ = some (.slice none 0 0) := fun o => by rw [cell_at (new_old _ o hA2)]; rfl
  have g0 : ∀ o, (w2.alloc o).frozen? ⟨w.heap.size, 0, none⟩ = false := fun o => free_of (new_old _ o hA2)
  have g1 : ∀ o, (w2.alloc o).frozen? ⟨w.heap.size, 1, none⟩ = false := fun o => free_of (new_old _ o hA2)
  have HA2 := hid hA2
  obtain ⟨pp, mm, kk, zz⟩ := r
  simp only at HREL HTX
  clear hb2 hA2 htx
  have HEND := hid (show ∀ (k : Int) (v : Value), Below w.heap.size w (((w2.alloc (rob pp (tx mm) kk (.slice ao n c))).setCell ⟨w.heap.size, 0, none⟩ (.int .i64 k)).setCell ⟨w.heap.size, 1, none⟩ v) from fun k v => ((B2.out.alloc B2.out.size _).setCell (p := ⟨w.heap.size, 0, none⟩) (Nat.le_refl _) (.int .i64 k)).setCell (p := ⟨w.heap.size, 1, none⟩) (Nat.le_refl _) v)
  by_cases he : er = 0
  · subst he
    cases x with
    | false =>
      have hA3 := block_set (o := 1) (.slice none 0 0) (block_set (o := 0) (.int .i64 1) (new_old _ (rob pp (tx mm) kk (.slice ao n c)) HA2.out))
      have n0 := cell_at (o := 0) hA3
      have n1 := cell_at (o := 1) hA3
      simp at n0 n1
      clear hA3
      go_wp2
      refine bodyPost_ret (v := .tuple #[.agg #[.int .i64 1, .slice none 0 0], .int .i64 0]) (by simp [results, Tryz.results20, go_sem, n0, n1]) rfl ⟨⟨none, 0, 0, ?_, ?_⟩, HEND.out _ _⟩
      · rw [(HREL.out.2.2.1 (by first | rfl | trivial) (by first | rfl | trivial)).1, ← HREL.out.1]
      · rw [(HREL.out.2.2.1 (by first | rfl | trivial) (by first | rfl | trivial)).2]; exact Ported.none _ _
    | true =>
      have hA3 := block_set (o := 1) (.slice ao n c) (block_set (o := 0) (.int .i64 kk) (new_old _ (rob pp (tx mm) kk (.slice ao n c)) HA2.out))
      have n0 := cell_at (o := 0) hA3
      have n1 := cell_at (o := 1) hA3
      simp at n0 n1
      clear hA3
      go_wp2
      refine bodyPost_ret (v := .tuple #[.agg #[.int .i64 kk, .slice ao n c], .int .i64 0]) (by simp [results, Tryz.results20, go_sem, n0, n1]) rfl ⟨⟨ao, n, c, ?_, ?_⟩, HEND.out _ _⟩
      · rw [(HREL.out.2.2.2 (by first | rfl | trivial)).1, ← HREL.out.1]
      · rw [(HREL.out.2.2.2 (by first | rfl | trivial)).2]
        obtain ⟨ao', c', e1, e2, q0 | ⟨b, e3, e4, cs', e5, e6⟩⟩ := HTX.out.on ((Below.refl _ w2).alloc (Nat.le_refl _) (rob pp (tx mm) kk (.slice ao n c)))
        · exact ⟨ao', c', e1, e2, Or.inl q0⟩
        · refine ⟨ao', c', e1, e2, Or.inr ⟨b, e3, e4, cs', ?_, e6⟩⟩
          have hne : b ≠ w.heap.size := ne_type e5 (new_old _ _ HA2.out) (by decide)
          exact block_other _ (block_other _ e5 hne) hne
  · have hne : (er != 0) = true := by rw [bne_iff_ne]; exact he
    have hA3 := block_set (o := 1) (.slice none 0 0) (block_set (o := 0) (.int .i64 0) (new_old _ (rob pp (tx mm) kk (.slice ao n c)) HA2.out))
    have n0 := cell_at (o := 0) hA3
    have n1 := cell_at (o := 1) hA3
    simp at n0 n1
    have HNE := hid he
    clear hA3 he
    go_wp2
    refine bodyPost_ret (v := .tuple #[.agg #[.int .i64 0, .slice none 0 0], .int .i64 er]) (by simp [results, Tryz.results20, go_sem, n0, n1]) rfl ⟨⟨none, 0, 0, ?_, ?_⟩, HEND.out _ _⟩
    · rw [(HREL.out.2.1 HNE.out).1, ← HREL.out.1]
    · rw [(HREL.out.2.1 HNE.out).2]; exact Ported.none _ _
end Go.Proofs.YtipmlcdnfaobiaaGreat
namespace Go.Proofs.YtipmlcdnfaobiaaGreat
open Go.RowKit

theorem meetR_few {W : Int} {L : List Raw} (hg : GoodT W L) (h : List UInt8) : (meetR W L h).1.ports.length ≤ 64 := by
  unfold meetR
  split
  · simp [zeroR]
  · split
    · simp [zeroR]
    · rw [List.getD_eq_getElem?_getD]
      cases q : L[(metN L h).toNat]? with
      | none => simp [zeroR]
      | some r => exact (errR_small (hg.ok r (List.mem_of_getElem? q))).2.1
theorem lookR_few {W : Int} {L : List Raw} (hg : GoodT W L) (h : List UInt8) : (lookR W L h).2.1.length ≤ 64 := by
  unfold lookR
  split
  · simp
  · split
    · simp
    · rw [List.getD_eq_getElem?_getD]
      cases q : L[(metN L h).toNat]? with
      | none => simp [zeroR]
      | some r => exact (errR_small (hg.ok r (List.mem_of_getElem? q))).2.1

set_option maxRecDepth 20000 in
set_option maxHeartbeats 2000000 in
theorem SameRule_eq {w : World} {p k : Int} {m : List UInt8} {zs : List (List UInt8)} {a1 a2 : Option Addr} {n1 n2 c1 c2 : Nat} (h1 : Txs w (.slice a1 n1 c1) zs) (h2 : Txs w (.slice a2 n2 c2) zs) (hz : zs.length ≤ maxLen) :
    Calls Tryz.prog 21 #[.agg #[.int .i64 p, .string (tx m), .int .i64 k, .slice a1 n1 c1], .agg #[.int .i64 p, .string (tx m), .int .i64 k, .slice a2 n2 c2]] w fun e w' => e = .returned (.bool true) ∧ Below w.heap.size w w' := by
  have HS := hid (fun (X : World) (hX : Below w.heap.size w X) => Same_actsI (k := k) (h1.below hX) (h2.below hX) hz)
  have HB := hid (show Below w.heap.size w ((w.alloc (rob p (tx m) k (.slice a1 n1 c1))).alloc (rob p (tx m) k (.slice a2 n2 c2))) from ((Below.refl _ _).alloc (Nat.le_refl _) _).alloc (by simp) _)
  have epp : (p == p) = true := by simp
  have emm : (m == m) = true := by simp
  clear h1 h2
  go_enter Tryz.func21, Tryz.ntmps21
  go_wp2_with (first | (go_at_call 22; refine (HS.out _ HB.out).mono ?_; rintro e wz ⟨rfl, hbz⟩) | fail)
  go_ret
  exact ⟨rfl, below_2 HB.out hbz⟩

set_option maxRecDepth 20000 in
set_option maxHeartbeats 4000000 in
theorem fmeets_bad {w : World} {ao bo : Option Addr} {n cap n2 cap2 : Nat} {W : Int} (h : ¬ (1 ≤ W ∧ W ≤ 128)) : Calls Tryz.prog 4 #[.int .i64 W, .slice ao n cap, .slice bo n2 cap2] w fun e w' => e = .returned (.bool true) ∧ Below w.heap.size w w' := by
  have HM := hid (made_bad (w := w) (ao := ao) (n := n) (cap := cap) h)
  have p2 := eqlR_two
  go_enter Tryz.func4, Tryz.ntmps4
  go_wp2_with fail
  refine HM.out.mono ?_
  rintro en w1 ⟨rfl, hb1⟩
  have B1 := hid hb1
  clear hb1
  go_wp2_with (go_at_call 10; refine (fawake _).mono ?_; rintro e wz ⟨rfl, hbz⟩; have BZ := hid (below_2 B1.out hbz); clear hbz)
  go_ret
  exact ⟨rfl, BZ.out⟩

set_option maxRecDepth 20000 in
set_option maxHeartbeats 4000000 in
theorem fmeets_good {w : World} {ao bo : Option Addr} {n cap n2 cap2 : Nat} {W : Int} {cs : List (Int × Raw × Value)} {hs2 : List (List UInt8)} (h : 1 ≤ W ∧ W ≤ 128) (hc : ChIn w ao cs) (hn : cs.length = n) (hnc : n ≤ cap) (hs : ∀ u ∈ cs, Small u.2.1.mat u.2.1.ports) (h63 : n ≤ maxLen)
    (ht : Txs w (.slice bo n2 cap2) hs2) (hhn : hs2.length = n2) (hhl : ∀ x ∈ hs2, x.length ≤ maxLen) (h263 : n2 ≤ maxLen) : Calls Tryz.prog 4 #[.int .i64 W, .slice ao n cap, .slice bo n2 cap2] w fun e w' => e = .returned (.bool true) ∧ Below w.heap.size w w' := by
  have HM := hid (made_good h hc hn hnc hs h63)
  have HG := hid (madeN_good h ((chs cs).take 100))
  have HT := hid ht
  have HHN := hid hhn
  have HHL := hid hhl
  have p2 := eqlR_none
  obtain ⟨L, hL⟩ : ∃ L, L = madeN W ((chs cs).take 100) := ⟨_, rfl⟩
  rw [← hL] at HM HG
  have h263I : (n2 : Int) ≤ 9223372036854775807 := by unfold maxLen at h263; omega
  clear hc hn hs ht hhn hhl hL
  go_enter Tryz.func4, Tryz.ntmps4
  go_wp2_with fail
  refine HM.out.mono ?_
  rintro en w1 ⟨tb, rb, rfl, h1⟩
  have B1 := hid h1.out
  clear h1
  go_wp2_with (first | (go_at_call 10; refine (fawake _).mono ?_; rintro e wz ⟨rfl, hbz⟩; have BZ := hid (B1.out.on hbz); clear hbz) | fail)
  clear p2 HM B1
  go_loopw [10] (fun vi wr => ∃ j : Nat, j ≤ n2 ∧ vi = .int .i64 j ∧ Hid (Both w wr tb rb W L)) (fun vi _ => n2 - (intOf vi).toNat)
  case atStart => exact ⟨0, Nat.zero_le _, rfl, BZ⟩
  case round =>
    clear BZ
    obtain ⟨j, hj, rfl, HA⟩ := hrel
    rename World => wo
    by_cases hlt : j < n2
    · have hjI : (j : Int) < (n2 : Int) := by omega
      have hj0 : (0 : Int) ≤ (j : Int) := by omega
      obtain ⟨hd, hhd⟩ : ∃ hd, hd = hs2.getD j [] := ⟨_, rfl⟩
      obtain ⟨g, o, rfl, hcell⟩ : ∃ g o, bo = some ⟨g, o, none⟩ ∧ ∀ X, Below w.heap.size w X → X.cell? ⟨g, o + j, none⟩ = some (.string (tx hd)) := by
        obtain ⟨a', c', e, q | ⟨g, o, e2, hg, hcl⟩⟩ := HT.out
        · rw [q] at HHN; have := HHN.out; simp at this; omega
        · injection e with e1 _ _
          refine ⟨g, o, by rw [e1, e2], fun X hX => ?_⟩
          rw [hX.cell (by exact hg), hcl j (by rw [HHN.out]; exact hlt), hhd]
      have HCL := hid hcell
      have HLEN := hid (show hd.length ≤ maxLen by
        rw [hhd, List.getD_eq_getElem?_getD, List.getElem?_eq_getElem (show j < hs2.length by rw [HHN.out]; exact hlt)]
        exact HHL.out _ (List.getElem_mem _))
      have HF1 := hid (meetR_few HG.out hd)
      have HF2 := hid (lookR_few HG.out hd)
      have c0 := hcell wo HA.out.low
      have HM1 := hid (Meets_any (h := hd) HA.out.fib)
      clear hcell hhd
      obtain ⟨⟨⟨pp, mm, kk, zz⟩, x, er⟩, hmr⟩ : ∃ q, q = meetR W L hd := ⟨_, rfl⟩
      obtain ⟨⟨lk, lp, le⟩, hlr⟩ : ∃ q, q = lookR W L hd := ⟨_, rfl⟩
      have HMR := hid hmr
      have HLR := hid hlr
      rw [← hmr] at HF1
      rw [← hlr] at HF2
      simp only at HF1 HF2
      clear hmr hlr
      go_wp2_with fail
      refine HM1.out.mono ?_
      rintro en w2 hp2
      have hv2 := hp2.v
      rw [← HMR.out] at hv2
      obtain ⟨a2, n2', c2, rfl, hpo2⟩ := hv2
      have B2 := hid (HA.out.on hp2.1)
      have HP2 := hid hpo2
      clear hp2 hpo2 HM1 c0
      have c0 := HCL.out w2 B2.out.low
      have HBB2 := hid (show Below w2.heap.size w2 (w2.alloc (rob pp (tx mm) kk (.slice a2 n2' c2))) from (Below.refl _ _).alloc (Nat.le_refl _) _)
      have c1 := HCL.out _ (B2.out.on HBB2.out).low
      have HM2 := hid (RMeets_any (h := hd) (B2.out.on HBB2.out).doc HG.out HLEN.out)
      go_wp2_with fail
      refine HM2.out.mono ?_
      rintro en w3 ⟨hv3, hb3⟩
      rw [← HMR.out] at hv3
      obtain ⟨a3, n3, c3, rfl, hpo3⟩ := hv3
      have B3 := hid ((B2.out.on HBB2.out).on hb3)
      have K2 := hid (below_block hb3 (new_0 w2 (rob pp (tx mm) kk (.slice a2 n2' c2))) (by simp))
      have HP2b := hid (HP2.out.on (below_2 HBB2.out hb3))
      have HP3 := hid hpo3
      clear hb3 hpo3 HM2 c0 c1 HP2 HBB2
      have HBB3 := hid (show Below w3.heap.size w3 (w3.alloc (rob pp (tx mm) kk (.slice a3 n3 c3))) from (Below.refl _ _).alloc (Nat.le_refl _) _)
      have c0 := HCL.out w3 B3.out.low
      have c1 := HCL.out _ (B3.out.on HBB3.out).low
      have HM3 := hid (Lookup_any (h := hd) (B3.out.on HBB3.out).fib)
      generalize w2.heap.size = k2 at K2 ⊢
      go_wp2_with fail
      refine HM3.out.mono ?_
      rintro en w4 hp4
      have hv4 := hp4.v
      rw [← HLR.out] at hv4
      obtain ⟨a4, n4, c4, rfl, hpo4⟩ := hv4
      have hb4 := hp4.1
      have B4 := hid ((B3.out.on HBB3.out).on hb4)
      have K3 := hid (below_block hb4 (new_0 w3 (rob pp (tx mm) kk (.slice a3 n3 c3))) (by simp))
      have K2b := hid (below_block (below_2 HBB3.out hb4) K2.out (lt_of_block K2.out))
      have HP2c := hid (HP2b.out.on (below_2 HBB3.out hb4))
      have HP3b := hid (HP3.out.on (below_2 HBB3.out hb4))
      have HP4 := hid hpo4
      clear hb4 hp4 hpo4 HM3 c0 c1 HP2b HP3 HBB3 K2
      generalize w3.heap.size = k3 at K3 ⊢
      have HBB4 := hid (show Below w4.heap.size w4 (w4.alloc (aob lk (.slice a4 n4 c4))) from (Below.refl _ _).alloc (Nat.le_refl _) _)
      have c0 := HCL.out w4 B4.out.low
      have c1 := HCL.out _ (B4.out.on HBB4.out).low
      have HM4 := hid (RLookup_any (h := hd) (B4.out.on HBB4.out).doc HG.out HLEN.out)
      go_wp2_with fail
      refine HM4.out.mono ?_
      rintro en w5 ⟨hv5, hb5⟩
      rw [← HLR.out] at hv5
      obtain ⟨a5, n5, c5, rfl, hpo5⟩ := hv5
      have B5 := hid ((B4.out.on HBB4.out).on hb5)
      have K4 := hid (below_block hb5 (new_0 w4 (aob lk (.slice a4 n4 c4))) (by simp))
      have K3b := hid (below_block (below_2 HBB4.out hb5) K3.out (lt_of_block K3.out))
      have K2c := hid (below_block (below_2 HBB4.out hb5) K2b.out (lt_of_block K2b.out))
      have HP2d := hid (HP2c.out.on (below_2 HBB4.out hb5))
      have HP3c := hid (HP3b.out.on (below_2 HBB4.out hb5))
      have HP4b := hid (HP4.out.on (below_2 HBB4.out hb5))
      have HP5 := hid hpo5
      clear hb5 hpo5 HM4 c0 c1 HP2c HP3b HP4 HBB4 K3 K2b
      generalize w4.heap.size = k4 at K4 ⊢
      have HBB5 := hid (show Below w5.heap.size w5 (w5.alloc (aob lk (.slice a5 n5 c5))) from (Below.refl _ _).alloc (Nat.le_refl _) _)
      obtain ⟨X, hX⟩ : ∃ X, X = w5.alloc (aob lk (.slice a5 n5 c5)) := ⟨_, rfl⟩
      obtain ⟨k5, hk5⟩ : ∃ k5, k5 = w5.heap.size := ⟨_, rfl⟩
      have BX := hid (show Both w X tb rb W L by rw [hX]; exact B5.out.on HBB5.out)
      have HFS := hid (show ∀ Y, Below X.heap.size X Y → (Y.heap[k2]? = some (rob pp (tx mm) kk (.slice a2 n2' c2)) ∧ Y.heap[k3]? = some (rob pp (tx mm) kk (.slice a3 n3 c3)) ∧ Y.heap[k4]? = some (aob lk (.slice a4 n4 c4)) ∧ Y.heap[k5]? = some (aob lk (.slice a5 n5 c5))) ∧ Txs Y (.slice a2 n2' c2) zz ∧ Txs Y (.slice a3 n3 c3) zz ∧ Txs Y (.slice a4 n4 c4) lp ∧ Txs Y (.slice a5 n5 c5) lp from fun Y hY => by
        have hwY : Below w5.heap.size w5 Y := below_2 HBB5.out (by rw [← hX]; exact hY)
        refine ⟨⟨below_block hwY K2c.out (lt_of_block K2c.out), below_block hwY K3b.out (lt_of_block K3b.out), below_block hwY K4.out (lt_of_block K4.out), ?_⟩, (HP2d.out.on hwY).txs, (HP3c.out.on hwY).txs, (HP4b.out.on hwY).txs, (HP5.out.on hwY).txs⟩
        rw [hX] at hY
        rw [hk5]
        exact below_block hY (new_0 w5 _) (by simp))
      have HCS := hid (show ∀ Y, Below X.heap.size X Y → Y.cell? ⟨k2, 0, none⟩ = some (.int .i64 pp) ∧ Y.cell? ⟨k2, 1, none⟩ = some (.string (tx mm)) ∧ Y.cell? ⟨k2, 2, none⟩ = some (.int .i64 kk) ∧ Y.cell? ⟨k2, 3, none⟩ = some (.slice a2 n2' c2) ∧ Y.cell? ⟨k3, 0, none⟩ = some (.int .i64 pp) ∧ Y.cell? ⟨k3, 1, none⟩ = some (.string (tx mm)) ∧ Y.cell? ⟨k3, 2, none⟩ = some (.int .i64 kk) ∧ Y.cell? ⟨k3, 3, none⟩ = some (.slice a3 n3 c3) ∧ Y.cell? ⟨k4, 0, none⟩ = some (.int .i64 lk) ∧ Y.cell? ⟨k4, 1, none⟩ = some (.slice a4 n4 c4) ∧ Y.cell? ⟨k5, 0, none⟩ = some (.int .i64 lk) ∧ Y.cell? ⟨k5, 1, none⟩ = some (.slice a5 n5 c5) from fun Y hY => by
        obtain ⟨⟨b2, b3, b4, b5⟩, _⟩ := HFS.out Y hY
        refine ⟨?_, ?_, ?_, ?_, ?_, ?_, ?_, ?_, ?_, ?_, ?_, ?_⟩
        · rw [cell_at b2]; rfl
        · rw [cell_at b2]; rfl
        · rw [cell_at b2]; rfl
        · rw [cell_at b2]; rfl
        · rw [cell_at b3]; rfl
        · rw [cell_at b3]; rfl
        · rw [cell_at b3]; rfl
        · rw [cell_at b3]; rfl
        · rw [cell_at b4]; rfl
        · rw [cell_at b4]; rfl
        · rw [cell_at b5]; rfl
        · rw [cell_at b5]; rfl)
      have HSR := hid (fun (Y : World) (hY : Below X.heap.size X Y) => SameRule_eq (p := pp) (m := mm) (k := kk) (HFS.out Y hY).2.1 (HFS.out Y hY).2.2.1 (show zz.length ≤ maxLen by have := HF1.out; unfold maxLen; omega))
      have HSA := hid (fun (Y : World) (hY : Below X.heap.size X Y) => Same_actsI (k := lk) (HFS.out Y hY).2.2.2.1 (HFS.out Y hY).2.2.2.2 (show lp.length ≤ maxLen by have := HF2.out; unfold maxLen; omega))
      have exx : (x != x) = false := by simp
      have eer : (er != er) = false := by simp
      have ele : (le != le) = false := by simp
      have hS0 := HCS.out X (Below.refl _ _)
      have HX := hid hX
      have HK5 := hid hk5
      clear hX hk5
      rw [HX.out, HK5.out] at hS0
      obtain ⟨d0, d1, d2, d3, d4, d5, d6, d7, d8, d9, d10, d11⟩ := hS0
      clear HBB5 K2c K3b K4 HP2d HP3c HP4b HP5 B5 HFS HLEN HF1 HF2 HMR HLR HCL HT HHN HHL B2 B3 B4 HA
      go_wp2_with fail
      rw [← HX.out]
      refine (HSR.out _ (Below.refl _ _)).mono ?_
      rintro en w6 ⟨rfl, hb6⟩
      have HB6 := hid hb6
      clear hb6 d0 d1 d2 d3 d4 d5 d6 d7 d8 d9 d10 d11
      have hS6 := HCS.out w6 HB6.out
      rw [HK5.out] at hS6
      obtain ⟨d0, d1, d2, d3, d4, d5, d6, d7, d8, d9, d10, d11⟩ := hS6
      go_wp2_with fail
      refine (HSA.out _ HB6.out).mono ?_
      rintro en w7 ⟨rfl, hb7⟩
      have HB7 := hid (below_2 HB6.out hb7)
      clear hb7 d0 d1 d2 d3 d4 d5 d6 d7 d8 d9 d10 d11
      have HEND := hid (BX.out.on HB7.out)
      clear HSR HSA HCS
      go_wp2
      go_roundw
      case rel => exact ⟨j + 1, by omega, by go_num, HEND⟩
      case measure => simp [intOf]; omega
    · have hjI : ¬ ((j : Int) < (n2 : Int)) := by omega
      go_wp2
      go_ret
      exact ⟨rfl, HA.out.low⟩
theorem fmeets_any {w : World} {ao bo : Option Addr} {n cap n2 cap2 : Nat} {W : Int} {cs : List (Int × Raw × Value)} {hs2 : List (List UInt8)} (hc : ChIn w ao cs) (hn : cs.length = n) (hnc : n ≤ cap) (hs : ∀ u ∈ cs, Small u.2.1.mat u.2.1.ports) (h64 : n * 64 ≤ 140737488355328)
    (ht : Txs w (.slice bo n2 cap2) hs2) (hhn : hs2.length = n2) (hhl : ∀ x ∈ hs2, x.length ≤ maxLen) (h263 : n2 * 16 ≤ 140737488355328) : Calls Tryz.prog 4 #[.int .i64 W, .slice ao n cap, .slice bo n2 cap2] w fun e w' => e = .returned (.bool true) ∧ Below w.heap.size w w' := by
  by_cases h : 1 ≤ W ∧ W ≤ 128
  · exact fmeets_good h hc hn hnc hs (by unfold maxLen; omega) ht hhn hhl (by unfold maxLen; omega)
  · exact fmeets_bad h
end Go.Proofs.YtipmlcdnfaobiaaGreat
namespace Go.Proofs.YtipmlcdnfaobiaaGreat
open Go.RowKit

set_option maxRecDepth 20000 in
set_option maxHeartbeats 4000000 in
theorem SameChanges_eq {w : World} {a1 a2 : Option Addr} {n c1 c2 : Nat} {cs ds : List (Int × Raw × Value)} (h1 : ChIn w a1 cs) (h2 : ChIn w a2 ds) (l1 : cs.length = n) (l2 : ds.length = n) (he : chs cs = chs ds) (hz : ∀ u ∈ cs, u.2.1.ports.length ≤ maxLen) (hn : n ≤ maxLen) :
    Calls Tryz.prog 27 #[.slice a1 n c1, .slice a2 n c2] w fun e w' => e = .returned (.bool true) ∧ Below w.heap.size w w' := by
  have H1 := hid h1
  have H2 := hid h2
  have HL1 := hid l1
  have HL2 := hid l2
  have HE := hid he
  have HZ := hid hz
  have hnI : (n : Int) ≤ 9223372036854775807 := by unfold maxLen at hn; omega
  clear h1 h2 l1 l2 he hz
  go_enter Tryz.func27, Tryz.ntmps27
  go_wp2_with fail
  go_loopw [5] (fun vi wr => ∃ j : Nat, j ≤ n ∧ vi = .int .i64 j ∧ Hid (Below w.heap.size w wr)) (fun vi _ => n - (intOf vi).toNat)
  case atStart => exact ⟨0, Nat.zero_le _, rfl, Below.refl _ _⟩
  case round =>
    obtain ⟨j, hj, rfl, HB⟩ := hrel
    rename World => wo
    by_cases hlt : j < n
    · have hjI : (j : Int) < (n : Int) := by omega
      have hj0 : (0 : Int) ≤ (j : Int) := by omega
      obtain ⟨u, hu⟩ : ∃ u, cs[j]? = some u := ⟨cs[j]'(by rw [HL1.out]; exact hlt), List.getElem?_eq_getElem _⟩
      obtain ⟨v, hv⟩ : ∃ v, ds[j]? = some v := ⟨ds[j]'(by rw [HL2.out]; exact hlt), List.getElem?_eq_getElem _⟩
      have huv : (u.1, u.2.1) = (v.1, v.2.1) := by
        have := congrArg (fun l => l[j]?) HE.out
        simp only [List.getElem?_map, hu, hv, Option.map_some, Option.some.injEq] at this
        exact this
      obtain ⟨g, o, rfl⟩ : ∃ g o, a1 = some ⟨g, o, none⟩ := by
        rcases H1.out with q | ⟨g, o, e, _⟩
        · rw [q] at hu; simp at hu
        · exact ⟨g, o, e⟩
      obtain ⟨g2, o2, rfl⟩ : ∃ g o, a2 = some ⟨g, o, none⟩ := by
        rcases H2.out with q | ⟨g, o, e, _⟩
        · rw [q] at hv; simp at hv
        · exact ⟨g, o, e⟩
      have HV1 := hid (show ∀ X, Below w.heap.size w X → ChView X g o cs from fun X hX => by
        rcases H1.out.on hX with q | ⟨g', o', e, hv⟩
        · rw [q] at hu; simp at hu
        · cases e; exact hv)
      have HV2 := hid (show ∀ X, Below w.heap.size w X → ChView X g2 o2 ds from fun X hX => by
        rcases H2.out.on hX with q | ⟨g', o', e, hv'⟩
        · rw [q] at hv; simp at hv
        · cases e; exact hv')
      have HTX := hid (show ∀ X, Below w.heap.size w X → Txs X u.2.2 u.2.1.ports ∧ Txs X v.2.2 v.2.1.ports from fun X hX => ⟨((HV1.out X hX).ports u (List.mem_of_getElem? hu)).1, ((HV2.out X hX).ports v (List.mem_of_getElem? hv)).1⟩)
      have HCL := hid (show ∀ X, Below w.heap.size w X → _ from fun X hX => And.intro ((HV1.out X hX).cell j u hu) ((HV2.out X hX).cell j v hv))
      have HLZ := hid (HZ.out u (List.mem_of_getElem? hu))
      obtain ⟨kd, ⟨p, m, k, zs⟩, uv⟩ := u
      obtain ⟨kd2, r2, vv⟩ := v
      simp only [Prod.mk.injEq] at huv
      obtain ⟨rfl, rfl⟩ := huv
      simp only at HTX HCL HLZ
      obtain ⟨uo, uc, huv1, _⟩ := (HTX.out wo HB.out).1
      obtain ⟨vo, vc, huv2, _⟩ := (HTX.out wo HB.out).2
      obtain ⟨un, hun⟩ : ∃ un, un = zs.length := ⟨_, rfl⟩
      rw [← hun] at huv1 huv2
      subst huv1 huv2
      clear hu hv hun
      have HCS := hid (show ∀ X, Below w.heap.size w X → X.cell? ⟨g, o + j * 5, none⟩ = some (.int .i64 kd) ∧ X.cell? ⟨g, o + j * 5 + 1, none⟩ = some (.int .i64 p) ∧ X.cell? ⟨g, o + j * 5 + 2, none⟩ = some (.string (tx m)) ∧ X.cell? ⟨g, o + j * 5 + 3, none⟩ = some (.int .i64 k) ∧ X.cell? ⟨g, o + j * 5 + 4, none⟩ = some (.slice uo un uc) ∧ X.cell? ⟨g2, o2 + j * 5, none⟩ = some (.int .i64 kd) ∧ X.cell? ⟨g2, o2 + j * 5 + 1, none⟩ = some (.int .i64 p) ∧ X.cell? ⟨g2, o2 + j * 5 + 2, none⟩ = some (.string (tx m)) ∧ X.cell? ⟨g2, o2 + j * 5 + 3, none⟩ = some (.int .i64 k) ∧ X.cell? ⟨g2, o2 + j * 5 + 4, none⟩ = some (.slice vo un vc) from fun X hX => by
        obtain ⟨⟨x0, x1, x2, x3, x4⟩, y0, y1, y2, y3, y4⟩ := HCL.out X hX
        exact ⟨x0, x1, x2, x3, x4, y0, y1, y2, y3, y4⟩)
      have HSR := hid (fun (X : World) (hX : Below w.heap.size w X) => SameRule_eq (p := p) (m := m) (k := k) (HTX.out X hX).1 (HTX.out X hX).2 HLZ.out)
      have hS0 := HCS.out wo HB.out
      have ekk : (kd != kd) = false := by simp
      go_wp2_with fail
      go_region_held2 (fun X => X.cell? ⟨g, o + j * 5, none⟩ = some (.int .i64 kd) ∧ X.cell? ⟨g, o + j * 5 + 1, none⟩ = some (.int .i64 p) ∧ X.cell? ⟨g, o + j * 5 + 2, none⟩ = some (.string (tx m)) ∧ X.cell? ⟨g, o + j * 5 + 3, none⟩ = some (.int .i64 k) ∧ X.cell? ⟨g, o + j * 5 + 4, none⟩ = some (.slice uo un uc) ∧ X.cell? ⟨g2, o2 + j * 5, none⟩ = some (.int .i64 kd) ∧ X.cell? ⟨g2, o2 + j * 5 + 1, none⟩ = some (.int .i64 p) ∧ X.cell? ⟨g2, o2 + j * 5 + 2, none⟩ = some (.string (tx m)) ∧ X.cell? ⟨g2, o2 + j * 5 + 3, none⟩ = some (.int .i64 k) ∧ X.cell? ⟨g2, o2 + j * 5 + 4, none⟩ = some (.slice vo un vc)) (first | exact hS0 | exact hS2) (first | (go_at_call 21; refine (HSR.out _ HB.out.drew).mono ?_; rintro en w2 ⟨rfl, hb2⟩; have B2 := hid (below_2 HB.out.drew hb2); have hS2 := HCS.out w2 B2.out; clear hb2))
      clear hS0 hS2
      go_wp2
      go_roundw
      case rel => exact ⟨j + 1, by omega, by go_num, B2⟩
      case measure => simp [intOf]; omega
    · have hjI : ¬ ((j : Int) < (n : Int)) := by omega
      go_wp2
      go_ret
      exact ⟨rfl, HB.out⟩
end Go.Proofs.YtipmlcdnfaobiaaGreat
