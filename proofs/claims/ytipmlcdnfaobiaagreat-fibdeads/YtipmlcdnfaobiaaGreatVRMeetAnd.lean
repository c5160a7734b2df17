/-
  The document's Dead.
  What is done with a header stays where dead rules are taken away.
  The document's Meets and Lookup; what both Meets tell, both Lookup.
-/
import Derived.Test.YtipmlcdnfaobiaaGreatVMadeAnd
import Derived.BigQuiet
namespace Go.Proofs.YtipmlcdnfaobiaaGreat
open Go.RowKit

theorem head_eq {W : Int} {h : List UInt8} (hw : 1 ≤ W ∧ W ≤ 128) : headB W h = ((!Cub.hasX (tx h) && Cub.Cu.right h) && decide ((h.length : Int) = W)) := by
  have hr : Cub.Cu.right (List.replicate W.toNat 120) = true := by
    unfold Cub.Cu.right
    rw [List.length_replicate]
    simp only [Bool.and_eq_true, decide_eq_true_eq, List.all_eq_true]
    refine ⟨⟨fun x hx => ?_, by omega⟩, by omega⟩
    rw [List.eq_of_mem_replicate hx]; rfl
  have e1 : (tx h).data.toList = h := rfl
  have e2 : (⟨(List.replicate W.toNat 120).toArray⟩ : ByteArray).data.toList = List.replicate W.toNat 120 := rfl
  have e3 : (tx h).size = h.length := rfl
  have e4 : (⟨(List.replicate W.toNat 120).toArray⟩ : ByteArray).size = W.toNat := by show (List.replicate W.toNat (120 : UInt8)).toArray.size = _; simp
  unfold headB Cub.errH Cub.err2
  rw [e1, e2, e3, e4, hr]
  cases hx : Cub.hasX (tx h) with
  | true => simp
  | false =>
    cases hc : Cub.Cu.right h with
    | false => simp
    | true =>
      simp only [Bool.false_eq_true, if_false, and_self, if_true, Bool.not_false, Bool.and_self, Bool.true_and]
      by_cases he : (h.length : Int) = W
      · rw [if_pos (by omega)]; simp [he]
      · rw [if_neg (by omega)]; simp [he]
/-- No rule. -/
def zeroR : Raw := ⟨0, [], 0, []⟩
/-- The rule that a header meets, whether there is one, and the error. -/
def meetR (W : Int) (L : List Raw) (h : List UInt8) : Raw × Bool × Int :=
  if headB W h = false then (zeroR, false, 21) else if metN L h < 0 then (zeroR, false, 0) else (L.getD (metN L h).toNat zeroR, true, 0)
/-- What is done with a header. -/
def lookR (W : Int) (L : List Raw) (h : List UInt8) : Int × List (List UInt8) × Int :=
  if headB W h = false then (0, [], 21) else if metN L h < 0 then (1, [], 0) else ((L.getD (metN L h).toNat zeroR).kind, (L.getD (metN L h).toNat zeroR).ports, 0)
theorem Ported.none (w : World) (B : Nat) : Ported w B (.slice none 0 0) [] := ⟨_, _, rfl, Nat.le_refl _, Or.inl rfl⟩
def MeetV (w' : World) (r : Raw × Bool × Int) (e : Ending) : Prop := ∃ a n c, e = .returned (.tuple #[.agg #[.int .i64 r.1.prio, .string (tx r.1.mat), .int .i64 r.1.kind, .slice a n c], .bool r.2.1, .int .i64 r.2.2]) ∧ Ported w' 0 (.slice a n c) r.1.ports
def LookV (w' : World) (r : Int × List (List UInt8) × Int) (e : Ending) : Prop := ∃ a n c, e = .returned (.tuple #[.agg #[.int .i64 r.1, .slice a n c], .int .i64 r.2.2]) ∧ Ported w' 0 (.slice a n c) r.2.1
theorem MeetPost.v {w w' : World} {W : Int} {L : List Raw} {h : List UInt8} {e : Ending} (hp : MeetPost w W L h e w') : MeetV w' (meetR W L h) e := by
  unfold meetR
  rcases hp.2 with ⟨h1, h2⟩ | ⟨h1, h2, h3⟩ | ⟨h1, j, r, ao, n, c, h2, h3, h4, h5⟩
  · rw [if_pos h1]
    exact ⟨none, 0, 0, h2, Ported.none _ _⟩
  · rw [if_neg (by rw [h1]; decide), if_pos h2]
    exact ⟨none, 0, 0, h3, Ported.none _ _⟩
  · rw [if_neg (by rw [h1]; decide), if_neg (by omega), h3, show ((j : Int)).toNat = j from rfl, List.getD_eq_getElem?_getD, h2]
    exact ⟨ao, n, c, h4, h5.mono (Nat.zero_le _)⟩
theorem LookPost.v {w w' : World} {W : Int} {L : List Raw} {h : List UInt8} {e : Ending} (hp : LookPost w W L h e w') : LookV w' (lookR W L h) e := by
  unfold lookR
  rcases hp.2 with ⟨h1, h2⟩ | ⟨h1, h2, h3⟩ | ⟨h1, j, r, ao, n, c, h2, h3, h4, h5⟩
  · rw [if_pos h1]
    exact ⟨none, 0, 0, h2, Ported.none _ _⟩
  · rw [if_neg (by rw [h1]; decide), if_pos h2]
    exact ⟨none, 0, 0, h3, Ported.none _ _⟩
  · rw [if_neg (by rw [h1]; decide), if_neg (by omega), h3, show ((j : Int)).toNat = j from rfl, List.getD_eq_getElem?_getD, h2]
    exact ⟨ao, n, c, h4, h5.mono (Nat.zero_le _)⟩
theorem metN_eq {L : List Raw} {h : List UInt8} {r : Raw} {j : Nat} (hj : L[j]? = some r) (hl : liesB r h = true) (hno : ∀ b ∈ L.take j, liesB b h = false) : metN L h = (j : Int) := by
  have : L.findIdx? (fun a => liesB a h) = some j := by
    rw [List.findIdx?_eq_some_iff_getElem]
    obtain ⟨hlt, e⟩ := List.getElem?_eq_some_iff.1 hj
    refine ⟨hlt, by rw [e]; exact hl, fun i hi => ?_⟩
    rw [hno _ (List.mem_take_iff_getElem.2 ⟨i, by omega, rfl⟩)]
    decide
  unfold metN
  rw [this]
theorem metN_no {L : List Raw} {h : List UInt8} (hno : ∀ b ∈ L, liesB b h = false) : metN L h = -1 := by
  have : L.findIdx? (fun a => liesB a h) = none := by
    rw [List.findIdx?_eq_none_iff]
    exact hno
  unfold metN
  rw [this]

set_option maxRecDepth 20000 in
set_option maxHeartbeats 4000000 in
theorem RMeets_any {w : World} {Q rb : Nat} {W : Int} {L : List Raw} {h : List UInt8} (hD : DTab w Q rb W L) (hg : GoodT W L) (hh : h.length ≤ maxLen) :
    Calls Tryz.prog 18 #[.pointer (some ⟨rb, 0, none⟩), .string (tx h)] w fun e w' => MeetV w' (meetR W L h) e ∧ Below w.heap.size w w' := by
  obtain ⟨v, ps, hB, hd, he⟩ := hD.ex
  obtain ⟨lo, lc, hv, -, -⟩ := hd.own.form
  subst hv
  obtain ⟨n, hn⟩ : ∃ n, n = ps.length := ⟨_, rfl⟩
  rw [← hn] at hB hd
  have HN := hid hn
  have HD := hid hd
  have HE := hid he
  have HG := hid hg
  have HMH := hid hh
  have hn4 : n ≤ 4096 := by have := hg.few; rw [← he, List.length_map, ← hn] at this; exact this
  have HB0 := hid (show Below w.heap.size w (w.alloc (rob 0 (tx []) 0 (.slice none 0 0))) from (Below.refl _ _).alloc (Nat.le_refl _) _)
  have HR0 := hid (new_0 w (rob 0 (tx []) 0 (.slice none 0 0)))
  have HBK := hid (show ∀ X, Below w.heap.size w X → X.heap[rb]? = some (.cells #[.int .i64 W, .slice lo n lc] 32 (0, 0)) from fun X hX => below_block hX hB (lt_of_block hB))
  have HHD := hid (Cub.Header_any (tx h) (w.alloc (rob 0 (tx []) 0 (.slice none 0 0))) (by exact hh))
  have t0 : ∀ o, (w.alloc o).cell? ⟨rb, 0, none⟩ = some (.int .i64 W) := fun o => by rw [cell_at (new_old _ o hB)]; rfl
  have hsz : (tx h).size = h.length := rfl
  obtain ⟨r0, r1, r2, r3, f0, f1, f2, f3⟩ := rob_cells HR0.out
  have HEQ := hid (head_eq (h := h) hg.wide)
  rw [show (tx h).data.toList = h from rfl] at HHD
  obtain ⟨hb, hhb⟩ : ∃ hb, hb = (!Cub.hasX (tx h) && Cub.Cu.right h) := ⟨_, rfl⟩
  rw [← hhb] at HHD HEQ
  have hB5 := rob_4 (rob_3 (rob_2 (rob_1 HR0.out 0) (tx [])) 0) (.slice none 0 0)
  obtain ⟨n0, n1, n2, n3, -, -, -, -⟩ := rob_cells hB5
  have HBF := hid ((((HB0.out.setCell (p := ⟨w.heap.size, 0, none⟩) (Nat.le_refl _) (.int .i64 0)).setCell (p := ⟨w.heap.size, 1, none⟩) (Nat.le_refl _) (.string (tx []))).setCell (p := ⟨w.heap.size, 2, none⟩) (Nat.le_refl _) (.int .i64 0)).setCell (p := ⟨w.heap.size, 3, none⟩) (Nat.le_refl _) (.slice none 0 0))
  obtain ⟨hl, hhl⟩ : ∃ hl, hl = h.length := ⟨_, rfl⟩
  have HHL := hid hhl
  have hszn : (tx h).size = hl := hhl.symm
  rw [← hhl] at HEQ
  clear hB hd he hn hg hD hhb hB5 hhl hh hsz
  cases hb with
  | false =>
    have HHF := hid (show meetR W L h = (zeroR, false, 21) by unfold meetR; rw [if_pos (by rw [HEQ.out]; rfl)])
    go_enter Tryz.func18, Tryz.ntmps18
    go_wp2_with fail
    refine HHD.out.mono ?_
    rintro en w1 ⟨rfl, hw1⟩
    subst hw1
    go_wp2
    refine bodyPost_ret (v := .tuple #[noR, .bool false, .int .i64 21]) (by simp [results, Tryz.results18, go_sem]) rfl ⟨by rw [HHF.out]; exact ⟨none, 0, 0, rfl, Ported.none _ _⟩, HB0.out⟩
  | true =>
    by_cases hlw : (hl : Int) = W
    · have HHF := hid (show headB W h = true by rw [HEQ.out]; simp [hlw])
      have hne : ((hl : Int) != W) = false := by simp [hlw]
      clear hlw
      go_enter Tryz.func18, Tryz.ntmps18
      go_wp2_with fail
      refine HHD.out.mono ?_
      rintro en w1 ⟨rfl, hw1⟩
      have B1 := hid (show Below w.heap.size w w1 by rw [hw1]; exact HB0.out)
      have HR1 := hid (show w1.heap[w.heap.size]? = some (rob 0 (tx []) 0 (.slice none 0 0)) by rw [hw1]; exact HR0.out)
      clear hw1 r0 r1 r2 r3 f0 f1 f2 f3 n0 n1 n2 n3 t0 HBF HB0 HR0 HHD HEQ
      have t0 : w1.cell? ⟨rb, 0, none⟩ = some (.int .i64 W) := by rw [cell_at (HBK.out w1 B1.out)]; rfl
      go_wp2_with fail
      clear t0
      go_loopw [7] (fun vi wr => ∃ j : Nat, j ≤ n ∧ vi = .int .i64 j ∧ Hid ((∀ b ∈ L.take j, liesB b h = false) ∧ wr.heap[w.heap.size]? = some (rob 0 (tx []) 0 (.slice none 0 0)) ∧ Below w.heap.size w wr)) (fun vi _ => n - (intOf vi).toNat)
      case atStart => exact ⟨0, Nat.zero_le _, rfl, fun b hb => by simp at hb, HR1.out, B1.out⟩
      case round =>
        obtain ⟨j, hj, rfl, HJ⟩ := hrel
        rename World => wo
        have t1 : wo.cell? ⟨rb, 1, none⟩ = some (.slice lo n lc) := by rw [cell_at (HBK.out wo HJ.out.2.2)]; rfl
        by_cases hlt : j < n
        · obtain ⟨q, hq⟩ : ∃ q, ps[j]? = some q := ⟨ps[j]'(by rw [← HN.out]; exact hlt), List.getElem?_eq_getElem _⟩
          have HQ1 := hid (show L[j]? = some q.1 by rw [← HE.out, List.getElem?_map, hq]; rfl)
          obtain ⟨g, rfl⟩ : ∃ g, lo = some ⟨g, 0, none⟩ := by
            obtain ⟨lo', lc', e, _, hf⟩ := HD.out.own.form
            injection e with e1 _ _
            subst e1
            rcases hf with ⟨_, h0⟩ | ⟨g, h1, _⟩
            · rw [h0] at hq; simp at hq
            · exact ⟨g, h1⟩
          have HOK := hid (errR_small (HG.out.ok q.1 (List.mem_of_getElem? HQ1.out)))
          have HCL := hid (show ∀ X, Below w.heap.size w X → _ from fun X hX => (HD.out.own.on hX).cells hq)
          have HTX := hid (show ∀ X, Below w.heap.size w X → Ported X 0 q.2 q.1.ports from fun X hX => ((HD.out.on hX).prt q (List.mem_of_getElem? hq)).1.mono (Nat.zero_le _))
          obtain ⟨⟨pp, mm, kk, zz⟩, uv⟩ := q
          simp only at HQ1 HOK HCL HTX
          obtain ⟨uo, uc, huv, _⟩ := HTX.out wo HJ.out.2.2
          obtain ⟨un, hun⟩ : ∃ un, un = zz.length := ⟨_, rfl⟩
          rw [← hun] at huv
          subst huv
          have HTK := hid (show L.take (j + 1) = L.take j ++ [⟨pp, mm, kk, zz⟩] by rw [List.take_add_one, HQ1.out]; rfl)
          obtain ⟨c0, c1, c2, c3⟩ := HCL.out wo HJ.out.2.2
          have hjI : (j : Int) < (n : Int) := by omega
          have hj0 : (0 : Int) ≤ (j : Int) := by omega
          have HHAS := hid (Cub.RHas_any (tx mm) (tx h) wo (by have := HOK.out.2.2.1; show mm.length ≤ _; unfold maxLen; omega) (by exact HMH.out))
          clear hq hun
          rcases Bool.eq_false_or_eq_true (Cub.hasB (tx mm) (tx h)) with hl1 | hl1
          · rw [hl1] at HHAS
            have HM := hid (show meetR W L h = (⟨pp, mm, kk, zz⟩, true, 0) by
              have e := metN_eq HQ1.out (show liesB ⟨pp, mm, kk, zz⟩ h = true from hl1) HJ.out.1
              unfold meetR
              rw [if_neg (by rw [HHF.out]; decide), e, if_neg (by omega), show ((j : Int)).toNat = j from rfl, List.getD_eq_getElem?_getD, HQ1.out]
              rfl)
            clear hl1
            go_wp2_with fail
            refine HHAS.out.mono ?_
            rintro en w2 ⟨rfl, hb2⟩
            have B2 := hid (below_2 HJ.out.2.2 hb2)
            have HR2 := hid (below_block hb2 HJ.out.2.1 (lt_of_block HJ.out.2.1))
            clear hb2 c0 c1 c2 c3 t1
            obtain ⟨c0, c1, c2, c3⟩ := HCL.out w2 B2.out
            have t1 : w2.cell? ⟨rb, 1, none⟩ = some (.slice (some ⟨g, 0, none⟩) n lc) := by rw [cell_at (HBK.out w2 B2.out)]; rfl
            obtain ⟨r0, r1, r2, r3, f0, f1, f2, f3⟩ := rob_cells HR2.out
            have hB5 := rob_4 (rob_3 (rob_2 (rob_1 HR2.out pp) (tx mm)) kk) (.slice uo un uc)
            obtain ⟨n0, n1, n2, n3, -, -, -, -⟩ := rob_cells hB5
            have HBF := hid ((((B2.out.setCell (p := ⟨w.heap.size, 0, none⟩) (Nat.le_refl _) (.int .i64 pp)).setCell (p := ⟨w.heap.size, 1, none⟩) (Nat.le_refl _) (.string (tx mm))).setCell (p := ⟨w.heap.size, 2, none⟩) (Nat.le_refl _) (.int .i64 kk)).setCell (p := ⟨w.heap.size, 3, none⟩) (Nat.le_refl _) (.slice uo un uc))
            clear hB5
            go_wp2
            refine bodyPost_ret (v := .tuple #[.agg #[.int .i64 pp, .string (tx mm), .int .i64 kk, .slice uo un uc], .bool true, .int .i64 0]) (by simp [results, Tryz.results18, go_sem, n0, n1, n2, n3]) rfl ⟨by rw [HM.out]; exact ⟨uo, un, uc, rfl, HTX.out _ HBF.out⟩, HBF.out⟩
          · rw [hl1] at HHAS
            have HNO := hid (show ∀ b ∈ L.take (j + 1), liesB b h = false from fun b hb => by
              rw [HTK.out] at hb
              rcases List.mem_append.1 hb with hb | hb
              · exact HJ.out.1 b hb
              · rw [List.mem_singleton.1 hb]; exact hl1)
            clear hl1
            go_wp2_with fail
            refine HHAS.out.mono ?_
            rintro en w2 ⟨rfl, hb2⟩
            have B2 := hid (below_2 HJ.out.2.2 hb2)
            have HR2 := hid (below_block hb2 HJ.out.2.1 (lt_of_block HJ.out.2.1))
            clear hb2 c0 c1 c2 c3 t1
            go_wp2
            go_roundw
            case rel => exact ⟨j + 1, by omega, by go_num, HNO.out, HR2.out, B2.out⟩
            case measure => simp [intOf]; omega
        · have hjI : ¬ ((j : Int) < (n : Int)) := by omega
          have HM := hid (show meetR W L h = (zeroR, false, 0) by
            have e := metN_no (L := L) (h := h) (fun b hb => HJ.out.1 b (by rw [List.take_of_length_le (by rw [← HE.out, List.length_map, ← HN.out]; omega)]; exact hb))
            unfold meetR
            rw [if_neg (by rw [HHF.out]; decide), e, if_pos (by decide)])
          obtain ⟨r0, r1, r2, r3, f0, f1, f2, f3⟩ := rob_cells HJ.out.2.1
          have hB5 := rob_4 (rob_3 (rob_2 (rob_1 HJ.out.2.1 0) (tx [])) 0) (.slice none 0 0)
          obtain ⟨n0, n1, n2, n3, -, -, -, -⟩ := rob_cells hB5
          have HBF := hid ((((HJ.out.2.2.setCell (p := ⟨w.heap.size, 0, none⟩) (Nat.le_refl _) (.int .i64 0)).setCell (p := ⟨w.heap.size, 1, none⟩) (Nat.le_refl _) (.string (tx []))).setCell (p := ⟨w.heap.size, 2, none⟩) (Nat.le_refl _) (.int .i64 0)).setCell (p := ⟨w.heap.size, 3, none⟩) (Nat.le_refl _) (.slice none 0 0))
          clear hB5
          go_wp2
          refine bodyPost_ret (v := .tuple #[noR, .bool false, .int .i64 0]) (by simp [results, Tryz.results18, go_sem, n0, n1, n2, n3]) rfl ⟨by rw [HM.out]; exact ⟨none, 0, 0, rfl, Ported.none _ _⟩, HBF.out⟩
    · have HHF := hid (show meetR W L h = (zeroR, false, 21) by unfold meetR; rw [if_pos (by rw [HEQ.out]; simp [hlw])])
      have hne : ((hl : Int) != W) = true := by simp [hlw]
      clear hlw
      go_enter Tryz.func18, Tryz.ntmps18
      go_wp2_with fail
      refine HHD.out.mono ?_
      rintro en w1 ⟨rfl, hw1⟩
      subst hw1
      go_wp2
      refine bodyPost_ret (v := .tuple #[noR, .bool false, .int .i64 21]) (by simp [results, Tryz.results18, go_sem]) rfl ⟨by rw [HHF.out]; exact ⟨none, 0, 0, rfl, Ported.none _ _⟩, HB0.out⟩

set_option maxRecDepth 20000 in
set_option maxHeartbeats 2000000 in
theorem RLookup_any {w : World} {Q rb : Nat} {W : Int} {L : List Raw} {h : List UInt8} (hD : DTab w Q rb W L) (hg : GoodT W L) (hh : h.length ≤ maxLen) :
    Calls Tryz.prog 20 #[.pointer (some ⟨rb, 0, none⟩), .string (tx h)] w fun e w' => LookV w' (lookR W L h) e ∧ Below w.heap.size w w' := by
  have HB0 := hid (show Below w.heap.size w (w.alloc (aob 0 (.slice none 0 0))) from (Below.refl _ _).alloc (Nat.le_refl _) _)
  have HA0 := hid (new_0 w (aob 0 (.slice none 0 0)))
  have HM := hid (RMeets_any (h := h) (hD.on HB0.out) hg hh)
  have HREL := hid (show (meetR W L h).2.2 = (lookR W L h).2.2 ∧ ((meetR W L h).2.2 ≠ 0 → (lookR W L h).1 = 0 ∧ (lookR W L h).2.1 = []) ∧ ((meetR W L h).2.2 = 0 → (meetR W L h).2.1 = false → (lookR W L h).1 = 1 ∧ (lookR W L h).2.1 = []) ∧ ((meetR W L h).2.1 = true → (lookR W L h).1 = (meetR W L h).1.kind ∧ (lookR W L h).2.1 = (meetR W L h).1.ports) from by
    unfold meetR lookR
    split
    · simp
    · split <;> simp)
  clear hD hg hh
  obtain ⟨⟨r, x, er⟩, hr⟩ : ∃ q, q = meetR W L h := ⟨_, rfl⟩
  obtain ⟨⟨lk, lp, le⟩, hl⟩ : ∃ q, q = lookR W L h := ⟨_, rfl⟩
  rw [← hr] at HM HREL
  rw [← hl] at HREL ⊢
  simp only at HREL
  clear hr hl
  go_enter Tryz.func20, Tryz.ntmps20
  go_wp2_with fail
  refine HM.out.mono ?_
  rintro en w2 ⟨⟨ao, n, c, rfl, htx⟩, hb2⟩
  have HTX := hid htx
  have B2 := hid (below_2 HB0.out hb2)
  have hA2 := below_block hb2 HA0.out (lt_of_block HA0.out)
  have a0 : ∀ o, (w2.alloc o).cell? ⟨w.heap.size, 0, none⟩ = some (.int .i64 0) := fun o => by rw [cell_at (new_old _ o hA2)]; rfl
  have a1 : ∀ o, (w2.alloc o).cell? ⟨w.heap.size, 1, none⟩ = some (.slice none 0 0) := fun o => by rw [cell_at (new_old _ o hA2)]; rfl
  have g0 : ∀ o, (w2.alloc o).frozen? ⟨w.heap.size, 0, none⟩ = false := fun o => free_of (new_old _ o hA2)
  have g1 : ∀ o, (w2.alloc o).frozen? ⟨w.heap.size, 1, none⟩ = false := fun o => free_of (new_old _ o hA2)
  have HA2 := hid hA2
  obtain ⟨pp, mm, kk, zz⟩ := r
  simp only at HREL HTX
  clear hb2 hA2 htx
  have HEND := hid (show ∀ (k : Int) (v : Value), Below w.heap.size w (((w2.alloc (rob pp (tx mm) kk (.slice ao n c))).setCell ⟨w.heap.size, 0, none⟩ (.int .i64 k)).setCell ⟨w.heap.size, 1, none⟩ v) from fun k v => ((B2.out.alloc B2.out.size _).setCell (p := ⟨w.heap.size, 0, none⟩) (Nat.le_refl _) (.int .i64 k)).setCell (p := ⟨w.heap.size, 1, none⟩) (Nat.le_refl _) v)
  by_cases he : er = 0
  · subst he
    cases x with
    | false =>
      have hA3 := block_set (o := 1) (.slice none 0 0) (block_set (o := 0) (.int .i64 1) (new_old _ (rob pp (tx mm) kk (.slice ao n c)) HA2.out))
      have n0 := cell_at (o := 0) hA3
      have n1 := cell_at (o := 1) hA3
      simp at n0 n1
      clear hA3
      go_wp2
      refine bodyPost_ret (v := .tuple #[.agg #[.int .i64 1, .slice none 0 0], .int .i64 0]) (by simp [results, Tryz.results20, go_sem, n0, n1]) rfl ⟨⟨none, 0, 0, ?_, ?_⟩, HEND.out _ _⟩
      · rw [(HREL.out.2.2.1 (by first | rfl | trivial) (by first | rfl | trivial)).1, ← HREL.out.1]
      · rw [(HREL.out.2.2.1 (by first | rfl | trivial) (by first | rfl | trivial)).2]; exact Ported.none _ _
    | true =>
      have hA3 := block_set (o := 1) (.slice ao n c) (block_set (o := 0) (.int .i64 kk) (new_old _ (rob pp (tx mm) kk (.slice ao n c)) HA2.out))
      have n0 := cell_at (o := 0) hA3
      have n1 := cell_at (o := 1) hA3
      simp at n0 n1
      clear hA3
      go_wp2
      refine bodyPost_ret (v := .tuple #[.agg #[.int .i64 kk, .slice ao n c], .int .i64 0]) (by simp [results, Tryz.results20, go_sem, n0, n1]) rfl ⟨⟨ao, n, c, ?_, ?_⟩, HEND.out _ _⟩
      · rw [(HREL.out.2.2.2 (by first | rfl | trivial)).1, ← HREL.out.1]
      · rw [(HREL.out.2.2.2 (by first | rfl | trivial)).2]
        obtain ⟨ao', c', e1, e2, q0 | ⟨b, e3, e4, cs', e5, e6⟩⟩ := HTX.out.on ((Below.refl _ w2).alloc (Nat.le_refl _) (rob pp (tx mm) kk (.slice ao n c)))
        · exact ⟨ao', c', e1, e2, Or.inl q0⟩
        · refine ⟨ao', c', e1, e2, Or.inr ⟨b, e3, e4, cs', ?_, e6⟩⟩
          have hne : b ≠ w.heap.size := ne_type e5 (new_old _ _ HA2.out) (by decide)
          exact block_other _ (block_other _ e5 hne) hne
  · have hne : (er != 0) = true := by rw [bne_iff_ne]; exact he
    have hA3 := block_set (o := 1) (.slice none 0 0) (block_set (o := 0) (.int .i64 0) (new_old _ (rob pp (tx mm) kk (.slice ao n c)) HA2.out))
    have n0 := cell_at (o := 0) hA3
    have n1 := cell_at (o := 1) hA3
    simp at n0 n1
    have HNE := hid he
    clear hA3 he
    go_wp2
    refine bodyPost_ret (v := .tuple #[.agg #[.int .i64 0, .slice none 0 0], .int .i64 er]) (by simp [results, Tryz.results20, go_sem, n0, n1]) rfl ⟨⟨none, 0, 0, ?_, ?_⟩, HEND.out _ _⟩
    · rw [(HREL.out.2.1 HNE.out).1, ← HREL.out.1]
    · rw [(HREL.out.2.1 HNE.out).2]; exact Ported.none _ _
end Go.Proofs.YtipmlcdnfaobiaaGreat
namespace Go.Proofs.YtipmlcdnfaobiaaGreat
open Go.RowKit

/-- What is done with a header, by the first rule that it meets. -/
theorem look_find {W : Int} {L : List Raw} {h : List UInt8} (hh : headB W h = true) : lookR W L h = match L.find? (fun a => liesB a h) with
    | some r => (r.kind, r.ports, 0)
    | none => (1, [], 0) := by
  unfold lookR
  rw [if_neg (by rw [hh]; decide)]
  cases q : L.findIdx? (fun a => liesB a h) with
  | none =>
    have e : L.find? (fun a => liesB a h) = none := by
      rw [List.find?_eq_none]
      intro x hx
      have := List.findIdx?_eq_none_iff.1 q x hx
      rw [this]; decide
    have em : metN L h = -1 := by unfold metN; rw [q]
    rw [em, if_pos (by decide), e]
  | some j =>
    obtain ⟨hj, hp, hno⟩ := List.findIdx?_eq_some_iff_getElem.1 q
    have e : L.find? (fun a => liesB a h) = some L[j] := by
      rw [List.find?_eq_some_iff_getElem]
      exact ⟨hp, j, hj, rfl, fun i hi => by have := hno i hi; simpa using this⟩
    have em : metN L h = (j : Int) := by unfold metN; rw [q]
    have eg : L.getD (metN L h).toNat zeroR = L[j] := by rw [em, Int.toNat_natCast, List.getD_eq_getElem?_getD, List.getElem?_eq_getElem hj]; rfl
    rw [eg, em, if_neg (by omega), e]
theorem look_gone {W : Int} {L L' : List Raw} {D : List Raw} {h : List UInt8} (hg : GoodT W L) (hg' : GoodT W L') (hD : ∀ d ∈ D, d ∈ (stD L).2) (hm : ∀ x, x ∈ L' ↔ x ∈ L ∧ ∀ d ∈ D, keyB x d = false) : lookR W L' h = lookR W L h := by
  cases hh : headB W h with
  | false => unfold lookR; rw [if_pos hh, if_pos hh]
  | true => rw [look_find hh, look_find hh, dead_gone hg hg' hD hm hh]
/-- One dead rule more is taken away. -/
theorem gone_next {W : Int} {L L1 : List Raw} {D : List Raw} {d : Raw} (hg : GoodT W L) (hg1 : GoodT W L1) (hd : d ∈ L) (hn : ∀ x ∈ D, keyB d x = false) (hm : ∀ x, x ∈ L1 ↔ x ∈ L ∧ ∀ y ∈ D, keyB x y = false) :
    ∃ L2, stepN W L1 2 d = .ok L2 ∧ GoodT W L2 ∧ ∀ x, x ∈ L2 ↔ x ∈ L ∧ ∀ y ∈ D ++ [d], keyB x y = false := by
  have hin : d ∈ L1 := (hm d).2 ⟨hd, hn⟩
  have hs : stepN W L1 2 d = .ok (rmR L1 d) := by
    unfold stepN
    rw [if_neg (by decide), if_pos rfl, if_pos (errR_drop (hg.ok d hd)), if_pos (show (L1.any fun a => keyB a d) = true from List.any_eq_true.2 ⟨d, hin, keyB_self d⟩)]
  obtain ⟨_, a1, _⟩ := step_okC (c := ((2 : Int), d)) hs
  refine ⟨_, hs, hg1.step hs, fun x => ?_⟩
  rw [a1 x, hm x]
  constructor
  · rintro (⟨⟨h1, h2⟩, h3⟩ | ⟨h1, _⟩)
    · refine ⟨h1, fun y hy => ?_⟩
      rcases List.mem_append.1 hy with q | q
      · exact h2 y q
      · rw [List.mem_singleton.1 q]; exact h3
    · exact absurd rfl h1
  · rintro ⟨h1, h2⟩
    exact Or.inl ⟨⟨h1, fun y hy => h2 y (List.mem_append_left _ hy)⟩, h2 d (by simp)⟩
end Go.Proofs.YtipmlcdnfaobiaaGreat
namespace Go.Proofs.YtipmlcdnfaobiaaGreat
open Go.RowKit

/-- Where a walk through the rules stands: the dead so far, and what stands ahead. -/
structure DdAt (w : World) (ps : List (Raw × Value)) (vo : Value) (qs : List (Raw × Value)) (va : Value) (A : List (List UInt8)) (wr : World) : Prop where
  low : Below w.heap.size w wr
  own : OwnR wr w.heap.size vo qs
  row : wr.ownsRow w.heap.size 9 1 va A.length (Cub.svs A)
  sub : ∀ q ∈ qs, q ∈ ps
theorem own_keep1 {w w' : World} {B n : Nat} {e : TypeId} {size : Nat} {v : Value} {xs : List Value} (h : w.ownsRow B e size v n xs) (hb : Below w.heap.size w w') : w'.ownsRow B e size v n xs := by
  refine ⟨h.1, ?_⟩
  rcases h.2 with q | ⟨g, cp, cur, e1, hB, hh, q⟩
  · exact Or.inl q
  · exact Or.inr ⟨g, cp, cur, e1, hB, below_block hb hh (lt_of_block hh), q⟩
theorem DdAt.on {w wo w' : World} {ps qs : List (Raw × Value)} {vo va : Value} {A : List (List UInt8)} (h : DdAt w ps vo qs va A wo) (hb : Below wo.heap.size wo w') : DdAt w ps vo qs va A w' :=
  ⟨below_2 h.low hb, h.own.on hb, own_keep1 h.row hb, h.sub⟩
theorem own_block1 {w : World} {B n c : Nat} {e : TypeId} {size : Nat} {bo : Option Addr} {xs : List Value} (h : w.ownsRow B e size (.slice bo n c) n xs) : ∀ b, (Value.slice bo n c).ownBlock = some b → B ≤ b ∧ ∃ cs, w.heap[b]? = some (.cells cs e (0, 0)) := fun b hb => by
  rcases h.2 with ⟨e, _⟩ | ⟨g, cap, cur, e, hB, hh, _⟩
  · rw [e] at hb; cases hb
  · rw [e] at hb
    have : g = b := by simpa [Value.ownBlock] using hb
    subst this
    exact ⟨hB, cur, hh⟩
theorem own_other {w w' : World} {B b n m : Nat} {e e2 : TypeId} {size size2 : Nat} {v v2 : Value} {xs ys : List Value} (h : w.ownsRow B e size v n xs) (hv : w.ownsRow b e2 size2 v2 m ys) (hg : w.grownBy w' v2.ownBlock) (hne : e ≠ e2) : w'.ownsRow B e size v n xs := by
  obtain ⟨ao, c, rfl⟩ := own_form hv
  refine ⟨h.1, ?_⟩
  rcases h.2 with q | ⟨g, cp, cur, e1, hB, hh, q⟩
  · exact Or.inl q
  · refine Or.inr ⟨g, cp, cur, e1, hB, ?_, q⟩
    rw [hg.block g (lt_of_block hh) (fun e3 => by
      obtain ⟨_, cs, hc⟩ := own_block1 hv g e3.symm
      exact ne_type hh hc hne rfl)]
    exact hh
theorem DdAt.addR {w wo W w7 : World} {ps qs : List (Raw × Value)} {va v7 : Value} {A : List (List UInt8)} {n bc : Nat} {bo : Option Addr} {q : Raw × Value} (h : DdAt w ps (.slice bo n bc) qs va A wo) (hW : Below wo.heap.size wo W) (hq : q ∈ ps) (hv : ∃ ao n c, q.2 = .slice ao n c)
    (hown : w7.ownsRow w.heap.size 44 4 v7 (n + 1) (flatV qs ++ [.int .i64 q.1.prio, .string (tx q.1.mat), .int .i64 q.1.kind, q.2])) (hg : W.grownBy w7 (Value.slice bo n bc).ownBlock) (hn : qs.length = n) : DdAt w ps v7 (qs ++ [q]) va A w7 := by
  have hW' := h.on hW
  have ho := hW'.own.own
  rw [hn] at ho
  refine ⟨hW'.low.grown hg hW'.low.size (fun b hb => (own_block1 ho b hb).1), ⟨?_, fun x hx => ?_⟩, own_other hW'.row ho hg (by decide), fun x hx => ?_⟩
  · rw [flatV_append, List.length_append, hn]; exact hown
  · rcases List.mem_append.1 hx with hx | hx
    · exact h.own.vals x hx
    · rw [List.mem_singleton.1 hx]; exact hv
  · rcases List.mem_append.1 hx with hx | hx
    · exact h.sub x hx
    · rw [List.mem_singleton.1 hx]; exact hq
theorem DdAt.addS {w wo W w7 : World} {ps qs : List (Raw × Value)} {vo v7 : Value} {A : List (List UInt8)} {n bc : Nat} {bo : Option Addr} {m : List UInt8} (h : DdAt w ps vo qs (.slice bo n bc) A wo) (hW : Below wo.heap.size wo W)
    (hown : w7.ownsRow w.heap.size 9 1 v7 (n + 1) (Cub.svs A ++ Cub.svs [m])) (hg : W.grownBy w7 (Value.slice bo n bc).ownBlock) (hn : A.length = n) : DdAt w ps vo qs v7 (A ++ [m]) w7 := by
  have hW' := h.on hW
  have ho := hW'.row
  rw [hn] at ho
  refine ⟨hW'.low.grown hg hW'.low.size (fun b hb => (own_block1 ho b hb).1), ⟨own_other hW'.own.own ho hg (by decide), h.own.vals⟩, ?_, h.sub⟩
  rw [Cub.svs_append, List.length_append, hn]
  exact hown
/-- A text is appended to what stands ahead. -/
theorem DdAt.str {w X : World} {ps qs : List (Raw × Value)} {vo : Value} {A : List (List UInt8)} {i hc : Nat} {ho : Option Addr} {m : List UInt8} (h : DdAt w ps vo qs (.slice ho i hc) A X) (hl : A.length = i) :
    (X.alloc (.cells #[.string (tx m)] 9)).ownsRow w.heap.size 9 1 (.slice ho i hc) i (Cub.svs A) ∧
    (∃ ad c, (.slice (some ⟨X.heap.size, 0, none⟩) 1 1 : Value) = .slice (some ad) 1 c ∧ ([.string (tx m)] : List Value).length = 1 * 1 ∧ ∀ (t : Nat) u, ([.string (tx m)] : List Value)[t]? = some u → (X.alloc (.cells #[.string (tx m)] 9)).cell? (ad.add t) = some u) ∧
    w.heap.size ≤ (X.alloc (.cells #[.string (tx m)] 9)).heap.size ∧
    ∀ (v8 : Value) (w8 : World), w8.ownsRow w.heap.size 9 1 v8 (i + 1) (Cub.svs A ++ [.string (tx m)]) → (X.alloc (.cells #[.string (tx m)] 9)).grownBy w8 (Value.slice ho i hc).ownBlock → ∃ a8 c8, v8 = .slice a8 (i + 1) c8 ∧ DdAt w ps vo qs (.slice a8 (i + 1) c8) (A ++ [m]) w8 := by
  have hB : Below X.heap.size X (X.alloc (.cells #[.string (tx m)] 9)) := (Below.refl _ _).alloc (Nat.le_refl _) _
  have hn := new_0 X (.cells #[.string (tx m)] 9)
  refine ⟨?_, ⟨⟨X.heap.size, 0, none⟩, 1, rfl, rfl, fun t u hu => ?_⟩, Nat.le_trans h.low.size hB.size, fun v8 w8 ho8 hg8 => ?_⟩
  · have := (h.on hB).row
    rw [hl] at this
    exact this
  · rw [addr_add5, Nat.zero_add, cell_at hn, ← Array.getElem?_toList]
    exact hu
  · obtain ⟨a8, c8, e⟩ := own_form ho8
    subst e
    exact ⟨a8, c8, rfl, h.addS hB ho8 hg8 hl⟩
/-- A rule is appended to the dead. -/
theorem DdAt.rul {w X : World} {ps qs : List (Raw × Value)} {va : Value} {A : List (List UInt8)} {bn bc : Nat} {bo : Option Addr} {p k : Int} {m : List UInt8} {zs : List (List UInt8)} {zo : Option Addr} {zn zc : Nat} (h : DdAt w ps (.slice bo bn bc) qs va A X) (hl : qs.length = bn) (hq : ((⟨p, m, k, zs⟩ : Raw), Value.slice zo zn zc) ∈ ps) :
    (X.alloc (rob p (tx m) k (.slice zo zn zc))).ownsRow w.heap.size 44 4 (.slice bo bn bc) bn (flatV qs) ∧
    (∃ ad c, (.slice (some ⟨X.heap.size, 0, none⟩) 1 1 : Value) = .slice (some ad) 1 c ∧ ([.int .i64 p, .string (tx m), .int .i64 k, .slice zo zn zc] : List Value).length = 1 * 4 ∧ ∀ (t : Nat) u, ([.int .i64 p, .string (tx m), .int .i64 k, .slice zo zn zc] : List Value)[t]? = some u → (X.alloc (rob p (tx m) k (.slice zo zn zc))).cell? (ad.add t) = some u) ∧
    w.heap.size ≤ (X.alloc (rob p (tx m) k (.slice zo zn zc))).heap.size ∧
    ∀ (v8 : Value) (w8 : World), w8.ownsRow w.heap.size 44 4 v8 (bn + 1) (flatV qs ++ [.int .i64 p, .string (tx m), .int .i64 k, .slice zo zn zc]) → (X.alloc (rob p (tx m) k (.slice zo zn zc))).grownBy w8 (Value.slice bo bn bc).ownBlock → ∃ a8 c8, v8 = .slice a8 (bn + 1) c8 ∧ DdAt w ps (.slice a8 (bn + 1) c8) (qs ++ [((⟨p, m, k, zs⟩ : Raw), Value.slice zo zn zc)]) va A w8 := by
  have hB : Below X.heap.size X (X.alloc (rob p (tx m) k (.slice zo zn zc))) := (Below.refl _ _).alloc (Nat.le_refl _) _
  have hn := new_0 X (rob p (tx m) k (.slice zo zn zc))
  refine ⟨?_, ⟨⟨X.heap.size, 0, none⟩, 1, rfl, rfl, fun t u hu => ?_⟩, Nat.le_trans h.low.size hB.size, fun v8 w8 ho8 hg8 => ?_⟩
  · have := (h.on hB).own.own
    rw [hl] at this
    exact this
  · rw [addr_add5, Nat.zero_add, cell_at hn, ← Array.getElem?_toList]
    exact hu
  · obtain ⟨a8, c8, e⟩ := own_form ho8
    subst e
    exact ⟨a8, c8, rfl, h.addR hB hq ⟨_, _, _, rfl⟩ ho8 hg8 hl⟩
/-- What Dead tells. -/
def DeadPost (w : World) (ps : List (Raw × Value)) (e : Ending) (w' : World) : Prop :=
  Below w.heap.size w w' ∧
  (((∃ i r, (ps.map Prod.fst)[i]? = some r ∧ Cub.manyB r.mat (mats ((ps.map Prod.fst).take i)) = true) ∧ e = .returned (.tuple #[.slice none 0 0, .int .i64 3])) ∨
   ((∀ (i : Nat) (r : Raw), (ps.map Prod.fst)[i]? = some r → Cub.manyB r.mat (mats ((ps.map Prod.fst).take i)) = false) ∧ ∃ ao n c qs, e = .returned (.tuple #[.slice ao n c, .int .i64 0]) ∧ OwnR w' w.heap.size (.slice ao n c) qs ∧ qs.length = n ∧ (∀ q ∈ qs, q ∈ ps) ∧ qs.map Prod.fst = (stD (ps.map Prod.fst)).2))

set_option maxRecDepth 20000 in
set_option maxHeartbeats 4000000 in
theorem RDead_any {w : World} {Q rb n c : Nat} {ao : Option Addr} {W : Int} {ps : List (Raw × Value)} (hB : w.heap[rb]? = some (.cells #[.int .i64 W, .slice ao n c] 32 (0, 0))) (hd : DocL w 0 Q (.slice ao n c) ps) (hn : ps.length = n) (hg : GoodT W (ps.map Prod.fst)) :
    Calls Tryz.prog 24 #[.pointer (some ⟨rb, 0, none⟩)] w fun e w' => DeadPost w ps e w' := by
  have HB := hid hB
  have HD := hid hd
  have HN := hid hn
  have HG := hid hg
  have h4 : n ≤ 4096 := by have := hg.few; rw [List.length_map, hn] at this; exact this
  have HA0 := hid (show DdAt w ps (.slice none 0 0) [] (.slice none 0 0) [] w from ⟨Below.refl _ _, ⟨World.ownsRow_nil _ _ _ _, fun q hq => by cases hq⟩, World.ownsRow_nil _ _ _ _, fun q hq => by cases hq⟩)
  clear hB hd hn hg
  obtain ⟨i0, hi, hz0, hz1, hz2⟩ := info_parts Tryz.infoRule4
  have HI := hid hi
  have HZ0 := hid hz0
  have HZ1 := hid hz1
  have HZ2 := hid hz2
  obtain ⟨j0, hj, hy0, hy1, hy2⟩ := info_parts Tryz.infoString
  have HJ := hid hj
  have HY0 := hid hy0
  have HY1 := hid hy1
  have HY2 := hid hy2
  clear hi hz0 hz1 hz2 hj hy0 hy1 hy2
  go_enter Tryz.func24, Tryz.ntmps24
  go_wp2_with fail
  go_loopw [4, 5, 6] (fun vo va vi wr => ∃ (i : Nat) (bo : Option Addr) (bn bc : Nat) (qs : List (Raw × Value)) (ho : Option Addr) (hc : Nat) (A : List (List UInt8)), i ≤ n ∧ vi = .int .i64 i ∧ vo = .slice bo bn bc ∧ va = .slice ho i hc ∧ bn ≤ i ∧ Hid (DdAt w ps (.slice bo bn bc) qs (.slice ho i hc) A wr) ∧ Hid (qs.length = bn) ∧ Hid (A = mats ((ps.map Prod.fst).take i)) ∧ Hid (qs.map Prod.fst = (stD ((ps.map Prod.fst).take i)).2) ∧ Hid (∀ (t : Nat) (r : Raw), t < i → (ps.map Prod.fst)[t]? = some r → Cub.manyB r.mat (mats ((ps.map Prod.fst).take t)) = false)) (fun _ _ vi _ => n - (intOf vi).toNat)
  case atStart => exact ⟨0, none, 0, 0, [], none, 0, [], Nat.zero_le _, rfl, rfl, rfl, Nat.le_refl _, HA0, rfl, rfl, rfl, fun t r ht => by omega⟩
  case round =>
    clear HA0
    obtain ⟨i, bo, bn, bc, qs, ho, hc, A, hi, rfl, rfl, rfl, hbn, HA, HL, HE, HS, HM⟩ := hrel
    rename World => wo
    have t1 : ∀ X, Below w.heap.size w X → X.cell? ⟨rb, 1, none⟩ = some (.slice ao n c) := fun X hX => by rw [cell_at (below_block hX HB.out (lt_of_block HB.out))]; rfl
    have T1 := hid t1
    clear t1
    have u1 := T1.out wo HA.out.low
    by_cases hlt : i < n
    · obtain ⟨q, hq⟩ : ∃ q, ps[i]? = some q := ⟨ps[i]'(by rw [HN.out]; exact hlt), List.getElem?_eq_getElem _⟩
      have hI : (i : Int) < (n : Int) := by omega
      have hI0 : (0 : Int) ≤ (i : Int) := by omega
      have hqm := List.mem_of_getElem? hq
      have HQM := hid hqm
      have HLQ := hid (show (ps.map Prod.fst)[i]? = some q.1 by rw [List.getElem?_map, hq]; rfl)
      obtain ⟨g, rfl⟩ : ∃ g, ao = some ⟨g, 0, none⟩ := by
        obtain ⟨lo, lc, e, _, hf⟩ := HD.out.own.form
        injection e with e1 _ _
        subst e1
        rcases hf with ⟨_, h0⟩ | ⟨g, h1, _⟩
        · rw [h0] at hq; simp at hq
        · exact ⟨g, h1⟩
      have HCL := hid (show ∀ X, Below w.heap.size w X → _ from fun X hX => (HD.out.own.on hX).cells hq)
      have HMW := hid (HG.out.wid q.1.mat (List.mem_map_of_mem (List.mem_map_of_mem hqm)))
      have HAW := hid (show Wid W.toNat A by rw [HE.out]; exact fun l hl => HG.out.wid l (by
        obtain ⟨r, hr, e⟩ := List.mem_map.1 hl
        exact List.mem_map.2 ⟨r, List.mem_of_mem_take hr, e⟩))
      have HAL := hid (show A.length = i by rw [HE.out, List.length_map, List.length_take, List.length_map, HN.out]; omega)
      obtain ⟨zo, zn, zc, hz⟩ := HD.out.own.vals q hqm
      obtain ⟨⟨p, m, k, zs⟩, uv⟩ := q
      simp only at HLQ HCL HMW hz
      subst hz
      obtain ⟨many, hmany⟩ : ∃ many, Cub.manyB m A = many := ⟨_, rfl⟩
      have HLF := hid (show ∀ X, Below wo.heap.size wo X → Calls Tryz.prog 43 #[.string (tx m), .slice ho i hc] X fun e w' => ∃ ao' nl cl, e = .returned (.tuple #[.slice ao' nl cl, .int .i64 (if many = true then 3 else 0)]) ∧ (many = false → nl = (Cub.leftTo m A A.length).length) ∧ Below X.heap.size X w' from fun X hX => by
        have hrow := (HA.out.on hX).row
        have hml : m.length ≤ 128 := (Cub.Cu.right_all HMW.out.1).2.2
        refine (Cub.RLeft_ok (tx m) (.slice ho i hc) A X (Cub.src_own hrow) (Cub.row_own hrow) (by rw [HAL.out]; omega) (by show m.toArray.size ≤ maxLen; simp; unfold maxLen; omega) (fun l hl => by have := (Cub.Cu.right_all (HAW.out l hl).1).2.2; unfold maxLen; omega) (HAW.out.err HMW.out) (if many = true then 3 else 0) many (by simpa using hmany) rfl).mono ?_
        rintro e w' ⟨v', rfl, h1, h2, hb⟩
        cases many with
        | true => exact ⟨none, 0, 0, by rw [h1 rfl], (fun h => by cases h), hb⟩
        | false =>
          obtain ⟨ao', cl, e1, _⟩ := h2 rfl
          exact ⟨ao', _, cl, by rw [e1], (fun _ => by simp), hb⟩)
      have HMY := hid hmany
      obtain ⟨e0, e1, e2, e3⟩ := HCL.out wo HA.out.low
      clear hq hqm hmany
      go_wp2_with fail
      refine (HLF.out _ (Below.refl _ _)).mono ?_
      rintro en w1 ⟨ao', nl, cl, rfl, hnl, hb1⟩
      have HA1 := hid (HA.out.on hb1)
      have HNL := hid hnl
      clear hb1 hnl e0 e1 e2 e3 u1 HLF
      cases many with
      | true =>
        have HFIN := hid (show DeadPost w ps (.returned (.tuple #[.slice none 0 0, .int .i64 3])) w1 from ⟨HA1.out.low, Or.inl ⟨⟨i, _, HLQ.out, by rw [← HE.out]; exact HMY.out⟩, rfl⟩⟩)
        go_wp2
        refine bodyPost_ret (v := .tuple #[.slice none 0 0, .int .i64 3]) (by simp [results, Tryz.results24, go_sem]) rfl HFIN.out
      | false =>
        have HE2 := hid (show A ++ [m] = mats ((ps.map Prod.fst).take (i + 1)) by rw [List.take_add_one, HLQ.out, HE.out]; simp [mats])
        have HM2 := hid (show ∀ (t : Nat) (r : Raw), t < i + 1 → (ps.map Prod.fst)[t]? = some r → Cub.manyB r.mat (mats ((ps.map Prod.fst).take t)) = false from fun t r ht hr => by
          by_cases e : t = i
          · subst e
            rw [HLQ.out] at hr
            injection hr with hr
            rw [← hr, ← HE.out]
            exact HMY.out
          · exact HM.out t r (by omega) hr)
        have HST := hid (show stD ((ps.map Prod.fst).take (i + 1)) = if Cub.leftTo m A A.length = [] then ((stD ((ps.map Prod.fst).take i)).1, (stD ((ps.map Prod.fst).take i)).2 ++ [(⟨p, m, k, zs⟩ : Raw)]) else ((stD ((ps.map Prod.fst).take i)).1 ++ [m], (stD ((ps.map Prod.fst).take i)).2) by
          rw [List.take_add_one, HLQ.out]
          show stD ((ps.map Prod.fst).take i ++ [(⟨p, m, k, zs⟩ : Raw)]) = _
          rw [stD_snoc]
          unfold stepD
          have := (dead_same HG.out.wid i (by rw [List.length_map, HN.out]; omega)).2 m HMW.out
          rw [← HE.out] at this
          rw [this.1])
        have HO1 := hid (show ∀ u ∈ ([.string (tx m)] : List Value), u.oneCell' = true from fun u hu => by rw [List.mem_singleton.1 hu]; rfl)
        have HO4 := hid (show ∀ u ∈ ([.int .i64 p, .string (tx m), .int .i64 k, .slice zo zn zc] : List Value), u.oneCell' = true from fun u hu => by
          simp only [List.mem_cons, List.not_mem_nil, or_false] at hu
          rcases hu with rfl | rfl | rfl | rfl <;> rfl)
        have u1 := T1.out w1 HA1.out.low
        obtain ⟨e0, e1, e2, e3⟩ := HCL.out w1 HA1.out.low
        by_cases h0 : Cub.leftTo m A A.length = []
        · have hz : nl = 0 := by rw [HNL.out rfl, h0]; rfl
          subst hz
          have HS2 := hid (show (qs ++ [((⟨p, m, k, zs⟩ : Raw), Value.slice zo zn zc)]).map Prod.fst = (stD ((ps.map Prod.fst).take (i + 1))).2 by
            rw [HST.out, if_pos h0, List.map_append, HS.out]; rfl)
          have HR := hid (HA1.out.rul HL.out HQM.out)
          clear HNL h0
          go_wp2_with (first
            | (at_builtin; refine wpList_append_srcC _ rfl _ _ 29 rfl w.heap.size 44 i0 _ 4 56 Tryz.underlying29 HI.out HZ0.out HZ1.out HZ2.out rfl (by decide) (.slice bo bn bc) bn (flatV qs) rfl HR.out.1 _ 1 [.int .i64 p, .string (tx m), .int .i64 k, .slice zo zn zc] rfl (Or.inr HR.out.2.1) HO4.out (by unfold maxLen; omega) (by omega) HR.out.2.2.1 ?_; intro v7 w7 hown7 hg7; obtain ⟨a7, c7, hv7, hA7⟩ := HR.out.2.2.2 v7 w7 hown7 hg7; subst hv7; have HA7 := hid hA7; have HX := hid (hA7.str (m := m) HAL.out); clear hown7 hg7 hA7 u1 e0 e1 e2 e3; have u7 := T1.out w7 HA7.out.low; obtain ⟨f0, f1, f2, f3⟩ := HCL.out w7 HA7.out.low)
            | (at_builtin; refine wpList_append_srcC _ rfl _ _ 39 rfl w.heap.size 9 j0 _ 1 16 Tryz.underlying39 HJ.out HY0.out HY1.out HY2.out rfl (by decide) (.slice ho i hc) i (Cub.svs A) rfl HX.out.1 _ 1 [.string (tx m)] rfl (Or.inr HX.out.2.1) HO1.out (by unfold maxLen; omega) (by omega) HX.out.2.2.1 ?_; intro v8 w8 hown8 hg8; obtain ⟨a8, c8, hv8, hA8⟩ := HX.out.2.2.2 v8 w8 hown8 hg8; subst hv8; have HA8 := hid hA8; clear hown8 hg8 hA8))
          go_roundw
          case rel => exact ⟨i + 1, a7, bn + 1, c7, _, a8, c8, _, by omega, by go_num, rfl, rfl, by omega, HA8, by show _ = _; rw [List.length_append, HL.out]; rfl, HE2, HS2, HM2⟩
          case measure => simp [intOf]; omega
        · have HS2 := hid (show qs.map Prod.fst = (stD ((ps.map Prod.fst).take (i + 1))).2 by rw [HST.out, if_neg h0, HS.out])
          have hnz : ((nl : Int) == 0) = false := by
            rw [beq_eq_false_iff_ne]
            intro e
            have e : nl = 0 := by omega
            rw [HNL.out rfl] at e
            exact h0 (List.length_eq_zero_iff.1 e)
          have HX := hid (HA1.out.str (m := m) HAL.out)
          clear HNL h0
          go_wp2_with (at_builtin; refine wpList_append_srcC _ rfl _ _ 39 rfl w.heap.size 9 j0 _ 1 16 Tryz.underlying39 HJ.out HY0.out HY1.out HY2.out rfl (by decide) (.slice ho i hc) i (Cub.svs A) rfl HX.out.1 _ 1 [.string (tx m)] rfl (Or.inr HX.out.2.1) HO1.out (by unfold maxLen; omega) (by omega) HX.out.2.2.1 ?_; intro v8 w8 hown8 hg8; obtain ⟨a8, c8, hv8, hA8⟩ := HX.out.2.2.2 v8 w8 hown8 hg8; subst hv8; have HA8 := hid hA8; clear hown8 hg8 hA8)
          go_roundw
          case rel => exact ⟨i + 1, bo, bn, bc, qs, a8, c8, _, by omega, by go_num, rfl, rfl, by omega, HA8, HL, HE2, HS2, HM2⟩
          case measure => simp [intOf]; omega
    · have hI : ¬ ((i : Int) < (n : Int)) := by omega
      have HFIN := hid (show DeadPost w ps (.returned (.tuple #[.slice bo bn bc, .int .i64 0])) wo from ⟨HA.out.low, Or.inr ⟨fun t r hr => HM.out t r (by have := (List.getElem?_eq_some_iff.1 hr).1; rw [List.length_map, HN.out] at this; omega) hr, bo, bn, bc, qs, rfl, HA.out.own, HL.out, HA.out.sub, by
        have := HS.out
        rw [List.take_of_length_le (by rw [List.length_map, HN.out]; omega)] at this
        exact this⟩⟩)
      go_wp2
      refine bodyPost_ret (v := .tuple #[.slice bo bn bc, .int .i64 0]) (by simp [results, Tryz.results24, go_sem]) rfl HFIN.out
end Go.Proofs.YtipmlcdnfaobiaaGreat
