/-
  try: changes one behind the other, all or none; what gives up is caught.
-/
import Derived.Test.YtemmhingmeinjaaGreatDoorVInsCAnd
import Derived.Deep.RegionWith
import Derived.Lib.SliceRun
namespace Go.Proofs.YtemmhingmeinjaaGreatDoor
open Go.RowKit

theorem Insert_any {w : World} {B n c k vb : Nat} {ao : Option Addr} {ps : List (Raw × Value)} {q : Raw × Value} (ho : OwnR w B (.slice ao n c) ps) (hl : ps.length = n) (hk : k ≤ n) (h60 : n ≤ 4096) (hB : B ≤ w.heap.size)
    (hv : w.heap[vb]? = some (.cells #[.int .i64 q.1.prio, .string (tx q.1.mat), .int .i64 q.1.kind, q.2] 51 (0, 0))) (hq : ∃ ao n c, q.2 = .slice ao n c) (hne : (Value.slice ao n c).ownBlock ≠ some vb) :
    Calls Tryz.prog 121 #[.slice ao n c, .int .i64 (k : Int), .slice (some ⟨vb, 0, none⟩) 1 1] w fun e w' => ∃ bo bc, e = .returned (.slice bo (n + 1) bc) ∧ OwnR w' B (.slice bo (n + 1) bc) (ps.take k ++ q :: ps.drop k) ∧ w.grownBy w' (Value.slice ao n c).ownBlock := by
  have hvals : ∀ x ∈ ps.take k ++ q :: ps.drop k, ∃ ao n c, x.2 = .slice ao n c := fun x hx => by
    rcases List.mem_append.1 hx with h | h
    · exact ho.vals x (List.mem_of_mem_take h)
    · rcases List.mem_cons.1 h with h | h
      · rw [h]; exact hq
      · exact ho.vals x (List.mem_of_mem_drop h)
  have hlen : (ps.take k ++ q :: ps.drop k).length = n + 1 := by simp; omega
  have hown : w.ownsRow B 51 4 (.slice ao n c) n (flatV ps) := by have := ho.own; rw [hl] at this; exact this
  by_cases hkn : k = n
  · subst hkn
    refine (Insert_end hown hB h60 hv hq).mono fun e w' h => ?_
    obtain ⟨bo, bc, rfl, h1, h2⟩ := h
    have e : ps.take k ++ q :: ps.drop k = ps ++ [q] := by rw [List.take_of_length_le (by omega), List.drop_eq_nil_of_le (by omega)]
    refine ⟨bo, bc, rfl, ⟨by rw [hlen, e]; exact h1, hvals⟩, h2⟩
  · rcases own_cells hown with ⟨_, h0, _⟩ | ⟨g, rfl, _, hnc, _, _⟩
    · omega
    · by_cases hroom : n + 1 ≤ c
      · refine (Insert_shift hown hl (by omega) hroom h60 hv hq ho.vals (fun e => hne (by rw [e]; rfl))).mono fun e w' h => ?_
        obtain ⟨rfl, h1, h2⟩ := h
        exact ⟨_, _, rfl, ⟨by rw [hlen]; exact h1, hvals⟩, h2⟩
      · refine (Insert_grow hown hl (by omega) (by omega) h60 hB hv hq ho.vals).mono fun e w' h => ?_
        obtain ⟨bo, bc, rfl, h1, h2⟩ := h
        exact ⟨bo, bc, rfl, ⟨by rw [hlen]; exact h1, hvals⟩, h2⟩

def oldR (L : List Raw) (r : Raw) : Raw := (L.find? fun a => keyB a r).getD r
def undoN (L : List Raw) (k : Int) (r : Raw) : Int × Raw := if k = 1 then (2, r) else if k = 2 then (1, oldR L r) else (3, oldR L r)
theorem oldR_at {L : List Raw} (hs : Srt L) {j : Nat} {a r : Raw} (h : L[j]? = some a) (hk : keyB a r = true) : oldR L r = a := by
  have ho := (hs.others h hk).1
  have : L.find? (fun a => keyB a r) = some a := by
    rw [cut_mid_ h, List.find?_append, List.find?_eq_none.2 (fun x hx => by rw [ho x hx]; decide)]
    simp [hk]
  unfold oldR
  rw [this]; rfl
def DoPost (w : World) (B Bp D : Nat) (W num : Int) (L : List Raw) (us : List (Int × Raw × Value)) (k : Int) (r : Raw) (e : Ending) (w' : World) : Prop :=
  (∃ v' vu' ps' us', e = .returned (.tuple #[]) ∧ stepN W L k r = .ok (ps'.map Prod.fst) ∧ us'.map (fun u => (u.1, u.2.1)) = us.map (fun u => (u.1, u.2.1)) ++ [undoN L k r] ∧ TrAt w' B Bp D W num v' vu' ps' us' ∧ Below B w w') ∨
  (∃ er, stepN W L k r = .error er ∧ e = .panicked (panE er) ∧ TrNo w' D num er ∧ Below B w w')
theorem rowOf_own {w : World} {B : Nat} {ao : Option Addr} {n c : Nat} {ps : List (Raw × Value)} (h : OwnR w B (.slice ao n c) ps) : ∀ b, (Value.slice ao n c).ownBlock = some b → B ≤ b ∧ b < w.heap.size ∧ ∃ cs, w.heap[b]? = some (.cells cs 51 (0, 0)) := by
  intro b hb
  rcases h.own.2 with ⟨e, h0⟩ | ⟨g, cap, cur, e, hB, hh, _⟩
  · rw [e] at hb; cases hb
  · rw [e] at hb
    have : g = b := by simpa [Value.ownBlock] using hb
    subst this
    exact ⟨hB, lt_of_block hh, cur, hh⟩
theorem Ported.grown {w w' : World} {B : Nat} {v : Value} {zs : List (List UInt8)} {row : Option Nat} (h : Ported w B v zs) (hg : w.grownBy w' row) (hr : ∀ b, row = some b → ∃ cs, w.heap[b]? = some (.cells cs 51 (0, 0))) : Ported w' B v zs := by
  obtain ⟨ao, cap, e1, e2, q | ⟨b, e3, e4, cs, e5, e6⟩⟩ := h
  · exact ⟨ao, cap, e1, e2, Or.inl q⟩
  · refine ⟨ao, cap, e1, e2, Or.inr ⟨b, e3, e4, cs, ?_, e6⟩⟩
    rw [hg.block b (lt_of_block e5) (fun e => by
      obtain ⟨cs', hc⟩ := hr b e.symm
      exact ne_type e5 hc (by decide) rfl)]
    exact e5
theorem ownC_grown {w w' : World} {B : Nat} {v : Value} {n : Nat} {xs : List Value} {row : Option Nat} (h : w.ownsRow B 53 5 v n xs) (hg : w.grownBy w' row) (hr : ∀ b, row = some b → ∃ cs, w.heap[b]? = some (.cells cs 51 (0, 0))) : w'.ownsRow B 53 5 v n xs := by
  obtain ⟨h1, h2⟩ := h
  refine ⟨h1, ?_⟩
  rcases h2 with h2 | ⟨g, cap, cur, e, hB, hh, r⟩
  · exact Or.inl h2
  · refine Or.inr ⟨g, cap, cur, e, hB, ?_, r⟩
    rw [hg.block g (lt_of_block hh) (fun e => by
      obtain ⟨cs', hc⟩ := hr g e.symm
      exact ne_type hh hc (by decide) rfl)]
    exact hh
theorem ownC_store {w : World} {B D o : Nat} {v u : Value} {n : Nat} {xs : List Value} {cs : Array Value} (h : w.ownsRow B 53 5 v n xs) (hd : w.heap[D]? = some (.cells cs 76 (0, 0))) : (w.setCell ⟨D, o, none⟩ u).ownsRow B 53 5 v n xs := by
  obtain ⟨h1, h2⟩ := h
  refine ⟨h1, ?_⟩
  rcases h2 with h2 | ⟨g, cap, cur, e, hB, hh, r⟩
  · exact Or.inl h2
  · exact Or.inr ⟨g, cap, cur, e, hB, block_other _ hh (ne_type hh hd (by decide)), r⟩
theorem ownR_store {w : World} {B D o : Nat} {v u : Value} {ps : List (Raw × Value)} {cs : Array Value} (h : OwnR w B v ps) (hd : w.heap[D]? = some (.cells cs 76 (0, 0))) : OwnR (w.setCell ⟨D, o, none⟩ u) B v ps := by
  refine ⟨⟨h.own.1, ?_⟩, h.vals⟩
  rcases h.own.2 with h2 | ⟨g, cap, cur, e, hB, hh, r⟩
  · exact Or.inl h2
  · exact Or.inr ⟨g, cap, cur, e, hB, block_other _ hh (ne_type hh hd (by decide)), r⟩
theorem Ported.storeD {w : World} {B D o : Nat} {v u : Value} {zs : List (List UInt8)} {cs : Array Value} (h : Ported w B v zs) (hd : w.heap[D]? = some (.cells cs 76 (0, 0))) : Ported (w.setCell ⟨D, o, none⟩ u) B v zs := by
  obtain ⟨ao, cap, e1, e2, q | ⟨b, e3, e4, cs', e5, e6⟩⟩ := h
  · exact ⟨ao, cap, e1, e2, Or.inl q⟩
  · exact ⟨ao, cap, e1, e2, Or.inr ⟨b, e3, e4, cs', block_other _ e5 (ne_type e5 hd (by decide)), e6⟩⟩
theorem TrAt.relist {w w6 : World} {B Bp D : Nat} {W num : Int} {ao : Option Addr} {n c : Nat} {vu v' : Value} {ps qs : List (Raw × Value)} {us : List (Int × Raw × Value)} (h : TrAt w B Bp D W num (.slice ao n c) vu ps us) (hg : w.grownBy w6 (Value.slice ao n c).ownBlock) (ho : OwnR w6 B v' qs) (hp : ∀ q ∈ qs, Ported w Bp q.2 q.1.ports) (hB : B ≤ w.heap.size) :
    w6.heap[D]? = some (tob W (.slice ao n c) num 0 vu) ∧ TrAt (w6.setCell ⟨D, 1, none⟩ v') B Bp D W num v' vu qs us ∧ Below B w (w6.setCell ⟨D, 1, none⟩ v') := by
  have hrow := rowOf_own h.list
  have hr : ∀ b, (Value.slice ao n c).ownBlock = some b → ∃ cs, w.heap[b]? = some (.cells cs 51 (0, 0)) := fun b hb => (hrow b hb).2.2
  have hD : w6.heap[D]? = some (tob W (.slice ao n c) num 0 vu) := by
    rw [hg.block D (lt_of_block h.blk) (fun e => by
      obtain ⟨cs', hc⟩ := hr D e.symm
      exact ne_type h.blk hc (by decide) rfl)]
    exact h.blk
  refine ⟨hD, ⟨by rw [block_set (o := 1) _ hD]; rfl, h.base, ownR_store ho hD, fun q hq => ((hp q hq).grown hg hr).storeD hD, ownC_store (ownC_grown h.und hg hr) hD, fun u hu => ((h.uports u hu).grown hg hr).storeD hD⟩, ((Below.refl _ _).grown hg hB (fun b hb => (hrow b hb).1)).setCell h.base _⟩

set_option maxRecDepth 20000 in
set_option maxHeartbeats 4000000 in
theorem insert_any {w : World} {B Bp D : Nat} {W num p k : Int} {m : List UInt8} {v vu rv : Value} {zs : List (List UInt8)} {ps : List (Raw × Value)} {us : List (Int × Raw × Value)} (h : TrAt w B Bp D W num v vu ps us) (hB : B ≤ w.heap.size) (hBp : Bp ≤ w.heap.size) (hg : GoodT W (ps.map Prod.fst)) (ht : Txs w rv zs) (hz : ∀ p ∈ zs, p.length ≤ maxLen) (hu : (us.length + 1) * 64 ≤ 140737488355328) :
    Calls Tryz.prog 84 #[.pointer (some ⟨D, 0, none⟩), .agg #[.int .i64 p, .string (tx m), .int .i64 k, rv]] w fun e w' => DoPost w B Bp D W num (ps.map Prod.fst) us 1 ⟨p, m, k, zs⟩ e w' := by
  have HT := hid ht
  have H := hid h
  have HG := hid hg
  have HZ := hid hz
  obtain ⟨ao, cap, rfl, _⟩ := ht
  obtain ⟨lo, lc, hve, hnc, hform⟩ := h.list.form
  subst hve
  obtain ⟨n, hn⟩ : ∃ n, n = ps.length := ⟨_, rfl⟩
  have HN := hid hn
  have hn60 : n ≤ 4096 := by have := hg.few; rw [List.length_map, ← hn] at this; exact this
  rw [← hn] at H
  obtain ⟨zn, hzn⟩ : ∃ zn, zn = zs.length := ⟨_, rfl⟩
  have HZN := hid hzn
  rw [← hzn] at HT ⊢
  have HB := hid (show Below w.heap.size w (w.alloc (rob p (tx m) k (.slice ao zn cap))) from (Below.refl _ _).alloc (Nat.le_refl _) _)
  have HTA := hid (H.out.on HB.out)
  have HO := hid (new_0 w (rob p (tx m) k (.slice ao zn cap)))
  obtain ⟨b0, b1, b2, b3, _, _, _, _⟩ := rob_cells HO.out
  have HCK := hid (lcheck_any (p := p) (k := k) (m := m) HTA.out (Nat.le_trans hB HB.out.size) (HT.out.below HB.out) HZ.out)
  have HS1 := hid (show errR W ⟨p, m, k, zs⟩ ≠ 0 → stepN W (ps.map Prod.fst) 1 ⟨p, m, k, zs⟩ = .error (errR W ⟨p, m, k, zs⟩) from fun he => by unfold stepN; rw [if_pos rfl, if_neg he])
  have HS2 := hid (show errR W ⟨p, m, k, zs⟩ = 0 → ((ps.map Prod.fst).any fun a => keyB a ⟨p, m, k, zs⟩) = true → stepN W (ps.map Prod.fst) 1 ⟨p, m, k, zs⟩ = .error 52 from fun he hk => by unfold stepN; rw [if_pos rfl, if_pos he, if_pos hk])
  have HS3 := hid (show errR W ⟨p, m, k, zs⟩ = 0 → ((ps.map Prod.fst).any fun a => keyB a ⟨p, m, k, zs⟩) = false → ¬ n < 4096 → stepN W (ps.map Prod.fst) 1 ⟨p, m, k, zs⟩ = .error 3 from fun he hk hl => by unfold stepN; rw [if_pos rfl, if_pos he, if_neg (by rw [hk]; decide), if_pos (by rw [List.length_map, ← HN.out]; omega)])
  have HS4 := hid (show errR W ⟨p, m, k, zs⟩ = 0 → ((ps.map Prod.fst).any fun a => keyB a ⟨p, m, k, zs⟩) = false → n < 4096 → stepN W (ps.map Prod.fst) 1 ⟨p, m, k, zs⟩ = .ok (putR (ps.map Prod.fst) ⟨p, m, k, zs⟩) from fun he hk hl => by unfold stepN; rw [if_pos rfl, if_pos he, if_neg (by rw [hk]; decide), if_neg (by rw [List.length_map, ← HN.out]; omega)])
  clear hn hzn h hz hg hform
  go_enter Tryz.func84, Tryz.ntmps84
  go_wp2_with fail
  refine HCK.out.mono ?_
  rintro en w2 (⟨he, rfl, hb2⟩ | ⟨he, rfl, h2, h3⟩)
  rotate_left
  · exact ⟨rfl, Or.inr ⟨_, HS1.out he, rfl, h2, (HB.out.mono hB).trans h3⟩⟩
  have HE := hid he
  have HTB := hid (HTA.out.on hb2)
  have HO2 := hid (below_block hb2 HO.out (lt_of_block HO.out))
  have HBW := hid (below_2 HB.out hb2)
  obtain ⟨d0, d1, d2, d3, _, _, _, _⟩ := rob_cells HO2.out
  have HFI := hid (fun (W' : World) (hW : Below w2.heap.size w2 W') => find_any (p := p) (k := k) (m := m) (bo := ao) (lb := zn) (cb := cap) (zs := zs) ((HTB.out.on hW).cells.2.1) (by have := (HTB.out.on hW).list; exact this) HG.out.srt (by have := HG.out.few; simpa using this))
  obtain ⟨tb, htb⟩ : ∃ tb, ((ps.map Prod.fst).any fun a => keyB a ⟨p, m, k, zs⟩) = tb := ⟨_, rfl⟩
  rw [htb] at HFI HS2 HS3 HS4
  clear hb2 b0 b1 b2 b3 htb he
  go_wp2_with fail
  go_region_held2 (fun W' => W'.cell? ⟨w.heap.size, 0, none⟩ = some (.int .i64 p) ∧ W'.cell? ⟨w.heap.size, 1, none⟩ = some (.string (tx m)) ∧ W'.cell? ⟨w.heap.size, 2, none⟩ = some (.int .i64 k) ∧ W'.cell? ⟨w.heap.size, 3, none⟩ = some (.slice ao zn cap)) (first | exact ⟨d0, d1, d2, d3⟩ | exact hS2) (first | (go_at_call 120; refine (HFI.out _ (by first | exact Below.refl _ _ | exact (Below.refl _ _).drew)).mono ?_; rintro en w3 ⟨j, rfl, hj3⟩; have B3 := hid (show Below w2.heap.size w2 w3 by (first | exact hj3.out.2 | exact undrew hj3.out.2)); have HPL := hid hj3.out.1; have hS2 := And.intro ((B3.out.cell (block_old d0)).trans d0) (And.intro ((B3.out.cell (block_old d1)).trans d1) (And.intro ((B3.out.cell (block_old d2)).trans d2) ((B3.out.cell (block_old d3)).trans d3))); clear hj3))
  have HT3 := hid (HTB.out.on B3.out)
  have HB3 := hid (below_2 HBW.out B3.out)
  have HO3 := hid (below_block B3.out HO2.out (lt_of_block HO2.out))
  have HMU := hid (must_any (B := B) (D := D) (num := num) (er := 52) (!tb) HT3.out.blk HT3.out.base)
  clear hS2 d0 d1 d2 d3
  go_wp2_with fail
  refine HMU.out.mono ?_
  rintro en w4 (⟨h1, rfl, hw4⟩ | ⟨h1, rfl, h2, h3⟩)
  rotate_left
  · exact ⟨rfl, Or.inr ⟨_, HS2.out HE.out (by simpa using h1), rfl, h2, (HB3.out.mono hB).trans h3⟩⟩
  have hw4' := hw4.symm
  clear hw4
  subst hw4'
  have htf : tb = false := by simpa using h1
  clear h1
  subst htf
  have c1 : w3.cell? ⟨D, 1, none⟩ = some (.slice lo n lc) := HT3.out.cells.2.1
  have HMU2 := hid (must_any (B := B) (D := D) (num := num) (er := 3) (decide ((n : Int) < 4096)) HT3.out.blk HT3.out.base)
  go_wp2_with fail
  refine HMU2.out.mono ?_
  rintro en w4 (⟨h1, rfl, hw4⟩ | ⟨h1, rfl, h2, h3⟩)
  rotate_left
  · exact ⟨rfl, Or.inr ⟨_, HS3.out HE.out (by first | rfl | trivial) (by have : ¬ ((n : Int) < 4096) := of_decide_eq_false h1; omega), rfl, h2, (HB3.out.mono hB).trans h3⟩⟩
  have hw4' := hw4.symm
  clear hw4
  subst hw4'
  have hlt : n < 4096 := by have : (n : Int) < 4096 := of_decide_eq_true h1; omega
  have HST := hid (HS4.out HE.out (by first | rfl | trivial) hlt)
  clear h1
  obtain ⟨d0, d1, d2, d3, f0, f1, f2, f3⟩ := rob_cells HO3.out
  have HSM := hid (errR_small HE.out)
  have HCP := hid (fcopyOf_any (p := p) (k := k) (m := m) (HT.out.below HB3.out) HZ.out HSM.out.1)
  go_wp2_with fail
  refine HCP.out.mono ?_
  rintro en w5 ⟨v5, rfl, hp5, hb5⟩
  obtain ⟨ao5, cap5, hv5, hc5⟩ := hp5.out
  rw [← HZN.out] at hv5
  subst hv5
  have HP5 := hid hp5.out
  have HO5 := hid (below_block hb5 HO3.out (lt_of_block HO3.out))
  have HT5 := hid (HT3.out.on hb5)
  have HB5 := hid (below_2 HB3.out hb5)
  have HBP := hid (show Bp ≤ w3.heap.size from Nat.le_trans hBp HB3.out.size)
  clear d0 d1 d2 d3 f0 f1 f2 f3 hp5 hb5 hc5 c1
  obtain ⟨d0, d1, d2, d3, f0, f1, f2, f3⟩ := rob_cells HO5.out
  -- the box with the copy
  obtain ⟨rb, hrb⟩ : ∃ rb, rb = w.heap.size := ⟨_, rfl⟩
  obtain ⟨W6, hW6⟩ : ∃ W6, W6 = (((w5.setCell ⟨rb, 0, none⟩ (.int .i64 p)).setCell ⟨rb, 1, none⟩ (.string (tx m))).setCell ⟨rb, 2, none⟩ (.int .i64 k)).setCell ⟨rb, 3, none⟩ (.slice ao5 zn cap5) := ⟨_, rfl⟩
  have HO6 := hid (show W6.heap[rb]? = some (rob p (tx m) k (.slice ao5 zn cap5)) by rw [hW6, hrb]; exact rob_4 (rob_3 (rob_2 (rob_1 HO5.out p) (tx m)) k) _)
  have HGW6 := hid (show w5.grownBy W6 (some rb) by rw [hW6]; exact grown_two (grown_two (grown_two (grown_cell _ _ _ _) (grown_cell _ _ _ _)) (grown_cell _ _ _ _)) (grown_cell _ _ _ _))
  have HOR := hid (show ∀ b, some rb = some b → ∃ cs, w5.heap[b]? = some (.cells cs 51 (0, 0)) from fun b hb => by cases hb; rw [hrb]; exact ⟨_, HO5.out⟩)
  have HROW := hid (rowOf_own H.out.list)
  have HT6 := hid (show TrAt W6 B Bp D W num (.slice lo n lc) vu ps us from by
    have h5 := HT5.out
    have hgw := HGW6.out
    refine ⟨?_, h5.base, ?_, fun q hq => (h5.ports q hq).grown hgw HOR.out, ownC_grown h5.und hgw HOR.out, fun u hu => (h5.uports u hu).grown hgw HOR.out⟩
    · rw [hgw.block D (lt_of_block h5.blk) (fun e => by
        obtain ⟨cs', hc⟩ := HOR.out D e.symm
        exact ne_type h5.blk hc (by decide) rfl)]
      exact h5.blk
    · refine ⟨⟨h5.list.own.1, ?_⟩, h5.list.vals⟩
      rcases h5.list.own.2 with q | ⟨g, cp, cur, e, hB', hh, r⟩
      · exact Or.inl q
      · refine Or.inr ⟨g, cp, cur, e, hB', ?_, r⟩
        have hgb : (Value.slice lo n lc).ownBlock = some g := by rw [e]; rfl
        have := (HROW.out g hgb).2.1
        rw [hgw.block g (lt_of_block hh) (by rw [hrb]; intro e; cases e; omega)]
        exact hh)
  have HP6 := hid (show Ported W6 Bp (.slice ao5 zn cap5) zs from (HP5.out.grown HGW6.out HOR.out).mono HBP.out)
  have HB6 := hid (show Below B w W6 from (HB5.out.mono hB).grown HGW6.out (Nat.le_trans hB HB5.out.size) (fun b hb => by cases hb; rw [hrb]; exact hB))
  have HRB6 := hid (show rb < W6.heap.size from lt_of_block HO6.out)
  have HVB := hid (show ∀ b, (Value.slice lo n lc).ownBlock = some b → b < rb from fun b hb => by rw [hrb]; exact (HROW.out b hb).2.1)
  have HQS := hid (show ((ps.take j ++ ((⟨p, m, k, zs⟩ : Raw), Value.slice ao5 zn cap5) :: ps.drop j).map Prod.fst) = putR (ps.map Prod.fst) ⟨p, m, k, zs⟩ by rw [putR_at HPL.out]; simp)
  have HINS := hid (fun (X : World) (hX : Below W6.heap.size W6 X) (hnb : X.heap[W6.heap.size]? = some (rob p (tx m) k (.slice ao5 zn cap5))) => (Insert_any (k := j) (vb := W6.heap.size) (q := (⟨p, m, k, zs⟩, .slice ao5 zn cap5)) (HT6.out.on hX).list HN.out.symm (by have := HPL.out.le; rw [List.length_map, ← HN.out] at this; exact this) hn60 (Nat.le_trans (Nat.le_trans hB (Nat.le_of_lt (hrb ▸ HRB6.out))) hX.size) hnb ⟨_, _, _, rfl⟩ (fun e => by have := HVB.out _ e; have := HRB6.out; omega)).mono (R' := fun e w' => ∃ bo bc, e = .returned (.slice bo (n + 1) bc) ∧ w'.cell? ⟨D, 1, none⟩ = some (.slice lo n lc) ∧ w'.frozen? ⟨D, 1, none⟩ = false ∧ w'.heap[rb]? = some (rob p (tx m) k (.slice ao5 zn cap5)) ∧ Hid (TrAt (w'.setCell ⟨D, 1, none⟩ (.slice bo (n + 1) bc)) B Bp D W num (.slice bo (n + 1) bc) vu (ps.take j ++ ((⟨p, m, k, zs⟩ : Raw), Value.slice ao5 zn cap5) :: ps.drop j) us ∧ (w'.setCell ⟨D, 1, none⟩ (.slice bo (n + 1) bc)).heap[rb]? = some (rob p (tx m) k (.slice ao5 zn cap5)) ∧ Below B w (w'.setCell ⟨D, 1, none⟩ (.slice bo (n + 1) bc)) ∧ Ported (w'.setCell ⟨D, 1, none⟩ (.slice bo (n + 1) bc)) Bp (.slice ao5 zn cap5) zs)) fun e w' hq => by
    obtain ⟨bo, bc, rfl, hown, hgr⟩ := hq
    have hTX := HT6.out.on hX
    have hBX : B ≤ X.heap.size := Nat.le_trans (Nat.le_trans hB (Nat.le_of_lt (hrb ▸ HRB6.out))) hX.size
    have hPX : Ported X Bp (.slice ao5 zn cap5) zs := HP6.out.on hX
    obtain ⟨r1, r2, r3⟩ := hTX.relist hgr hown (fun q hq => by
      rcases List.mem_append.1 hq with hq | hq
      · exact hTX.ports q (List.mem_of_mem_take hq)
      · rcases List.mem_cons.1 hq with hq | hq
        · rw [hq]; exact hPX
        · exact hTX.ports q (List.mem_of_mem_drop hq)) hBX
    have hr := fun b hb => (rowOf_own hTX.list b hb).2.2
    have hrb7 : w'.heap[rb]? = some (rob p (tx m) k (.slice ao5 zn cap5)) := by
      rw [hgr.block rb (Nat.lt_of_lt_of_le HRB6.out hX.size) (fun e => by have := HVB.out rb e.symm; omega)]
      exact below_block hX HO6.out HRB6.out
    refine ⟨bo, bc, rfl, by rw [cell_at r1]; rfl, free_of r1, hrb7, r2, ?_, (HB6.out.trans (hX.mono (Nat.le_trans hB (Nat.le_of_lt (hrb ▸ HRB6.out))))).trans r3, (hPX.grown hgr hr).storeD r1⟩
    refine block_other _ hrb7 (fun e => ?_)
    rw [e, r1] at hrb7
    cases hrb7)
  obtain ⟨e0, e1, e2, e3, _, _, _, _⟩ := rob_cells HO6.out
  have c1 : W6.cell? ⟨D, 1, none⟩ = some (.slice lo n lc) := HT6.out.cells.2.1
  go_wp2_with fail
  rw [← hrb, ← hW6]
  have HRBE := hid hrb
  clear hrb hW6 d0 d1 d2 d3 f0 f1 f2 f3
  have c1a : ∀ o, (W6.alloc o).cell? ⟨D, 1, none⟩ = some (.slice lo n lc) := fun o => alloc_cell c1 (lt_of_block HT6.out.blk) o
  go_region_with (first | (go_at_call 121; refine (HINS.out _ (by first | exact ((Below.refl _ _).alloc (Nat.le_refl _) _).drew | exact ((Below.refl _ _).drew).alloc (Nat.le_refl _) _) (by exact new_0 W6 _)).mono ?_; rintro en w7 ⟨bo, bc, rfl, c7, f7, h7r, h7⟩; have HT7 := hid h7.out; clear h7))
  all_goals (clear c1a e0 e1 e2 e3 c1)
  all_goals (obtain ⟨e0, e1, e2, e3, _, _, _, _⟩ := rob_cells HT7.out.2.1)
  all_goals (have HUN := hid (undoneBy_any (k := 2) (r := ⟨p, m, k, zs⟩) HT7.out.1 (Nat.le_trans hB HT7.out.2.2.1.size) hu HT7.out.2.2.2))
  all_goals go_wp2_with fail
  all_goals refine HUN.out.mono ?_
  all_goals rintro en w8 ⟨rfl, vu', h8⟩
  all_goals (have HT8 := hid h8.out)
  all_goals clear h8
  all_goals go_wp2
  all_goals exact bodyPost_end (v := .tuple #[]) (by simp [results, Tryz.results84, go_sem]) rfl (Or.inl ⟨_, _, _, _, rfl, HQS.out ▸ HST.out, by simp [undoN], HT8.out.1, HT7.out.2.2.1.trans HT8.out.2.2⟩)
end Go.Proofs.YtemmhingmeinjaaGreatDoor
namespace Go.Proofs.YtemmhingmeinjaaGreatDoor
open Go.RowKit

def ModPost (w : World) (B Bp D : Nat) (W num : Int) (L L' : List Raw) (us : List (Int × Raw × Value)) (k : Int) (r : Raw) (e : Ending) (w' : World) : Prop :=
  (placeE W L r = 0 ∧ ∃ v' vu' ps' us', e = .returned (.tuple #[]) ∧ ps'.map Prod.fst = L' ∧ us'.map (fun u => (u.1, u.2.1)) = us.map (fun u => (u.1, u.2.1)) ++ [(k, oldR L r)] ∧ TrAt w' B Bp D W num v' vu' ps' us' ∧ Below B w w') ∨
  (placeE W L r ≠ 0 ∧ e = .panicked (panE (placeE W L r)) ∧ TrNo w' D num (placeE W L r) ∧ Below B w w')
theorem place_there {W : Int} {L : List Raw} {r : Raw} (h : placeE W L r = 0) : errR W r = 0 ∧ L.any (fun a => keyB a r) = true := by
  unfold placeE at h
  split at h
  · rename_i h1
    refine ⟨h1, ?_⟩
    split at h
    · rename_i h2; exact h2
    · cases h
  · exact absurd h (by assumption)

set_option maxRecDepth 20000 in
set_option maxHeartbeats 4000000 in
theorem remove_any {w : World} {B Bp D : Nat} {W num p k : Int} {m : List UInt8} {v vu rv : Value} {zs : List (List UInt8)} {ps : List (Raw × Value)} {us : List (Int × Raw × Value)} (h : TrAt w B Bp D W num v vu ps us) (hB : B ≤ w.heap.size) (hg : GoodT W (ps.map Prod.fst)) (ht : Txs w rv zs) (hz : ∀ p ∈ zs, p.length ≤ maxLen) (hu : (us.length + 1) * 64 ≤ 140737488355328) :
    Calls Tryz.prog 85 #[.pointer (some ⟨D, 0, none⟩), .agg #[.int .i64 p, .string (tx m), .int .i64 k, rv]] w fun e w' => ModPost w B Bp D W num (ps.map Prod.fst) (rmR (ps.map Prod.fst) ⟨p, m, k, zs⟩) us 1 ⟨p, m, k, zs⟩ e w' := by
  have HT := hid ht
  have H := hid h
  have HG := hid hg
  have HZ := hid hz
  obtain ⟨ao, cap, rfl, _⟩ := ht
  obtain ⟨zn, hzn⟩ : ∃ zn, zn = zs.length := ⟨_, rfl⟩
  rw [← hzn] at HT ⊢
  have HB := hid (show Below w.heap.size w (w.alloc (rob p (tx m) k (.slice ao zn cap))) from (Below.refl _ _).alloc (Nat.le_refl _) _)
  have HTA := hid (h.on HB.out)
  have HO := hid (new_0 w (rob p (tx m) k (.slice ao zn cap)))
  obtain ⟨b0, b1, b2, b3, _, _, _, _⟩ := rob_cells HO.out
  have HPL := hid (place_any (p := p) (k := k) (m := m) HTA.out (Nat.le_trans hB HB.out.size) HG.out (HT.out.below HB.out) HZ.out)
  clear hzn h hz hg
  go_enter Tryz.func85, Tryz.ntmps85
  go_wp2_with fail
  refine HPL.out.mono ?_
  rintro en w2 (⟨he, j, rfl, hj⟩ | ⟨he, rfl, h2, h3⟩)
  rotate_left
  · exact ⟨rfl, Or.inr ⟨he, rfl, h2, (HB.out.mono hB).trans h3⟩⟩
  have HE := hid he
  have HP := hid hj.out.1
  have HB2 := hid (below_2 HB.out hj.out.2)
  have HT2 := hid (HTA.out.on hj.out.2)
  obtain ⟨a, ha, hka⟩ : ∃ a, (ps.map Prod.fst)[j]? = some a ∧ keyB a ⟨p, m, k, zs⟩ = true := by
    obtain ⟨a, ha, hk⟩ := (there_iff HG.out.srt hj.out.1).1 (place_there he).2
    exact ⟨a, ha, there_key hj.out.1 ha hk⟩
  obtain ⟨q, hq, hqa⟩ : ∃ q, ps[j]? = some q ∧ q.1 = a := by
    rw [List.getElem?_map, Option.map_eq_some_iff] at ha
    obtain ⟨q, h1, h2⟩ := ha
    exact ⟨q, h1, h2⟩
  have HOLD := hid (oldR_at HG.out.srt ha hka)
  have HRM := hid (show (ps.take j ++ ps.drop (j + 1)).map Prod.fst = rmR (ps.map Prod.fst) ⟨p, m, k, zs⟩ by rw [rmR_at HG.out.srt ha hka]; simp)
  have hjl : j < ps.length := (List.getElem?_eq_some_iff.1 hq).1
  obtain ⟨lo, lc, hve, hnc, hform⟩ := HT2.out.list.form
  obtain ⟨g, rfl, _, _⟩ : ∃ g, lo = some ⟨g, 0, none⟩ ∧ B ≤ g ∧ g < w2.heap.size := by
    rcases hform with ⟨_, h0⟩ | h1
    · rw [h0] at hjl; simp at hjl
    · exact h1
  subst hve
  obtain ⟨n, hn⟩ : ∃ n, n = ps.length := ⟨_, rfl⟩
  have HN := hid hn
  rw [← hn] at HT2 hjl
  have hn60 : n ≤ 4096 := by have := HG.out.few; rw [List.length_map, ← hn] at this; exact this
  obtain ⟨q0, q1, q2, q3⟩ := HT2.out.list.cells hq
  have HPO := hid (HT2.out.ports q (List.mem_of_getElem? hq))
  obtain ⟨po, pl, pc, hqv⟩ := HT2.out.list.vals q (List.mem_of_getElem? hq)
  obtain ⟨⟨p', m', k', z'⟩, uv⟩ := q
  simp only at q0 q1 q2 q3 hqv hqa HPO
  subst hqv
  have c1 : w2.cell? ⟨D, 1, none⟩ = some (.slice (some ⟨g, 0, none⟩) n lc) := HT2.out.cells.2.1
  have i0 : (0 : Int) ≤ (j : Int) := by omega
  have i1 : (j : Int) < (n : Int) := by omega
  have HUN := hid (undoneBy_any (k := 1) (r := ⟨p', m', k', z'⟩) HT2.out (Nat.le_trans hB HB2.out.size) hu HPO.out)
  clear hj he hn hform ha hka hq b0 b1 b2 b3
  go_wp2_with fail
  refine HUN.out.mono ?_
  rintro en w3 ⟨rfl, vu', h3⟩
  have HT3 := hid h3.out.1
  have HB3 := hid ((HB2.out.mono hB).trans h3.out.2.2)
  have d1 : w3.cell? ⟨D, 1, none⟩ = some (.slice (some ⟨g, 0, none⟩) n lc) := HT3.out.cells.2.1
  have f1 : w3.frozen? ⟨D, 1, none⟩ = false := free_of HT3.out.blk
  have HDE := hid ((Delete_one (k := j) (by have := HT3.out.list.own; rw [← HN.out] at this; exact this) HN.out.symm hjl hn60 HT3.out.list.vals).mono (R' := fun e w' => e = .returned (.slice (some ⟨g, 0, none⟩) (n - 1) lc) ∧ w'.cell? ⟨D, 1, none⟩ = some (.slice (some ⟨g, 0, none⟩) n lc) ∧ w'.frozen? ⟨D, 1, none⟩ = false ∧ Hid (TrAt (w'.setCell ⟨D, 1, none⟩ (.slice (some ⟨g, 0, none⟩) (n - 1) lc)) B Bp D W num (.slice (some ⟨g, 0, none⟩) (n - 1) lc) vu' (ps.take j ++ ps.drop (j + 1)) (us ++ [(1, ⟨p', m', k', z'⟩, .slice po pl pc)]) ∧ Below B w (w'.setCell ⟨D, 1, none⟩ (.slice (some ⟨g, 0, none⟩) (n - 1) lc)))) fun e w' hq => by
    obtain ⟨rfl, hq1, hq2⟩ := hq
    have hlen : (ps.take j ++ ps.drop (j + 1)).length = n - 1 := by have := HN.out; simp; omega
    have hown : OwnR w' B (.slice (some ⟨g, 0, none⟩) (n - 1) lc) (ps.take j ++ ps.drop (j + 1)) := ⟨by rw [hlen]; exact hq1, fun x hx => by
      rcases List.mem_append.1 hx with hx | hx
      · exact HT3.out.list.vals x (List.mem_of_mem_take hx)
      · exact HT3.out.list.vals x (List.mem_of_mem_drop hx)⟩
    obtain ⟨r1, r2, r3⟩ := HT3.out.relist (w6 := w') hq2 hown (fun x hx => by
      rcases List.mem_append.1 hx with hx | hx
      · exact HT3.out.ports x (List.mem_of_mem_take hx)
      · exact HT3.out.ports x (List.mem_of_mem_drop hx)) (Nat.le_trans hB HB3.out.size)
    exact ⟨rfl, by rw [cell_at r1]; rfl, free_of r1, r2, HB3.out.trans r3⟩)
  clear h3 c1 q0 q1 q2 q3
  go_wp2_with fail
  refine HDE.out.mono ?_
  rintro en w4 ⟨rfl, c4, f4, h4⟩
  have HT4 := hid h4.out
  clear h4 d1 f1
  go_wp2
  exact bodyPost_end (v := .tuple #[]) (by simp [results, Tryz.results85, go_sem]) rfl (Or.inl ⟨HE.out, _, _, _, _, rfl, HRM.out, by rw [HOLD.out, ← hqa]; simp, HT4.out.1, HT4.out.2⟩)

theorem OwnR.set4 {w : World} {B g n c j : Nat} {ps : List (Raw × Value)} (h : OwnR w B (.slice (some ⟨g, 0, none⟩) n c) ps) (hl : ps.length = n) (hj : j < n) (q : Raw × Value) (hq : ∃ ao n c, q.2 = .slice ao n c) : OwnR (put4 w g (j * 4) (.int .i64 q.1.prio) (.string (tx q.1.mat)) (.int .i64 q.1.kind) q.2) B (.slice (some ⟨g, 0, none⟩) n c) (ps.take j ++ q :: ps.drop (j + 1)) := by
  have hown : w.ownsRow B 51 4 (.slice (some ⟨g, 0, none⟩) n c) n (flatV ps) := by have := h.own; rw [hl] at this; exact this
  obtain ⟨cur, hB, hh, hnc, hm, hs, hcs, hsome⟩ := own_parts hown
  have hlen : (ps.take j ++ q :: ps.drop (j + 1)).length = n := by simp; omega
  refine ⟨?_, fun x hx => ?_⟩
  · rw [hlen]
    refine own_of_cells (put4_block hh) hB hnc hm (by simp [hs]) (by rw [flatV_len, hlen]) (fun i u hi => ?_)
    rw [cell_at (put4_block hh), put4_get (by omega)]
    have e : flatV (ps.take j ++ q :: ps.drop (j + 1)) = (flatV ps).take (j * 4) ++ (four q ++ (flatV ps).drop ((j + 1) * 4)) := by
      rw [flatV_append, flatV_take]
      show _ ++ (four q ++ flatV (ps.drop (j + 1))) = _
      rw [flatV_drop]
    have htl : ((flatV ps).take (j * 4)).length = j * 4 := by rw [List.length_take, flatV_len, hl]; omega
    rw [e] at hi
    by_cases h1 : i < j * 4
    · rw [if_neg (by omega), if_neg (by omega), if_neg (by omega), if_neg (by omega), ← cell_at hh]
      rw [List.getElem?_append_left (by omega), List.getElem?_take, if_pos h1] at hi
      exact hcs i u hi
    · rw [List.getElem?_append_right (by omega), htl] at hi
      by_cases h2 : i < j * 4 + 4
      · obtain ⟨t, rfl⟩ : ∃ t, i = j * 4 + t := ⟨i - j * 4, by omega⟩
        rw [show j * 4 + t - j * 4 = t by omega, List.getElem?_append_left (by show t < 4; omega)] at hi
        have ht : t = 0 ∨ t = 1 ∨ t = 2 ∨ t = 3 := by omega
        rcases ht with rfl | rfl | rfl | rfl
        · rw [if_pos (by omega)]; simpa using hi
        · rw [if_neg (by omega), if_pos rfl]; simpa using hi
        · rw [if_neg (by omega), if_neg (by omega), if_pos rfl]; simpa using hi
        · rw [if_neg (by omega), if_neg (by omega), if_neg (by omega), if_pos rfl]; simpa using hi
      · rw [if_neg (by omega), if_neg (by omega), if_neg (by omega), if_neg (by omega), ← cell_at hh]
        rw [List.getElem?_append_right (by show 4 ≤ i - j * 4; omega), List.getElem?_drop] at hi
        refine hcs i u ?_
        rw [← hi]
        congr 1
        show i = (j + 1) * 4 + (i - j * 4 - 4)
        omega
  · rcases List.mem_append.1 hx with hx | hx
    · exact h.vals x (List.mem_of_mem_take hx)
    · rcases List.mem_cons.1 hx with hx | hx
      · rw [hx]; exact hq
      · exact h.vals x (List.mem_of_mem_drop hx)

set_option maxRecDepth 20000 in
set_option maxHeartbeats 4000000 in
theorem modify_any {w : World} {B Bp D : Nat} {W num p k : Int} {m : List UInt8} {v vu rv : Value} {zs : List (List UInt8)} {ps : List (Raw × Value)} {us : List (Int × Raw × Value)} (h : TrAt w B Bp D W num v vu ps us) (hB : B ≤ w.heap.size) (hBp : Bp ≤ w.heap.size) (hg : GoodT W (ps.map Prod.fst)) (ht : Txs w rv zs) (hz : ∀ p ∈ zs, p.length ≤ maxLen) (hu : (us.length + 1) * 64 ≤ 140737488355328) (hold : ∀ W', Below B w W' → B ≤ W'.heap.size → Txs W' rv zs) :
    Calls Tryz.prog 86 #[.pointer (some ⟨D, 0, none⟩), .agg #[.int .i64 p, .string (tx m), .int .i64 k, rv]] w fun e w' => ModPost w B Bp D W num (ps.map Prod.fst) (mdR (ps.map Prod.fst) ⟨p, m, k, zs⟩) us 3 ⟨p, m, k, zs⟩ e w' := by
  have HT := hid ht
  have H := hid h
  have HG := hid hg
  have HZ := hid hz
  have HOT := hid hold
  obtain ⟨ao, cap, rfl, _⟩ := ht
  obtain ⟨zn, hzn⟩ : ∃ zn, zn = zs.length := ⟨_, rfl⟩
  have HZN := hid hzn
  rw [← hzn] at HT HOT ⊢
  have HB := hid (show Below w.heap.size w (w.alloc (rob p (tx m) k (.slice ao zn cap))) from (Below.refl _ _).alloc (Nat.le_refl _) _)
  have HTA := hid (h.on HB.out)
  have HO := hid (new_0 w (rob p (tx m) k (.slice ao zn cap)))
  obtain ⟨b0, b1, b2, b3, _, _, _, _⟩ := rob_cells HO.out
  have HPL := hid (place_any (p := p) (k := k) (m := m) HTA.out (Nat.le_trans hB HB.out.size) HG.out (HT.out.below HB.out) HZ.out)
  clear hzn h hz hg hold
  go_enter Tryz.func86, Tryz.ntmps86
  go_wp2_with fail
  refine HPL.out.mono ?_
  rintro en w2 (⟨he, j, rfl, hj⟩ | ⟨he, rfl, h2, h3⟩)
  rotate_left
  · exact ⟨rfl, Or.inr ⟨he, rfl, h2, (HB.out.mono hB).trans h3⟩⟩
  have HE := hid he
  have HP := hid hj.out.1
  have HB2 := hid (below_2 HB.out hj.out.2)
  have HT2 := hid (HTA.out.on hj.out.2)
  have HO2 := hid (below_block hj.out.2 HO.out (lt_of_block HO.out))
  obtain ⟨a, ha, hka⟩ : ∃ a, (ps.map Prod.fst)[j]? = some a ∧ keyB a ⟨p, m, k, zs⟩ = true := by
    obtain ⟨a, ha, hk⟩ := (there_iff HG.out.srt hj.out.1).1 (place_there he).2
    exact ⟨a, ha, there_key hj.out.1 ha hk⟩
  obtain ⟨q, hq, hqa⟩ : ∃ q, ps[j]? = some q ∧ q.1 = a := by
    rw [List.getElem?_map, Option.map_eq_some_iff] at ha
    obtain ⟨q, h1, h2⟩ := ha
    exact ⟨q, h1, h2⟩
  have HOLD := hid (oldR_at HG.out.srt ha hka)
  have HMD := hid (show ∀ u : Value, ((ps.take j ++ ((⟨p, m, k, zs⟩ : Raw), u) :: ps.drop (j + 1)).map Prod.fst) = mdR (ps.map Prod.fst) ⟨p, m, k, zs⟩ from fun u => by rw [mdR_at HG.out.srt ha hka]; simp)
  have hjl : j < ps.length := (List.getElem?_eq_some_iff.1 hq).1
  obtain ⟨lo, lc, hve, hnc, hform⟩ := HT2.out.list.form
  obtain ⟨g, rfl, hBg, hgw⟩ : ∃ g, lo = some ⟨g, 0, none⟩ ∧ B ≤ g ∧ g < w2.heap.size := by
    rcases hform with ⟨_, h0⟩ | h1
    · rw [h0] at hjl; simp at hjl
    · exact h1
  subst hve
  obtain ⟨n, hn⟩ : ∃ n, n = ps.length := ⟨_, rfl⟩
  have HN := hid hn
  rw [← hn] at HT2 hjl hnc
  have hn60 : n ≤ 4096 := by have := HG.out.few; rw [List.length_map, ← hn] at this; exact this
  obtain ⟨q0, q1, q2, q3⟩ := HT2.out.list.cells hq
  have HPO := hid (HT2.out.ports q (List.mem_of_getElem? hq))
  obtain ⟨po, pl, pc, hqv⟩ := HT2.out.list.vals q (List.mem_of_getElem? hq)
  obtain ⟨⟨p', m', k', z'⟩, uv⟩ := q
  simp only at q0 q1 q2 q3 hqv hqa HPO
  subst hqv
  have c1 : w2.cell? ⟨D, 1, none⟩ = some (.slice (some ⟨g, 0, none⟩) n lc) := HT2.out.cells.2.1
  have i0 : (0 : Int) ≤ (j : Int) := by omega
  have i1 : (j : Int) < (n : Int) := by omega
  have HUN := hid (undoneBy_any (k := 3) (r := ⟨p', m', k', z'⟩) HT2.out (Nat.le_trans hB HB2.out.size) hu HPO.out)
  clear hj he hn hform ha hka hq b0 b1 b2 b3
  go_wp2_with fail
  refine HUN.out.mono ?_
  rintro en w3 ⟨rfl, vu', h3⟩
  have HT3 := hid h3.out.1
  have HB3 := hid ((HB2.out.mono hB).trans h3.out.2.2)
  have HO3 := hid (h3.out.2.1.kept _ _ _ _ HO2.out (by decide) (by decide))
  have HBP := hid (show Bp ≤ w3.heap.size from Nat.le_trans hBp (Nat.le_trans HB2.out.size h3.out.2.1.size))
  have d1 : w3.cell? ⟨D, 1, none⟩ = some (.slice (some ⟨g, 0, none⟩) n lc) := HT3.out.cells.2.1
  obtain ⟨b0, b1, b2, b3, _, _, _, _⟩ := rob_cells HO3.out
  have HSM := hid (errR_small (place_there HE.out).1)
  have HCP := hid (fun (X : World) (hX : Below w3.heap.size w3 X) => (fcopyOf_any (p := p) (k := k) (m := m) ((HOT.out w3 HB3.out (Nat.le_trans hB HB3.out.size)).below hX) HZ.out HSM.out.1).mono (R' := fun e w' => ∃ ao5 cap5, e = .returned (.agg #[.int .i64 p, .string (tx m), .int .i64 k, .slice ao5 zn cap5]) ∧ w'.cell? ⟨D, 1, none⟩ = some (.slice (some ⟨g, 0, none⟩) n lc) ∧ (∃ cs, w'.heap[g]? = some (.cells cs 51 (0, 0)) ∧ cs.size = lc * 4) ∧ Hid (TrAt (put4 w' g (j * 4) (.int .i64 p) (.string (tx m)) (.int .i64 k) (.slice ao5 zn cap5)) B Bp D W num (.slice (some ⟨g, 0, none⟩) n lc) vu' (ps.take j ++ ((⟨p, m, k, zs⟩ : Raw), Value.slice ao5 zn cap5) :: ps.drop (j + 1)) (us ++ [(3, ⟨p', m', k', z'⟩, .slice po pl pc)]) ∧ Below B w (put4 w' g (j * 4) (.int .i64 p) (.string (tx m)) (.int .i64 k) (.slice ao5 zn cap5)))) fun e w' hq => by
    obtain ⟨v5, rfl, hp5, hb5⟩ := hq
    obtain ⟨ao5, cap5, hv5, hc5⟩ := hp5.out
    rw [← HZN.out] at hv5
    subst hv5
    have h5 := (HT3.out.on hX).on hb5
    have hPo : Ported w' Bp (.slice ao5 zn cap5) zs := hp5.out.mono (Nat.le_trans HBP.out hX.size)
    have hown : w'.ownsRow B 51 4 (.slice (some ⟨g, 0, none⟩) n lc) n (flatV ps) := by have := h5.list.own; rw [← HN.out] at this; exact this
    obtain ⟨cur, hBg', hh, _, _, hs, _, _⟩ := own_parts hown
    have key : ∀ u z, Ported w' Bp u z → Ported (put4 w' g (j * 4) (.int .i64 p) (.string (tx m)) (.int .i64 k) (.slice ao5 zn cap5)) Bp u z := fun u z q0 =>
      (((q0.store hh).store (block_set _ hh)).store (block_set _ (block_set _ hh))).store (block_set _ (block_set _ (block_set _ hh)))
    have hgD : D ≠ g := ne_type h5.blk hh (by decide)
    refine ⟨ao5, cap5, rfl, h5.cells.2.1, ⟨cur, hh, hs⟩, ⟨put4_other h5.blk hgD, h5.base, h5.list.set4 HN.out.symm hjl (⟨p, m, k, zs⟩, .slice ao5 zn cap5) ⟨_, _, _, rfl⟩, fun x hx => ?_, ?_, fun u hu => key _ _ (h5.uports u hu)⟩, ?_⟩
    · rcases List.mem_append.1 hx with hx | hx
      · exact key _ _ (h5.ports x (List.mem_of_mem_take hx))
      · rcases List.mem_cons.1 hx with hx | hx
        · rw [hx]; exact key _ _ hPo
        · exact key _ _ (h5.ports x (List.mem_of_mem_drop hx))
    · obtain ⟨u1, u2⟩ := h5.und
      refine ⟨u1, ?_⟩
      rcases u2 with u2 | ⟨gu, cu, curu, eu, hBu, hhu, ru⟩
      · exact Or.inl u2
      · exact Or.inr ⟨gu, cu, curu, eu, hBu, put4_other hhu (ne_type hhu hh (by decide)), ru⟩
    · have hlow : Below B w w' := (HB3.out.trans (hX.mono (Nat.le_trans hB HB3.out.size))).trans (hb5.mono (Nat.le_trans (Nat.le_trans hB HB3.out.size) hX.size))
      exact (((hlow.setCell (p := ⟨g, _, none⟩) hBg' _).setCell (p := ⟨g, _, none⟩) hBg' _).setCell (p := ⟨g, _, none⟩) hBg' _).setCell (p := ⟨g, _, none⟩) hBg' _)
  clear h3 c1 q0 q1 q2 q3
  go_wp2_with fail
  go_region_with (first | (go_at_call 56; refine (HCP.out _ (by first | exact Below.refl _ _ | exact (Below.refl _ _).drew)).mono ?_; rintro en w5 ⟨ao5, cap5, rfl, d5, hcs5, h5⟩; have HT5 := hid h5.out; obtain ⟨cs5, hcb5, hcz5⟩ := hcs5; obtain ⟨⟨z0, g0⟩, ⟨z1, g1⟩, ⟨z2, g2⟩, ⟨z3, g3⟩, g4, g5, g6, g7⟩ := Cub.four_at hcb5 (x := j * 4) (by omega); clear h5 hcb5))
  all_goals go_wp2
  all_goals exact bodyPost_end (v := .tuple #[]) (by simp [results, Tryz.results86, go_sem]) rfl (Or.inl ⟨HE.out, _, _, _, _, rfl, HMD.out _, by rw [HOLD.out, ← hqa]; simp, HT5.out.1, HT5.out.2⟩)
end Go.Proofs.YtemmhingmeinjaaGreatDoor
namespace Go.Proofs.YtemmhingmeinjaaGreatDoor
open Go.RowKit

theorem step_two {W : Int} {L : List Raw} {p k : Int} {m : List UInt8} {zs : List (List UInt8)} : stepN W L 2 ⟨p, m, k, zs⟩ = if placeE W L ⟨p, m, 1, []⟩ = 0 then .ok (rmR L ⟨p, m, k, zs⟩) else .error (placeE W L ⟨p, m, 1, []⟩) := by
  have hk : ∀ a : Raw, keyB a ⟨p, m, k, zs⟩ = keyB a ⟨p, m, 1, []⟩ := fun a => rfl
  unfold stepN placeE
  rw [if_neg (by decide), if_pos rfl]
  simp only [hk]
  by_cases h1 : errR W ⟨p, m, 1, []⟩ = 0
  · rw [if_pos h1, if_pos h1]
    by_cases h2 : (L.any fun a => keyB a ⟨p, m, 1, []⟩) = true
    · rw [if_pos h2, if_pos h2, if_pos rfl]
    · rw [if_neg h2, if_neg h2, if_neg (by decide)]
  · rw [if_neg h1, if_neg h1, if_neg h1]
theorem step_three {W : Int} {L : List Raw} {r : Raw} : stepN W L 3 r = if placeE W L r = 0 then .ok (mdR L r) else .error (placeE W L r) := by
  unfold stepN placeE
  rw [if_neg (by decide), if_neg (by decide), if_pos rfl]
  by_cases h1 : errR W r = 0
  · rw [if_pos h1, if_pos h1]
    by_cases h2 : (L.any fun a => keyB a r) = true
    · rw [if_pos h2, if_pos h2, if_pos rfl]
    · rw [if_neg h2, if_neg h2, if_neg (by decide)]
  · rw [if_neg h1, if_neg h1, if_neg h1]
theorem step_none {W : Int} {L : List Raw} {k : Int} {r : Raw} (h1 : k ≠ 1) (h2 : k ≠ 2) (h3 : k ≠ 3) : stepN W L k r = .error 61 := by
  unfold stepN
  rw [if_neg h1, if_neg h2, if_neg h3]
theorem oldR_same {L : List Raw} {r r' : Raw} (hk : ∀ a, keyB a r = keyB a r') (h : L.any (fun a => keyB a r) = true) : oldR L r = oldR L r' := by
  unfold oldR
  have e : (fun a => keyB a r) = fun a => keyB a r' := funext hk
  rw [← e]
  obtain ⟨a, ha, hk⟩ := List.any_eq_true.1 h
  cases hf : L.find? (fun a => keyB a r) with
  | none => exact absurd hk (by have := List.find?_eq_none.1 hf a ha; simpa using this)
  | some b => rfl
theorem DoPost.from {w w1 w' : World} {B Bp D : Nat} {W num : Int} {L : List Raw} {us : List (Int × Raw × Value)} {k : Int} {r : Raw} {e : Ending} (hb : Below B w w1) (h : DoPost w1 B Bp D W num L us k r e w') : DoPost w B Bp D W num L us k r e w' := by
  rcases h with ⟨v', vu', ps', us', h1, h2, h3, h4, h5⟩ | ⟨er, h1, h2, h3, h4⟩
  · exact Or.inl ⟨v', vu', ps', us', h1, h2, h3, h4, hb.trans h5⟩
  · exact Or.inr ⟨er, h1, h2, h3, hb.trans h4⟩
abbrev cob (c p : Int) (m : ByteArray) (k : Int) (v : Value) : Obj := .cells #[.int .i64 c, .int .i64 p, .string m, .int .i64 k, v] 53

set_option maxRecDepth 20000 in
set_option maxHeartbeats 4000000 in
theorem ldo_any {w : World} {B Bp D : Nat} {W num c p k : Int} {m : List UInt8} {v vu rv : Value} {zs : List (List UInt8)} {ps : List (Raw × Value)} {us : List (Int × Raw × Value)} (h : TrAt w B Bp D W num v vu ps us) (hB : B ≤ w.heap.size) (hBp : Bp ≤ w.heap.size) (hg : GoodT W (ps.map Prod.fst)) (hz : ∀ p ∈ zs, p.length ≤ maxLen) (hu : (us.length + 1) * 64 ≤ 140737488355328) (hold : ∀ W', Below B w W' → B ≤ W'.heap.size → Txs W' rv zs) :
    Calls Tryz.prog 51 #[.pointer (some ⟨D, 0, none⟩), .agg #[.int .i64 c, .int .i64 p, .string (tx m), .int .i64 k, rv]] w fun e w' => DoPost w B Bp D W num (ps.map Prod.fst) us c ⟨p, m, k, zs⟩ e w' := by
  have H := hid h
  have HG := hid hg
  have HZ := hid hz
  have HOT := hid hold
  obtain ⟨ao, cap, hrv, _⟩ := hold w (Below.refl _ _) hB
  obtain ⟨zn, hzn⟩ : ∃ zn, zn = zs.length := ⟨_, rfl⟩
  rw [← hzn] at hrv
  subst hrv
  obtain ⟨W1, hW1⟩ : ∃ W1, W1 = w.alloc (cob c p (tx m) k (.slice ao zn cap)) := ⟨_, rfl⟩
  obtain ⟨W2, hW2⟩ : ∃ W2, W2 = W1.alloc (rob p (tx m) k (.slice ao zn cap)) := ⟨_, rfl⟩
  have HB2 := hid (show Below w.heap.size w W2 by
    rw [hW2, hW1]
    exact ((Below.refl _ _).alloc (Nat.le_refl _) _).alloc (by simp) _)
  have HR2 := hid (show W2.heap[w.heap.size + 1]? = some (rob p (tx m) k (.slice ao zn cap)) by
    rw [hW2, hW1]
    exact new_1 _ _ _)
  have HC2 := hid (show W2.heap[w.heap.size]? = some (cob c p (tx m) k (.slice ao zn cap)) by
    rw [hW2, hW1]
    exact new_old _ _ (new_0 _ _))
  have HT2 := hid (H.out.on HB2.out)
  have HBB := hid (show B ≤ W2.heap.size from Nat.le_trans hB HB2.out.size)
  have HOT2 := hid (show ∀ W', Below B W2 W' → B ≤ W'.heap.size → Txs W' (.slice ao zn cap) zs from fun W' h1 h2 => HOT.out W' ((HB2.out.mono hB).trans h1) h2)
  obtain ⟨d0, d1, d2, d3, f0, f1, f2, f3⟩ := rob_cells HR2.out
  have k0 : W2.cell? ⟨w.heap.size, 0, none⟩ = some (.int .i64 c) := by rw [cell_at HC2.out]; rfl
  have HBW := hid (HB2.out.mono hB)
  clear h hg hz hold hzn
  have hB1 : (w.alloc (cob c p (tx m) k (.slice ao zn cap))).heap[w.heap.size]? = some (cob c p (tx m) k (.slice ao zn cap)) := new_0 _ _
  have e1 : (w.alloc (cob c p (tx m) k (.slice ao zn cap))).cell? ⟨w.heap.size, 1, none⟩ = some (.int .i64 p) := by rw [cell_at hB1]; rfl
  have e2 : (w.alloc (cob c p (tx m) k (.slice ao zn cap))).cell? ⟨w.heap.size, 2, none⟩ = some (.string (tx m)) := by rw [cell_at hB1]; rfl
  have e3 : (w.alloc (cob c p (tx m) k (.slice ao zn cap))).cell? ⟨w.heap.size, 3, none⟩ = some (.int .i64 k) := by rw [cell_at hB1]; rfl
  have e4 : (w.alloc (cob c p (tx m) k (.slice ao zn cap))).cell? ⟨w.heap.size, 4, none⟩ = some (.slice ao zn cap) := by rw [cell_at hB1]; rfl
  rw [hW1] at hW2
  clear hB1 hW1
  by_cases c1 : c = 1
  · subst c1
    have HI := hid (insert_any (p := p) (k := k) (m := m) HT2.out HBB.out (Nat.le_trans hBp HB2.out.size) HG.out (HOT2.out W2 (Below.refl _ _) HBB.out) HZ.out hu)
    go_enter Tryz.func51, Tryz.ntmps51
    go_wp2_with fail
    rw [← hW2]
    refine HI.out.mono ?_
    rintro en w3 hD
    rcases hD with ⟨v', vu', ps', us', rfl, h2⟩ | ⟨er, h1, rfl, h2⟩
    · have HD := hid (DoPost.from HBW.out (Or.inl ⟨v', vu', ps', us', rfl, h2⟩))
      clear h2
      go_wp2
      exact bodyPost_end (v := .tuple #[]) (by simp [results, Tryz.results51, go_sem]) rfl HD.out
    · exact ⟨rfl, DoPost.from HBW.out (Or.inr ⟨er, h1, rfl, h2⟩)⟩
  have h1 : (c == 1) = false := by rw [beq_eq_false_iff_ne]; exact c1
  by_cases c2 : c = 2
  · subst c2
    obtain ⟨W3, hW3⟩ : ∃ W3, W3 = (w.alloc (cob 2 p (tx m) k (.slice ao zn cap))).alloc (rob p (tx m) 1 (.slice none 0 0)) := ⟨_, rfl⟩
    have HB3 := hid (show Below w.heap.size w W3 by rw [hW3]; exact ((Below.refl _ _).alloc (Nat.le_refl _) _).alloc (by simp) _)
    have HR3 := hid (show W3.heap[w.heap.size + 1]? = some (rob p (tx m) 1 (.slice none 0 0)) by rw [hW3]; exact new_1 _ _ _)
    have HT3 := hid (H.out.on HB3.out)
    have HI := hid (remove_any (p := p) (k := 1) (m := m) (zs := []) (rv := .slice none 0 0) HT3.out (Nat.le_trans hB HB3.out.size) HG.out (Txs.nil _ _ _) (fun x hx => by cases hx) hu)
    obtain ⟨g0, g1, g2, g3, _, _, _, _⟩ := rob_cells HR3.out
    go_enter Tryz.func51, Tryz.ntmps51
    go_wp2_with fail
    rw [← hW3]
    refine HI.out.mono ?_
    rintro en w3 (⟨hp, v', vu', ps', us', rfl, h2, h3, h4, h5⟩ | ⟨hp, rfl, h2, h3⟩)
    · have HD := hid (show DoPost w B Bp D W num (ps.map Prod.fst) us 2 ⟨p, m, k, zs⟩ (.returned (.tuple #[])) w3 from Or.inl ⟨v', vu', ps', us', rfl, by rw [step_two, if_pos hp, h2]; rfl, by rw [h3, oldR_same (r := ⟨p, m, 1, []⟩) (r' := ⟨p, m, k, zs⟩) (fun _ => rfl) (place_there hp).2]; rfl, h4, (HB3.out.mono hB).trans h5⟩)
      clear h2 h3 h4 h5 hp
      go_wp2
      exact bodyPost_end (v := .tuple #[]) (by simp [results, Tryz.results51, go_sem]) rfl HD.out
    · exact ⟨rfl, Or.inr ⟨_, by rw [step_two, if_neg hp], rfl, h2, (HB3.out.mono hB).trans h3⟩⟩
  have h2 : (c == 2) = false := by rw [beq_eq_false_iff_ne]; exact c2
  by_cases c3 : c = 3
  · subst c3
    have HI := hid (modify_any (p := p) (k := k) (m := m) HT2.out HBB.out (Nat.le_trans hBp HB2.out.size) HG.out (HOT2.out W2 (Below.refl _ _) HBB.out) HZ.out hu HOT2.out)
    go_enter Tryz.func51, Tryz.ntmps51
    go_wp2_with fail
    rw [← hW2]
    refine HI.out.mono ?_
    rintro en w3 (⟨hp, v', vu', ps', us', rfl, h2, h3, h4, h5⟩ | ⟨hp, rfl, h2, h3⟩)
    · have HD := hid (show DoPost w B Bp D W num (ps.map Prod.fst) us 3 ⟨p, m, k, zs⟩ (.returned (.tuple #[])) w3 from Or.inl ⟨v', vu', ps', us', rfl, by rw [step_three, if_pos hp, h2], by rw [h3]; rfl, h4, HBW.out.trans h5⟩)
      clear h2 h3 h4 h5 hp
      go_wp2
      exact bodyPost_end (v := .tuple #[]) (by simp [results, Tryz.results51, go_sem]) rfl HD.out
    · exact ⟨rfl, Or.inr ⟨_, by rw [step_three, if_neg hp], rfl, h2, HBW.out.trans h3⟩⟩
  have h3 : (c == 3) = false := by rw [beq_eq_false_iff_ne]; exact c3
  have HM := hid (must_no (er := 61) HT2.out.blk)
  have HST := hid (step_none (W := W) (L := ps.map Prod.fst) (r := ⟨p, m, k, zs⟩) c1 c2 c3)
  have HTB := hid HT2.out.blk
  clear c1 c2 c3
  go_enter Tryz.func51, Tryz.ntmps51
  go_wp2_with fail
  rw [← hW2]
  refine HM.out.mono ?_
  rintro en w3 ⟨rfl, rfl⟩
  exact ⟨rfl, Or.inr ⟨61, HST.out, rfl, ⟨_, _, _, by rw [block_set (o := 3) _ HTB.out]; rfl⟩, HBW.out.setCell (by exact H.out.base) _⟩⟩
end Go.Proofs.YtemmhingmeinjaaGreatDoor
namespace Go.Proofs.YtemmhingmeinjaaGreatDoor
open Go.RowKit

theorem ownB_new {N n c k : Nat} (h : (Value.slice (some ⟨N, 0, none⟩) n c).ownBlock = some k) : N ≤ k := by
  have : N = k := by simpa [Value.ownBlock] using h
  omega

set_option maxRecDepth 20000 in
set_option maxHeartbeats 2000000 in
theorem Clone_rules {w : World} {B : Nat} {v : Value} {ps : List (Raw × Value)} (ho : OwnR w B v ps) (h60 : ps.length ≤ 4096) :
    Calls Tryz.prog 49 #[v] w fun e w' => ∃ v', e = .returned v' ∧ (∃ ao n c, v' = .slice ao n c) ∧ Hid (OwnR w' w.heap.size v' ps ∧ Below w.heap.size w w') := by
  have HO := hid ho
  obtain ⟨i0, hi, hz0, hz1, hz2⟩ := info_parts Tryz.infoRule4
  have HI := hid hi
  have HZ0 := hid hz0
  have HZ1 := hid hz1
  have HZ2 := hid hz2
  have q22 : ∀ (w : World) (a : Option Addr) (n c n' c' : Nat), (binOp .eql 36 (.slice a n c) (.slice none n' c')).run Tryz.prog w = .ok (.bool a.isNone) w := fun w a n c n' c' => Lib.run_eql_slice_nil w _ _ a n c n' c' Tryz.underlying36
  obtain ⟨ao, c, rfl, hnc, hf⟩ := ho.form
  obtain ⟨n, hn⟩ : ∃ n, n = ps.length := ⟨_, rfl⟩
  have HN := hid hn
  rw [← hn] at h60 hnc HO ⊢
  rcases hf with ⟨rfl, h0⟩ | ⟨g, rfl, _, hgw⟩
  · subst h0
    have hn0 : n = 0 := hn
    subst hn0
    clear hi hz0 hz1 hz2 ho hn
    go_enter Tryz.func49, Tryz.ntmps49
    go_wp2
    go_ret
    exact ⟨_, rfl, ⟨_, _, _, rfl⟩, ⟨World.ownsRow_nil _ _ _ _, fun q hq => by cases hq⟩, Below.refl _ _⟩
  · have HFL := hid (show (flatV ps).length = n * 4 by rw [flatV_len, HN.out])
    have HSRC := hid (show ∀ (j : Nat) (u : Value), (flatV ps)[j]? = some u → (w.alloc (.cells #[] 51)).cell? ((⟨g, 0, none⟩ : Addr).add j) = some u from fun j u hj => by
      rw [addr_add5, Nat.zero_add]
      have hown : w.ownsRow B 51 4 (.slice (some ⟨g, 0, none⟩) n c) n (flatV ps) := by have := ho.own; rw [← hn] at this; exact this
      obtain ⟨cur, _, _, _, _, _, hcs, _⟩ := own_parts hown
      exact alloc_cell (hcs j u hj) hgw _)
    have H1 := hid (flatV_one ho.vals)
    clear hi hz0 hz1 hz2 ho hn
    go_enter Tryz.func49, Tryz.ntmps49
    go_wp2_with (at_builtin; refine wpList_append_srcR _ rfl _ _ 36 rfl w.heap.size 51 i0 _ 4 56 Tryz.underlying36 HI.out HZ0.out HZ1.out HZ2.out rfl (by decide) _ _ _ rfl (World.ownsRow_made w #[] 0 (Nat.le_refl _) (Nat.zero_le _) (by simp)) _ n (flatV ps) rfl (Or.inr ⟨_, _, rfl, HFL.out, HSRC.out⟩) H1.out (by unfold maxLen; omega) (by omega) (by simp) ?_; intro v' w' hown' hg'; have HF := hid (And.intro hown' hg'); clear hown' hg')
    have HV := hid (show ∃ ao n c, v' = .slice ao n c from by
      rcases HF.out.1.2 with ⟨e, _⟩ | ⟨g', c', _, e, _⟩
      · exact ⟨_, _, _, e⟩
      · exact ⟨_, _, _, e⟩)
    go_ret
    refine ⟨_, rfl, HV.out, ⟨?_, HO.out.vals⟩, ((Below.refl _ w).alloc (Nat.le_refl _) _).grown HF.out.2 (by simp) (fun k hk => ownB_new hk)⟩
    have := HF.out.1
    rw [Nat.zero_add, List.nil_append, HN.out] at this
    exact this

structure ChView (w : World) (g o : Nat) (cs : List (Int × Raw × Value)) : Prop where
  old : g < w.heap.size
  cell : ∀ (i : Nat) (u : Int × Raw × Value), cs[i]? = some u → w.cell? ⟨g, o + i * 5, none⟩ = some (.int .i64 u.1) ∧ w.cell? ⟨g, o + i * 5 + 1, none⟩ = some (.int .i64 u.2.1.prio) ∧ w.cell? ⟨g, o + i * 5 + 2, none⟩ = some (.string (tx u.2.1.mat)) ∧ w.cell? ⟨g, o + i * 5 + 3, none⟩ = some (.int .i64 u.2.1.kind) ∧ w.cell? ⟨g, o + i * 5 + 4, none⟩ = some u.2.2
  ports : ∀ u ∈ cs, Txs w u.2.2 u.2.1.ports ∧ (∀ p ∈ u.2.1.ports, p.length ≤ maxLen)
abbrev chs (cs : List (Int × Raw × Value)) : List (Int × Raw) := cs.map fun u => (u.1, u.2.1)
def undosN (W : Int) : List Raw → List (Int × Raw) → List (Int × Raw)
  | _, [] => []
  | L, c :: cs => match stepN W L c.1 c.2 with
    | .error _ => []
    | .ok L' => undoN L c.1 c.2 :: undosN W L' cs
theorem runN_ok {W : Int} {L L' : List Raw} {c : Int × Raw} {cs : List (Int × Raw)} {i : Nat} (h : stepN W L c.1 c.2 = .ok L') : runN W L (c :: cs) i = runN W L' cs (i + 1) := by simp [runN, h]
theorem runN_no {W : Int} {L : List Raw} {c : Int × Raw} {cs : List (Int × Raw)} {i : Nat} {e : Int} (h : stepN W L c.1 c.2 = .error e) : runN W L (c :: cs) i = .error (i, e) := by simp [runN, h]
theorem undosN_ok {W : Int} {L L' : List Raw} {c : Int × Raw} {cs : List (Int × Raw)} (h : stepN W L c.1 c.2 = .ok L') : undosN W L (c :: cs) = undoN L c.1 c.2 :: undosN W L' cs := by simp [undosN, h]
theorem run_step {W : Int} {A B : List (Int × Raw)} : ∀ {L L' : List Raw} {i : Nat}, runN W L A i = .ok L' → runN W L (A ++ B) i = runN W L' B (i + A.length) := by
  induction A with
  | nil => intro L L' i h; cases h; rfl
  | cons c A ih =>
    intro L L' i h
    cases hs : stepN W L c.1 c.2 with
    | error e => rw [runN_no hs] at h; cases h
    | ok L1 =>
      rw [runN_ok hs] at h
      rw [List.cons_append, runN_ok hs, ih h, List.length_cons]
      congr 1
      omega
theorem undos_step {W : Int} {A B : List (Int × Raw)} : ∀ {L L' : List Raw} {i : Nat}, runN W L A i = .ok L' → undosN W L (A ++ B) = undosN W L A ++ undosN W L' B := by
  induction A with
  | nil => intro L L' i h; cases h; rfl
  | cons c A ih =>
    intro L L' i h
    cases hs : stepN W L c.1 c.2 with
    | error e => rw [runN_no hs] at h; cases h
    | ok L1 =>
      rw [runN_ok hs] at h
      rw [List.cons_append, undosN_ok hs, undosN_ok hs, ih h]
      rfl
theorem run_snoc {W : Int} {L L' : List Raw} {cs : List (Int × Raw)} {j : Nat} {c : Int × Raw} (h : runN W L (cs.take j) 0 = .ok L') (hc : cs[j]? = some c) :
    (∀ L2, stepN W L' c.1 c.2 = .ok L2 → runN W L (cs.take (j + 1)) 0 = .ok L2 ∧ undosN W L (cs.take (j + 1)) = undosN W L (cs.take j) ++ [undoN L' c.1 c.2]) ∧ (∀ e, stepN W L' c.1 c.2 = .error e → runN W L cs 0 = .error (j, e)) := by
  have hj := (List.getElem?_eq_some_iff.1 hc).1
  have ht : cs.take (j + 1) = cs.take j ++ [c] := by rw [List.take_add_one, hc]; rfl
  have hl : (cs.take j).length = j := by rw [List.length_take]; omega
  refine ⟨fun L2 h2 => ⟨?_, ?_⟩, fun e he => ?_⟩
  · rw [ht, run_step h, hl, runN_ok h2]
    rfl
  · rw [ht, undos_step h, undosN_ok h2]
    rfl
  · have e2 : cs = cs.take j ++ c :: cs.drop (j + 1) := by
      conv => lhs; rw [← List.take_append_drop j cs, List.drop_eq_getElem_cons hj, (List.getElem?_eq_some_iff.1 hc).2]
    rw [e2, run_step h, hl, runN_no he, Nat.zero_add]

structure TabAt (w : World) (Bp tb : Nat) (W : Int) (v : Value) (ps : List (Raw × Value)) : Prop where
  blk : w.heap[tb]? = some (.cells #[.int .i64 W, v, .pointer (some ⟨tb, 0, none⟩)] 63 (0, 0))
  list : OwnR w Bp v ps
  ports : ∀ q ∈ ps, Ported w Bp q.2 q.1.ports
  good : GoodT W (ps.map Prod.fst)
abbrev tv (W : Int) (v : Value) (num er : Int) (u : Value) : Value := .agg #[.int .i64 W, v, .int .i64 num, .int .i64 er, u]
def TryPost (w : World) (Bp : Nat) (W : Int) (L : List Raw) (cs : List (Int × Raw)) (e : Ending) (w' : World) : Prop :=
  Below w.heap.size w w' ∧
  ((∃ v' vu' ps' us' num, runN W L cs 0 = .ok (ps'.map Prod.fst) ∧ e = .returned (tv W v' num 0 vu') ∧ OwnR w' w.heap.size v' ps' ∧ (∀ q ∈ ps', Ported w' Bp q.2 q.1.ports) ∧ w'.ownsRow w.heap.size 53 5 vu' us'.length (flatC us') ∧ (∀ u ∈ us', Ported w' Bp u.2.2 u.2.1.ports) ∧ us'.map (fun u => (u.1, u.2.1)) = undosN W L cs) ∨
   (∃ (i : Nat) (er : Int), runN W L cs 0 = .error (i, er) ∧ er ≠ 0 ∧ e = .returned (tv 0 (.slice none 0 0) i er (.slice none 0 0))))
end Go.Proofs.YtemmhingmeinjaaGreatDoor
