/-
  Proved: for every number of bits, every limit and every row of texts the law DumpWrites answers true (the bytes of the function of the texts that are cubes and have room are those of the document, and as many as Size says; program and document lack room at the same texts), and leaves its arguments as they were. Conditions: none.
  The law DumpWrites.
  awake: the bytes of a function that is known.
  The family of made's functions; texts of bytes.
  The document's Write; the program's Size.
  The document's List.
  The document's walk.
-/
import Derived.Test.YtnkipdlfpnmgeaaDWriteAnd
import Derived.Test.YtnkipdlfpnmgeaaQIteTAnd
import Derived.Test.YtnkipdlfpnmgeaaDPairAnd
import Derived.Test.YtnkipdlfpnmgeaaBCubesAAnd
import Derived.Laws.BytesArg
import Derived.Test.YtnkipdlfpnmgeaaRows
import Derived.WalkKit
import Derived.ProofKit
import Derived.OpenShut
import Derived.ShutString
import Derived.SliceStrings
namespace Go.Proofs.Ytnkipdlfpnmgeaa
open Go.RowKit Go.Maps
open Bd (Nd)

set_option maxRecDepth 4000 in
set_option maxHeartbeats 4000000 in
theorem walk_any {y : QLay} {s : QSt} {B : Nat} {w0 : World} (hT0 : QTab w0 y s) (hB : B = w0.heap.size) (g cap : Nat) : ∀ k n (acc : List Nat) (v : Value) (w : World), n < k → n < s.L.length + 2 → WalkAt B w0 w s.L g cap v acc → (∀ m, m ∈ acc → 2 ≤ m ∧ m < s.L.length + 2) → acc.Nodup → Closed s.L 2 acc →
    Calls Try.prog 39 #[.pointer (some ⟨y.tb, 0, none⟩), i6 n, v, .slice (some ⟨g, 0, none⟩) s.L.length cap] w fun e w' => ∃ v', e = .returned v' ∧ WalkAt B w0 w' s.L g cap v' (vis s.L 2 k n acc) ∧ Went w g v w' v' := by
  intro k
  induction k with
  | zero => intro n _ _ _ h; omega
  | succ k ih =>
    intro n acc v w hnk hn hW hacc hnd hC
    by_cases h2 : n < 2
    · have e : vis s.L 2 (k + 1) n acc = acc := by show (if n < 2 then acc else _) = acc; rw [if_pos h2]
      rw [e]
      have HR := keep (And.intro hW (Went.refl w g v))
      have hI : (n : Int) < 2 := by omega
      clear hT0 hW hacc hnd hC ih e hB
      go_enter Try.func39, Try.ntmps39
      go_wp2
      go_ret
      exact ⟨v, rfl, HR.out⟩
    · obtain ⟨i, rfl⟩ : ∃ i, n = i + 2 := ⟨n - 2, by omega⟩
      have hi : i < s.L.length := by omega
      have e1 : ((i + 2 : Nat) : Int) = (i : Int) + 2 := by omega
      have hl : ¬ ((i : Int) + 2 < 2) := by omega
      have hI : (i : Int) < (s.L.length : Int) := by omega
      have hsm := hT0.small.1
      by_cases hm : (i + 2) ∈ acc
      · have e : vis s.L 2 (k + 1) (i + 2) acc = acc := by show (if i + 2 < 2 then acc else if i + 2 ∈ acc then acc else _) = acc; rw [if_neg h2, if_pos hm]
        rw [e]
        have cu : w.cell? ⟨g, i, none⟩ = some (.int .i64 ((2 + acc.idxOf (i + 2) : Nat) : Int)) := by
          rw [hW.row.cellAt i (by omega)]
          simp only [nums, List.getElem?_map, atOf_at acc hi, if_pos hm]
          rfl
        have HR := keep (And.intro hW (Went.refl w g v))
        have hp : (0 : Int) < ((2 + acc.idxOf (i + 2) : Nat) : Int) := by omega
        generalize ((2 + acc.idxOf (i + 2) : Nat) : Int) = z at *
        simp only [i6, e1]
        generalize s.L.length = len at *
        clear hT0 hW hacc hnd hC ih e hm e1 hB
        go_enter Try.func39, Try.ntmps39
        go_wp2
        go_ret
        exact ⟨v, rfl, HR.out⟩
      · obtain ⟨x, hx⟩ : ∃ x, s.L[i]? = some x := ⟨s.L[i], List.getElem?_eq_getElem hi⟩
        have cu : w.cell? ⟨g, i, none⟩ = some (.int .i64 0) := by
          rw [hW.row.cellAt i (by omega)]
          simp only [nums, List.getElem?_map, atOf_at acc hi, if_neg hm]
          rfl
        have hT : QTab w y s := hT0.same fun k hk => hW.below.block k (by have := hT0.lt hk; omega)
        obtain ⟨gn, capn, hv, n0, n1, n2⟩ := hT.node hx
        have c2' := hT.cell2
        rw [hv] at c2'
        have hfit := hT.okay.fit i x hx
        obtain ⟨v1, v2, v3, v4, v5, v6⟩ := vis_step hT.okay.falls (n := i + 2) (k := k) (by omega) hn (by omega) hm hC (by rw [Nat.add_sub_cancel]; exact hx)
        rw [v1]
        have a1 : ∀ m, m ∈ vis s.L 2 k x.2.1 acc → 2 ≤ m ∧ m < s.L.length + 2 := vis_lt s.L 2 hT.okay.falls (by omega) k x.2.1 acc (by omega) hacc
        have a2 : ∀ m, m ∈ vis s.L 2 k x.2.2 (vis s.L 2 k x.2.1 acc) → 2 ≤ m ∧ m < s.L.length + 2 := vis_lt s.L 2 hT.okay.falls (by omega) k x.2.2 _ (by omega) a1
        have d1 := vis_nodup s.L 2 hT.okay.falls (by omega) k x.2.1 acc (by omega) hnd
        have d2 := vis_nodup s.L 2 hT.okay.falls (by omega) k x.2.2 _ (by omega) d1
        have hfew : (vis s.L 2 k x.2.2 (vis s.L 2 k x.2.1 acc)).length ≤ s.L.length + 2 := by
          refine Bd.pigeon _ _ (fun j => (vis s.L 2 k x.2.2 (vis s.L 2 k x.2.1 acc)).getD j 0) (fun j hj => ?_) (fun p q hp hq e => ?_)
          · have := a2 ((vis s.L 2 k x.2.2 (vis s.L 2 k x.2.1 acc)).getD j 0) (by rw [List.getD_eq_getElem?_getD, List.getElem?_eq_getElem hj]; exact List.getElem_mem hj)
            omega
          · simp only [List.getD_eq_getElem?_getD, List.getElem?_eq_getElem hp, List.getElem?_eq_getElem hq, Option.getD_some] at e
            exact (List.getElem_inj d2).1 e
        have HC : Hid (Calls Try.prog 39 #[.pointer (some ⟨y.tb, 0, none⟩), .int .i64 x.2.1, v, .slice (some ⟨g, 0, none⟩) s.L.length cap] (w.alloc (.cells #[.int .i64 x.1, .int .i64 x.2.1, .int .i64 x.2.2] 62)) fun e w1 => ∃ u1, e = .returned u1 ∧ w1.cell? ⟨w.heap.size, 2, none⟩ = some (.int .i64 x.2.2) ∧
            Hid (Calls Try.prog 39 #[.pointer (some ⟨y.tb, 0, none⟩), .int .i64 x.2.2, u1, .slice (some ⟨g, 0, none⟩) s.L.length cap] w1 fun e w2 => ∃ ao c2, e = .returned (.slice ao (vis s.L 2 k x.2.2 (vis s.L 2 k x.2.1 acc)).length c2) ∧
              (w2.cell? ⟨w.heap.size, 0, none⟩ = some (.int .i64 x.1) ∧ w2.cell? ⟨w.heap.size, 1, none⟩ = some (.int .i64 x.2.1) ∧ w2.cell? ⟨w.heap.size, 2, none⟩ = some (.int .i64 x.2.2)) ∧
              (w2.cell? ⟨g, i, none⟩ = some (.int .i64 0) ∧ w2.frozen? ⟨g, i, none⟩ = false) ∧
              (2 ≤ x.2.1 → w2.cell? ⟨g, x.2.1 - 2, none⟩ = some (.int .i64 (nm (vis s.L 2 k x.2.2 (vis s.L 2 k x.2.1 acc)) 2 x.2.1))) ∧ (2 ≤ x.2.2 → w2.cell? ⟨g, x.2.2 - 2, none⟩ = some (.int .i64 (nm (vis s.L 2 k x.2.2 (vis s.L 2 k x.2.1 acc)) 2 x.2.2))) ∧
              Hid (WalkAt B w0 w2 s.L g cap (.slice ao (vis s.L 2 k x.2.2 (vis s.L 2 k x.2.1 acc)).length c2) (vis s.L 2 k x.2.2 (vis s.L 2 k x.2.1 acc)) ∧ Went w g v w2 (.slice ao (vis s.L 2 k x.2.2 (vis s.L 2 k x.2.1 acc)).length c2)))) := by
          have hbl : Below w.heap.size w (w.alloc (.cells #[.int .i64 x.1, .int .i64 x.2.1, .int .i64 x.2.2] 62)) := (Below.refl _ _).alloc (Nat.le_refl _) _
          have hxb := heap_alloc_new w (.cells #[.int .i64 x.1, .int .i64 x.2.1, .int .i64 x.2.2] 62)
          have lx := block_lt hxb
          obtain ⟨cur, hcg⟩ := owned_cells hW.row (g := g) rfl
          have lg := block_lt hcg
          have hvx : v.ownBlock ≠ some w.heap.size := fun e => by
            obtain ⟨cv, hcv⟩ := owned_cells hW.out e
            have := block_lt hcv
            omega
          refine (ih x.2.1 acc v _ (by omega) (by omega) (hW.later hbl) hacc hnd hC).mono ?_
          rintro e w1 ⟨u1, rfl, hW1, hg1⟩
          have b1 := (hg1.block w.heap.size lx (by omega) hvx).trans hxb
          have hg1' := (Went.alloc w g v _).trans hg1
          refine ⟨u1, rfl, by rw [cell_at b1]; rfl, ?_⟩
          refine (ih x.2.2 _ u1 w1 (by omega) (by omega) hW1 a1 d1 v3).mono ?_
          rintro e w2 ⟨u2, rfl, hW2, hg2⟩
          have hu1 : u1.ownBlock ≠ some w.heap.size := fun e => by
            rcases hg1.own _ e with h | h
            · exact hvx h
            · omega
          have b2 := (hg2.block w.heap.size (block_lt b1) (by omega) hu1).trans b1
          obtain ⟨ao, c2, rfl⟩ := row_form hW2.out
          refine ⟨ao, c2, rfl, ⟨by rw [cell_at b2]; rfl, by rw [cell_at b2]; rfl, by rw [cell_at b2]; rfl⟩, ⟨?_, hW2.row.frozenAt i⟩, fun h => ?_, fun h => ?_, hW2, hg1'.trans hg2⟩
          · rw [hW2.row.cellAt i (by omega)]
            simp only [nums, List.getElem?_map, atOf_at _ hi, if_neg v2]
            rfl
          · rw [hW2.row.cellAt (x.2.1 - 2) (by omega)]
            simp only [nums, List.getElem?_map, nm_high (n := s.L.length) (v5.resolve_left (by omega)) h (by omega)]
            rfl
          · rw [hW2.row.cellAt (x.2.2 - 2) (by omega)]
            simp only [nums, List.getElem?_map, nm_high (n := s.L.length) (v6.resolve_left (by omega)) h (by omega)]
            rfl
        generalize hA2 : vis s.L 2 k x.2.2 (vis s.L 2 k x.2.1 acc) = A2 at *
        have FIN : Hid (∀ (w2 : World) (ao : Option Addr) (c2 : Nat), WalkAt B w0 w2 s.L g cap (.slice ao A2.length c2) A2 ∧ Went w g v w2 (.slice ao A2.length c2) → ∀ (o : Obj) (w' : World) (g' cap' : Nat), w'.ownsRow 0 62 3 (.slice (some ⟨g', 0, none⟩) (A2.length + 1) cap') (A2.length + 1) (flat (outOf s.L A2) ++ [.int .i64 x.1, .int .i64 (nm A2 2 x.2.1), .int .i64 (nm A2 2 x.2.2)]) →
            ((w2.setCell ⟨g, i, none⟩ (.int .i64 ((A2.length : Int) + 2))).alloc o).grownBy w' (Value.slice ao A2.length c2).ownBlock → ((Value.slice ao A2.length c2).ownBlock = some g' ∨ g' = w2.heap.size + 1) → WalkAt B w0 w' s.L g cap (.slice (some ⟨g', 0, none⟩) (A2.length + 1) cap') (A2 ++ [i + 2]) ∧ Went w g v w' (.slice (some ⟨g', 0, none⟩) (A2.length + 1) cap')) := by
          intro w2 ao c2 h o w' g' cap' hown hgr hat
          have ez : ((A2.length : Int) + 2) = ((2 + A2.length : Nat) : Int) := by omega
          rw [ez] at hgr
          exact ⟨h.1.put (n := i + 2) (by omega) hn v2 v4 (by rw [Nat.add_sub_cancel]; exact hx) v5 v6 hown hgr hat, h.2.trans (Went.last hgr hat)⟩
        have hgw : g < w.heap.size := by
          obtain ⟨cur, hcg⟩ := owned_cells hW.row (g := g) rfl
          exact block_lt hcg
        have nl : ∀ c, c < 2 → nm A2 2 c = c := fun c hc => nm_low (fun m hm => (a2 m hm).1) hc
        have hlo : x.2.1 ≤ 1073741826 := by omega
        have hlol : x.2.1 < s.L.length + 2 := by omega
        have hhil : x.2.2 < s.L.length + 2 := by omega
        have hhi : x.2.2 ≤ 1073741826 := by omega
        obtain ⟨al, hal⟩ : ∃ al, al = A2.length := ⟨_, rfl⟩
        have hals : al ≤ 1073741826 := by omega
        have HROW : Hid (∀ (w2 : World) (ao : Option Addr) (c2 : Nat), WalkAt B w0 w2 s.L g cap (.slice ao A2.length c2) A2 ∧ Went w g v w2 (.slice ao A2.length c2) → ∀ o, ((w2.setCell ⟨g, i, none⟩ (.int .i64 ((A2.length : Int) + 2))).alloc o).ownsRow 0 62 3 (.slice ao A2.length c2) A2.length (flat (outOf s.L A2))) := by
          intro w2 ao c2 h o
          have ez : ((A2.length : Int) + 2) = ((2 + A2.length : Nat) : Int) := by omega
          rw [ez]
          exact ((h.1.place (n := i + 2) (by omega) hn v2).2).alloc o
        rw [← hal] at HC FIN HROW
        obtain ⟨i0, hi0, hz0, hz1, hz2⟩ := info_parts Try.infoNode
        have HI := keep hi0
        have HZ0 := keep hz0
        have HZ1 := keep hz1
        have HZ2 := keep hz2
        simp only [i6, e1]
        generalize hlen : s.L.length = len at *
        generalize hout : flat (outOf s.L A2) = fo at *
        generalize hnl : nm A2 2 x.2.1 = nlo at *
        generalize hnh : nm A2 2 x.2.2 = nhi at *
        clear hT0 hW hacc hnd hC ih e1 hB hT hm hA2 v1 v2 v3 v4 v5 v6 a1 a2 d1 d2 hfew hfit hx hi0 hz0 hz1 hz2 hv hlen hout hal
        go_enter Try.func39, Try.ntmps39
        go_wp2_with fail
        refine HC.out.mono ?_
        rintro e w1 ⟨u1, rfl, p2, HC2⟩
        clear HC
        go_wp2_with fail
        refine HC2.out.mono ?_
        rintro e w2 ⟨ao, c2, rfl, ⟨q0, q1, q2⟩, ⟨r0, r1⟩, r2, r3, HW2⟩
        clear HC2 p2
        have q0' : ∀ z, (w2.setCell ⟨g, i, none⟩ z).cell? ⟨w.heap.size, 0, none⟩ = some (.int .i64 x.1) := fun z => by rw [World.cell?_setCell_far _ _ _ _ (by show g ≠ w.heap.size; omega)]; exact q0
        by_cases hl2 : x.2.1 < 2
        · have en : nlo = x.2.1 := by rw [← hnl]; exact nl _ hl2
          have k1 : ¬ ((2 : Int) ≤ (x.2.1 : Int)) := by omega
          clear r2 hnl
          subst en
          by_cases hh2 : x.2.2 < 2
          · have em : nhi = x.2.2 := by rw [← hnh]; exact nl _ hh2
            have k2 : ¬ ((2 : Int) ≤ (x.2.2 : Int)) := by omega
            clear r3 hnh
            subst em
            clear nl
            have HO := keep (HROW.out w2 ao c2 HW2.out)
            go_wp2_with fail
            go_region
            go_wp2_with (at_builtin; refine wpList_append_lies _ rfl (.tmp 68) (.tmp 74) 41 rfl 0 62 i0 (.agg #[i6 0, i6 0, i6 0]) 3 24 Try.underlying41 HI.out HZ0.out HZ1.out HZ2.out rfl (by decide) (.slice ao al c2) al fo rfl (HO.out _).drew ⟨w2.heap.size, 0, none⟩ 1 1 [.int .i64 x.1, .int .i64 x.2.1, .int .i64 x.2.2] rfl rfl (World.news_of_block (set_alloc_new _ _ _ _)) (by simp [Value.oneCell']) (by decide) (by unfold maxLen; omega) (by omega) (Nat.zero_le _) (w2.heap.size + 1) (by simp) ?_)
            intro g4 cap4 w4 hown4 hgrow4 hat4 hlt4
            have HR := keep (FIN.out w2 ao c2 HW2.out _ w4 g4 cap4 hown4 ⟨hgrow4.os, hgrow4.tape, hgrow4.output, hgrow4.size, hgrow4.block⟩ hat4)
            clear hown4 hgrow4 hat4
            go_wp2
            go_ret
            exact ⟨_, rfl, HR.out⟩
          · obtain ⟨jh, hjh⟩ : ∃ j, x.2.2 = j + 2 := ⟨x.2.2 - 2, by omega⟩
            have r3' := r3 (by omega)
            have ejh : ((x.2.2 : Nat) : Int) = (jh : Int) + 2 := by omega
            have k2 : (2 : Int) ≤ (jh : Int) + 2 := by omega
            have k2' : (jh : Int) < (len : Int) := by omega
            rw [show x.2.2 - 2 = jh by omega] at r3'
            rw [ejh] at q2 ⊢
            clear r3 hnh
            clear nl
            have HO := keep (HROW.out w2 ao c2 HW2.out)
            go_wp2_with fail
            go_region
            go_wp2_with (at_builtin; refine wpList_append_lies _ rfl (.tmp 68) (.tmp 74) 41 rfl 0 62 i0 (.agg #[i6 0, i6 0, i6 0]) 3 24 Try.underlying41 HI.out HZ0.out HZ1.out HZ2.out rfl (by decide) (.slice ao al c2) al fo rfl (HO.out _).drew ⟨w2.heap.size, 0, none⟩ 1 1 [.int .i64 x.1, .int .i64 x.2.1, .int .i64 nhi] rfl rfl (World.news_of_block (set_alloc_new _ _ _ _)) (by simp [Value.oneCell']) (by decide) (by unfold maxLen; omega) (by omega) (Nat.zero_le _) (w2.heap.size + 1) (by simp) ?_)
            intro g4 cap4 w4 hown4 hgrow4 hat4 hlt4
            have HR := keep (FIN.out w2 ao c2 HW2.out _ w4 g4 cap4 hown4 ⟨hgrow4.os, hgrow4.tape, hgrow4.output, hgrow4.size, hgrow4.block⟩ hat4)
            clear hown4 hgrow4 hat4
            go_wp2
            go_ret
            exact ⟨_, rfl, HR.out⟩
        · obtain ⟨jl, hjl⟩ : ∃ j, x.2.1 = j + 2 := ⟨x.2.1 - 2, by omega⟩
          have r2' := r2 (by omega)
          have ejl : ((x.2.1 : Nat) : Int) = (jl : Int) + 2 := by omega
          have k1 : (2 : Int) ≤ (jl : Int) + 2 := by omega
          have k1' : (jl : Int) < (len : Int) := by omega
          rw [show x.2.1 - 2 = jl by omega] at r2'
          rw [ejl] at q1 ⊢
          clear r2 hnl
          by_cases hh2 : x.2.2 < 2
          · have em : nhi = x.2.2 := by rw [← hnh]; exact nl _ hh2
            have k2 : ¬ ((2 : Int) ≤ (x.2.2 : Int)) := by omega
            clear r3 hnh
            subst em
            clear nl
            have HO := keep (HROW.out w2 ao c2 HW2.out)
            go_wp2_with fail
            go_region
            go_wp2_with (at_builtin; refine wpList_append_lies _ rfl (.tmp 68) (.tmp 74) 41 rfl 0 62 i0 (.agg #[i6 0, i6 0, i6 0]) 3 24 Try.underlying41 HI.out HZ0.out HZ1.out HZ2.out rfl (by decide) (.slice ao al c2) al fo rfl (HO.out _).drew ⟨w2.heap.size, 0, none⟩ 1 1 [.int .i64 x.1, .int .i64 nlo, .int .i64 x.2.2] rfl rfl (World.news_of_block (set_alloc_new _ _ _ _)) (by simp [Value.oneCell']) (by decide) (by unfold maxLen; omega) (by omega) (Nat.zero_le _) (w2.heap.size + 1) (by simp) ?_)
            intro g4 cap4 w4 hown4 hgrow4 hat4 hlt4
            have HR := keep (FIN.out w2 ao c2 HW2.out _ w4 g4 cap4 hown4 ⟨hgrow4.os, hgrow4.tape, hgrow4.output, hgrow4.size, hgrow4.block⟩ hat4)
            clear hown4 hgrow4 hat4
            go_wp2
            go_ret
            exact ⟨_, rfl, HR.out⟩
          · obtain ⟨jh, hjh⟩ : ∃ j, x.2.2 = j + 2 := ⟨x.2.2 - 2, by omega⟩
            have r3' := r3 (by omega)
            have ejh : ((x.2.2 : Nat) : Int) = (jh : Int) + 2 := by omega
            have k2 : (2 : Int) ≤ (jh : Int) + 2 := by omega
            have k2' : (jh : Int) < (len : Int) := by omega
            rw [show x.2.2 - 2 = jh by omega] at r3'
            rw [ejh] at q2 ⊢
            clear r3 hnh
            clear nl
            have HO := keep (HROW.out w2 ao c2 HW2.out)
            go_wp2_with fail
            go_region
            go_wp2_with (at_builtin; refine wpList_append_lies _ rfl (.tmp 68) (.tmp 74) 41 rfl 0 62 i0 (.agg #[i6 0, i6 0, i6 0]) 3 24 Try.underlying41 HI.out HZ0.out HZ1.out HZ2.out rfl (by decide) (.slice ao al c2) al fo rfl (HO.out _).drew ⟨w2.heap.size, 0, none⟩ 1 1 [.int .i64 x.1, .int .i64 nlo, .int .i64 nhi] rfl rfl (World.news_of_block (set_alloc_new _ _ _ _)) (by simp [Value.oneCell']) (by decide) (by unfold maxLen; omega) (by omega) (Nat.zero_le _) (w2.heap.size + 1) (by simp) ?_)
            intro g4 cap4 w4 hown4 hgrow4 hat4 hlt4
            have HR := keep (FIN.out w2 ao c2 HW2.out _ w4 g4 cap4 hown4 ⟨hgrow4.os, hgrow4.tape, hgrow4.output, hgrow4.size, hgrow4.block⟩ hat4)
            clear hown4 hgrow4 hat4
            go_wp2
            go_ret
            exact ⟨_, rfl, HR.out⟩
end Go.Proofs.Ytnkipdlfpnmgeaa
namespace Go.Proofs.Ytnkipdlfpnmgeaa
open Go.RowKit Go.Maps
open Bd (Nd)

theorem run_many (n : Nat) (hn : n ≤ 1073741824) (w : World) :
    (Instr.makeSlice 70 (.int .i64 (n : Int)) (.int .i64 (n : Int))).run Try.prog w = .ok (.slice (some ⟨w.heap.size, 0, none⟩) n n) (w.alloc (.cells (zeros n) 3)) := by
  obtain ⟨i, hi, hz0, hz1, hz2⟩ := info_parts Try.infoInt
  have := run_make (P := Try.prog) w 70 3 i (.int .i64 0) Try.underlying70 hi hz0 .i64 .i64 n n (by omega) (by omega) (by rw [hz2]; omega) (by omega)
  rw [this, hz1, Nat.mul_one]
  rfl
/-- The places ahead of a walk. -/
theorem walk_start {B : Nat} {w0 w : World} {L : List Nd} (hsm : L.length ≤ 1073741824) (hb : Below B w0 w) (hB : B ≤ w.heap.size) : WalkAt B w0 (w.alloc (.cells (zeros L.length) 3)) L w.heap.size L.length (.slice none 0 0) [] := by
  refine ⟨⟨by simp [nums, atOf_length], Or.inr ⟨w.heap.size, L.length, _, rfl, Nat.zero_le _, heap_alloc_new w _, Nat.le_refl _, by unfold maxLen; omega, by rw [zeros_size, Nat.mul_one], ?_⟩⟩, ⟨rfl, Or.inl ⟨rfl, rfl⟩⟩, fun j hj => by simp [Value.ownBlock] at hj, hB, hb.alloc hB _, by simp; omega⟩
  unfold zeros
  rw [toList_madeCells_one, Nat.mul_one, atOf_nil]
  simp [nums]

set_option maxRecDepth 4000 in
set_option maxHeartbeats 2000000 in
theorem qlist_ok {w : World} {y : QLay} {s : QSt} (hT : QTab w y s) (a : Nat) (ha : a < s.L.length + 2) (hh : s.has a) :
    Calls Try.prog 16 #[.pointer (some ⟨y.tb, 0, none⟩), i6 a] w fun e w' => ∃ v, e = .returned (.tuple #[v, .int .i64 0]) ∧ w'.ownsRow 0 62 3 v (listOf s.L a).length (flat (listOf s.L a)) ∧ (∀ g, v.ownBlock = some g → w.heap.size ≤ g) ∧ Below w.heap.size w w' := by
  have HT := keep hT
  have hb1 : Below w.heap.size w (w.alloc (.cells #[i6 a] 25)) := (Below.refl _ _).alloc (Nat.le_refl _) _
  have q1 := keep (qright_ok (hT.below hb1) _ [a] (refs_one w a) (by simp) (fun r hr => by simp at hr; rw [hr]; exact hh))
  have HH := keep (And.intro ha hh)
  have hsm := hT.small.1
  clear hT hh
  go_enter Try.func16, Try.ntmps16
  go_wp2_with fail
  refine q1.out.mono ?_
  rintro e w1 ⟨rfl, hbr⟩
  have HB1 : Hid (Below w.heap.size w w1) := hb1.trans (hbr.mono hb1.size)
  have HT1 := keep (HT.out.below HB1.out)
  clear hbr
  obtain ⟨aq, cq, hns⟩ := row_form HT1.out.list
  have c2 : w1.cell? ⟨y.tb, 2, none⟩ = some (.slice aq s.L.length cq) := by rw [HT1.out.cell2, hns]
  have hmk := run_many s.L.length hsm
  have HC : Hid (Calls Try.prog 39 #[.pointer (some ⟨y.tb, 0, none⟩), i6 a, .slice none 0 0, .slice (some ⟨w1.heap.size, 0, none⟩) s.L.length s.L.length] (w1.alloc (.cells (zeros s.L.length) 3)) fun e w' => ∃ v, e = .returned v ∧ Hid (w'.ownsRow 0 62 3 v (listOf s.L a).length (flat (listOf s.L a)) ∧ (∀ g, v.ownBlock = some g → w.heap.size ≤ g) ∧ Below w.heap.size w w')) := by
    refine (walk_any HT.out rfl w1.heap.size s.L.length (a + 1) a [] (.slice none 0 0) _ (by omega) HH.out.1 (walk_start hsm HB1.out HB1.out.size) (by simp) (by simp) (fun j m h => by simp at h)).mono ?_
    rintro e w' ⟨v, rfl, hW, _⟩
    have e : (listOf s.L a).length = (vis s.L 2 (a + 1) a []).length := by unfold listOf; rw [List.length_map]
    exact ⟨v, rfl, by rw [e]; exact hW.out, fun g hg => (hW.own g hg).1, hW.below⟩
  go_wp2_with fail
  refine HC.out.mono ?_
  rintro e w2 ⟨v, rfl, HV⟩
  clear HC
  go_wp2
  go_ret2
  exact ⟨v, rfl, HV.out⟩
end Go.Proofs.Ytnkipdlfpnmgeaa
namespace Go.Proofs.Ytnkipdlfpnmgeaa
open Go.RowKit Go.Maps
open Bd (Nd)

set_option maxRecDepth 4000 in
set_option maxHeartbeats 4000000 in
theorem rwrite_ok {w : World} {y : QLay} {s : QSt} (hT : QTab w y s) (a : Nat) (ha : a < s.L.length + 2) (hh : s.has a) :
    Calls Try.prog 9 #[.pointer (some ⟨y.tb, 0, none⟩), .int .i64 a] w fun e w' => ∃ v, e = .returned (.tuple #[v, .int .i64 0]) ∧ w'.ownsRow 0 5 1 v (dumpB s.bits (listOf s.L a) a).length (byts (dumpB s.bits (listOf s.L a) a)) ∧ (∀ g, v.ownBlock = some g → w.heap.size ≤ g) ∧ Below w.heap.size w w' := by
  have HT := keep hT
  have Q1 := keep (qlist_ok hT a ha hh)
  have hok := (list_okay hT.okay ha).1
  have hfew := list_few hT.okay ha
  have hsm := hT.small.1
  have h128 := hT.okay.few
  have hr1 : (listOf s.L a).length = 0 → a ≤ 1 := by
    intro h0
    rcases Nat.lt_or_ge a 2 with h | h
    · omega
    · have := (list_last hT.okay h ha).1; omega
  have HBY : Hid (∀ (w1 : World) (v : Value), Below w.heap.size w w1 → w1.ownsRow 0 62 3 v (listOf s.L a).length (flat (listOf s.L a)) → Calls Try.prog 29 #[.int .i64 s.bits, v, .bool ((a : Int) == 1)] w1 fun e w' => ∃ u, e = .returned u ∧ Hid (w'.ownsRow 0 5 1 u (dumpB s.bits (listOf s.L a) a).length (byts (dumpB s.bits (listOf s.L a) a)) ∧ (∀ g, u.ownBlock = some g → w.heap.size ≤ g) ∧ Below w.heap.size w w')) := by
    intro w1 v hb1 hrow
    have hfin : ∀ {e : Ending} {w' : World}, (∃ u, e = .returned u ∧ w'.ownsRow 0 5 1 u (dumpB s.bits (listOf s.L a) a).length (byts (dumpB s.bits (listOf s.L a) a)) ∧ (∀ g, u.ownBlock = some g → w1.heap.size ≤ g) ∧ Below w1.heap.size w1 w') → ∃ u, e = .returned u ∧ Hid (w'.ownsRow 0 5 1 u (dumpB s.bits (listOf s.L a) a).length (byts (dumpB s.bits (listOf s.L a) a)) ∧ (∀ g, u.ownBlock = some g → w.heap.size ≤ g) ∧ Below w.heap.size w w') := by
      rintro e w' ⟨u, rfl, h1, h2, h3⟩
      exact ⟨u, rfl, h1, fun g hg => Nat.le_trans hb1.size (h2 g hg), hb1.trans (h3.mono hb1.size)⟩
    by_cases h0 : (listOf s.L a).length = 0
    · have hn : listOf s.L a = [] := List.length_eq_zero_iff.1 h0
      have ea : (if ((a : Int) == 1) = true then 1 else 0) = a := by
        have := hr1 h0
        rcases (show a = 0 ∨ a = 1 by omega) with rfl | rfl <;> rfl
      have h := bytes_none s.bits h128 ((a : Int) == 1) v (by obtain ⟨ao, c, e⟩ := row_form hrow; rw [h0] at e; exact ⟨ao, c, e⟩) ((HT.out.below hb1).cells)
      rw [ea, ← hn] at h
      exact h.mono fun _ _ h => hfin h
    · obtain ⟨g, c, rfl, _, _⟩ := hrow.form (by omega)
      exact (bytes_some s.bits h128 ((a : Int) == 1) (listOf s.L a) (by omega) hok h0 g c hrow a).mono fun _ _ h => hfin h
  have C0 : Hid (∀ w1 : World, Below w.heap.size w w1 → w1.cell? ⟨y.tb, 0, none⟩ = some (.int .i64 s.bits)) := fun w1 hb => by rw [cell_at (HT.out.below hb).cells]; rfl
  clear hT hh ha hok hfew hr1
  go_enter Try.func9, Try.ntmps9
  go_wp2_with fail
  refine Q1.out.mono ?_
  rintro e w1 ⟨v, rfl, hrow, _, hb1⟩
  have HY := keep (HBY.out w1 v hb1 hrow)
  have c0 := C0.out w1 hb1
  clear hrow hb1 Q1 HBY C0
  go_wp2_with fail
  refine HY.out.mono ?_
  rintro e w2 ⟨u, rfl, HU⟩
  clear HY
  go_wp2
  go_ret2
  exact ⟨u, rfl, HU.out⟩

set_option maxHeartbeats 1000000 in
theorem Size_dump {w : World} {y : Lay} {s : St} (hT : Tab w y s) (h2 : 2 ≤ s.first) (r n : Nat) (hn : s.node? r = some n) (hnl : n < s.L.length + 2) :
    Calls Try.prog 10 #[.pointer (some ⟨y.tb, 0, none⟩), .int .i64 r] w fun e w' => e = .returned (.tuple #[.int .i64 ((dumpB s.bits (listOf s.L n) r).length : Int), .int .i64 0]) ∧ Below w.heap.size w w' := by
  have Q1 := keep (List_new hT h2 r n hn hnl)
  have hfew := list_few hT.okay hnl
  have hsm := hT.small.1
  have e : (dumpB s.bits (listOf s.L n) r).length = (if (listOf s.L n).length = 0 then 6 else 5 + 9 * (listOf s.L n).length) := by
    unfold dumpB
    rw [List.length_append]
    split
    · rfl
    · rw [flat_length9]; rfl
  rw [e]
  generalize (listOf s.L n).length = q at *
  have HSZ : Hid (∀ w1, Calls Try.prog 26 #[.int .i64 q] w1 fun e w' => e = .returned (.int .i64 ((if q = 0 then 6 else 5 + 9 * q : Nat) : Int)) ∧ w' = w1) := fun w1 => dsize_any q (by omega) w1
  generalize (if q = 0 then 6 else 5 + 9 * q : Nat) = c at *
  clear hT hn hnl e
  go_enter Try.func10, Try.ntmps10
  go_wp2_with fail
  refine Q1.out.mono ?_
  rintro e w1 ⟨gl, cpl, rfl, _, _, hb1⟩
  have HB1 := keep hb1
  clear Q1 hb1
  go_wp2_with fail
  refine (HSZ.out w1).mono ?_
  rintro e w2 ⟨rfl, rfl⟩
  go_wp2
  go_ret2
  exact ⟨rfl, HB1.out⟩
end Go.Proofs.Ytnkipdlfpnmgeaa
namespace Go.Proofs.Ytnkipdlfpnmgeaa
open Go.RowKit Go.Maps
open Bd (Nd ff tt iteF)

theorem orL_join (ts : List ByteArray) : ∀ (bs bs' : List Bool), bs.length = ts.length → bs'.length = ts.length → ∀ k, orL ts (List.zipWith or bs bs') k = iteF (orL ts bs k) tt (orL ts bs' k) := by
  induction ts with
  | nil =>
    intro bs bs' h h' k
    have e1 := List.length_eq_zero_iff.1 h
    have e2 := List.length_eq_zero_iff.1 h'
    subst e1 e2
    rfl
  | cons t ts ih =>
    intro bs bs' h h' k
    cases bs with
    | nil => simp at h
    | cons b bs =>
      cases bs' with
      | nil => simp at h'
      | cons b' bs' =>
        have e := ih bs bs' (by simpa using h) (by simpa using h') k
        funext x
        have ex := congrFun e x
        show ((b || b') && suf t k x || orL ts (List.zipWith or bs bs') k x) = _
        rw [ex]
        show ((b || b') && suf t k x || (if orL ts bs k x = true then true else orL ts bs' k x)) = (if ((b && suf t k x) || orL ts bs k x) = true then true else ((b' && suf t k x) || orL ts bs' k x))
        cases b <;> cases b' <;> cases suf t k x <;> cases orL ts bs k x <;> cases orL ts bs' k x <;> rfl

/-- The texts that are cubes of so many bits. -/
def rights (nb : Nat) (ss : List ByteArray) : List ByteArray := (firsts ss 12).filter fun t => letB t nb
theorem rights_size (nb : Nat) (ss : List ByteArray) : ∀ t, t ∈ rights nb ss → t.size = nb := by
  intro t ht
  have := (List.mem_filter.1 ht).2
  unfold letB at this
  simp at this
  exact this.1
theorem rights_few (nb : Nat) (ss : List ByteArray) : (rights nb ss).length ≤ 12 := by
  have := List.length_filter_le (fun t => letB t nb) (firsts ss 12)
  rw [firsts_length] at this
  exact this
theorem orIn_fam {nb c : Nat} (ts : List ByteArray) (hs : ∀ t, t ∈ ts → t.size = nb) (hl : ts.length ≤ c) (ss : List ByteArray) (n : Nat) (h : ∀ i, i < n → letB (ss.getD i ByteArray.empty) nb = true → ss.getD i ByteArray.empty ∈ ts) : OrIn (orFam nb c ts hs hl) ss n := by
  refine ⟨⟨pre ts.length 0, pre_length _ _, (or_pre0 _ _ 0).symm⟩, fun i hi hr => ?_, fun f g hf hg => ?_⟩
  · obtain ⟨j, hj⟩ := List.getElem?_of_mem (h i hi hr)
    exact ⟨unit ts.length j, unit_length _ _, (or_unit _ _ _ hj 0).symm⟩
  · obtain ⟨bs, hb, rfl⟩ := hf
    obtain ⟨bs', hb', rfl⟩ := hg
    exact ⟨List.zipWith or bs bs', by rw [List.length_zipWith]; omega, (orL_join ts bs bs' hb hb' 0).symm⟩
theorem orIn_rights (nb : Nat) (ss : List ByteArray) : OrIn (orFam nb 12 (rights nb ss) (rights_size nb ss) (rights_few nb ss)) ss 12 :=
  orIn_fam _ _ _ ss 12 (fun _ hi hr => List.mem_filter.2 ⟨List.mem_of_getElem? (firsts_at ss hi), hr⟩)

/-- The text of some bytes. -/
theorem byts_text {w : World} {g cap : Nat} {l : List UInt8} (h : w.ownsRow 0 5 1 (.slice (some ⟨g, 0, none⟩) l.length cap) l.length (byts l)) : (convert 29 9 (.slice (some ⟨g, 0, none⟩) l.length cap)).run Try.prog w = .ok (.string ⟨l.toArray⟩) w := by
  have hcv := run_convert_bytes_arg (P := Try.prog) w 29 5 Try.underlying29 Try.underlying5 g 0 l.length cap (l.map fun c => (c.toNat : Int)) (by rw [List.length_map]) (fun i hi => by
    rw [Nat.zero_add, h.cellAt i (by omega), List.getD_eq_getElem?_getD, List.getElem?_map, List.getElem?_eq_getElem hi]
    unfold byts
    rw [List.getElem?_map, List.getElem?_eq_getElem hi]
    rfl) 9 Try.underlying9
  have hst : strOfNums (l.map fun c => (c.toNat : Int)) = ⟨l.toArray⟩ := by
    unfold strOfNums; exact congrArg ByteArray.mk (by simp [Function.comp_def])
  rw [hst] at hcv
  exact hcv
end Go.Proofs.Ytnkipdlfpnmgeaa
namespace Go.Proofs.Ytnkipdlfpnmgeaa
open Go.RowKit Go.Maps
open Bd (Nd ff tt iteF)

def t11 : ByteArray := ⟨#[49, 49]⟩
theorem let11 : letB t11 2 = true := by decide
theorem made11 : madeF 2 [t11] (min 1 12) = suf t11 0 := by
  show madeF 2 [t11] (0 + 1) = _
  rw [madeF_succ]
  show (if letB t11 2 = true then iteF ff tt (suf t11 0) else ff) = _
  rw [if_pos let11, ite_ff_or]
theorem okay11 : Bd.Okay 2 [(1, 0, 1), (0, 0, 2)] := by
  have h0 := (Bd.Okay.nil (bits := 2) (by omega)).snoc (x := (1, 0, 1)) (by simp) (by simp) (by simp) (by simp) (by simp) (by simp [Bd.bitOf]) (by simp [Bd.bitOf])
  exact h0.snoc (x := (0, 0, 2)) (by simp) (by simp) (by simp) (by simp) (by simp) (by simp [Bd.bitOf]) (by simp [Bd.bitOf])
theorem den11 : Bd.den [(1, 0, 1), (0, 0, 2)] 3 = suf t11 0 := by
  have h1 := Bd.den_at okay11 (i := 1) (x := (0, 0, 2)) rfl
  have h0 := Bd.den_at okay11 (i := 0) (x := (1, 0, 1)) rfl
  have e2 : suf t11 2 = tt := suf_end t11
  rw [h1, h0, Bd.den_zero, Bd.den_one, suf_one (t := t11) (k := 0) (by decide) rfl, suf_one (t := t11) (k := 1) (by decide) rfl, e2]
theorem list11 {L : List Nd} {m : Nat} (hL : Bd.Okay 2 L) (hm : m < L.length + 2) (hd : Bd.den L m = suf t11 0) : listOf L m = [(1, 0, 1), (0, 0, 2)] := by
  rw [list_alike hL okay11 (n' := 3) ⟨hm, by simp, hd.trans den11.symm⟩]
  decide
theorem dump11 (r : Nat) : dumpB 2 [(1, 0, 1), (0, 0, 2)] r = [2, 0, 0, 0, 2, 1, 0, 0, 0, 0, 0, 0, 0, 1, 0, 0, 0, 0, 0, 0, 0, 0, 2] := by
  unfold dumpB
  rw [if_neg (by simp)]
  decide
theorem came11 (w : World) : Came (w.alloc (.cells #[.string t11] 9)) (some ⟨w.heap.size, 0, none⟩) 1 1 [t11] := by
  refine Or.inr ⟨_, rfl, Nat.le_refl _, by simp [maxLen], rfl, fun i hi => ?_, fun s hs => by simp at hs; subst hs; simp [maxLen, t11, ByteArray.size]⟩
  have e : i = 0 := by simp at hi; omega
  subst e
  rw [addr_add, cell_at (heap_alloc_new w _)]
  rfl

theorem made_11 (w : World) : Calls Try.prog 6 #[.int .i64 2, .int .i64 10, .slice (some ⟨w.heap.size, 0, none⟩) 1 1] (w.alloc (.cells #[.string t11] 9)) fun e w1 => ∃ tb qb a b : Nat, e = .returned (.tuple #[.pointer (some ⟨tb, 0, none⟩), .pointer (some ⟨qb, 0, none⟩), .int .i64 a, .int .i64 b, .bool true]) ∧ Below w.heap.size w w1 ∧
    Hid (Calls Try.prog 8 #[.pointer (some ⟨tb, 0, none⟩), .int .i64 a] w1 fun e w2 => ∃ g cap, e = .returned (.tuple #[.slice (some ⟨g, 0, none⟩) 23 cap, .int .i64 0]) ∧ Below w.heap.size w w2 ∧ Hid (w2.ownsRow 0 5 1 (.slice (some ⟨g, 0, none⟩) 23 cap) 23 (byts [2, 0, 0, 0, 2, 1, 0, 0, 0, 0, 0, 0, 0, 1, 0, 0, 0, 0, 0, 0, 0, 0, 2]))) := by
  have hA := orIn_fam (nb := 2) (c := 1) [t11] (fun t ht => by simp at ht; subst ht; rfl) (by simp) [t11] 12 (fun i hi hl => by
    cases i with
    | zero => simp
    | succ i =>
      have e : ([t11] : List ByteArray).getD (i + 1) ByteArray.empty = ByteArray.empty := by simp [List.getD_eq_getElem?_getD]
      rw [e] at hl
      exact absurd hl (by decide))
  refine (dmade_any (nb := 2) (M := 2 ^ 1) _ 10 _ 1 1 [t11] _ (came11 w) hA (by omega) (by omega) (by omega) (by omega) (by omega)).mono ?_
  rintro e w1 ⟨tb, qb, a, b, rfl, hM⟩
  rw [made11] at hM
  obtain ⟨y, L, roots, m, rfl, hT, hW, hK, hB, hy, f1, f2, f3⟩ := hM.ex
  have hb0 : Below w.heap.size w (w.alloc (.cells #[.string t11] 9)) := (Below.refl _ _).alloc (Nat.le_refl _) _
  have hB1 : Below w.heap.size w w1 := hb0.trans (hB.mono hb0.size)
  refine ⟨y.tb, qb, a, b, rfl, hB1, ?_⟩
  have hw := Write_ok hT (Nat.le_refl _) a m f1 f2
  refine hw.mono ?_
  rintro e w2 ⟨v, rfl, hrow, _, hb2⟩
  have hl : listOf L m = [(1, 0, 1), (0, 0, 2)] := list11 hT.okay f2 f3
  have e : dumpB 2 (listOf L m) a = [2, 0, 0, 0, 2, 1, 0, 0, 0, 0, 0, 0, 0, 1, 0, 0, 0, 0, 0, 0, 0, 0, 2] := by rw [hl]; exact dump11 a
  have hrow' : w2.ownsRow 0 5 1 v (dumpB 2 (listOf L m) a).length (byts (dumpB 2 (listOf L m) a)) := hrow
  rw [e] at hrow'
  obtain ⟨g, cap, rfl, _, _⟩ := hrow'.form (by simp)
  exact ⟨g, cap, rfl, hB1.trans (hb2.mono hB1.size), hrow'⟩

set_option maxRecDepth 4000 in
set_option maxHeartbeats 4000000 in
theorem dawake_any (w : World) : Calls Try.prog 7 #[] w fun e w' => e = .returned (.bool true) ∧ Below w.heap.size w w' := by
  have HM := keep (made_11 w)
  have et : t11 = ⟨#[49, 49]⟩ := rfl
  rw [et] at HM
  clear et
  go_enter Try.func7, Try.ntmps7
  go_wp2_with fail
  refine HM.out.mono ?_
  rintro e w1 ⟨tb, qb, a, b, rfl, hb1, HW⟩
  clear hb1 HM
  go_wp2_with fail
  refine HW.out.mono ?_
  rintro e w2 ⟨g, cap, rfl, hb2, HROW⟩
  have HB2 := keep hb2
  clear hb2 HW
  have hc1 : (convert 29 9 (.slice (some ⟨g, 0, none⟩) 23 cap)).run Try.prog w2 = .ok (.string ⟨#[2, 0, 0, 0, 2, 1, 0, 0, 0, 0, 0, 0, 0, 1, 0, 0, 0, 0, 0, 0, 0, 0, 2]⟩) w2 := byts_text (l := [2, 0, 0, 0, 2, 1, 0, 0, 0, 0, 0, 0, 0, 1, 0, 0, 0, 0, 0, 0, 0, 0, 2]) HROW.out
  have hc2 : (convert 29 9 (.slice (some ⟨w2.heap.size, 0, none⟩) 23 23)).run Try.prog (w2.alloc (.cells #[.int .u8 2, .int .u8 0, .int .u8 0, .int .u8 0, .int .u8 2, .int .u8 1, .int .u8 0, .int .u8 0, .int .u8 0, .int .u8 0, .int .u8 0, .int .u8 0, .int .u8 0, .int .u8 1, .int .u8 0, .int .u8 0, .int .u8 0, .int .u8 0, .int .u8 0, .int .u8 0, .int .u8 0, .int .u8 0, .int .u8 2] 5)) = .ok (.string ⟨#[2, 0, 0, 0, 2, 1, 0, 0, 0, 0, 0, 0, 0, 1, 0, 0, 0, 0, 0, 0, 0, 0, 2]⟩) (w2.alloc (.cells #[.int .u8 2, .int .u8 0, .int .u8 0, .int .u8 0, .int .u8 2, .int .u8 1, .int .u8 0, .int .u8 0, .int .u8 0, .int .u8 0, .int .u8 0, .int .u8 0, .int .u8 0, .int .u8 1, .int .u8 0, .int .u8 0, .int .u8 0, .int .u8 0, .int .u8 0, .int .u8 0, .int .u8 0, .int .u8 0, .int .u8 2] 5)) :=
    byts_text (l := [2, 0, 0, 0, 2, 1, 0, 0, 0, 0, 0, 0, 0, 1, 0, 0, 0, 0, 0, 0, 0, 0, 2]) (row_zero (World.ownsRow_lit (e := 5) (size := 1) w2 #[.int .u8 2, .int .u8 0, .int .u8 0, .int .u8 0, .int .u8 2, .int .u8 1, .int .u8 0, .int .u8 0, .int .u8 0, .int .u8 0, .int .u8 0, .int .u8 0, .int .u8 0, .int .u8 1, .int .u8 0, .int .u8 0, .int .u8 0, .int .u8 0, .int .u8 0, .int .u8 0, .int .u8 0, .int .u8 0, .int .u8 2] 23 (Nat.le_refl _) (by unfold maxLen; omega) rfl))
  go_wp2
  go_ret
  exact ⟨by simp, HB2.out.alloc HB2.out.size _⟩
end Go.Proofs.Ytnkipdlfpnmgeaa
namespace Go.Proofs.Ytnkipdlfpnmgeaa
open Go.RowKit Go.Maps
open Bd (Nd ff tt)

set_option maxHeartbeats 1000000 in
theorem New_errL (bits limit : Int) (h : bits < 1 ∨ 128 < bits ∨ limit < 0 ∨ 1048576 < limit) (w : World) :
    Calls Try.prog 20 #[.int .i64 bits, .int .i64 limit] w fun e w' => e = .returned (.tuple #[.pointer none, .int .i64 1]) ∧ w' = w := by
  by_cases h1 : bits < 1
  · clear h
    go_enter Try.func20, Try.ntmps20
    go_wp2
    go_ret2
    exact ⟨rfl, rfl⟩
  · by_cases h2 : 128 < bits
    · clear h
      go_enter Try.func20, Try.ntmps20
      go_wp2
      go_ret2
      exact ⟨rfl, rfl⟩
    · by_cases h3 : limit < 0
      · clear h
        go_enter Try.func20, Try.ntmps20
        go_wp2
        go_ret2
        exact ⟨rfl, rfl⟩
      · have h4 : 1048576 < limit := by omega
        clear h
        go_enter Try.func20, Try.ntmps20
        go_wp2
        go_ret2
        exact ⟨rfl, rfl⟩

set_option maxHeartbeats 2000000 in
theorem dmade_badL (bits limit : Int) (hb : bits < 1 ∨ 128 < bits ∨ limit < 0 ∨ 1048576 < limit) (v : Value) (w : World) :
    Calls Try.prog 6 #[.int .i64 bits, .int .i64 limit, v] w fun e w' => e = .returned (.tuple #[.pointer none, .pointer none, .int .i64 0, .int .i64 0, .bool true]) ∧ w' = w := by
  have HN := keep (New_errL bits limit hb w)
  have HQ := keep (qnew_err bits limit hb w)
  clear hb
  go_enter Try.func6, Try.ntmps6
  go_wp2_with fail
  refine HN.out.mono ?_
  rintro e w1 ⟨rfl, rfl⟩
  go_wp2_with fail
  refine HQ.out.mono ?_
  rintro e w2 ⟨rfl, rfl⟩
  go_wp2
  exact bodyPost_ret (v := .tuple #[.pointer none, .pointer none, .int .i64 0, .int .i64 0, .bool true]) (by simp [results, Try.results6, go_sem]) rfl ⟨rfl, rfl⟩

theorem dumpB_same2 {nb : Nat} {Q : List Nd} {r r' : Nat} (h : Q.length = 0 → r = r') : dumpB nb Q r = dumpB nb Q r' := by
  unfold dumpB
  by_cases e : Q.length = 0
  · rw [h e]
  · rw [if_neg e, if_neg e]
theorem dumpB_some (nb : Nat) (Q : List Nd) (r : Nat) : 0 < (dumpB nb Q r).length := by
  unfold dumpB
  rw [List.length_append]
  show 0 < 5 + _
  omega
/-- A function's bytes are the same ones in both tables. -/
theorem both_bytes {nb lim : Nat} {w : World} {y : Lay} {L LQ : List Nd} {roots : List Nat} (hT : Tab w y ⟨L, roots, 2, nb, lim⟩) (hQ : Bd.Okay nb LQ) {a m b : Nat} {f : Bd.Fn} (f1 : St.node? ⟨L, roots, 2, nb, lim⟩ a = some m) (f2 : m < L.length + 2) (f3 : Bd.den L m = f) (q2 : b < LQ.length + 2) (q3 : Bd.den LQ b = f) : dumpB nb (listOf LQ b) b = dumpB nb (listOf L m) a := by
  have hl : listOf LQ b = listOf L m := list_alike hQ hT.okay ⟨q2, f2, q3.trans f3.symm⟩
  rw [hl]
  refine dumpB_same2 fun h0 => ?_
  have hm2 : m < 2 := by
    rcases Nat.lt_or_ge m 2 with h | h
    · exact h
    · have h1 : 1 ≤ (listOf L m).length := (list_last hT.okay h f2).1
      omega
  have hb2 : b < 2 := by
    rcases Nat.lt_or_ge b 2 with h | h
    · exact h
    · have := (list_last hQ h q2).1; rw [hl] at this; omega
  have e : St.node? ⟨L, roots, 2, nb, lim⟩ m = some m := by unfold St.node?; rw [if_pos hm2]
  have ea : a = m := node_inj hT f1 e
  have hft : (ff : Bd.Fn) ≠ tt := fun e => by have := congrFun e (fun _ => false); cases this
  have hd : Bd.den LQ b = Bd.den L m := q3.trans f3.symm
  rcases (show b = 0 ∨ b = 1 by omega) with rfl | rfl <;> rcases (show m = 0 ∨ m = 1 by omega) with rfl | rfl
  · exact ea.symm
  · rw [Bd.den_zero, Bd.den_one] at hd; exact absurd hd hft
  · rw [Bd.den_zero, Bd.den_one] at hd; exact absurd hd.symm hft
  · exact ea.symm

theorem writes_chain {nb M : Nat} {A : Bd.Fam nb M} {lim : Nat} {W w1 : World} {tb qb K a b : Nat} (h : MadeX A lim W w1 tb qb K a b) :
    Calls Try.prog 8 #[.pointer (some ⟨tb, 0, none⟩), .int .i64 a] w1 fun e w2 => ∃ g n cap : Nat, e = .returned (.tuple #[.slice (some ⟨g, 0, none⟩) n cap, .int .i64 0]) ∧
      Hid (Calls Try.prog 9 #[.pointer (some ⟨qb, 0, none⟩), .int .i64 b] w2 fun e w3 => ∃ g' cap' : Nat, e = .returned (.tuple #[.slice (some ⟨g', 0, none⟩) n cap', .int .i64 0]) ∧
        Hid (Calls Try.prog 10 #[.pointer (some ⟨tb, 0, none⟩), .int .i64 a] w3 fun e w4 => e = .returned (.tuple #[.int .i64 n, .int .i64 0]) ∧
          Hid (Below W.heap.size W w4 ∧ ∃ t : ByteArray, (convert 29 9 (.slice (some ⟨g, 0, none⟩) n cap)).run Try.prog w4 = .ok (.string t) w4 ∧ (convert 29 9 (.slice (some ⟨g', 0, none⟩) n cap')).run Try.prog w4 = .ok (.string t) w4))) := by
  obtain ⟨y, L, roots, m, yq, LQ, U, T, f, rfl, rfl, hP, hK, ⟨f1, f2, f3⟩, ⟨q1, q2, q3⟩, _⟩ := h.ex
  have hdd := both_bytes hP.tab hP.qtab.okay f1 f2 f3 q2 q3
  refine (Write_ok (s := ⟨L, roots, 2, nb, lim⟩) hP.tab (Nat.le_refl _) a m f1 f2).mono ?_
  rintro e w2 ⟨v, rfl, hrow, hvn, hb2⟩
  have hrow' : w2.ownsRow 0 5 1 v (dumpB nb (listOf L m) a).length (byts (dumpB nb (listOf L m) a)) := hrow
  obtain ⟨g, cap, rfl, _, _⟩ := hrow'.form (dumpB_some _ _ _)
  refine ⟨g, _, cap, rfl, ?_⟩
  have hP2 := hP.later hb2
  refine (rwrite_ok (s := ⟨LQ, U, T, nb, lim⟩) hP2.qtab b q2 q1).mono ?_
  rintro e w3 ⟨v3, rfl, hrow3, _, hb3⟩
  have hrow3' : w3.ownsRow 0 5 1 v3 (dumpB nb (listOf LQ b) b).length (byts (dumpB nb (listOf LQ b) b)) := hrow3
  rw [hdd] at hrow3'
  obtain ⟨g3, cap3, rfl, _, _⟩ := hrow3'.form (dumpB_some _ _ _)
  refine ⟨g3, cap3, rfl, ?_⟩
  have hP3 := hP2.later hb3
  refine (Size_dump (s := ⟨L, roots, 2, nb, lim⟩) hP3.tab (Nat.le_refl _) a m f1 f2).mono ?_
  rintro e w4 ⟨rfl, hb4⟩
  have hP4 := hP3.later hb4
  have hg2 : g < w2.heap.size := (hrow'.lt g rfl).2
  have hg3 : g3 < w3.heap.size := (hrow3'.lt g3 rfl).2
  refine ⟨rfl, hP4.below, ⟨(dumpB nb (listOf L m) a).toArray⟩, byts_text (w := w4) (row_same hrow' fun g' hg' => ?_), byts_text (w := w4) (row_same hrow3' fun g' hg' => ?_)⟩
  · simp [Value.ownBlock] at hg'
    subst hg'
    rw [hb4.block _ (Nat.lt_of_lt_of_le hg2 hb3.size)]
    exact hb3.block _ hg2
  · simp [Value.ownBlock] at hg'
    subst hg'
    exact hb4.block _ hg3

set_option maxRecDepth 4000 in
set_option maxHeartbeats 4000000 in
theorem dwrites_out (bits limit : Int) (hb : bits < 1 ∨ 128 < bits ∨ limit < 0 ∨ 1048576 < limit) (v : Value) (w : World) :
    Calls Try.prog 3 #[.int .i64 bits, .int .i64 limit, v] w fun e w' => e = .returned (.bool true) ∧ Below w.heap.size w w' := by
  have HM := keep (dmade_badL bits limit hb v w)
  clear hb
  go_enter Try.func3, Try.ntmps3
  go_wp2_with fail
  refine HM.out.mono ?_
  rintro e w1 ⟨rfl, rfl⟩
  go_wp2_with fail
  refine (dawake_any _).mono ?_
  rintro e w2 ⟨rfl, hb2⟩
  have HB := keep hb2
  clear hb2
  go_wp2
  go_ret
  exact ⟨rfl, HB.out⟩

set_option maxRecDepth 4000 in
set_option maxHeartbeats 4000000 in
theorem dwrites_in (nb lim : Nat) (h1 : 1 ≤ nb) (h2 : nb ≤ 128) (hl : lim ≤ 1048576) (a0 : Option Addr) (len cap : Nat) (ss : List ByteArray) (w : World) (hv : Came w a0 len cap ss) :
    Calls Try.prog 3 #[.int .i64 nb, .int .i64 lim, .slice a0 len cap] w fun e w' => e = .returned (.bool true) ∧ Below w.heap.size w w' := by
  have hM4 : nb * 2 ^ 12 ≤ 524288 := by omega
  have HM := keep (dmadex_any (orFam nb 12 (rights nb ss) (rights_size nb ss) (rights_few nb ss)) lim a0 len cap ss w hv (orIn_rights nb ss) h1 h2 hl hM4)
  clear hv hM4
  go_enter Try.func3, Try.ntmps3
  go_wp2_with fail
  refine HM.out.mono ?_
  rintro e w1 ⟨tb, qb, a, b, rfl, hE⟩
  have HE := keep hE
  clear hE HM
  go_wp2_with fail
  refine (dawake_any w1).mono ?_
  rintro e w2 ⟨rfl, hb2⟩
  have HW := keep (writes_chain (HE.out.below hb2))
  clear hb2 HE
  go_wp2_with fail
  refine HW.out.mono ?_
  rintro e w3 ⟨g, n, cap3, rfl, HRD⟩
  clear HW
  go_wp2_with fail
  refine HRD.out.mono ?_
  rintro e w4 ⟨g', cap4, rfl, HNW⟩
  clear HRD
  go_wp2_with fail
  refine HNW.out.mono ?_
  rintro e w5 ⟨rfl, HF⟩
  clear HNW
  obtain ⟨t, hc1, hc2⟩ := HF.out.2
  have HB := keep HF.out.1
  clear HF
  go_wp2
  go_ret
  exact ⟨by simp, HB.out⟩

theorem dwrites_any (bits limit : Int) (a0 : Option Addr) (len cap : Nat) (ss : List ByteArray) (w : World) (hv : Came w a0 len cap ss) :
    Calls Try.prog 3 #[.int .i64 bits, .int .i64 limit, .slice a0 len cap] w fun e w' => e = .returned (.bool true) ∧ Below w.heap.size w w' := by
  by_cases h : (1 ≤ bits ∧ bits ≤ 128) ∧ 0 ≤ limit ∧ limit ≤ 1048576
  · obtain ⟨nb, rfl⟩ : ∃ nb : Nat, bits = (nb : Int) := ⟨bits.toNat, by omega⟩
    obtain ⟨lim, rfl⟩ : ∃ lim : Nat, limit = (lim : Int) := ⟨limit.toNat, by omega⟩
    exact dwrites_in nb lim (by omega) (by omega) (by omega) a0 len cap ss w hv
  · exact dwrites_out bits limit (by omega) _ w
end Go.Proofs.Ytnkipdlfpnmgeaa
namespace Go.Proofs.Ytnkipdlfpnmgeaa
open Go.ChangeShapes Go.WideShapes Go.ChangeAt Go.RowKit
open Go.ChangeMaps (open_string shut_string)

theorem DCWrites.own : ownKnob Try.prog.godebug = none := by kernel_rfl
theorem DCWrites.laidOut : laidOutB Try.prog = true := by kernel_rfl

set_option maxRecDepth 100000 in
theorem DCWrites.lifted (os : Os) (started : os.Started) (H : Type) (enc : TypeId × Value → H) :
    ReturnsInHanded {} Try.checked os 3 .any (Rows.dumpWritesSpec.pre6 enc Try.prog Try.f3 Rows.dumpWritesRow.domain false) (Rows.dumpWritesSpec.post enc Try.prog Try.f3 false true false false) := by
  refine returnsInHanded_of_change (C := Try.checked) DCWrites.own started (by kernel_rfl) Try.func3
    (ChangeSpec.witness6 (enc := enc) (C := Try.checked) false ⟨#[], #[.int .i64 0, .int .i64 0, .slice none 0 0], []⟩ 8 (by kernel_rfl) (by kernel_rfl) (by kernel_rfl) (by kernel_rfl)) ?_
  intro W base args ds gs before hval0 hW hcnd _
  have hval : ∀ (j : Nat) t v, Try.f3.params[j]? = some t → args[j]? = some v → Value.okWide Try.prog W .any base t v := hval0
  have hW' := hW
  obtain ⟨p, q, hA0, hV, rfl, hfz, hnd⟩ := hW
  have hA : DataW.TrodAll enc Try.prog W 0 (fun _ => true) true Try.f3.params.toList args.toList ds p := hA0
  rw [Try.params3] at hA hval
  obtain ⟨v0, vs0, d0, ds0, p0, q0, hargs, rfl, rfl, h0, r0⟩ := trodAll_cons hA
  obtain ⟨vL, vsL, dL, dsL, pL, qL, rfl, rfl, rfl, hL, rL⟩ := trodAll_cons r0
  obtain ⟨v1, vs1, d1, ds1, p1, q1, rfl, rfl, rfl, h1, r1⟩ := trodAll_cons rL
  obtain ⟨rfl, rfl, rfl⟩ := trodAll_nil r1
  obtain rfl : args = #[v0, vL, v1] := by cases args; simp_all
  obtain ⟨rfl, rfl⟩ := trodVars_none hV
  obtain ⟨a0, rfl, rfl, rfl, w0⟩ := open_int Try.underlying3 (hval 0 3 v0 rfl rfl) h0
  obtain ⟨aL, rfl, rfl, rfl, wL⟩ := open_int Try.underlying3 (hval 1 3 vL rfl rfl) hL
  obtain ⟨a1, len1, cap1, rfl⟩ := okWide_slice Try.underlying22 (hval 2 22 v1 rfl rfl)
  have k1 := h1
  have lt1 : ∀ x ∈ p1, x.block < W.heap.size := by obtain ⟨m, hm⟩ := k1; exact DataW.trod_lt m _ _ _ hm
  obtain ⟨ss, hss⟩ : ∃ ss, Came W a1 len1 cap1 ss := by
    obtain ⟨fuel, hf⟩ := h1
    rcases open_strings Try.underlying22 Try.underlying9 (by kernel_rfl) hf with ⟨hcs, _⟩ | ⟨x, l, c, ss, hcs, _, hl, hm, hz, _, hcell, hws⟩
    · simp [Value.cells] at hcs
      obtain ⟨rfl, rfl, rfl⟩ := hcs
      exact ⟨[], Or.inl ⟨rfl, rfl, rfl, rfl⟩⟩
    · simp [Value.cells] at hcs
      obtain ⟨rfl, rfl, rfl⟩ := hcs
      exact ⟨ss, Or.inr ⟨_, rfl, hl, hm, by simpa using hz, hcell, hws⟩⟩
  clear hA0 hval0
  refine (dwrites_any a0 aL a1 len1 cap1 ss W hss).mono fun e W' ⟨he, bel⟩ => ?_
  subst he
  exact ⟨_, rfl, _, _, _, [], _, [], hW', trodAll_mk1 (shut_bool Try.underlying4 _), (trodAll_cons_mk (shut_int Try.underlying3 w0) (trodAll_cons_mk (shut_int Try.underlying3 wL) (trodAll_cons_mk (Below.trod DCWrites.laidOut (by kernel_rfl) (of_decide_eq_true (by kernel_rfl)) k1 bel lt1) trodAll_mk0))), rfl, bel.frame _, fun h => by cases h⟩

theorem DumpWrites_holds : Rows.DumpWritesSaid :=
  OpenClaim.holds_of_wide 3 Try.f3 rfl rfl rfl rfl rfl rfl rfl ⟨rfl, rfl, rfl, rfl, rfl⟩ rfl rfl rfl rfl rfl (by kernel_rfl) Try.func3 (by kernel_rfl)
    (of_decide_eq_true (by kernel_rfl)) (by unfold Func.isWrapper; first | (rw [if_pos (by decide +kernel)]; kernel_rfl) | (rw [if_neg (by decide +kernel)]; exact ⟨rfl, rfl⟩))
    (fun os started H enc _ => DCWrites.lifted os started H enc)
#print axioms DumpWrites_holds
end Go.Proofs.Ytnkipdlfpnmgeaa
