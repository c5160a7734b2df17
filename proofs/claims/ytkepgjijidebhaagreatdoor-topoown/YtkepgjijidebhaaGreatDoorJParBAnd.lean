/-
  The document's Parse: what lies in memory between two lines.
  topo.Parse of any text.
-/
import Derived.Test.YtkepgjijidebhaaGreatDoorJRdIAnd
import Derived.Test.YtkepgjijidebhaaGreatDoorJDocD
namespace Go.Proofs.YtkepgjijidebhaaGreatDoor
open Go.RowKit
open Wo (Wd)

/-- What Parse of a text comes to. -/
def prsT (s : List UInt8) : Except Ru.Ft TSt := if Wo.err s ≠ 0 then .error (Wo.faultL s, Wo.faultC s, Wo.err s) else readT (Wo.read s)
/-- What Parse leaves. -/
def PrsQ (w : World) (s : List UInt8) (en : Ending) (w' : World) : Prop :=
  Below w.heap.size w w' ∧ ((∃ f : Ru.Ft, prsT s = .error f ∧ en = .returned (.tuple #[.agg #[.int .i64 0, .slice none 0 0, .slice none 0 0], .int .i64 f.1, .int .i64 f.2.1, .int .i64 f.2.2])) ∨
    (∃ t vs ds' ls' c1 c2, prsT s = .ok t ∧ TOk t ∧ vs.map (·.1) = t.ds ∧ en = .returned (.tuple #[.agg #[.int .i64 t.wid, c1, c2], .int .i64 0, .int .i64 0, .int .i64 0]) ∧ ds'.Perm vs ∧ ds'.Pairwise (fun a b => ¬ b.1.name < a.1.name) ∧ ls'.Perm (t.ls.map (renL (posF vs ds'))) ∧ ls'.Pairwise (fun a b => ¬ ocE b.a b.p a.a a.p < 0) ∧ DvO w.heap.size w' c1 ds' ∧ w'.ownsRow w.heap.size 83 4 c2 ls'.length (flatL ls')))

/-- What the result holds when Parse is done. -/
theorem par_box {X : World} {N : Nat} {x0 x1 x2 a b c : Value} (ht : X.heap[N]? = some (tobJ x0 x1 x2)) : ∃ V, V = ((X.setCell ⟨N, 0, none⟩ a).setCell ⟨N, 1, none⟩ b).setCell ⟨N, 2, none⟩ c ∧ (V.cell? ⟨N, 0, none⟩ = some a ∧ V.cell? ⟨N, 1, none⟩ = some b ∧ V.cell? ⟨N, 2, none⟩ = some c) ∧ Below N X V ∧ ∀ k, k ≠ N → V.heap[k]? = X.heap[k]? := by
  have vt : (((X.setCell ⟨N, 0, none⟩ a).setCell ⟨N, 1, none⟩ b).setCell ⟨N, 2, none⟩ c).heap[N]? = some (tobJ a b c) := block_set (o := 2) c (block_set (o := 1) b (block_set (o := 0) a ht))
  refine ⟨_, rfl, ⟨by rw [cell_at vt]; rfl, by rw [cell_at vt]; rfl, by rw [cell_at vt]; rfl⟩, ?_, fun k h1 => ?_⟩
  · repeat (refine Below.setCell ?_ (by dsimp only; omega) _)
    exact Below.refl _ _
  · rw [Below.heap_setCell _ _ _ _ h1, Below.heap_setCell _ _ _ _ h1, Below.heap_setCell _ _ _ _ h1]

set_option maxRecDepth 4000 in
set_option maxHeartbeats 1000000 in
theorem oParse_any (s : List UInt8) (w : World) (hs : s.length ≤ 1048576) : Calls Tryz.prog 9 #[.string (tx s)] w fun en w' => PrsQ w s en w' := by
  obtain ⟨W0, hW0⟩ : ∃ W0, W0 = w.alloc (tobJ (.int .i64 0) (.slice none 0 0) (.slice none 0 0)) := ⟨_, rfl⟩
  have hb0 : Below w.heap.size w W0 := by rw [hW0]; exact (Below.refl _ _).alloc (Nat.le_refl _) _
  have ht0 : W0.heap[w.heap.size]? = some (tobJ (.int .i64 0) (.slice none 0 0) (.slice none 0 0)) := by rw [hW0]; exact new_0 _ _
  have HB0 := hid hb0
  have HT0 := hid ht0
  clear hb0 ht0
  have HN := hid (Lines_any s W0 hs)
  by_cases he : Wo.err s = 0
  · have HE := hid he
    have hpr := hid (show prsT s = readT (Wo.read s) by unfold prsT; rw [if_neg (fun q => q he)])
    have hfz : Wo.faultL s = 0 ∧ Wo.faultC s = 0 := by
      unfold Wo.err at he
      unfold Wo.faultL Wo.faultC
      cases h : (Wo.rd (Wo.lns s) 1).2 with
      | none => exact ⟨rfl, rfl⟩
      | some p => rw [h] at he; cases he
    rw [hfz.1, hfz.2, he] at HN
    have HRD := hid (fun (v : Value) (w1 : World) (hL : LinesAt w1 W0.heap.size v (Wo.read s)) => (by
      by_cases h0 : 0 < (Wo.read s).length
      · obtain ⟨g, cap, G, C, rfl, hLs⟩ := lines_forJ hL hs h0
        exact oread_any hLs cap (fun q => by rw [q] at h0; exact absurd h0 (Nat.not_lt_zero _)) (by have := (read_boundsJ s).1; omega)
      · obtain ⟨ao, cap, rfl⟩ := hL.form
        have e0 : Wo.read s = [] := List.length_eq_zero_iff.1 (by omega)
        rw [e0]
        exact oread_none ao cap w1 : Calls Tryz.prog 28 #[v] w1 fun en w' => RdPost w1 (Wo.read s) en w'))
    clear he hfz
    go_enter Tryz.func9, Tryz.ntmps9
    go_wp2_with fail
    rw [← hW0]
    clear hW0
    refine HN.out.mono ?_
    rintro en w1 ⟨v, rfl, HL, hb1⟩
    obtain ⟨ao, cap, rfl⟩ := HL.out.form
    go_wp2_with fail
    refine (HRD.out _ _ HL.out).mono ?_
    rintro en w2 ⟨hb2, ⟨f, hf, rfl⟩ | ⟨t, vs, ds', ls', c1, c2, hr, hok, hof, rfl, p1, p2, p3, p4, hd, hl⟩⟩
    · have HB := hid (hb1.trans (hb2.mono hb1.size))
      have HF := hid (hpr.out.trans hf)
      clear hf hb1 hb2
      obtain ⟨X, hX⟩ : ∃ X, X = (w2.alloc (tobJ (.int .i64 0) (.slice none 0 0) (.slice none 0 0))).alloc (fobJ (.int .i64 f.1) (.int .i64 f.2.1) (.int .i64 f.2.2)) := ⟨_, rfl⟩
      have hN2 : w.heap.size < w2.heap.size := by have := HB.out.size; have := lt_of_block HT0.out; omega
      have bX : Below w2.heap.size w2 X := by rw [hX]; exact ((Below.refl _ _).alloc (Nat.le_refl _) _).alloc (by simp) _
      have hXt : X.heap[w2.heap.size]? = some (tobJ (.int .i64 0) (.slice none 0 0) (.slice none 0 0)) := by rw [hX]; exact new_old _ _ (new_0 _ _)
      have hXf : X.heap[w2.heap.size + 1]? = some (fobJ (.int .i64 f.1) (.int .i64 f.2.1) (.int .i64 f.2.2)) := by rw [hX]; exact new_1 _ _ _
      have hXn : X.heap[w.heap.size]? = some (tobJ (.int .i64 0) (.slice none 0 0) (.slice none 0 0)) := (bX.block _ hN2).trans ((HB.out.block _ (lt_of_block HT0.out)).trans HT0.out)
      have x0 : X.cell? ⟨w2.heap.size, 0, none⟩ = some (.int .i64 0) := by rw [cell_at hXt]; rfl
      have x1 : X.cell? ⟨w2.heap.size, 1, none⟩ = some (.slice none 0 0) := by rw [cell_at hXt]; rfl
      have x2 : X.cell? ⟨w2.heap.size, 2, none⟩ = some (.slice none 0 0) := by rw [cell_at hXt]; rfl
      have y0 : X.cell? ⟨w2.heap.size + 1, 0, none⟩ = some (.int .i64 f.1) := by rw [cell_at hXf]; rfl
      have y1 : X.cell? ⟨w2.heap.size + 1, 1, none⟩ = some (.int .i64 f.2.1) := by rw [cell_at hXf]; rfl
      have y2 : X.cell? ⟨w2.heap.size + 1, 2, none⟩ = some (.int .i64 f.2.2) := by rw [cell_at hXf]; rfl
      have n0 : X.cell? ⟨w.heap.size, 0, none⟩ = some (.int .i64 0) := by rw [cell_at hXn]; rfl
      have n1 : X.cell? ⟨w.heap.size, 1, none⟩ = some (.slice none 0 0) := by rw [cell_at hXn]; rfl
      have n2 : X.cell? ⟨w.heap.size, 2, none⟩ = some (.slice none 0 0) := by rw [cell_at hXn]; rfl
      have m0 : X.frozen? ⟨w.heap.size, 0, none⟩ = false := free_of hXn
      have m1 : X.frozen? ⟨w.heap.size, 1, none⟩ = false := free_of hXn
      have m2 : X.frozen? ⟨w.heap.size, 2, none⟩ = false := free_of hXn
      obtain ⟨V, hV, ⟨v0, v1, v2⟩, bV, vk⟩ := par_box (X := X) (a := .int .i64 0) (b := .slice none 0 0) (c := .slice none 0 0) hXn
      have hne : ¬ w2.heap.size = w.heap.size := by omega
      have hne1 : ¬ w2.heap.size + 1 = w.heap.size := by omega
      have HBV := hid (show Below w.heap.size w V from by
        have h1 := HB0.out
        have h2 := HB.out
        exact ⟨bV.os.trans (bX.os.trans (h2.os.trans h1.os)), bV.tape.trans (bX.tape.trans (h2.tape.trans h1.tape)), bV.output.trans (bX.output.trans (h2.output.trans h1.output)), by have := bV.size; have := bX.size; have := h2.size; have := h1.size; omega, fun k hk => (bV.block k hk).trans ((bX.block k (by omega)).trans ((h2.block k (by have := h1.size; omega)).trans (h1.block k hk)))⟩)
      have SV : V.cell? ⟨w2.heap.size, 0, none⟩ = some (.int .i64 0) ∧ V.cell? ⟨w2.heap.size, 1, none⟩ = some (.slice none 0 0) ∧ V.cell? ⟨w2.heap.size, 2, none⟩ = some (.slice none 0 0) ∧ V.cell? ⟨w2.heap.size + 1, 0, none⟩ = some (.int .i64 f.1) ∧ V.cell? ⟨w2.heap.size + 1, 1, none⟩ = some (.int .i64 f.2.1) ∧ V.cell? ⟨w2.heap.size + 1, 2, none⟩ = some (.int .i64 f.2.2) := by
        have e0 := vk w2.heap.size hne
        have e1 := vk (w2.heap.size + 1) hne1
        exact ⟨(World.cell?_of_block (by exact e0)).trans x0, (World.cell?_of_block (by exact e0)).trans x1, (World.cell?_of_block (by exact e0)).trans x2, (World.cell?_of_block (by exact e1)).trans y0, (World.cell?_of_block (by exact e1)).trans y1, (World.cell?_of_block (by exact e1)).trans y2⟩
      rw [hV] at SV v0 v1 v2 HBV
      clear hXt hXf hXn bX bV vk hV
      go_wp2_with fail
      rw [← hX]
      clear hX
      go_region_held3 (fun W => W.cell? ⟨w2.heap.size, 0, none⟩ = some (.int .i64 0) ∧ W.cell? ⟨w2.heap.size, 1, none⟩ = some (.slice none 0 0) ∧ W.cell? ⟨w2.heap.size, 2, none⟩ = some (.slice none 0 0) ∧ W.cell? ⟨w2.heap.size + 1, 0, none⟩ = some (.int .i64 f.1) ∧ W.cell? ⟨w2.heap.size + 1, 1, none⟩ = some (.int .i64 f.2.1) ∧ W.cell? ⟨w2.heap.size + 1, 2, none⟩ = some (.int .i64 f.2.2)) (first | (go_keep; done) | exact SV) (fail)
      go_wp2
      refine bodyPost_ret (v := .tuple #[.agg #[.int .i64 0, .slice none 0 0, .slice none 0 0], .int .i64 f.1, .int .i64 f.2.1, .int .i64 f.2.2]) (by simp [results, Tryz.results9, go_sem, v0, v1, v2]) rfl ?_
      exact ⟨HBV.out.drew, Or.inl ⟨f, HF.out, rfl⟩⟩
    · obtain ⟨dv, dc, hc1⟩ := own_formJ hd.row
      obtain ⟨lv, lc, hc2⟩ := own_formJ hl
      obtain ⟨dn, hdn⟩ : ∃ dn, ds'.length = dn := ⟨_, rfl⟩
      obtain ⟨lm, hlm⟩ : ∃ lm, ls'.length = lm := ⟨_, rfl⟩
      rw [hdn] at hc1
      rw [hlm] at hc2
      subst hc1 hc2
      have HB := hid (hb1.trans (hb2.mono hb1.size))
      have HB1 := hid hb1
      have HF := hid (hpr.out.trans hr)
      have HX := hid (And.intro hok (And.intro hof (And.intro p1 (And.intro p2 (And.intro p3 (And.intro p4 (And.intro hd hl)))))))
      clear hr hb1 hb2 hok hof p1 p2 p3 p4 hd hl hdn hlm
      obtain ⟨X, hX⟩ : ∃ X, X = (w2.alloc (tobJ (.int .i64 t.wid) (.slice dv dn dc) (.slice lv lm lc))).alloc (fobJ (.int .i64 0) (.int .i64 0) (.int .i64 0)) := ⟨_, rfl⟩
      have hN2 : w.heap.size < w2.heap.size := by have := HB.out.size; have := lt_of_block HT0.out; omega
      have bX : Below w2.heap.size w2 X := by rw [hX]; exact ((Below.refl _ _).alloc (Nat.le_refl _) _).alloc (by simp) _
      have hXt : X.heap[w2.heap.size]? = some (tobJ (.int .i64 t.wid) (.slice dv dn dc) (.slice lv lm lc)) := by rw [hX]; exact new_old _ _ (new_0 _ _)
      have hXf : X.heap[w2.heap.size + 1]? = some (fobJ (.int .i64 0) (.int .i64 0) (.int .i64 0)) := by rw [hX]; exact new_1 _ _ _
      have hXn : X.heap[w.heap.size]? = some (tobJ (.int .i64 0) (.slice none 0 0) (.slice none 0 0)) := (bX.block _ hN2).trans ((HB.out.block _ (lt_of_block HT0.out)).trans HT0.out)
      have x0 : X.cell? ⟨w2.heap.size, 0, none⟩ = some (.int .i64 t.wid) := by rw [cell_at hXt]; rfl
      have x1 : X.cell? ⟨w2.heap.size, 1, none⟩ = some (.slice dv dn dc) := by rw [cell_at hXt]; rfl
      have x2 : X.cell? ⟨w2.heap.size, 2, none⟩ = some (.slice lv lm lc) := by rw [cell_at hXt]; rfl
      have y0 : X.cell? ⟨w2.heap.size + 1, 0, none⟩ = some (.int .i64 0) := by rw [cell_at hXf]; rfl
      have y1 : X.cell? ⟨w2.heap.size + 1, 1, none⟩ = some (.int .i64 0) := by rw [cell_at hXf]; rfl
      have y2 : X.cell? ⟨w2.heap.size + 1, 2, none⟩ = some (.int .i64 0) := by rw [cell_at hXf]; rfl
      have n0 : X.cell? ⟨w.heap.size, 0, none⟩ = some (.int .i64 0) := by rw [cell_at hXn]; rfl
      have n1 : X.cell? ⟨w.heap.size, 1, none⟩ = some (.slice none 0 0) := by rw [cell_at hXn]; rfl
      have n2 : X.cell? ⟨w.heap.size, 2, none⟩ = some (.slice none 0 0) := by rw [cell_at hXn]; rfl
      have m0 : X.frozen? ⟨w.heap.size, 0, none⟩ = false := free_of hXn
      have m1 : X.frozen? ⟨w.heap.size, 1, none⟩ = false := free_of hXn
      have m2 : X.frozen? ⟨w.heap.size, 2, none⟩ = false := free_of hXn
      obtain ⟨V, hV, ⟨v0, v1, v2⟩, bV, vk⟩ := par_box (X := X) (a := .int .i64 t.wid) (b := .slice dv dn dc) (c := .slice lv lm lc) hXn
      have hne : ¬ w2.heap.size = w.heap.size := by omega
      have hne1 : ¬ w2.heap.size + 1 = w.heap.size := by omega
      have HBV := hid (show Below w.heap.size w V from by
        have h1 := HB0.out
        have h2 := HB.out
        exact ⟨bV.os.trans (bX.os.trans (h2.os.trans h1.os)), bV.tape.trans (bX.tape.trans (h2.tape.trans h1.tape)), bV.output.trans (bX.output.trans (h2.output.trans h1.output)), by have := bV.size; have := bX.size; have := h2.size; have := h1.size; omega, fun k hk => (bV.block k hk).trans ((bX.block k (by omega)).trans ((h2.block k (by have := h1.size; omega)).trans (h1.block k hk)))⟩)
      have SV : V.cell? ⟨w2.heap.size, 0, none⟩ = some (.int .i64 t.wid) ∧ V.cell? ⟨w2.heap.size, 1, none⟩ = some (.slice dv dn dc) ∧ V.cell? ⟨w2.heap.size, 2, none⟩ = some (.slice lv lm lc) ∧ V.cell? ⟨w2.heap.size + 1, 0, none⟩ = some (.int .i64 0) ∧ V.cell? ⟨w2.heap.size + 1, 1, none⟩ = some (.int .i64 0) ∧ V.cell? ⟨w2.heap.size + 1, 2, none⟩ = some (.int .i64 0) := by
        have e0 := vk w2.heap.size hne
        have e1 := vk (w2.heap.size + 1) hne1
        exact ⟨(World.cell?_of_block (by exact e0)).trans x0, (World.cell?_of_block (by exact e0)).trans x1, (World.cell?_of_block (by exact e0)).trans x2, (World.cell?_of_block (by exact e1)).trans y0, (World.cell?_of_block (by exact e1)).trans y1, (World.cell?_of_block (by exact e1)).trans y2⟩
      have HFN := hid (show PrsQ w s (.returned (.tuple #[.agg #[.int .i64 t.wid, .slice dv dn dc, .slice lv lm lc], .int .i64 0, .int .i64 0, .int .i64 0])) V.drew from by
        obtain ⟨hok, hof, p1, p2, p3, p4, hd, hl⟩ := HX.out
        have hw1 : w.heap.size < w1.heap.size := by have := HB1.out.size; have := lt_of_block HT0.out; omega
        have hk : ∀ k, w1.heap.size ≤ k → k < w2.heap.size → V.drew.heap[k]? = w2.heap[k]? := fun k h1 h2 => (show V.heap[k]? = _ from (vk k (by omega)).trans (bX.block k h2))
        refine ⟨HBV.out.drew, Or.inr ⟨t, vs, ds', ls', _, _, HF.out, hok, hof, rfl, p1, p2, p3, p4, ⟨?_, fun q hq => ?_, fun q hq => ?_⟩, ?_⟩⟩
        · exact own_sameJ (own_baseJ hd.row (by omega)) fun k q => hk k (hd.row.lt k q).1 (hd.row.lt k q).2
        · have hc := hd.cls q hq
          exact own_sameJ (own_baseJ hc (by omega)) fun k r => hk k (hc.lt k r).1 (hc.lt k r).2
        · have hc := hd.prt q hq
          exact own_sameJ (own_baseJ hc (by omega)) fun k r => hk k (hc.lt k r).1 (hc.lt k r).2
        · exact own_sameJ (own_baseJ hl (by omega)) fun k q => hk k (hl.lt k q).1 (hl.lt k q).2)
      rw [hV] at SV v0 v1 v2 HBV HFN
      clear hXt hXf hXn bX bV vk hV
      go_wp2_with fail
      rw [← hX]
      clear hX
      go_region_held3 (fun W => W.cell? ⟨w2.heap.size, 0, none⟩ = some (.int .i64 t.wid) ∧ W.cell? ⟨w2.heap.size, 1, none⟩ = some (.slice dv dn dc) ∧ W.cell? ⟨w2.heap.size, 2, none⟩ = some (.slice lv lm lc) ∧ W.cell? ⟨w2.heap.size + 1, 0, none⟩ = some (.int .i64 0) ∧ W.cell? ⟨w2.heap.size + 1, 1, none⟩ = some (.int .i64 0) ∧ W.cell? ⟨w2.heap.size + 1, 2, none⟩ = some (.int .i64 0)) (first | (go_keep; done) | exact SV) (fail)
      go_wp2
      refine bodyPost_ret (v := .tuple #[.agg #[.int .i64 t.wid, .slice dv dn dc, .slice lv lm lc], .int .i64 0, .int .i64 0, .int .i64 0]) (by simp [results, Tryz.results9, go_sem, v0, v1, v2]) rfl ?_
      exact HFN.out
  · obtain ⟨hne, herr⟩ : Wo.err s = 30 ∧ prsT s = .error (Wo.faultL s, Wo.faultC s, Wo.err s) := by
      refine ⟨?_, by unfold prsT; rw [if_pos he]⟩
      unfold Wo.err at he ⊢
      split at he
      · exact absurd rfl he
      · rfl
    have HE := hid herr
    rw [hne] at HN HE
    obtain ⟨a, ha⟩ : ∃ a, a = Wo.faultL s := ⟨_, rfl⟩
    obtain ⟨b, hb⟩ : ∃ b, b = Wo.faultC s := ⟨_, rfl⟩
    rw [← ha, ← hb] at HN HE
    clear ha hb herr hne he
    go_enter Tryz.func9, Tryz.ntmps9
    go_wp2_with fail
    rw [← hW0]
    clear hW0
    refine HN.out.mono ?_
    rintro en w1 ⟨v, rfl, HL, hb1⟩
    obtain ⟨ao, cap, rfl⟩ := HL.out.form
    have hXn : w1.heap[w.heap.size]? = some (tobJ (.int .i64 0) (.slice none 0 0) (.slice none 0 0)) := (hb1.block _ (lt_of_block HT0.out)).trans HT0.out
    have n0 : w1.cell? ⟨w.heap.size, 0, none⟩ = some (.int .i64 0) := by rw [cell_at hXn]; rfl
    have n1 : w1.cell? ⟨w.heap.size, 1, none⟩ = some (.slice none 0 0) := by rw [cell_at hXn]; rfl
    have n2 : w1.cell? ⟨w.heap.size, 2, none⟩ = some (.slice none 0 0) := by rw [cell_at hXn]; rfl
    have m0 : w1.frozen? ⟨w.heap.size, 0, none⟩ = false := free_of hXn
    have m1 : w1.frozen? ⟨w.heap.size, 1, none⟩ = false := free_of hXn
    have m2 : w1.frozen? ⟨w.heap.size, 2, none⟩ = false := free_of hXn
    obtain ⟨V, hV, ⟨v0, v1, v2⟩, bV, vk⟩ := par_box (X := w1) (a := .int .i64 0) (b := .slice none 0 0) (c := .slice none 0 0) hXn
    have HBV := hid (show Below w.heap.size w V from by
      have h1 := HB0.out
      have h2 := hb1
      exact ⟨bV.os.trans (h2.os.trans h1.os), bV.tape.trans (h2.tape.trans h1.tape), bV.output.trans (h2.output.trans h1.output), by have := bV.size; have := h2.size; have := h1.size; omega, fun k hk => (bV.block k hk).trans ((h2.block k (by have := h1.size; omega)).trans (h1.block k hk))⟩)
    rw [hV] at v0 v1 v2 HBV
    clear hXn bV vk hb1 hV
    go_wp2
    refine bodyPost_ret (v := .tuple #[.agg #[.int .i64 0, .slice none 0 0, .slice none 0 0], .int .i64 a, .int .i64 b, .int .i64 30]) (by simp [results, Tryz.results9, go_sem, v0, v1, v2]) rfl ?_
    exact ⟨HBV.out, Or.inl ⟨(a, b, 30), HE.out, rfl⟩⟩
end Go.Proofs.YtkepgjijidebhaaGreatDoor
namespace Go.Proofs.YtkepgjijidebhaaGreatDoor
open Go.RowKit
open Wo (Wd)
namespace Dt

/-- What lies in memory between two lines: the parser in block N. -/
structure RpI (N : Nat) (w1 : World) (s : TSt) (vs : List (To.Dv × Value × Value)) (ns : List NmZ) (c1 cn : Value) (wr : World) : Prop where
  p : wr.heap[N]? = some (.cells #[.int .i64 s.wid, c1, .slice none 0 0, cn] 68 (0, 0))
  dvs : DvO (N + 1) wr c1 vs
  ofs : vs.map (·.1) = s.ds
  nms : wr.ownsRow (N + 1) 127 4 cn ns.length (flatN ns)
  low : Below N w1 wr
  size : N < wr.heap.size
  ok : TOk s
  sim : Sim s ns
theorem Tryz.devNeN : (80 : TypeId) ≠ 127 := by decide
theorem Tryz.strNeN : (9 : TypeId) ≠ 127 := by decide
section
variable {N rb g : Nat} {w1 wr w' : World} {s : TSt} {vs : List (To.Dv × Value × Value)} {ns : List NmZ} {c1 cn : Value} {a : Wd} {t : List Wd}
theorem RpI.width (h : RpI N w1 s vs ns c1 cn wr) (hg : Gr2D wr w' rb N) (hr : wr.heap.size ≤ rb ∨ ∃ cs fr, wr.heap[rb]? = some (.cells cs 72 fr)) (n : Nat) (hn : n ≤ 128) (hp : w'.heap[N]? = some (.cells #[.int .i64 n, c1, .slice none 0 0, cn] 68 (0, 0))) (_hN : N ≠ rb) (hlow : N < rb) : RpI N w1 { s with wid := n } vs ns c1 cn w' := by
  have hk : ∀ (e : TypeId) (sz : Nat) (v : Value) (m : Nat) (xs : List Value), e ≠ 72 → wr.ownsRow (N + 1) e sz v m xs → w'.ownsRow (N + 1) e sz v m xs := fun e sz v m xs he hu => own_sameJ hu fun k q => hg.block k (hu.lt k q).2 (fun e2 => by
    rcases hr with hr | ⟨cs, fr, hr⟩
    · have := (hu.lt k q).2; omega
    · exact own_notJ hu hr he (by rw [q]; exact congrArg some e2)) (by have := (hu.lt k q).1; omega)
  refine ⟨hp, ⟨hk _ _ _ _ _ Tryz.devNeR h.dvs.row, fun q hq => hk _ _ _ _ _ Tryz.strNeR (h.dvs.cls q hq), fun q hq => hk _ _ _ _ _ Tryz.strNeR (h.dvs.prt q hq)⟩, h.ofs, hk _ _ _ _ _ Tryz.namNeR h.nms, ⟨hg.os.trans h.low.os, hg.tape.trans h.low.tape, hg.output.trans h.low.output, Nat.le_trans h.low.size hg.size, fun k hk1 => ?_⟩, Nat.lt_of_lt_of_le h.size hg.size, h.ok.width hn, h.sim.width n⟩
  rw [hg.block k (by have := h.size; omega) (by omega) (by omega), h.low.block k hk1]
theorem RpI.on (h : RpI N w1 s vs ns c1 cn wr) (hb : Below wr.heap.size wr w') : RpI N w1 s vs ns c1 cn w' :=
  ⟨(hb.block N h.size).trans h.p, h.dvs.keep fun k _ hk => hb.block k hk, h.ofs, own_sameJ h.nms fun k q => hb.block k (h.nms.lt k q).2, h.low.trans (hb.mono (Nat.le_of_lt h.size)), Nat.lt_of_lt_of_le h.size hb.size, h.ok, h.sim⟩
/-- A reader's block is written: no row of one's own is touched. -/
theorem RpI.reader (h : RpI N w1 s vs ns c1 cn wr) (hg : wr.grownBy w' (some rb)) {cs : Array Value} {fr : Nat × Nat} (hr : wr.heap[rb]? = some (.cells cs 72 fr)) (hlow : N < rb) : RpI N w1 s vs ns c1 cn w' := by
  have hk : ∀ (e : TypeId) (sz : Nat) (v : Value) (m : Nat) (xs : List Value), e ≠ 72 → wr.ownsRow (N + 1) e sz v m xs → w'.ownsRow (N + 1) e sz v m xs := fun e sz v m xs he hu => own_sameJ hu fun k q => hg.block k (hu.lt k q).2 (fun e2 => own_notJ hu hr he (by rw [q]; exact e2))
  refine ⟨(hg.block N h.size (fun e => by injection e; omega)).trans h.p, ⟨hk _ _ _ _ _ Tryz.devNeR h.dvs.row, fun q hq => hk _ _ _ _ _ Tryz.strNeR (h.dvs.cls q hq), fun q hq => hk _ _ _ _ _ Tryz.strNeR (h.dvs.prt q hq)⟩, h.ofs, hk _ _ _ _ _ Tryz.namNeR h.nms, ⟨hg.os.trans h.low.os, hg.tape.trans h.low.tape, hg.output.trans h.low.output, Nat.le_trans h.low.size hg.size, fun k hk1 => ?_⟩, Nat.lt_of_lt_of_le h.size hg.size, h.ok, h.sim⟩
  rw [hg.block k (by have := h.size; omega) (fun e => by injection e; omega), h.low.block k hk1]
theorem RpI.device (h : RpI N w1 s vs ns c1 cn wr) {v' vc vp : Value} {d : To.Dv} {l : List Wd} (hg : Gr3D wr w' rb N c1) {cs : Array Value} {fr : Nat × Nat} (hr : wr.heap[rb]? = some (.cells cs 72 fr)) (hlow : N < rb) (hp : w'.heap[N]? = some (.cells #[.int .i64 s.wid, v', .slice none 0 0, cn] 68 (0, 0))) (hd : DvO (N + 1) w' v' (vs ++ [(d, vc, vp)])) {x e : Wd} (hok : To.dev x e s.nms l = .ok d) (hx : (Ru.nx e l).1.length ≤ 1048576) : RpI N w1 { s with ds := s.ds ++ [d] } (vs ++ [(d, vc, vp)]) ns v' cn w' := by
  obtain ⟨k1, k2, k3⟩ := dev_ok hok hx
  refine ⟨hp, hd, by rw [List.map_append, h.ofs]; rfl, own_sameJ h.nms fun k q => hg.block k (h.nms.lt k q).2 (fun e2 => own_notJ h.nms hr Tryz.namNeR (by rw [q]; exact congrArg some e2)) (by have := (h.nms.lt k q).1; omega) (own_apartJ h.nms h.dvs.row (fun e => Tryz.devNeN e.symm) q), ⟨hg.os.trans h.low.os, hg.tape.trans h.low.tape, hg.output.trans h.low.output, Nat.le_trans h.low.size hg.size, fun k hk1 => ?_⟩, Nat.lt_of_lt_of_le h.size hg.size, h.ok.device k1 k2 k3, h.sim.device d⟩
  rw [hg.block k (by have := h.size; omega) (by omega) (by omega) (fun e => by have := (h.dvs.row.lt k e).1; omega), h.low.block k hk1]
theorem RpI.link (h : RpI N w1 s vs ns c1 cn wr) {v' : Value} {q : NmZ} (hg : Gr3D wr w' rb N cn) {cs : Array Value} {fr : Nat × Nat} (hr : wr.heap[rb]? = some (.cells cs 72 fr)) (hlow : N < rb) (hp : w'.heap[N]? = some (.cells #[.int .i64 s.wid, c1, .slice none 0 0, v'] 68 (0, 0))) (hn : w'.ownsRow (N + 1) 127 4 v' (ns.length + 1) (flatN (ns ++ [q]))) (hq : lnkD s.ds ns (a :: t) = .ok q) : RpI N w1 { s with ls := s.ls ++ [jndL (nmE s.nms q).1 (nmE s.nms q).2], ks := s.ks ++ [(nmE s.nms q).1] ++ [(nmE s.nms q).2] } vs (ns ++ [q]) c1 v' w' := by
  have hl := lnk_sim h.sim a t
  rw [hq] at hl
  obtain ⟨k1, k2, k3⟩ := lnkJ_ok (a := (nmE s.nms q).1) (b := (nmE s.nms q).2) hl
  have hk : ∀ (e : TypeId) (sz : Nat) (v : Value) (m : Nat) (xs : List Value), e ≠ 72 → e ≠ 127 → wr.ownsRow (N + 1) e sz v m xs → w'.ownsRow (N + 1) e sz v m xs := fun e sz v m xs he he2 hu => own_sameJ hu fun k q => hg.block k (hu.lt k q).2 (fun e2 => own_notJ hu hr he (by rw [q]; exact congrArg some e2)) (by have := (hu.lt k q).1; omega) (own_apartJ hu h.nms he2 q)
  refine ⟨hp, ⟨hk _ _ _ _ _ Tryz.devNeR Tryz.devNeN h.dvs.row, fun q hq => hk _ _ _ _ _ Tryz.strNeR Tryz.strNeN (h.dvs.cls q hq), fun q hq => hk _ _ _ _ _ Tryz.strNeR Tryz.strNeN (h.dvs.prt q hq)⟩, h.ofs, by rw [List.length_append, List.length_singleton]; exact hn, ⟨hg.os.trans h.low.os, hg.tape.trans h.low.tape, hg.output.trans h.low.output, Nat.le_trans h.low.size hg.size, fun k hk1 => ?_⟩, Nat.lt_of_lt_of_le h.size hg.size, h.ok.link k1 k2 k3, h.sim.link hq⟩
  rw [hg.block k (by have := h.size; omega) (by omega) (by omega) (fun e => by have := (h.nms.lt k e).1; omega), h.low.block k hk1]
end
/-- What Parse leaves. -/
def RPrsQ (w : World) (s : List UInt8) (en : Ending) (w' : World) : Prop :=
  Below w.heap.size w w' ∧ ((∃ f : Ru.Ft, prsT s = .error f ∧ en = .returned (.tuple #[.agg #[.int .i64 0, .slice none 0 0, .slice none 0 0], .int .i64 f.1, .int .i64 f.2.1, .int .i64 f.2.2])) ∨
    (∃ t vs ns ds' ls' c1 c2, prsT s = .ok t ∧ TOk t ∧ Sim t ns ∧ vs.map (·.1) = t.ds ∧ en = .returned (.tuple #[.agg #[.int .i64 t.wid, c1, c2], .int .i64 0, .int .i64 0, .int .i64 0]) ∧ ds'.Perm vs ∧ ds'.Pairwise (fun a b => ¬ b.1.name < a.1.name) ∧ ls'.Perm (lksN (ds'.map (·.1.name)) ns) ∧ ls'.Pairwise (fun a b => ¬ ocE b.a b.p a.a a.p < 0) ∧ DvO w.heap.size w' c1 ds' ∧ w'.ownsRow w.heap.size 83 4 c2 ls'.length (flatL ls')))
/-- What a line leaves. -/
def LnP (N : Nat) (w1 : World) (rb g : Nat) (l : List Wd) (r : Except Ru.Ft TSt) (wx : World) : Prop :=
  (∃ s' vs' ns' c1 cn j, r = .ok s' ∧ RpI N w1 s' vs' ns' c1 cn wx ∧ RfAt wx rb g l j 0 0 0) ∨ (∃ f j, r = .error f ∧ f.2.2 ≠ 0 ∧ Below N w1 wx ∧ N < wx.heap.size ∧ RfAt wx rb g l j f.1 f.2.1 f.2.2)
theorem Tryz.f05 (v : Value) (w : World) : (w.alloc (.cells #[v, .int .i64 0, .int .i64 0, .int .i64 0, .int .i64 0] 72)).heap[w.heap.size]? = some (.cells #[v, .int .i64 0, .int .i64 0, .int .i64 0, .int .i64 0] 72 (0, 0)) := new_0 _ _
end Dt
end Go.Proofs.YtkepgjijidebhaaGreatDoor
