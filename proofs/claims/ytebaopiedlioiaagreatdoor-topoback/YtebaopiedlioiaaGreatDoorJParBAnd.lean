/-
  What is printed of a topology that may be is parsed as it (P11.5): the digits, the words, the lines. Plain mathematics.
  topo.Parse of any text.
-/
import Derived.Test.YtebaopiedlioiaaGreatDoorJRdIAnd
import Derived.Test.YtebaopiedlioiaaGreatDoorJDocKAnd
namespace Go.Proofs.YtebaopiedlioiaaGreatDoor
open Go.RowKit
open Wo (Wd)

/-- What Parse of a text comes to. -/
def prsT (s : List UInt8) : Except Ru.Ft TSt := if Wo.err s ≠ 0 then .error (Wo.faultL s, Wo.faultC s, Wo.err s) else readT (Wo.read s)
/-- What Parse leaves. -/
def PrsQ (w : World) (s : List UInt8) (en : Ending) (w' : World) : Prop :=
  Below w.heap.size w w' ∧ ((∃ f : Ru.Ft, prsT s = .error f ∧ en = .returned (.tuple #[.agg #[.int .i64 0, .slice none 0 0, .slice none 0 0], .int .i64 f.1, .int .i64 f.2.1, .int .i64 f.2.2])) ∨
    (∃ t vs ds' ls' c1 c2, prsT s = .ok t ∧ TOk t ∧ vs.map (·.1) = t.ds ∧ en = .returned (.tuple #[.agg #[.int .i64 t.wid, c1, c2], .int .i64 0, .int .i64 0, .int .i64 0]) ∧ ds'.Perm vs ∧ ds'.Pairwise (fun a b => ¬ b.1.name < a.1.name) ∧ ls'.Perm (t.ls.map (renL (posF vs ds'))) ∧ ls'.Pairwise (fun a b => ¬ ocE b.a b.p a.a a.p < 0) ∧ DvO w.heap.size w' c1 ds' ∧ w'.ownsRow w.heap.size 83 4 c2 ls'.length (flatL ls')))

/-- What the result holds when Parse is done. -/
theorem par_box {X : World} {N : Nat} {x0 x1 x2 a b c : Value} (ht : X.heap[N]? = some (tobJ x0 x1 x2)) : ∃ V, V = ((X.setCell ⟨N, 0, none⟩ a).setCell ⟨N, 1, none⟩ b).setCell ⟨N, 2, none⟩ c ∧ (V.cell? ⟨N, 0, none⟩ = some a ∧ V.cell? ⟨N, 1, none⟩ = some b ∧ V.cell? ⟨N, 2, none⟩ = some c) ∧ Below N X V ∧ ∀ k, k ≠ N → V.heap[k]? = X.heap[k]? := by
  have vt : (((X.setCell ⟨N, 0, none⟩ a).setCell ⟨N, 1, none⟩ b).setCell ⟨N, 2, none⟩ c).heap[N]? = some (tobJ a b c) := block_set (o := 2) c (block_set (o := 1) b (block_set (o := 0) a ht))
  refine ⟨_, rfl, ⟨by rw [cell_at vt]; rfl, by rw [cell_at vt]; rfl, by rw [cell_at vt]; rfl⟩, ?_, fun k h1 => ?_⟩
  · repeat (refine Below.setCell ?_ (by dsimp only; omega) _)
    exact Below.refl _ _
  · rw [Below.heap_setCell _ _ _ _ h1, Below.heap_setCell _ _ _ _ h1, Below.heap_setCell _ _ _ _ h1]

set_option maxRecDepth 4000 in
set_option maxHeartbeats 1000000 in
theorem oParse_any (s : List UInt8) (w : World) (hs : s.length ≤ 1048576) : Calls Tryz.prog 9 #[.string (tx s)] w fun en w' => PrsQ w s en w' := by
  obtain ⟨W0, hW0⟩ : ∃ W0, W0 = w.alloc (tobJ (.int .i64 0) (.slice none 0 0) (.slice none 0 0)) := ⟨_, rfl⟩
  have hb0 : Below w.heap.size w W0 := by rw [hW0]; exact (Below.refl _ _).alloc (Nat.le_refl _) _
  have ht0 : W0.heap[w.heap.size]? = some (tobJ (.int .i64 0) (.slice none 0 0) (.slice none 0 0)) := by rw [hW0]; exact new_0 _ _
  have HB0 := hid hb0
  have HT0 := hid ht0
  clear hb0 ht0
  have HN := hid (Lines_any s W0 hs)
  by_cases he : Wo.err s = 0
  · have HE := hid he
    have hpr := hid (show prsT s = readT (Wo.read s) by unfold prsT; rw [if_neg (fun q => q he)])
    have hfz : Wo.faultL s = 0 ∧ Wo.faultC s = 0 := by
      unfold Wo.err at he
      unfold Wo.faultL Wo.faultC
      cases h : (Wo.rd (Wo.lns s) 1).2 with
      | none => exact ⟨rfl, rfl⟩
      | some p => rw [h] at he; cases he
    rw [hfz.1, hfz.2, he] at HN
    have HRD := hid (fun (v : Value) (w1 : World) (hL : LinesAt w1 W0.heap.size v (Wo.read s)) => (by
      by_cases h0 : 0 < (Wo.read s).length
      · obtain ⟨g, cap, G, C, rfl, hLs⟩ := lines_forJ hL hs h0
        exact oread_any hLs cap (fun q => by rw [q] at h0; exact absurd h0 (Nat.not_lt_zero _)) (by have := (read_boundsJ s).1; omega)
      · obtain ⟨ao, cap, rfl⟩ := hL.form
        have e0 : Wo.read s = [] := List.length_eq_zero_iff.1 (by omega)
        rw [e0]
        exact oread_none ao cap w1 : Calls Tryz.prog 28 #[v] w1 fun en w' => RdPost w1 (Wo.read s) en w'))
    clear he hfz
    go_enter Tryz.func9, Tryz.ntmps9
    go_wp2_with fail
    rw [← hW0]
    clear hW0
    refine HN.out.mono ?_
    rintro en w1 ⟨v, rfl, HL, hb1⟩
    obtain ⟨ao, cap, rfl⟩ := HL.out.form
    go_wp2_with fail
    refine (HRD.out _ _ HL.out).mono ?_
    rintro en w2 ⟨hb2, ⟨f, hf, rfl⟩ | ⟨t, vs, ds', ls', c1, c2, hr, hok, hof, rfl, p1, p2, p3, p4, hd, hl⟩⟩
    · have HB := hid (hb1.trans (hb2.mono hb1.size))
      have HF := hid (hpr.out.trans hf)
      clear hf hb1 hb2
      obtain ⟨X, hX⟩ : ∃ X, X = (w2.alloc (tobJ (.int .i64 0) (.slice none 0 0) (.slice none 0 0))).alloc (fobJ (.int .i64 f.1) (.int .i64 f.2.1) (.int .i64 f.2.2)) := ⟨_, rfl⟩
      have hN2 : w.heap.size < w2.heap.size := by have := HB.out.size; have := lt_of_block HT0.out; omega
      have bX : Below w2.heap.size w2 X := by rw [hX]; exact ((Below.refl _ _).alloc (Nat.le_refl _) _).alloc (by simp) _
      have hXt : X.heap[w2.heap.size]? = some (tobJ (.int .i64 0) (.slice none 0 0) (.slice none 0 0)) := by rw [hX]; exact new_old _ _ (new_0 _ _)
      have hXf : X.heap[w2.heap.size + 1]? = some (fobJ (.int .i64 f.1) (.int .i64 f.2.1) (.int .i64 f.2.2)) := by rw [hX]; exact new_1 _ _ _
      have hXn : X.heap[w.heap.size]? = some (tobJ (.int .i64 0) (.slice none 0 0) (.slice none 0 0)) := (bX.block _ hN2).trans ((HB.out.block _ (lt_of_block HT0.out)).trans HT0.out)
      have x0 : X.cell? ⟨w2.heap.size, 0, none⟩ = some (.int .i64 0) := by rw [cell_at hXt]; rfl
      have x1 : X.cell? ⟨w2.heap.size, 1, none⟩ = some (.slice none 0 0) := by rw [cell_at hXt]; rfl
      have x2 : X.cell? ⟨w2.heap.size, 2, none⟩ = some (.slice none 0 0) := by rw [cell_at hXt]; rfl
      have y0 : X.cell? ⟨w2.heap.size + 1, 0, none⟩ = some (.int .i64 f.1) := by rw [cell_at hXf]; rfl
      have y1 : X.cell? ⟨w2.heap.size + 1, 1, none⟩ = some (.int .i64 f.2.1) := by rw [cell_at hXf]; rfl
      have y2 : X.cell? ⟨w2.heap.size + 1, 2, none⟩ = some (.int .i64 f.2.2) := by rw [cell_at hXf]; rfl
      have n0 : X.cell? ⟨w.heap.size, 0, none⟩ = some (.int .i64 0) := by rw [cell_at hXn]; rfl
      have n1 : X.cell? ⟨w.heap.size, 1, none⟩ = some (.slice none 0 0) := by rw [cell_at hXn]; rfl
      have n2 : X.cell? ⟨w.heap.size, 2, none⟩ = some (.slice none 0 0) := by rw [cell_at hXn]; rfl
      have m0 : X.frozen? ⟨w.heap.size, 0, none⟩ = false := free_of hXn
      have m1 : X.frozen? ⟨w.heap.size, 1, none⟩ = false := free_of hXn
      have m2 : X.frozen? ⟨w.heap.size, 2, none⟩ = false := free_of hXn
      obtain ⟨V, hV, ⟨v0, v1, v2⟩, bV, vk⟩ := par_box (X := X) (a := .int .i64 0) (b := .slice none 0 0) (c := .slice none 0 0) hXn
      have hne : ¬ w2.heap.size = w.heap.size := by omega
      have hne1 : ¬ w2.heap.size + 1 = w.heap.size := by omega
      have HBV := hid (show Below w.heap.size w V from by
        have h1 := HB0.out
        have h2 := HB.out
        exact ⟨bV.os.trans (bX.os.trans (h2.os.trans h1.os)), bV.tape.trans (bX.tape.trans (h2.tape.trans h1.tape)), bV.output.trans (bX.output.trans (h2.output.trans h1.output)), by have := bV.size; have := bX.size; have := h2.size; have := h1.size; omega, fun k hk => (bV.block k hk).trans ((bX.block k (by omega)).trans ((h2.block k (by have := h1.size; omega)).trans (h1.block k hk)))⟩)
      have SV : V.cell? ⟨w2.heap.size, 0, none⟩ = some (.int .i64 0) ∧ V.cell? ⟨w2.heap.size, 1, none⟩ = some (.slice none 0 0) ∧ V.cell? ⟨w2.heap.size, 2, none⟩ = some (.slice none 0 0) ∧ V.cell? ⟨w2.heap.size + 1, 0, none⟩ = some (.int .i64 f.1) ∧ V.cell? ⟨w2.heap.size + 1, 1, none⟩ = some (.int .i64 f.2.1) ∧ V.cell? ⟨w2.heap.size + 1, 2, none⟩ = some (.int .i64 f.2.2) := by
        have e0 := vk w2.heap.size hne
        have e1 := vk (w2.heap.size + 1) hne1
        exact ⟨(World.cell?_of_block (by exact e0)).trans x0, (World.cell?_of_block (by exact e0)).trans x1, (World.cell?_of_block (by exact e0)).trans x2, (World.cell?_of_block (by exact e1)).trans y0, (World.cell?_of_block (by exact e1)).trans y1, (World.cell?_of_block (by exact e1)).trans y2⟩
      rw [hV] at SV v0 v1 v2 HBV
      clear hXt hXf hXn bX bV vk hV
      go_wp2_with fail
      rw [← hX]
      clear hX
      go_region_held3 (fun W => W.cell? ⟨w2.heap.size, 0, none⟩ = some (.int .i64 0) ∧ W.cell? ⟨w2.heap.size, 1, none⟩ = some (.slice none 0 0) ∧ W.cell? ⟨w2.heap.size, 2, none⟩ = some (.slice none 0 0) ∧ W.cell? ⟨w2.heap.size + 1, 0, none⟩ = some (.int .i64 f.1) ∧ W.cell? ⟨w2.heap.size + 1, 1, none⟩ = some (.int .i64 f.2.1) ∧ W.cell? ⟨w2.heap.size + 1, 2, none⟩ = some (.int .i64 f.2.2)) (first | (go_keep; done) | exact SV) (fail)
      go_wp2
      refine bodyPost_ret (v := .tuple #[.agg #[.int .i64 0, .slice none 0 0, .slice none 0 0], .int .i64 f.1, .int .i64 f.2.1, .int .i64 f.2.2]) (by simp [results, Tryz.results9, go_sem, v0, v1, v2]) rfl ?_
      exact ⟨HBV.out.drew, Or.inl ⟨f, HF.out, rfl⟩⟩
    · obtain ⟨dv, dc, hc1⟩ := own_formJ hd.row
      obtain ⟨lv, lc, hc2⟩ := own_formJ hl
      obtain ⟨dn, hdn⟩ : ∃ dn, ds'.length = dn := ⟨_, rfl⟩
      obtain ⟨lm, hlm⟩ : ∃ lm, ls'.length = lm := ⟨_, rfl⟩
      rw [hdn] at hc1
      rw [hlm] at hc2
      subst hc1 hc2
      have HB := hid (hb1.trans (hb2.mono hb1.size))
      have HB1 := hid hb1
      have HF := hid (hpr.out.trans hr)
      have HX := hid (And.intro hok (And.intro hof (And.intro p1 (And.intro p2 (And.intro p3 (And.intro p4 (And.intro hd hl)))))))
      clear hr hb1 hb2 hok hof p1 p2 p3 p4 hd hl hdn hlm
      obtain ⟨X, hX⟩ : ∃ X, X = (w2.alloc (tobJ (.int .i64 t.wid) (.slice dv dn dc) (.slice lv lm lc))).alloc (fobJ (.int .i64 0) (.int .i64 0) (.int .i64 0)) := ⟨_, rfl⟩
      have hN2 : w.heap.size < w2.heap.size := by have := HB.out.size; have := lt_of_block HT0.out; omega
      have bX : Below w2.heap.size w2 X := by rw [hX]; exact ((Below.refl _ _).alloc (Nat.le_refl _) _).alloc (by simp) _
      have hXt : X.heap[w2.heap.size]? = some (tobJ (.int .i64 t.wid) (.slice dv dn dc) (.slice lv lm lc)) := by rw [hX]; exact new_old _ _ (new_0 _ _)
      have hXf : X.heap[w2.heap.size + 1]? = some (fobJ (.int .i64 0) (.int .i64 0) (.int .i64 0)) := by rw [hX]; exact new_1 _ _ _
      have hXn : X.heap[w.heap.size]? = some (tobJ (.int .i64 0) (.slice none 0 0) (.slice none 0 0)) := (bX.block _ hN2).trans ((HB.out.block _ (lt_of_block HT0.out)).trans HT0.out)
      have x0 : X.cell? ⟨w2.heap.size, 0, none⟩ = some (.int .i64 t.wid) := by rw [cell_at hXt]; rfl
      have x1 : X.cell? ⟨w2.heap.size, 1, none⟩ = some (.slice dv dn dc) := by rw [cell_at hXt]; rfl
      have x2 : X.cell? ⟨w2.heap.size, 2, none⟩ = some (.slice lv lm lc) := by rw [cell_at hXt]; rfl
      have y0 : X.cell? ⟨w2.heap.size + 1, 0, none⟩ = some (.int .i64 0) := by rw [cell_at hXf]; rfl
      have y1 : X.cell? ⟨w2.heap.size + 1, 1, none⟩ = some (.int .i64 0) := by rw [cell_at hXf]; rfl
      have y2 : X.cell? ⟨w2.heap.size + 1, 2, none⟩ = some (.int .i64 0) := by rw [cell_at hXf]; rfl
      have n0 : X.cell? ⟨w.heap.size, 0, none⟩ = some (.int .i64 0) := by rw [cell_at hXn]; rfl
      have n1 : X.cell? ⟨w.heap.size, 1, none⟩ = some (.slice none 0 0) := by rw [cell_at hXn]; rfl
      have n2 : X.cell? ⟨w.heap.size, 2, none⟩ = some (.slice none 0 0) := by rw [cell_at hXn]; rfl
      have m0 : X.frozen? ⟨w.heap.size, 0, none⟩ = false := free_of hXn
      have m1 : X.frozen? ⟨w.heap.size, 1, none⟩ = false := free_of hXn
      have m2 : X.frozen? ⟨w.heap.size, 2, none⟩ = false := free_of hXn
      obtain ⟨V, hV, ⟨v0, v1, v2⟩, bV, vk⟩ := par_box (X := X) (a := .int .i64 t.wid) (b := .slice dv dn dc) (c := .slice lv lm lc) hXn
      have hne : ¬ w2.heap.size = w.heap.size := by omega
      have hne1 : ¬ w2.heap.size + 1 = w.heap.size := by omega
      have HBV := hid (show Below w.heap.size w V from by
        have h1 := HB0.out
        have h2 := HB.out
        exact ⟨bV.os.trans (bX.os.trans (h2.os.trans h1.os)), bV.tape.trans (bX.tape.trans (h2.tape.trans h1.tape)), bV.output.trans (bX.output.trans (h2.output.trans h1.output)), by have := bV.size; have := bX.size; have := h2.size; have := h1.size; omega, fun k hk => (bV.block k hk).trans ((bX.block k (by omega)).trans ((h2.block k (by have := h1.size; omega)).trans (h1.block k hk)))⟩)
      have SV : V.cell? ⟨w2.heap.size, 0, none⟩ = some (.int .i64 t.wid) ∧ V.cell? ⟨w2.heap.size, 1, none⟩ = some (.slice dv dn dc) ∧ V.cell? ⟨w2.heap.size, 2, none⟩ = some (.slice lv lm lc) ∧ V.cell? ⟨w2.heap.size + 1, 0, none⟩ = some (.int .i64 0) ∧ V.cell? ⟨w2.heap.size + 1, 1, none⟩ = some (.int .i64 0) ∧ V.cell? ⟨w2.heap.size + 1, 2, none⟩ = some (.int .i64 0) := by
        have e0 := vk w2.heap.size hne
        have e1 := vk (w2.heap.size + 1) hne1
        exact ⟨(World.cell?_of_block (by exact e0)).trans x0, (World.cell?_of_block (by exact e0)).trans x1, (World.cell?_of_block (by exact e0)).trans x2, (World.cell?_of_block (by exact e1)).trans y0, (World.cell?_of_block (by exact e1)).trans y1, (World.cell?_of_block (by exact e1)).trans y2⟩
      have HFN := hid (show PrsQ w s (.returned (.tuple #[.agg #[.int .i64 t.wid, .slice dv dn dc, .slice lv lm lc], .int .i64 0, .int .i64 0, .int .i64 0])) V.drew from by
        obtain ⟨hok, hof, p1, p2, p3, p4, hd, hl⟩ := HX.out
        have hw1 : w.heap.size < w1.heap.size := by have := HB1.out.size; have := lt_of_block HT0.out; omega
        have hk : ∀ k, w1.heap.size ≤ k → k < w2.heap.size → V.drew.heap[k]? = w2.heap[k]? := fun k h1 h2 => (show V.heap[k]? = _ from (vk k (by omega)).trans (bX.block k h2))
        refine ⟨HBV.out.drew, Or.inr ⟨t, vs, ds', ls', _, _, HF.out, hok, hof, rfl, p1, p2, p3, p4, ⟨?_, fun q hq => ?_, fun q hq => ?_⟩, ?_⟩⟩
        · exact own_sameJ (own_baseJ hd.row (by omega)) fun k q => hk k (hd.row.lt k q).1 (hd.row.lt k q).2
        · have hc := hd.cls q hq
          exact own_sameJ (own_baseJ hc (by omega)) fun k r => hk k (hc.lt k r).1 (hc.lt k r).2
        · have hc := hd.prt q hq
          exact own_sameJ (own_baseJ hc (by omega)) fun k r => hk k (hc.lt k r).1 (hc.lt k r).2
        · exact own_sameJ (own_baseJ hl (by omega)) fun k q => hk k (hl.lt k q).1 (hl.lt k q).2)
      rw [hV] at SV v0 v1 v2 HBV HFN
      clear hXt hXf hXn bX bV vk hV
      go_wp2_with fail
      rw [← hX]
      clear hX
      go_region_held3 (fun W => W.cell? ⟨w2.heap.size, 0, none⟩ = some (.int .i64 t.wid) ∧ W.cell? ⟨w2.heap.size, 1, none⟩ = some (.slice dv dn dc) ∧ W.cell? ⟨w2.heap.size, 2, none⟩ = some (.slice lv lm lc) ∧ W.cell? ⟨w2.heap.size + 1, 0, none⟩ = some (.int .i64 0) ∧ W.cell? ⟨w2.heap.size + 1, 1, none⟩ = some (.int .i64 0) ∧ W.cell? ⟨w2.heap.size + 1, 2, none⟩ = some (.int .i64 0)) (first | (go_keep; done) | exact SV) (fail)
      go_wp2
      refine bodyPost_ret (v := .tuple #[.agg #[.int .i64 t.wid, .slice dv dn dc, .slice lv lm lc], .int .i64 0, .int .i64 0, .int .i64 0]) (by simp [results, Tryz.results9, go_sem, v0, v1, v2]) rfl ?_
      exact HFN.out
  · obtain ⟨hne, herr⟩ : Wo.err s = 30 ∧ prsT s = .error (Wo.faultL s, Wo.faultC s, Wo.err s) := by
      refine ⟨?_, by unfold prsT; rw [if_pos he]⟩
      unfold Wo.err at he ⊢
      split at he
      · exact absurd rfl he
      · rfl
    have HE := hid herr
    rw [hne] at HN HE
    obtain ⟨a, ha⟩ : ∃ a, a = Wo.faultL s := ⟨_, rfl⟩
    obtain ⟨b, hb⟩ : ∃ b, b = Wo.faultC s := ⟨_, rfl⟩
    rw [← ha, ← hb] at HN HE
    clear ha hb herr hne he
    go_enter Tryz.func9, Tryz.ntmps9
    go_wp2_with fail
    rw [← hW0]
    clear hW0
    refine HN.out.mono ?_
    rintro en w1 ⟨v, rfl, HL, hb1⟩
    obtain ⟨ao, cap, rfl⟩ := HL.out.form
    have hXn : w1.heap[w.heap.size]? = some (tobJ (.int .i64 0) (.slice none 0 0) (.slice none 0 0)) := (hb1.block _ (lt_of_block HT0.out)).trans HT0.out
    have n0 : w1.cell? ⟨w.heap.size, 0, none⟩ = some (.int .i64 0) := by rw [cell_at hXn]; rfl
    have n1 : w1.cell? ⟨w.heap.size, 1, none⟩ = some (.slice none 0 0) := by rw [cell_at hXn]; rfl
    have n2 : w1.cell? ⟨w.heap.size, 2, none⟩ = some (.slice none 0 0) := by rw [cell_at hXn]; rfl
    have m0 : w1.frozen? ⟨w.heap.size, 0, none⟩ = false := free_of hXn
    have m1 : w1.frozen? ⟨w.heap.size, 1, none⟩ = false := free_of hXn
    have m2 : w1.frozen? ⟨w.heap.size, 2, none⟩ = false := free_of hXn
    obtain ⟨V, hV, ⟨v0, v1, v2⟩, bV, vk⟩ := par_box (X := w1) (a := .int .i64 0) (b := .slice none 0 0) (c := .slice none 0 0) hXn
    have HBV := hid (show Below w.heap.size w V from by
      have h1 := HB0.out
      have h2 := hb1
      exact ⟨bV.os.trans (h2.os.trans h1.os), bV.tape.trans (h2.tape.trans h1.tape), bV.output.trans (h2.output.trans h1.output), by have := bV.size; have := h2.size; have := h1.size; omega, fun k hk => (bV.block k hk).trans ((h2.block k (by have := h1.size; omega)).trans (h1.block k hk))⟩)
    rw [hV] at v0 v1 v2 HBV
    clear hXn bV vk hb1 hV
    go_wp2
    refine bodyPost_ret (v := .tuple #[.agg #[.int .i64 0, .slice none 0 0, .slice none 0 0], .int .i64 a, .int .i64 b, .int .i64 30]) (by simp [results, Tryz.results9, go_sem, v0, v1, v2]) rfl ?_
    exact ⟨HBV.out, Or.inl ⟨(a, b, 30), HE.out, rfl⟩⟩
end Go.Proofs.YtebaopiedlioiaaGreatDoor
namespace Go.Proofs.YtebaopiedlioiaaGreatDoor
namespace Bk
open Wo (Wd)
open Ru (Ft ft nx put ins)

theorem digit_nat {u : Nat} (h : u < 10) : (UInt8.ofNat (48 + u)).toNat = 48 + u := by
  rw [UInt8.toNat_ofNat']
  omega
theorem digits_facts (n : Nat) : Lib.decDigits n ≠ [] ∧ Wo.allD (Lib.decDigits n) = true ∧ Wo.decN (Lib.decDigits n) = n ∧ (1 ≤ n → ((Lib.decDigits n).headD 0).toNat ≠ 48) := by
  induction n using Nat.strongRecOn with
  | _ n ih =>
    by_cases h : n < 10
    · have e : Lib.decDigits n = [UInt8.ofNat (48 + n)] := by rw [Lib.decDigits, dif_pos h]
      rw [e]
      refine ⟨by simp, ?_, ?_, fun h1 => ?_⟩
      · simp only [Wo.allD, List.all_cons, List.all_nil, Bool.and_true, Wo.dg, digit_nat h, decide_eq_true_eq]; omega
      · show Wo.decF 0 _ = n
        unfold Wo.decF; rw [digit_nat h]; omega
      · show (UInt8.ofNat (48 + n)).toNat ≠ 48
        rw [digit_nat h]; omega
    · have e : Lib.decDigits n = Lib.decDigits (n / 10) ++ [UInt8.ofNat (48 + n % 10)] := by rw [Lib.decDigits, dif_neg h]
      obtain ⟨i1, i2, i3, i4⟩ := ih (n / 10) (by omega)
      rw [e]
      refine ⟨by simp, ?_, ?_, fun _ => ?_⟩
      · unfold Wo.allD at i2 ⊢
        rw [List.all_append, i2]
        simp only [List.all_cons, List.all_nil, Bool.and_true, Bool.true_and, Wo.dg, digit_nat (show n % 10 < 10 by omega), decide_eq_true_eq]; omega
      · rw [Wo.decN_snoc, i3, digit_nat (by omega)]; omega
      · have := i4 (by omega)
        cases hd : Lib.decDigits (n / 10) with
        | nil => exact absurd hd i1
        | cons a t => rw [hd] at this; exact this
theorem digits_num {n : Nat} (h : n ≤ 2147483647) : Wo.numB (Lib.decDigits n) = true ∧ Wo.numV (Lib.decDigits n) = n := by
  obtain ⟨h1, h2, h3, h4⟩ := digits_facts n
  have hb : Wo.numB (Lib.decDigits n) = true := by
    unfold Wo.numB
    refine decide_eq_true ⟨h1, ?_, h2, by omega⟩
    by_cases q : 1 ≤ n
    · exact Or.inr (h4 q)
    · refine Or.inl ?_
      rw [show n = 0 by omega, Lib.decDigits, dif_pos (by omega)]
      simp
  exact ⟨hb, by unfold Wo.numV; rw [if_pos hb]; exact h3⟩
theorem isW_ltrs {l : List UInt8} (h0 : l ≠ []) (h : (l.all fun c => Wo.ltr c.toNat) = true) : Wo.isW l = true := by
  have hl := (Wo.lets_all l).2 h
  cases l with
  | nil => exact absurd rfl h0
  | cons x t =>
    have hx : Wo.ltr x.toNat = true := by rw [List.all_cons, Bool.and_eq_true] at h; exact h.1
    have ha : Wo.arr (x :: t) = false := by
      rw [Wo.lets_cons] at hl
      cases hq : Wo.arr (x :: t) with
      | false => rfl
      | true => rw [hq] at hl; simp at hl
    refine decide_eq_true ⟨h0, ?_⟩
    rw [Wo.fst_of_ltr hx ha]; exact hl
theorem isW_name {l : List UInt8} (h : Wo.nameB l = true) : Wo.isW l = true := by
  obtain ⟨h0, _, _, _, ha⟩ := of_decide_eq_true h
  exact isW_ltrs h0 ha
theorem isW_digits (n : Nat) : Wo.isW (Lib.decDigits n) = true := by
  obtain ⟨h1, h2, _, _⟩ := digits_facts n
  refine isW_ltrs h1 ?_
  unfold Wo.allD at h2
  rw [List.all_eq_true] at h2 ⊢
  intro c hc
  have := h2 c hc
  simp only [Wo.dg, Wo.ltr, decide_eq_true_eq] at this ⊢
  omega

/-- The text of lines of words. -/
def prW (xs : List (List (List UInt8))) : List UInt8 := (xs.map fun x => Wo.sayL x ++ [10]).flatten
theorem rd_prW (xs : List (List (List UInt8))) : ∀ n, (∀ x ∈ xs, x ≠ [] ∧ ∀ l ∈ x, Wo.isW l = true) → (Wo.rd (Wo.lns (prW xs)) n).2 = none ∧ (Wo.rd (Wo.lns (prW xs)) n).1.map (fun l => l.map (·.1)) = xs := by
  induction xs with
  | nil => intro n _; exact ⟨rfl, rfl⟩
  | cons x r ih =>
    intro n h
    obtain ⟨hne, hw⟩ := h x (by simp)
    obtain ⟨a, s, rfl⟩ : ∃ a s, x = a :: s := by
      cases x with
      | nil => exact absurd rfl hne
      | cons a s => exact ⟨a, s, rfl⟩
    obtain ⟨i1, i2⟩ := ih (n + 1) (fun y hy => h y (List.mem_cons_of_mem _ hy))
    have e : prW ((a :: s) :: r) = Wo.sayL (a :: s) ++ 10 :: prW r := by simp [prW]
    have h10 : ∀ b ∈ Wo.sayL (a :: s), b.toNat ≠ 10 := by
      intro b hb
      rcases List.mem_append.1 hb with hb | hb
      · exact (Wo.isW_bytes (hw a (by simp)) b hb).1
      · exact Wo.join_bytes _ _ (fun l hl => hw l (List.mem_cons_of_mem _ hl)) b hb
    obtain ⟨e1, e2⟩ := Wo.tk_join a s 1 (hw a (by simp)) (fun l hl => hw l (List.mem_cons_of_mem _ hl))
    have e1' : (Wo.tk (Wo.sayL (a :: s)) 1).1.map (·.1) = a :: s := e1
    have e2' : (Wo.tk (Wo.sayL (a :: s)) 1).2 = none := e2
    have ne : (Wo.tk (Wo.sayL (a :: s)) 1).1 ≠ [] := by
      intro q
      rw [q] at e1'; simp at e1'
    rw [e, Wo.lns_cut _ _ _ h10 (by decide), Wo.rd_some e2' ne]
    refine ⟨i1, ?_⟩
    simp only [List.map_cons]
    rw [i2]
    congr 1
    unfold Wo.wds
    rw [List.map_map]
    exact e1'

theorem rise_of {l : List (List UInt8)} (h : ∀ i, i < l.length → i = 0 ∨ l.getD (i - 1) [] < l.getD i []) : l.Pairwise (· < ·) := by
  rw [List.pairwise_iff_getElem]
  intro i j hi hj hij
  induction j with
  | zero => omega
  | succ j ih =>
    rcases h (j + 1) hj with h1 | h1
    · omega
    · rw [Nat.add_sub_cancel, List.getD_eq_getElem?_getD, List.getD_eq_getElem?_getD, List.getElem?_eq_getElem (show j < l.length by omega), List.getElem?_eq_getElem hj] at h1
      simp only [Option.getD_some] at h1
      by_cases e : i = j
      · subst e; exact h1
      · exact List.lt_trans (ih (by omega) (by omega)) h1
/-- A device that may be. -/
structure DvGd (d : To.Dv) : Prop where
  ok : DvOk d
  nm : Wo.nameB d.name = true
  cn : ∀ p ∈ d.cls, Wo.nameB p = true
  pn : ∀ p ∈ d.prt, Wo.nameB p = true
  cr : d.cls.Pairwise (· < ·)
  pr : d.prt.Pairwise (· < ·)
theorem nmsB_names {most : Nat} {l : List (List UInt8)} (h : nmsB most l = true) : (∀ p ∈ l, Wo.nameB p = true) ∧ l.Pairwise (· < ·) := by
  unfold nmsB at h
  simp only [Bool.and_eq_true] at h
  have h1 := allN_iff.1 h.1
  constructor
  · intro p hp
    obtain ⟨i, hi⟩ := List.getElem?_of_mem hp
    have := h1 i (List.getElem?_eq_some_iff.1 hi).1
    unfold nmB at this
    simp only [Bool.and_eq_true] at this
    rw [getD_at hi] at this
    exact this.1
  · refine rise_of fun i hi => ?_
    have := h1 i hi
    unfold nmB at this
    simp only [Bool.and_eq_true, Bool.or_eq_true, decide_eq_true_eq] at this
    exact this.2
theorem dvB_gd {ds : List To.Dv} {i : Nat} {d : To.Dv} (hd : ds[i]? = some d) (h : dvB ds i = true) : DvGd d := by
  have h0 := h
  unfold dvB at h
  simp only [Bool.and_eq_true] at h
  rw [getD_at hd] at h
  exact ⟨dvB_ok hd h0, h.1.1.1, (nmsB_names h.1.2).1, (nmsB_names h.2).1, (nmsB_names h.1.2).2, (nmsB_names h.2).2⟩
theorem names_rise {ds : List To.Dv} (h : ∀ i, i < ds.length → dvB ds i = true) : (ds.map (·.name)).Pairwise (· < ·) := by
  refine rise_of fun i hi => ?_
  rw [List.length_map] at hi
  have := h i hi
  unfold dvB at this
  simp only [Bool.and_eq_true, Bool.or_eq_true, decide_eq_true_eq] at this
  rcases this.1.1.2 with q | q
  · exact Or.inl q
  · right
    obtain ⟨x, hx⟩ : ∃ x, ds[i]? = some x := ⟨_, List.getElem?_eq_getElem hi⟩
    obtain ⟨y, hy⟩ : ∃ y, ds[i - 1]? = some y := ⟨_, List.getElem?_eq_getElem (by omega)⟩
    rw [getD_at hx, getD_at hy] at q
    rw [List.getD_eq_getElem?_getD, List.getD_eq_getElem?_getD, List.getElem?_map, List.getElem?_map, hx, hy]
    exact q
theorem rise_nodup {l : List (List UInt8)} (h : l.Pairwise (· < ·)) : l.Nodup := h.imp fun q e => by rw [e] at q; exact List.lt_irrefl _ q

/-- The words of a list. -/
def lsW (k : List UInt8) : List (List UInt8) → List (List UInt8)
  | [] => []
  | a :: r => k :: a :: r.flatMap fun b => [To.comma, b]
theorem mkS_more (k a : List UInt8) (r : List (List UInt8)) : ∀ j, j ≤ r.length → mkS k (a :: r) (j + 1) = k :: a :: (r.take j).flatMap fun b => [To.comma, b] := by
  intro j
  induction j with
  | zero => intro _; rfl
  | succ j ih =>
    intro hj
    obtain ⟨b, hb⟩ : ∃ b, r[j]? = some b := ⟨_, List.getElem?_eq_getElem (by omega)⟩
    rw [mkS, ih (by omega), if_neg (by omega), List.take_add_one, hb, Option.toList, List.flatMap_append]
    have e : (a :: r).getD (j + 1) [] = b := by rw [List.getD_eq_getElem?_getD, List.getElem?_cons_succ, hb]; rfl
    rw [e]
    simp [To.comma]
theorem mkS_lsW (k : List UInt8) (ns : List (List UInt8)) : mkS k ns ns.length = lsW k ns := by
  cases ns with
  | nil => rfl
  | cons a r => rw [List.length_cons, mkS_more k a r r.length (Nat.le_refl _), List.take_length, lsW]
theorem dvW_ls (d : To.Dv) : dvW d = To.deviceT :: d.name :: (lsW To.classT d.cls ++ lsW To.portT d.prt) := by
  unfold dvW
  rw [mkS_lsW, mkS_lsW]
  simp
theorem ins_last {l : List (List UInt8)} {s : List UInt8} (h : ∀ a ∈ l, a < s) : ins l s = l ++ [s] := by
  induction l with
  | nil => rfl
  | cons a t ih =>
    rw [ins, if_neg (fun q => List.lt_irrefl _ (List.lt_trans q (h a (by simp)))), ih (fun b hb => h b (List.mem_cons_of_mem _ hb))]
    rfl
theorem put_last {l : List (List UInt8)} {s : List UInt8} (h : ∀ a ∈ l, a < s) : put l s = l ++ [s] := by
  unfold put
  rw [if_neg (fun q => List.lt_irrefl _ (h s q)), ins_last h]
theorem lst_back (e : Wd) (most : Nat) (r : List (List UInt8)) : ∀ (a : List UInt8) (l : List Wd) (acc rest : List (List UInt8)), l.map (·.1) = a :: (r.flatMap (fun b => [To.comma, b]) ++ rest) → rest.head? ≠ some To.comma → (∀ p ∈ a :: r, Wo.nameB p = true) → (acc ++ a :: r).Pairwise (· < ·) → (acc ++ a :: r).length ≤ most → ∃ l', l'.map (·.1) = rest ∧ To.lst e most l acc = .ok (acc ++ a :: r, l') := by
  induction r with
  | nil =>
    intro a l acc rest hl hr hn hp hm
    have hlt : ∀ b ∈ acc, b < a := fun b hb => (List.pairwise_append.1 hp).2.2 b hb a (by simp)
    simp only [List.length_append, List.length_cons, List.length_nil] at hm
    cases l with
    | nil => cases hl
    | cons w t =>
      simp only [List.map_cons, List.flatMap_nil, List.nil_append, List.cons.injEq] at hl
      obtain ⟨h1, h2⟩ := hl
      refine ⟨t, h2, ?_⟩
      cases t with
      | nil =>
        rw [To.lst, h1, if_neg (by rw [hn a (by simp)]; decide), if_neg (by rintro ⟨_, q⟩; omega), put_last hlt]
      | cons c t' =>
        have hc : ¬ c.1 = To.comma := fun q => hr (by rw [← h2]; simp [q])
        rw [To.lst, h1, if_neg (by rw [hn a (by simp)]; decide), if_neg (by rintro ⟨_, q⟩; omega)]
        show (if c.1 = To.comma then _ else _) = _
        rw [if_neg hc, put_last hlt]
  | cons b r ih =>
    intro a l acc rest hl hr hn hp hm
    have hlt : ∀ b ∈ acc, b < a := fun b hb => (List.pairwise_append.1 hp).2.2 b hb a (by simp)
    match l, hl with
    | w :: c :: t, hl =>
      simp only [List.map_cons, List.flatMap_cons, List.cons_append, List.nil_append, List.cons.injEq] at hl
      obtain ⟨h1, h2, h3⟩ := hl
      obtain ⟨l', g1, g2⟩ := ih b t (acc ++ [a]) rest h3 hr (fun p hq => hn p (List.mem_cons_of_mem _ hq)) (by rw [List.append_assoc]; exact hp) (by rw [List.append_assoc]; exact hm)
      refine ⟨l', g1, ?_⟩
      simp only [List.length_append, List.length_cons] at hm
      rw [To.lst, h1, if_neg (by rw [hn a (by simp)]; decide), if_neg (by rintro ⟨_, q⟩; omega)]
      show (if c.1 = To.comma then _ else _) = _
      rw [if_pos h2, put_last hlt, g2, List.append_assoc]
      rfl
    | [], hl => cases hl
    | [w], hl => simp at hl
theorem opt_back (e : Wd) (he : e.1 = []) (most : Nat) {k : List UInt8} (hk : k ≠ []) (ns rest : List (List UInt8)) (l : List Wd) (hl : l.map (·.1) = lsW k ns ++ rest) (hr : rest.head? ≠ some To.comma) (hr2 : rest.head? ≠ some k) (hn : ∀ p ∈ ns, Wo.nameB p = true) (hp : ns.Pairwise (· < ·)) (hm : ns.length ≤ most) : ∃ l', l'.map (·.1) = rest ∧ To.opt e most k l = .ok (ns, l') := by
  cases ns with
  | nil =>
    refine ⟨l, hl, ?_⟩
    unfold To.opt
    rw [if_neg]
    cases l with
    | nil => rw [Ru.nx_nil, he]; exact fun q => hk q.symm
    | cons w t =>
      rw [Ru.nx_cons]
      intro q
      apply hr2
      rw [show rest = lsW k [] ++ rest from rfl, ← hl]
      simp [q]
  | cons a r =>
    cases l with
    | nil => cases hl
    | cons w t =>
      simp only [lsW, List.map_cons, List.cons_append, List.cons.injEq] at hl
      obtain ⟨h1, h2⟩ := hl
      obtain ⟨l', g1, g2⟩ := lst_back e most r a t [] rest h2 hr hn hp hm
      refine ⟨l', g1, ?_⟩
      unfold To.opt
      rw [Ru.nx_cons, if_pos h1, List.tail_cons, g2]
      rfl
theorem lsW_head (k : List UInt8) (ns : List (List UInt8)) (c : List UInt8) (h : c ≠ k) : (lsW k ns).head? ≠ some c := by
  cases ns with
  | nil => simp [lsW]
  | cons a r => simp [lsW]; exact fun q => h q.symm
theorem dev_back {d : To.Dv} (h : DvGd d) (x e : Wd) (he : e.1 = []) {nms : List (List UInt8)} (hnew : d.name ∉ nms) (hlen : nms.length < 256) {l : List Wd} (hl : l.map (·.1) = d.name :: (lsW To.classT d.cls ++ lsW To.portT d.prt)) : To.dev x e nms l = .ok d := by
  cases l with
  | nil => cases hl
  | cons w t =>
    simp only [List.map_cons, List.cons.injEq] at hl
    obtain ⟨h1, h2⟩ := hl
    obtain ⟨l1, a1, a2⟩ := opt_back e he 16 (by decide) d.cls (lsW To.portT d.prt) t h2 (lsW_head _ _ _ (by decide)) (lsW_head _ _ _ (by decide)) h.cn h.cr h.ok.cn
    obtain ⟨l2, b1, b2⟩ := opt_back e he 64 (k := To.portT) (by decide) d.prt [] l1 (by rw [a1, List.append_nil]) (by simp) (by simp) h.pn h.pr h.ok.pn
    have hl2 : l2 = [] := List.map_eq_nil_iff.1 b1
    unfold To.dev
    rw [Ru.nx_cons, h1, if_neg (by rw [h.nm]; decide), if_neg hnew, List.tail_cons, a2]
    show To.devB x e nms.length d.name d.cls (To.opt e 64 To.portT l1) = _
    rw [b2, hl2]
    unfold To.devB
    simp only [ne_eq, not_true_eq_false, if_false]
    rw [if_neg (by omega)]
theorem end_back {hp : Nat → List UInt8 → Bool} {nms : List (List UInt8)} {ks : List (Nat × List UInt8)} {e w v : Wd} {t : List Wd} {a : Nat} {nm p : List UInt8} (hw : w.1 = nm) (hv : v.1 = p) (h1 : Wo.nameB nm = true) (h2 : nms.idxOf nm = a) (h3 : nm ∈ nms) (h4 : Wo.nameB p = true) (h5 : (a, p) ∉ ks) (h6 : hp a p = true) : endJ hp nms ks e (w :: v :: t) = .ok (a, p) := by
  simp only [endJ, Ru.nx_cons, List.tail_cons, hw, hv, h2]
  rw [if_neg (by rw [h1]; decide), if_neg (by simpa using h3), if_neg (by rw [h4]; decide), if_neg h5, if_neg (by rw [h6]; decide)]
def toLk (x : LkZ) : To.Lk := ⟨x.1.toNat, x.2.1, x.2.2.1.toNat, x.2.2.2⟩
/-- A link of devices, as it may stand behind others. -/
structure LkGd (ds : List To.Dv) (x : LkZ) : Prop where
  a : hasP ds x.1 x.2.1 = true
  b : hasP ds x.2.2.1 x.2.2.2 = true
  lt : ocE x.1 x.2.1 x.2.2.1 x.2.2.2 < 0
theorem hasP_name {ds : List To.Dv} (hg : ∀ d ∈ ds, DvGd d) (hn : (ds.map (·.name)).Nodup) {a : Int} {p : List UInt8} (h : hasP ds a p = true) : ∃ d, ds[a.toNat]? = some d ∧ ds.getD a.toNat dv0 = d ∧ Wo.nameB d.name = true ∧ d.name ∈ ds.map (·.name) ∧ (ds.map (·.name)).idxOf d.name = a.toNat ∧ Wo.nameB p = true ∧ hasP ds (a.toNat : Int) p = true := by
  have h0 := h
  have hb := hasP_bound h
  unfold hasP at h
  rw [if_pos hb.1] at h
  cases hd : ds[a.toNat]? with
  | none => rw [hd] at h; cases h
  | some d =>
    rw [hd] at h
    have hm := List.mem_of_getElem? hd
    refine ⟨d, rfl, getD_at hd, (hg d hm).nm, List.mem_map.2 ⟨d, hm, rfl⟩, ?_, (hg d hm).pn p (List.contains_iff_mem.1 h), by rw [show (a.toNat : Int) = a by omega]; exact h0⟩
    have hi : (ds.map (·.name))[a.toNat]? = some d.name := by rw [List.getElem?_map, hd]; rfl
    obtain ⟨hlt, he⟩ := List.getElem?_eq_some_iff.1 hi
    rw [← he]
    exact hn.idxOf_getElem _ hlt
theorem lnk_back {ds : List To.Dv} (hg : ∀ d ∈ ds, DvGd d) (hn : (ds.map (·.name)).Nodup) {x : LkZ} (hx : LkGd ds x) {ks : List (Nat × List UInt8)} (k1 : (x.1.toNat, x.2.1) ∉ ks) (k2 : (x.2.2.1.toNat, x.2.2.2) ∉ ks ++ [(x.1.toNat, x.2.1)]) (xw e : Wd) {n : Nat} (hn2 : n < 4096) {l : List Wd} (hl : l.map (·.1) = (lkW ds x).tail) : lnkJ (fun p m => hasP ds p m) (ds.map (·.name)) ks xw e n l = .ok ((x.1.toNat, x.2.1), (x.2.2.1.toNat, x.2.2.2)) := by
  obtain ⟨da, _, ea, na1, na2, na3, na4, na5⟩ := hasP_name hg hn hx.a
  obtain ⟨db, _, eb, nb1, nb2, nb3, nb4, nb5⟩ := hasP_name hg hn hx.b
  unfold lkW at hl
  rw [List.tail_cons, ea, eb] at hl
  match l, hl with
  | [w1, w2, w3, w4, w5], hl =>
    simp only [List.map_cons, List.map_nil, List.cons.injEq, and_true] at hl
    obtain ⟨e1, e2, e3, e4, e5⟩ := hl
    unfold lnkJ
    rw [end_back e1 e2 na1 na3 na2 na4 k1 na5, lnkA_ok]
    simp only [List.tail_cons]
    refine (if_neg (show ¬ (Ru.nx e [w3, w4, w5]).1 ≠ arrowT by rw [Ru.nx_cons, e3]; decide)).trans ?_
    rw [end_back e4 e5 nb1 nb3 nb2 nb4 k2 nb5, lnkB_ok]
    refine (if_neg (by simp)).trans ?_
    exact if_neg (by omega)
  | [], hl => simp at hl
  | [_], hl => simp at hl
  | [_, _], hl => simp at hl
  | [_, _, _], hl => simp at hl
  | [_, _, _, _], hl => simp at hl
  | _ :: _ :: _ :: _ :: _ :: _ :: _, hl => simp at hl
theorem jnd_back {x : LkZ} (a0 : 0 ≤ x.1) (b0 : 0 ≤ x.2.2.1) (hx : ocE x.1 x.2.1 x.2.2.1 x.2.2.2 < 0) : jndL (x.1.toNat, x.2.1) (x.2.2.1.toNat, x.2.2.2) = toLk x := by
  unfold jndL toLk
  rw [if_neg]
  intro h
  simp only at h
  rw [show ((x.1.toNat : Nat) : Int) = x.1 by omega, show ((x.2.2.1.toNat : Nat) : Int) = x.2.2.1 by omega] at h
  rcases ocE_lt.1 hx with q | ⟨q1, q2⟩
  · rcases ocE_lt.1 h with r | ⟨r, _⟩ <;> omega
  · rcases ocE_lt.1 h with r | ⟨_, r⟩
    · omega
    · exact List.lt_irrefl _ (List.lt_trans q2 r)
theorem rds_dvs (es : List To.Dv) : ∀ (i : Nat) (s : TSt) (L1 L2 : List (List Wd)), i ≠ 0 → L1.map (fun l => l.map (·.1)) = es.map dvW → (∀ d ∈ es, DvGd d) → ((s.ds ++ es).map (·.name)).Nodup → (s.ds ++ es).length ≤ 256 → rdsT i s (L1 ++ L2) = rdsT (i + es.length) { s with ds := s.ds ++ es } L2 := by
  induction es with
  | nil =>
    intro i s L1 L2 _ hl _ _ _
    rw [List.map_nil, List.map_eq_nil_iff] at hl
    rw [hl, List.append_nil]
    rfl
  | cons d r ih =>
    intro i s L1 L2 hi hl hg hn hlen
    cases L1 with
    | nil => cases hl
    | cons l L =>
      simp only [List.map_cons, List.cons.injEq] at hl
      obtain ⟨h1, h2⟩ := hl
      rw [dvW_ls] at h1
      cases l with
      | nil => cases h1
      | cons x t =>
        simp only [List.map_cons, List.cons.injEq] at h1
        obtain ⟨g1, g2⟩ := h1
        have hnew : d.name ∉ s.nms := by
          rw [List.map_append, List.nodup_append] at hn
          exact fun q => hn.2.2 d.name q d.name (by simp) rfl
        simp only [List.length_append, List.length_cons] at hlen
        have hdev := dev_back (hg d (by simp)) x (Ru.endW (x :: t)) (Ru.endW_text _) hnew (by unfold TSt.nms; rw [List.length_map]; omega) g2
        have e : s.ds ++ d :: r = (s.ds ++ [d]) ++ r := by simp
        rw [List.cons_append, rdsT_cons]
        unfold linT
        rw [g1, if_neg (by decide), if_neg hi, if_pos rfl, hdev]
        show rdsT (i + 1) { s with ds := s.ds ++ [d] } (L ++ L2) = _
        rw [ih (i + 1) { s with ds := s.ds ++ [d] } L L2 (by omega) h2 (fun q hq => hg q (List.mem_cons_of_mem _ hq)) (by rw [e] at hn; exact hn) (by simp only [List.length_append, List.length_cons, List.length_nil]; omega)]
        show rdsT (i + 1 + r.length) { s with ds := (s.ds ++ [d]) ++ r } L2 = _
        rw [e, List.length_cons, show i + 1 + r.length = i + (r.length + 1) by omega]
theorem rds_lks (xs : List LkZ) : ∀ (i : Nat) (s : TSt) (L : List (List Wd)), i ≠ 0 → L.map (fun l => l.map (·.1)) = xs.map (lkW s.ds) → (∀ d ∈ s.ds, DvGd d) → s.nms.Nodup → (∀ x ∈ xs, LkGd s.ds x) → (s.ks ++ keysJ xs).Nodup → s.ls.length + xs.length ≤ 4096 → rdsT i s L = .ok { s with ls := s.ls ++ xs.map toLk, ks := s.ks ++ keysJ xs } := by
  induction xs with
  | nil =>
    intro i s L _ hl _ _ _ _ _
    rw [List.map_nil, List.map_eq_nil_iff] at hl
    rw [hl]
    show Except.ok s = _
    simp [keysJ]
  | cons x r ih =>
    intro i s L hi hl hg hn hx hk hlen
    cases L with
    | nil => cases hl
    | cons l L =>
      simp only [List.map_cons, List.cons.injEq] at hl
      obtain ⟨h1, h2⟩ := hl
      cases l with
      | nil => unfold lkW at h1; cases h1
      | cons w t =>
        have g1 : w.1 = To.linkT := by
          have := congrArg List.head? h1
          simp only [List.map_cons, List.head?_cons, lkW, Option.some.injEq] at this
          exact this
        have g2 : t.map (·.1) = (lkW s.ds x).tail := by rw [← h1]; rfl
        have e0 : keysJ (x :: r) = (x.1.toNat, x.2.1) :: (x.2.2.1.toNat, x.2.2.2) :: keysJ r := rfl
        have e1 : s.ks ++ keysJ (x :: r) = (s.ks ++ [(x.1.toNat, x.2.1)] ++ [(x.2.2.1.toNat, x.2.2.2)]) ++ keysJ r := by rw [e0]; simp
        rw [e1] at hk
        have hk1 := (List.nodup_append.1 hk).1
        have k2 : (x.2.2.1.toNat, x.2.2.2) ∉ s.ks ++ [(x.1.toNat, x.2.1)] := fun q => (List.nodup_append.1 hk1).2.2 _ q _ (by simp) rfl
        have hk2 := (List.nodup_append.1 hk1).1
        have k1 : (x.1.toNat, x.2.1) ∉ s.ks := fun q => (List.nodup_append.1 hk2).2.2 _ q _ (by simp) rfl
        simp only [List.length_cons] at hlen
        have hX := hx x (by simp)
        have hlk := lnk_back hg hn hX k1 k2 w (Ru.endW (w :: t)) (n := s.ls.length) (by omega) g2
        have hj := jnd_back (hasP_bound hX.a).1 (hasP_bound hX.b).1 hX.lt
        rw [rdsT_cons]
        unfold linT
        rw [g1, if_neg (by decide), if_neg hi, if_neg (by decide), if_pos rfl]
        unfold TSt.nms
        rw [hlk]
        show rdsT (i + 1) { s with ls := s.ls ++ [jndL (x.1.toNat, x.2.1) (x.2.2.1.toNat, x.2.2.2)], ks := s.ks ++ [(x.1.toNat, x.2.1)] ++ [(x.2.2.1.toNat, x.2.2.2)] } L = _
        rw [hj, ih (i + 1) { s with ls := s.ls ++ [toLk x], ks := s.ks ++ [(x.1.toNat, x.2.1)] ++ [(x.2.2.1.toNat, x.2.2.2)] } L (by omega) h2 hg hn (fun y hy => hx y (List.mem_cons_of_mem _ hy)) hk (by simp only [List.length_append, List.length_cons, List.length_nil]; omega)]
        simp [keysJ]
theorem keys_nodup {ds : List To.Dv} {ls : List LkZ} (h : ∀ i, i < ls.length → lkB ds ls i = true) : ∀ j, j ≤ ls.length → (keysJ (ls.take j)).Nodup := by
  intro j
  induction j with
  | zero => intro _; rw [List.take_zero]; exact List.nodup_nil
  | succ j ih =>
    intro hj
    obtain ⟨x, hx⟩ : ∃ x, ls[j]? = some x := ⟨_, List.getElem?_eq_getElem (by omega)⟩
    obtain ⟨_, _, _, _, k1, k2⟩ := (lkB_iff hx (fun i hi => h i (by omega))).1 (h j (by omega))
    rw [keysJ_snoc hx, List.nodup_append]
    refine ⟨?_, by simp, ?_⟩
    · rw [List.nodup_append]
      refine ⟨ih (by omega), by simp, fun a ha b hb e => ?_⟩
      rw [List.mem_singleton] at hb
      rw [e, hb] at ha
      exact k1 ha
    · intro a ha b hb e
      rw [List.mem_singleton] at hb
      rw [e, hb] at ha
      exact k2 ha
theorem isW_mk {k : List UInt8} (hk : Wo.isW k = true) {ns : List (List UInt8)} (hn : ∀ p ∈ ns, Wo.nameB p = true) : ∀ l ∈ lsW k ns, Wo.isW l = true := by
  intro l hl
  cases ns with
  | nil => cases hl
  | cons a r =>
    rcases List.mem_cons.1 hl with rfl | hl
    · exact hk
    rcases List.mem_cons.1 hl with rfl | hl
    · exact isW_name (hn _ (by simp))
    obtain ⟨b, hb, hl⟩ := List.mem_flatMap.1 hl
    rcases List.mem_cons.1 hl with rfl | hl
    · decide
    · rw [List.mem_singleton.1 hl]
      exact isW_name (hn _ (List.mem_cons_of_mem _ hb))
theorem isW_dv {d : To.Dv} (h : DvGd d) : ∀ l ∈ dvW d, Wo.isW l = true := by
  intro l hl
  rw [dvW_ls] at hl
  rcases List.mem_cons.1 hl with rfl | hl
  · decide
  rcases List.mem_cons.1 hl with rfl | hl
  · exact isW_name h.nm
  rcases List.mem_append.1 hl with hl | hl
  · exact isW_mk (by decide) h.cn l hl
  · exact isW_mk (by decide) h.pn l hl
theorem isW_lk {ds : List To.Dv} (hg : ∀ d ∈ ds, DvGd d) (hn : (ds.map (·.name)).Nodup) {x : LkZ} (hx : LkGd ds x) : ∀ l ∈ lkW ds x, Wo.isW l = true := by
  obtain ⟨da, _, ea, na1, na2, na3, na4, na5⟩ := hasP_name hg hn hx.a
  obtain ⟨db, _, eb, nb1, nb2, nb3, nb4, nb5⟩ := hasP_name hg hn hx.b
  intro l hl
  unfold lkW at hl
  rw [ea, eb] at hl
  simp only [List.mem_cons, List.not_mem_nil, or_false] at hl
  rcases hl with rfl | rfl | rfl | rfl | rfl | rfl
  · decide
  · exact isW_name na1
  · exact isW_name na4
  · decide
  · exact isW_name nb1
  · exact isW_name nb4
theorem sayS_all {ls : List (List UInt8)} (h : ∀ l ∈ ls, Wo.isW l = true) : sayS ls = Wo.sayL ls := by
  unfold sayS
  rw [if_pos]
  unfold allW
  exact List.all_eq_true.2 h
theorem flat_prW {α : Type} (f : α → List (List UInt8)) (xs : List α) (h : ∀ x ∈ xs, ∀ l ∈ f x, Wo.isW l = true) : (xs.flatMap fun x => sayS (f x) ++ [10]) = prW (xs.map f) := by
  induction xs with
  | nil => rfl
  | cons x r ih =>
    rw [List.flatMap_cons, ih (fun y hy => h y (List.mem_cons_of_mem _ hy)), sayS_all (h x (by simp))]
    simp [prW]
theorem prW_append (a b : List (List (List UInt8))) : prW (a ++ b) = prW a ++ prW b := by simp [prW]
/-- What is printed is parsed as the same topology (P11.5). -/
theorem prsT_back {wd : Int} {ds : List To.Dv} {ls : List LkZ} (h : topB wd ds ls = true) : prsT (tpT wd.toNat ds ls) = .ok ⟨wd.toNat, ds, ls.map toLk, keysJ ls⟩ := by
  have hok := topB_ok h
  unfold topB at h
  simp only [Bool.and_eq_true] at h
  have hdv := allN_iff.1 h.2.1
  have hlk := allN_iff.1 h.2.2
  have hg : ∀ d ∈ ds, DvGd d := fun d hd => by
    obtain ⟨i, hi⟩ := List.getElem?_of_mem hd
    exact dvB_gd hi (hdv i (List.getElem?_eq_some_iff.1 hi).1)
  have hn : (ds.map (·.name)).Nodup := rise_nodup (names_rise hdv)
  have hx : ∀ x ∈ ls, LkGd ds x := fun x hx => by
    obtain ⟨j, hj⟩ := List.getElem?_of_mem hx
    have hlt := (List.getElem?_eq_some_iff.1 hj).1
    obtain ⟨_, q1, q2, q3, _, _⟩ := (lkB_iff hj (fun i hi => hlk i (by omega))).1 (hlk j hlt)
    exact ⟨q1, q2, q3⟩
  have hk : (keysJ ls).Nodup := by
    have := keys_nodup hlk ls.length (Nat.le_refl _)
    rwa [List.take_length] at this
  have hw0 : ∀ l ∈ wdW wd.toNat, Wo.isW l = true := fun l hl => by
    unfold wdW at hl
    simp only [List.mem_cons, List.not_mem_nil, or_false] at hl
    rcases hl with rfl | rfl
    · decide
    · exact isW_digits _
  have htx : tpT wd.toNat ds ls = prW (wdW wd.toNat :: (ds.map dvW ++ ls.map (lkW ds))) := by
    unfold tpT dvsT lksT
    rw [flat_prW dvW ds (fun d hd => isW_dv (hg d hd)), flat_prW (lkW ds) ls (fun x hxm => isW_lk hg hn (hx x hxm)), sayS_all hw0, List.append_assoc, ← prW_append]
    simp [prW]
  obtain ⟨r1, r2⟩ := rd_prW (wdW wd.toNat :: (ds.map dvW ++ ls.map (lkW ds))) 1 (fun x hxm => by
    rcases List.mem_cons.1 hxm with rfl | hxm
    · exact ⟨by simp [wdW], hw0⟩
    rcases List.mem_append.1 hxm with hxm | hxm
    · obtain ⟨d, hd, rfl⟩ := List.mem_map.1 hxm
      exact ⟨by rw [dvW_ls]; simp, isW_dv (hg d hd)⟩
    · obtain ⟨y, hy, rfl⟩ := List.mem_map.1 hxm
      exact ⟨by simp [lkW], isW_lk hg hn (hx y hy)⟩)
  rw [← htx] at r1 r2
  have hrd : Wo.read (tpT wd.toNat ds ls) = (Wo.rd (Wo.lns (tpT wd.toNat ds ls)) 1).1 := by unfold Wo.read; rw [r1]
  unfold prsT
  rw [if_neg (by unfold Wo.err; rw [r1]; simp), hrd]
  generalize (Wo.rd (Wo.lns (tpT wd.toNat ds ls)) 1).1 = L at r2 ⊢
  cases L with
  | nil => cases r2
  | cons l0 L =>
    simp only [List.map_cons, List.cons.injEq] at r2
    obtain ⟨g0, g1⟩ := r2
    obtain ⟨L1, L2, rfl, g2, g3⟩ := List.map_eq_append_iff.1 g1
    match l0, g0 with
    | [w0, w1], g0 =>
      simp only [wdW, List.map_cons, List.map_nil, List.cons.injEq, and_true] at g0
      obtain ⟨e0, e1⟩ := g0
      obtain ⟨n1, n2⟩ := digits_num (n := wd.toNat) (by have := hok.w2; omega)
      have hwid : To.wid (Ru.endW [w0, w1]) [w1] = .ok wd.toNat := by
        unfold To.wid
        simp only [Ru.nx_cons, e1, n2, List.tail_cons]
        rw [if_neg (by unfold Wo.numE; rw [if_pos n1]; simp), if_neg (by have := hok.w1; have := hok.w2; simp; omega), if_neg (by simp)]
      unfold readT
      rw [if_neg (by simp), rdsT_cons]
      unfold linT
      rw [e0, if_pos rfl, if_pos rfl, hwid]
      show (match rdsT 1 ⟨wd.toNat, [], [], []⟩ (L1 ++ L2) with | .error f => (.error f : Except Ft TSt) | .ok s => if s.ds = [] then .error (0, 0, 113) else .ok s) = _
      rw [rds_dvs ds 1 ⟨wd.toNat, [], [], []⟩ L1 L2 (by omega) g2 hg (by simpa using hn) (by simpa using hok.d2)]
      show (match rdsT (1 + ds.length) ⟨wd.toNat, [] ++ ds, [], []⟩ L2 with | .error f => (.error f : Except Ft TSt) | .ok s => if s.ds = [] then .error (0, 0, 113) else .ok s) = _
      rw [List.nil_append, rds_lks ls (1 + ds.length) ⟨wd.toNat, ds, [], []⟩ L2 (by omega) g3 hg hn hx (by simpa using hk) (by simpa using hok.l2)]
      exact if_neg (fun q => by have := hok.d1; rw [show ds = [] from q] at this; simp at this)
    | [], g0 => simp [wdW] at g0
    | [_], g0 => simp [wdW] at g0
    | _ :: _ :: _ :: _, g0 => simp [wdW] at g0
end Bk
end Go.Proofs.YtebaopiedlioiaaGreatDoor
