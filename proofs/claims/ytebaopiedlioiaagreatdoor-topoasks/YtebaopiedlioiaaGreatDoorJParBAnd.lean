/-
  The law TopoEnds: the peer of a port's peer is that port, and devices are next to one another both ways.
  The law's own run: alive.
  The law's own topology: what it is parsed as.
  topo.Parse of any text.
-/
import Derived.Test.YtebaopiedlioiaaGreatDoorJRdIAnd
import Derived.Test.YtebaopiedlioiaaGreatDoorWRefSAnd
import Derived.Test.YtebaopiedlioiaaGreatDoorJDocKAnd
import Derived.Test.YtebaopiedlioiaaGreatDoorJSrtIAnd
namespace Go.Proofs.YtebaopiedlioiaaGreatDoor
open Go.RowKit
open Wo (Wd)

/-- What Parse of a text comes to. -/
def prsT (s : List UInt8) : Except Ru.Ft TSt := if Wo.err s ≠ 0 then .error (Wo.faultL s, Wo.faultC s, Wo.err s) else readT (Wo.read s)
/-- What Parse leaves. -/
def PrsQ (w : World) (s : List UInt8) (en : Ending) (w' : World) : Prop :=
  Below w.heap.size w w' ∧ ((∃ f : Ru.Ft, prsT s = .error f ∧ en = .returned (.tuple #[.agg #[.int .i64 0, .slice none 0 0, .slice none 0 0], .int .i64 f.1, .int .i64 f.2.1, .int .i64 f.2.2])) ∨
    (∃ t vs ds' ls' c1 c2, prsT s = .ok t ∧ TOk t ∧ vs.map (·.1) = t.ds ∧ en = .returned (.tuple #[.agg #[.int .i64 t.wid, c1, c2], .int .i64 0, .int .i64 0, .int .i64 0]) ∧ ds'.Perm vs ∧ ds'.Pairwise (fun a b => ¬ b.1.name < a.1.name) ∧ ls'.Perm (t.ls.map (renL (posF vs ds'))) ∧ ls'.Pairwise (fun a b => ¬ ocE b.a b.p a.a a.p < 0) ∧ DvO w.heap.size w' c1 ds' ∧ w'.ownsRow w.heap.size 83 4 c2 ls'.length (flatL ls')))

/-- What the result holds when Parse is done. -/
theorem par_box {X : World} {N : Nat} {x0 x1 x2 a b c : Value} (ht : X.heap[N]? = some (tobJ x0 x1 x2)) : ∃ V, V = ((X.setCell ⟨N, 0, none⟩ a).setCell ⟨N, 1, none⟩ b).setCell ⟨N, 2, none⟩ c ∧ (V.cell? ⟨N, 0, none⟩ = some a ∧ V.cell? ⟨N, 1, none⟩ = some b ∧ V.cell? ⟨N, 2, none⟩ = some c) ∧ Below N X V ∧ ∀ k, k ≠ N → V.heap[k]? = X.heap[k]? := by
  have vt : (((X.setCell ⟨N, 0, none⟩ a).setCell ⟨N, 1, none⟩ b).setCell ⟨N, 2, none⟩ c).heap[N]? = some (tobJ a b c) := block_set (o := 2) c (block_set (o := 1) b (block_set (o := 0) a ht))
  refine ⟨_, rfl, ⟨by rw [cell_at vt]; rfl, by rw [cell_at vt]; rfl, by rw [cell_at vt]; rfl⟩, ?_, fun k h1 => ?_⟩
  · repeat (refine Below.setCell ?_ (by dsimp only; omega) _)
    exact Below.refl _ _
  · rw [Below.heap_setCell _ _ _ _ h1, Below.heap_setCell _ _ _ _ h1, Below.heap_setCell _ _ _ _ h1]

set_option maxRecDepth 4000 in
set_option maxHeartbeats 1000000 in
theorem oParse_any (s : List UInt8) (w : World) (hs : s.length ≤ 1048576) : Calls Tryz.prog 9 #[.string (tx s)] w fun en w' => PrsQ w s en w' := by
  obtain ⟨W0, hW0⟩ : ∃ W0, W0 = w.alloc (tobJ (.int .i64 0) (.slice none 0 0) (.slice none 0 0)) := ⟨_, rfl⟩
  have hb0 : Below w.heap.size w W0 := by rw [hW0]; exact (Below.refl _ _).alloc (Nat.le_refl _) _
  have ht0 : W0.heap[w.heap.size]? = some (tobJ (.int .i64 0) (.slice none 0 0) (.slice none 0 0)) := by rw [hW0]; exact new_0 _ _
  have HB0 := hid hb0
  have HT0 := hid ht0
  clear hb0 ht0
  have HN := hid (Lines_any s W0 hs)
  by_cases he : Wo.err s = 0
  · have HE := hid he
    have hpr := hid (show prsT s = readT (Wo.read s) by unfold prsT; rw [if_neg (fun q => q he)])
    have hfz : Wo.faultL s = 0 ∧ Wo.faultC s = 0 := by
      unfold Wo.err at he
      unfold Wo.faultL Wo.faultC
      cases h : (Wo.rd (Wo.lns s) 1).2 with
      | none => exact ⟨rfl, rfl⟩
      | some p => rw [h] at he; cases he
    rw [hfz.1, hfz.2, he] at HN
    have HRD := hid (fun (v : Value) (w1 : World) (hL : LinesAt w1 W0.heap.size v (Wo.read s)) => (by
      by_cases h0 : 0 < (Wo.read s).length
      · obtain ⟨g, cap, G, C, rfl, hLs⟩ := lines_forJ hL hs h0
        exact oread_any hLs cap (fun q => by rw [q] at h0; exact absurd h0 (Nat.not_lt_zero _)) (by have := (read_boundsJ s).1; omega)
      · obtain ⟨ao, cap, rfl⟩ := hL.form
        have e0 : Wo.read s = [] := List.length_eq_zero_iff.1 (by omega)
        rw [e0]
        exact oread_none ao cap w1 : Calls Tryz.prog 28 #[v] w1 fun en w' => RdPost w1 (Wo.read s) en w'))
    clear he hfz
    go_enter Tryz.func9, Tryz.ntmps9
    go_wp2_with fail
    rw [← hW0]
    clear hW0
    refine HN.out.mono ?_
    rintro en w1 ⟨v, rfl, HL, hb1⟩
    obtain ⟨ao, cap, rfl⟩ := HL.out.form
    go_wp2_with fail
    refine (HRD.out _ _ HL.out).mono ?_
    rintro en w2 ⟨hb2, ⟨f, hf, rfl⟩ | ⟨t, vs, ds', ls', c1, c2, hr, hok, hof, rfl, p1, p2, p3, p4, hd, hl⟩⟩
    · have HB := hid (hb1.trans (hb2.mono hb1.size))
      have HF := hid (hpr.out.trans hf)
      clear hf hb1 hb2
      obtain ⟨X, hX⟩ : ∃ X, X = (w2.alloc (tobJ (.int .i64 0) (.slice none 0 0) (.slice none 0 0))).alloc (fobJ (.int .i64 f.1) (.int .i64 f.2.1) (.int .i64 f.2.2)) := ⟨_, rfl⟩
      have hN2 : w.heap.size < w2.heap.size := by have := HB.out.size; have := lt_of_block HT0.out; omega
      have bX : Below w2.heap.size w2 X := by rw [hX]; exact ((Below.refl _ _).alloc (Nat.le_refl _) _).alloc (by simp) _
      have hXt : X.heap[w2.heap.size]? = some (tobJ (.int .i64 0) (.slice none 0 0) (.slice none 0 0)) := by rw [hX]; exact new_old _ _ (new_0 _ _)
      have hXf : X.heap[w2.heap.size + 1]? = some (fobJ (.int .i64 f.1) (.int .i64 f.2.1) (.int .i64 f.2.2)) := by rw [hX]; exact new_1 _ _ _
      have hXn : X.heap[w.heap.size]? = some (tobJ (.int .i64 0) (.slice none 0 0) (.slice none 0 0)) := (bX.block _ hN2).trans ((HB.out.block _ (lt_of_block HT0.out)).trans HT0.out)
      have x0 : X.cell? ⟨w2.heap.size, 0, none⟩ = some (.int .i64 0) := by rw [cell_at hXt]; rfl
      have x1 : X.cell? ⟨w2.heap.size, 1, none⟩ = some (.slice none 0 0) := by rw [cell_at hXt]; rfl
      have x2 : X.cell? ⟨w2.heap.size, 2, none⟩ = some (.slice none 0 0) := by rw [cell_at hXt]; rfl
      have y0 : X.cell? ⟨w2.heap.size + 1, 0, none⟩ = some (.int .i64 f.1) := by rw [cell_at hXf]; rfl
      have y1 : X.cell? ⟨w2.heap.size + 1, 1, none⟩ = some (.int .i64 f.2.1) := by rw [cell_at hXf]; rfl
      have y2 : X.cell? ⟨w2.heap.size + 1, 2, none⟩ = some (.int .i64 f.2.2) := by rw [cell_at hXf]; rfl
      have n0 : X.cell? ⟨w.heap.size, 0, none⟩ = some (.int .i64 0) := by rw [cell_at hXn]; rfl
      have n1 : X.cell? ⟨w.heap.size, 1, none⟩ = some (.slice none 0 0) := by rw [cell_at hXn]; rfl
      have n2 : X.cell? ⟨w.heap.size, 2, none⟩ = some (.slice none 0 0) := by rw [cell_at hXn]; rfl
      have m0 : X.frozen? ⟨w.heap.size, 0, none⟩ = false := free_of hXn
      have m1 : X.frozen? ⟨w.heap.size, 1, none⟩ = false := free_of hXn
      have m2 : X.frozen? ⟨w.heap.size, 2, none⟩ = false := free_of hXn
      obtain ⟨V, hV, ⟨v0, v1, v2⟩, bV, vk⟩ := par_box (X := X) (a := .int .i64 0) (b := .slice none 0 0) (c := .slice none 0 0) hXn
      have hne : ¬ w2.heap.size = w.heap.size := by omega
      have hne1 : ¬ w2.heap.size + 1 = w.heap.size := by omega
      have HBV := hid (show Below w.heap.size w V from by
        have h1 := HB0.out
        have h2 := HB.out
        exact ⟨bV.os.trans (bX.os.trans (h2.os.trans h1.os)), bV.tape.trans (bX.tape.trans (h2.tape.trans h1.tape)), bV.output.trans (bX.output.trans (h2.output.trans h1.output)), by have := bV.size; have := bX.size; have := h2.size; have := h1.size; omega, fun k hk => (bV.block k hk).trans ((bX.block k (by omega)).trans ((h2.block k (by have := h1.size; omega)).trans (h1.block k hk)))⟩)
      have SV : V.cell? ⟨w2.heap.size, 0, none⟩ = some (.int .i64 0) ∧ V.cell? ⟨w2.heap.size, 1, none⟩ = some (.slice none 0 0) ∧ V.cell? ⟨w2.heap.size, 2, none⟩ = some (.slice none 0 0) ∧ V.cell? ⟨w2.heap.size + 1, 0, none⟩ = some (.int .i64 f.1) ∧ V.cell? ⟨w2.heap.size + 1, 1, none⟩ = some (.int .i64 f.2.1) ∧ V.cell? ⟨w2.heap.size + 1, 2, none⟩ = some (.int .i64 f.2.2) := by
        have e0 := vk w2.heap.size hne
        have e1 := vk (w2.heap.size + 1) hne1
        exact ⟨(World.cell?_of_block (by exact e0)).trans x0, (World.cell?_of_block (by exact e0)).trans x1, (World.cell?_of_block (by exact e0)).trans x2, (World.cell?_of_block (by exact e1)).trans y0, (World.cell?_of_block (by exact e1)).trans y1, (World.cell?_of_block (by exact e1)).trans y2⟩
      rw [hV] at SV v0 v1 v2 HBV
      clear hXt hXf hXn bX bV vk hV
      go_wp2_with fail
      rw [← hX]
      clear hX
      go_region_held3 (fun W => W.cell? ⟨w2.heap.size, 0, none⟩ = some (.int .i64 0) ∧ W.cell? ⟨w2.heap.size, 1, none⟩ = some (.slice none 0 0) ∧ W.cell? ⟨w2.heap.size, 2, none⟩ = some (.slice none 0 0) ∧ W.cell? ⟨w2.heap.size + 1, 0, none⟩ = some (.int .i64 f.1) ∧ W.cell? ⟨w2.heap.size + 1, 1, none⟩ = some (.int .i64 f.2.1) ∧ W.cell? ⟨w2.heap.size + 1, 2, none⟩ = some (.int .i64 f.2.2)) (first | (go_keep; done) | exact SV) (fail)
      go_wp2
      refine bodyPost_ret (v := .tuple #[.agg #[.int .i64 0, .slice none 0 0, .slice none 0 0], .int .i64 f.1, .int .i64 f.2.1, .int .i64 f.2.2]) (by simp [results, Tryz.results9, go_sem, v0, v1, v2]) rfl ?_
      exact ⟨HBV.out.drew, Or.inl ⟨f, HF.out, rfl⟩⟩
    · obtain ⟨dv, dc, hc1⟩ := own_formJ hd.row
      obtain ⟨lv, lc, hc2⟩ := own_formJ hl
      obtain ⟨dn, hdn⟩ : ∃ dn, ds'.length = dn := ⟨_, rfl⟩
      obtain ⟨lm, hlm⟩ : ∃ lm, ls'.length = lm := ⟨_, rfl⟩
      rw [hdn] at hc1
      rw [hlm] at hc2
      subst hc1 hc2
      have HB := hid (hb1.trans (hb2.mono hb1.size))
      have HB1 := hid hb1
      have HF := hid (hpr.out.trans hr)
      have HX := hid (And.intro hok (And.intro hof (And.intro p1 (And.intro p2 (And.intro p3 (And.intro p4 (And.intro hd hl)))))))
      clear hr hb1 hb2 hok hof p1 p2 p3 p4 hd hl hdn hlm
      obtain ⟨X, hX⟩ : ∃ X, X = (w2.alloc (tobJ (.int .i64 t.wid) (.slice dv dn dc) (.slice lv lm lc))).alloc (fobJ (.int .i64 0) (.int .i64 0) (.int .i64 0)) := ⟨_, rfl⟩
      have hN2 : w.heap.size < w2.heap.size := by have := HB.out.size; have := lt_of_block HT0.out; omega
      have bX : Below w2.heap.size w2 X := by rw [hX]; exact ((Below.refl _ _).alloc (Nat.le_refl _) _).alloc (by simp) _
      have hXt : X.heap[w2.heap.size]? = some (tobJ (.int .i64 t.wid) (.slice dv dn dc) (.slice lv lm lc)) := by rw [hX]; exact new_old _ _ (new_0 _ _)
      have hXf : X.heap[w2.heap.size + 1]? = some (fobJ (.int .i64 0) (.int .i64 0) (.int .i64 0)) := by rw [hX]; exact new_1 _ _ _
      have hXn : X.heap[w.heap.size]? = some (tobJ (.int .i64 0) (.slice none 0 0) (.slice none 0 0)) := (bX.block _ hN2).trans ((HB.out.block _ (lt_of_block HT0.out)).trans HT0.out)
      have x0 : X.cell? ⟨w2.heap.size, 0, none⟩ = some (.int .i64 t.wid) := by rw [cell_at hXt]; rfl
      have x1 : X.cell? ⟨w2.heap.size, 1, none⟩ = some (.slice dv dn dc) := by rw [cell_at hXt]; rfl
      have x2 : X.cell? ⟨w2.heap.size, 2, none⟩ = some (.slice lv lm lc) := by rw [cell_at hXt]; rfl
      have y0 : X.cell? ⟨w2.heap.size + 1, 0, none⟩ = some (.int .i64 0) := by rw [cell_at hXf]; rfl
      have y1 : X.cell? ⟨w2.heap.size + 1, 1, none⟩ = some (.int .i64 0) := by rw [cell_at hXf]; rfl
      have y2 : X.cell? ⟨w2.heap.size + 1, 2, none⟩ = some (.int .i64 0) := by rw [cell_at hXf]; rfl
      have n0 : X.cell? ⟨w.heap.size, 0, none⟩ = some (.int .i64 0) := by rw [cell_at hXn]; rfl
      have n1 : X.cell? ⟨w.heap.size, 1, none⟩ = some (.slice none 0 0) := by rw [cell_at hXn]; rfl
      have n2 : X.cell? ⟨w.heap.size, 2, none⟩ = some (.slice none 0 0) := by rw [cell_at hXn]; rfl
      have m0 : X.frozen? ⟨w.heap.size, 0, none⟩ = false := free_of hXn
      have m1 : X.frozen? ⟨w.heap.size, 1, none⟩ = false := free_of hXn
      have m2 : X.frozen? ⟨w.heap.size, 2, none⟩ = false := free_of hXn
      obtain ⟨V, hV, ⟨v0, v1, v2⟩, bV, vk⟩ := par_box (X := X) (a := .int .i64 t.wid) (b := .slice dv dn dc) (c := .slice lv lm lc) hXn
      have hne : ¬ w2.heap.size = w.heap.size := by omega
      have hne1 : ¬ w2.heap.size + 1 = w.heap.size := by omega
      have HBV := hid (show Below w.heap.size w V from by
        have h1 := HB0.out
        have h2 := HB.out
        exact ⟨bV.os.trans (bX.os.trans (h2.os.trans h1.os)), bV.tape.trans (bX.tape.trans (h2.tape.trans h1.tape)), bV.output.trans (bX.output.trans (h2.output.trans h1.output)), by have := bV.size; have := bX.size; have := h2.size; have := h1.size; omega, fun k hk => (bV.block k hk).trans ((bX.block k (by omega)).trans ((h2.block k (by have := h1.size; omega)).trans (h1.block k hk)))⟩)
      have SV : V.cell? ⟨w2.heap.size, 0, none⟩ = some (.int .i64 t.wid) ∧ V.cell? ⟨w2.heap.size, 1, none⟩ = some (.slice dv dn dc) ∧ V.cell? ⟨w2.heap.size, 2, none⟩ = some (.slice lv lm lc) ∧ V.cell? ⟨w2.heap.size + 1, 0, none⟩ = some (.int .i64 0) ∧ V.cell? ⟨w2.heap.size + 1, 1, none⟩ = some (.int .i64 0) ∧ V.cell? ⟨w2.heap.size + 1, 2, none⟩ = some (.int .i64 0) := by
        have e0 := vk w2.heap.size hne
        have e1 := vk (w2.heap.size + 1) hne1
        exact ⟨(World.cell?_of_block (by exact e0)).trans x0, (World.cell?_of_block (by exact e0)).trans x1, (World.cell?_of_block (by exact e0)).trans x2, (World.cell?_of_block (by exact e1)).trans y0, (World.cell?_of_block (by exact e1)).trans y1, (World.cell?_of_block (by exact e1)).trans y2⟩
      have HFN := hid (show PrsQ w s (.returned (.tuple #[.agg #[.int .i64 t.wid, .slice dv dn dc, .slice lv lm lc], .int .i64 0, .int .i64 0, .int .i64 0])) V.drew from by
        obtain ⟨hok, hof, p1, p2, p3, p4, hd, hl⟩ := HX.out
        have hw1 : w.heap.size < w1.heap.size := by have := HB1.out.size; have := lt_of_block HT0.out; omega
        have hk : ∀ k, w1.heap.size ≤ k → k < w2.heap.size → V.drew.heap[k]? = w2.heap[k]? := fun k h1 h2 => (show V.heap[k]? = _ from (vk k (by omega)).trans (bX.block k h2))
        refine ⟨HBV.out.drew, Or.inr ⟨t, vs, ds', ls', _, _, HF.out, hok, hof, rfl, p1, p2, p3, p4, ⟨?_, fun q hq => ?_, fun q hq => ?_⟩, ?_⟩⟩
        · exact own_sameJ (own_baseJ hd.row (by omega)) fun k q => hk k (hd.row.lt k q).1 (hd.row.lt k q).2
        · have hc := hd.cls q hq
          exact own_sameJ (own_baseJ hc (by omega)) fun k r => hk k (hc.lt k r).1 (hc.lt k r).2
        · have hc := hd.prt q hq
          exact own_sameJ (own_baseJ hc (by omega)) fun k r => hk k (hc.lt k r).1 (hc.lt k r).2
        · exact own_sameJ (own_baseJ hl (by omega)) fun k q => hk k (hl.lt k q).1 (hl.lt k q).2)
      rw [hV] at SV v0 v1 v2 HBV HFN
      clear hXt hXf hXn bX bV vk hV
      go_wp2_with fail
      rw [← hX]
      clear hX
      go_region_held3 (fun W => W.cell? ⟨w2.heap.size, 0, none⟩ = some (.int .i64 t.wid) ∧ W.cell? ⟨w2.heap.size, 1, none⟩ = some (.slice dv dn dc) ∧ W.cell? ⟨w2.heap.size, 2, none⟩ = some (.slice lv lm lc) ∧ W.cell? ⟨w2.heap.size + 1, 0, none⟩ = some (.int .i64 0) ∧ W.cell? ⟨w2.heap.size + 1, 1, none⟩ = some (.int .i64 0) ∧ W.cell? ⟨w2.heap.size + 1, 2, none⟩ = some (.int .i64 0)) (first | (go_keep; done) | exact SV) (fail)
      go_wp2
      refine bodyPost_ret (v := .tuple #[.agg #[.int .i64 t.wid, .slice dv dn dc, .slice lv lm lc], .int .i64 0, .int .i64 0, .int .i64 0]) (by simp [results, Tryz.results9, go_sem, v0, v1, v2]) rfl ?_
      exact HFN.out
  · obtain ⟨hne, herr⟩ : Wo.err s = 30 ∧ prsT s = .error (Wo.faultL s, Wo.faultC s, Wo.err s) := by
      refine ⟨?_, by unfold prsT; rw [if_pos he]⟩
      unfold Wo.err at he ⊢
      split at he
      · exact absurd rfl he
      · rfl
    have HE := hid herr
    rw [hne] at HN HE
    obtain ⟨a, ha⟩ : ∃ a, a = Wo.faultL s := ⟨_, rfl⟩
    obtain ⟨b, hb⟩ : ∃ b, b = Wo.faultC s := ⟨_, rfl⟩
    rw [← ha, ← hb] at HN HE
    clear ha hb herr hne he
    go_enter Tryz.func9, Tryz.ntmps9
    go_wp2_with fail
    rw [← hW0]
    clear hW0
    refine HN.out.mono ?_
    rintro en w1 ⟨v, rfl, HL, hb1⟩
    obtain ⟨ao, cap, rfl⟩ := HL.out.form
    have hXn : w1.heap[w.heap.size]? = some (tobJ (.int .i64 0) (.slice none 0 0) (.slice none 0 0)) := (hb1.block _ (lt_of_block HT0.out)).trans HT0.out
    have n0 : w1.cell? ⟨w.heap.size, 0, none⟩ = some (.int .i64 0) := by rw [cell_at hXn]; rfl
    have n1 : w1.cell? ⟨w.heap.size, 1, none⟩ = some (.slice none 0 0) := by rw [cell_at hXn]; rfl
    have n2 : w1.cell? ⟨w.heap.size, 2, none⟩ = some (.slice none 0 0) := by rw [cell_at hXn]; rfl
    have m0 : w1.frozen? ⟨w.heap.size, 0, none⟩ = false := free_of hXn
    have m1 : w1.frozen? ⟨w.heap.size, 1, none⟩ = false := free_of hXn
    have m2 : w1.frozen? ⟨w.heap.size, 2, none⟩ = false := free_of hXn
    obtain ⟨V, hV, ⟨v0, v1, v2⟩, bV, vk⟩ := par_box (X := w1) (a := .int .i64 0) (b := .slice none 0 0) (c := .slice none 0 0) hXn
    have HBV := hid (show Below w.heap.size w V from by
      have h1 := HB0.out
      have h2 := hb1
      exact ⟨bV.os.trans (h2.os.trans h1.os), bV.tape.trans (h2.tape.trans h1.tape), bV.output.trans (h2.output.trans h1.output), by have := bV.size; have := h2.size; have := h1.size; omega, fun k hk => (bV.block k hk).trans ((h2.block k (by have := h1.size; omega)).trans (h1.block k hk))⟩)
    rw [hV] at v0 v1 v2 HBV
    clear hXn bV vk hb1 hV
    go_wp2
    refine bodyPost_ret (v := .tuple #[.agg #[.int .i64 0, .slice none 0 0, .slice none 0 0], .int .i64 a, .int .i64 b, .int .i64 30]) (by simp [results, Tryz.results9, go_sem, v0, v1, v2]) rfl ?_
    exact ⟨HBV.out, Or.inl ⟨(a, b, 30), HE.out, rfl⟩⟩
end Go.Proofs.YtebaopiedlioiaaGreatDoor
namespace Go.Proofs.YtebaopiedlioiaaGreatDoor
open Go.RowKit
open Wo (Wd)

abbrev kText : List UInt8 := [119, 105, 100, 116, 104, 32, 52, 10, 100, 101, 118, 105, 99, 101, 32, 98, 32, 112, 111, 114, 116, 32, 112, 44, 113, 10, 100, 101, 118, 105, 99, 101, 32, 97, 32, 99, 108, 97, 115, 115, 32, 99, 111, 114, 101, 32, 112, 111, 114, 116, 32, 112, 10, 108, 105, 110, 107, 32, 98, 32, 113, 32, 45, 62, 32, 97, 32, 112, 10]
abbrev kB : To.Dv := ⟨[98], [], [[112], [113]]⟩
abbrev kA : To.Dv := ⟨[97], [[99, 111, 114, 101]], [[112]]⟩
abbrev kSt : TSt := ⟨4, [kB, kA], [⟨0, [113], 1, [112]⟩], [(0, [113]), (1, [112])]⟩
theorem k_prs : prsT kText = .ok kSt := by kernel_rfl
/-- The devices and the link in order. -/
theorem k_order {vs ds' : List (To.Dv × Value × Value)} {ls' : List To.Lk} (hv : vs.map (·.1) = [kB, kA]) (hp : ds'.Perm vs) (hs : ds'.Pairwise (fun a b => ¬ b.1.name < a.1.name)) (hl : ls'.Perm ([⟨0, [113], 1, [112]⟩].map (renL (posF vs ds')))) :
    (∃ a b, ds' = [a, b] ∧ a.1 = kA ∧ b.1 = kB) ∧ ls' = [⟨0, [112], 1, [113]⟩] := by
  obtain ⟨v0, v1, rfl, h0, h1⟩ : ∃ v0 v1, vs = [v0, v1] ∧ v0.1 = kB ∧ v1.1 = kA := by
    rcases vs with _ | ⟨v0, _ | ⟨v1, _ | ⟨v2, r⟩⟩⟩
    · cases hv
    · simp at hv
    · simp only [List.map_cons, List.map_nil, List.cons.injEq, and_true] at hv
      exact ⟨v0, v1, rfl, hv.1, hv.2⟩
    · simp at hv
  have hd : ds' = [v1, v0] := by
    have hlen := hp.length_eq
    rcases ds' with _ | ⟨d0, _ | ⟨d1, _ | ⟨d2, r⟩⟩⟩
    · simp at hlen
    · simp at hlen
    · have m0 : d0 ∈ [v0, v1] := hp.mem_iff.1 (by simp)
      have hs' : ¬ d1.1.name < d0.1.name := by simpa using hs
      rcases List.mem_cons.1 m0 with e | e
      · subst e
        have := hp.cons_inv
        have e1 : d1 = v1 := by simpa using this
        subst e1
        rw [h0, h1] at hs'
        exact absurd (by decide) hs'
      · have e' : d0 = v1 := by simpa using e
        subst e'
        have hp2 : [d0, d1].Perm [d0, v0] := hp.trans (List.Perm.swap _ _ _)
        have e1 : d1 = v0 := by simpa using hp2.cons_inv
        rw [e1]
    · simp at hlen
  subst hd
  refine ⟨⟨v1, v0, rfl, h1, h0⟩, ?_⟩
  have f0 : posF [v0, v1] [v1, v0] 0 = 1 := by
    unfold posF
    simp only [List.map_cons, List.map_nil, h0, h1]
    decide
  have f1 : posF [v0, v1] [v1, v0] 1 = 0 := by
    unfold posF
    simp only [List.map_cons, List.map_nil, h0, h1]
    decide
  have e : renL (posF [v0, v1] [v1, v0]) ⟨0, [113], 1, [112]⟩ = ⟨0, [112], 1, [113]⟩ := by
    unfold renL
    simp only [f0, f1]
    rw [if_pos (by decide)]
  rw [List.map_cons, List.map_nil, e] at hl
  exact List.perm_singleton.1 hl
end Go.Proofs.YtebaopiedlioiaaGreatDoor
namespace Go.Proofs.YtebaopiedlioiaaGreatDoor
open Go.RowKit

theorem lkEqJ (d d' a a' : Int) (m m' p p' : List UInt8) (w : World) : (binOp .eql 83 (.agg #[.int .i64 d, .string (tx m), .int .i64 a, .string (tx p)]) (.agg #[.int .i64 d', .string (tx m'), .int .i64 a', .string (tx p')])).run Tryz.prog w = .ok (.bool (decide (d = d' ∧ m = m' ∧ a = a' ∧ p = p'))) w := by
  have u0 := Tryz.underlying83
  have st : Tryz.prog.stoodInHeld 83 = false := by kernel_rfl
  have a0 := fun w => part_intJ w #[.int .i64 d, .string (tx m), .int .i64 a, .string (tx p)] 0 _ rfl
  have a1 := fun w => part_strJ w #[.int .i64 d, .string (tx m), .int .i64 a, .string (tx p)] 1 _ rfl
  have a2 := fun w => part_intJ w #[.int .i64 d, .string (tx m), .int .i64 a, .string (tx p)] 2 _ rfl
  have a3 := fun w => part_strJ w #[.int .i64 d, .string (tx m), .int .i64 a, .string (tx p)] 3 _ rfl
  have b0 := fun w => part_intJ w #[.int .i64 d', .string (tx m'), .int .i64 a', .string (tx p')] 0 _ rfl
  have b1 := fun w => part_strJ w #[.int .i64 d', .string (tx m'), .int .i64 a', .string (tx p')] 1 _ rfl
  have b2 := fun w => part_intJ w #[.int .i64 d', .string (tx m'), .int .i64 a', .string (tx p')] 2 _ rfl
  have b3 := fun w => part_strJ w #[.int .i64 d', .string (tx m'), .int .i64 a', .string (tx p')] 3 _ rfl
  unfold binOp
  simp only
  unfold Op.equal Op.maxDepth
  rw [Op.equalIn]
  by_cases h1 : d = d'
  · have e1 : (d == d') = true := by rw [h1]; simp
    by_cases h2 : m = m'
    · have e2 : (m == m') = true := by rw [h2]; simp
      by_cases h3 : a = a'
      · have e3 : (a == a') = true := by rw [h3]; simp
        by_cases h4 : p = p'
        · have e4 : (p == p') = true := by rw [h4]; simp
          rw [decide_eq_true ⟨h1, h2, h3, h4⟩]
          clear h1 h2 h3 h4
          simp [run_underlying u0, st, a0, a1, a2, a3, b0, b1, b2, b3, eq_intJ, eq_strJ, e1, e2, e3, e4, Result.andThen]
        · have e4 : (p == p') = false := beq_eq_false_iff_ne.2 h4
          rw [decide_eq_false (fun q => h4 q.2.2.2)]
          clear h1 h2 h3 h4
          simp [run_underlying u0, st, a0, a1, a2, a3, b0, b1, b2, b3, eq_intJ, eq_strJ, e1, e2, e3, e4, Result.andThen]
      · have e3 : (a == a') = false := beq_eq_false_iff_ne.2 h3
        rw [decide_eq_false (fun q => h3 q.2.2.1)]
        clear h1 h2 h3
        simp [run_underlying u0, st, a0, a1, a2, b0, b1, b2, eq_intJ, eq_strJ, e1, e2, e3, Result.andThen]
    · have e2 : (m == m') = false := beq_eq_false_iff_ne.2 h2
      rw [decide_eq_false (fun q => h2 q.2.1)]
      clear h1 h2
      simp [run_underlying u0, st, a0, a1, b0, b1, eq_intJ, eq_strJ, e1, e2, Result.andThen]
  · have e1 : (d == d') = false := beq_eq_false_iff_ne.2 h1
    rw [decide_eq_false (fun q => h1 q.1)]
    clear h1
    simp [run_underlying u0, st, a0, b0, eq_intJ, e1, Result.andThen]

set_option maxRecDepth 20000 in
set_option maxHeartbeats 1000000 in
theorem alive11 (w : World) : Calls Tryz.prog 12 #[] w fun e w' => e = .returned (.bool true) ∧ Below w.heap.size w w' := by
  have hEQ : ∀ w : World, (binOp .eql 83 (.agg #[.int .i64 0, .string (tx [112]), .int .i64 1, .string (tx [113])]) (.agg #[.int .i64 0, .string ⟨#[112]⟩, .int .i64 1, .string ⟨#[113]⟩])).run Tryz.prog w = .ok (.bool true) w := fun w => lkEqJ 0 0 1 1 [112] [112] [113] [113] w
  have HP := hid (oParse_any kText w (by decide))
  go_enter Tryz.func12, Tryz.ntmps12
  go_wp2_with fail
  refine HP.out.mono ?_
  rintro en w1 ⟨hb, ⟨f, hf, _⟩ | ⟨t, vs, ds', ls', c1, c2, hr, hok, hof, rfl, p1, p2, p3, p4, hd, hl⟩⟩
  · rw [k_prs] at hf; cases hf
  · rw [k_prs] at hr
    injection hr with hr
    subst hr
    obtain ⟨⟨a, b, rfl, ha, hbb⟩, rfl⟩ := k_order hof p1 p2 p3
    obtain ⟨g, cp, rfl, hg, hc⟩ := own_some hd.row (by simp)
    obtain ⟨g2, cp2, rfl, hg2, hc2⟩ := own_some hl (by simp)
    have d0 : w1.cell? ⟨g, 0, none⟩ = some (.string (tx [97])) := by
      have := hc 0 _ rfl
      rw [ha] at this
      exact this
    have l0 : w1.cell? ⟨g2, 0, none⟩ = some (.int .i64 0) := hc2 0 _ rfl
    have l1 : w1.cell? ⟨g2, 1, none⟩ = some (.string (tx [112])) := hc2 1 _ rfl
    have l2 : w1.cell? ⟨g2, 2, none⟩ = some (.int .i64 1) := hc2 2 _ rfl
    have l3 : w1.cell? ⟨g2, 3, none⟩ = some (.string (tx [113])) := hc2 3 _ rfl
    have HL := hid (show LkV w1 (.slice (some ⟨g2, 0, none⟩) 1 cp2) [(0, [112], 1, [113])] from ⟨_, _, rfl, Or.inr ⟨g2, 0, rfl, hg2, fun i q hq => by
      rcases i with _ | i
      · have e : q = (0, [112], 1, [113]) := by simpa using hq.symm
        subst e
        exact ⟨l0, l1, l2, l3⟩
      · simp at hq⟩⟩)
    have HB := hid hb
    clear hb hc hc2 hd hl p1 p2 p3 p4 hof hok ha hbb
    simp only [List.length_cons, List.length_nil, Nat.zero_add]
    have hpv : peerV (peerJ 0 [112] [(0, [112], 1, [113])]) = .tuple #[.int .i64 1, .string (tx [113]), .bool true] := rfl
    obtain ⟨W2, hW2⟩ : ∃ W2, W2 = w1.alloc (.cells #[.int .i64 4, .slice (some ⟨g, 0, none⟩) 2 cp, .slice (some ⟨g2, 0, none⟩) 1 cp2] 25) := ⟨_, rfl⟩
    have b2 : Below w1.heap.size w1 W2 := by rw [hW2]; exact (Below.refl _ _).alloc (Nat.le_refl _) _
    have ht : W2.heap[w1.heap.size]? = some (.cells #[.int .i64 4, .slice (some ⟨g, 0, none⟩) 2 cp, .slice (some ⟨g2, 0, none⟩) 1 cp2] 25) := by rw [hW2]; exact new_0 _ _
    have HT := hid ht
    have HB2 := hid b2
    have HPE := hid (oPeer_any (x0 := .int .i64 4) (x1 := .slice (some ⟨g, 0, none⟩) 2 cp) (HL.out.below b2) 0 [112] (fun q hq => by
      have e : q = (0, [112], 1, [113]) := by simpa using hq
      subst e
      exact ⟨by decide, by decide⟩) (by decide))
    rw [hpv] at HPE
    clear b2 ht hpv
    go_wp2_with fail
    rw [← hW2]
    clear hW2
    refine HPE.out.mono ?_
    rintro en w2 ⟨rfl, hb3⟩
    have hs2 : w1.heap.size < W2.heap.size := lt_of_block HT.out
    have hk : ∀ k, k < w1.heap.size → w2.heap[k]? = w1.heap[k]? := fun k q => (hb3.block k (by omega)).trans (HB2.out.block k q)
    have ht2 := (hb3.block _ hs2).trans HT.out
    have t0 : w2.cell? ⟨w1.heap.size, 0, none⟩ = some (.int .i64 4) := by rw [cell_at ht2]; rfl
    have t1 : w2.cell? ⟨w1.heap.size, 1, none⟩ = some (.slice (some ⟨g, 0, none⟩) 2 cp) := by rw [cell_at ht2]; rfl
    have t2 : w2.cell? ⟨w1.heap.size, 2, none⟩ = some (.slice (some ⟨g2, 0, none⟩) 1 cp2) := by rw [cell_at ht2]; rfl
    have e0 := (World.cell?_of_block (a := ⟨g, 0, none⟩) (hk g hg)).trans d0
    have m0 := (World.cell?_of_block (a := ⟨g2, 0, none⟩) (hk g2 hg2)).trans l0
    have m1 := (World.cell?_of_block (a := ⟨g2, 1, none⟩) (hk g2 hg2)).trans l1
    have m2 := (World.cell?_of_block (a := ⟨g2, 2, none⟩) (hk g2 hg2)).trans l2
    have m3 := (World.cell?_of_block (a := ⟨g2, 3, none⟩) (hk g2 hg2)).trans l3
    have HB3 := hid (show Below w.heap.size w w2 from by
      have h1 := HB.out
      have h2 := HB2.out
      exact ⟨hb3.os.trans (h2.os.trans h1.os), hb3.tape.trans (h2.tape.trans h1.tape), hb3.output.trans (h2.output.trans h1.output), by have := hb3.size; have := h1.size; omega, fun i hi => (hk i (by have := h1.size; omega)).trans (h1.block i hi)⟩)
    clear hk ht2 hb3 d0 l0 l1 l2 l3
    go_wp2
    go_ret
    exact ⟨rfl, HB3.out⟩
end Go.Proofs.YtebaopiedlioiaaGreatDoor
namespace Go.Proofs.YtebaopiedlioiaaGreatDoor
open Go.RowKit

theorem NumsV.form {w : World} {v : Value} {zs : List Int} (h : NumsV w v zs) : ∃ ao cap, v = .slice ao zs.length cap ∧ (zs = [] ∨ ∃ g, ao = some ⟨g, 0, none⟩ ∧ g < w.heap.size ∧ ∀ (i : Nat) (z : Int), zs[i]? = some z → w.cell? ⟨g, i, none⟩ = some (.int .i64 z)) := by
  rcases h with ⟨e, rfl⟩ | ⟨g, cap, rfl, h⟩
  · exact ⟨none, 0, by rw [e]; rfl, .inl e⟩
  · exact ⟨_, cap, rfl, .inr ⟨g, rfl, h.lt, fun i z hz => h.cell hz⟩⟩
/-- A topology's box, stored anew. -/
theorem top_box {X : World} {N : Nat} {x0 x1 x2 a b c : Value} (ht : X.heap[N]? = some (topJ x0 x1 x2)) : ∃ V, V = ((X.setCell ⟨N, 0, none⟩ a).setCell ⟨N, 1, none⟩ b).setCell ⟨N, 2, none⟩ c ∧ V.heap[N]? = some (topJ a b c) ∧ Below N X V ∧ (∀ k, k ≠ N → V.heap[k]? = X.heap[k]?) ∧ V.heap.size = X.heap.size := by
  have vt : (((X.setCell ⟨N, 0, none⟩ a).setCell ⟨N, 1, none⟩ b).setCell ⟨N, 2, none⟩ c).heap[N]? = some (topJ a b c) := block_set (o := 2) c (block_set (o := 1) b (block_set (o := 0) a ht))
  refine ⟨_, rfl, vt, ?_, fun k h1 => ?_, by simp⟩
  · repeat (refine Below.setCell ?_ (by dsimp only; omega) _)
    exact Below.refl _ _
  · rw [Below.heap_setCell _ _ _ _ h1, Below.heap_setCell _ _ _ _ h1, Below.heap_setCell _ _ _ _ h1]

set_option maxRecDepth 20000 in
set_option maxHeartbeats 2000000 in
theorem tends_any {w : World} {wd : Int} {dv lv : Option Addr} {N dc M lc : Nat} {ds : List (To.Dv × Value × Value)} {ls : List LkZ} (hD : DvL w (.slice dv N dc) ds) (hL : LkV w (.slice lv M lc) ls) (hN : N ≤ dc) (hM : M ≤ lc) (hz : DvShort ds) (d : Int) (m : List UInt8) :
    Calls Tryz.prog 7 #[.agg #[.int .i64 wd, .slice dv N dc, .slice lv M lc], .int .i64 d, .string (tx m)] w fun e w' => e = .returned (.bool true) ∧ Below w.heap.size w w' := by
  have HAL := hid alive11
  have HFW := hid (fun W => ofew_any (w := W) (wd := wd) hN hM hD.addr hL.addr)
  have HD := hid (hD.take 40)
  have HL := hid (hL.take 40)
  have HZ := hid (hz.take 40)
  obtain ⟨n, hn⟩ : ∃ n, n = min N 40 := ⟨_, rfl⟩
  obtain ⟨k, hk⟩ : ∃ k, k = min M 40 := ⟨_, rfl⟩
  rw [← hn] at HD HFW
  rw [← hk] at HL HFW
  obtain ⟨es, hes⟩ : ∃ es, es = ds.take 40 := ⟨_, rfl⟩
  obtain ⟨js, hjs⟩ : ∃ js, js = ls.take 40 := ⟨_, rfl⟩
  rw [← hes] at HD HZ
  rw [← hjs] at HL
  have hel : es.length ≤ 40 := by rw [hes, List.length_take]; omega
  have hjl : js.length ≤ 40 := by rw [hjs, List.length_take]; omega
  have HCK := hid (fun (W : World) (hb : Below w.heap.size w W) => RCheckT_any (wd := wd) (HD.out.below hb) (HL.out.below hb) HZ.out (Nat.le_trans hel (by decide)) (Nat.le_trans hjl (by decide)))
  have HJL := hid hjl
  clear hD hL hN hM hz hn hk hes hjs hel hjl
  obtain ⟨W0, hW0⟩ : ∃ W0, W0 = w.alloc (topJ (.int .i64 wd) (.slice dv N dc) (.slice lv M lc)) := ⟨_, rfl⟩
  have hb0 : Below w.heap.size w W0 := by rw [hW0]; exact (Below.refl _ _).alloc (Nat.le_refl _) _
  have h0 : W0.heap[w.heap.size]? = some (topJ (.int .i64 wd) (.slice dv N dc) (.slice lv M lc)) := by rw [hW0]; exact new_0 _ _
  have HB0 := hid hb0
  have H0 := hid h0
  clear hb0 h0
  go_enter Tryz.func7, Tryz.ntmps7
  go_wp2_with fail
  rw [← hW0]
  clear hW0
  refine (HFW.out _).mono ?_
  rintro en w1 ⟨rfl, hb1⟩
  have h1 := (hb1.block _ (lt_of_block H0.out)).trans H0.out
  obtain ⟨V, hV, hv0, hvb, hvk, hvs⟩ := top_box (a := .int .i64 wd) (b := .slice dv n dc) (c := .slice lv k lc) h1
  obtain ⟨t0, t1, t2⟩ := topJ_cells hv0
  have HBV := hid (show Below w.heap.size w V from ⟨hvb.os.trans (hb1.os.trans HB0.out.os), hvb.tape.trans (hb1.tape.trans HB0.out.tape), hvb.output.trans (hb1.output.trans HB0.out.output), by have := hb1.size; have := HB0.out.size; omega, fun i hi => by rw [hvk i (by omega), hb1.block i (by have := HB0.out.size; omega), HB0.out.block i hi]⟩)
  have HV0 := hid hv0
  obtain ⟨c0, c1, c2⟩ := topJ_cells h1
  have f0 : w1.frozen? ⟨w.heap.size, 0, none⟩ = false := free_of h1
  have f1 : w1.frozen? ⟨w.heap.size, 1, none⟩ = false := free_of h1
  have f2 : w1.frozen? ⟨w.heap.size, 2, none⟩ = false := free_of h1
  clear hvb hvk hvs hv0 h1 hb1
  obtain ⟨kc, hkc⟩ : ∃ kc, kc = chkT wd (es.map (·.1)) js := ⟨_, rfl⟩
  have HKC := hid hkc
  have HCV := hid (HCK.out V HBV.out)
  rw [← hkc] at HCV
  clear hkc
  go_upto_region 2 with fail
  rw [← hV]
  clear hV c0 c1 c2 f0 f1 f2
  go_wp2_with fail
  refine HCV.out.mono ?_
  rintro en w2 ⟨rfl, hb2⟩
  have HB2 := hid (show Below w.heap.size w w2 from ⟨hb2.os.trans HBV.out.os, hb2.tape.trans HBV.out.tape, hb2.output.trans HBV.out.output, Nat.le_trans HBV.out.size hb2.size, fun i hi => (hb2.block i (by have := HBV.out.size; omega)).trans (HBV.out.block i hi)⟩)
  have HT2 := hid ((hb2.block _ (lt_of_block HV0.out)).trans HV0.out)
  clear hb2 t0 t1 t2
  obtain ⟨t0, t1, t2⟩ := topJ_cells HT2.out
  cases hb : topB wd (es.map (·.1)) js with
  | false =>
    have hkc : kc = 113 := by rw [HKC.out, chkT_bad hb]
    subst hkc
    clear hb
    go_wp2_with fail
    refine (HAL.out _).mono ?_
    rintro en w3 ⟨rfl, hb3⟩
    have HB3 := hid (show Below w.heap.size w w3 from ⟨hb3.os.trans HB2.out.os, hb3.tape.trans HB2.out.tape, hb3.output.trans HB2.out.output, Nat.le_trans HB2.out.size hb3.size, fun i hi => (hb3.block i (by have := HB2.out.size; omega)).trans (HB2.out.block i hi)⟩)
    go_wp2
    go_ret
    exact ⟨rfl, HB3.out⟩
  | true =>
    have hkc : kc = 0 := by rw [HKC.out, chkT_good hb]
    subst hkc
    have HEN := hid (topB_ends hb)
    have HSH := hid (topB_short hb)
    have HPE := hid (fun (W : World) (hb : Below w.heap.size w W) (a : Int) (p : List UInt8) => oPeer_any (x0 := .int .i64 wd) (x1 := .slice dv n dc) (HL.out.below hb) a p HSH.out (Nat.le_trans HJL.out (by decide)))
    clear hb
    cases hp : peerJ d m js with
    | none =>
      have HP1 := hid (HPE.out w2 HB2.out d m)
      rw [hp, show peerV none = .tuple #[.int .i64 0, .string (tx []), .bool false] from rfl] at HP1
      clear hp
      go_wp2_with fail
      refine HP1.out.mono ?_
      rintro en w3 ⟨rfl, hb3⟩
      have HB3 := hid (show Below w.heap.size w w3 from ⟨hb3.os.trans HB2.out.os, hb3.tape.trans HB2.out.tape, hb3.output.trans HB2.out.output, Nat.le_trans HB2.out.size hb3.size, fun i hi => (hb3.block i (by have := HB2.out.size; omega)).trans (HB2.out.block i hi)⟩)
      clear hb3
      go_wp2_with fail
      refine (HAL.out _).mono ?_
      rintro en w4 ⟨rfl, hb4⟩
      have HB4 := hid (show Below w.heap.size w w4 from ⟨hb4.os.trans HB3.out.os, hb4.tape.trans HB3.out.tape, hb4.output.trans HB3.out.output, Nat.le_trans HB3.out.size hb4.size, fun i hi => (hb4.block i (by have := HB3.out.size; omega)).trans (HB3.out.block i hi)⟩)
      go_wp2
      go_ret
      exact ⟨rfl, HB4.out⟩
    | some bq =>
      obtain ⟨b, q⟩ := bq
      have HP1 := hid (HPE.out w2 HB2.out d m)
      rw [hp, show peerV (some (b, q)) = .tuple #[.int .i64 b, .string (tx q), .bool true] from rfl] at HP1
      obtain ⟨hback, x, hx, hxx⟩ := peer_peer HEN.out hp
      have HBK := hid hback
      have HMEM := hid (near_mem hx (show (x.1 = d ∧ x.2.2.1 = b) ∨ (x.2.2.1 = d ∧ x.1 = b) from hxx))
      clear hp hback hx hxx
      go_wp2_with fail
      refine HP1.out.mono ?_
      rintro en w3 ⟨rfl, hb3⟩
      have HB3 := hid (show Below w.heap.size w w3 from ⟨hb3.os.trans HB2.out.os, hb3.tape.trans HB2.out.tape, hb3.output.trans HB2.out.output, Nat.le_trans HB2.out.size hb3.size, fun i hi => (hb3.block i (by have := HB2.out.size; omega)).trans (HB2.out.block i hi)⟩)
      have HT3 := hid ((hb3.block _ (lt_of_block HT2.out)).trans HT2.out)
      clear hb3 t0 t1 t2
      obtain ⟨t0, t1, t2⟩ := topJ_cells HT3.out
      have HP2 := hid (HPE.out w3 HB3.out b q)
      rw [HBK.out, show peerV (some (d, m)) = .tuple #[.int .i64 d, .string (tx m), .bool true] from rfl] at HP2
      go_wp2_with fail
      refine HP2.out.mono ?_
      rintro en w4 ⟨rfl, hb4⟩
      have HB4 := hid (show Below w.heap.size w w4 from ⟨hb4.os.trans HB3.out.os, hb4.tape.trans HB3.out.tape, hb4.output.trans HB3.out.output, Nat.le_trans HB3.out.size hb4.size, fun i hi => (hb4.block i (by have := HB3.out.size; omega)).trans (HB3.out.block i hi)⟩)
      have HT4 := hid ((hb4.block _ (lt_of_block HT3.out)).trans HT3.out)
      clear hb4 t0 t1 t2
      obtain ⟨t0, t1, t2⟩ := topJ_cells HT4.out
      have HNR := hid (oNear_any (x0 := .int .i64 wd) (x1 := .slice dv n dc) (HL.out.below HB4.out) b (Nat.le_trans HJL.out (by decide)))
      go_wp2_with fail
      refine HNR.out.mono ?_
      rintro en w5 ⟨⟨v, rfl, hv⟩, hb5⟩
      have HB5 := hid (show Below w.heap.size w w5 from ⟨hb5.os.trans HB4.out.os, hb5.tape.trans HB4.out.tape, hb5.output.trans HB4.out.output, Nat.le_trans HB4.out.size hb5.size, fun i hi => (hb5.block i (by have := HB4.out.size; omega)).trans (HB4.out.block i hi)⟩)
      clear hb5 t0 t1 t2
      obtain ⟨ao, cp, rfl, hcell⟩ := hv.form
      obtain ⟨L, hL⟩ : ∃ L, L = (nearS b js).length := ⟨_, rfl⟩
      rw [← hL]
      have HLL := hid hL
      have HCL := hid hcell
      have hL63 : L ≤ 80 := by have := nearS_len b js; have := HJL.out; omega
      clear hL hcell hv
      go_wp2_with fail
      go_loopw [14] (fun i wr => ∃ j : Nat, j ≤ L ∧ i = .int .i64 j ∧ Hid (∀ (i : Nat) (z : Int), i < j → (nearS b js)[i]? = some z → ¬ z = d) ∧ Hid (wr = w5)) (fun i _ => L - (intOf i).toNat)
      case atStart => exact ⟨0, Nat.zero_le _, rfl, hid fun i z h => absurd h (Nat.not_lt_zero _), hid rfl⟩
      case round =>
        obtain ⟨j, hj, rfl, hA, hW⟩ := hrel
        obtain rfl := hW.out
        by_cases hlt : j < L
        · obtain ⟨z, hz⟩ : ∃ z, (nearS b js)[j]? = some z := ⟨_, List.getElem?_eq_getElem (by have := HLL.out; omega)⟩
          obtain ⟨g, rfl, hg, hc⟩ := HCL.out.resolve_left (fun e => by rw [e] at hz; simp at hz)
          have y0 := hc j z hz
          have jI : (j : Int) < (L : Int) := by omega
          have j0 : (0 : Int) ≤ (j : Int) := by omega
          have HZJ := hid hz
          clear hc hz
          by_cases he : z = d
          · subst he
            go_wp2_with fail
            refine (HAL.out _).mono ?_
            rintro en w6 ⟨rfl, hb6⟩
            have HB6 := hid (show Below w.heap.size w w6 from ⟨hb6.os.trans HB5.out.os, hb6.tape.trans HB5.out.tape, hb6.output.trans HB5.out.output, Nat.le_trans HB5.out.size hb6.size, fun i hi => (hb6.block i (by have := HB5.out.size; omega)).trans (HB5.out.block i hi)⟩)
            go_wp2
            go_ret
            exact ⟨rfl, HB6.out⟩
          · have he2 : (z == d) = false := by rw [beq_eq_false_iff_ne]; exact he
            have HA2 := hid (show ∀ (i : Nat) (z : Int), i < j + 1 → (nearS b js)[i]? = some z → ¬ z = d from fun i y hi hy => by
              by_cases e : i = j
              · rw [e, HZJ.out] at hy
                injection hy with hy
                rw [← hy]; exact he
              · exact hA.out i y (by omega) hy)
            clear he
            go_wp2
            go_roundw
            case rel => exact ⟨j + 1, by omega, by go_num, HA2, hid trivial⟩
            case measure => simp [intOf]; omega
        · exfalso
          obtain ⟨i, hi⟩ := List.getElem?_of_mem HMEM.out
          exact hA.out i d (by have := (List.getElem?_eq_some_iff.1 hi).1; have := HLL.out; omega) hi rfl
end Go.Proofs.YtebaopiedlioiaaGreatDoor
