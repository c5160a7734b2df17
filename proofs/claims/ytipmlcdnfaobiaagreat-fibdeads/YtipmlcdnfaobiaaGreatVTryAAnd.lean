/-
  Meets, Lookup, Len of a table.
  cube.Every, cube.Has of a header and a table's rule; the rule that a header meets.
  A table: New, made, Do, Len, Width.
  try, walked.
-/
import Derived.Test.YtipmlcdnfaobiaaGreatVInsDAnd
import Derived.Deep.RegionHeld3
import Derived.LaidEqlPtr
import Derived.BigQuiet
import Derived.Test.YtipmlcdnfaobiaaGreatRLay
import Derived.Test.YtipmlcdnfaobiaaGreatLMeetsAnd
import Derived.Lib.Agree
namespace Go.Proofs.YtipmlcdnfaobiaaGreat
open Go.RowKit

theorem caughtT_not (r : Addr) (w : World) :
    CallsD Tryz.prog 48 #[.pointer (some r)] .returning w fun x u' w' => x = .returned (.tuple #[]) ∧ u' = .returning ∧ w' = w := by
  refine callsD_of_wpS Tryz.func48 rfl fun c₀ cs hu => ?_
  apply wpS_seq
  apply wpS_region
  simp [wpOpsS, go_sem, recoverD, hu, Tryz.ntmps48, Exit.thenS]
  refine wpS_cond (t := false) (by simp [Act.eval, Array.replicate]) ?_
  simp only [Bool.false_eq_true, if_false]
  refine wpS_of_wp (wp_skip ?_)
  cases c₀
  simp_all [bodyPostS, results, Tryz.results48]
theorem caughtT (D : Nat) (W num er pv : Int) (v u : Value) (w : World) (h : w.heap[D]? = some (tob W v num er u)) :
    CallsD Tryz.prog 48 #[.pointer (some ⟨D, 0, none⟩)] (.panicking (panE pv)) w fun e u' w' =>
      e = .returned (.tuple #[]) ∧ u' = .panicking [{ v := .iface 33 (.int .i64 pv), recovered := true }] ∧
      w' = ((((w.setCell ⟨D, 0, none⟩ (.int .i64 0)).setCell ⟨D, 1, none⟩ (.slice none 0 0)).setCell ⟨D, 2, none⟩ (.int .i64 num)).setCell ⟨D, 3, none⟩ (.int .i64 er)).setCell ⟨D, 4, none⟩ (.slice none 0 0) := by
  have a0 := cell_at (o := 0) h
  have a1 := cell_at (o := 1) h
  have a2 := cell_at (o := 2) h
  have a3 := cell_at (o := 3) h
  have a4 := cell_at (o := 4) h
  simp only [List.getElem?_toArray, List.getElem?_cons_succ, List.getElem?_cons_zero] at a0 a1 a2 a3 a4
  have f0 := free_of (o := 0) h
  have f1 := free_of (o := 1) h
  have f2 := free_of (o := 2) h
  have f3 := free_of (o := 3) h
  have f4 := free_of (o := 4) h
  refine callsD_of_wpS Tryz.func48 rfl fun c₀ cs hu => ?_
  apply wpS_seq
  apply wpS_region
  simp [wpOpsS, go_sem, recoverD, hu, Tryz.ntmps48, Exit.thenS]
  refine wpS_cond (t := true) (by simp [Act.eval, Array.replicate]) ?_
  simp only [if_true]
  apply wpS_region
  simp [wpOpsS, go_sem, a0, a1, a2, a3, a4, f0, f1, f2, f3, f4, bodyPostS, results, Tryz.results48]
abbrev tdef (D : Nat) : Deferred := { target := Target.fn (Fn.func 48) #[.pointer (some ⟨D, 0, none⟩)], args := #[] }
theorem tleave {w w' : World} {Bp : Nat} {W : Int} {L : List Raw} {cs : List (Int × Raw)} {tmps : Array Value} {q er : Int} {i : Nat} (h4 : tmps[4]? = some (.pointer (some ⟨w.heap.size, 0, none⟩))) (hb : Below w.heap.size w w') (hn : TrNo w' w.heap.size i er) (hr : runN W L cs 0 = .error (i, er)) (h0 : er ≠ 0) :
    Leaves Tryz.prog Tryz.f33 tmps (fun en w' => TryPost w Bp W L cs en w') [tdef w.heap.size] (.panicking (panE q)) w' := by
  obtain ⟨W0, v, u, hB⟩ := hn
  refine leaves_cons (f := 48) (args := #[.pointer (some ⟨w.heap.size, 0, none⟩)]) (by simp) (by simp [go_sem]) ?_
  refine (caughtT w.heap.size W0 i er q v u w' hB).mono ?_
  rintro e u' w'' ⟨rfl, rfl, rfl⟩
  have k1 := block_set (o := 4) (.slice none 0 0) (block_set (o := 3) (.int .i64 er) (block_set (o := 2) (.int .i64 (i : Int)) (block_set (o := 1) (.slice none 0 0) (block_set (o := 0) (.int .i64 0) hB))))
  obtain ⟨X, hX⟩ : ∃ X, X = ((((w'.setCell ⟨w.heap.size, 0, none⟩ (.int .i64 0)).setCell ⟨w.heap.size, 1, none⟩ (.slice none 0 0)).setCell ⟨w.heap.size, 2, none⟩ (.int .i64 (i : Int))).setCell ⟨w.heap.size, 3, none⟩ (.int .i64 er)).setCell ⟨w.heap.size, 4, none⟩ (.slice none 0 0) := ⟨_, rfl⟩
  have hbX : Below w.heap.size w X := by rw [hX]; exact ((((hb.setCell (by simp) _).setCell (by simp) _).setCell (by simp) _).setCell (by simp) _).setCell (by simp) _
  rw [← hX] at k1 ⊢
  have q0 : X.cell? ⟨w.heap.size, 0, none⟩ = some (.int .i64 0) := by rw [cell_at k1]; rfl
  have q1 : X.cell? ⟨w.heap.size, 1, none⟩ = some (.slice none 0 0) := by rw [cell_at k1]; rfl
  have q2 : X.cell? ⟨w.heap.size, 2, none⟩ = some (.int .i64 (i : Int)) := by rw [cell_at k1]; rfl
  have q3 : X.cell? ⟨w.heap.size, 3, none⟩ = some (.int .i64 er) := by rw [cell_at k1]; rfl
  have q4 : X.cell? ⟨w.heap.size, 4, none⟩ = some (.slice none 0 0) := by rw [cell_at k1]; rfl
  refine ⟨tv 0 (.slice none 0 0) i er (.slice none 0 0), ?_, hbX, Or.inr ⟨i, er, hr, h0, rfl⟩⟩
  simp [results, Tryz.results33, go_sem, h4, q0, q1, q2, q3, q4]
theorem step_err {W : Int} {L : List Raw} {k : Int} {r : Raw} {e : Int} (h : stepN W L k r = .error e) : e ≠ 0 := by
  unfold stepN at h
  repeat' (split at h)
  all_goals (first | (cases h; assumption) | (cases h; decide) | cases h)
/-- Where try stands: so many changes are done. -/
structure TryAt (w : World) (Bp : Nat) (W : Int) (L : List Raw) (cs : List (Int × Raw)) (j : Nat) (wr : World) (num : Int) (v vu : Value) (ps : List (Raw × Value)) (us : List (Int × Raw × Value)) : Prop where
  tr : TrAt wr w.heap.size Bp w.heap.size W num v vu ps us
  run : runN W L (cs.take j) 0 = .ok (ps.map Prod.fst)
  und : us.map (fun u => (u.1, u.2.1)) = undosN W L (cs.take j)
  len : us.length = j
  low : Below w.heap.size w wr

/-- Changes that came in: none, or from an address on. -/
def ChIn (w : World) (ao : Option Addr) (cs : List (Int × Raw × Value)) : Prop := cs = [] ∨ ∃ g o, ao = some ⟨g, o, none⟩ ∧ ChView w g o cs

set_option maxRecDepth 20000 in
set_option maxHeartbeats 4000000 in
theorem try_any {w : World} {Bp tb n cap : Nat} {ao : Option Addr} {W : Int} {v : Value} {ps : List (Raw × Value)} {cs : List (Int × Raw × Value)} (h : TabAt w Bp tb W v ps) (hBp : Bp ≤ w.heap.size) (hc : ChIn w ao cs) (hn : cs.length = n) (h64 : n * 64 ≤ 140737488355328) :
    Calls Tryz.prog 33 #[.pointer (some ⟨tb, 0, none⟩), .slice ao n cap] w fun e w' => TryPost w Bp W (ps.map Prod.fst) (chs cs) e w' := by
  have hmf : ∀ (fn : Fn) (first cap : Array Value) (w : World), (Instr.makeFunc fn first cap).run Tryz.prog w = .ok (.func fn first cap) w := fun _ _ _ _ => rfl
  have H := hid h
  have HC := hid hc
  have HN := hid hn
  have htb : tb < w.heap.size := lt_of_block h.blk
  obtain ⟨W0, hW0⟩ : ∃ W0, W0 = w.alloc (tob 0 (.slice none 0 0) 0 0 (.slice none 0 0)) := ⟨_, rfl⟩
  have HB0 := hid (show Below w.heap.size w W0 by rw [hW0]; exact (Below.refl _ _).alloc (Nat.le_refl _) _)
  have HD0 := hid (show W0.heap[w.heap.size]? = some (tob 0 (.slice none 0 0) 0 0 (.slice none 0 0)) by rw [hW0]; exact new_0 _ _)
  have t0 : W0.cell? ⟨tb, 0, none⟩ = some (.int .i64 W) := by rw [HB0.out.cell (by exact htb), cell_at h.blk]; rfl
  have t1 : W0.cell? ⟨tb, 1, none⟩ = some v := by rw [HB0.out.cell (by exact htb), cell_at h.blk]; rfl
  obtain ⟨lo, lc, hv, _⟩ := h.list.form
  have HCL := hid (fun (X : World) (hX : Below W0.heap.size W0 X) => (Clone_rules (h.list.on (below_2 HB0.out hX)) (by have := h.good.few; simpa using this)).mono (R' := fun e w' => ∃ ao2 n2 c2, e = .returned (.slice ao2 n2 c2) ∧ (w'.cell? ⟨tb, 0, none⟩ = some (.int .i64 W) ∧ w'.cell? ⟨tb, 1, none⟩ = some v) ∧ (((w'.setCell ⟨w.heap.size, 0, none⟩ (.int .i64 W)).setCell ⟨w.heap.size, 1, none⟩ (.slice ao2 n2 c2)).cell? ⟨tb, 0, none⟩ = some (.int .i64 W) ∧ ((w'.setCell ⟨w.heap.size, 0, none⟩ (.int .i64 W)).setCell ⟨w.heap.size, 1, none⟩ (.slice ao2 n2 c2)).cell? ⟨tb, 1, none⟩ = some v) ∧ (∃ z0, w'.cell? ⟨w.heap.size, 0, none⟩ = some z0) ∧ (∃ z1, w'.cell? ⟨w.heap.size, 1, none⟩ = some z1) ∧ w'.frozen? ⟨w.heap.size, 0, none⟩ = false ∧ w'.frozen? ⟨w.heap.size, 1, none⟩ = false ∧ Hid (TryAt w Bp W (ps.map Prod.fst) (chs cs) 0 ((w'.setCell ⟨w.heap.size, 0, none⟩ (.int .i64 W)).setCell ⟨w.heap.size, 1, none⟩ (.slice ao2 n2 c2)) 0 (.slice ao2 n2 c2) (.slice none 0 0) ps [])) fun e w' hq => by
    obtain ⟨v', rfl, ⟨ao2, n2, c2, rfl⟩, h1, h2⟩ := hq
    have hb : Below W0.heap.size W0 w' := below_2 hX h2
    have hD := below_block hb HD0.out (lt_of_block HD0.out)
    have hD2 := block_set (o := 1) (.slice ao2 n2 c2) (block_set (o := 0) (.int .i64 W) hD)
    have hbw : Below w.heap.size w w' := below_2 HB0.out hb
    have s0 := (hb.cell (p := ⟨tb, 0, none⟩) (by exact Nat.lt_of_lt_of_le htb HB0.out.size)).trans t0
    have s1 := (hb.cell (p := ⟨tb, 1, none⟩) (by exact Nat.lt_of_lt_of_le htb HB0.out.size)).trans t1
    have hne : tb ≠ w.heap.size := by omega
    have key : ∀ o, ((w'.setCell ⟨w.heap.size, 0, none⟩ (.int .i64 W)).setCell ⟨w.heap.size, 1, none⟩ (.slice ao2 n2 c2)).cell? ⟨tb, o, none⟩ = w'.cell? ⟨tb, o, none⟩ := fun o => World.cell?_of_block ((Below.heap_setCell _ _ _ _ (by show tb ≠ w.heap.size; exact hne)).trans (Below.heap_setCell _ _ _ _ (by show tb ≠ w.heap.size; exact hne)))
    refine ⟨ao2, n2, c2, rfl, ⟨s0, s1⟩, ⟨(key 0).trans s0, (key 1).trans s1⟩, ⟨_, by rw [cell_at hD]; rfl⟩, ⟨_, by rw [cell_at hD]; rfl⟩, free_of hD, free_of hD, ⟨⟨hD2, Nat.le_refl _, ?_, fun q hq => ?_, World.ownsRow_nil _ _ _ _, fun u hu => by cases hu⟩, rfl, rfl, rfl, (hbw.setCell (Nat.le_refl _) _).setCell (Nat.le_refl _) _⟩⟩
    · have hle : w.heap.size ≤ X.heap.size := Nat.le_trans HB0.out.size hX.size
      have h1' : OwnR w' w.heap.size (.slice ao2 n2 c2) ps := ⟨⟨h1.own.1, by
        rcases h1.own.2 with q | ⟨g, cp, cur, e, hB', r⟩
        · exact Or.inl q
        · exact Or.inr ⟨g, cp, cur, e, Nat.le_trans hle hB', r⟩⟩, h1.vals⟩
      exact ownR_store (ownR_store h1' hD) (block_set (o := 0) _ hD)
    · exact (((H.out.ports q hq).on hbw).storeD hD).storeD (block_set (o := 0) _ hD))
  subst hv
  subst hW0
  clear h hc hn
  go_enter_defers Tryz.func33, Tryz.ntmps33
  go_wp2_with fail
  go_region_held3 (fun W' => W'.cell? ⟨tb, 0, none⟩ = some (.int .i64 W) ∧ W'.cell? ⟨tb, 1, none⟩ = some (.slice lo ps.length lc)) (first | exact ⟨t0, t1⟩ | exact hS2 | exact hS3) (first | (go_at_call 47; refine (HCL.out _ (by first | exact Below.refl _ _ | exact (Below.refl _ _).drew)).mono ?_; rintro en w2 ⟨ao2, n2, c2, rfl, hS2, hS3, ⟨z0, g0⟩, ⟨z1, g1⟩, g2, g3, hT⟩; have HT2 := hid hT.out; clear hT))
  clear t0 t1 hS2 hS3 g0 g1 g2 g3
  go_wp2_with fail
  go_loopw [21, 5, 6] (fun vi _ _ wr => ∃ (j : Nat) (num : Int) (v vu : Value) (qs : List (Raw × Value)) (us : List (Int × Raw × Value)), j ≤ n ∧ vi = .int .i64 j ∧ Hid (TryAt w Bp W (ps.map Prod.fst) (chs cs) j wr num v vu qs us)) (fun vi _ _ _ => n - (intOf vi).toNat)
  case atStart => exact ⟨0, 0, _, _, _, _, Nat.zero_le _, rfl, HT2⟩
  case round =>
    obtain ⟨j, num, v1, vu1, qs, us, hj, rfl, J⟩ := hrel
    obtain ⟨d0, d1, d2, d3, d4⟩ := J.out.tr.cells
    have HGD := hid (H.out.good.run J.out.run)
    by_cases hlt : j < n
    · obtain ⟨u, hu⟩ : ∃ u, cs[j]? = some u := ⟨cs[j]'(by rw [HN.out]; exact hlt), List.getElem?_eq_getElem _⟩
      obtain ⟨g, o, hao, hV⟩ : ∃ g o, ao = some ⟨g, o, none⟩ ∧ ChView w g o cs := by
        rcases HC.out with q | q
        · rw [q] at hu; simp at hu
        · exact q
      subst hao
      have hgw := hV.old
      have HU := hid hu
      obtain ⟨e0, e1, e2, e3, e4⟩ := hV.cell j u hu
      have hpo := hV.ports u (List.mem_of_getElem? hu)
      have cc : ∀ (x : Nat) (y : Value), w.cell? ⟨g, x, none⟩ = some y → wr.cell? ⟨g, x, none⟩ = some y := fun x y hx => (J.out.low.cell (by exact hgw)).trans hx
      have e0 := cc _ _ e0
      have e1 := cc _ _ e1
      have e2 := cc _ _ e2
      have e3 := cc _ _ e3
      have e4 := cc _ _ e4
      have HPO := hid hpo
      obtain ⟨uk, ⟨up, um, ukk, uz⟩, uv⟩ := u
      simp only at e0 e1 e2 e3 e4 hpo HPO
      obtain ⟨⟨po, pc, huv, _⟩, _⟩ := hpo
      subst huv
      have fD : wr.frozen? ⟨w.heap.size, 2, none⟩ = false := free_of J.out.tr.blk
      have i0 : (0 : Int) ≤ (j : Int) := by omega
      have i1 : (j : Int) < (n : Int) := by omega
      obtain ⟨zn, hzn⟩ : ∃ zn, zn = uz.length := ⟨_, rfl⟩
      have HZN := hid hzn
      rw [← hzn] at e4 HPO
      obtain ⟨X, hX⟩ : ∃ X, X = (wr.alloc (cob uk up (tx um) ukk (.slice po zn pc))).setCell ⟨w.heap.size, 2, none⟩ (.int .i64 (j : Int)) := ⟨_, rfl⟩
      have hXn : X.heap[wr.heap.size]? = some (cob uk up (tx um) ukk (.slice po zn pc)) := by
        rw [hX]
        exact block_other _ (new_0 _ _) (by have := lt_of_block J.out.tr.blk; omega)
      have x0 : X.cell? ⟨wr.heap.size, 0, none⟩ = some (.int .i64 uk) := by rw [cell_at hXn]; rfl
      have x1 : X.cell? ⟨wr.heap.size, 1, none⟩ = some (.int .i64 up) := by rw [cell_at hXn]; rfl
      have x2 : X.cell? ⟨wr.heap.size, 2, none⟩ = some (.string (tx um)) := by rw [cell_at hXn]; rfl
      have x3 : X.cell? ⟨wr.heap.size, 3, none⟩ = some (.int .i64 ukk) := by rw [cell_at hXn]; rfl
      have x4 : X.cell? ⟨wr.heap.size, 4, none⟩ = some (.slice po zn pc) := by rw [cell_at hXn]; rfl
      have HLX := hid (show Below w.heap.size w X by rw [hX]; exact (J.out.low.alloc J.out.low.size _).setCell (Nat.le_refl _) _)
      have HTX := hid (show TrAt X w.heap.size Bp w.heap.size W (j : Int) v1 vu1 qs us from by
        have h0 := J.out.tr.on ((Below.refl _ _).alloc (Nat.le_refl _) (cob uk up (tx um) ukk (.slice po zn pc)))
        rw [hX]
        exact ⟨by rw [block_set (o := 2) _ h0.blk]; rfl, h0.base, ownR_store h0.list h0.blk, fun q hq => (h0.ports q hq).storeD h0.blk, ownC_store h0.und h0.blk, fun u hu => (h0.uports u hu).storeD h0.blk⟩)
      have HDO := hid (ldo_any (c := uk) (p := up) (k := ukk) (m := um) (zs := uz) (rv := .slice po zn pc) HTX.out HLX.out.size (Nat.le_trans hBp HLX.out.size) HGD.out HPO.out.2 (by rw [J.out.len]; omega) (fun W' h1 _ => HPO.out.1.below (HLX.out.trans h1)))
      have HSN := hid (run_snoc J.out.run (c := (uk, ⟨up, um, ukk, uz⟩)) (by show (cs.map _)[j]? = _; rw [List.getElem?_map, HU.out]; rfl))
      rw [hX] at x0 x1 x2 x3 x4
      have fDa : ∀ ob, (wr.alloc ob).frozen? ⟨w.heap.size, 2, none⟩ = false := fun ob => free_of (new_old _ ob J.out.tr.blk)
      have d2a : ∀ ob, (wr.alloc ob).cell? ⟨w.heap.size, 2, none⟩ = some (.int .i64 num) := fun ob => alloc_cell d2 (lt_of_block J.out.tr.blk) ob
      clear cc hu hV hXn hzn
      go_wp2_with fail
      rw [← hX]
      refine HDO.out.mono ?_
      rintro en w5 (⟨v', vu', ps', us', rfl, hst, hun, htr, hb5⟩ | ⟨er, hst, rfl, hno, hb5⟩)
      rotate_left
      · exact tleave rfl (HLX.out.trans hb5) hno (HSN.out.2 er hst) (step_err hst)
      have J5 := hid (show TryAt w Bp W (ps.map Prod.fst) (chs cs) (j + 1) w5 (j : Int) v' vu' ps' us' from ⟨htr, (HSN.out.1 _ hst).1, by rw [hun, J.out.und]; exact (HSN.out.1 _ hst).2.symm, by have := congrArg List.length hun; simp only [List.length_map, List.length_append, List.length_cons, List.length_nil] at this; have := J.out.len; omega, HLX.out.trans hb5⟩)
      clear hst hun htr hb5 x0 x1 x2 x3 x4 hX
      go_wp2
      go_roundw
      case rel => exact ⟨j + 1, _, _, _, _, _, by omega, by go_num, J5⟩
      case measure => simp [intOf]; omega
    · have hI : ¬ ((j : Int) < (n : Int)) := by omega
      have hjn : j = n := by omega
      have HFI := hid (show runN W (ps.map Prod.fst) (chs cs) 0 = .ok (qs.map Prod.fst) ∧ us.map (fun u => (u.1, u.2.1)) = undosN W (ps.map Prod.fst) (chs cs) from by
        have e : (chs cs).take j = chs cs := List.take_of_length_le (by simp [HN.out, hjn])
        have h1 := J.out.run
        have h2 := J.out.und
        rw [e] at h1 h2
        exact ⟨h1, h2⟩)
      obtain ⟨al, cl, hv1, _⟩ := J.out.tr.list.form
      obtain ⟨au, cu, hvu1⟩ := ownC_form J.out.tr.und
      subst hv1 hvu1
      have fr : ∀ o, wr.frozen? ⟨w.heap.size, o, none⟩ = false := fun o => free_of J.out.tr.blk
      obtain ⟨ql, hql⟩ : ∃ ql, ql = qs.length := ⟨_, rfl⟩
      obtain ⟨ul, hul⟩ : ∃ ul, ul = us.length := ⟨_, rfl⟩
      have HQL := hid hql
      have HUL := hid hul
      rw [← hql, ← hul] at J
      rw [← hql] at d1
      rw [← hul] at d4
      clear hjn hql hul
      obtain ⟨Y, hY⟩ : ∃ Y, Y = ((((wr.setCell ⟨w.heap.size, 0, none⟩ (.int .i64 W)).setCell ⟨w.heap.size, 1, none⟩ (.slice al ql cl)).setCell ⟨w.heap.size, 2, none⟩ (.int .i64 num)).setCell ⟨w.heap.size, 3, none⟩ (.int .i64 0)).setCell ⟨w.heap.size, 4, none⟩ (.slice au ul cu) := ⟨_, rfl⟩
      have b0 := J.out.tr.blk
      have b1 := block_set (o := 0) (.int .i64 W) b0
      have b2 := block_set (o := 1) (.slice al ql cl) b1
      have b3 := block_set (o := 2) (.int .i64 num) b2
      have b4 := block_set (o := 3) (.int .i64 0) b3
      have b5 := block_set (o := 4) (.slice au ul cu) b4
      rw [← hY] at b5
      have y0 : Y.cell? ⟨w.heap.size, 0, none⟩ = some (.int .i64 W) := by rw [cell_at b5]; rfl
      have y1 : Y.cell? ⟨w.heap.size, 1, none⟩ = some (.slice al ql cl) := by rw [cell_at b5]; rfl
      have y2 : Y.cell? ⟨w.heap.size, 2, none⟩ = some (.int .i64 num) := by rw [cell_at b5]; rfl
      have y3 : Y.cell? ⟨w.heap.size, 3, none⟩ = some (.int .i64 0) := by rw [cell_at b5]; rfl
      have y4 : Y.cell? ⟨w.heap.size, 4, none⟩ = some (.slice au ul cu) := by rw [cell_at b5]; rfl
      have HFIN := hid (show TryPost w Bp W (ps.map Prod.fst) (chs cs) (.returned (tv W (.slice al ql cl) num 0 (.slice au ul cu))) Y from by
        refine ⟨by rw [hY]; exact ((((J.out.low.setCell (Nat.le_refl _) _).setCell (Nat.le_refl _) _).setCell (Nat.le_refl _) _).setCell (Nat.le_refl _) _).setCell (Nat.le_refl _) _, Or.inl ⟨_, _, qs, us, num, HFI.out.1, rfl, ?_, fun q hq => ?_, ?_, fun u hu => ?_, HFI.out.2⟩⟩
        · rw [hY]; exact ownR_store (ownR_store (ownR_store (ownR_store (ownR_store J.out.tr.list b0) b1) b2) b3) b4
        · rw [hY]; exact (((((J.out.tr.ports q hq).storeD b0).storeD b1).storeD b2).storeD b3).storeD b4
        · rw [hY]; exact ownC_store (ownC_store (ownC_store (ownC_store (ownC_store J.out.tr.und b0) b1) b2) b3) b4
        · rw [hY]; exact (((((J.out.tr.uports u hu).storeD b0).storeD b1).storeD b2).storeD b3).storeD b4)
      clear b0 b1 b2 b3 b4 b5
      go_wp2
      rw [← hY]
      refine leaves_cons (f := 48) (args := #[.pointer (some ⟨w.heap.size, 0, none⟩)]) (by simp) (by simp [go_sem]) ?_
      refine (caughtT_not _ _).mono ?_
      rintro e u' w'' ⟨rfl, rfl, rfl⟩
      refine ⟨tv W (.slice al ql cl) num 0 (.slice au ul cu), ?_, HFIN.out⟩
      simp [results, Tryz.results33, go_sem, y0, y1, y2, y3, y4]
end Go.Proofs.YtipmlcdnfaobiaaGreat
namespace Go.Proofs.YtipmlcdnfaobiaaGreat
open Go.RowKit

/-- A table that New made, with its rules. -/
structure FTab (w : World) (Bp tb : Nat) (W : Int) (L : List Raw) : Prop where
  base : Bp ≤ tb
  ex : ∃ v ps, TabAt w Bp tb W v ps ∧ ps.map Prod.fst = L
theorem TabAt.on {w w' : World} {Bp tb : Nat} {W : Int} {v : Value} {ps : List (Raw × Value)} (h : TabAt w Bp tb W v ps) (hb : Below w.heap.size w w') : TabAt w' Bp tb W v ps :=
  ⟨below_block hb h.blk (lt_of_block h.blk), h.list.on hb, fun q hq => (h.ports q hq).on hb, h.good⟩
theorem FTab.on {w w' : World} {Bp tb : Nat} {W : Int} {L : List Raw} (h : FTab w Bp tb W L) (hb : Below w.heap.size w w') : FTab w' Bp tb W L := by
  obtain ⟨v, ps, ht, e⟩ := h.ex
  exact ⟨h.base, v, ps, ht.on hb, e⟩
theorem FTab.lt {w : World} {Bp tb : Nat} {W : Int} {L : List Raw} (h : FTab w Bp tb W L) : tb < w.heap.size := by
  obtain ⟨v, ps, ht, e⟩ := h.ex
  exact lt_of_block ht.blk
theorem FTab.good {w : World} {Bp tb : Nat} {W : Int} {L : List Raw} (h : FTab w Bp tb W L) : GoodT W L := by
  obtain ⟨v, ps, ht, rfl⟩ := h.ex
  exact ht.good

set_option maxRecDepth 4000 in
set_option maxHeartbeats 1000000 in
theorem New_good {W : Int} {w : World} (h : 1 ≤ W ∧ W ≤ 128) : Calls Tryz.prog 29 #[.int .i64 W] w fun e w' => e = .returned (.tuple #[.pointer (some ⟨w.heap.size, 0, none⟩), .int .i64 0]) ∧ Hid (FTab w' w.heap.size w.heap.size W [] ∧ Below w.heap.size w w') := by
  obtain ⟨h1, h2⟩ := h
  have a1 : ¬ W < 1 := by omega
  have a2 : ¬ 128 < W := by omega
  have HX := hid (show FTab (w.alloc (.cells #[.int .i64 W, .slice none 0 0, .pointer (some ⟨w.heap.size, 0, none⟩)] 72)) w.heap.size w.heap.size W [] ∧ Below w.heap.size w (w.alloc (.cells #[.int .i64 W, .slice none 0 0, .pointer (some ⟨w.heap.size, 0, none⟩)] 72)) from ⟨⟨Nat.le_refl _, _, [], ⟨new_0 _ _, ⟨World.ownsRow_nil _ _ _ _, fun q hq => (by cases hq)⟩, fun q hq => (by cases hq), GoodT.nil ⟨h1, h2⟩⟩, rfl⟩, (Below.refl _ _).alloc (Nat.le_refl _) _⟩)
  go_enter Tryz.func29, Tryz.ntmps29
  go_wp2
  refine bodyPost_ret (v := .tuple #[.pointer (some ⟨w.heap.size, 0, none⟩), .int .i64 0]) (by simp [results, Tryz.results29, go_sem]) rfl ⟨rfl, HX⟩
set_option maxRecDepth 4000 in
set_option maxHeartbeats 1000000 in
theorem New_bad {W : Int} {w : World} (h : ¬ (1 ≤ W ∧ W ≤ 128)) : Calls Tryz.prog 29 #[.int .i64 W] w fun e w' => e = .returned (.tuple #[.pointer none, .int .i64 1]) ∧ w' = w := by
  by_cases a1 : W < 1
  · go_enter Tryz.func29, Tryz.ntmps29
    go_wp2
    refine bodyPost_ret (v := .tuple #[.pointer none, .int .i64 1]) (by simp [results, Tryz.results29, go_sem]) rfl ⟨rfl, rfl⟩
  · have a2 : 128 < W := by omega
    go_enter Tryz.func29, Tryz.ntmps29
    go_wp2
    refine bodyPost_ret (v := .tuple #[.pointer none, .int .i64 1]) (by simp [results, Tryz.results29, go_sem]) rfl ⟨rfl, rfl⟩

theorem Tryz.infoTableF : ∃ j, Tryz.prog.info? 72 = some j := Option.isSome_iff_exists.1 (by kernel_rfl)
theorem eqlF_none (w : World) (a : Addr) : (binOp .eql 23 (.pointer none) (.pointer (some a))).run Tryz.prog w = .ok (.bool false) w := by
  have h : ∀ d : Nat, (Op.equalIn (d + 1) 23 (.pointer none) (.pointer (some a))).run Tryz.prog w = .ok false w := fun d => by
    simp [Op.equalIn, run_underlying Tryz.underlying23, sizeOf, typeInfo]
  simp only [binOp]
  simp [Op.equal, Op.maxDepth, h 9999]
set_option maxRecDepth 4000 in
set_option maxHeartbeats 1000000 in
theorem made_yes {w : World} {tb : Nat} {a b : Value} (h : w.heap[tb]? = some (.cells #[a, b, .pointer (some ⟨tb, 0, none⟩)] 72 (0, 0))) : Calls Tryz.prog 31 #[.pointer (some ⟨tb, 0, none⟩)] w fun e w' => e = .returned (.bool true) ∧ w' = w := by
  have c2 : w.cell? ⟨tb, 2, none⟩ = some (.pointer (some ⟨tb, 0, none⟩)) := by rw [cell_at h]; rfl
  obtain ⟨j, hj⟩ := Tryz.infoTableF
  have hsame : (binOp .eql 23 (.pointer (some ⟨tb, 0, none⟩)) (.pointer (some ⟨tb, 0, none⟩))).run Tryz.prog w = .ok (.bool true) w := run_eql_ptr_same w _ Tryz.underlying23 hj
  clear h hj
  go_enter Tryz.func31, Tryz.ntmps31
  go_wp2
  go_ret
  exact ⟨rfl, rfl⟩
set_option maxRecDepth 4000 in
set_option maxHeartbeats 1000000 in
theorem made_nil {w : World} : Calls Tryz.prog 31 #[.pointer none] w fun e w' => e = .returned (.bool false) ∧ w' = w := by
  go_enter Tryz.func31, Tryz.ntmps31
  go_wp2
  go_ret
  exact ⟨rfl, rfl⟩
set_option maxRecDepth 4000 in
set_option maxHeartbeats 1000000 in
theorem made_no {w : World} {tb : Nat} (h : w.cell? ⟨tb, 2, none⟩ = some (.pointer none)) : Calls Tryz.prog 31 #[.pointer (some ⟨tb, 0, none⟩)] w fun e w' => e = .returned (.bool false) ∧ w' = w := by
  have hq := eqlF_none w
  go_enter Tryz.func31, Tryz.ntmps31
  go_wp2
  go_ret
  exact ⟨rfl, rfl⟩

/-- What Do tells and leaves. -/
def DoTab (w : World) (Bp tb : Nat) (W : Int) (L : List Raw) (cs : List (Int × Raw)) (e : Ending) (w' : World) : Prop :=
  w.grownBy w' (some tb) ∧
  ((∃ L', runN W L cs 0 = .ok L' ∧ e = .returned (.tuple #[.int .i64 0, .int .i64 0]) ∧ FTab w' Bp tb W L') ∨
   (∃ (i : Nat) (er : Int), runN W L cs 0 = .error (i, er) ∧ er ≠ 0 ∧ e = .returned (.tuple #[.int .i64 i, .int .i64 er]) ∧ FTab w' Bp tb W L))

set_option maxRecDepth 20000 in
set_option maxHeartbeats 4000000 in
theorem Do_any {w : World} {Bp tb n cap : Nat} {ao : Option Addr} {W : Int} {L : List Raw} {cs : List (Int × Raw × Value)} (h : FTab w Bp tb W L) (hc : ChIn w ao cs) (hn : cs.length = n) (h64 : n * 64 ≤ 140737488355328) :
    Calls Tryz.prog 13 #[.pointer (some ⟨tb, 0, none⟩), .slice ao n cap] w fun e w' => DoTab w Bp tb W L (chs cs) e w' := by
  obtain ⟨v, ps, ht, rfl⟩ := h.ex
  have HT := hid ht
  have hbase := h.base
  have htb := lt_of_block ht.blk
  have HTR := hid (try_any (cap := cap) ht (Nat.le_of_lt (Nat.lt_of_le_of_lt hbase htb)) hc hn h64)
  have HMD := hid (made_yes ht.blk)
  clear ht h hc
  go_enter Tryz.func13, Tryz.ntmps13
  go_wp2_with fail
  refine HMD.out.mono ?_
  rintro en w1 ⟨rfl, hw1⟩
  have hw1' := hw1.symm
  clear hw1
  subst hw1'
  go_wp2_with fail
  refine HTR.out.mono ?_
  rintro en w2 ⟨hb2, ⟨v', vu', ps', us', num, hrun, rfl, hown, hpo, hund, _, _⟩ | ⟨i, er, hrun, h0, rfl⟩⟩
  · obtain ⟨al, cl, hv', _⟩ := hown.form
    obtain ⟨au, cu, hvu⟩ := ownC_form hund
    subst hv' hvu
    have HO := hid hown
    have HPO := hid hpo
    have HR := hid hrun
    have HB2 := hid hb2
    have hT2 := below_block hb2 HT.out.blk htb
    have HT2 := hid hT2
    have t0 : w2.cell? ⟨tb, 0, none⟩ = some (.int .i64 W) := by rw [cell_at hT2]; rfl
    have t1 : w2.cell? ⟨tb, 1, none⟩ = some v := by rw [cell_at hT2]; rfl
    have f0 : ∀ o, (w2.alloc o).frozen? ⟨tb, 0, none⟩ = false := fun o => free_of (new_old _ o hT2)
    have f1 : ∀ o, (w2.alloc o).frozen? ⟨tb, 1, none⟩ = false := fun o => free_of (new_old _ o hT2)
    have t0a : ∀ o, (w2.alloc o).cell? ⟨tb, 0, none⟩ = some (.int .i64 W) := fun o => alloc_cell t0 (lt_of_block hT2) o
    have t1a : ∀ o, (w2.alloc o).cell? ⟨tb, 1, none⟩ = some v := fun o => alloc_cell t1 (lt_of_block hT2) o
    obtain ⟨X, hX⟩ : ∃ X, X = ((w2.alloc (tob W (.slice al ps'.length cl) num 0 (.slice au us'.length cu))).setCell ⟨tb, 0, none⟩ (.int .i64 W)).setCell ⟨tb, 1, none⟩ (.slice al ps'.length cl) := ⟨_, rfl⟩
    have HFIN := hid (show DoTab w Bp tb W (ps.map Prod.fst) (chs cs) (.returned (.tuple #[.int .i64 0, .int .i64 0])) X from by
      have ha := new_old w2 (tob W (.slice al ps'.length cl) num 0 (.slice au us'.length cu)) HT2.out
      have hb1 : Below w.heap.size w (w2.alloc (tob W (.slice al ps'.length cl) num 0 (.slice au us'.length cu))) := HB2.out.alloc HB2.out.size _
      have hg : w.grownBy X (some tb) := by
        rw [hX]
        exact grown_two (grown_two ⟨hb1.os, hb1.tape, hb1.output, hb1.size, fun i hi _ => hb1.block i hi⟩ (grown_cell _ _ _ _)) (grown_cell _ _ _ _)
      refine ⟨hg, Or.inl ⟨_, HR.out, rfl, hbase, .slice al ps'.length cl, ps', ⟨?_, ?_, fun q hq => ?_, HT.out.good.run HR.out⟩, rfl⟩⟩
      · rw [hX, block_set (o := 1) _ (block_set (o := 0) _ ha)]; rfl
      · have h0 := HO.out.on ((Below.refl _ w2).alloc (Nat.le_refl _) (tob W (.slice al ps'.length cl) num 0 (.slice au us'.length cu)))
        refine ⟨⟨h0.own.1, ?_⟩, h0.vals⟩
        rcases h0.own.2 with q | ⟨g, cp, cur, e, hB', hh, r⟩
        · exact Or.inl q
        · refine Or.inr ⟨g, cp, cur, e, by omega, ?_, r⟩
          have hne : g ≠ tb := ne_type hh ha (by decide)
          rw [hX]
          exact block_other _ (block_other _ hh hne) hne
      · obtain ⟨ao', c', e1, e2, q0 | ⟨b, e3, e4, cs', e5, e6⟩⟩ := (HPO.out q hq).on ((Below.refl _ w2).alloc (Nat.le_refl _) (tob W (.slice al ps'.length cl) num 0 (.slice au us'.length cu)))
        · exact ⟨ao', c', e1, e2, Or.inl q0⟩
        · refine ⟨ao', c', e1, e2, Or.inr ⟨b, e3, e4, cs', ?_, e6⟩⟩
          have hne : b ≠ tb := ne_type e5 ha (by decide)
          rw [hX]
          exact block_other _ (block_other _ e5 hne) hne)
    clear hown hpo hund hrun hT2
    go_wp2
    rw [← hX]
    refine bodyPost_ret (v := .tuple #[.int .i64 0, .int .i64 0]) (by simp [results, Tryz.results13, go_sem]) rfl HFIN.out
  · have HFIN := hid (show ∀ o, DoTab w Bp tb W (ps.map Prod.fst) (chs cs) (.returned (.tuple #[.int .i64 i, .int .i64 er])) (w2.alloc o).drew from fun o => by
      have hb1 : Below w.heap.size w (w2.alloc o) := hb2.alloc hb2.size _
      exact ⟨⟨hb1.os, hb1.tape, hb1.output, hb1.size, fun i hi _ => hb1.block i hi⟩, Or.inr ⟨i, er, hrun, h0, rfl, hbase, v, ps, HT.out.on hb1.drew, rfl⟩⟩)
    have hne : (er != 0) = true := by rw [bne_iff_ne]; exact h0
    clear hrun hb2 h0
    go_wp2_with fail
    go_quiet (fail)
    go_wp2
    refine bodyPost_ret (v := .tuple #[.int .i64 i, .int .i64 er]) (by simp [results, Tryz.results13, go_sem]) rfl ?_
    have := HFIN.out (tob 0 (.slice none 0 0) i er (.slice none 0 0))
    exact ⟨⟨this.1.os, this.1.tape, this.1.output, this.1.size, this.1.block⟩, by
      rcases this.2 with q | ⟨i', er', h1, h2, h3, h4⟩
      · exact absurd q (by rintro ⟨L', _, q, _⟩; cases q; simp at hne)
      · exact Or.inr ⟨i', er', h1, h2, h3, h4.1, by obtain ⟨v, ps, ht, e⟩ := h4.ex; exact ⟨v, ps, ⟨ht.blk, ⟨ht.list.own, ht.list.vals⟩, ht.ports, ht.good⟩, e⟩⟩⟩
end Go.Proofs.YtipmlcdnfaobiaaGreat
namespace Go.Proofs.YtipmlcdnfaobiaaGreat
open Go.Shelf Go.RowKit

theorem Tryz.extraRepeat : Builder.Extra Tryz.prog Tryz.laysRepeat_ren := {
  sizeBuilder := by kernel_rfl
  liesBuilder := by kernel_rfl
  t5 := Tryz.laysRepeat.t5
  a5 := Tryz.laysRepeat.a5
  z5 := Tryz.laysRepeat.z5
  v5 := Tryz.laysRepeat.v5
  infoByte := by kernel_rfl
  cellsByte := by kernel_rfl
  sizeByte := by kernel_rfl
  neB5 := by decide }
theorem Tryz.fRepeat : Tryz.laysRepeat_ren.f 105 = 74 := by kernel_rfl
theorem RepeatV_x (n : Nat) (w : World) (hn : n ≤ 128) :
    Calls Tryz.prog 74 #[.string ⟨#[120]⟩, .int .i64 n] w fun e w' => e = .returned (.string ⟨(List.replicate n 120).toArray⟩) ∧ Below w.heap.size w w' := by
  have h := Any.strings_Repeat Tryz.laysRepeat Tryz.extraRepeat ⟨#[120]⟩ n w (by omega) (by show 1 * n ≤ _; omega)
  rw [Tryz.fRepeat] at h
  refine h.mono fun e w' ⟨he, hw⟩ => ⟨?_, hw⟩
  rw [he]
  have e : Lib.repeatL (ByteArray.mk #[120]).data.toList n = List.replicate n 120 := by
    have := Lib.repeatL_replicate 120 1 n
    rw [Nat.mul_one] at this
    exact this
  rw [e]
set_option maxRecDepth 4000 in
set_option maxHeartbeats 400000 in
theorem EveryV {m : Nat} (w : World) (h1 : 1 ≤ m) (h2 : m ≤ 128) : Calls Tryz.prog 52 #[.int .i64 (m : Int)] w fun e w' => e = .returned (.tuple #[.string ⟨(List.replicate m 120).toArray⟩, .int .i64 0]) ∧ Below w.heap.size w w' := by
  have HR := hid (RepeatV_x m w h2)
  have a1 : ¬ (m : Int) < 1 := by omega
  have a2 : ¬ (128 : Int) < (m : Int) := by omega
  go_enter Tryz.func52, Tryz.ntmps52
  go_wp2_with fail
  refine HR.out.mono ?_
  rintro e w1 ⟨rfl, hb1⟩
  go_wp2
  go_ret2
  exact ⟨rfl, hb1⟩

/-- A header of so many bits. -/
def headB (W : Int) (h : List UInt8) : Bool := decide (Cub.errH ⟨(List.replicate W.toNat 120).toArray⟩ (tx h) = 0)
/-- Does a header lie in a rule's match? -/
def liesB (r : Raw) (h : List UInt8) : Bool := Cub.hasB (tx r.mat) (tx h)

set_option maxRecDepth 4000 in
set_option maxHeartbeats 1000000 in
theorem isHeader_any {w : World} {tb : Nat} {W : Int} {h : List UInt8} (hc : w.cell? ⟨tb, 0, none⟩ = some (.int .i64 W)) (hw : 1 ≤ W ∧ W ≤ 128) :
    Calls Tryz.prog 36 #[.pointer (some ⟨tb, 0, none⟩), .string (tx h)] w fun e w' => e = .returned (.bool (headB W h)) ∧ Below w.heap.size w w' := by
  obtain ⟨m, rfl⟩ : ∃ m : Nat, W = (m : Int) := ⟨W.toNat, by omega⟩
  have HE := hid (EveryV w (m := m) (by omega) (by omega))
  have HH := hid (fun w' => Cub.Has_any ⟨(List.replicate m 120).toArray⟩ (tx h) w')
  have HB := hid (show headB (m : Int) h = decide (Cub.errH ⟨(List.replicate m 120).toArray⟩ (tx h) = 0) from rfl)
  obtain ⟨er, her⟩ : ∃ er, er = Cub.errH ⟨(List.replicate m 120).toArray⟩ (tx h) := ⟨_, rfl⟩
  obtain ⟨hb, hhb⟩ : ∃ hb, hb = Cub.hasB ⟨(List.replicate m 120).toArray⟩ (tx h) := ⟨_, rfl⟩
  rw [← her] at HB
  rw [← her, ← hhb] at HH
  clear her hhb
  go_enter Tryz.func36, Tryz.ntmps36
  go_wp2_with fail
  refine HE.out.mono ?_
  rintro e w1 ⟨rfl, hb1⟩
  have B1 := hid hb1
  clear hb1
  go_wp2_with fail
  refine (HH.out _).mono ?_
  rintro e w2 ⟨rfl, hb2⟩
  have B2 := hid (below_2 B1.out hb2)
  clear hb2
  go_wp2
  go_ret
  exact ⟨by rw [HB.out]; rfl, B2.out⟩

set_option maxRecDepth 4000 in
set_option maxHeartbeats 1000000 in
theorem met1_any {w : World} {cb : Nat} {p k : Int} {m h : List UInt8} {ao : Option Addr} {n c : Nat} (zs : List (List UInt8)) (hc : w.cell? ⟨cb, 0, none⟩ = some (.string (tx h))) :
    Calls Tryz.prog 55 #[.agg #[.int .i64 p, .string (tx m), .int .i64 k, .slice ao n c], .pointer (some ⟨cb, 0, none⟩)] w fun e w' => e = .returned (.bool (liesB ⟨p, m, k, zs⟩ h)) ∧ Below w.heap.size w w' := by
  have HH := hid (fun w' => Cub.Has_any (tx m) (tx h) w')
  have HB := hid (show liesB ⟨p, m, k, zs⟩ h = Cub.hasB (tx m) (tx h) from rfl)
  obtain ⟨er, her⟩ : ∃ er, er = Cub.errH (tx m) (tx h) := ⟨_, rfl⟩
  obtain ⟨hb, hhb⟩ : ∃ hb, hb = Cub.hasB (tx m) (tx h) := ⟨_, rfl⟩
  rw [← hhb] at HB
  rw [← her, ← hhb] at HH
  clear her hhb
  have hca : ∀ o, (w.alloc o).cell? ⟨cb, 0, none⟩ = some (.string (tx h)) := fun o => alloc_cell hc (block_old hc) o
  go_enter Tryz.func55, Tryz.ntmps55
  go_wp2_with fail
  refine (HH.out _).mono ?_
  rintro e w2 ⟨rfl, hb2⟩
  have B2 := hid (below_2 ((Below.refl _ _).alloc (Nat.le_refl _) _) hb2)
  clear hb2
  go_wp2
  go_ret
  exact ⟨by rw [HB.out]; rfl, B2.out⟩
theorem Tryz.entMet : ∀ args w, (callFunc 55 args).run Tryz.prog w = .ok (.enter 55 args) w := fun _ _ => by kernel_rfl
/-- The place of the rule that a header meets. -/
def metN (L : List Raw) (h : List UInt8) : Int := match L.findIdx? (fun a => liesB a h) with
  | some j => (j : Int)
  | none => -1

set_option maxRecDepth 20000 in
set_option maxHeartbeats 2000000 in
theorem IndexFunc_any {w : World} {B n c cb : Nat} {ao : Option Addr} {h : List UInt8} {ps : List (Raw × Value)} (ho : OwnR w B (.slice ao n c) ps) (hn : ps.length = n) (h60 : n ≤ 4096) (hc : w.cell? ⟨cb, 0, none⟩ = some (.string (tx h))) :
    Calls Tryz.prog 54 #[.slice ao n c, .func (.func 55) #[] #[.pointer (some ⟨cb, 0, none⟩)]] w fun e w' => e = .returned (.int .i64 (metN (ps.map Prod.fst) h)) ∧ Below w.heap.size w w' := by
  have HO := hid ho
  have HN := hid hn
  have hent := Tryz.entMet
  have hcb := block_old hc
  have HC := hid hc
  clear ho hn hc
  go_enter Tryz.func54, Tryz.ntmps54
  go_wp2_with fail
  go_loopw [8, 5] (fun i _ wr => ∃ j : Nat, j ≤ n ∧ i = .int .i64 j ∧ Hid ((∀ b ∈ (ps.map Prod.fst).take j, liesB b h = false) ∧ Below w.heap.size w wr)) (fun i _ _ => n - (intOf i).toNat)
  case atStart => exact ⟨0, Nat.zero_le _, rfl, fun b hb => by simp at hb, Below.refl _ _⟩
  case round =>
    obtain ⟨j, hj, rfl, HJ⟩ := hrel
    by_cases hlt : j < n
    · obtain ⟨q, hq⟩ : ∃ q, ps[j]? = some q := ⟨ps[j]'(by rw [HN.out]; exact hlt), List.getElem?_eq_getElem _⟩
      have hq1 : (ps.map Prod.fst)[j]? = some q.1 := by rw [List.getElem?_map, hq]; rfl
      obtain ⟨g, rfl⟩ : ∃ g, ao = some ⟨g, 0, none⟩ := by
        obtain ⟨lo, lc, e, _, hf⟩ := HO.out.form
        injection e with e1 _ _
        subst e1
        rcases hf with ⟨_, h0⟩ | ⟨g, h1, _⟩
        · rw [h0] at hq; simp at hq
        · exact ⟨g, h1⟩
      obtain ⟨c0, c1, c2, c3⟩ := (HO.out.on HJ.out.2).cells hq
      obtain ⟨po, pl, pc, hqv⟩ := HO.out.vals q (List.mem_of_getElem? hq)
      have HTK := hid (show (ps.map Prod.fst).take (j + 1) = (ps.map Prod.fst).take j ++ [q.1] by rw [List.take_add_one, hq1]; rfl)
      have HQ1 := hid hq1
      have hkI : (j : Int) < (n : Int) := by omega
      have hk0 : (0 : Int) ≤ (j : Int) := by omega
      obtain ⟨⟨p', m', k', z'⟩, uv⟩ := q
      simp only at c0 c1 c2 c3 hqv HTK HQ1
      subst hqv
      have HM := hid (met1_any (w := wr) (cb := cb) (p := p') (k := k') (m := m') (h := h) (ao := po) (n := pl) (c := pc) z' ((HJ.out.2.cell (by exact hcb)).trans HC.out))
      clear hq hq1
      cases hl : liesB ⟨p', m', k', z'⟩ h with
      | true =>
        rw [hl] at HM
        have HR := hid (show metN (ps.map Prod.fst) h = (j : Int) from by
          have : (ps.map Prod.fst).findIdx? (fun a => liesB a h) = some j := by
            rw [List.findIdx?_eq_some_iff_getElem]
            obtain ⟨hj2, e⟩ := List.getElem?_eq_some_iff.1 HQ1.out
            refine ⟨hj2, by rw [e]; exact hl, fun i hi => ?_⟩
            rw [HJ.out.1 _ (List.mem_take_iff_getElem.2 ⟨i, by omega, rfl⟩)]
            decide
          unfold metN
          rw [this])
        clear hl
        go_wp2_with (go_at_call 55; refine HM.out.mono ?_; rintro e w2 ⟨rfl, hb2⟩; have B2 := hid hb2; clear hb2)
        go_ret
        exact ⟨by rw [HR.out]; rfl, below_2 HJ.out.2 B2.out⟩
      | false =>
        rw [hl] at HM
        have HNN := hid (show ∀ b ∈ (ps.map Prod.fst).take (j + 1), liesB b h = false from fun b hb => by
          rw [HTK.out] at hb
          rcases List.mem_append.1 hb with hb | hb
          · exact HJ.out.1 b hb
          · rw [List.mem_singleton.1 hb]; exact hl)
        clear hl
        go_wp2_with (go_at_call 55; refine HM.out.mono ?_; rintro e w2 ⟨rfl, hb2⟩; have B2 := hid hb2; clear hb2)
        go_roundw
        case rel => exact ⟨j + 1, by omega, by go_num, HNN.out, below_2 HJ.out.2 B2.out⟩
        case measure => simp [intOf]; omega
    · have hjn : j = n := by omega
      have HR := hid (show metN (ps.map Prod.fst) h = -1 from by
        have : (ps.map Prod.fst).findIdx? (fun a => liesB a h) = none := by
          rw [List.findIdx?_eq_none_iff]
          exact fun b hb => HJ.out.1 b (by rw [List.take_of_length_le (by rw [List.length_map, HN.out]; omega)]; exact hb)
        unfold metN
        rw [this])
      have hkI : ¬ ((j : Int) < (n : Int)) := by omega
      clear hlt hjn
      go_wp2
      go_ret
      exact ⟨by rw [HR.out]; rfl, HJ.out.2⟩
end Go.Proofs.YtipmlcdnfaobiaaGreat
namespace Go.Proofs.YtipmlcdnfaobiaaGreat
open Go.RowKit

set_option maxRecDepth 4000 in
set_option maxHeartbeats 1000000 in
theorem met_any {w : World} {Bp tb : Nat} {W : Int} {v : Value} {ps : List (Raw × Value)} {h : List UInt8} (ht : TabAt w Bp tb W v ps) :
    Calls Tryz.prog 37 #[.pointer (some ⟨tb, 0, none⟩), .string (tx h)] w fun e w' => e = .returned (.int .i64 (metN (ps.map Prod.fst) h)) ∧ Below w.heap.size w w' := by
  obtain ⟨lo, lc, hv, _⟩ := ht.list.form
  subst hv
  have t1 : w.cell? ⟨tb, 1, none⟩ = some (.slice lo ps.length lc) := by rw [cell_at ht.blk]; rfl
  have t1a : ∀ o, (w.alloc o).cell? ⟨tb, 1, none⟩ = some (.slice lo ps.length lc) := fun o => alloc_cell t1 (lt_of_block ht.blk) o
  have HB := hid (show Below w.heap.size w (w.alloc (.cells #[.string (tx h)] 9)) from (Below.refl _ _).alloc (Nat.le_refl _) _)
  have HI := hid (IndexFunc_any (h := h) (cb := w.heap.size) (ht.list.on HB.out) rfl (by have := ht.good.few; simpa using this) (by rw [cell_at (new_0 w _)]; rfl))
  clear ht
  go_enter Tryz.func37, Tryz.ntmps37
  go_wp2_with fail
  refine HI.out.mono ?_
  rintro e w2 ⟨rfl, hb2⟩
  have B2 := hid (below_2 HB.out hb2)
  clear hb2
  go_wp2
  go_ret
  exact ⟨rfl, B2.out⟩
/-- No rule. -/
abbrev noR : Value := .agg #[.int .i64 0, .string (tx []), .int .i64 0, .slice none 0 0]
/-- What Meets tells. -/
def MeetPost (w : World) (W : Int) (L : List Raw) (h : List UInt8) (e : Ending) (w' : World) : Prop :=
  Below w.heap.size w w' ∧ ((headB W h = false ∧ e = .returned (.tuple #[noR, .bool false, .int .i64 21])) ∨
    (headB W h = true ∧ metN L h < 0 ∧ e = .returned (.tuple #[noR, .bool false, .int .i64 0])) ∨
    (headB W h = true ∧ ∃ (j : Nat) (r : Raw) (ao : Option Addr) (n c : Nat), L[j]? = some r ∧ metN L h = (j : Int) ∧ e = .returned (.tuple #[.agg #[.int .i64 r.prio, .string (tx r.mat), .int .i64 r.kind, .slice ao n c], .bool true, .int .i64 0]) ∧ Ported w' w.heap.size (.slice ao n c) r.ports))
theorem metN_at {L : List Raw} {h : List UInt8} (hm : ¬ metN L h < 0) : ∃ (j : Nat) (r : Raw), metN L h = (j : Int) ∧ L[j]? = some r := by
  unfold metN at hm ⊢
  cases q : L.findIdx? (fun a => liesB a h) with
  | none => rw [q] at hm; exact absurd (by decide) hm
  | some j =>
    obtain ⟨hj, _⟩ := List.findIdx?_eq_some_iff_getElem.1 q
    exact ⟨j, L[j], rfl, List.getElem?_eq_getElem hj⟩

set_option maxRecDepth 20000 in
set_option maxHeartbeats 2000000 in
theorem Meets_any {w : World} {Bp tb : Nat} {W : Int} {L : List Raw} {h : List UInt8} (hF : FTab w Bp tb W L) :
    Calls Tryz.prog 17 #[.pointer (some ⟨tb, 0, none⟩), .string (tx h)] w fun e w' => MeetPost w W L h e w' := by
  obtain ⟨v, ps, ht, rfl⟩ := hF.ex
  have HB0 := hid (show Below w.heap.size w (w.alloc (rob 0 (tx []) 0 (.slice none 0 0))) from (Below.refl _ _).alloc (Nat.le_refl _) _)
  have HT0 := hid (ht.on HB0.out)
  have HR0 := hid (new_0 w (rob 0 (tx []) 0 (.slice none 0 0)))
  have HMD := hid (made_yes HT0.out.blk)
  have HIH := hid (isHeader_any (h := h) (show (w.alloc (rob 0 (tx []) 0 (.slice none 0 0))).cell? ⟨tb, 0, none⟩ = some (.int .i64 W) by rw [cell_at HT0.out.blk]; rfl) ht.good.wide)
  have HT := hid ht
  clear ht hF
  go_enter Tryz.func17, Tryz.ntmps17
  go_wp2_with fail
  refine HMD.out.mono ?_
  rintro en w1 ⟨rfl, hw1⟩
  subst hw1
  go_wp2_with fail
  refine HIH.out.mono ?_
  rintro en w2 ⟨rfl, hb2⟩
  have B2 := hid (below_2 HB0.out hb2)
  have HR2 := hid (below_block hb2 HR0.out (lt_of_block HR0.out))
  have HT2 := hid (HT0.out.on hb2)
  obtain ⟨r0, r1, r2, r3, f0, f1, f2, f3⟩ := rob_cells HR2.out
  clear hb2
  cases hh : headB W h with
  | false =>
    have HH := hid hh
    clear hh
    have hB5 := rob_4 (rob_3 (rob_2 (rob_1 HR2.out 0) (tx [])) 0) (.slice none 0 0)
    obtain ⟨n0, n1, n2, n3, _, _, _, _⟩ := rob_cells hB5
    have HBF := hid ((((B2.out.setCell (p := ⟨w.heap.size, 0, none⟩) (Nat.le_refl _) (.int .i64 0)).setCell (p := ⟨w.heap.size, 1, none⟩) (Nat.le_refl _) (.string (tx []))).setCell (p := ⟨w.heap.size, 2, none⟩) (Nat.le_refl _) (.int .i64 0)).setCell (p := ⟨w.heap.size, 3, none⟩) (Nat.le_refl _) (.slice none 0 0))
    clear hB5
    go_wp2
    refine bodyPost_ret (v := .tuple #[noR, .bool false, .int .i64 21]) (by simp [results, Tryz.results17, go_sem, n0, n1, n2, n3]) rfl ⟨HBF.out, Or.inl ⟨HH.out, rfl⟩⟩
  | true =>
    have HH := hid hh
    clear hh
    have HME := hid (met_any (h := h) HT2.out)
    go_wp2_with fail
    refine HME.out.mono ?_
    rintro en w3 ⟨rfl, hb3⟩
    have B3 := hid (below_2 B2.out hb3)
    have HR3 := hid (below_block hb3 HR2.out (lt_of_block HR2.out))
    have HT3 := hid (HT2.out.on hb3)
    clear r0 r1 r2 r3 f0 f1 f2 f3 hb3
    obtain ⟨r0, r1, r2, r3, f0, f1, f2, f3⟩ := rob_cells HR3.out
    by_cases hm : metN (ps.map Prod.fst) h < 0
    · have HM := hid hm
      have hB5 := rob_4 (rob_3 (rob_2 (rob_1 HR3.out 0) (tx [])) 0) (.slice none 0 0)
      obtain ⟨n0, n1, n2, n3, _, _, _, _⟩ := rob_cells hB5
      have HBF := hid ((((B3.out.setCell (p := ⟨w.heap.size, 0, none⟩) (Nat.le_refl _) (.int .i64 0)).setCell (p := ⟨w.heap.size, 1, none⟩) (Nat.le_refl _) (.string (tx []))).setCell (p := ⟨w.heap.size, 2, none⟩) (Nat.le_refl _) (.int .i64 0)).setCell (p := ⟨w.heap.size, 3, none⟩) (Nat.le_refl _) (.slice none 0 0))
      clear hB5
      go_wp2
      refine bodyPost_ret (v := .tuple #[noR, .bool false, .int .i64 0]) (by simp [results, Tryz.results17, go_sem, n0, n1, n2, n3]) rfl ⟨HBF.out, Or.inr (Or.inl ⟨HH.out, HM.out, rfl⟩)⟩
    · obtain ⟨j, r, hmj, hjr⟩ := metN_at hm
      have HMJ := hid (And.intro hjr hmj)
      obtain ⟨q, hq, hqr⟩ : ∃ q, ps[j]? = some q ∧ q.1 = r := by
        rw [List.getElem?_map, Option.map_eq_some_iff] at hjr
        obtain ⟨q, h1, h2⟩ := hjr
        exact ⟨q, h1, h2⟩
      subst hqr
      have hjl : j < ps.length := (List.getElem?_eq_some_iff.1 hq).1
      obtain ⟨lo, lc, hve, hnc, hform⟩ := HT3.out.list.form
      obtain ⟨g, rfl, _, _⟩ : ∃ g, lo = some ⟨g, 0, none⟩ ∧ Bp ≤ g ∧ g < w3.heap.size := by
        rcases hform with ⟨_, h0⟩ | h1
        · rw [h0] at hjl; simp at hjl
        · exact h1
      subst hve
      obtain ⟨q0, q1, q2, q3⟩ := HT3.out.list.cells hq
      have hpo := HT3.out.ports q (List.mem_of_getElem? hq)
      have hok := HT3.out.good.ok q.1 (List.mem_map_of_mem (List.mem_of_getElem? hq))
      have HSM := hid (errR_small hok)
      have t1 : w3.cell? ⟨tb, 1, none⟩ = some (.slice (some ⟨g, 0, none⟩) ps.length lc) := by rw [cell_at HT3.out.blk]; rfl
      obtain ⟨po, pl, pc, hqv⟩ := HT3.out.list.vals q (List.mem_of_getElem? hq)
      obtain ⟨⟨p', m', k', z'⟩, uv⟩ := q
      simp only at q0 q1 q2 q3 hqv hpo HSM HMJ hmj
      subst hqv
      have HCP := hid (fcopyOf_any (p := p') (k := k') (m := m') hpo.txs (fun z hz => by have := HSM.out.2.2.2 z hz; unfold maxLen; omega) HSM.out.1)
      have i0 : (0 : Int) ≤ (j : Int) := by omega
      have i1 : (j : Int) < (ps.length : Int) := by omega
      have i2 : ¬ ((j : Int) < 0) := by omega
      rw [hmj]
      clear hm hmj hjr hq hform hpo hok
      go_wp2_with fail
      refine HCP.out.mono ?_
      rintro en w5 ⟨v5, rfl, hp5, hb5⟩
      obtain ⟨ao5, c5, hv5, hc5⟩ := hp5.out
      subst hv5
      have HP5 := hid hp5.out
      have HR5 := hid (below_block hb5 HR3.out (lt_of_block HR3.out))
      have B5 := hid (below_2 B3.out hb5)
      have HSZ := hid (show w.heap.size ≤ w3.heap.size from B3.out.size)
      clear r0 r1 r2 r3 f0 f1 f2 f3 hb5 hp5 hc5 t1 q0 q1 q2 q3
      obtain ⟨r0, r1, r2, r3, f0, f1, f2, f3⟩ := rob_cells HR5.out
      have hB6 := rob_4 (rob_3 (rob_2 (rob_1 HR5.out p') (tx m')) k') (.slice ao5 z'.length c5)
      obtain ⟨n0, n1, n2, n3, _, _, _, _⟩ := rob_cells hB6
      have HBF := hid ((((B5.out.setCell (p := ⟨w.heap.size, 0, none⟩) (Nat.le_refl _) (.int .i64 p')).setCell (p := ⟨w.heap.size, 1, none⟩) (Nat.le_refl _) (.string (tx m'))).setCell (p := ⟨w.heap.size, 2, none⟩) (Nat.le_refl _) (.int .i64 k')).setCell (p := ⟨w.heap.size, 3, none⟩) (Nat.le_refl _) (.slice ao5 z'.length c5))
      have h5 := HR5.out
      have HPF := hid ((((HP5.out.store (k := 0) (u := .int .i64 p') h5).store (k := 1) (u := .string (tx m')) (rob_1 h5 p')).store (k := 2) (u := .int .i64 k') (rob_2 (rob_1 h5 p') _)).store (k := 3) (u := .slice ao5 z'.length c5) (rob_3 (rob_2 (rob_1 h5 p') _) k'))
      clear hB6 h5
      go_wp2
      refine bodyPost_ret (v := .tuple #[.agg #[.int .i64 p', .string (tx m'), .int .i64 k', .slice ao5 z'.length c5], .bool true, .int .i64 0]) (by simp [results, Tryz.results17, go_sem, n0, n1, n2, n3]) rfl ⟨HBF.out, Or.inr (Or.inr ⟨HH.out, j, _, _, _, _, HMJ.out.1, HMJ.out.2, rfl, HPF.out.mono HSZ.out⟩)⟩

/-- What Lookup tells. -/
def LookPost (w : World) (W : Int) (L : List Raw) (h : List UInt8) (e : Ending) (w' : World) : Prop :=
  Below w.heap.size w w' ∧ ((headB W h = false ∧ e = .returned (.tuple #[.agg #[.int .i64 0, .slice none 0 0], .int .i64 21])) ∨
    (headB W h = true ∧ metN L h < 0 ∧ e = .returned (.tuple #[.agg #[.int .i64 1, .slice none 0 0], .int .i64 0])) ∨
    (headB W h = true ∧ ∃ (j : Nat) (r : Raw) (ao : Option Addr) (n c : Nat), L[j]? = some r ∧ metN L h = (j : Int) ∧ e = .returned (.tuple #[.agg #[.int .i64 r.kind, .slice ao n c], .int .i64 0]) ∧ Ported w' w.heap.size (.slice ao n c) r.ports))

set_option maxRecDepth 20000 in
set_option maxHeartbeats 2000000 in
theorem Lookup_any {w : World} {Bp tb : Nat} {W : Int} {L : List Raw} {h : List UInt8} (hF : FTab w Bp tb W L) :
    Calls Tryz.prog 19 #[.pointer (some ⟨tb, 0, none⟩), .string (tx h)] w fun e w' => LookPost w W L h e w' := by
  have HB0 := hid (show Below w.heap.size w (w.alloc (aob 0 (.slice none 0 0))) from (Below.refl _ _).alloc (Nat.le_refl _) _)
  have HA0 := hid (new_0 w (aob 0 (.slice none 0 0)))
  have HM := hid (Meets_any (h := h) (hF.on HB0.out))
  clear hF
  go_enter Tryz.func19, Tryz.ntmps19
  go_wp2_with fail
  refine HM.out.mono ?_
  rintro en w2 ⟨hb2, (⟨hh, rfl⟩ | ⟨hh, hm, rfl⟩ | ⟨hh, j, r, ao, n, c, hj, hm, rfl, hp⟩)⟩
  · have B2 := hid (below_2 HB0.out hb2)
    have HH := hid hh
    have hA2 := below_block hb2 HA0.out (lt_of_block HA0.out)
    have HA2 := hid hA2
    have a0 : ∀ o, (w2.alloc o).cell? ⟨w.heap.size, 0, none⟩ = some (.int .i64 0) := fun o => by rw [cell_at (new_old _ o hA2)]; rfl
    have a1 : ∀ o, (w2.alloc o).cell? ⟨w.heap.size, 1, none⟩ = some (.slice none 0 0) := fun o => by rw [cell_at (new_old _ o hA2)]; rfl
    have g0 : ∀ o, (w2.alloc o).frozen? ⟨w.heap.size, 0, none⟩ = false := fun o => free_of (new_old _ o hA2)
    have g1 : ∀ o, (w2.alloc o).frozen? ⟨w.heap.size, 1, none⟩ = false := fun o => free_of (new_old _ o hA2)
    have hA3 := block_set (o := 1) (.slice none 0 0) (block_set (o := 0) (.int .i64 0) (new_old _ (rob 0 (tx []) 0 (.slice none 0 0)) hA2))
    have n0 := cell_at (o := 0) hA3
    have n1 := cell_at (o := 1) hA3
    simp at n0 n1
    have HBF := hid (((B2.out.alloc B2.out.size (rob 0 (tx []) 0 (.slice none 0 0))).setCell (p := ⟨w.heap.size, 0, none⟩) (Nat.le_refl _) (.int .i64 0)).setCell (p := ⟨w.heap.size, 1, none⟩) (Nat.le_refl _) (.slice none 0 0))
    clear hb2 hh hA2 hA3
    go_wp2
    refine bodyPost_ret (v := .tuple #[.agg #[.int .i64 0, .slice none 0 0], .int .i64 21]) (by simp [results, Tryz.results19, go_sem, n0, n1]) rfl ⟨HBF.out, Or.inl ⟨HH.out, rfl⟩⟩
  · have B2 := hid (below_2 HB0.out hb2)
    have HH := hid (And.intro hh hm)
    have hA2 := below_block hb2 HA0.out (lt_of_block HA0.out)
    have a0 : ∀ o, (w2.alloc o).cell? ⟨w.heap.size, 0, none⟩ = some (.int .i64 0) := fun o => by rw [cell_at (new_old _ o hA2)]; rfl
    have a1 : ∀ o, (w2.alloc o).cell? ⟨w.heap.size, 1, none⟩ = some (.slice none 0 0) := fun o => by rw [cell_at (new_old _ o hA2)]; rfl
    have g0 : ∀ o, (w2.alloc o).frozen? ⟨w.heap.size, 0, none⟩ = false := fun o => free_of (new_old _ o hA2)
    have g1 : ∀ o, (w2.alloc o).frozen? ⟨w.heap.size, 1, none⟩ = false := fun o => free_of (new_old _ o hA2)
    have hA3 := block_set (o := 1) (.slice none 0 0) (block_set (o := 0) (.int .i64 1) (new_old _ (rob 0 (tx []) 0 (.slice none 0 0)) hA2))
    have n0 := cell_at (o := 0) hA3
    have n1 := cell_at (o := 1) hA3
    simp at n0 n1
    have HBF := hid (((B2.out.alloc B2.out.size (rob 0 (tx []) 0 (.slice none 0 0))).setCell (p := ⟨w.heap.size, 0, none⟩) (Nat.le_refl _) (.int .i64 1)).setCell (p := ⟨w.heap.size, 1, none⟩) (Nat.le_refl _) (.slice none 0 0))
    clear hb2 hh hm hA2 hA3
    go_wp2
    refine bodyPost_ret (v := .tuple #[.agg #[.int .i64 1, .slice none 0 0], .int .i64 0]) (by simp [results, Tryz.results19, go_sem, n0, n1]) rfl ⟨HBF.out, Or.inr (Or.inl ⟨HH.out.1, HH.out.2, rfl⟩)⟩
  · have B2 := hid (below_2 HB0.out hb2)
    have HH := hid (And.intro hh (And.intro hj hm))
    have HP := hid hp
    have hA2 := below_block hb2 HA0.out (lt_of_block HA0.out)
    have HA2 := hid hA2
    obtain ⟨p', m', k', z'⟩ := r
    simp only at HP
    have a0 : ∀ o, (w2.alloc o).cell? ⟨w.heap.size, 0, none⟩ = some (.int .i64 0) := fun o => by rw [cell_at (new_old _ o hA2)]; rfl
    have a1 : ∀ o, (w2.alloc o).cell? ⟨w.heap.size, 1, none⟩ = some (.slice none 0 0) := fun o => by rw [cell_at (new_old _ o hA2)]; rfl
    have g0 : ∀ o, (w2.alloc o).frozen? ⟨w.heap.size, 0, none⟩ = false := fun o => free_of (new_old _ o hA2)
    have g1 : ∀ o, (w2.alloc o).frozen? ⟨w.heap.size, 1, none⟩ = false := fun o => free_of (new_old _ o hA2)
    have hA3 := block_set (o := 1) (.slice ao n c) (block_set (o := 0) (.int .i64 k') (new_old _ (rob p' (tx m') k' (.slice ao n c)) hA2))
    have n0 := cell_at (o := 0) hA3
    have n1 := cell_at (o := 1) hA3
    simp at n0 n1
    have HBF := hid (((B2.out.alloc B2.out.size (rob p' (tx m') k' (.slice ao n c))).setCell (p := ⟨w.heap.size, 0, none⟩) (Nat.le_refl _) (.int .i64 k')).setCell (p := ⟨w.heap.size, 1, none⟩) (Nat.le_refl _) (.slice ao n c))
    have HPF := hid (show Ported (((w2.alloc (rob p' (tx m') k' (.slice ao n c))).setCell ⟨w.heap.size, 0, none⟩ (.int .i64 k')).setCell ⟨w.heap.size, 1, none⟩ (.slice ao n c)) w.heap.size (.slice ao n c) z' from by
      obtain ⟨ao', c', e1, e2, q0 | ⟨b, e3, e4, cs', e5, e6⟩⟩ := (HP.out.mono (Nat.le_of_lt (by simp : w.heap.size < (w.alloc (aob 0 (.slice none 0 0))).heap.size))).on ((Below.refl _ w2).alloc (Nat.le_refl _) (rob p' (tx m') k' (.slice ao n c)))
      · exact ⟨ao', c', e1, e2, Or.inl q0⟩
      · refine ⟨ao', c', e1, e2, Or.inr ⟨b, e3, e4, cs', ?_, e6⟩⟩
        have hne : b ≠ w.heap.size := ne_type e5 (new_old _ _ HA2.out) (by decide)
        exact block_other _ (block_other _ e5 hne) hne)
    clear hb2 hh hm hj hp hA2 hA3
    go_wp2
    refine bodyPost_ret (v := .tuple #[.agg #[.int .i64 k', .slice ao n c], .int .i64 0]) (by simp [results, Tryz.results19, go_sem, n0, n1]) rfl ⟨HBF.out, Or.inr (Or.inr ⟨HH.out.1, j, _, _, _, _, HH.out.2.1, HH.out.2.2, rfl, HPF.out⟩)⟩

set_option maxRecDepth 4000 in
set_option maxHeartbeats 1000000 in
theorem Len_any {w : World} {Bp tb : Nat} {W : Int} {L : List Raw} (hF : FTab w Bp tb W L) :
    Calls Tryz.prog 15 #[.pointer (some ⟨tb, 0, none⟩)] w fun e w' => e = .returned (.int .i64 (L.length : Int)) ∧ w' = w := by
  obtain ⟨v, ps, ht, rfl⟩ := hF.ex
  obtain ⟨lo, lc, hv, _⟩ := ht.list.form
  subst hv
  have t1 : w.cell? ⟨tb, 1, none⟩ = some (.slice lo ps.length lc) := by rw [cell_at ht.blk]; rfl
  have HMD := hid (made_yes ht.blk)
  rw [List.length_map]
  clear ht hF
  go_enter Tryz.func15, Tryz.ntmps15
  go_wp2_with fail
  refine HMD.out.mono ?_
  rintro en w1 ⟨rfl, hw1⟩
  subst hw1
  go_wp2
  go_ret
  exact ⟨rfl, rfl⟩
end Go.Proofs.YtipmlcdnfaobiaaGreat
