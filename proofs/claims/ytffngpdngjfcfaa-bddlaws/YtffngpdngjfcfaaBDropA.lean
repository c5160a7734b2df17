/-
  drop: the walk.
-/
import Derived.Test.YtffngpdngjfcfaaBDrop
namespace Go.Proofs.Ytffngpdngjfcfaa
open Go.RowKit Go.Maps
open Bd (Nd)

/-- delete, as one step of a region that draws. -/
theorem step_delete {P : Program} {ops : Array Oper} {o : Oper} {a : Act} {w : World} {K : Act → World → Prop} {Q : Exit → Act → World → Prop} {E : Prop}
    (hg : o.guard = none) (m x : Operand) (t k : TypeId) (hop : o.op = Op.call { callee := Callee.builtin Builtin.delete, args := #[m, x], argTypes := #[t, k] }) (b : Nat) (key : Value) (w' : World) (hm : a.eval m = .map (some b)) (hx : a.eval x = key)
    (hrun : (Builtin.delete_ #[t, k] o.type #[.map (some b), key]).run P w = .ok (.tuple #[]) w') (hK : K (a.put o.dst (.tuple #[])) w') :
    if Region.wanted o (yielded ops a.tmps) = true then Oper.wp P o a w K Q else E := by
  have hw : Region.wanted o (yielded ops a.tmps) = true := by simp [Region.wanted, hg]
  rw [if_pos hw]
  unfold Oper.wp
  simp [execOp, hop, resolve, invoke, builtin, hm, hx, hrun, Result.andThen]
  exact hK

set_option maxHeartbeats 2000000 in
theorem drop_any {w : World} {y : Lay} {s : St} (hT : Tab w y s) (mark : Nat) (hm : mark ≤ s.L.length) (hr : ∀ n, n ∈ s.roots → n < mark + 2) :
    Calls Try.prog 81 #[.pointer (some ⟨y.tb, 3, none⟩), i6 mark] w fun e w' => e = .returned (.tuple #[]) ∧ ∃ y', Tab w' y' { s with L := s.L.take mark } ∧ Moves noX w y w' y' := by
  have HT := keep hT
  have HR := keep hr
  have HM := keep hm
  obtain ⟨ao, cap, hls⟩ := hT.list_slice
  have HLS := keep hls
  have c3 := hT.cell3
  rw [hls] at c3
  have hsl := hT.small
  have G0 : Hid (Gap w w y s.L mark 0) := by
    obtain ⟨f, hf, ha⟩ := hT.nodes
    exact ⟨⟨f, by rw [Nat.sub_zero]; exact hf, AtGap.start ha mark⟩, rfl, rfl, rfl, Nat.le_refl _, fun _ _ _ => rfl⟩
  have hcap : s.L.length ≤ cap ∧ (ao = none → s.L.length = 0 ∧ cap = 0) ∧ (∀ a, ao = some a → ∃ g, a = ⟨g, 0, none⟩) := by
    have hl := hT.list
    rw [hls] at hl
    rcases hl.2 with ⟨h1, h2⟩ | ⟨g, c, cur, h1, h2, h3, h4, h5, h6, h7⟩
    · injection h1 with e1 e2 e3
      exact ⟨by omega, fun _ => ⟨h2, by omega⟩, fun a ha => by rw [e1] at ha; cases ha⟩
    · injection h1 with e1 e2 e3
      exact ⟨by omega, (fun h => by rw [e1] at h; cases h), fun a ha => ⟨g, by rw [e1] at ha; cases ha; rfl⟩⟩
  obtain ⟨hc1, hc2, hc3⟩ := hcap
  obtain ⟨n, hn⟩ : ∃ n, n = s.L.length := ⟨_, rfl⟩
  have HN := keep hn
  rw [← hn] at c3 hc1 hc2 hm hsl
  have ltb := hT.lt y.own_tb
  have hmI : (mark : Int) ≤ (n : Int) := by omega
  have hm0 : (0 : Int) ≤ (mark : Int) := by omega
  have hcI : (n : Int) ≤ (cap : Int) := by omega
  have hnI : (n : Int) ≤ 1073741824 := by omega
  clear hT hr hls hn hsl
  obtain ⟨q, hq⟩ : ∃ q, q = n - mark := ⟨_, rfl⟩
  have HQ := keep hq
  have hqI : (q : Int) ≤ 1073741824 := by omega
  have HCC := keep (And.intro hc1 (And.intro hc2 hc3))
  clear hc1 hc2 hc3
  have fin : ∀ wr, Gap w wr y s.L mark q → wr.cell? ⟨y.tb, 3, none⟩ = some (.slice ao n cap) ∧ wr.frozen? ⟨y.tb, 3, none⟩ = false ∧ Hid (∃ y', Tab (wr.setCell ⟨y.tb, 3, none⟩ (.slice ao mark cap)) y' { s with L := s.L.take mark } ∧ Moves noX w y (wr.setCell ⟨y.tb, 3, none⟩ (.slice ao mark cap)) y') := by
    intro wr hG
    have hb := hG.block y.tb ltb (fun e => HT.out.apart.1 e.symm)
    refine ⟨by rw [World.cell?_of_block hb]; exact c3, by rw [World.frozen?_of_block hb]; exact not_frozen HT.out.cells, ?_⟩
    rw [HQ.out, HN.out] at hG
    exact ⟨_, drop_tab HT.out HM.out HR.out hG ao cap HLS.out⟩
  have FIN := keep fin
  clear fin
  cases ao with
  | none =>
    obtain ⟨h1, h2⟩ := HCC.out.2.1 rfl
    have h3 : mark = 0 := by omega
    have h4 : q = 0 := by omega
    subst h1
    subst h2
    subst h3
    clear hq HQ
    subst h4
    clear hmI hm0 hcI hnI hqI hm
    obtain ⟨r3, r4, R⟩ := FIN.out w G0.out
    go_enter Try.func81, Try.ntmps81
    go_wp2
    refine wp_loop_rounds 1 ?_
    rw [rounds_succ]
    go_wp2
    go_end0
    exact ⟨rfl, R.out⟩
  | some a =>
    obtain ⟨g, rfl⟩ := HCC.out.2.2 a rfl
    go_enter Try.func81, Try.ntmps81
    go_wp2
    all_goals (
      rw [← hq]
      clear hq
      try (
        have hcm : mark = cap := by omega
        subst hcm)
      go_loopw [13] (fun i wr => ∃ k : Nat, k ≤ q ∧ i = .int .i64 k ∧ Hid (Gap w wr y s.L mark k)) (fun i _ => q - (intOf i).toNat)
      case atStart => exact ⟨0, Nat.zero_le _, rfl, G0⟩
      case round =>
        obtain ⟨k, hk, rfl, H⟩ := hrel
        by_cases hlt : k < q
        · first
          | (exfalso; have h1 := HQ.out; have h2 := HCC.out.1; omega)
          | (
              have hqn := HQ.out
              have hnn := HN.out
              obtain ⟨x, hx⟩ : ∃ x, s.L[mark + k]? = some x := ⟨s.L[mark + k]'(by omega), List.getElem?_eq_getElem _⟩
              have hlr := HT.out.list
              rw [HLS.out, ← hnn] at hlr
              have hap := HT.out.apart
              have hgo : y.ls.ownBlock = some g := by rw [HLS.out]; rfl
              have hgl := HT.out.lt (y.own_ls hgo)
              have hadd : ∀ j, (⟨g, 0, none⟩ : Addr).add j = ⟨g, j, none⟩ := by intro j; unfold Addr.add; split <;> simp_all
              obtain ⟨f0, f1, f2⟩ := flat_at hx
              have d0 := hlr.cells (g := g) rfl _ _ f0
              have d1 := hlr.cells (g := g) rfl _ _ f1
              have d2 := hlr.cells (g := g) rfl _ _ f2
              rw [hadd] at d0 d1 d2
              have hgb := H.out.block g hgl (fun e => hap.2.2.2.2.1 (by rw [← e]; exact hgo))
              rw [← World.cell?_of_block hgb] at d0 d1 d2
              rw [show (mark + k) * 3 = mark * 3 + k * 3 by omega] at d0 d1 d2
              obtain ⟨f, hf, ha⟩ := H.out.nodes
              have hok := HT.out.okay
              have hfit := hok.fit _ _ hx
              obtain ⟨kl, hkl⟩ := key_node (a := x.1) (b := x.2.1) (c := x.2.2) (by have := hok.few; omega) (by omega) (by omega)
              obtain ⟨w2, hrun, hput, hg2⟩ := MapOf.drop_run (w := (wr.alloc (.cells #[i6 x.1, i6 x.2.1, i6 x.2.2] 82)).drew) (hf.same (heap_alloc_old wr _ hf.lt)) kNode Try.underlying47 hkl 0
              have NEXT : Hid (Gap w w2 y s.L mark (k + 1)) := by
                obtain ⟨f', hf'⟩ := upd_exists f (ndV x) none
                have hfx : f (ndV x) = some ((mark + k + 2 : Nat) : Int) := (ha x).1 _ hx (Or.inr (Nat.le_refl _))
                have hm2 := hput f' hf'
                have e5 : (f (.agg #[i6 x.1, i6 x.2.1, i6 x.2.2])).isSome = true := by
                  show (f (ndV x)).isSome = true
                  rw [hfx]; rfl
                rw [e5] at hm2
                have z2 : wr.heap.size + 1 ≤ w2.heap.size := by have := hg2.size; simpa using this
                refine ⟨⟨f', ?_, ha.next hok.nd hx hf'⟩, hg2.os.trans H.out.os, hg2.tape.trans H.out.tape, hg2.output.trans H.out.output, by have := H.out.size; omega, fun j hj hne => ?_⟩
                · rw [Nat.sub_add_eq]; exact hm2
                · have := H.out.size
                  rw [hg2.block j (by show j < (wr.alloc _).heap.size; simp; omega) (by simpa using hne)]
                  show (wr.alloc _).heap[j]? = _
                  rw [heap_alloc_old wr _ (show j < wr.heap.size by omega)]
                  exact H.out.block j hj hne
              have hb4 := H.out.block y.tb ltb (fun e => hap.1 e.symm)
              have e4 : wr.cell? ⟨y.tb, 4, none⟩ = some (.map (some y.mb)) := by rw [World.cell?_of_block hb4]; exact HT.out.cell4
              have hrun' : (Builtin.delete_ #[47, 82] 0 #[.map (some y.mb), .agg #[.int .i64 x.1, .int .i64 x.2.1, .int .i64 x.2.2]]).run Try.prog (wr.alloc (.cells #[.int .i64 x.1, .int .i64 x.2.1, .int .i64 x.2.2] 82)).drew = .ok (.tuple #[]) w2 := hrun
              have ltw : y.tb < wr.heap.size := by have := H.out.size; omega
              have e4a : ∀ o, (wr.alloc o).cell? ⟨y.tb, 4, none⟩ = some (.map (some y.mb)) := fun o => by rw [World.cell?_of_block (heap_alloc_old wr o ltw)]; exact e4
              have hkI : (k : Int) < (q : Int) := by omega
              have hk0 : (0 : Int) ≤ (k : Int) := by omega
              have HLT := keep hlt
              clear hx hlr hap hgo hgl hadd f0 f1 f2 hgb hf ha hok hfit hkl hrun hput hg2 hb4 hqn hnn H
              simp only [i6] at d0 d1 d2
              have HRUN := keep hrun'
              clear hrun'
              go_wp2
              go_region_law (refine step_delete rfl (.tmp 20) (.tmp 21) 47 82 rfl y.mb _ w2 rfl rfl HRUN.out ?_)
              all_goals
                go_wp2
                go_roundw
                case rel => exact ⟨k + 1, by have := HLT.out; omega, by go_num, NEXT.out⟩
                case measure => have := HLT.out; simp [intOf]; omega)
        · have hkq : k = q := by omega
          subst hkq
          obtain ⟨r3, r4, R⟩ := FIN.out wr H.out
          clear H
          go_wp2
          go_end0
          exact ⟨rfl, R.out⟩)
end Go.Proofs.Ytffngpdngjfcfaa
