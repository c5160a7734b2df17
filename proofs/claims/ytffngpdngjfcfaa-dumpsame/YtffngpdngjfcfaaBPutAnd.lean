/-
  ite: the two halves, the node, what is known then.
  ite: the ways that make no node, and what is known already.
  ite: what is known of three numbers; how many can be known.
  node: the number of a node, a new one if it is not there yet.
  put: nodes that are not there yet.
-/
import Derived.Test.YtffngpdngjfcfaaBMathAnd
import Derived.WalkSpells
import Derived.Deep.RegionLaw
namespace Go.Proofs.Ytffngpdngjfcfaa
open Go.RowKit Go.Maps
open Bd (Nd)

theorem Bd.Okay.front {bits : Nat} {A B : List Nd} (h : Bd.Okay bits (A ++ B)) : Bd.Okay bits A := by
  refine { few := h.few, nd := (List.nodup_append.1 h.nd).1, fit := ?_ }
  intro i x hx
  have hi := Bd.getElem?_lt hx
  obtain ⟨a, b, c, d, e, f⟩ := h.fit i x (by rw [List.getElem?_append_left hi]; exact hx)
  rw [Bd.bitOf_old _ _ (by omega)] at e f
  exact ⟨a, b, c, d, e, f⟩

/-- A store into a map, as one equation. -/
theorem MapOf.put_run {P : Program} {k e t : TypeId} {w : World} {b sz : Nat} {f : Value → Option Int} (h : MapOf P k e w b sz f) (K : Keyed P k) (ht : P.underlying t = some (.map k e)) (he : P.underlying e = some (.int .i64)) (hn : sz < maxLen)
    {key : Value} {kl : Lit} (hk : keyOf P k key = some kl) {c : Int} (hc : (Lit.int .i64 c).wf = true) :
    ∃ w', (Instr.mapUpdate t (.map (some b)) key (.int .i64 c)).run P w = .ok () w' ∧ (∀ f', Upd f key (some c) f' → MapOf P k e w' b (if (f key).isSome then sz else sz + 1) f') ∧ w.grownBy w' (some b) := by
  obtain ⟨D, h1, h2, h3⟩ := h
  obtain ⟨w', hrun, r1, r2⟩ := h1.update K ht hn hk (val := .int .i64 c) (d := .lit (.int .i64 c)) (ps := []) (plainElem_int he hc)
  exact ⟨w', hrun, mapOf_put K h1 h2 h3 hk r1, r2⟩

theorem Try.infoNode : (Try.prog.info? 82).map (fun i => (i.zero, i.size, i.bytes)) = some (some (.agg #[i6 0, i6 0, i6 0]), 3, 24) := by kernel_rfl

theorem take_succ_get {M : List Nd} {k : Nat} {x : Nd} (h : M[k]? = some x) : M.take (k + 1) = M.take k ++ [x] := by
  rw [List.take_add_one, h]; rfl

theorem set_other {w : World} {a : Addr} {k : Nat} (u : Value) (h : k ≠ a.block) : (w.setCell a u).heap[k]? = w.heap[k]? := Below.heap_setCell _ _ _ _ h

/-- Behind a round of put. -/
theorem put_tab {wr w2 w4 : World} {y1 : Lay} {s1 : St} {x : Nd} (hT : Tab wr y1 s1) (hok : Bd.Okay s1.bits (s1.L ++ [x])) (hsm : s1.L.length + 1 ≤ 1073741824) {o1 o2 : Obj} {f : Value → Option Int} (hf : AtMap s1.L f)
    (hput : ∀ f', Upd f (ndV x) (some ((s1.L.length + 2 : Nat) : Int)) f' → MapOf Try.prog 82 3 w2 y1.mb (if (f (ndV x)).isSome then s1.L.length else s1.L.length + 1) f')
    (hg2 : (wr.alloc o1).drew.grownBy w2 (some y1.mb)) {g cap : Nat} {v : Value} (hv : v = .slice (some ⟨g, 0, none⟩) (s1.L.length + 1) cap)
    (hown : w4.ownsRow 0 82 3 v (s1.L.length + 1) (flat s1.L ++ [i6 x.1, i6 x.2.1, i6 x.2.2])) (hg4 : (w2.alloc o2).drew.grownBy w4 y1.ls.ownBlock) (hat : y1.ls.ownBlock = some g ∨ g = w2.heap.size + 1) :
    Tab (w4.setCell ⟨y1.tb, 3, none⟩ v) { y1 with ls := v } { s1 with L := s1.L ++ [x] } ∧ Moves noX wr y1 (w4.setCell ⟨y1.tb, 3, none⟩ v) { y1 with ls := v } := by
  obtain ⟨a1, a2, a3, a4, a5, a6, a7, a8, a9⟩ := hT.apart
  have z2 : wr.heap.size + 1 ≤ w2.heap.size := by have := hg2.size; simpa using this
  have z4 : w2.heap.size + 1 ≤ w4.heap.size := by have := hg4.size; simpa using this
  have hxn : x ∉ s1.L := by
    intro hm
    have := (List.nodup_append.1 hok.nd).2.2 x hm x (by simp)
    exact this rfl
  have ltb := hT.lt y1.own_tb
  have old : ∀ k, k < wr.heap.size → k ≠ y1.mb → y1.ls.ownBlock ≠ some k → w4.heap[k]? = wr.heap[k]? := by
    intro k hk h1 h2
    rw [hg4.block k (by simp; omega) (fun e => h2 e.symm)]
    show (w2.alloc o2).heap[k]? = _
    rw [heap_alloc_old w2 o2 (show k < w2.heap.size by omega), hg2.block k (by show k < (wr.alloc o1).heap.size; simp; omega) (by simpa using h1)]
    show (wr.alloc o1).heap[k]? = _
    rw [heap_alloc_old wr o1 hk]
  have hgt : g ≠ y1.tb := by
    rcases hat with h | h
    · intro e; rw [e] at h; exact a3 h
    · omega
  have hgown : v.ownBlock = some g := by rw [hv]; rfl
  have hcells : w4.heap[y1.tb]? = _ := (old y1.tb ltb (fun e => a1 e.symm) a3).trans hT.cells
  have hset := set_block (o := 3) v hcells
  obtain ⟨f', hf'⟩ := upd_exists f (ndV x) (some ((s1.L.length + 2 : Nat) : Int))
  have hnone : f (ndV x) = none := (hf x).2 hxn
  have hm2 := hput f' hf'
  rw [hnone] at hm2
  have hmb : (w4.setCell ⟨y1.tb, 3, none⟩ v).heap[y1.mb]? = w2.heap[y1.mb]? := by
    rw [set_other v a1, hg4.block y1.mb (by have := hm2.lt; simp; omega) (fun e => a5 e.symm)]
    show (w2.alloc o2).heap[y1.mb]? = _
    rw [heap_alloc_old w2 o2 hm2.lt]
  obtain ⟨fr, hfr, hrr⟩ := hT.refs
  refine ⟨{ cells := ?_, list := ?_, roots := ?_, nodes := ⟨f', ?_, hf.snoc hxn hf'⟩, refs := ⟨fr, ?_, hrr⟩, two := hT.two, okay := hok, small := ?_, valid := ?_ }, ?_⟩
  · rw [hset]; rfl
  · have : (s1.L ++ [x]).length = s1.L.length + 1 := by simp
    show World.ownsRow _ 0 82 3 v (s1.L ++ [x]).length (flat (s1.L ++ [x]))
    rw [this, flat_snoc]
    exact row_same hown fun g' hg' => set_other v (by rw [hgown] at hg'; cases hg'; exact hgt)
  · refine row_same hT.roots fun g' hg' => ?_
    have hne : g' ≠ y1.tb := fun e => a4 (by rw [← e]; exact hg')
    rw [set_other v hne]
    exact old g' (hT.lt (y1.own_rs hg')) (fun e => a6 (by rw [← e]; exact hg')) (fun e => a9 g' e hg')
  · have : (s1.L ++ [x]).length = s1.L.length + 1 := by simp
    show MapOf _ _ _ _ y1.mb (s1.L ++ [x]).length f'
    rw [this]
    exact MapOf.same (by simpa using hm2) hmb
  · refine hfr.same ?_
    rw [set_other v a2]
    exact old y1.rm hfr.lt (fun e => hT.two e.symm) a7
  · have := hT.small
    have e : (s1.L ++ [x]).length = s1.L.length + 1 := by simp
    refine ⟨?_, this.2.1, this.2.2.1, this.2.2.2.1, this.2.2.2.2⟩
    show (s1.L ++ [x]).length ≤ _
    omega
  · refine ⟨hT.valid.1, fun n hn => ?_⟩
    have := hT.valid.2 n hn
    have e : (s1.L ++ [x]).length = s1.L.length + 1 := by simp
    refine ⟨this.1, ?_⟩
    show n < (s1.L ++ [x]).length + 2
    omega
  · refine ⟨rfl, ?_, ?_, ?_, ?_, ?_, ?_⟩
    · intro k hk
      rcases hk with h | h | h | h | h
      · exact Or.inl (Or.inl h)
      · exact Or.inl (Or.inr (Or.inl h))
      · exact Or.inl (Or.inr (Or.inr (Or.inl h)))
      · have : v.ownBlock = some k := h
        rw [hgown] at this
        cases this
        rcases hat with h | h
        · exact Or.inl (y1.own_ls h)
        · exact Or.inr (by omega)
      · exact Or.inl (y1.own_rs h)
    · exact hg4.os.trans hg2.os
    · exact hg4.tape.trans hg2.tape
    · exact hg4.output.trans hg2.output
    · have : (w4.setCell ⟨y1.tb, 3, none⟩ v).heap.size = w4.heap.size := by simp
      omega
    · intro k hk hn _
      have h1 : k ≠ y1.tb := fun e => hn (Or.inl e)
      rw [set_other v h1]
      exact old k hk (fun e => hn (Or.inr (Or.inl e))) (fun e => hn (y1.own_ls e))

set_option maxHeartbeats 2000000 in
theorem put_any {w : World} {y : Lay} {s : St} (hT : Tab w y s) (M : List Nd) (lv : Value) (hl : w.ownsRow 0 82 3 lv M.length (flat M)) (hdis : ∀ k, lv.ownBlock = some k → ¬ y.own k)
    (hok : Bd.Okay s.bits (s.L ++ M)) (hsm : (s.L ++ M).length ≤ 1073741824) :
    Calls Try.prog 40 #[.pointer (some ⟨y.tb, 3, none⟩), lv] w fun e w' => e = .returned (.tuple #[]) ∧ ∃ y', Tab w' y' { s with L := s.L ++ M } ∧ Moves noX w y w' y' := by
  obtain ⟨ao, cap, hlv⟩ : ∃ ao cap, lv = .slice ao M.length cap := by
    rcases hl.2 with ⟨e, e2⟩ | ⟨g, c, _, e, _⟩
    · exact ⟨none, 0, by rw [e2]; exact e⟩
    · exact ⟨_, _, e⟩
  subst hlv
  have HL := keep hl
  have HD := keep hdis
  have HO := keep hok
  have HS := keep hsm
  have HT := keep hT
  obtain ⟨i0, hi, hz0, hz1, hz2⟩ := info_parts Try.infoNode
  have HI := keep hi
  have HZ0 := keep hz0
  have HZ1 := keep hz1
  have HZ2 := keep hz2
  have c4 := hT.cell4
  clear hl hdis hok hsm hi hz0 hz1 hz2
  obtain ⟨n, hn⟩ : ∃ n, n = M.length := ⟨_, rfl⟩
  have HN := keep hn
  rw [← hn]
  clear hn
  clear hT
  have qT : ∀ (w : World) (r : Option Nat), (binOp .eql 47 (.map r) (.map none)).run Try.prog w = .ok (.bool r.isNone) w := fun w r => run_eql_map_nil w _ _ _ r Try.underlying47
  go_enter Try.func40, Try.ntmps40
  go_wp2
  go_loopw [19] (fun i wr => ∃ k : Nat, k ≤ n ∧ i = .int .i64 k ∧ ∃ y1, Tab wr y1 { s with L := s.L ++ M.take k } ∧ Moves noX w y wr y1) (fun i _ => n - (intOf i).toNat)
  case atStart => exact ⟨0, Nat.zero_le _, rfl, y, by simpa using HT.out, Moves.refl _ _ _⟩
  case round =>
    obtain ⟨k, hk, rfl, y1, hT1, hm1⟩ := hrel
    have hmn : n = M.length := HN.out
    by_cases hlt : k < n
    · obtain ⟨x, hx⟩ : ∃ x, M[k]? = some x := ⟨M[k]'(by omega), List.getElem?_eq_getElem (by omega)⟩
      have hlr := row_same (w' := wr) HL.out fun g hg => hm1.block g (HL.out.lt g hg).2 (HD.out g hg) (fun h => h)
      rw [← hmn] at hlr
      obtain ⟨g, cap', hv, _, hgl⟩ := hlr.form (by omega)
      cases hv
      have hadd : ∀ j, (⟨g, 0, none⟩ : Addr).add j = ⟨g, j, none⟩ := by intro j; unfold Addr.add; split <;> simp_all
      obtain ⟨f0, f1, f2⟩ := flat_at hx
      have d0 := hlr.cells rfl _ _ f0
      have d1 := hlr.cells rfl _ _ f1
      have d2 := hlr.cells rfl _ _ f2
      rw [hadd] at d0 d1 d2
      clear f0 f1 f2 hadd
      have hok1 : Bd.Okay s.bits ((s.L ++ M.take k) ++ [x]) := by
        have : s.L ++ M = ((s.L ++ M.take k) ++ [x]) ++ M.drop (k + 1) := by
          rw [List.append_assoc, List.append_assoc, ← List.append_assoc (M.take k), ← take_succ_get hx, List.take_append_drop]
        have h := HO.out
        rw [this] at h
        exact h.front
      have hfit := hok1.fit (s.L ++ M.take k).length x (by rw [List.getElem?_append_right (Nat.le_refl _)]; simp)
      have hxn : x ∉ s.L ++ M.take k := fun hm => (List.nodup_append.1 hok1.nd).2.2 x hm x (by simp) rfl
      have hsm1 : (s.L ++ M.take k).length + 1 ≤ 1073741824 := by
        have := HS.out
        simp only [List.length_append, List.length_take] at this ⊢
        omega
      have hf128 := HO.out.few
      have HTX : Hid (M.take (k + 1) = M.take k ++ [x]) := take_succ_get hx
      have ctb := hm1.tb
      have hTa := hT1.below (w' := wr.alloc (.cells #[i6 x.1, i6 x.2.1, i6 x.2.2] 82)) ((Below.refl _ _).alloc (Nat.le_refl _) _)
      have hls : ∃ ao cap, y1.ls = .slice ao (s.L ++ M.take k).length cap := by
        rcases hT1.list.2 with ⟨e, e2⟩ | ⟨g, c, _, e, _⟩
        · exact ⟨none, 0, by rw [e]; rw [show (s.L ++ M.take k).length = 0 from e2]⟩
        · exact ⟨_, _, e⟩
      obtain ⟨ao1, cap1, hls⟩ := hls
      obtain ⟨f, hf, ha⟩ := hTa.nodes
      obtain ⟨kl, hkl⟩ := key_node (a := x.1) (b := x.2.1) (c := x.2.2) (by omega) (by omega) (by omega)
      obtain ⟨l1, hl1⟩ : ∃ l1, l1 = (s.L ++ M.take k).length := ⟨_, rfl⟩
      obtain ⟨w2, hrun, hput, hg2⟩ := MapOf.put_run (w := (wr.alloc (.cells #[i6 x.1, i6 x.2.1, i6 x.2.2] 82)).drew) (hf.same rfl) kNode Try.underlying47 Try.underlying3 (by unfold maxLen; show (s.L ++ M.take k).length < _; omega) hkl (c := ((l1 + 2 : Nat) : Int)) (wf64 (by omega))
      have hrun' : (Instr.mapUpdate 47 (.map (some y1.mb)) (.agg #[.int .i64 x.1, .int .i64 x.2.1, .int .i64 x.2.2]) (.int .i64 ((l1 : Int) + 2))).run Try.prog (wr.alloc (.cells #[.int .i64 x.1, .int .i64 x.2.1, .int .i64 x.2.2] 82)).drew = .ok () w2 := by
        have e : ((l1 + 2 : Nat) : Int) = (l1 : Int) + 2 := by omega
        rw [← e]; exact hrun
      have e3 : wr.cell? ⟨y.tb, 3, none⟩ = some (.slice ao1 l1 cap1) := by rw [← ctb, hl1, ← hls]; exact hT1.cell3
      have e4 : wr.cell? ⟨y.tb, 4, none⟩ = some (.map (some y1.mb)) := by rw [← ctb]; exact hT1.cell4
      have ltb : y.tb < wr.heap.size := by rw [← ctb]; exact hT1.lt y1.own_tb
      have hlI : (l1 : Int) ≤ 1073741824 := by omega
      have hkI : (k : Int) < (n : Int) := by omega
      have hnI : (n : Int) ≤ 1073741824 := by
        have := HS.out
        simp only [List.length_append] at this
        omega
      have ap := hT1.apart
      have z2 := hg2.size
      have k3 : w2.cell? ⟨y.tb, 3, none⟩ = some (.slice ao1 l1 cap1) := by
        rw [hg2.cell_far _ (by show y.tb < (wr.alloc _).heap.size; simp; omega) (by rw [← ctb]; simpa using fun e => ap.1 e.symm)]
        show (wr.alloc _).cell? _ = _
        rw [World.cell?_of_block (heap_alloc_old _ _ ltb)]; exact e3
      have kB := hg2.block wr.heap.size (by show wr.heap.size < (wr.alloc _).heap.size; simp) (by have := hT1.lt y1.own_mb; simp; omega)
      have kB' : w2.heap[wr.heap.size]? = some (.cells #[i6 x.1, i6 x.2.1, i6 x.2.2] 82 (0, 0)) := kB.trans (heap_alloc_new wr _)
      have b0 : w2.cell? ⟨wr.heap.size, 0, none⟩ = some (i6 x.1) := by rw [cell_at kB']; rfl
      have b1 : w2.cell? ⟨wr.heap.size, 1, none⟩ = some (i6 x.2.1) := by rw [cell_at kB']; rfl
      have b2 : w2.cell? ⟨wr.heap.size, 2, none⟩ = some (i6 x.2.2) := by rw [cell_at kB']; rfl
      have HT1 := keep hT1
      have HP := keep hput
      have HG2 := keep hg2
      have HA := keep ha
      have HM1 := keep hm1
      have HLR := keep hlr
      have HOK := keep hok1
      have HLS := keep hls
      have HL1 := keep hl1
      have HSM := keep hsm1
      clear hT1 hput hg2 ha hm1 hlr hok1 hls hl1 hsm1 hTa hf hrun hfit hxn kB hx hmn ap
      simp only [i6] at d0 d1 d2 b0 b1 b2
      have HOWN : Hid (∀ o, (w2.alloc o).drew.ownsRow 0 82 3 (.slice ao1 l1 cap1) l1 (flat (s.L ++ M.take k))) := by
        intro o
        have h := HT1.out.list
        rw [HLS.out] at h
        rw [HL1.out]
        refine row_same h fun g hg => ?_
        have hgo : y1.ls.ownBlock = some g := by rw [HLS.out]; exact hg
        have hglt := HT1.out.lt (y1.own_ls hgo)
        have h1 : g < (wr.alloc (.cells #[i6 x.1, i6 x.2.1, i6 x.2.2] 82)).heap.size := by simp; omega
        show (w2.alloc o).heap[g]? = _
        rw [heap_alloc_old w2 o (Nat.lt_of_lt_of_le h1 HG2.out.size), HG2.out.block g h1 (fun e => by cases e; exact HT1.out.apart.2.2.2.2.1 hgo)]
        exact heap_alloc_old wr _ hglt
      have kT : ∀ w4, (w2.alloc (.cells #[.int .i64 x.1, .int .i64 x.2.1, .int .i64 x.2.2] 82)).drew.grownBy w4 (Value.slice ao1 l1 cap1).ownBlock → w4.cell? ⟨y.tb, 3, none⟩ = some (.slice ao1 l1 cap1) ∧ w4.frozen? ⟨y.tb, 3, none⟩ = false ∧ w4.cell? ⟨wr.heap.size, 0, none⟩ = some (.int .i64 x.1) ∧ w4.cell? ⟨wr.heap.size, 1, none⟩ = some (.int .i64 x.2.1) ∧ w4.cell? ⟨wr.heap.size, 2, none⟩ = some (.int .i64 x.2.2) := by
        intro w4 hg
        have hlsb : (Value.slice ao1 l1 cap1).ownBlock = y1.ls.ownBlock := by rw [HLS.out, HL1.out]
        rw [hlsb] at hg
        have hap := HT1.out.apart
        have s2 : wr.heap.size + 1 ≤ w2.heap.size := by have := HG2.out.size; simpa using this
        have g1 : w4.heap[y.tb]? = w2.heap[y.tb]? := by
          rw [hg.block y.tb (by show y.tb < (w2.alloc _).heap.size; simp; omega) (by rw [← ctb]; exact fun e => hap.2.2.1 e.symm)]
          exact heap_alloc_old w2 _ (by omega)
        have g2 : w4.heap[wr.heap.size]? = w2.heap[wr.heap.size]? := by
          rw [hg.block wr.heap.size (by show wr.heap.size < (w2.alloc _).heap.size; simp; omega) (fun e => by have := HT1.out.lt (y1.own_ls e.symm); omega)]
          exact heap_alloc_old w2 _ (by omega)
        have fz : w2.frozen? ⟨y.tb, 3, none⟩ = false := by
          rw [HG2.out.frozen_far _ (by show y.tb < (wr.alloc _).heap.size; simp; omega) (by rw [← ctb]; simpa using fun e => hap.1 e.symm)]
          show (wr.alloc _).frozen? _ = _
          rw [World.frozen?_of_block (heap_alloc_old _ _ ltb), ← ctb]
          exact not_frozen HT1.out.cells
        exact ⟨by rw [World.cell?_of_block g1]; exact k3, by rw [World.frozen?_of_block g1]; exact fz, by rw [World.cell?_of_block g2]; exact b0, by rw [World.cell?_of_block g2]; exact b1, by rw [World.cell?_of_block g2]; exact b2⟩
      have KT := keep kT
      clear kT
      have k3a : ∀ o, (w2.alloc o).cell? ⟨y.tb, 3, none⟩ = some (.slice ao1 l1 cap1) := by
        intro o
        have s2 : wr.heap.size + 1 ≤ w2.heap.size := by have := HG2.out.size; simpa using this
        rw [World.cell?_of_block (heap_alloc_old w2 o (show y.tb < w2.heap.size by omega))]; exact k3
      go_wp2
      go_region
      go_wp2
      go_region_law (first | (refine step_append_lies _ rfl (.tmp 38) (.tmp 40) 46 rfl 0 82 i0 (.agg #[i6 0, i6 0, i6 0]) 3 24 Try.underlying46 HI.out HZ0.out HZ1.out HZ2.out rfl (by decide) (.slice ao1 l1 cap1) l1 (flat (s.L ++ M.take k)) rfl (HOWN.out _) ⟨w2.heap.size, 0, none⟩ 1 1 [.int .i64 x.1, .int .i64 x.2.1, .int .i64 x.2.2] rfl rfl (World.news_of_block (heap_alloc_new w2 _)) (by simp [Value.oneCell']) (by decide) (by unfold maxLen; omega) (by omega) (Nat.zero_le _) (w2.heap.size + 1) (by simp) ?_; intro g4 cap4 w4 hown4 hgrow4 hat4 hlt4; obtain ⟨q3, qf, q0, q1, q2⟩ := KT.out w4 hgrow4))
      all_goals
        go_wp2
        go_roundw
        case rel =>
          refine ⟨k + 1, by omega, by go_num, { y1 with ls := .slice (some ⟨g4, 0, none⟩) (l1 + 1) cap4 }, ?_⟩
          have hlsb : (Value.slice ao1 l1 cap1).ownBlock = y1.ls.ownBlock := by rw [HLS.out, HL1.out]
          rw [hlsb] at hgrow4 hat4
          have R := put_tab HT1.out HOK.out HSM.out HA.out (by have := HP.out; rw [HL1.out] at this; exact this) HG2.out (v := .slice (some ⟨g4, 0, none⟩) (l1 + 1) cap4) (by rw [HL1.out]) (by have := hown4; rw [HL1.out] at this ⊢; exact this) hgrow4 hat4
          rw [← ctb, HTX.out, ← List.append_assoc]
          exact ⟨R.1, HM1.out.trans R.2⟩
        case measure => simp [intOf]; omega
    · have hkn : k = n := by omega
      subst hkn
      have hend : M.take k = M := by rw [hmn]; exact List.take_length
      rw [hend] at hT1
      have HR := keep (And.intro hT1 hm1)
      clear hT1 hm1 hend hmn hlt
      go_wp2
      go_end0
      exact ⟨rfl, y1, HR.out⟩
end Go.Proofs.Ytffngpdngjfcfaa
namespace Go.Proofs.Ytffngpdngjfcfaa
open Go.RowKit Go.Maps
open Bd (Nd)

/-- A step in memory. -/
def StepAt (w : World) (sb tb room kb : Nat) : Prop := w.heap[sb]? = some (.cells #[.pointer (some ⟨tb, 3, none⟩), i6 room, .map (some kb)] 142 (0, 0))

/-- What a call that makes nodes leaves. -/
structure Grew (X : Nat → Prop) {bits M : Nat} (A : Bd.Fam bits M) (w : World) (y : Lay) (s : St) (w' : World) (r : Nat) (f : Bd.Fn) : Prop where
  ex : ∃ N y', Tab w' y' { s with L := s.L ++ N } ∧ Bd.Within A (s.L ++ N) ∧ r < (s.L ++ N).length + 2 ∧ Bd.den (s.L ++ N) r = f ∧ Moves X w y w' y'

theorem Grew.same {X : Nat → Prop} {bits M : Nat} {A : Bd.Fam bits M} {w w' : World} {y : Lay} {s : St} {r : Nat} {f : Bd.Fn} (hT : Tab w y s) (hW : Bd.Within A s.L) (hr : r < s.L.length + 2) (hf : Bd.den s.L r = f) (hb : Below w.heap.size w w') :
    Grew X A w y s w' r f := by
  refine ⟨[], y, ?_, ?_, ?_, ?_, moves_below y hb⟩
  · rw [List.append_nil]; exact hT.below hb
  · rw [List.append_nil]; exact hW
  · rw [List.append_nil]; exact hr
  · rw [List.append_nil]; exact hf

theorem row_one (w : World) (x : Nd) : (w.alloc (.cells #[i6 x.1, i6 x.2.1, i6 x.2.2] 82)).ownsRow 0 82 3 (.slice (some ⟨w.heap.size, 0, none⟩) 1 1) [x].length (flat [x]) :=
  ⟨by simp [flat], Or.inr ⟨w.heap.size, 1, _, rfl, Nat.zero_le _, heap_alloc_new w _, Nat.le_refl _, by unfold maxLen; omega, rfl, by simp [flat]⟩⟩

theorem out_of_grew {X : Nat → Prop} {bits M : Nat} {A : Bd.Fam bits M} {w w' w'' : World} {y : Lay} {s : St} {r : Nat} {f : Bd.Fn} (h : Grew X A w y s w' r f) (hb : Below w'.heap.size w' w'') : Grew X A w y s w'' r f := by
  obtain ⟨N, y', h1, h2, h3, h4, h5⟩ := h.ex
  exact ⟨N, y', h1.below hb, h2, h3, h4, h5.trans (moves_below y' hb)⟩

/-- put, as node calls it. -/
theorem put_new {M : Nat} {w : World} {y : Lay} {s : St} (A : Bd.Fam s.bits M) (hT : Tab w y s) (sb room kb : Nat) (hS : StepAt w sb y.tb room kb) (hns : ¬ y.own sb)
    (k lo hi : Nat) (hok : Bd.Okay s.bits (s.L ++ [(k, lo, hi)])) (hW : Bd.Within A (s.L ++ [(k, lo, hi)])) (hsm : s.L.length + 1 ≤ 1073741824) :
    Calls Try.prog 40 #[.pointer (some ⟨y.tb, 3, none⟩), .slice (some ⟨w.heap.size + 1, 0, none⟩) 1 1] ((w.alloc (.cells #[.int .i64 k, .int .i64 lo, .int .i64 hi] 82)).alloc (.cells #[.int .i64 k, .int .i64 lo, .int .i64 hi] 82)).drew.drew.drew
      fun e w5 => e = .returned (.tuple #[]) ∧ ∃ mb, w5.cell? ⟨sb, 0, none⟩ = some (.pointer (some ⟨y.tb, 3, none⟩)) ∧ w5.cell? ⟨w.heap.size, 0, none⟩ = some (.int .i64 k) ∧ w5.cell? ⟨w.heap.size, 1, none⟩ = some (.int .i64 lo) ∧ w5.cell? ⟨w.heap.size, 2, none⟩ = some (.int .i64 hi) ∧
        w5.cell? ⟨y.tb, 4, none⟩ = some (.map (some mb)) ∧ (Instr.lookup 47 (.map (some mb)) (.agg #[.int .i64 k, .int .i64 lo, .int .i64 hi]) false).run Try.prog w5.drew = .ok (.int .i64 ((s.L.length : Int) + 2)) w5.drew ∧
        Grew noX A w y s w5.drew (s.L.length + 2) (Bd.mux k (Bd.den s.L lo) (Bd.den s.L hi)) := by
  have hB : Below w.heap.size w ((w.alloc (.cells #[.int .i64 k, .int .i64 lo, .int .i64 hi] 82)).alloc (.cells #[.int .i64 k, .int .i64 lo, .int .i64 hi] 82)).drew.drew.drew :=
    ((((Below.refl _ _).alloc (Nat.le_refl _) _).alloc (by simp) _).drew).drew.drew
  have hrow : (((w.alloc (.cells #[.int .i64 k, .int .i64 lo, .int .i64 hi] 82)).alloc (.cells #[.int .i64 k, .int .i64 lo, .int .i64 hi] 82)).drew.drew.drew).ownsRow 0 82 3 (.slice (some ⟨w.heap.size + 1, 0, none⟩) 1 1) [(k, lo, hi)].length (flat [(k, lo, hi)]) := by
    have h := row_one (w.alloc (.cells #[.int .i64 k, .int .i64 lo, .int .i64 hi] 82)) (k, lo, hi)
    have e : (w.alloc (.cells #[.int .i64 k, .int .i64 lo, .int .i64 hi] 82)).heap.size = w.heap.size + 1 := by simp
    rw [e] at h
    exact row_same h fun _ _ => rfl
  have lsb := block_lt hS
  refine (put_any (hT.below hB) [(k, lo, hi)] _ hrow ?_ hok (by simpa using hsm)).mono ?_
  · intro b hb ho
    have := hT.lt ho
    simp [Value.ownBlock] at hb
    omega
  · rintro e w5 ⟨rfl, y5, hT5, hm5⟩
    have h1 := hm5.block w.heap.size (by show w.heap.size < ((w.alloc _).alloc _).heap.size; simp <;> omega) (fun ho => by have := hT.lt ho; omega) (fun h => h)
    have h2 : w5.heap[w.heap.size]? = some (.cells #[.int .i64 k, .int .i64 lo, .int .i64 hi] 82 (0, 0)) := by
      rw [h1]
      show ((w.alloc _).alloc _).heap[w.heap.size]? = _
      rw [heap_alloc_old _ _ (by simp)]
      exact heap_alloc_new w _
    refine ⟨rfl, y5.mb, ?_, ?_, ?_, ?_, ?_, ?_, ?_⟩
    · have h1 := hm5.block sb (by show sb < ((w.alloc _).alloc _).heap.size; simp; omega) hns (fun h => h)
      rw [World.cell?_of_block h1, hB.cell lsb, cell_at hS]; rfl
    · rw [cell_at h2]; rfl
    · rw [cell_at h2]; rfl
    · rw [cell_at h2]; rfl
    · have := hT5.cell4
      rw [hm5.tb] at this
      exact this
    · obtain ⟨f, hf, ha⟩ := hT5.nodes
      have hfit := hok.fit s.L.length (k, lo, hi) (by rw [List.getElem?_append_right (Nat.le_refl _)]; simp)
      have hf128 := hok.few
      obtain ⟨kl, hkl⟩ := key_node (a := k) (b := lo) (c := hi) (by have := hfit.2.2.2.1; simp at this; omega) (by have := hfit.1; simp at this; omega) (by have := hfit.2.1; simp at this; omega)
      have h1 := MapOf.look1 (w := w5.drew) (hf.same rfl) kNode Try.underlying47 Try.underlying3 (zero_int _) hkl
      have h2 : f (.agg #[i6 k, i6 lo, i6 hi]) = some ((s.L.length + 2 : Nat) : Int) := (ha (k, lo, hi)).1 s.L.length (by show (s.L ++ [(k, lo, hi)])[s.L.length]? = _; rw [List.getElem?_append_right (Nat.le_refl _)]; simp)
      rw [h2] at h1
      exact h1
    · refine out_of_grew ⟨[(k, lo, hi)], y5, hT5, hW, ?_, Bd.den_snoc_new _ _, (moves_below y hB).trans hm5⟩ (Below.refl _ _).drew
      simp

set_option maxHeartbeats 2000000 in
theorem node_any {M : Nat} {w : World} {y : Lay} {s : St} (A : Bd.Fam s.bits M) (hT : Tab w y s) (hW : Bd.Within A s.L) (sb room kb : Nat) (hS : StepAt w sb y.tb room kb) (hns : ¬ y.own sb) (hroom : s.bits * M ≤ room) (hr3 : room ≤ 1073741824)
    (k lo hi : Nat) (hk : k < s.bits) (hlo : lo < s.L.length + 2) (hhi : hi < s.L.length + 2) (hlb : k < Bd.bitOf s.L lo) (hhb : k < Bd.bitOf s.L hi) (hF : A.F k (Bd.mux k (Bd.den s.L lo) (Bd.den s.L hi))) :
    Calls Try.prog 86 #[.pointer (some ⟨sb, 0, none⟩), i6 k, i6 lo, i6 hi] w fun e w' => ∃ r, e = .returned (i6 r) ∧ Grew noX A w y s w' r (Bd.mux k (Bd.den s.L lo) (Bd.den s.L hi)) := by
  by_cases hlh : lo = hi
  · subst hlh
    have HR : Hid (Grew noX A w y s w lo (Bd.mux k (Bd.den s.L lo) (Bd.den s.L lo))) := Grew.same hT hW hlo (Bd.mux_same _ _).symm (Below.refl _ _)
    clear hT hW hF hS
    go_enter Try.func86, Try.ntmps86
    go_wp2
    go_ret
    exact ⟨lo, rfl, HR.out⟩
  · have hf128 := hT.okay.few
    have hsm := hT.small.1
    have hneI : ((lo : Int) == (hi : Int)) = false := by rw [beq_eq_false_iff_ne]; omega
    obtain ⟨kl, hkl⟩ := key_node (a := k) (b := lo) (c := hi) (by omega) (by omega) (by omega)
    have s0 : w.cell? ⟨sb, 0, none⟩ = some (.pointer (some ⟨y.tb, 3, none⟩)) := by rw [cell_at hS]; rfl
    have s1 : w.cell? ⟨sb, 1, none⟩ = some (i6 room) := by rw [cell_at hS]; rfl
    have ltb := hT.lt y.own_tb
    have lsb := block_lt hS
    have hTa := hT.below (w' := (w.alloc (.cells #[i6 k, i6 lo, i6 hi] 82))) ((Below.refl _ _).alloc (Nat.le_refl _) _)
    obtain ⟨f, hf, ha⟩ := hTa.nodes
    have hlook := MapOf.look (w := (w.alloc (.cells #[i6 k, i6 lo, i6 hi] 82)).drew) (hf.same rfl) kNode Try.underlying47 Try.underlying3 (zero_int _) hkl
    have c4 := hT.cell4
    simp only [i6] at s1
    by_cases hin : (k, lo, hi) ∈ s.L
    · obtain ⟨i, hi', hx⟩ := List.getElem_of_mem hin
      have hx' : s.L[i]? = some (k, lo, hi) := by rw [List.getElem?_eq_getElem hi', hx]
      have hfx : f (.agg #[i6 k, i6 lo, i6 hi]) = some ((i + 2 : Nat) : Int) := (ha (k, lo, hi)).1 i hx'
      rw [hfx] at hlook
      simp only [Option.getD_some, Option.isSome_some, i6] at hlook
      have HR : Hid (Grew noX A w y s (w.alloc (.cells #[.int .i64 k, .int .i64 lo, .int .i64 hi] 82)).drew (i + 2) (Bd.mux k (Bd.den s.L lo) (Bd.den s.L hi))) :=
        Grew.same hT hW (by omega) (Bd.den_at hT.okay hx') ((Below.refl _ _).alloc (Nat.le_refl _) _).drew
      clear hT hW hF hS hTa hf ha hfx hx hx' hin hkl hi'
      go_enter Try.func86, Try.ntmps86
      go_wp2
      go_region
      go_wp2
      go_ret
      exact ⟨i + 2, rfl, HR.out⟩
    · have hfx : f (.agg #[i6 k, i6 lo, i6 hi]) = none := (ha (k, lo, hi)).2 hin
      rw [hfx] at hlook
      simp only [Option.getD_none, Option.isSome_none, i6] at hlook
      have hok := hT.okay.snoc hin hlo hhi hlh hk hlb hhb
      have hW' : Bd.Within A (s.L ++ [(k, lo, hi)]) := hW.snoc hF
      have hfew := hW'.few hok
      have hlen : s.L.length + 1 ≤ room := by
        have e : (s.L ++ [(k, lo, hi)]).length = s.L.length + 1 := by simp
        omega
      have hls : ∃ ao cap, y.ls = .slice ao s.L.length cap := by
        rcases hT.list.2 with ⟨e, e2⟩ | ⟨g, c, _, e, _⟩
        · exact ⟨none, 0, by rw [e]; rw [e2]⟩
        · exact ⟨_, _, e⟩
      obtain ⟨ao, cap, hls⟩ := hls
      have c3 := hT.cell3
      rw [hls] at c3
      have hnI : ¬ ((room : Int) ≤ (s.L.length : Int)) := by omega
      have c3a : ∀ o, (w.alloc o).cell? ⟨y.tb, 3, none⟩ = some (.slice ao s.L.length cap) := by
        intro o
        rw [World.cell?_of_block (heap_alloc_old w o ltb)]; exact c3
      have s0a : ∀ o, (w.alloc o).cell? ⟨sb, 0, none⟩ = some (.pointer (some ⟨y.tb, 3, none⟩)) := by
        intro o
        rw [World.cell?_of_block (heap_alloc_old w o lsb)]; exact s0
      have HT := keep hT
      have HP := keep (put_new A hT sb room kb hS hns k lo hi hok hW' (by omega))
      clear hT hW hF hS hTa hf ha hfx hin hkl hok hW' hfew hlh
      obtain ⟨len, hlen0⟩ : ∃ len, len = s.L.length := ⟨_, rfl⟩
      have HLEN := keep hlen0
      rw [← hlen0] at c3 c3a hnI hsm hlen hlo hhi
      have hp := HP.out
      rw [← hlen0] at hp
      have HP := keep hp
      clear hp
      clear hlen0
      go_enter Try.func86, Try.ntmps86
      go_wp2
      go_region
      go_wp2
      have hnd : decide (room ≤ len) = false := by simp; omega
      go_region
      go_wp2_with fail
      go_region_held3 (fun w' => w'.cell? ⟨sb, 0, none⟩ = some (.pointer (some ⟨y.tb, 3, none⟩)) ∧ w'.cell? ⟨w.heap.size, 0, none⟩ = some (.int .i64 k) ∧ w'.cell? ⟨w.heap.size, 1, none⟩ = some (.int .i64 lo) ∧ w'.cell? ⟨w.heap.size, 2, none⟩ = some (.int .i64 hi)) (first | (go_keep; done) | exact ⟨q1, q2, q3, q4⟩) (first | (go_at_call 40; refine HP.out.mono ?_; rintro e w5 ⟨rfl, mb, q1, q2, q3, q4, q5, q6, q7⟩))
      have HG := keep q7
      clear q7
      go_wp2
      go_region
      go_wp2
      go_ret
      exact ⟨len + 2, rfl, HG.out⟩
end Go.Proofs.Ytffngpdngjfcfaa
namespace Go.Proofs.Ytffngpdngjfcfaa
open Go.RowKit Go.Maps
open Bd (Nd)

def arV (a b c : Nat) : Value := .agg #[i6 a, i6 b, i6 c]
theorem arV_inj {a b c a' b' c' : Nat} (h : arV a b c = arV a' b' c') : a = a' ∧ b = b' ∧ c = c' := by
  simp [arV] at h
  omega

/-- What stands under three numbers is the number of the one where another holds, else the third. -/
def KnownOk (L : List Nd) (f : Value → Option Int) : Prop := ∀ key kl v, keyOf Try.prog 91 key = some kl → f key = some v → ∃ a b c r : Nat, key = arV a b c ∧ v = (r : Int) ∧
  a < L.length + 2 ∧ b < L.length + 2 ∧ c < L.length + 2 ∧ r < L.length + 2 ∧ Bd.den L r = Bd.iteF (Bd.den L a) (Bd.den L b) (Bd.den L c)

theorem KnownOk.grow {L : List Nd} {f : Value → Option Int} (h : KnownOk L f) (N : List Nd) : KnownOk (L ++ N) f := by
  intro key kl v hk hv
  obtain ⟨a, b, c, r, h1, h2, h3, h4, h5, h6, h7⟩ := h key kl v hk hv
  have e : (L ++ N).length = L.length + N.length := List.length_append
  refine ⟨a, b, c, r, h1, h2, by omega, by omega, by omega, by omega, ?_⟩
  rw [Bd.den_append_old _ _ h6, Bd.den_append_old _ _ h3, Bd.den_append_old _ _ h4, Bd.den_append_old _ _ h5]
  exact h7
theorem KnownOk.put {L : List Nd} {f f' : Value → Option Int} (h : KnownOk L f) {a b c r : Nat} (ha : a < L.length + 2) (hb : b < L.length + 2) (hc : c < L.length + 2) (hr : r < L.length + 2) (hd : Bd.den L r = Bd.iteF (Bd.den L a) (Bd.den L b) (Bd.den L c))
    (hu : Upd f (arV a b c) (some (r : Int)) f') : KnownOk L f' := by
  intro key kl v hk hv
  by_cases e : key = arV a b c
  · subst e
    rw [hu.1] at hv
    cases hv
    exact ⟨a, b, c, r, rfl, rfl, ha, hb, hc, hr, hd⟩
  · rw [hu.2 _ e] at hv
    exact h key kl v hk hv

theorem any_sorted (p : Lit × DataW Unit → Bool) : ∀ l : List (Lit × DataW Unit), (l.foldr DataW.insert []).any p = l.any p
  | [] => rfl
  | x :: r => by rw [List.foldr_cons, Maps.any_insert, any_sorted p r, List.any_cons]

/-- A map has no more entries than there are numbers for its keys. -/
theorem MapOf.few {P : Program} {k e : TypeId} {w : World} {b sz : Nat} {f : Value → Option Int} (h : MapOf P k e w b sz f) (K : Keyed P k) (g : Value → Nat) (B : Nat)
    (hg : ∀ key kl, keyOf P k key = some kl → (f key).isSome = true → g key < B) (hi : ∀ key key' kl kl', keyOf P k key = some kl → keyOf P k key' = some kl' → (f key).isSome = true → (f key').isSome = true → g key = g key' → key = key') : sz ≤ B := by
  obtain ⟨D, ⟨es, clock, hb, F, hs, hD⟩, h2, h3⟩ := h
  have hsz : sz = es.toList.length := by rw [← h2, hD]; simp [Maps.size, length_sorted]
  have hkey : ∀ x ∈ es.toList, ∃ kl, keyOf P k x.key = some kl ∧ (f x.key).isSome = true := by
    intro x hx
    obtain ⟨y, hy⟩ := F.reads x hx
    have hk := WideElems.rd_key hy
    refine ⟨y.1, hk, ?_⟩
    rw [← (h3 _ _ hk).1, hD, Maps.has_eq, any_sorted, List.any_eq_true]
    refine ⟨WideElems.rg P k (plainElem P e) x, List.mem_map.2 ⟨x, hx, rfl⟩, ?_⟩
    rw [WideElems.rg_of hy]
    exact WideAt.sameKey_self (K.key hk)
  have hn : es.toList.Pairwise (fun x y => x.key ≠ y.key) := ((MapKept.stamped_iff es clock).1 F.stamped).2.2
  rw [hsz]
  refine Bd.pigeon B es.toList.length (fun i => g ((es.toList.getD i ⟨.bool false, .bool false, 0⟩).key)) ?_ ?_
  · intro i hi
    show g ((es.toList.getD i _).key) < B
    rw [List.getD_eq_getElem?_getD, List.getElem?_eq_getElem hi]
    obtain ⟨kl, h1, h2⟩ := hkey es.toList[i] (List.getElem_mem hi)
    exact hg _ _ h1 h2
  · intro i j hil hjl hij
    have hij' : g ((es.toList.getD i ⟨.bool false, .bool false, 0⟩).key) = g ((es.toList.getD j ⟨.bool false, .bool false, 0⟩).key) := hij
    rw [List.getD_eq_getElem?_getD, List.getElem?_eq_getElem hil, List.getD_eq_getElem?_getD, List.getElem?_eq_getElem hjl] at hij'
    obtain ⟨kl, h1, h2⟩ := hkey es.toList[i] (List.getElem_mem hil)
    obtain ⟨kl', h1', h2'⟩ := hkey es.toList[j] (List.getElem_mem hjl)
    have hsame := hi _ _ _ _ h1 h1' h2 h2' hij'
    rcases Nat.lt_trichotomy i j with h | h | h
    · exact absurd hsame (List.pairwise_iff_getElem.1 hn i j hil hjl h)
    · exact h
    · exact absurd hsame.symm (List.pairwise_iff_getElem.1 hn j i hjl hil h)

/-- A number for three. -/
def arN (B : Nat) : Value → Nat
  | .agg cs => (match cs.toList with | [.int _ a, .int _ b, .int _ c] => (a.toNat * B + b.toNat) * B + c.toNat | _ => 0)
  | _ => 0
theorem arN_arV (B a b c : Nat) : arN B (arV a b c) = (a * B + b) * B + c := by simp [arN, arV]

/-- How much can be known. -/
theorem known_few {w : World} {kb sz : Nat} {f : Value → Option Int} {L : List Nd} (h : MapOf Try.prog 91 3 w kb sz f) (hK : KnownOk L f) (hL : L.length ≤ 1048576) : sz < maxLen := by
  have := h.few kArr (arN (L.length + 2)) ((L.length + 2) * (L.length + 2) * (L.length + 2)) ?_ ?_
  · have h1 : (L.length + 2) * (L.length + 2) * (L.length + 2) ≤ 1048578 * 1048578 * 1048578 := Nat.mul_le_mul (Nat.mul_le_mul (by omega) (by omega)) (by omega)
    unfold maxLen
    omega
  · intro key kl hk hs
    obtain ⟨v, hv⟩ := Option.isSome_iff_exists.1 hs
    obtain ⟨a, b, c, r, rfl, rfl, h1, h2, h3, _⟩ := hK key kl v hk hv
    rw [arN_arV]
    have e1 : (a + 1) * (L.length + 2) ≤ (L.length + 2) * (L.length + 2) := Nat.mul_le_mul_right _ h1
    rw [Nat.add_mul] at e1
    have e2 : (a * (L.length + 2) + b + 1) * (L.length + 2) ≤ (L.length + 2) * (L.length + 2) * (L.length + 2) := Nat.mul_le_mul_right _ (by omega)
    rw [Nat.add_mul] at e2
    omega
  · intro key key' kl kl' hk hk' hs hs' he
    obtain ⟨v, hv⟩ := Option.isSome_iff_exists.1 hs
    obtain ⟨v', hv'⟩ := Option.isSome_iff_exists.1 hs'
    obtain ⟨a, b, c, r, rfl, rfl, h1, h2, h3, _⟩ := hK key kl v hk hv
    obtain ⟨a', b', c', r', rfl, rfl, h1', h2', h3', _⟩ := hK key' kl' v' hk' hv'
    rw [arN_arV, arN_arV] at he
    obtain ⟨e1, e2⟩ := Bd.mul_add_inj h3 h3' he
    obtain ⟨e3, e4⟩ := Bd.mul_add_inj h2 h2' e1
    rw [e2, e3, e4]
end Go.Proofs.Ytffngpdngjfcfaa
namespace Go.Proofs.Ytffngpdngjfcfaa
open Go.RowKit Go.Maps
open Bd (Nd)

theorem boxed (w : World) (o : Obj) : Below w.heap.size w (w.alloc o).drew := ((Below.refl _ _).alloc (Nat.le_refl _) _).drew
theorem boxedN (w : World) (o : Obj) (n : Nat) : Below w.heap.size w ((w.alloc o).drewN n) := by
  have h := (Below.refl w.heap.size w).alloc (Nat.le_refl _) o
  exact ⟨h.os, h.tape, h.output, h.size, h.block⟩
theorem boxed2 (w : World) (o : Obj) : Below w.heap.size w (w.alloc o).drew.drew := ((Below.refl _ _).alloc (Nat.le_refl _) _).drew.drew
theorem int_ne {a b : Nat} (h : a ≠ b) : ((a : Int) == (b : Int)) = false := by rw [beq_eq_false_iff_ne]; omega
theorem int_eq {a b : Nat} (h : a = b) : ((a : Int) == (b : Int)) = true := by rw [h]; simp

set_option maxHeartbeats 1000000 in
theorem ite_one (w : World) (p : Value) (b c : Nat) :
    Calls Try.prog 53 #[p, .agg #[i6 1, i6 b, i6 c]] w fun e w' => e = .returned (i6 b) ∧ Below w.heap.size w w' := by
  go_enter Try.func53, Try.ntmps53
  go_wp2_with fail
  go_quiet (fail)
  go_wp2_with fail
  go_ret
  exact ⟨rfl, boxedN _ _ _⟩

set_option maxHeartbeats 1000000 in
theorem ite_same (w : World) (p : Value) (a b : Nat) (ha : a ≠ 1) :
    Calls Try.prog 53 #[p, .agg #[i6 a, i6 b, i6 b]] w fun e w' => e = .returned (i6 b) ∧ Below w.heap.size w w' := by
  have h1 : ((a : Int) == 1) = false := int_ne ha
  go_enter Try.func53, Try.ntmps53
  go_wp2_with fail
  go_quiet (fail)
  go_wp2_with fail
  go_ret
  exact ⟨rfl, boxedN _ _ _⟩

set_option maxHeartbeats 1000000 in
theorem ite_zero (w : World) (p : Value) (b c : Nat) (hbc : b ≠ c) :
    Calls Try.prog 53 #[p, .agg #[i6 0, i6 b, i6 c]] w fun e w' => e = .returned (i6 c) ∧ Below w.heap.size w w' := by
  have h1 := int_ne hbc
  go_enter Try.func53, Try.ntmps53
  go_wp2_with fail
  go_quiet (fail)
  go_wp2_with fail
  go_ret
  exact ⟨rfl, boxedN _ _ _⟩

set_option maxHeartbeats 1000000 in
theorem ite_self (w : World) (p : Value) (a : Nat) (ha : a ≠ 1) (ha0 : a ≠ 0) :
    Calls Try.prog 53 #[p, .agg #[i6 a, i6 1, i6 0]] w fun e w' => e = .returned (i6 a) ∧ Below w.heap.size w w' := by
  have h1 : ((a : Int) == 1) = false := int_ne ha
  have h0 : ((a : Int) == 0) = false := int_ne ha0
  go_enter Try.func53, Try.ntmps53
  go_wp2_with fail
  go_quiet (fail)
  go_wp2_with fail
  go_ret
  exact ⟨rfl, boxedN _ _ _⟩

/-- What ite leaves. -/
structure IteGot {bits M : Nat} (A : Bd.Fam bits M) (w : World) (y : Lay) (s : St) (kb : Nat) (w' : World) (r : Nat) (f : Bd.Fn) : Prop where
  ex : ∃ N y', Tab w' y' { s with L := s.L ++ N } ∧ Bd.Within A (s.L ++ N) ∧ r < (s.L ++ N).length + 2 ∧ Bd.den (s.L ++ N) r = f ∧ Moves (fun k => k = kb) w y w' y' ∧
    ∃ sz kf, MapOf Try.prog 91 3 w' kb sz kf ∧ KnownOk (s.L ++ N) kf

theorem IteGot.same {bits M : Nat} {A : Bd.Fam bits M} {w w' : World} {y : Lay} {s : St} {kb r : Nat} {f : Bd.Fn} (hT : Tab w y s) (hW : Bd.Within A s.L) {sz : Nat} {kf : Value → Option Int} (hM : MapOf Try.prog 91 3 w kb sz kf) (hK : KnownOk s.L kf)
    (hr : r < s.L.length + 2) (hf : Bd.den s.L r = f) (hb : Below w.heap.size w w') : IteGot A w y s kb w' r f := by
  refine ⟨[], y, ?_, ?_, ?_, ?_, moves_below y hb, sz, kf, hM.same (hb.block _ hM.lt), ?_⟩
  · rw [List.append_nil]; exact hT.below hb
  · rw [List.append_nil]; exact hW
  · rw [List.append_nil]; exact hr
  · rw [List.append_nil]; exact hf
  · rw [List.append_nil]; exact hK

set_option maxHeartbeats 2000000 in
theorem ite_hit {M : Nat} {w : World} {y : Lay} {s : St} (A : Bd.Fam s.bits M) (hT : Tab w y s) (hW : Bd.Within A s.L) (sb room kb : Nat) (hS : StepAt w sb y.tb room kb) (sz : Nat) (kf : Value → Option Int) (hM : MapOf Try.prog 91 3 w kb sz kf) (hK : KnownOk s.L kf)
    (a b c : Nat) (ha : a < s.L.length + 2) (hb : b < s.L.length + 2) (hc : c < s.L.length + 2) (ha2 : 2 ≤ a) (hbc : b ≠ c) (hq : ¬ (b = 1 ∧ c = 0)) (v : Int) (hv : kf (arV a b c) = some v) :
    Calls Try.prog 53 #[.pointer (some ⟨sb, 0, none⟩), .agg #[i6 a, i6 b, i6 c]] w fun e w' => ∃ r, e = .returned (i6 r) ∧ IteGot A w y s kb w' r (Bd.iteF (Bd.den s.L a) (Bd.den s.L b) (Bd.den s.L c)) := by
  have hsm := hT.small.1
  obtain ⟨kl, hkl⟩ := key_arr (a := a) (b := b) (c := c) (by omega) (by omega) (by omega)
  obtain ⟨a', b', c', r, e1, rfl, h1, h2, h3, h4, h5⟩ := hK _ kl v hkl hv
  obtain ⟨rfl, rfl, rfl⟩ := arV_inj e1
  have HR : Hid (∀ w', Below w.heap.size w w' → IteGot A w y s kb w' r (Bd.iteF (Bd.den s.L a) (Bd.den s.L b) (Bd.den s.L c))) := fun w' hb => IteGot.same hT hW hM hK h4 h5 hb
  have hlook : ∀ n o, (Instr.lookup 140 (.map (some kb)) (.agg #[.int .i64 a, .int .i64 b, .int .i64 c]) true).run Try.prog ((w.alloc o).drewN n) = .ok (.tuple #[.int .i64 r, .bool true]) ((w.alloc o).drewN n) := by
    intro n o
    have := MapOf.look (w := (w.alloc o).drewN n) (hM.same ((boxedN w o n).block _ hM.lt)) kArr Try.underlying140 Try.underlying3 (zero_int _) hkl
    have hv' : kf (.agg #[i6 a, i6 b, i6 c]) = some (r : Int) := hv
    rw [hv'] at this
    exact this
  have s2 : ∀ n o, ((w.alloc o).drewN n).cell? ⟨sb, 2, none⟩ = some (.map (some kb)) := by
    intro n o
    have h1 : ((w.alloc o).drewN n).heap[sb]? = w.heap[sb]? := (boxedN w o n).block sb (block_lt hS)
    rw [World.cell?_of_block h1, cell_at hS]; rfl
  have a1 : ((a : Int) == 1) = false := int_ne (b := 1) (by omega)
  have a0 : ((a : Int) == 0) = false := int_ne (b := 0) (by omega)
  have bc := int_ne hbc
  clear hT hW hM hK hS hv h1 h2 h3 h4 h5 e1 hkl ha hb hc
  by_cases hb1 : b = 1
  · have hc0 : ((c : Int) == 0) = false := int_ne (b := 0) (fun e => hq ⟨hb1, e⟩)
    have hb1' : ((b : Int) == 1) = true := int_eq (b := 1) hb1
    clear hq hb1 hbc
    go_enter Try.func53, Try.ntmps53
    go_wp2_with fail
    go_quiet (fail)
    go_wp2_with fail
    go_quiet (fail)
    go_wp2_with fail
    go_ret
    exact ⟨r, rfl, HR.out _ (by first | exact boxedN _ _ _ | (rw [World.drewN_drewN]; exact boxedN _ _ _))⟩
  · have hb1' : ((b : Int) == 1) = false := int_ne (b := 1) hb1
    clear hq hb1 hbc
    go_enter Try.func53, Try.ntmps53
    go_wp2_with fail
    go_quiet (fail)
    go_wp2_with fail
    go_quiet (fail)
    go_wp2_with fail
    go_ret
    exact ⟨r, rfl, HR.out _ (by first | exact boxedN _ _ _ | (rw [World.drewN_drewN]; exact boxedN _ _ _))⟩
end Go.Proofs.Ytffngpdngjfcfaa
namespace Go.Proofs.Ytffngpdngjfcfaa
open Go.RowKit Go.Maps
open Bd (Nd)

theorem Moves.not_own {X : Nat → Prop} {w w' : World} {y y' : Lay} (h : Moves X w y w' y') {k : Nat} (hk : k < w.heap.size) (hn : ¬ y.own k) : ¬ y'.own k := by
  intro ho
  rcases h.own k ho with h1 | h1
  · exact hn h1
  · omega

def iteSpec (n : Nat) : Prop := ∀ {M : Nat} (s : St) (A : Bd.Fam s.bits M) (w : World) (y : Lay) (sb room kb sz : Nat) (kf : Value → Option Int) (a b c kk : Nat), Tab w y s → Bd.Within A s.L → StepAt w sb y.tb room kb → ¬ y.own sb → ¬ y.own kb →
  s.bits * M ≤ room → room ≤ 1073741824 → s.bits * M ≤ 1048576 → MapOf Try.prog 91 3 w kb sz kf → KnownOk s.L kf → a < s.L.length + 2 → b < s.L.length + 2 → c < s.L.length + 2 →
  kk ≤ Bd.bitOf s.L a → kk ≤ Bd.bitOf s.L b → kk ≤ Bd.bitOf s.L c → A.F kk (Bd.iteF (Bd.den s.L a) (Bd.den s.L b) (Bd.den s.L c)) → 128 - kk ≤ n →
  Calls Try.prog 53 #[.pointer (some ⟨sb, 0, none⟩), .agg #[i6 a, i6 b, i6 c]] w fun e w' => ∃ r, e = .returned (i6 r) ∧ IteGot A w y s kb w' r (Bd.iteF (Bd.den s.L a) (Bd.den s.L b) (Bd.den s.L c))

/-- The blocks that a call of ite lays for its own use. -/
structure Three (w : World) (B : Nat) (x0 x1 x2 : Value × Value × Value) : Prop where
  b0 : w.heap[B]? = some (.cells #[x0.1, x0.2.1, x0.2.2] 91 (0, 0))
  b1 : w.heap[B + 1]? = some (.cells #[x1.1, x1.2.1, x1.2.2] 91 (0, 0))
  b2 : w.heap[B + 1 + 1]? = some (.cells #[x2.1, x2.2.1, x2.2.2] 91 (0, 0))

theorem Three.moves {w w' : World} {B : Nat} {x0 x1 x2 : Value × Value × Value} (h : Three w B x0 x1 x2) {X : Nat → Prop} {y y' : Lay} (hm : Moves X w y w' y') (hy : ∀ k, y.own k → k < B ∨ B + 3 ≤ k) (hX : ∀ k, X k → k < B) : Three w' B x0 x1 x2 := by
  have l0 := block_lt h.b0
  have l1 := block_lt h.b1
  have l2 := block_lt h.b2
  have key : ∀ j, j < 3 → w'.heap[B + j]? = w.heap[B + j]? := by
    intro j hj
    refine hm.block _ ?_ (fun ho => ?_) (fun hx => ?_)
    · have : j = 0 ∨ j = 1 ∨ j = 2 := by omega
      rcases this with rfl | rfl | rfl <;> omega
    · rcases hy _ ho with h | h <;> omega
    · have := hX _ hx; omega
  exact ⟨(key 0 (by omega)).trans h.b0, (key 1 (by omega)).trans h.b1, (key 2 (by omega)).trans h.b2⟩
theorem own_between {_w0 w w' : World} {X : Nat → Prop} {y y' : Lay} (hm : Moves X w y w' y') {B : Nat} (hB : B + 3 ≤ w.heap.size) (hy : ∀ k, y.own k → k < B ∨ B + 3 ≤ k) : ∀ k, y'.own k → k < B ∨ B + 3 ≤ k := by
  intro k hk
  rcases hm.own k hk with h | h
  · exact hy k h
  · exact Or.inr (by omega)

abbrev v3 (a b c : Nat) : Value × Value × Value := (i6 a, i6 b, i6 c)

theorem ite_three {n M : Nat} (ih : iteSpec n) {w : World} {y : Lay} {s : St} (A : Bd.Fam s.bits M) (hT : Tab w y s) (hW : Bd.Within A s.L) (sb room kb : Nat) (hS : StepAt w sb y.tb room kb) (hns : ¬ y.own sb) (hnk : ¬ y.own kb) (hroom : s.bits * M ≤ room) (hr3 : room ≤ 1073741824) (hbM : s.bits * M ≤ 1048576)
    (sz : Nat) (kf : Value → Option Int) (hM : MapOf Try.prog 91 3 w kb sz kf) (hK : KnownOk s.L kf) (a b c kk k : Nat) (ha : a < s.L.length + 2) (hb : b < s.L.length + 2) (hc : c < s.L.length + 2)
    (hkk : kk ≤ k) (hka : k ≤ Bd.bitOf s.L a) (hkb : k ≤ Bd.bitOf s.L b) (hkc : k ≤ Bd.bitOf s.L c) (hkbits : k < s.bits) (hF : A.F kk (Bd.iteF (Bd.den s.L a) (Bd.den s.L b) (Bd.den s.L c))) (hn : 128 - kk ≤ n + 1)
    (W : World) (hBW : Below w.heap.size w W) (h3 : Three W w.heap.size (v3 a b c) (v3 (Bd.loOf s.L a k) (Bd.loOf s.L b k) (Bd.loOf s.L c k)) (v3 (Bd.hiOf s.L a k) (Bd.hiOf s.L b k) (Bd.hiOf s.L c k))) :
    Calls Try.prog 53 #[.pointer (some ⟨sb, 0, none⟩), .agg #[i6 (Bd.loOf s.L a k), i6 (Bd.loOf s.L b k), i6 (Bd.loOf s.L c k)]] W fun e w1 => ∃ r1, e = .returned (i6 r1) ∧ Three w1 w.heap.size (v3 a b c) (v3 (Bd.loOf s.L a k) (Bd.loOf s.L b k) (Bd.loOf s.L c k)) (v3 (Bd.hiOf s.L a k) (Bd.hiOf s.L b k) (Bd.hiOf s.L c k)) ∧
      Hid (Calls Try.prog 53 #[.pointer (some ⟨sb, 0, none⟩), .agg #[i6 (Bd.hiOf s.L a k), i6 (Bd.hiOf s.L b k), i6 (Bd.hiOf s.L c k)]] w1 fun e w2 => ∃ r2, e = .returned (i6 r2) ∧ Three w2 w.heap.size (v3 a b c) (v3 (Bd.loOf s.L a k) (Bd.loOf s.L b k) (Bd.loOf s.L c k)) (v3 (Bd.hiOf s.L a k) (Bd.hiOf s.L b k) (Bd.hiOf s.L c k)) ∧
        Hid (Calls Try.prog 86 #[.pointer (some ⟨sb, 0, none⟩), i6 k, i6 r1, i6 r2] w2 fun e w3 => ∃ r, e = .returned (i6 r) ∧ Three w3 w.heap.size (v3 a b c) (v3 (Bd.loOf s.L a k) (Bd.loOf s.L b k) (Bd.loOf s.L c k)) (v3 (Bd.hiOf s.L a k) (Bd.hiOf s.L b k) (Bd.hiOf s.L c k)) ∧
          w3.cell? ⟨sb, 2, none⟩ = some (.map (some kb)) ∧ ∃ w4, (Instr.mapUpdate 140 (.map (some kb)) (.agg #[.int .i64 a, .int .i64 b, .int .i64 c]) (.int .i64 r)).run Try.prog w3.drew = .ok () w4 ∧
            Hid (IteGot A w y s kb w4 r (Bd.iteF (Bd.den s.L a) (Bd.den s.L b) (Bd.den s.L c))))) := by
  have hf128 := hT.okay.few
  have hk128 : k < 128 := by omega
  have lsb := block_lt hS
  have lkb := hM.lt
  have hTW := hT.below hBW
  have l2 := block_lt h3.b2
  have hy3 : ∀ j, y.own j → j < w.heap.size ∨ w.heap.size + 3 ≤ j := fun j hj => Or.inl (hT.lt hj)
  have hX3 : ∀ j, j = kb → j < w.heap.size := fun j hj => by omega
  obtain ⟨a1, a2⟩ := Bd.lo_lt hT.okay ha hk128
  obtain ⟨b1, b2⟩ := Bd.lo_lt hT.okay hb hk128
  obtain ⟨c1, c2⟩ := Bd.lo_lt hT.okay hc hk128
  obtain ⟨a3, a4⟩ := Bd.bit_half hT.okay ha hk128 hka
  obtain ⟨b3, b4⟩ := Bd.bit_half hT.okay hb hk128 hkb
  obtain ⟨c3, c4⟩ := Bd.bit_half hT.okay hc hk128 hkc
  obtain ⟨a5, a6⟩ := Bd.den_half hT.okay ha hk128 hka
  obtain ⟨b5, b6⟩ := Bd.den_half hT.okay hb hk128 hkb
  obtain ⟨c5, c6⟩ := Bd.den_half hT.okay hc hk128 hkc
  have hFrom : Bd.From k (Bd.iteF (Bd.den s.L a) (Bd.den s.L b) (Bd.den s.L c)) := Bd.from_iteF ((Bd.from_den hT.okay a ha).mono hka) ((Bd.from_den hT.okay b hb).mono hkb) ((Bd.from_den hT.okay c hc).mono hkc)
  have hFk := A.skip hF hFrom hkk (by omega)
  have hF0 := A.go k _ false hkbits hFk
  have hF1 := A.go k _ true hkbits hFk
  rw [Bd.cof_iteF, ← a5, ← b5, ← c5] at hF0
  rw [Bd.cof_iteF, ← a6, ← b6, ← c6] at hF1
  have hSW : StepAt W sb y.tb room kb := (hBW.block sb lsb).trans hS
  refine (ih s A W y sb room kb sz kf _ _ _ (k + 1) hTW hW hSW hns hnk hroom hr3 hbM (hM.same (hBW.block _ lkb)) hK a1 b1 c1 a3 b3 c3 hF0 (by omega)).mono ?_
  rintro e w1 ⟨r1, rfl, ⟨N1, y1, t1, wi1, hr1, d1, m1, sz1, kf1, k1, ko1⟩⟩
  have h31 := h3.moves m1 hy3 hX3
  refine ⟨r1, rfl, h31, ?_⟩
  have l1len : (s.L ++ N1).length = s.L.length + N1.length := List.length_append
  have hns1 := m1.not_own (Nat.lt_of_lt_of_le lsb hBW.size) hns
  have hnk1 := m1.not_own (Nat.lt_of_lt_of_le lkb hBW.size) hnk
  have hS1 : StepAt w1 sb y1.tb room kb := by
    rw [m1.tb]
    refine (m1.block sb (Nat.lt_of_lt_of_le lsb hBW.size) hns (fun e => ?_)).trans hSW
    subst e
    obtain ⟨es, cc, hm⟩ := map_block hM
    rw [hS] at hm
    cases hm
  have hF1' : A.F (k + 1) (Bd.iteF (Bd.den (s.L ++ N1) (Bd.hiOf s.L a k)) (Bd.den (s.L ++ N1) (Bd.hiOf s.L b k)) (Bd.den (s.L ++ N1) (Bd.hiOf s.L c k))) := by
    rw [Bd.den_append_old _ _ a2, Bd.den_append_old _ _ b2, Bd.den_append_old _ _ c2]; exact hF1
  refine (ih { s with L := s.L ++ N1 } A w1 y1 sb room kb sz1 kf1 (Bd.hiOf s.L a k) (Bd.hiOf s.L b k) (Bd.hiOf s.L c k) (k + 1) t1 wi1 hS1 hns1 hnk1 hroom hr3 hbM k1 ko1 (by show _ < (s.L ++ N1).length + 2; omega) (by show _ < (s.L ++ N1).length + 2; omega) (by show _ < (s.L ++ N1).length + 2; omega)
    (by show _ ≤ Bd.bitOf (s.L ++ N1) _; rw [Bd.bitOf_old _ _ a2]; exact a4) (by show _ ≤ Bd.bitOf (s.L ++ N1) _; rw [Bd.bitOf_old _ _ b2]; exact b4) (by show _ ≤ Bd.bitOf (s.L ++ N1) _; rw [Bd.bitOf_old _ _ c2]; exact c4) hF1' (by omega)).mono ?_
  rintro e w2 ⟨r2, rfl, ⟨N2, y2, t2, wi2, hr2, d2, m2, sz2, kf2, k2, ko2⟩⟩
  have t2' : Tab w2 y2 { s with L := s.L ++ N1 ++ N2 } := t2
  have wi2' : Bd.Within A (s.L ++ N1 ++ N2) := wi2
  have d2' : Bd.den (s.L ++ N1 ++ N2) r2 = _ := d2
  have hr2' : r2 < (s.L ++ N1 ++ N2).length + 2 := hr2
  have ko2' : KnownOk (s.L ++ N1 ++ N2) kf2 := ko2
  clear t2 wi2 d2 hr2 ko2
  have hX1 : w.heap.size + 3 ≤ w1.heap.size := by have := m1.size; omega
  have h32 := h31.moves m2 (own_between (_w0 := w) m1 (by omega) hy3) hX3
  refine ⟨r2, rfl, h32, ?_⟩
  have lW1 : sb < w1.heap.size := by have := m1.size; have := hBW.size; omega
  have lK1 : kb < w1.heap.size := by have := m1.size; have := hBW.size; omega
  have hns2 := m2.not_own lW1 hns1
  have hnk2 := m2.not_own lK1 hnk1
  have hS2 : StepAt w2 sb y2.tb room kb := by
    rw [m2.tb]
    refine (m2.block sb lW1 hns1 (fun e => ?_)).trans hS1
    subst e
    obtain ⟨es, cc, hm⟩ := map_block hM
    rw [hS] at hm
    cases hm
  have l2len : (s.L ++ N1 ++ N2).length = s.L.length + N1.length + N2.length := by rw [List.length_append, List.length_append]
  have dr1 : Bd.den (s.L ++ N1 ++ N2) r1 = Bd.cof (Bd.iteF (Bd.den s.L a) (Bd.den s.L b) (Bd.den s.L c)) k false := by
    rw [Bd.den_append_old _ _ hr1, d1, Bd.cof_iteF, a5, b5, c5]
  have dr2 : Bd.den (s.L ++ N1 ++ N2) r2 = Bd.cof (Bd.iteF (Bd.den s.L a) (Bd.den s.L b) (Bd.den s.L c)) k true := by
    rw [d2', Bd.cof_iteF, ← a6, ← b6, ← c6]
    show Bd.iteF (Bd.den (s.L ++ N1) _) (Bd.den (s.L ++ N1) _) (Bd.den (s.L ++ N1) _) = _
    rw [Bd.den_append_old _ _ a2, Bd.den_append_old _ _ b2, Bd.den_append_old _ _ c2]
  have hr1' : r1 < (s.L ++ N1 ++ N2).length + 2 := by omega
  have hmux : Bd.mux k (Bd.den (s.L ++ N1 ++ N2) r1) (Bd.den (s.L ++ N1 ++ N2) r2) = Bd.iteF (Bd.den s.L a) (Bd.den s.L b) (Bd.den s.L c) := by rw [dr1, dr2, Bd.mux_cof]
  refine (node_any (s := { s with L := s.L ++ N1 ++ N2 }) A t2' wi2' sb room kb hS2 hns2 hroom hr3 k r1 r2 hkbits hr1' hr2' ?_ ?_ ?_).mono ?_
  · have := Bd.bit_ge t2'.okay (r := r1) (k := k + 1) hr1' (by show Bd.From (k + 1) (Bd.den (s.L ++ N1 ++ N2) r1); rw [dr1]; exact Bd.from_cof hFrom _) (by omega)
    exact this
  · have := Bd.bit_ge t2'.okay (r := r2) (k := k + 1) hr2' (by show Bd.From (k + 1) (Bd.den (s.L ++ N1 ++ N2) r2); rw [dr2]; exact Bd.from_cof hFrom _) (by omega)
    exact this
  · show A.F k (Bd.mux k (Bd.den (s.L ++ N1 ++ N2) r1) (Bd.den (s.L ++ N1 ++ N2) r2))
    rw [hmux]; exact hFk
  · rintro e w3 ⟨r, rfl, ⟨N3, y3, t3, wi3, hr3', d3, m3⟩⟩
    have t3' : Tab w3 y3 { s with L := s.L ++ N1 ++ N2 ++ N3 } := t3
    have wi3' : Bd.Within A (s.L ++ N1 ++ N2 ++ N3) := wi3
    have hr3'' : r < (s.L ++ N1 ++ N2 ++ N3).length + 2 := hr3'
    have d3' : Bd.den (s.L ++ N1 ++ N2 ++ N3) r = Bd.iteF (Bd.den s.L a) (Bd.den s.L b) (Bd.den s.L c) := by rw [← hmux]; exact d3
    clear t3 wi3 hr3' d3
    have lW2 : sb < w2.heap.size := by have := m2.size; omega
    have lK2 : kb < w2.heap.size := by have := m2.size; omega
    have hX2 : w.heap.size + 3 ≤ w2.heap.size := by have := m2.size; omega
    have hown2 := own_between (_w0 := w) m2 (by omega) (own_between (_w0 := w) m1 (by omega) hy3)
    have h33 := h32.moves m3 hown2 (fun j hj => hj.elim)
    refine ⟨r, rfl, h33, ?_, ?_⟩
    · have h := m3.block sb lW2 hns2 (fun h => h)
      rw [World.cell?_of_block h, cell_at hS2]; rfl
    · have l3len : (s.L ++ N1 ++ N2 ++ N3).length = (s.L ++ N1 ++ N2).length + N3.length := List.length_append
      have hfew := wi3'.few t3'.okay
      have hk3 : MapOf Try.prog 91 3 w3 kb sz2 kf2 := k2.same (m3.block kb lK2 hnk2 (fun h => h))
      have ko3 : KnownOk (s.L ++ N1 ++ N2 ++ N3) kf2 := ko2'.grow N3
      obtain ⟨kl, hkl⟩ := key_arr (a := a) (b := b) (c := c) (by have := t3'.small.1; have : (s.L ++ N1 ++ N2 ++ N3).length ≤ 1073741824 := this; omega) (by have := t3'.small.1; have : (s.L ++ N1 ++ N2 ++ N3).length ≤ 1073741824 := this; omega) (by have := t3'.small.1; have : (s.L ++ N1 ++ N2 ++ N3).length ≤ 1073741824 := this; omega)
      obtain ⟨w4, hrun, hput, hg⟩ := MapOf.put_run (w := w3.drew) (hk3.same rfl) kArr Try.underlying140 Try.underlying3 (known_few hk3 ko3 (by omega)) hkl (c := (r : Int)) (wf64 (by have := t3'.small.1; have : (s.L ++ N1 ++ N2 ++ N3).length ≤ 1073741824 := this; omega))
      refine ⟨w4, hrun, ?_⟩
      obtain ⟨kf', hu⟩ := upd_exists kf2 (arV a b c) (some (r : Int))
      have hm4 := hput kf' hu
      have lK3 : kb < w3.heap.size := by have := m3.size; omega
      have hnk3 := m3.not_own lK2 hnk2
      have m4 : Moves (fun k => k = kb) w3 y3 w4 y3 := ⟨rfl, fun _ h => Or.inl h, hg.os, hg.tape, hg.output, hg.size, fun j hj _ hx => hg.block j hj (fun e => hx (by cases e; rfl))⟩
      have t4 : Tab w4 y3 { s with L := s.L ++ N1 ++ N2 ++ N3 } := t3'.same fun j hj => hg.block j (t3'.lt hj) (fun e => by cases e; exact hnk3 hj)
      have M1 : Moves (fun k => k = kb) w y W y := moves_below y hBW
      have MA := (M1.trans m1).trans (m2.trans ((m3.more (fun _ h => h.elim)).trans m4))
      refine ⟨N1 ++ (N2 ++ N3), y3, ?_, ?_, ?_, ?_, MA, _, kf', hm4, ?_⟩
      · rw [← List.append_assoc, ← List.append_assoc]; exact t4
      · rw [← List.append_assoc, ← List.append_assoc]; exact wi3'
      · rw [← List.append_assoc, ← List.append_assoc]; exact hr3''
      · rw [← List.append_assoc, ← List.append_assoc]; exact d3'
      · rw [← List.append_assoc, ← List.append_assoc]
        refine ko3.put (by omega) (by omega) (by omega) hr3'' ?_ hu
        have e3 : ∀ x, x < s.L.length + 2 → Bd.den (s.L ++ N1 ++ N2 ++ N3) x = Bd.den s.L x := by
          intro x hx
          rw [Bd.den_append_old _ _ (by omega), Bd.den_append_old _ _ (by omega), Bd.den_append_old _ _ hx]
        rw [d3', e3 a ha, e3 b hb, e3 c hc]
end Go.Proofs.Ytffngpdngjfcfaa
