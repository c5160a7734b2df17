/-
  The document's node: looked for in the row, a new one if it is not there.
  The document's own table in memory.
  node: the number of a node, a new one if it is not there yet.
  put: nodes that are not there yet.
-/
import Derived.Test.YtnkipdlfpnmgeaaBMathAnd
import Derived.WalkSpells
import Derived.Deep.RegionLaw
namespace Go.Proofs.Ytnkipdlfpnmgeaa
open Go.RowKit Go.Maps
open Bd (Nd)

theorem Bd.Okay.front {bits : Nat} {A B : List Nd} (h : Bd.Okay bits (A ++ B)) : Bd.Okay bits A := by
  refine { few := h.few, nd := (List.nodup_append.1 h.nd).1, fit := ?_ }
  intro i x hx
  have hi := Bd.getElem?_lt hx
  obtain ⟨a, b, c, d, e, f⟩ := h.fit i x (by rw [List.getElem?_append_left hi]; exact hx)
  rw [Bd.bitOf_old _ _ (by omega)] at e f
  exact ⟨a, b, c, d, e, f⟩

/-- A store into a map, as one equation. -/
theorem MapOf.put_run {P : Program} {k e t : TypeId} {w : World} {b sz : Nat} {f : Value → Option Int} (h : MapOf P k e w b sz f) (K : Keyed P k) (ht : P.underlying t = some (.map k e)) (he : P.underlying e = some (.int .i64)) (hn : sz < maxLen)
    {key : Value} {kl : Lit} (hk : keyOf P k key = some kl) {c : Int} (hc : (Lit.int .i64 c).wf = true) :
    ∃ w', (Instr.mapUpdate t (.map (some b)) key (.int .i64 c)).run P w = .ok () w' ∧ (∀ f', Upd f key (some c) f' → MapOf P k e w' b (if (f key).isSome then sz else sz + 1) f') ∧ w.grownBy w' (some b) := by
  obtain ⟨D, h1, h2, h3⟩ := h
  obtain ⟨w', hrun, r1, r2⟩ := h1.update K ht hn hk (val := .int .i64 c) (d := .lit (.int .i64 c)) (ps := []) (plainElem_int he hc)
  exact ⟨w', hrun, mapOf_put K h1 h2 h3 hk r1, r2⟩

theorem Try.infoNode : (Try.prog.info? 62).map (fun i => (i.zero, i.size, i.bytes)) = some (some (.agg #[i6 0, i6 0, i6 0]), 3, 24) := by kernel_rfl

theorem take_succ_get {M : List Nd} {k : Nat} {x : Nd} (h : M[k]? = some x) : M.take (k + 1) = M.take k ++ [x] := by
  rw [List.take_add_one, h]; rfl

theorem set_other {w : World} {a : Addr} {k : Nat} (u : Value) (h : k ≠ a.block) : (w.setCell a u).heap[k]? = w.heap[k]? := Below.heap_setCell _ _ _ _ h

/-- Behind a round of put. -/
theorem put_tab {wr w2 w4 : World} {y1 : Lay} {s1 : St} {x : Nd} (hT : Tab wr y1 s1) (hok : Bd.Okay s1.bits (s1.L ++ [x])) (hsm : s1.L.length + 1 ≤ 1073741824) {o1 o2 : Obj} {f : Value → Option Int} (hf : AtMap s1.L f)
    (hput : ∀ f', Upd f (ndV x) (some ((s1.L.length + 2 : Nat) : Int)) f' → MapOf Try.prog 62 3 w2 y1.mb (if (f (ndV x)).isSome then s1.L.length else s1.L.length + 1) f')
    (hg2 : (wr.alloc o1).drew.grownBy w2 (some y1.mb)) {g cap : Nat} {v : Value} (hv : v = .slice (some ⟨g, 0, none⟩) (s1.L.length + 1) cap)
    (hown : w4.ownsRow 0 62 3 v (s1.L.length + 1) (flat s1.L ++ [i6 x.1, i6 x.2.1, i6 x.2.2])) (hg4 : (w2.alloc o2).drew.grownBy w4 y1.ls.ownBlock) (hat : y1.ls.ownBlock = some g ∨ g = w2.heap.size + 1) :
    Tab (w4.setCell ⟨y1.tb, 3, none⟩ v) { y1 with ls := v } { s1 with L := s1.L ++ [x] } ∧ Moves noX wr y1 (w4.setCell ⟨y1.tb, 3, none⟩ v) { y1 with ls := v } := by
  obtain ⟨a1, a2, a3, a4, a5, a6, a7, a8, a9⟩ := hT.apart
  have z2 : wr.heap.size + 1 ≤ w2.heap.size := by have := hg2.size; simpa using this
  have z4 : w2.heap.size + 1 ≤ w4.heap.size := by have := hg4.size; simpa using this
  have hxn : x ∉ s1.L := by
    intro hm
    have := (List.nodup_append.1 hok.nd).2.2 x hm x (by simp)
    exact this rfl
  have ltb := hT.lt y1.own_tb
  have old : ∀ k, k < wr.heap.size → k ≠ y1.mb → y1.ls.ownBlock ≠ some k → w4.heap[k]? = wr.heap[k]? := by
    intro k hk h1 h2
    rw [hg4.block k (by simp; omega) (fun e => h2 e.symm)]
    show (w2.alloc o2).heap[k]? = _
    rw [heap_alloc_old w2 o2 (show k < w2.heap.size by omega), hg2.block k (by show k < (wr.alloc o1).heap.size; simp; omega) (by simpa using h1)]
    show (wr.alloc o1).heap[k]? = _
    rw [heap_alloc_old wr o1 hk]
  have hgt : g ≠ y1.tb := by
    rcases hat with h | h
    · intro e; rw [e] at h; exact a3 h
    · omega
  have hgown : v.ownBlock = some g := by rw [hv]; rfl
  have hcells : w4.heap[y1.tb]? = _ := (old y1.tb ltb (fun e => a1 e.symm) a3).trans hT.cells
  have hset := set_block (o := 3) v hcells
  obtain ⟨f', hf'⟩ := upd_exists f (ndV x) (some ((s1.L.length + 2 : Nat) : Int))
  have hnone : f (ndV x) = none := (hf x).2 hxn
  have hm2 := hput f' hf'
  rw [hnone] at hm2
  have hmb : (w4.setCell ⟨y1.tb, 3, none⟩ v).heap[y1.mb]? = w2.heap[y1.mb]? := by
    rw [set_other v a1, hg4.block y1.mb (by have := hm2.lt; simp; omega) (fun e => a5 e.symm)]
    show (w2.alloc o2).heap[y1.mb]? = _
    rw [heap_alloc_old w2 o2 hm2.lt]
  obtain ⟨fr, hfr, hrr⟩ := hT.refs
  refine ⟨{ cells := ?_, list := ?_, roots := ?_, nodes := ⟨f', ?_, hf.snoc hxn hf'⟩, refs := ⟨fr, ?_, hrr⟩, two := hT.two, okay := hok, small := ?_, valid := ?_ }, ?_⟩
  · rw [hset]; rfl
  · have : (s1.L ++ [x]).length = s1.L.length + 1 := by simp
    show World.ownsRow _ 0 62 3 v (s1.L ++ [x]).length (flat (s1.L ++ [x]))
    rw [this, flat_snoc]
    exact row_same hown fun g' hg' => set_other v (by rw [hgown] at hg'; cases hg'; exact hgt)
  · refine row_same hT.roots fun g' hg' => ?_
    have hne : g' ≠ y1.tb := fun e => a4 (by rw [← e]; exact hg')
    rw [set_other v hne]
    exact old g' (hT.lt (y1.own_rs hg')) (fun e => a6 (by rw [← e]; exact hg')) (fun e => a9 g' e hg')
  · have : (s1.L ++ [x]).length = s1.L.length + 1 := by simp
    show MapOf _ _ _ _ y1.mb (s1.L ++ [x]).length f'
    rw [this]
    exact MapOf.same (by simpa using hm2) hmb
  · refine hfr.same ?_
    rw [set_other v a2]
    exact old y1.rm hfr.lt (fun e => hT.two e.symm) a7
  · have := hT.small
    have e : (s1.L ++ [x]).length = s1.L.length + 1 := by simp
    refine ⟨?_, this.2.1, this.2.2.1, this.2.2.2.1, this.2.2.2.2⟩
    show (s1.L ++ [x]).length ≤ _
    omega
  · refine ⟨hT.valid.1, fun n hn => ?_⟩
    have := hT.valid.2 n hn
    have e : (s1.L ++ [x]).length = s1.L.length + 1 := by simp
    refine ⟨this.1, ?_⟩
    show n < (s1.L ++ [x]).length + 2
    omega
  · refine ⟨rfl, ?_, ?_, ?_, ?_, ?_, ?_⟩
    · intro k hk
      rcases hk with h | h | h | h | h
      · exact Or.inl (Or.inl h)
      · exact Or.inl (Or.inr (Or.inl h))
      · exact Or.inl (Or.inr (Or.inr (Or.inl h)))
      · have : v.ownBlock = some k := h
        rw [hgown] at this
        cases this
        rcases hat with h | h
        · exact Or.inl (y1.own_ls h)
        · exact Or.inr (by omega)
      · exact Or.inl (y1.own_rs h)
    · exact hg4.os.trans hg2.os
    · exact hg4.tape.trans hg2.tape
    · exact hg4.output.trans hg2.output
    · have : (w4.setCell ⟨y1.tb, 3, none⟩ v).heap.size = w4.heap.size := by simp
      omega
    · intro k hk hn _
      have h1 : k ≠ y1.tb := fun e => hn (Or.inl e)
      rw [set_other v h1]
      exact old k hk (fun e => hn (Or.inr (Or.inl e))) (fun e => hn (y1.own_ls e))

set_option maxHeartbeats 2000000 in
theorem put_any {w : World} {y : Lay} {s : St} (hT : Tab w y s) (M : List Nd) (lv : Value) (hl : w.ownsRow 0 62 3 lv M.length (flat M)) (hdis : ∀ k, lv.ownBlock = some k → ¬ y.own k)
    (hok : Bd.Okay s.bits (s.L ++ M)) (hsm : (s.L ++ M).length ≤ 1073741824) :
    Calls Try.prog 43 #[.pointer (some ⟨y.tb, 3, none⟩), lv] w fun e w' => e = .returned (.tuple #[]) ∧ ∃ y', Tab w' y' { s with L := s.L ++ M } ∧ Moves noX w y w' y' := by
  obtain ⟨ao, cap, hlv⟩ : ∃ ao cap, lv = .slice ao M.length cap := by
    rcases hl.2 with ⟨e, e2⟩ | ⟨g, c, _, e, _⟩
    · exact ⟨none, 0, by rw [e2]; exact e⟩
    · exact ⟨_, _, e⟩
  subst hlv
  have HL := keep hl
  have HD := keep hdis
  have HO := keep hok
  have HS := keep hsm
  have HT := keep hT
  obtain ⟨i0, hi, hz0, hz1, hz2⟩ := info_parts Try.infoNode
  have HI := keep hi
  have HZ0 := keep hz0
  have HZ1 := keep hz1
  have HZ2 := keep hz2
  have c4 := hT.cell4
  clear hl hdis hok hsm hi hz0 hz1 hz2
  obtain ⟨n, hn⟩ : ∃ n, n = M.length := ⟨_, rfl⟩
  have HN := keep hn
  rw [← hn]
  clear hn
  clear hT
  have qT : ∀ (w : World) (r : Option Nat), (binOp .eql 74 (.map r) (.map none)).run Try.prog w = .ok (.bool r.isNone) w := fun w r => run_eql_map_nil w _ _ _ r Try.underlying74
  go_enter Try.func43, Try.ntmps43
  go_wp2
  go_loopw [19] (fun i wr => ∃ k : Nat, k ≤ n ∧ i = .int .i64 k ∧ ∃ y1, Tab wr y1 { s with L := s.L ++ M.take k } ∧ Moves noX w y wr y1) (fun i _ => n - (intOf i).toNat)
  case atStart => exact ⟨0, Nat.zero_le _, rfl, y, by simpa using HT.out, Moves.refl _ _ _⟩
  case round =>
    obtain ⟨k, hk, rfl, y1, hT1, hm1⟩ := hrel
    have hmn : n = M.length := HN.out
    by_cases hlt : k < n
    · obtain ⟨x, hx⟩ : ∃ x, M[k]? = some x := ⟨M[k]'(by omega), List.getElem?_eq_getElem (by omega)⟩
      have hlr := row_same (w' := wr) HL.out fun g hg => hm1.block g (HL.out.lt g hg).2 (HD.out g hg) (fun h => h)
      rw [← hmn] at hlr
      obtain ⟨g, cap', hv, _, hgl⟩ := hlr.form (by omega)
      cases hv
      have hadd : ∀ j, (⟨g, 0, none⟩ : Addr).add j = ⟨g, j, none⟩ := by intro j; unfold Addr.add; split <;> simp_all
      obtain ⟨f0, f1, f2⟩ := flat_at hx
      have d0 := hlr.cells rfl _ _ f0
      have d1 := hlr.cells rfl _ _ f1
      have d2 := hlr.cells rfl _ _ f2
      rw [hadd] at d0 d1 d2
      clear f0 f1 f2 hadd
      have hok1 : Bd.Okay s.bits ((s.L ++ M.take k) ++ [x]) := by
        have : s.L ++ M = ((s.L ++ M.take k) ++ [x]) ++ M.drop (k + 1) := by
          rw [List.append_assoc, List.append_assoc, ← List.append_assoc (M.take k), ← take_succ_get hx, List.take_append_drop]
        have h := HO.out
        rw [this] at h
        exact h.front
      have hfit := hok1.fit (s.L ++ M.take k).length x (by rw [List.getElem?_append_right (Nat.le_refl _)]; simp)
      have hxn : x ∉ s.L ++ M.take k := fun hm => (List.nodup_append.1 hok1.nd).2.2 x hm x (by simp) rfl
      have hsm1 : (s.L ++ M.take k).length + 1 ≤ 1073741824 := by
        have := HS.out
        simp only [List.length_append, List.length_take] at this ⊢
        omega
      have hf128 := HO.out.few
      have HTX : Hid (M.take (k + 1) = M.take k ++ [x]) := take_succ_get hx
      have ctb := hm1.tb
      have hTa := hT1.below (w' := wr.alloc (.cells #[i6 x.1, i6 x.2.1, i6 x.2.2] 62)) ((Below.refl _ _).alloc (Nat.le_refl _) _)
      have hls : ∃ ao cap, y1.ls = .slice ao (s.L ++ M.take k).length cap := by
        rcases hT1.list.2 with ⟨e, e2⟩ | ⟨g, c, _, e, _⟩
        · exact ⟨none, 0, by rw [e]; rw [show (s.L ++ M.take k).length = 0 from e2]⟩
        · exact ⟨_, _, e⟩
      obtain ⟨ao1, cap1, hls⟩ := hls
      obtain ⟨f, hf, ha⟩ := hTa.nodes
      obtain ⟨kl, hkl⟩ := key_node (a := x.1) (b := x.2.1) (c := x.2.2) (by omega) (by omega) (by omega)
      obtain ⟨l1, hl1⟩ : ∃ l1, l1 = (s.L ++ M.take k).length := ⟨_, rfl⟩
      obtain ⟨w2, hrun, hput, hg2⟩ := MapOf.put_run (w := (wr.alloc (.cells #[i6 x.1, i6 x.2.1, i6 x.2.2] 62)).drew) (hf.same rfl) kNode Try.underlying74 Try.underlying3 (by unfold maxLen; show (s.L ++ M.take k).length < _; omega) hkl (c := ((l1 + 2 : Nat) : Int)) (wf64 (by omega))
      have hrun' : (Instr.mapUpdate 74 (.map (some y1.mb)) (.agg #[.int .i64 x.1, .int .i64 x.2.1, .int .i64 x.2.2]) (.int .i64 ((l1 : Int) + 2))).run Try.prog (wr.alloc (.cells #[.int .i64 x.1, .int .i64 x.2.1, .int .i64 x.2.2] 62)).drew = .ok () w2 := by
        have e : ((l1 + 2 : Nat) : Int) = (l1 : Int) + 2 := by omega
        rw [← e]; exact hrun
      have e3 : wr.cell? ⟨y.tb, 3, none⟩ = some (.slice ao1 l1 cap1) := by rw [← ctb, hl1, ← hls]; exact hT1.cell3
      have e4 : wr.cell? ⟨y.tb, 4, none⟩ = some (.map (some y1.mb)) := by rw [← ctb]; exact hT1.cell4
      have ltb : y.tb < wr.heap.size := by rw [← ctb]; exact hT1.lt y1.own_tb
      have hlI : (l1 : Int) ≤ 1073741824 := by omega
      have hkI : (k : Int) < (n : Int) := by omega
      have hnI : (n : Int) ≤ 1073741824 := by
        have := HS.out
        simp only [List.length_append] at this
        omega
      have ap := hT1.apart
      have z2 := hg2.size
      have k3 : w2.cell? ⟨y.tb, 3, none⟩ = some (.slice ao1 l1 cap1) := by
        rw [hg2.cell_far _ (by show y.tb < (wr.alloc _).heap.size; simp; omega) (by rw [← ctb]; simpa using fun e => ap.1 e.symm)]
        show (wr.alloc _).cell? _ = _
        rw [World.cell?_of_block (heap_alloc_old _ _ ltb)]; exact e3
      have kB := hg2.block wr.heap.size (by show wr.heap.size < (wr.alloc _).heap.size; simp) (by have := hT1.lt y1.own_mb; simp; omega)
      have kB' : w2.heap[wr.heap.size]? = some (.cells #[i6 x.1, i6 x.2.1, i6 x.2.2] 62 (0, 0)) := kB.trans (heap_alloc_new wr _)
      have b0 : w2.cell? ⟨wr.heap.size, 0, none⟩ = some (i6 x.1) := by rw [cell_at kB']; rfl
      have b1 : w2.cell? ⟨wr.heap.size, 1, none⟩ = some (i6 x.2.1) := by rw [cell_at kB']; rfl
      have b2 : w2.cell? ⟨wr.heap.size, 2, none⟩ = some (i6 x.2.2) := by rw [cell_at kB']; rfl
      have HT1 := keep hT1
      have HP := keep hput
      have HG2 := keep hg2
      have HA := keep ha
      have HM1 := keep hm1
      have HLR := keep hlr
      have HOK := keep hok1
      have HLS := keep hls
      have HL1 := keep hl1
      have HSM := keep hsm1
      clear hT1 hput hg2 ha hm1 hlr hok1 hls hl1 hsm1 hTa hf hrun hfit hxn kB hx hmn ap
      simp only [i6] at d0 d1 d2 b0 b1 b2
      have HOWN : Hid (∀ o, (w2.alloc o).drew.ownsRow 0 62 3 (.slice ao1 l1 cap1) l1 (flat (s.L ++ M.take k))) := by
        intro o
        have h := HT1.out.list
        rw [HLS.out] at h
        rw [HL1.out]
        refine row_same h fun g hg => ?_
        have hgo : y1.ls.ownBlock = some g := by rw [HLS.out]; exact hg
        have hglt := HT1.out.lt (y1.own_ls hgo)
        have h1 : g < (wr.alloc (.cells #[i6 x.1, i6 x.2.1, i6 x.2.2] 62)).heap.size := by simp; omega
        show (w2.alloc o).heap[g]? = _
        rw [heap_alloc_old w2 o (Nat.lt_of_lt_of_le h1 HG2.out.size), HG2.out.block g h1 (fun e => by cases e; exact HT1.out.apart.2.2.2.2.1 hgo)]
        exact heap_alloc_old wr _ hglt
      have kT : ∀ w4, (w2.alloc (.cells #[.int .i64 x.1, .int .i64 x.2.1, .int .i64 x.2.2] 62)).drew.grownBy w4 (Value.slice ao1 l1 cap1).ownBlock → w4.cell? ⟨y.tb, 3, none⟩ = some (.slice ao1 l1 cap1) ∧ w4.frozen? ⟨y.tb, 3, none⟩ = false ∧ w4.cell? ⟨wr.heap.size, 0, none⟩ = some (.int .i64 x.1) ∧ w4.cell? ⟨wr.heap.size, 1, none⟩ = some (.int .i64 x.2.1) ∧ w4.cell? ⟨wr.heap.size, 2, none⟩ = some (.int .i64 x.2.2) := by
        intro w4 hg
        have hlsb : (Value.slice ao1 l1 cap1).ownBlock = y1.ls.ownBlock := by rw [HLS.out, HL1.out]
        rw [hlsb] at hg
        have hap := HT1.out.apart
        have s2 : wr.heap.size + 1 ≤ w2.heap.size := by have := HG2.out.size; simpa using this
        have g1 : w4.heap[y.tb]? = w2.heap[y.tb]? := by
          rw [hg.block y.tb (by show y.tb < (w2.alloc _).heap.size; simp; omega) (by rw [← ctb]; exact fun e => hap.2.2.1 e.symm)]
          exact heap_alloc_old w2 _ (by omega)
        have g2 : w4.heap[wr.heap.size]? = w2.heap[wr.heap.size]? := by
          rw [hg.block wr.heap.size (by show wr.heap.size < (w2.alloc _).heap.size; simp; omega) (fun e => by have := HT1.out.lt (y1.own_ls e.symm); omega)]
          exact heap_alloc_old w2 _ (by omega)
        have fz : w2.frozen? ⟨y.tb, 3, none⟩ = false := by
          rw [HG2.out.frozen_far _ (by show y.tb < (wr.alloc _).heap.size; simp; omega) (by rw [← ctb]; simpa using fun e => hap.1 e.symm)]
          show (wr.alloc _).frozen? _ = _
          rw [World.frozen?_of_block (heap_alloc_old _ _ ltb), ← ctb]
          exact not_frozen HT1.out.cells
        exact ⟨by rw [World.cell?_of_block g1]; exact k3, by rw [World.frozen?_of_block g1]; exact fz, by rw [World.cell?_of_block g2]; exact b0, by rw [World.cell?_of_block g2]; exact b1, by rw [World.cell?_of_block g2]; exact b2⟩
      have KT := keep kT
      clear kT
      have k3a : ∀ o, (w2.alloc o).cell? ⟨y.tb, 3, none⟩ = some (.slice ao1 l1 cap1) := by
        intro o
        have s2 : wr.heap.size + 1 ≤ w2.heap.size := by have := HG2.out.size; simpa using this
        rw [World.cell?_of_block (heap_alloc_old w2 o (show y.tb < w2.heap.size by omega))]; exact k3
      go_wp2
      go_region
      go_wp2
      go_region_law (first | (refine step_append_lies _ rfl (.tmp 38) (.tmp 40) 41 rfl 0 62 i0 (.agg #[i6 0, i6 0, i6 0]) 3 24 Try.underlying41 HI.out HZ0.out HZ1.out HZ2.out rfl (by decide) (.slice ao1 l1 cap1) l1 (flat (s.L ++ M.take k)) rfl (HOWN.out _) ⟨w2.heap.size, 0, none⟩ 1 1 [.int .i64 x.1, .int .i64 x.2.1, .int .i64 x.2.2] rfl rfl (World.news_of_block (heap_alloc_new w2 _)) (by simp [Value.oneCell']) (by decide) (by unfold maxLen; omega) (by omega) (Nat.zero_le _) (w2.heap.size + 1) (by simp) ?_; intro g4 cap4 w4 hown4 hgrow4 hat4 hlt4; obtain ⟨q3, qf, q0, q1, q2⟩ := KT.out w4 hgrow4))
      all_goals
        go_wp2
        go_roundw
        case rel =>
          refine ⟨k + 1, by omega, by go_num, { y1 with ls := .slice (some ⟨g4, 0, none⟩) (l1 + 1) cap4 }, ?_⟩
          have hlsb : (Value.slice ao1 l1 cap1).ownBlock = y1.ls.ownBlock := by rw [HLS.out, HL1.out]
          rw [hlsb] at hgrow4 hat4
          have R := put_tab HT1.out HOK.out HSM.out HA.out (by have := HP.out; rw [HL1.out] at this; exact this) HG2.out (v := .slice (some ⟨g4, 0, none⟩) (l1 + 1) cap4) (by rw [HL1.out]) (by have := hown4; rw [HL1.out] at this ⊢; exact this) hgrow4 hat4
          rw [← ctb, HTX.out, ← List.append_assoc]
          exact ⟨R.1, HM1.out.trans R.2⟩
        case measure => simp [intOf]; omega
    · have hkn : k = n := by omega
      subst hkn
      have hend : M.take k = M := by rw [hmn]; exact List.take_length
      rw [hend] at hT1
      have HR := keep (And.intro hT1 hm1)
      clear hT1 hm1 hend hmn hlt
      go_wp2
      go_end0
      exact ⟨rfl, y1, HR.out⟩
end Go.Proofs.Ytnkipdlfpnmgeaa
namespace Go.Proofs.Ytnkipdlfpnmgeaa
open Go.RowKit Go.Maps
open Bd (Nd)

/-- A step in memory. -/
def StepAt (w : World) (sb tb room kb : Nat) : Prop := w.heap[sb]? = some (.cells #[.pointer (some ⟨tb, 3, none⟩), i6 room, .map (some kb)] 133 (0, 0))

/-- What a call that makes nodes leaves. -/
structure Grew (X : Nat → Prop) {bits M : Nat} (A : Bd.Fam bits M) (w : World) (y : Lay) (s : St) (w' : World) (r : Nat) (f : Bd.Fn) : Prop where
  ex : ∃ N y', Tab w' y' { s with L := s.L ++ N } ∧ Bd.Within A (s.L ++ N) ∧ r < (s.L ++ N).length + 2 ∧ Bd.den (s.L ++ N) r = f ∧ Moves X w y w' y'

theorem Grew.same {X : Nat → Prop} {bits M : Nat} {A : Bd.Fam bits M} {w w' : World} {y : Lay} {s : St} {r : Nat} {f : Bd.Fn} (hT : Tab w y s) (hW : Bd.Within A s.L) (hr : r < s.L.length + 2) (hf : Bd.den s.L r = f) (hb : Below w.heap.size w w') :
    Grew X A w y s w' r f := by
  refine ⟨[], y, ?_, ?_, ?_, ?_, moves_below y hb⟩
  · rw [List.append_nil]; exact hT.below hb
  · rw [List.append_nil]; exact hW
  · rw [List.append_nil]; exact hr
  · rw [List.append_nil]; exact hf

theorem row_one (w : World) (x : Nd) : (w.alloc (.cells #[i6 x.1, i6 x.2.1, i6 x.2.2] 62)).ownsRow 0 62 3 (.slice (some ⟨w.heap.size, 0, none⟩) 1 1) [x].length (flat [x]) :=
  ⟨by simp [flat], Or.inr ⟨w.heap.size, 1, _, rfl, Nat.zero_le _, heap_alloc_new w _, Nat.le_refl _, by unfold maxLen; omega, rfl, by simp [flat]⟩⟩

theorem out_of_grew {X : Nat → Prop} {bits M : Nat} {A : Bd.Fam bits M} {w w' w'' : World} {y : Lay} {s : St} {r : Nat} {f : Bd.Fn} (h : Grew X A w y s w' r f) (hb : Below w'.heap.size w' w'') : Grew X A w y s w'' r f := by
  obtain ⟨N, y', h1, h2, h3, h4, h5⟩ := h.ex
  exact ⟨N, y', h1.below hb, h2, h3, h4, h5.trans (moves_below y' hb)⟩

/-- put, as node calls it. -/
theorem put_new {M : Nat} {w : World} {y : Lay} {s : St} (A : Bd.Fam s.bits M) (hT : Tab w y s) (sb room kb : Nat) (hS : StepAt w sb y.tb room kb) (hns : ¬ y.own sb)
    (k lo hi : Nat) (hok : Bd.Okay s.bits (s.L ++ [(k, lo, hi)])) (hW : Bd.Within A (s.L ++ [(k, lo, hi)])) (hsm : s.L.length + 1 ≤ 1073741824) :
    Calls Try.prog 43 #[.pointer (some ⟨y.tb, 3, none⟩), .slice (some ⟨w.heap.size + 1, 0, none⟩) 1 1] ((w.alloc (.cells #[.int .i64 k, .int .i64 lo, .int .i64 hi] 62)).alloc (.cells #[.int .i64 k, .int .i64 lo, .int .i64 hi] 62)).drew.drew.drew
      fun e w5 => e = .returned (.tuple #[]) ∧ ∃ mb, w5.cell? ⟨sb, 0, none⟩ = some (.pointer (some ⟨y.tb, 3, none⟩)) ∧ w5.cell? ⟨w.heap.size, 0, none⟩ = some (.int .i64 k) ∧ w5.cell? ⟨w.heap.size, 1, none⟩ = some (.int .i64 lo) ∧ w5.cell? ⟨w.heap.size, 2, none⟩ = some (.int .i64 hi) ∧
        w5.cell? ⟨y.tb, 4, none⟩ = some (.map (some mb)) ∧ (Instr.lookup 74 (.map (some mb)) (.agg #[.int .i64 k, .int .i64 lo, .int .i64 hi]) false).run Try.prog w5.drew = .ok (.int .i64 ((s.L.length : Int) + 2)) w5.drew ∧
        Grew noX A w y s w5.drew (s.L.length + 2) (Bd.mux k (Bd.den s.L lo) (Bd.den s.L hi)) := by
  have hB : Below w.heap.size w ((w.alloc (.cells #[.int .i64 k, .int .i64 lo, .int .i64 hi] 62)).alloc (.cells #[.int .i64 k, .int .i64 lo, .int .i64 hi] 62)).drew.drew.drew :=
    ((((Below.refl _ _).alloc (Nat.le_refl _) _).alloc (by simp) _).drew).drew.drew
  have hrow : (((w.alloc (.cells #[.int .i64 k, .int .i64 lo, .int .i64 hi] 62)).alloc (.cells #[.int .i64 k, .int .i64 lo, .int .i64 hi] 62)).drew.drew.drew).ownsRow 0 62 3 (.slice (some ⟨w.heap.size + 1, 0, none⟩) 1 1) [(k, lo, hi)].length (flat [(k, lo, hi)]) := by
    have h := row_one (w.alloc (.cells #[.int .i64 k, .int .i64 lo, .int .i64 hi] 62)) (k, lo, hi)
    have e : (w.alloc (.cells #[.int .i64 k, .int .i64 lo, .int .i64 hi] 62)).heap.size = w.heap.size + 1 := by simp
    rw [e] at h
    exact row_same h fun _ _ => rfl
  have lsb := block_lt hS
  refine (put_any (hT.below hB) [(k, lo, hi)] _ hrow ?_ hok (by simpa using hsm)).mono ?_
  · intro b hb ho
    have := hT.lt ho
    simp [Value.ownBlock] at hb
    omega
  · rintro e w5 ⟨rfl, y5, hT5, hm5⟩
    have h1 := hm5.block w.heap.size (by show w.heap.size < ((w.alloc _).alloc _).heap.size; simp <;> omega) (fun ho => by have := hT.lt ho; omega) (fun h => h)
    have h2 : w5.heap[w.heap.size]? = some (.cells #[.int .i64 k, .int .i64 lo, .int .i64 hi] 62 (0, 0)) := by
      rw [h1]
      show ((w.alloc _).alloc _).heap[w.heap.size]? = _
      rw [heap_alloc_old _ _ (by simp)]
      exact heap_alloc_new w _
    refine ⟨rfl, y5.mb, ?_, ?_, ?_, ?_, ?_, ?_, ?_⟩
    · have h1 := hm5.block sb (by show sb < ((w.alloc _).alloc _).heap.size; simp; omega) hns (fun h => h)
      rw [World.cell?_of_block h1, hB.cell lsb, cell_at hS]; rfl
    · rw [cell_at h2]; rfl
    · rw [cell_at h2]; rfl
    · rw [cell_at h2]; rfl
    · have := hT5.cell4
      rw [hm5.tb] at this
      exact this
    · obtain ⟨f, hf, ha⟩ := hT5.nodes
      have hfit := hok.fit s.L.length (k, lo, hi) (by rw [List.getElem?_append_right (Nat.le_refl _)]; simp)
      have hf128 := hok.few
      obtain ⟨kl, hkl⟩ := key_node (a := k) (b := lo) (c := hi) (by have := hfit.2.2.2.1; simp at this; omega) (by have := hfit.1; simp at this; omega) (by have := hfit.2.1; simp at this; omega)
      have h1 := MapOf.look1 (w := w5.drew) (hf.same rfl) kNode Try.underlying74 Try.underlying3 (zero_int _) hkl
      have h2 : f (.agg #[i6 k, i6 lo, i6 hi]) = some ((s.L.length + 2 : Nat) : Int) := (ha (k, lo, hi)).1 s.L.length (by show (s.L ++ [(k, lo, hi)])[s.L.length]? = _; rw [List.getElem?_append_right (Nat.le_refl _)]; simp)
      rw [h2] at h1
      exact h1
    · refine out_of_grew ⟨[(k, lo, hi)], y5, hT5, hW, ?_, Bd.den_snoc_new _ _, (moves_below y hB).trans hm5⟩ (Below.refl _ _).drew
      simp

set_option maxHeartbeats 2000000 in
theorem node_any {M : Nat} {w : World} {y : Lay} {s : St} (A : Bd.Fam s.bits M) (hT : Tab w y s) (hW : Bd.Within A s.L) (sb room kb : Nat) (hS : StepAt w sb y.tb room kb) (hns : ¬ y.own sb) (hroom : s.bits * M ≤ room) (hr3 : room ≤ 1073741824)
    (k lo hi : Nat) (hk : k < s.bits) (hlo : lo < s.L.length + 2) (hhi : hi < s.L.length + 2) (hlb : k < Bd.bitOf s.L lo) (hhb : k < Bd.bitOf s.L hi) (hF : A.F k (Bd.mux k (Bd.den s.L lo) (Bd.den s.L hi))) :
    Calls Try.prog 74 #[.pointer (some ⟨sb, 0, none⟩), i6 k, i6 lo, i6 hi] w fun e w' => ∃ r, e = .returned (i6 r) ∧ Grew noX A w y s w' r (Bd.mux k (Bd.den s.L lo) (Bd.den s.L hi)) := by
  by_cases hlh : lo = hi
  · subst hlh
    have HR : Hid (Grew noX A w y s w lo (Bd.mux k (Bd.den s.L lo) (Bd.den s.L lo))) := Grew.same hT hW hlo (Bd.mux_same _ _).symm (Below.refl _ _)
    clear hT hW hF hS
    go_enter Try.func74, Try.ntmps74
    go_wp2
    go_ret
    exact ⟨lo, rfl, HR.out⟩
  · have hf128 := hT.okay.few
    have hsm := hT.small.1
    have hneI : ((lo : Int) == (hi : Int)) = false := by rw [beq_eq_false_iff_ne]; omega
    obtain ⟨kl, hkl⟩ := key_node (a := k) (b := lo) (c := hi) (by omega) (by omega) (by omega)
    have s0 : w.cell? ⟨sb, 0, none⟩ = some (.pointer (some ⟨y.tb, 3, none⟩)) := by rw [cell_at hS]; rfl
    have s1 : w.cell? ⟨sb, 1, none⟩ = some (i6 room) := by rw [cell_at hS]; rfl
    have ltb := hT.lt y.own_tb
    have lsb := block_lt hS
    have hTa := hT.below (w' := (w.alloc (.cells #[i6 k, i6 lo, i6 hi] 62))) ((Below.refl _ _).alloc (Nat.le_refl _) _)
    obtain ⟨f, hf, ha⟩ := hTa.nodes
    have hlook := MapOf.look (w := (w.alloc (.cells #[i6 k, i6 lo, i6 hi] 62)).drew) (hf.same rfl) kNode Try.underlying74 Try.underlying3 (zero_int _) hkl
    have c4 := hT.cell4
    simp only [i6] at s1
    by_cases hin : (k, lo, hi) ∈ s.L
    · obtain ⟨i, hi', hx⟩ := List.getElem_of_mem hin
      have hx' : s.L[i]? = some (k, lo, hi) := by rw [List.getElem?_eq_getElem hi', hx]
      have hfx : f (.agg #[i6 k, i6 lo, i6 hi]) = some ((i + 2 : Nat) : Int) := (ha (k, lo, hi)).1 i hx'
      rw [hfx] at hlook
      simp only [Option.getD_some, Option.isSome_some, i6] at hlook
      have HR : Hid (Grew noX A w y s (w.alloc (.cells #[.int .i64 k, .int .i64 lo, .int .i64 hi] 62)).drew (i + 2) (Bd.mux k (Bd.den s.L lo) (Bd.den s.L hi))) :=
        Grew.same hT hW (by omega) (Bd.den_at hT.okay hx') ((Below.refl _ _).alloc (Nat.le_refl _) _).drew
      clear hT hW hF hS hTa hf ha hfx hx hx' hin hkl hi'
      go_enter Try.func74, Try.ntmps74
      go_wp2
      go_region
      go_wp2
      go_ret
      exact ⟨i + 2, rfl, HR.out⟩
    · have hfx : f (.agg #[i6 k, i6 lo, i6 hi]) = none := (ha (k, lo, hi)).2 hin
      rw [hfx] at hlook
      simp only [Option.getD_none, Option.isSome_none, i6] at hlook
      have hok := hT.okay.snoc hin hlo hhi hlh hk hlb hhb
      have hW' : Bd.Within A (s.L ++ [(k, lo, hi)]) := hW.snoc hF
      have hfew := hW'.few hok
      have hlen : s.L.length + 1 ≤ room := by
        have e : (s.L ++ [(k, lo, hi)]).length = s.L.length + 1 := by simp
        omega
      have hls : ∃ ao cap, y.ls = .slice ao s.L.length cap := by
        rcases hT.list.2 with ⟨e, e2⟩ | ⟨g, c, _, e, _⟩
        · exact ⟨none, 0, by rw [e]; rw [e2]⟩
        · exact ⟨_, _, e⟩
      obtain ⟨ao, cap, hls⟩ := hls
      have c3 := hT.cell3
      rw [hls] at c3
      have hnI : ¬ ((room : Int) ≤ (s.L.length : Int)) := by omega
      have c3a : ∀ o, (w.alloc o).cell? ⟨y.tb, 3, none⟩ = some (.slice ao s.L.length cap) := by
        intro o
        rw [World.cell?_of_block (heap_alloc_old w o ltb)]; exact c3
      have s0a : ∀ o, (w.alloc o).cell? ⟨sb, 0, none⟩ = some (.pointer (some ⟨y.tb, 3, none⟩)) := by
        intro o
        rw [World.cell?_of_block (heap_alloc_old w o lsb)]; exact s0
      have HT := keep hT
      have HP := keep (put_new A hT sb room kb hS hns k lo hi hok hW' (by omega))
      clear hT hW hF hS hTa hf ha hfx hin hkl hok hW' hfew hlh
      obtain ⟨len, hlen0⟩ : ∃ len, len = s.L.length := ⟨_, rfl⟩
      have HLEN := keep hlen0
      rw [← hlen0] at c3 c3a hnI hsm hlen hlo hhi
      have hp := HP.out
      rw [← hlen0] at hp
      have HP := keep hp
      clear hp
      clear hlen0
      go_enter Try.func74, Try.ntmps74
      go_wp2
      go_region
      go_wp2
      have hnd : decide (room ≤ len) = false := by simp; omega
      go_region
      go_wp2_with fail
      go_region_held3 (fun w' => w'.cell? ⟨sb, 0, none⟩ = some (.pointer (some ⟨y.tb, 3, none⟩)) ∧ w'.cell? ⟨w.heap.size, 0, none⟩ = some (.int .i64 k) ∧ w'.cell? ⟨w.heap.size, 1, none⟩ = some (.int .i64 lo) ∧ w'.cell? ⟨w.heap.size, 2, none⟩ = some (.int .i64 hi)) (first | (go_keep; done) | exact ⟨q1, q2, q3, q4⟩) (first | (go_at_call 43; refine HP.out.mono ?_; rintro e w5 ⟨rfl, mb, q1, q2, q3, q4, q5, q6, q7⟩))
      have HG := keep q7
      clear q7
      go_wp2
      go_region
      go_wp2
      go_ret
      exact ⟨len + 2, rfl, HG.out⟩
end Go.Proofs.Ytnkipdlfpnmgeaa
namespace Go.Proofs.Ytnkipdlfpnmgeaa
open Go.RowKit Go.Maps
open Bd (Nd)

def boos (l : List Bool) : List Value := l.map Value.bool
theorem boos_length (l : List Bool) : (boos l).length = l.length := by simp [boos]
theorem boos_append (a b : List Bool) : boos (a ++ b) = boos a ++ boos b := by simp [boos]

/-- Where its parts lie. -/
structure QLay where
  tb : Nat
  ns : Value
  us : Value
  ts : Value
/-- What it holds: the nodes, which of them are used, which are told. -/
structure QSt where
  L : List Nd
  U : List Bool
  T : List Bool
  bits : Nat
  limit : Nat
def QLay.own (y : QLay) (k : Nat) : Prop := k = y.tb ∨ y.ns.ownBlock = some k ∨ y.us.ownBlock = some k ∨ y.ts.ownBlock = some k
def QSt.grow (s : QSt) (N : List Nd) : QSt := { s with L := s.L ++ N, U := s.U ++ List.replicate N.length false, T := s.T ++ List.replicate N.length false }
theorem QSt.grow_nil (s : QSt) : s.grow [] = s := by simp [QSt.grow]
theorem QSt.grow_grow (s : QSt) (N M : List Nd) : (s.grow N).grow M = s.grow (N ++ M) := by
  simp [QSt.grow, List.append_assoc, ← List.replicate_append_replicate]

structure QTab (w : World) (y : QLay) (s : QSt) : Prop where
  cells : w.heap[y.tb]? = some (.cells #[i6 s.bits, i6 s.limit, y.ns, y.us, y.ts] 66 (0, 0))
  list : w.ownsRow 0 62 3 y.ns s.L.length (flat s.L)
  used : w.ownsRow 0 4 1 y.us s.L.length (boos s.U)
  told : w.ownsRow 0 4 1 y.ts s.L.length (boos s.T)
  two : ∀ g, y.us.ownBlock = some g → y.ts.ownBlock ≠ some g
  okay : Bd.Okay s.bits s.L
  small : s.L.length ≤ 1073741824 ∧ s.limit ≤ 1048576 ∧ 1 ≤ s.bits

theorem QLay.own_tb (y : QLay) : y.own y.tb := Or.inl rfl
theorem QLay.own_ns (y : QLay) {k : Nat} (h : y.ns.ownBlock = some k) : y.own k := Or.inr (Or.inl h)
theorem QLay.own_us (y : QLay) {k : Nat} (h : y.us.ownBlock = some k) : y.own k := Or.inr (Or.inr (Or.inl h))
theorem QLay.own_ts (y : QLay) {k : Nat} (h : y.ts.ownBlock = some k) : y.own k := Or.inr (Or.inr (Or.inr h))
section
variable {w w' : World} {y y' : QLay} {s s' : QSt}
theorem QTab.lenU (h : QTab w y s) : s.U.length = s.L.length := by have := h.used.1; rw [boos_length] at this; omega
theorem QTab.lenT (h : QTab w y s) : s.T.length = s.L.length := by have := h.told.1; rw [boos_length] at this; omega
theorem QTab.lt (h : QTab w y s) {k : Nat} (hk : y.own k) : k < w.heap.size := by
  rcases hk with rfl | hk | hk | hk
  · exact block_lt h.cells
  · exact (h.list.lt k hk).2
  · exact (h.used.lt k hk).2
  · exact (h.told.lt k hk).2
/-- Each block of a table is of one of three types. -/
theorem QTab.kind (h : QTab w y s) {k : Nat} (hk : y.own k) : ∃ cur t, w.heap[k]? = some (.cells cur t (0, 0)) ∧ (t = 66 ∨ t = 62 ∨ t = 4) := by
  rcases hk with rfl | hk | hk | hk
  · exact ⟨_, _, h.cells, Or.inl rfl⟩
  · obtain ⟨cur, hc⟩ := owned_cells h.list hk; exact ⟨cur, _, hc, Or.inr (Or.inl rfl)⟩
  · obtain ⟨cur, hc⟩ := owned_cells h.used hk; exact ⟨cur, _, hc, Or.inr (Or.inr rfl)⟩
  · obtain ⟨cur, hc⟩ := owned_cells h.told hk; exact ⟨cur, _, hc, Or.inr (Or.inr rfl)⟩
theorem QTab.apart (h : QTab w y s) : y.ns.ownBlock ≠ some y.tb ∧ y.us.ownBlock ≠ some y.tb ∧ y.ts.ownBlock ≠ some y.tb ∧ (∀ g, y.ns.ownBlock = some g → y.us.ownBlock ≠ some g) ∧ (∀ g, y.ns.ownBlock = some g → y.ts.ownBlock ≠ some g) := by
  refine ⟨fun e => ?_, fun e => ?_, fun e => ?_, fun g e e' => ?_, fun g e e' => ?_⟩
  · obtain ⟨cur, hc⟩ := owned_cells h.list e; rw [h.cells] at hc; simp at hc
  · obtain ⟨cur, hc⟩ := owned_cells h.used e; rw [h.cells] at hc; simp at hc
  · obtain ⟨cur, hc⟩ := owned_cells h.told e; rw [h.cells] at hc; simp at hc
  · obtain ⟨cur, hc⟩ := owned_cells h.list e; obtain ⟨cur', hc'⟩ := owned_cells h.used e'; rw [hc] at hc'; simp at hc'
  · obtain ⟨cur, hc⟩ := owned_cells h.list e; obtain ⟨cur', hc'⟩ := owned_cells h.told e'; rw [hc] at hc'; simp at hc'
theorem QTab.same (h : QTab w y s) (hb : ∀ k, y.own k → w'.heap[k]? = w.heap[k]?) : QTab w' y s :=
  { cells := (hb _ y.own_tb).trans h.cells, list := row_same h.list fun _ hg => hb _ (y.own_ns hg), used := row_same h.used fun _ hg => hb _ (y.own_us hg), told := row_same h.told fun _ hg => hb _ (y.own_ts hg), two := h.two, okay := h.okay, small := h.small }
theorem QTab.below (h : QTab w y s) (hb : Below w.heap.size w w') : QTab w' y s := h.same fun k hk => hb.block k (h.lt hk)
theorem QTab.cell0 (h : QTab w y s) : w.cell? ⟨y.tb, 0, none⟩ = some (.int .i64 s.bits) := by rw [cell_at h.cells]; rfl
theorem QTab.cell1 (h : QTab w y s) : w.cell? ⟨y.tb, 1, none⟩ = some (.int .i64 s.limit) := by rw [cell_at h.cells]; rfl
theorem QTab.cell2 (h : QTab w y s) : w.cell? ⟨y.tb, 2, none⟩ = some y.ns := by rw [cell_at h.cells]; rfl
theorem QTab.cell3 (h : QTab w y s) : w.cell? ⟨y.tb, 3, none⟩ = some y.us := by rw [cell_at h.cells]; rfl
theorem QTab.cell4 (h : QTab w y s) : w.cell? ⟨y.tb, 4, none⟩ = some y.ts := by rw [cell_at h.cells]; rfl
theorem row_slice {base e size n : Nat} {v : Value} {xs : List Value} (h : w.ownsRow base e size v n xs) : ∃ ao cap, v = .slice ao n cap := by
  rcases h.2 with ⟨e, e2⟩ | ⟨g, c, _, e, _⟩
  · exact ⟨none, 0, by rw [e, e2]⟩
  · exact ⟨_, _, e⟩
end

/-- What a call may touch: the blocks of O; those of O' are of O or new. -/
structure Touch (O O' : Nat → Prop) (w w' : World) : Prop where
  own : ∀ k, O' k → O k ∨ w.heap.size ≤ k
  os : w'.os = w.os
  tape : w'.tape = w.tape
  output : w'.output = w.output
  size : w.heap.size ≤ w'.heap.size
  block : ∀ k, k < w.heap.size → ¬ O k → w'.heap[k]? = w.heap[k]?
section
variable {O O1 O2 : Nat → Prop} {w w1 w2 : World}
theorem Touch.refl (O : Nat → Prop) (w : World) : Touch O O w w := ⟨fun _ h => Or.inl h, rfl, rfl, rfl, Nat.le_refl _, fun _ _ _ => rfl⟩
theorem Touch.trans (h : Touch O O1 w w1) (h' : Touch O1 O2 w1 w2) : Touch O O2 w w2 := by
  refine ⟨fun k hk => ?_, h'.os.trans h.os, h'.tape.trans h.tape, h'.output.trans h.output, Nat.le_trans h.size h'.size, fun k hk hn => ?_⟩
  · rcases h'.own k hk with h1 | h1
    · exact h.own k h1
    · exact Or.inr (Nat.le_trans h.size h1)
  · refine (h'.block k (Nat.lt_of_lt_of_le hk h.size) fun ho => ?_).trans (h.block k hk hn)
    rcases h.own k ho with h2 | h2
    · exact hn h2
    · omega
theorem touch_below (O : Nat → Prop) (h : Below w.heap.size w w1) : Touch O O w w1 := ⟨fun _ hk => Or.inl hk, h.os, h.tape, h.output, h.size, fun k hk _ => h.block k hk⟩
theorem Touch.not_own (h : Touch O O1 w w1) {k : Nat} (hk : k < w.heap.size) (hn : ¬ O k) : ¬ O1 k := fun ho => by
  rcases h.own k ho with h1 | h1
  · exact hn h1
  · omega
/-- More may be touched. -/
theorem Touch.more (h : Touch O O1 w w1) (X : Nat → Prop) : Touch (fun k => O k ∨ X k) (fun k => O1 k ∨ X k) w w1 :=
  ⟨fun k hk => by
    rcases hk with hk | hk
    · rcases h.own k hk with h1 | h1
      · exact Or.inl (Or.inl h1)
      · exact Or.inr h1
    · exact Or.inl (Or.inr hk), h.os, h.tape, h.output, h.size, fun k hk hn => h.block k hk fun ho => hn (Or.inl ho)⟩
end

/-- What a call that makes nodes leaves. -/
structure QGrew {bits M : Nat} (A : Bd.Fam bits M) (w : World) (y : QLay) (s : QSt) (w' : World) (r : Nat) (f : Bd.Fn) : Prop where
  ex : ∃ N y', QTab w' y' (s.grow N) ∧ Bd.Within A (s.L ++ N) ∧ r < (s.L ++ N).length + 2 ∧ Bd.den (s.L ++ N) r = f ∧ Touch y.own y'.own w w' ∧ y'.tb = y.tb
theorem QGrew.same {bits M : Nat} {A : Bd.Fam bits M} {w w' : World} {y : QLay} {s : QSt} {r : Nat} {f : Bd.Fn} (hT : QTab w y s) (hW : Bd.Within A s.L) (hr : r < s.L.length + 2) (hf : Bd.den s.L r = f) (hb : Below w.heap.size w w') : QGrew A w y s w' r f := by
  refine ⟨[], y, ?_, ?_, ?_, ?_, touch_below _ hb, rfl⟩
  · rw [QSt.grow_nil]; exact hT.below hb
  · rw [List.append_nil]; exact hW
  · rw [List.append_nil]; exact hr
  · rw [List.append_nil]; exact hf
end Go.Proofs.Ytnkipdlfpnmgeaa
namespace Go.Proofs.Ytnkipdlfpnmgeaa
open Go.RowKit Go.Maps
open Bd (Nd)

theorem Try.infoBoo : (Try.prog.info? 4).map (fun i => (i.zero, i.size, i.bytes)) = some (some (.bool false), 1, 1) := by kernel_rfl

/-- A node's cells. -/
theorem QTab.node {w : World} {y : QLay} {s : QSt} (h : QTab w y s) {i : Nat} {x : Nd} (hx : s.L[i]? = some x) :
    ∃ g cap, y.ns = .slice (some ⟨g, 0, none⟩) s.L.length cap ∧ w.cell? ⟨g, i * 3, none⟩ = some (.int .i64 x.1) ∧ w.cell? ⟨g, i * 3 + 1, none⟩ = some (.int .i64 x.2.1) ∧ w.cell? ⟨g, i * 3 + 2, none⟩ = some (.int .i64 x.2.2) := by
  have hi := Bd.getElem?_lt hx
  obtain ⟨g, cap, hv, _, _⟩ := h.list.form (by omega)
  have hl := h.list
  rw [hv] at hl
  have hadd : ∀ j, (⟨g, 0, none⟩ : Addr).add j = ⟨g, j, none⟩ := by intro j; unfold Addr.add; split <;> simp_all
  obtain ⟨f0, f1, f2⟩ := flat_at hx
  have d0 := hl.cells rfl _ _ f0
  have d1 := hl.cells rfl _ _ f1
  have d2 := hl.cells rfl _ _ f2
  rw [hadd] at d0 d1 d2
  exact ⟨g, cap, hv, d0, d1, d2⟩

/-- A table's struct and its three rows, each of its own length. -/
structure Q3 (w : World) (tb : Nat) (b l ns us ts : Value) (n0 n1 n2 : Nat) (xs ys zs : List Value) : Prop where
  cells : w.heap[tb]? = some (.cells #[b, l, ns, us, ts] 66 (0, 0))
  list : w.ownsRow 0 62 3 ns n0 xs
  used : w.ownsRow 0 4 1 us n1 ys
  told : w.ownsRow 0 4 1 ts n2 zs
  two : ∀ g, us.ownBlock = some g → ts.ownBlock ≠ some g
def q3own (tb : Nat) (ns us ts : Value) (k : Nat) : Prop := k = tb ∨ ns.ownBlock = some k ∨ us.ownBlock = some k ∨ ts.ownBlock = some k
section
variable {w w1 : World} {tb : Nat} {b l ns us ts v : Value} {n0 n1 n2 m g : Nat} {xs ys zs vs : List Value} {o : Obj}
theorem Q3.apart (h : Q3 w tb b l ns us ts n0 n1 n2 xs ys zs) : ns.ownBlock ≠ some tb ∧ us.ownBlock ≠ some tb ∧ ts.ownBlock ≠ some tb ∧ (∀ g, ns.ownBlock = some g → us.ownBlock ≠ some g) ∧ (∀ g, ns.ownBlock = some g → ts.ownBlock ≠ some g) := by
  refine ⟨fun e => ?_, fun e => ?_, fun e => ?_, fun g e e' => ?_, fun g e e' => ?_⟩
  · obtain ⟨cur, hc⟩ := owned_cells h.list e; rw [h.cells] at hc; simp at hc
  · obtain ⟨cur, hc⟩ := owned_cells h.used e; rw [h.cells] at hc; simp at hc
  · obtain ⟨cur, hc⟩ := owned_cells h.told e; rw [h.cells] at hc; simp at hc
  · obtain ⟨cur, hc⟩ := owned_cells h.list e; obtain ⟨cur', hc'⟩ := owned_cells h.used e'; rw [hc] at hc'; simp at hc'
  · obtain ⟨cur, hc⟩ := owned_cells h.list e; obtain ⟨cur', hc'⟩ := owned_cells h.told e'; rw [hc] at hc'; simp at hc'
theorem Q3.lt (h : Q3 w tb b l ns us ts n0 n1 n2 xs ys zs) {k : Nat} (hk : q3own tb ns us ts k) : k < w.heap.size := by
  rcases hk with rfl | hk | hk | hk
  · exact block_lt h.cells
  · exact (h.list.lt k hk).2
  · exact (h.used.lt k hk).2
  · exact (h.told.lt k hk).2
theorem grown_old (hg : (w.alloc o).grownBy w1 v.ownBlock) {k : Nat} (hk : k < w.heap.size) (hn : v.ownBlock ≠ some k) : w1.heap[k]? = w.heap[k]? :=
  (hg.block k (by simp; omega) (fun e => hn e.symm)).trans (heap_alloc_old w o hk)
/-- One of the rows has grown, and lies in its field. -/
theorem set_touch (O : Nat → Prop) {old : Value} {tb i : Nat} (htb : O tb) (hold : ∀ k, old.ownBlock = some k → O k) (hg : (w.alloc o).grownBy w1 old.ownBlock) (O' : Nat → Prop) (hO' : ∀ k, O' k → O k ∨ w.heap.size ≤ k) : Touch O O' w (w1.setCell ⟨tb, i, none⟩ v) := by
  have hz : w.heap.size + 1 ≤ w1.heap.size := by have := hg.size; simpa using this
  refine ⟨hO', hg.os, hg.tape, hg.output, by simp; omega, fun k hk hn => ?_⟩
  rw [set_other v (fun e => hn (by rw [e]; exact htb))]
  exact grown_old hg hk (fun e => hn (hold k e))
theorem Q3.stepN (h : Q3 w tb b l ns us ts n0 n1 n2 xs ys zs) (hown : w1.ownsRow 0 62 3 v m vs) (hg : (w.alloc o).grownBy w1 ns.ownBlock) (hv : v.ownBlock = some g) (hat : ns.ownBlock = some g ∨ g = w.heap.size + 1) :
    Q3 (w1.setCell ⟨tb, 2, none⟩ v) tb b l v us ts m n1 n2 vs ys zs ∧ Touch (q3own tb ns us ts) (q3own tb v us ts) w (w1.setCell ⟨tb, 2, none⟩ v) := by
  obtain ⟨a1, a2, a3, a4, a5⟩ := h.apart
  have ltb := block_lt h.cells
  have hc : w1.heap[tb]? = _ := (grown_old hg ltb a1).trans h.cells
  have hgt : g ≠ tb := by
    rcases hat with e | e
    · intro e'; rw [e'] at e; exact a1 e
    · omega
  refine ⟨⟨by rw [set_block (o := 2) v hc]; rfl, row_same hown fun g' hg' => set_other v (by rw [hv] at hg'; cases hg'; exact hgt), row_same h.used fun g' hg' => ?_, row_same h.told fun g' hg' => ?_, h.two⟩, set_touch _ (Or.inl rfl) (fun k hk => Or.inr (Or.inl hk)) hg _ (fun k hk => ?_)⟩
  · rw [set_other v (fun e => a2 (by rw [hg', e]))]
    exact grown_old hg (h.used.lt g' hg').2 (fun e => a4 g' e hg')
  · rw [set_other v (fun e => a3 (by rw [hg', e]))]
    exact grown_old hg (h.told.lt g' hg').2 (fun e => a5 g' e hg')
  · rcases hk with e | e | e | e
    · exact Or.inl (Or.inl e)
    · rw [hv] at e
      cases e
      rcases hat with e | e
      · exact Or.inl (Or.inr (Or.inl e))
      · exact Or.inr (by omega)
    · exact Or.inl (Or.inr (Or.inr (Or.inl e)))
    · exact Or.inl (Or.inr (Or.inr (Or.inr e)))
theorem Q3.stepU (h : Q3 w tb b l ns us ts n0 n1 n2 xs ys zs) (hown : w1.ownsRow 0 4 1 v m vs) (hg : (w.alloc o).grownBy w1 us.ownBlock) (hv : v.ownBlock = some g) (hat : us.ownBlock = some g ∨ g = w.heap.size + 1) :
    Q3 (w1.setCell ⟨tb, 3, none⟩ v) tb b l ns v ts n0 m n2 xs vs zs ∧ Touch (q3own tb ns us ts) (q3own tb ns v ts) w (w1.setCell ⟨tb, 3, none⟩ v) := by
  obtain ⟨a1, a2, a3, a4, a5⟩ := h.apart
  have ltb := block_lt h.cells
  have hc : w1.heap[tb]? = _ := (grown_old hg ltb a2).trans h.cells
  have hgt : g ≠ tb := by
    rcases hat with e | e
    · intro e'; rw [e'] at e; exact a2 e
    · omega
  refine ⟨⟨by rw [set_block (o := 3) v hc]; rfl, row_same h.list fun g' hg' => ?_, row_same hown fun g' hg' => set_other v (by rw [hv] at hg'; cases hg'; exact hgt), row_same h.told fun g' hg' => ?_, fun g' e1 e2 => ?_⟩, set_touch _ (Or.inl rfl) (fun k hk => Or.inr (Or.inr (Or.inl hk))) hg _ (fun k hk => ?_)⟩
  · rw [set_other v (fun e => a1 (by rw [hg', e]))]
    exact grown_old hg (h.list.lt g' hg').2 (fun e => a4 g' hg' e)
  · rw [set_other v (fun e => a3 (by rw [hg', e]))]
    exact grown_old hg (h.told.lt g' hg').2 (fun e => h.two g' e hg')
  · rw [hv] at e1
    cases e1
    rcases hat with e | e
    · exact h.two g e e2
    · have := (h.told.lt g e2).2; omega
  · rcases hk with e | e | e | e
    · exact Or.inl (Or.inl e)
    · exact Or.inl (Or.inr (Or.inl e))
    · rw [hv] at e
      cases e
      rcases hat with e | e
      · exact Or.inl (Or.inr (Or.inr (Or.inl e)))
      · exact Or.inr (by omega)
    · exact Or.inl (Or.inr (Or.inr (Or.inr e)))
theorem Q3.stepT (h : Q3 w tb b l ns us ts n0 n1 n2 xs ys zs) (hown : w1.ownsRow 0 4 1 v m vs) (hg : (w.alloc o).grownBy w1 ts.ownBlock) (hv : v.ownBlock = some g) (hat : ts.ownBlock = some g ∨ g = w.heap.size + 1) :
    Q3 (w1.setCell ⟨tb, 4, none⟩ v) tb b l ns us v n0 n1 m xs ys vs ∧ Touch (q3own tb ns us ts) (q3own tb ns us v) w (w1.setCell ⟨tb, 4, none⟩ v) := by
  obtain ⟨a1, a2, a3, a4, a5⟩ := h.apart
  have ltb := block_lt h.cells
  have hc : w1.heap[tb]? = _ := (grown_old hg ltb a3).trans h.cells
  have hgt : g ≠ tb := by
    rcases hat with e | e
    · intro e'; rw [e'] at e; exact a3 e
    · omega
  refine ⟨⟨by rw [set_block (o := 4) v hc]; rfl, row_same h.list fun g' hg' => ?_, row_same h.used fun g' hg' => ?_, row_same hown fun g' hg' => set_other v (by rw [hv] at hg'; cases hg'; exact hgt), fun g' e1 e2 => ?_⟩, set_touch _ (Or.inl rfl) (fun k hk => Or.inr (Or.inr (Or.inr hk))) hg _ (fun k hk => ?_)⟩
  · rw [set_other v (fun e => a1 (by rw [hg', e]))]
    exact grown_old hg (h.list.lt g' hg').2 (fun e => a5 g' hg' e)
  · rw [set_other v (fun e => a2 (by rw [hg', e]))]
    exact grown_old hg (h.used.lt g' hg').2 (fun e => h.two g' hg' e)
  · rw [hv] at e2
    cases e2
    rcases hat with e | e
    · exact h.two g e1 e
    · have := (h.used.lt g e1).2; omega
  · rcases hk with e | e | e | e
    · exact Or.inl (Or.inl e)
    · exact Or.inl (Or.inr (Or.inl e))
    · exact Or.inl (Or.inr (Or.inr (Or.inl e)))
    · rw [hv] at e
      cases e
      rcases hat with e | e
      · exact Or.inl (Or.inr (Or.inr (Or.inr e)))
      · exact Or.inr (by omega)
theorem Q3.facts (h : Q3 w tb b l ns us ts n0 n1 n2 xs ys zs) : w.cell? ⟨tb, 2, none⟩ = some ns ∧ w.cell? ⟨tb, 3, none⟩ = some us ∧ w.cell? ⟨tb, 4, none⟩ = some ts ∧ w.frozen? ⟨tb, 2, none⟩ = false ∧ w.frozen? ⟨tb, 3, none⟩ = false ∧ w.frozen? ⟨tb, 4, none⟩ = false :=
  ⟨by rw [cell_at h.cells]; rfl, by rw [cell_at h.cells]; rfl, by rw [cell_at h.cells]; rfl, not_frozen h.cells, not_frozen h.cells, not_frozen h.cells⟩
theorem block_facts (hc : w1.heap[tb]? = w.heap[tb]?) (h : Q3 w tb b l ns us ts n0 n1 n2 xs ys zs) : w1.cell? ⟨tb, 2, none⟩ = some ns ∧ w1.cell? ⟨tb, 3, none⟩ = some us ∧ w1.cell? ⟨tb, 4, none⟩ = some ts ∧ w1.frozen? ⟨tb, 2, none⟩ = false ∧ w1.frozen? ⟨tb, 3, none⟩ = false ∧ w1.frozen? ⟨tb, 4, none⟩ = false := by
  have h1 := hc.trans h.cells
  exact ⟨by rw [cell_at h1]; rfl, by rw [cell_at h1]; rfl, by rw [cell_at h1]; rfl, not_frozen h1, not_frozen h1, not_frozen h1⟩
end
theorem set_alloc_new (w : World) (a : Addr) (u : Value) (o : Obj) : ((w.setCell a u).alloc o).heap[w.heap.size]? = some o := by
  have h := heap_alloc_new (w.setCell a u) o
  have e : (w.setCell a u).heap.size = w.heap.size := by simp
  rw [e] at h
  exact h
theorem QTab.q3 {w : World} {y : QLay} {s : QSt} (h : QTab w y s) : Q3 w y.tb (i6 s.bits) (i6 s.limit) y.ns y.us y.ts s.L.length s.L.length s.L.length (flat s.L) (boos s.U) (boos s.T) := ⟨h.cells, h.list, h.used, h.told, h.two⟩

set_option maxHeartbeats 2000000 in
theorem qnode_any {M : Nat} {w : World} {y : QLay} {s : QSt} (A : Bd.Fam s.bits M) (hT : QTab w y s) (hW : Bd.Within A s.L) (hbM : s.bits * M ≤ 1048576)
    (k lo hi : Nat) (hk : k < s.bits) (hlo : lo < s.L.length + 2) (hhi : hi < s.L.length + 2) (hlb : k < Bd.bitOf s.L lo) (hhb : k < Bd.bitOf s.L hi) (hF : A.F k (Bd.mux k (Bd.den s.L lo) (Bd.den s.L hi))) :
    Calls Try.prog 50 #[.pointer (some ⟨y.tb, 0, none⟩), i6 k, i6 lo, i6 hi] w fun e w' => ∃ r, e = .returned (i6 r) ∧ QGrew A w y s w' r (Bd.mux k (Bd.den s.L lo) (Bd.den s.L hi)) := by
  by_cases hlh : lo = hi
  · subst hlh
    have HR : Hid (QGrew A w y s w lo (Bd.mux k (Bd.den s.L lo) (Bd.den s.L lo))) := QGrew.same hT hW hlo (Bd.mux_same _ _).symm (Below.refl _ _)
    clear hT hW hF
    go_enter Try.func50, Try.ntmps50
    go_wp2
    go_ret
    exact ⟨lo, rfl, HR.out⟩
  · have hf128 := hT.okay.few
    have hsm := hT.small.1
    have hneI : ((lo : Int) == (hi : Int)) = false := by rw [beq_eq_false_iff_ne]; omega
    have HT := keep hT
    have HW := keep hW
    have HF := keep hF
    have HK := keep hk
    have HLO := keep hlo
    have HHI := keep hhi
    have HLB := keep hlb
    have HHB := keep hhb
    have HLH := keep hlh
    obtain ⟨n, hn⟩ : ∃ n, n = s.L.length := ⟨_, rfl⟩
    have HN := keep hn
    obtain ⟨ao, cap, hns⟩ := row_slice hT.list
    have c2 := hT.cell2
    rw [hns, ← hn] at c2
    have ltb := hT.lt y.own_tb
    have HNS := keep hns
    rw [← hn] at hsm hlo hhi
    clear hT hW hF hns hn hlb hhb hlh
    go_enter Try.func50, Try.ntmps50
    go_wp2
    go_loopw [9] (fun i wr => ∃ j : Nat, j ≤ n ∧ i = .int .i64 j ∧ Hid (∀ q, q < j → s.L[q]? ≠ some (k, lo, hi)) ∧ Hid (Below w.heap.size w wr)) (fun i _ => n - (intOf i).toNat)
    case atStart => exact ⟨0, Nat.zero_le _, rfl, fun q hq => absurd hq (Nat.not_lt_zero q), Below.refl _ _⟩
    case round =>
      obtain ⟨j, hj, rfl, HQ, HB⟩ := hrel
      have c2r : wr.cell? ⟨y.tb, 2, none⟩ = some (.slice ao n cap) := by rw [HB.out.cell (by exact ltb)]; exact c2
      by_cases hlt : j < n
      · obtain ⟨x, hx⟩ : ∃ x, s.L[j]? = some x := ⟨s.L[j]'(by rw [← HN.out]; exact hlt), List.getElem?_eq_getElem (by rw [← HN.out]; exact hlt)⟩
        have HX := keep hx
        obtain ⟨g, cap', hv, d0, d1, d2⟩ := (HT.out.below HB.out).node hx
        rw [HNS.out] at hv
        cases hv
        clear hx
        have hjI : (j : Int) < (n : Int) := by omega
        have hnI : (n : Int) ≤ 1073741824 := by omega
        by_cases e0 : x.1 = k
        · by_cases e1 : x.2.1 = lo
          · by_cases e2 : x.2.2 = hi
            · have hxe : x = (k, lo, hi) := by obtain ⟨x0, x1, x2⟩ := x; simp at e0 e1 e2; rw [e0, e1, e2]
              have HR : Hid (∀ w', Below w.heap.size w w' → QGrew A w y s w' (j + 2) (Bd.mux k (Bd.den s.L lo) (Bd.den s.L hi))) := fun w' hb => by
                have h1 := HX.out
                rw [hxe] at h1
                exact QGrew.same HT.out HW.out (by rw [← HN.out]; omega) (Bd.den_at HT.out.okay h1) hb
              rw [e0] at d0
              rw [e1] at d1
              rw [e2] at d2
              clear hxe e0 e1 e2 HX
              go_wp2
              go_ret
              exact ⟨j + 2, by go_num, HR.out _ HB.out⟩
            · have hb2 : ((x.2.2 : Int) == (hi : Int)) = false := by rw [beq_eq_false_iff_ne]; omega
              have HQ2 : Hid (∀ q, q < j + 1 → s.L[q]? ≠ some (k, lo, hi)) := fun q hq => by
                by_cases e : q = j
                · subst e; rw [HX.out]; intro h; cases h; exact e2 rfl
                · exact HQ.out q (by omega)
              rw [e0] at d0
              rw [e1] at d1
              clear e0 e1 e2 HX HQ
              go_wp2
              go_roundw
              case rel => exact ⟨j + 1, by omega, by go_num, HQ2, HB⟩
              case measure => simp [intOf]; omega
          · have hb1 : ((x.2.1 : Int) == (lo : Int)) = false := by rw [beq_eq_false_iff_ne]; omega
            have HQ2 : Hid (∀ q, q < j + 1 → s.L[q]? ≠ some (k, lo, hi)) := fun q hq => by
              by_cases e : q = j
              · subst e; rw [HX.out]; intro h; cases h; exact e1 rfl
              · exact HQ.out q (by omega)
            rw [e0] at d0
            clear e0 e1 HX HQ
            go_wp2
            go_roundw
            case rel => exact ⟨j + 1, by omega, by go_num, HQ2, HB⟩
            case measure => simp [intOf]; omega
        · have hb0 : ((x.1 : Int) == (k : Int)) = false := by rw [beq_eq_false_iff_ne]; omega
          have HQ2 : Hid (∀ q, q < j + 1 → s.L[q]? ≠ some (k, lo, hi)) := fun q hq => by
            by_cases e : q = j
            · subst e; rw [HX.out]; intro h; cases h; exact e0 rfl
            · exact HQ.out q (by omega)
          clear e0 HX HQ
          go_wp2
          go_roundw
          case rel => exact ⟨j + 1, by omega, by go_num, HQ2, HB⟩
          case measure => simp [intOf]; omega
      · have hjn : j = n := by omega
        subst hjn
        have h3 := (HT.out.below HB.out).q3
        rw [HNS.out, ← HN.out] at h3
        obtain ⟨au, cu, hus⟩ := row_slice h3.used
        obtain ⟨at', ct, hts⟩ := row_slice h3.told
        rw [hus, hts] at h3
        have HUS := keep hus
        have HTS := keep hts
        have H3 := keep h3
        obtain ⟨i0, hi0, hz0, hz1, hz2⟩ := info_parts Try.infoNode
        obtain ⟨i1, hi1, hy0, hy1, hy2⟩ := info_parts Try.infoBoo
        have HI := keep hi0
        have HZ0 := keep hz0
        have HZ1 := keep hz1
        have HZ2 := keep hz2
        have HI1 := keep hi1
        have HY0 := keep hy0
        have HY1 := keep hy1
        have HY2 := keep hy2
        have HO1 : Hid (∀ o, (wr.alloc o).ownsRow 0 62 3 (.slice ao j cap) j (flat s.L)) := fun o => h3.list.alloc o
        clear h3 hus hts hi0 hz0 hz1 hz2 hi1 hy0 hy1 hy2
        go_wp2_with (at_builtin; refine wpList_append_lies _ rfl (.tmp 63) (.tmp 68) 41 rfl 0 62 i0 (.agg #[i6 0, i6 0, i6 0]) 3 24 Try.underlying41 HI.out HZ0.out HZ1.out HZ2.out rfl (by decide) (.slice ao j cap) j (flat s.L) rfl (HO1.out _) ⟨wr.heap.size, 0, none⟩ 1 1 [.int .i64 k, .int .i64 lo, .int .i64 hi] rfl rfl (World.news_of_block (heap_alloc_new wr _)) (by simp [Value.oneCell']) (by decide) (by unfold maxLen; omega) (by omega) (Nat.zero_le _) (wr.heap.size + 1) (by simp) ?_)
        intro g1 cap1 w1 hown1 hgrow1 hat1 hlt1
        obtain ⟨q2, q3, q4, f2, f3, f4⟩ := block_facts (grown_old hgrow1 (block_lt H3.out.cells) H3.out.apart.1) H3.out
        obtain ⟨hs1, ht1⟩ := H3.out.stepN hown1 hgrow1 rfl hat1
        have HS1 := keep hs1
        have HT1 := keep ht1
        have HO2 : Hid (∀ o, ((w1.setCell ⟨y.tb, 2, none⟩ (.slice (some ⟨g1, 0, none⟩) (j + 1) cap1)).alloc o).ownsRow 0 4 1 (.slice au j cu) j (boos s.U)) := fun o => hs1.used.alloc o
        clear hown1 hgrow1 hat1 hs1 ht1 HO1
        go_wp2_with (at_builtin; refine wpList_append_lies _ rfl (.tmp 76) (.tmp 77) 64 rfl 0 4 i1 (.bool false) 1 1 Try.underlying64 HI1.out HY0.out HY1.out HY2.out rfl (by decide) (.slice au j cu) j (boos s.U) rfl (HO2.out _) ⟨w1.heap.size, 0, none⟩ 1 1 [.bool false] rfl rfl (World.news_of_block (set_alloc_new _ _ _ _)) (by simp [Value.oneCell']) (by decide) (by unfold maxLen; omega) (by omega) (Nat.zero_le _) (w1.heap.size + 1) (by simp) ?_)
        intro g2 cap2 w2 hown2 hgrow2 hat2 hlt2
        obtain ⟨q2, q3, q4, f2, f3, f4⟩ := block_facts (grown_old hgrow2 (block_lt HS1.out.cells) HS1.out.apart.2.1) HS1.out
        obtain ⟨hs2, ht2⟩ := HS1.out.stepU hown2 hgrow2 rfl (by simpa using hat2)
        have HS2 := keep hs2
        have HT2 := keep ht2
        have HO3 : Hid (∀ o, ((w2.setCell ⟨y.tb, 3, none⟩ (.slice (some ⟨g2, 0, none⟩) (j + 1) cap2)).alloc o).ownsRow 0 4 1 (.slice at' j ct) j (boos s.T)) := fun o => hs2.told.alloc o
        clear hown2 hgrow2 hat2 hs2 ht2 HO2
        go_wp2_with (at_builtin; refine wpList_append_lies _ rfl (.tmp 85) (.tmp 86) 64 rfl 0 4 i1 (.bool false) 1 1 Try.underlying64 HI1.out HY0.out HY1.out HY2.out rfl (by decide) (.slice at' j ct) j (boos s.T) rfl (HO3.out _) ⟨w2.heap.size, 0, none⟩ 1 1 [.bool false] rfl rfl (World.news_of_block (set_alloc_new _ _ _ _)) (by simp [Value.oneCell']) (by decide) (by unfold maxLen; omega) (by omega) (Nat.zero_le _) (w2.heap.size + 1) (by simp) ?_)
        intro g3 cap3 w3 hown3 hgrow3 hat3 hlt3
        obtain ⟨q2, q3, q4, f2, f3, f4⟩ := block_facts (grown_old hgrow3 (block_lt HS2.out.cells) HS2.out.apart.2.2.1) HS2.out
        obtain ⟨hs3, ht3⟩ := HS2.out.stepT hown3 hgrow3 rfl (by simpa using hat3)
        have HS3 := keep hs3
        have HT3 := keep ht3
        clear hown3 hgrow3 hat3 hs3 ht3 HO3
        go_wp2
        go_ret
        have hin : (k, lo, hi) ∉ s.L := fun hm => by
          obtain ⟨q, hq, hx⟩ := List.getElem_of_mem hm
          exact HQ.out q (by rw [HN.out]; exact hq) (by rw [List.getElem?_eq_getElem hq, hx])
        have hok := HT.out.okay.snoc hin HLO.out HHI.out HLH.out HK.out HLB.out HHB.out
        have hW' : Bd.Within A (s.L ++ [(k, lo, hi)]) := HW.out.snoc HF.out
        have hfew := hW'.few hok
        have e1 : (s.L ++ [(k, lo, hi)]).length = j + 1 := by simp; exact HN.out.symm
        refine ⟨j + 2, by go_num, [(k, lo, hi)], ⟨y.tb, .slice (some ⟨g1, 0, none⟩) (j + 1) cap1, .slice (some ⟨g2, 0, none⟩) (j + 1) cap2, .slice (some ⟨g3, 0, none⟩) (j + 1) cap3⟩, ?_, hW', by omega, ?_, ?_, rfl⟩
        · have h := HS3.out
          refine { cells := h.cells, list := ?_, used := ?_, told := ?_, two := h.two, okay := hok, small := ?_ }
          · show World.ownsRow _ 0 62 3 _ (s.L ++ [(k, lo, hi)]).length (flat (s.L ++ [(k, lo, hi)]))
            rw [e1, flat_snoc]; exact h.list
          · show World.ownsRow _ 0 4 1 _ (s.L ++ [(k, lo, hi)]).length (boos (s.U ++ [false]))
            rw [e1, boos_append]; exact h.used
          · show World.ownsRow _ 0 4 1 _ (s.L ++ [(k, lo, hi)]).length (boos (s.T ++ [false]))
            rw [e1, boos_append]; exact h.told
          · have := HT.out.small
            refine ⟨?_, this.2.1, this.2.2⟩
            show (s.L ++ [(k, lo, hi)]).length ≤ _
            omega
        · have := Bd.den_snoc_new s.L (k, lo, hi)
          rw [← HN.out] at this
          exact this
        · have h0 : Touch y.own (q3own y.tb (.slice ao j cap) (.slice au j cu) (.slice at' j ct)) w wr := by
            have := touch_below y.own HB.out
            refine ⟨fun q hq => Or.inl ?_, this.os, this.tape, this.output, this.size, this.block⟩
            unfold QLay.own
            rw [HNS.out, HUS.out, HTS.out, ← HN.out]
            exact hq
          exact ((h0.trans HT1.out).trans HT2.out).trans HT3.out
end Go.Proofs.Ytnkipdlfpnmgeaa
