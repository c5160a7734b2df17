/-
  put: nodes that are not there yet.
-/
import Derived.Test.YtffngpdngjfcfaaBRead
import Derived.WalkSpells
import Derived.Deep.RegionLaw
namespace Go.Proofs.Ytffngpdngjfcfaa
open Go.RowKit Go.Maps
open Bd (Nd)

theorem Bd.Okay.front {bits : Nat} {A B : List Nd} (h : Bd.Okay bits (A ++ B)) : Bd.Okay bits A := by
  refine { few := h.few, nd := (List.nodup_append.1 h.nd).1, fit := ?_ }
  intro i x hx
  have hi := Bd.getElem?_lt hx
  obtain ⟨a, b, c, d, e, f⟩ := h.fit i x (by rw [List.getElem?_append_left hi]; exact hx)
  rw [Bd.bitOf_old _ _ (by omega)] at e f
  exact ⟨a, b, c, d, e, f⟩

/-- A store into a map, as one equation. -/
theorem MapOf.put_run {P : Program} {k e t : TypeId} {w : World} {b sz : Nat} {f : Value → Option Int} (h : MapOf P k e w b sz f) (K : Keyed P k) (ht : P.underlying t = some (.map k e)) (he : P.underlying e = some (.int .i64)) (hn : sz < maxLen)
    {key : Value} {kl : Lit} (hk : keyOf P k key = some kl) {c : Int} (hc : (Lit.int .i64 c).wf = true) :
    ∃ w', (Instr.mapUpdate t (.map (some b)) key (.int .i64 c)).run P w = .ok () w' ∧ (∀ f', Upd f key (some c) f' → MapOf P k e w' b (if (f key).isSome then sz else sz + 1) f') ∧ w.grownBy w' (some b) := by
  obtain ⟨D, h1, h2, h3⟩ := h
  obtain ⟨w', hrun, r1, r2⟩ := h1.update K ht hn hk (val := .int .i64 c) (d := .lit (.int .i64 c)) (ps := []) (plainElem_int he hc)
  exact ⟨w', hrun, mapOf_put K h1 h2 h3 hk r1, r2⟩

theorem Try.infoNode : (Try.prog.info? 82).map (fun i => (i.zero, i.size, i.bytes)) = some (some (.agg #[i6 0, i6 0, i6 0]), 3, 24) := by kernel_rfl

theorem take_succ_get {M : List Nd} {k : Nat} {x : Nd} (h : M[k]? = some x) : M.take (k + 1) = M.take k ++ [x] := by
  rw [List.take_add_one, h]; rfl

theorem set_other {w : World} {a : Addr} {k : Nat} (u : Value) (h : k ≠ a.block) : (w.setCell a u).heap[k]? = w.heap[k]? := Below.heap_setCell _ _ _ _ h

/-- Behind a round of put. -/
theorem put_tab {wr w2 w4 : World} {y1 : Lay} {s1 : St} {x : Nd} (hT : Tab wr y1 s1) (hok : Bd.Okay s1.bits (s1.L ++ [x])) (hsm : s1.L.length + 1 ≤ 1073741824) {o1 o2 : Obj} {f : Value → Option Int} (hf : AtMap s1.L f)
    (hput : ∀ f', Upd f (ndV x) (some ((s1.L.length + 2 : Nat) : Int)) f' → MapOf Try.prog 82 3 w2 y1.mb (if (f (ndV x)).isSome then s1.L.length else s1.L.length + 1) f')
    (hg2 : (wr.alloc o1).drew.grownBy w2 (some y1.mb)) {g cap : Nat} {v : Value} (hv : v = .slice (some ⟨g, 0, none⟩) (s1.L.length + 1) cap)
    (hown : w4.ownsRow 0 82 3 v (s1.L.length + 1) (flat s1.L ++ [i6 x.1, i6 x.2.1, i6 x.2.2])) (hg4 : (w2.alloc o2).drew.grownBy w4 y1.ls.ownBlock) (hat : y1.ls.ownBlock = some g ∨ g = w2.heap.size + 1) :
    Tab (w4.setCell ⟨y1.tb, 3, none⟩ v) { y1 with ls := v } { s1 with L := s1.L ++ [x] } ∧ Moves noX wr y1 (w4.setCell ⟨y1.tb, 3, none⟩ v) { y1 with ls := v } := by
  obtain ⟨a1, a2, a3, a4, a5, a6, a7, a8, a9⟩ := hT.apart
  have z2 : wr.heap.size + 1 ≤ w2.heap.size := by have := hg2.size; simpa using this
  have z4 : w2.heap.size + 1 ≤ w4.heap.size := by have := hg4.size; simpa using this
  have hxn : x ∉ s1.L := by
    intro hm
    have := (List.nodup_append.1 hok.nd).2.2 x hm x (by simp)
    exact this rfl
  have ltb := hT.lt y1.own_tb
  have old : ∀ k, k < wr.heap.size → k ≠ y1.mb → y1.ls.ownBlock ≠ some k → w4.heap[k]? = wr.heap[k]? := by
    intro k hk h1 h2
    rw [hg4.block k (by simp; omega) (fun e => h2 e.symm)]
    show (w2.alloc o2).heap[k]? = _
    rw [heap_alloc_old w2 o2 (show k < w2.heap.size by omega), hg2.block k (by show k < (wr.alloc o1).heap.size; simp; omega) (by simpa using h1)]
    show (wr.alloc o1).heap[k]? = _
    rw [heap_alloc_old wr o1 hk]
  have hgt : g ≠ y1.tb := by
    rcases hat with h | h
    · intro e; rw [e] at h; exact a3 h
    · omega
  have hgown : v.ownBlock = some g := by rw [hv]; rfl
  have hcells : w4.heap[y1.tb]? = _ := (old y1.tb ltb (fun e => a1 e.symm) a3).trans hT.cells
  have hset := set_block (o := 3) v hcells
  obtain ⟨f', hf'⟩ := upd_exists f (ndV x) (some ((s1.L.length + 2 : Nat) : Int))
  have hnone : f (ndV x) = none := (hf x).2 hxn
  have hm2 := hput f' hf'
  rw [hnone] at hm2
  have hmb : (w4.setCell ⟨y1.tb, 3, none⟩ v).heap[y1.mb]? = w2.heap[y1.mb]? := by
    rw [set_other v a1, hg4.block y1.mb (by have := hm2.lt; simp; omega) (fun e => a5 e.symm)]
    show (w2.alloc o2).heap[y1.mb]? = _
    rw [heap_alloc_old w2 o2 hm2.lt]
  obtain ⟨fr, hfr, hrr⟩ := hT.refs
  refine ⟨{ cells := ?_, list := ?_, roots := ?_, nodes := ⟨f', ?_, hf.snoc hxn hf'⟩, refs := ⟨fr, ?_, hrr⟩, two := hT.two, okay := hok, small := ?_, valid := ?_ }, ?_⟩
  · rw [hset]; rfl
  · have : (s1.L ++ [x]).length = s1.L.length + 1 := by simp
    show World.ownsRow _ 0 82 3 v (s1.L ++ [x]).length (flat (s1.L ++ [x]))
    rw [this, flat_snoc]
    exact row_same hown fun g' hg' => set_other v (by rw [hgown] at hg'; cases hg'; exact hgt)
  · refine row_same hT.roots fun g' hg' => ?_
    have hne : g' ≠ y1.tb := fun e => a4 (by rw [← e]; exact hg')
    rw [set_other v hne]
    exact old g' (hT.lt (y1.own_rs hg')) (fun e => a6 (by rw [← e]; exact hg')) (fun e => a9 g' e hg')
  · have : (s1.L ++ [x]).length = s1.L.length + 1 := by simp
    show MapOf _ _ _ _ y1.mb (s1.L ++ [x]).length f'
    rw [this]
    exact MapOf.same (by simpa using hm2) hmb
  · refine hfr.same ?_
    rw [set_other v a2]
    exact old y1.rm hfr.lt (fun e => hT.two e.symm) a7
  · have := hT.small
    have e : (s1.L ++ [x]).length = s1.L.length + 1 := by simp
    refine ⟨?_, this.2.1, this.2.2.1, this.2.2.2.1, this.2.2.2.2⟩
    show (s1.L ++ [x]).length ≤ _
    omega
  · refine ⟨hT.valid.1, fun n hn => ?_⟩
    have := hT.valid.2 n hn
    have e : (s1.L ++ [x]).length = s1.L.length + 1 := by simp
    refine ⟨this.1, ?_⟩
    show n < (s1.L ++ [x]).length + 2
    omega
  · refine ⟨rfl, ?_, ?_, ?_, ?_, ?_, ?_⟩
    · intro k hk
      rcases hk with h | h | h | h | h
      · exact Or.inl (Or.inl h)
      · exact Or.inl (Or.inr (Or.inl h))
      · exact Or.inl (Or.inr (Or.inr (Or.inl h)))
      · have : v.ownBlock = some k := h
        rw [hgown] at this
        cases this
        rcases hat with h | h
        · exact Or.inl (y1.own_ls h)
        · exact Or.inr (by omega)
      · exact Or.inl (y1.own_rs h)
    · exact hg4.os.trans hg2.os
    · exact hg4.tape.trans hg2.tape
    · exact hg4.output.trans hg2.output
    · have : (w4.setCell ⟨y1.tb, 3, none⟩ v).heap.size = w4.heap.size := by simp
      omega
    · intro k hk hn _
      have h1 : k ≠ y1.tb := fun e => hn (Or.inl e)
      rw [set_other v h1]
      exact old k hk (fun e => hn (Or.inr (Or.inl e))) (fun e => hn (y1.own_ls e))

set_option maxHeartbeats 2000000 in
theorem put_any {w : World} {y : Lay} {s : St} (hT : Tab w y s) (M : List Nd) (lv : Value) (hl : w.ownsRow 0 82 3 lv M.length (flat M)) (hdis : ∀ k, lv.ownBlock = some k → ¬ y.own k)
    (hok : Bd.Okay s.bits (s.L ++ M)) (hsm : (s.L ++ M).length ≤ 1073741824) :
    Calls Try.prog 40 #[.pointer (some ⟨y.tb, 3, none⟩), lv] w fun e w' => e = .returned (.tuple #[]) ∧ ∃ y', Tab w' y' { s with L := s.L ++ M } ∧ Moves noX w y w' y' := by
  obtain ⟨ao, cap, hlv⟩ : ∃ ao cap, lv = .slice ao M.length cap := by
    rcases hl.2 with ⟨e, e2⟩ | ⟨g, c, _, e, _⟩
    · exact ⟨none, 0, by rw [e2]; exact e⟩
    · exact ⟨_, _, e⟩
  subst hlv
  have HL := keep hl
  have HD := keep hdis
  have HO := keep hok
  have HS := keep hsm
  have HT := keep hT
  obtain ⟨i0, hi, hz0, hz1, hz2⟩ := info_parts Try.infoNode
  have HI := keep hi
  have HZ0 := keep hz0
  have HZ1 := keep hz1
  have HZ2 := keep hz2
  have c4 := hT.cell4
  clear hl hdis hok hsm hi hz0 hz1 hz2
  obtain ⟨n, hn⟩ : ∃ n, n = M.length := ⟨_, rfl⟩
  have HN := keep hn
  rw [← hn]
  clear hn
  clear hT
  have qT : ∀ (w : World) (r : Option Nat), (binOp .eql 47 (.map r) (.map none)).run Try.prog w = .ok (.bool r.isNone) w := fun w r => run_eql_map_nil w _ _ _ r Try.underlying47
  go_enter Try.func40, Try.ntmps40
  go_wp2
  go_loopw [19] (fun i wr => ∃ k : Nat, k ≤ n ∧ i = .int .i64 k ∧ ∃ y1, Tab wr y1 { s with L := s.L ++ M.take k } ∧ Moves noX w y wr y1) (fun i _ => n - (intOf i).toNat)
  case atStart => exact ⟨0, Nat.zero_le _, rfl, y, by simpa using HT.out, Moves.refl _ _ _⟩
  case round =>
    obtain ⟨k, hk, rfl, y1, hT1, hm1⟩ := hrel
    have hmn : n = M.length := HN.out
    by_cases hlt : k < n
    · obtain ⟨x, hx⟩ : ∃ x, M[k]? = some x := ⟨M[k]'(by omega), List.getElem?_eq_getElem (by omega)⟩
      have hlr := row_same (w' := wr) HL.out fun g hg => hm1.block g (HL.out.lt g hg).2 (HD.out g hg) (fun h => h)
      rw [← hmn] at hlr
      obtain ⟨g, cap', hv, _, hgl⟩ := hlr.form (by omega)
      cases hv
      have hadd : ∀ j, (⟨g, 0, none⟩ : Addr).add j = ⟨g, j, none⟩ := by intro j; unfold Addr.add; split <;> simp_all
      obtain ⟨f0, f1, f2⟩ := flat_at hx
      have d0 := hlr.cells rfl _ _ f0
      have d1 := hlr.cells rfl _ _ f1
      have d2 := hlr.cells rfl _ _ f2
      rw [hadd] at d0 d1 d2
      clear f0 f1 f2 hadd
      have hok1 : Bd.Okay s.bits ((s.L ++ M.take k) ++ [x]) := by
        have : s.L ++ M = ((s.L ++ M.take k) ++ [x]) ++ M.drop (k + 1) := by
          rw [List.append_assoc, List.append_assoc, ← List.append_assoc (M.take k), ← take_succ_get hx, List.take_append_drop]
        have h := HO.out
        rw [this] at h
        exact h.front
      have hfit := hok1.fit (s.L ++ M.take k).length x (by rw [List.getElem?_append_right (Nat.le_refl _)]; simp)
      have hxn : x ∉ s.L ++ M.take k := fun hm => (List.nodup_append.1 hok1.nd).2.2 x hm x (by simp) rfl
      have hsm1 : (s.L ++ M.take k).length + 1 ≤ 1073741824 := by
        have := HS.out
        simp only [List.length_append, List.length_take] at this ⊢
        omega
      have hf128 := HO.out.few
      have HTX : Hid (M.take (k + 1) = M.take k ++ [x]) := take_succ_get hx
      have ctb := hm1.tb
      have hTa := hT1.below (w' := wr.alloc (.cells #[i6 x.1, i6 x.2.1, i6 x.2.2] 82)) ((Below.refl _ _).alloc (Nat.le_refl _) _)
      have hls : ∃ ao cap, y1.ls = .slice ao (s.L ++ M.take k).length cap := by
        rcases hT1.list.2 with ⟨e, e2⟩ | ⟨g, c, _, e, _⟩
        · exact ⟨none, 0, by rw [e]; rw [show (s.L ++ M.take k).length = 0 from e2]⟩
        · exact ⟨_, _, e⟩
      obtain ⟨ao1, cap1, hls⟩ := hls
      obtain ⟨f, hf, ha⟩ := hTa.nodes
      obtain ⟨kl, hkl⟩ := key_node (a := x.1) (b := x.2.1) (c := x.2.2) (by omega) (by omega) (by omega)
      obtain ⟨l1, hl1⟩ : ∃ l1, l1 = (s.L ++ M.take k).length := ⟨_, rfl⟩
      obtain ⟨w2, hrun, hput, hg2⟩ := MapOf.put_run (w := (wr.alloc (.cells #[i6 x.1, i6 x.2.1, i6 x.2.2] 82)).drew) (hf.same rfl) kNode Try.underlying47 Try.underlying3 (by unfold maxLen; show (s.L ++ M.take k).length < _; omega) hkl (c := ((l1 + 2 : Nat) : Int)) (wf64 (by omega))
      have hrun' : (Instr.mapUpdate 47 (.map (some y1.mb)) (.agg #[.int .i64 x.1, .int .i64 x.2.1, .int .i64 x.2.2]) (.int .i64 ((l1 : Int) + 2))).run Try.prog (wr.alloc (.cells #[.int .i64 x.1, .int .i64 x.2.1, .int .i64 x.2.2] 82)).drew = .ok () w2 := by
        have e : ((l1 + 2 : Nat) : Int) = (l1 : Int) + 2 := by omega
        rw [← e]; exact hrun
      have e3 : wr.cell? ⟨y.tb, 3, none⟩ = some (.slice ao1 l1 cap1) := by rw [← ctb, hl1, ← hls]; exact hT1.cell3
      have e4 : wr.cell? ⟨y.tb, 4, none⟩ = some (.map (some y1.mb)) := by rw [← ctb]; exact hT1.cell4
      have ltb : y.tb < wr.heap.size := by rw [← ctb]; exact hT1.lt y1.own_tb
      have hlI : (l1 : Int) ≤ 1073741824 := by omega
      have hkI : (k : Int) < (n : Int) := by omega
      have hnI : (n : Int) ≤ 1073741824 := by
        have := HS.out
        simp only [List.length_append] at this
        omega
      have ap := hT1.apart
      have z2 := hg2.size
      have k3 : w2.cell? ⟨y.tb, 3, none⟩ = some (.slice ao1 l1 cap1) := by
        rw [hg2.cell_far _ (by show y.tb < (wr.alloc _).heap.size; simp; omega) (by rw [← ctb]; simpa using fun e => ap.1 e.symm)]
        show (wr.alloc _).cell? _ = _
        rw [World.cell?_of_block (heap_alloc_old _ _ ltb)]; exact e3
      have kB := hg2.block wr.heap.size (by show wr.heap.size < (wr.alloc _).heap.size; simp) (by have := hT1.lt y1.own_mb; simp; omega)
      have kB' : w2.heap[wr.heap.size]? = some (.cells #[i6 x.1, i6 x.2.1, i6 x.2.2] 82 (0, 0)) := kB.trans (heap_alloc_new wr _)
      have b0 : w2.cell? ⟨wr.heap.size, 0, none⟩ = some (i6 x.1) := by rw [cell_at kB']; rfl
      have b1 : w2.cell? ⟨wr.heap.size, 1, none⟩ = some (i6 x.2.1) := by rw [cell_at kB']; rfl
      have b2 : w2.cell? ⟨wr.heap.size, 2, none⟩ = some (i6 x.2.2) := by rw [cell_at kB']; rfl
      have HT1 := keep hT1
      have HP := keep hput
      have HG2 := keep hg2
      have HA := keep ha
      have HM1 := keep hm1
      have HLR := keep hlr
      have HOK := keep hok1
      have HLS := keep hls
      have HL1 := keep hl1
      have HSM := keep hsm1
      clear hT1 hput hg2 ha hm1 hlr hok1 hls hl1 hsm1 hTa hf hrun hfit hxn kB hx hmn ap
      simp only [i6] at d0 d1 d2 b0 b1 b2
      have HOWN : Hid (∀ o, (w2.alloc o).drew.ownsRow 0 82 3 (.slice ao1 l1 cap1) l1 (flat (s.L ++ M.take k))) := by
        intro o
        have h := HT1.out.list
        rw [HLS.out] at h
        rw [HL1.out]
        refine row_same h fun g hg => ?_
        have hgo : y1.ls.ownBlock = some g := by rw [HLS.out]; exact hg
        have hglt := HT1.out.lt (y1.own_ls hgo)
        have h1 : g < (wr.alloc (.cells #[i6 x.1, i6 x.2.1, i6 x.2.2] 82)).heap.size := by simp; omega
        show (w2.alloc o).heap[g]? = _
        rw [heap_alloc_old w2 o (Nat.lt_of_lt_of_le h1 HG2.out.size), HG2.out.block g h1 (fun e => by cases e; exact HT1.out.apart.2.2.2.2.1 hgo)]
        exact heap_alloc_old wr _ hglt
      have kT : ∀ w4, (w2.alloc (.cells #[.int .i64 x.1, .int .i64 x.2.1, .int .i64 x.2.2] 82)).drew.grownBy w4 (Value.slice ao1 l1 cap1).ownBlock → w4.cell? ⟨y.tb, 3, none⟩ = some (.slice ao1 l1 cap1) ∧ w4.frozen? ⟨y.tb, 3, none⟩ = false ∧ w4.cell? ⟨wr.heap.size, 0, none⟩ = some (.int .i64 x.1) ∧ w4.cell? ⟨wr.heap.size, 1, none⟩ = some (.int .i64 x.2.1) ∧ w4.cell? ⟨wr.heap.size, 2, none⟩ = some (.int .i64 x.2.2) := by
        intro w4 hg
        have hlsb : (Value.slice ao1 l1 cap1).ownBlock = y1.ls.ownBlock := by rw [HLS.out, HL1.out]
        rw [hlsb] at hg
        have hap := HT1.out.apart
        have s2 : wr.heap.size + 1 ≤ w2.heap.size := by have := HG2.out.size; simpa using this
        have g1 : w4.heap[y.tb]? = w2.heap[y.tb]? := by
          rw [hg.block y.tb (by show y.tb < (w2.alloc _).heap.size; simp; omega) (by rw [← ctb]; exact fun e => hap.2.2.1 e.symm)]
          exact heap_alloc_old w2 _ (by omega)
        have g2 : w4.heap[wr.heap.size]? = w2.heap[wr.heap.size]? := by
          rw [hg.block wr.heap.size (by show wr.heap.size < (w2.alloc _).heap.size; simp; omega) (fun e => by have := HT1.out.lt (y1.own_ls e.symm); omega)]
          exact heap_alloc_old w2 _ (by omega)
        have fz : w2.frozen? ⟨y.tb, 3, none⟩ = false := by
          rw [HG2.out.frozen_far _ (by show y.tb < (wr.alloc _).heap.size; simp; omega) (by rw [← ctb]; simpa using fun e => hap.1 e.symm)]
          show (wr.alloc _).frozen? _ = _
          rw [World.frozen?_of_block (heap_alloc_old _ _ ltb), ← ctb]
          exact not_frozen HT1.out.cells
        exact ⟨by rw [World.cell?_of_block g1]; exact k3, by rw [World.frozen?_of_block g1]; exact fz, by rw [World.cell?_of_block g2]; exact b0, by rw [World.cell?_of_block g2]; exact b1, by rw [World.cell?_of_block g2]; exact b2⟩
      have KT := keep kT
      clear kT
      have k3a : ∀ o, (w2.alloc o).cell? ⟨y.tb, 3, none⟩ = some (.slice ao1 l1 cap1) := by
        intro o
        have s2 : wr.heap.size + 1 ≤ w2.heap.size := by have := HG2.out.size; simpa using this
        rw [World.cell?_of_block (heap_alloc_old w2 o (show y.tb < w2.heap.size by omega))]; exact k3
      go_wp2
      go_region
      go_wp2
      go_region_law (first | (refine step_append_lies _ rfl (.tmp 38) (.tmp 40) 46 rfl 0 82 i0 (.agg #[i6 0, i6 0, i6 0]) 3 24 Try.underlying46 HI.out HZ0.out HZ1.out HZ2.out rfl (by decide) (.slice ao1 l1 cap1) l1 (flat (s.L ++ M.take k)) rfl (HOWN.out _) ⟨w2.heap.size, 0, none⟩ 1 1 [.int .i64 x.1, .int .i64 x.2.1, .int .i64 x.2.2] rfl rfl (World.news_of_block (heap_alloc_new w2 _)) (by simp [Value.oneCell']) (by decide) (by unfold maxLen; omega) (by omega) (Nat.zero_le _) (w2.heap.size + 1) (by simp) ?_; intro g4 cap4 w4 hown4 hgrow4 hat4 hlt4; obtain ⟨q3, qf, q0, q1, q2⟩ := KT.out w4 hgrow4))
      all_goals
        go_wp2
        go_roundw
        case rel =>
          refine ⟨k + 1, by omega, by go_num, { y1 with ls := .slice (some ⟨g4, 0, none⟩) (l1 + 1) cap4 }, ?_⟩
          have hlsb : (Value.slice ao1 l1 cap1).ownBlock = y1.ls.ownBlock := by rw [HLS.out, HL1.out]
          rw [hlsb] at hgrow4 hat4
          have R := put_tab HT1.out HOK.out HSM.out HA.out (by have := HP.out; rw [HL1.out] at this; exact this) HG2.out (v := .slice (some ⟨g4, 0, none⟩) (l1 + 1) cap4) (by rw [HL1.out]) (by have := hown4; rw [HL1.out] at this ⊢; exact this) hgrow4 hat4
          rw [← ctb, HTX.out, ← List.append_assoc]
          exact ⟨R.1, HM1.out.trans R.2⟩
        case measure => simp [intOf]; omega
    · have hkn : k = n := by omega
      subst hkn
      have hend : M.take k = M := by rw [hmn]; exact List.take_length
      rw [hend] at hT1
      have HR := keep (And.intro hT1 hm1)
      clear hT1 hm1 hend hmn hlt
      go_wp2
      go_end0
      exact ⟨rfl, y1, HR.out⟩
end Go.Proofs.Ytffngpdngjfcfaa
