/-
  The reader of topologies: a width.
  The reader of topologies: begin.
  The reader of topologies: read's deferred call.
  The reader of topologies: which method reads the rest of a line, by the line's first word.
  The reader of topologies: order.
-/
import Derived.Test.YtebaopiedlioiaaGreatDoorJDvOAnd
import Derived.Deep.DeepCutAuto
import Derived.Test.YtebaopiedlioiaaGreatDoorBMapAnd
import Derived.Test.YtebaopiedlioiaaGreatDoorJRdAnd
import Derived.Test.YtebaopiedlioiaaGreatDoorWRefSAnd
namespace Go.Proofs.YtebaopiedlioiaaGreatDoor
open Go.RowKit

theorem Tryz.lnkNeS : (83 : TypeId) ≠ 9 := by decide
theorem Tryz.lnkNeJ : (83 : TypeId) ≠ 80 := by decide
theorem Tryz.infoIntJ : (Tryz.prog.info? 3).map (fun i => (i.zero, i.size, i.bytes)) = some (some (.int .i64 0), 1, 8) := by kernel_rfl
def zerosJ (n : Nat) : Array Value := madeCells #[.int .i64 0] n
theorem run_zerosJ (n : Nat) (hn : n ≤ 1000000) (w : World) :
    (Instr.makeSlice 52 (.int .i64 (n : Int)) (.int .i64 (n : Int))).run Tryz.prog w = .ok (.slice (some ⟨w.heap.size, 0, none⟩) n n) (w.alloc (.cells (zerosJ n) 3)) := by
  obtain ⟨i, hi, hz0, hz1, hz2⟩ := info_parts Tryz.infoIntJ
  have := run_make (P := Tryz.prog) w 52 3 i (.int .i64 0) Tryz.underlying52 hi hz0 .i64 .i64 n n (by omega) (by omega) (by rw [hz2]; omega) (by omega)
  rw [this, hz1, Nat.mul_one]
  rfl

theorem zerosJ_toList (n : Nat) : (zerosJ n).toList = List.replicate n (.int .i64 0) := by unfold zerosJ; rw [toList_madeCells_one]
/-- The places of devices, where the first k of the new row are known. -/
def plc (f : Nat → Nat) (n k : Nat) : List Value := (List.range n).map fun j => .int .i64 (((if f j < k then f j else 0) : Nat) : Int)
theorem plc_len (f : Nat → Nat) (n k : Nat) : (plc f n k).length = n := by simp [plc]
theorem plc_at {f : Nat → Nat} {n k j : Nat} (hj : j < n) : (plc f n k)[j]? = some (.int .i64 (((if f j < k then f j else 0) : Nat) : Int)) := by
  unfold plc
  rw [List.getElem?_map, List.getElem?_range hj]
  rfl
theorem plc_zero (f : Nat → Nat) (n : Nat) : plc f n 0 = List.replicate n (.int .i64 0) := by
  apply List.ext_getElem?
  intro i
  by_cases h : i < n
  · rw [plc_at h, List.getElem?_replicate, if_pos h, if_neg (Nat.not_lt_zero _)]
    rfl
  · rw [List.getElem?_eq_none (by rw [plc_len]; omega), List.getElem?_eq_none (by simp; omega)]
theorem plc_set {f : Nat → Nat} {n k j : Nat} (_hj : j < n) (hf : f j = k) (hi : ∀ i, i < n → f i = k → i = j) : (plc f n k).set j (.int .i64 (k : Nat)) = plc f n (k + 1) := by
  apply List.ext_getElem?
  intro i
  by_cases h : i < n
  · rw [plc_at h, List.getElem?_set]
    by_cases e : j = i
    · subst e
      rw [if_pos rfl, if_pos (by rw [plc_len]; exact h), hf, if_pos (by omega)]
    · rw [if_neg e, plc_at h]
      have : f i ≠ k := fun q => e (hi i h q).symm
      by_cases h1 : f i < k
      · rw [if_pos h1, if_pos (by omega)]
      · rw [if_neg h1, if_neg (by omega)]
  · rw [List.getElem?_eq_none (by rw [List.length_set, plc_len]; omega), List.getElem?_eq_none (by rw [plc_len]; omega)]
/-- The new place of a device. -/
def posF (ds ds' : List (To.Dv × Value × Value)) (j : Nat) : Nat := (ds'.map (·.1.name)).idxOf ((ds.map (·.1.name)).getD j [])
theorem posF_at {ds ds' : List (To.Dv × Value × Value)} (hp : ds'.Perm ds) (hnd : (ds.map (·.1.name)).Nodup) {k : Nat} {q : To.Dv × Value × Value} (hq : ds'[k]? = some q) :
    ∃ j, (ds.map (·.1.name)).idxOf q.1.name = j ∧ j < ds.length ∧ q.1.name ∈ ds.map (·.1.name) ∧ posF ds ds' j = k ∧ ∀ i, i < ds.length → posF ds ds' i = k → i = j := by
  have hpm : (ds'.map (·.1.name)).Perm (ds.map (·.1.name)) := hp.map _
  have hnd' : (ds'.map (·.1.name)).Nodup := hpm.nodup_iff.2 hnd
  have hk : k < ds'.length := (List.getElem?_eq_some_iff.1 hq).1
  have hkq : (ds'.map (·.1.name))[k]? = some q.1.name := by rw [List.getElem?_map, hq]; rfl
  have hm' : q.1.name ∈ ds'.map (·.1.name) := List.mem_of_getElem? hkq
  have hm : q.1.name ∈ ds.map (·.1.name) := hpm.mem_iff.1 hm'
  have hj : (ds.map (·.1.name)).idxOf q.1.name < ds.length := by have := List.idxOf_lt_length_iff.2 hm; simpa using this
  refine ⟨_, rfl, hj, hm, ?_, fun i hi h => ?_⟩
  · unfold posF
    have e : (ds.map (·.1.name)).getD ((ds.map (·.1.name)).idxOf q.1.name) [] = q.1.name := by
      rw [List.getD_eq_getElem?_getD, List.getElem?_eq_getElem (by simpa using hj)]
      exact List.getElem_idxOf _
    rw [e]
    have h1 : (ds'.map (·.1.name))[k]'(by simpa using hk) = q.1.name := by
      rw [List.getElem?_eq_getElem (by simpa using hk)] at hkq
      exact Option.some.inj hkq
    rw [← h1]
    exact hnd'.idxOf_getElem _ _
  · unfold posF at h
    have hi' : i < (ds.map (·.1.name)).length := by simpa using hi
    have e : (ds.map (·.1.name)).getD i [] = (ds.map (·.1.name))[i] := by rw [List.getD_eq_getElem?_getD, List.getElem?_eq_getElem hi']; rfl
    rw [e] at h
    have hmi : (ds.map (·.1.name))[i] ∈ ds'.map (·.1.name) := hpm.mem_iff.2 (List.getElem_mem _)
    have h2 : (ds'.map (·.1.name))[(ds'.map (·.1.name)).idxOf (ds.map (·.1.name))[i]]? = some (ds.map (·.1.name))[i] := by
      rw [List.getElem?_eq_getElem (List.idxOf_lt_length_iff.2 hmi)]
      exact congrArg some (List.getElem_idxOf _)
    rw [h, hkq] at h2
    have h3 := Option.some.inj h2
    rw [h3]
    exact (hnd.idxOf_getElem _ _).symm
theorem posF_lt {ds ds' : List (To.Dv × Value × Value)} (hp : ds'.Perm ds) {j : Nat} (hj : j < ds.length) : posF ds ds' j < ds.length := by
  have hpm : (ds'.map (·.1.name)).Perm (ds.map (·.1.name)) := hp.map _
  have hj' : j < (ds.map (·.1.name)).length := by simpa using hj
  unfold posF
  have e : (ds.map (·.1.name)).getD j [] = (ds.map (·.1.name))[j] := by rw [List.getD_eq_getElem?_getD, List.getElem?_eq_getElem hj']; rfl
  rw [e]
  have := List.idxOf_lt_length_iff.2 (hpm.mem_iff.2 (List.getElem_mem hj'))
  rw [List.length_map, hp.length_eq] at this
  exact this
theorem eob_first {w : World} {b : Nat} {p x : Int} {m : List UInt8} (h : w.heap[b]? = some (eob p m)) : (w.setCell ⟨b, 0, none⟩ (.int .i64 x)).heap[b]? = some (eob x m) := by
  rw [block_set (o := 0) _ h]
  rfl
/-- Both ends have their new numbers. -/
structure EJ (wr : World) (A : Nat) (p q : Int) (m n : List UInt8) (wz : World) : Prop where
  a : wz.heap[A]? = some (eob p m)
  b : wz.heap[A + 1]? = some (eob q n)
  on : Below wr.heap.size wr wz
structure PlI (w1 : World) (pb n : Nat) (f : Nat → Nat) (k : Nat) (wr : World) : Prop where
  row : wr.heap[pb]? = some (.cells (plc f n k).toArray 3 (0, 0))
  below : Below pb w1 wr

/-- What order leaves. -/
def OrdQ (B : Nat) (w : World) (c1 c2 : Value) (ds : List (To.Dv × Value × Value)) (ls : List To.Lk) (w' : World) : Prop :=
  ∃ ds' ls', ds'.Perm ds ∧ ds'.Pairwise (fun a b => ¬ b.1.name < a.1.name) ∧ ls'.Perm (ls.map (renL (posF ds ds'))) ∧ ls'.Pairwise (fun a b => ¬ ocE b.a b.p a.a a.p < 0) ∧ DvO B w' c1 ds' ∧ w'.ownsRow B 83 4 c2 ls'.length (flatL ls') ∧ w.heap.size ≤ w'.heap.size ∧ w'.os = w.os ∧ w'.tape = w.tape ∧ w'.output = w.output ∧ ∀ k, k < w.heap.size → c1.ownBlock ≠ some k → c2.ownBlock ≠ some k → w'.heap[k]? = w.heap[k]?

set_option maxRecDepth 20000 in
set_option maxHeartbeats 1000000 in
theorem oorder_any {w : World} {rb nb B : Nat} {c0 c1 c2 c4 d5 d6 d7 d8 d9 d10 d11 d12 d13 d14 : Value} {ds : List (To.Dv × Value × Value)} {ls : List To.Lk} (hc : w.heap[rb]? = some (.cells #[c0, c1, c2, .map (some nb), c4, d5, d6, d7, d8, d9, d10, d11, d12, d13, d14] 111 (0, 0))) (hD : DvO B w c1 ds) (hL : w.ownsRow B 83 4 c2 ls.length (flatL ls)) (hN : NumAt w nb (ds.map (·.1.name))) (hnd : (ds.map (·.1.name)).Nodup) (hdl : ds.length ≤ 256) (hll : ls.length ≤ 4096) (hr : rb < B) (hnB : nb < B) (_hnr : nb ≠ rb) (hlk : ∀ l ∈ ls, l.a < ds.length ∧ l.b < ds.length) (hsm : ∀ d ∈ ds, d.1.name.length ≤ 1048576) :
    Calls Tryz.prog 59 #[.pointer (some ⟨rb, 0, none⟩)] w fun en w' => en = .returned (.tuple #[]) ∧ OrdQ B w c1 c2 ds ls w' := by
  obtain ⟨dv, dc, rfl⟩ := own_formJ hD.row
  obtain ⟨lv, lc, rfl⟩ := own_formJ hL
  obtain ⟨n, hn⟩ : ∃ n, ds.length = n := ⟨_, rfl⟩
  obtain ⟨m, hm⟩ : ∃ m, ls.length = m := ⟨_, rfl⟩
  have HS := hid (osortD hD (by omega))
  have k1 : w.cell? ⟨rb, 1, none⟩ = some (.slice dv ds.length dc) := by rw [cell_at hc]; rfl
  rw [hn] at HS k1
  have HC := hid hc
  have HD := hid hD
  have HL := hid hL
  have HN := hid hN
  have HND := hid hnd
  have HLK := hid hlk
  have HSM := hid hsm
  have HNN := hid hn
  have HMM := hid hm
  have hn256 : n ≤ 256 := by omega
  have hm4096 : m ≤ 4096 := by omega
  have hmk := run_zerosJ n (by omega)
  clear hc hD hL hN hnd hlk hsm hn hm hdl hll
  go_enter Tryz.func59, Tryz.ntmps59
  go_wp2_with fail
  refine HS.out.mono ?_
  rintro en w1 ⟨rfl, ds', hp, hs, hD1, hg1⟩
  have HP := hid hp
  have HST := hid hs
  have HD1 := hid hD1
  have HG1 := hid hg1
  have HC1 := hid (show w1.heap[rb]? = some (.cells #[c0, .slice dv n dc, .slice lv m lc, .map (some nb), c4, d5, d6, d7, d8, d9, d10, d11, d12, d13, d14] 111 (0, 0)) from by
    rw [hg1.block rb (lt_of_block HC.out) (fun e => by have := (HD.out.row.lt rb (by rw [HNN.out]; exact e.symm)).1; omega), HC.out, HNN.out, HMM.out])
  clear hp hs hD1 hg1
  have j1 : w1.cell? ⟨rb, 1, none⟩ = some (.slice dv n dc) := by rw [cell_at HC1.out]; rfl
  have hj := lt_of_block HC1.out
  obtain ⟨pb, hpb⟩ : ∃ pb, w1.heap.size = pb := ⟨_, rfl⟩
  obtain ⟨f, hf⟩ : ∃ f, f = posF ds ds' := ⟨_, rfl⟩
  have I0 := hid (show PlI w1 pb n f 0 (w1.alloc (.cells (zerosJ n) 3)) from ⟨by rw [← hpb, new_0, show zerosJ n = (plc f n 0).toArray from by rw [plc_zero, ← zerosJ_toList]], (Below.refl _ _).alloc (by omega) _⟩)
  have HPB := hid hpb
  have HF := hid hf
  clear hf hpb
  go_wp2_with fail
  rw [HPB.out]
  go_loopw [28] (fun i wr => ∃ k : Nat, k ≤ n ∧ i = .int .i64 k ∧ Hid (PlI w1 pb n f k wr)) (fun i _ => n - (intOf i).toNat)
  case atStart => exact ⟨0, Nat.zero_le _, rfl, I0⟩
  case round =>
    obtain ⟨k, hk, rfl, hI⟩ := hrel
    by_cases hkn : k < n
    · have hkd : k < ds'.length := by rw [HP.out.length_eq, HNN.out]; exact hkn
      obtain ⟨q, hq⟩ : ∃ q, ds'[k]? = some q := ⟨_, List.getElem?_eq_getElem hkd⟩
      obtain ⟨av, cap, e1, e2⟩ := HD1.out.lies.form
      obtain ⟨G, o, hav, hG, hcells⟩ : ∃ G o, dv = some ⟨G, o, none⟩ ∧ G < w1.heap.size ∧ ∀ (i : Nat) (q : To.Dv × Value × Value), ds'[i]? = some q → w1.cell? ⟨G, o + i * 3, none⟩ = some (.string (tx q.1.name)) ∧ w1.cell? ⟨G, o + i * 3 + 1, none⟩ = some q.2.1 ∧ w1.cell? ⟨G, o + i * 3 + 2, none⟩ = some q.2.2 := by
        injection e1 with e1 _ _
        rcases e2 with e2 | ⟨G, o, h1, h2, h3⟩
        · rw [e2] at hkd; exact absurd hkd (Nat.not_lt_zero _)
        · exact ⟨G, o, e1.trans h1, h2, h3⟩
      clear e1 e2
      obtain ⟨z0, z1, z2⟩ := hcells k q hq
      obtain ⟨j, hj1, hj2, hj3, hj4, hj5⟩ := posF_at HP.out HND.out hq
      have HQ := hid hq
      have hjn : j < n := by rw [← HNN.out]; exact hj2
      have HJ := hid (show f j = k ∧ ∀ i, i < n → f i = k → i = j by rw [HF.out, ← HNN.out]; exact ⟨hj4, hj5⟩)
      have hGp : G < pb := by rw [← HPB.out]; exact hG
      have hrp : rb < pb := by rw [← HPB.out]; exact hj
      have y0 : wr.cell? ⟨G, o + k * 3, none⟩ = some (.string (tx q.1.name)) := (World.cell?_of_block (hI.out.below.block G hGp)).trans z0
      have y1 : wr.cell? ⟨G, o + k * 3 + 1, none⟩ = some q.2.1 := (World.cell?_of_block (hI.out.below.block G hGp)).trans z1
      have y2 : wr.cell? ⟨G, o + k * 3 + 2, none⟩ = some q.2.2 := (World.cell?_of_block (hI.out.below.block G hGp)).trans z2
      have hb : wr.heap[rb]? = w1.heap[rb]? := hI.out.below.block rb hrp
      have y3 : wr.cell? ⟨rb, 3, none⟩ = some (.map (some nb)) := by rw [World.cell?_of_block hb, cell_at HC1.out]; rfl
      have hws : pb < wr.heap.size := lt_of_block hI.out.row
      subst hav
      have HLQ := hid (fun (W : World) (hW : W.heap[nb]? = wr.heap[nb]?) => (by
        have hN : NumAt W nb (ds.map (·.1.name)) := HN.out.same (by
          rw [hW, hI.out.below.block nb (by rw [← HPB.out]; have := HG1.out.size; have := HN.out.lt; omega), HG1.out.block nb HN.out.lt (fun e => by have := (HD.out.row.lt nb (by rw [HNN.out]; exact e.symm)).1; omega)])
        have := hN.look (s := q.1.name) (HSM.out q (HP.out.mem_iff.1 (List.mem_of_getElem? hq)))
        rw [show numO (ds.map (·.1.name)) q.1.name = some ((j : Int) + 1) by unfold numO; rw [if_pos hj3, hj1]] at this
        exact this : (Instr.lookup 107 (.map (some nb)) (.string (tx q.1.name)) false).run Tryz.prog W = .ok (.int .i64 ((j : Int) + 1)) W))
      clear hcells z0 z1 z2 hj1 hj2 hj3 hj4 hj5 hq hkd
      have hkI : (k : Int) < (n : Int) := by omega
      have hk0 : (0 : Int) ≤ (k : Int) := by omega
      obtain ⟨a1, b1, e1⟩ := own_formJ (HD1.out.cls q (List.mem_of_getElem? HQ.out))
      obtain ⟨a2, b2, e2⟩ := own_formJ (HD1.out.prt q (List.mem_of_getElem? HQ.out))
      rw [e1] at y1
      rw [e2] at y2
      clear e1 e2
      obtain ⟨Wk, hWk⟩ : ∃ Wk, Wk = wr.alloc (.cells #[.string (tx q.1.name), .slice a1 q.1.cls.length b1, .slice a2 q.1.prt.length b2] 80) := ⟨_, rfl⟩
      have r0 : Wk.cell? ⟨wr.heap.size, 0, none⟩ = some (.string (tx q.1.name)) := by rw [hWk, cell_at (new_0 _ _)]; rfl
      have r3 : Wk.cell? ⟨rb, 3, none⟩ = some (.map (some nb)) := by rw [hWk]; exact (World.cell?_of_block (Below.heap_alloc _ _ _ (by show rb < _; omega))).trans y3
      have HBK := hid (show Below wr.heap.size wr Wk by rw [hWk]; exact (Below.refl _ _).alloc (Nat.le_refl _) _)
      have hlk := HLQ.out Wk.drew (by show Wk.heap[nb]? = _; exact HBK.out.block nb (by have := hI.out.below.size; have := HPB.out; have := HG1.out.size; have := HN.out.lt; omega))
      have rp : Wk.heap[pb]? = some (.cells (plc f n k).toArray 3 (0, 0)) := (HBK.out.block pb hws).trans hI.out.row
      have rc : Wk.cell? ⟨pb, j, none⟩ = some (.int .i64 (((if f j < k then f j else 0) : Nat) : Int)) := by
        rw [cell_at rp]
        have := plc_at (f := f) (k := k) hjn
        simpa using this
      have rf : Wk.frozen? ⟨pb, j, none⟩ = false := free_of rp
      have hjI : (j : Int) < (n : Int) := by omega
      have hj0 : (0 : Int) ≤ (j : Int) := by omega
      have HNX := hid (show PlI w1 pb n f (k + 1) (Wk.setCell ⟨pb, j, none⟩ (.int .i64 (k : Nat))).drew from by
        refine ⟨?_, ?_⟩
        · show (Wk.setCell ⟨pb, j, none⟩ (.int .i64 (k : Nat))).heap[pb]? = _
          rw [block_set (o := j) _ rp]
          congr 2
          rw [← plc_set hjn HJ.out.1 HJ.out.2]
          simp
        · refine (Below.setCell ?_ (by exact Nat.le_refl _) _).drew
          have h1 := hI.out.below
          have h2 := HBK.out
          exact ⟨h2.os.trans h1.os, h2.tape.trans h1.tape, h2.output.trans h1.output, Nat.le_trans h1.size h2.size, fun i hi => (h2.block i (by omega)).trans (h1.block i hi)⟩)
      clear rp
      go_wp2_with fail
      rw [← hWk]
      clear hWk
      go_region
      go_wp2
      exact ⟨⟨k + 1, by omega, by simp, HNX⟩, by simp [intOf]; omega⟩
    · have hkn' : k = n := by omega
      subst hkn'
      have hrp : rb < pb := by rw [← HPB.out]; exact hj
      have hb : wr.heap[rb]? = w1.heap[rb]? := hI.out.below.block rb hrp
      have HC2 := hid (hb.trans HC1.out)
      have y2 : wr.cell? ⟨rb, 2, none⟩ = some (.slice lv m lc) := by rw [World.cell?_of_block hb, cell_at HC1.out]; rfl
      have HL2 := hid (show wr.ownsRow B 83 4 (.slice lv m lc) m (flatL ls) from by
        have h0 := HL.out
        rw [HMM.out] at h0
        refine own_sameJ h0 fun i q => ?_
        have hi := (h0.lt i q).2
        have hs1 := HG1.out.size
        rw [hI.out.below.block i (by rw [← HPB.out]; omega), HG1.out.block i hi (fun e => own_apartJ h0 (by have h1 := HD.out.row; rw [HNN.out] at h1; exact h1) Tryz.lnkNeJ q e.symm)])
      have hws : pb < wr.heap.size := lt_of_block hI.out.row
      have HPL := hid (fun (j : Nat) (hj : j < k) => (by
        have hf : f j < k := by rw [HF.out]; have := posF_lt HP.out (j := j) (by rw [HNN.out]; exact hj); rw [HNN.out] at this; exact this
        rw [cell_at hI.out.row]
        have := plc_at (f := f) (k := k) hj
        rw [if_pos hf] at this
        simpa using this : wr.cell? ⟨pb, j, none⟩ = some (.int .i64 (f j))))
      rename World => w2
      have HI2 := hI
      clear hb hI
      have J0 := hid (show LkI w2 B (.slice lv m lc) f ls 0 w2 from ⟨by rw [HMM.out]; exact HL2.out, grown_refl _ _⟩)
      go_wp2_with fail
      go_loopw [51] (fun i wr => ∃ i' : Nat, i' ≤ m ∧ i = .int .i64 i' ∧ Hid (LkI w2 B (.slice lv m lc) f ls i' wr)) (fun i _ => m - (intOf i).toNat)
      case atStart => exact ⟨0, Nat.zero_le _, rfl, J0⟩
      case round =>
        obtain ⟨i, hi, rfl, hJ⟩ := hrel
        by_cases him : i < m
        · have hil : i < ls.length := by rw [HMM.out]; exact him
          obtain ⟨l, hl⟩ : ∃ l, ls[i]? = some l := ⟨_, List.getElem?_eq_getElem hil⟩
          have hrow := hJ.out.row
          rw [HMM.out] at hrow
          obtain ⟨Lg, hLg⟩ : ∃ Lg, lv = some ⟨Lg, 0, none⟩ := by
            obtain ⟨-, ⟨h1, h2⟩ | ⟨g, cap, cur, h1, -⟩⟩ := hrow
            · omega
            · injection h1 with h1; exact ⟨g, h1⟩
          subst hLg
          have HROW := hid hrow
          obtain ⟨⟨x0, x1, x2, x3⟩, xf⟩ := own_atL hrow (renT_at hl) (by rw [renT_len, HMM.out])
          obtain ⟨la, hla⟩ : ∃ la, la = l.a := ⟨_, rfl⟩
          obtain ⟨lb, hlb⟩ : ∃ lb, lb = l.b := ⟨_, rfl⟩
          obtain ⟨lp, hlp⟩ : ∃ lp, lp = l.p := ⟨_, rfl⟩
          obtain ⟨lq, hlq⟩ : ∃ lq, lq = l.q := ⟨_, rfl⟩
          have hlk := HLK.out l (List.mem_of_getElem? hl)
          rw [HNN.out, ← hla, ← hlb] at hlk
          obtain ⟨hla1, hlb1⟩ := hlk
          rw [← hla] at x0
          rw [← hlp] at x1
          rw [← hlb] at x2
          rw [← hlq] at x3
          have HEN := hid (show (if ocE (f lb) lq (f la) lp < 0 then lkv (f lb) lq (f la) lp else lkv (f la) lp (f lb) lq) = lkv (renL f l).a (renL f l).p (renL f l).b (renL f l).q by rw [hla, hlb, hlp, hlq]; exact renL_val f l)
          have HLL := hid hl
          have hLgb := hrow.lt Lg rfl
          have hLgw : Lg < w2.heap.size := (HL2.out.lt Lg rfl).2
          have hLp : Lg < pb := by
            have h0 := HL.out
            have := (h0.lt Lg rfl).2
            have h1 := HG1.out.size
            have h2 := HPB.out
            omega
          have hLr : ¬ Lg = rb := by have := hLgb.1; omega
          have hiI : (i : Int) < (m : Int) := by omega
          have hi0 : (0 : Int) ≤ (i : Int) := by omega
          have hsw := hJ.out.on.size
          have hpw : wr.heap[pb]? = w2.heap[pb]? := hJ.out.on.block pb hws (fun e => by have e' : pb = Lg := Option.some.inj e; omega)
          have hrw : wr.heap[rb]? = w2.heap[rb]? := hJ.out.on.block rb (by omega) (fun e => hLr (Option.some.inj e).symm)
          have PA := hid ((World.cell?_of_block (by exact hpw)).trans (HPL.out la hla1))
          have PB := hid ((World.cell?_of_block (by exact hpw)).trans (HPL.out lb hlb1))
          have PR := hid ((World.cell?_of_block (by exact hrw)).trans y2)
          clear hla hlb hlp hlq hl hrow hpw hrw hil
          have hfa0 : (la : Int) < (k : Int) := by omega
          have hfb0 : (lb : Int) < (k : Int) := by omega
          have hla0 : (0 : Int) ≤ (la : Int) := by omega
          have hlb0 : (0 : Int) ≤ (lb : Int) := by omega
          go_wp2_with fail
          refine oendsOf_any.mono ?_
          rintro en w5 ⟨rfl, hb5⟩
          have HB5 := hid (show Below wr.heap.size wr w5 from by
            have h1 : Below wr.heap.size wr (wr.alloc (.cells #[.int .i64 la, .string (tx lp), .int .i64 lb, .string (tx lq)] 83)) := (Below.refl _ _).alloc (Nat.le_refl _) _
            have h2 := hb5
            simp only [World.size_alloc] at h2
            exact ⟨h2.os.trans h1.os, h2.tape.trans h1.tape, h2.output.trans h1.output, Nat.le_trans h1.size h2.size, fun i hi => (h2.block i (by omega)).trans (h1.block i hi)⟩)
          clear hb5
          obtain ⟨A, hA⟩ : ∃ A, A = w5.heap.size := ⟨_, rfl⟩
          obtain ⟨W6, hW6⟩ : ∃ W6, W6 = (w5.alloc (eob la lp)).alloc (eob lb lq) := ⟨_, rfl⟩
          have hA6 : W6.heap[A]? = some (eob la lp) := by rw [hW6, hA]; exact new_old _ _ (new_0 _ _)
          have hB6 : W6.heap[A + 1]? = some (eob lb lq) := by rw [hW6, hA]; exact new_1 _ _ _
          have HB6 := hid (show Below wr.heap.size wr W6 from by rw [hW6]; exact (HB5.out.alloc HB5.out.size _).alloc (by have := HB5.out.size; simp only [World.size_alloc]; omega) _)
          have hAw : wr.heap.size ≤ A := by rw [hA]; exact HB5.out.size
          have hpl : pb < wr.heap.size := by omega
          have HB6' := HB6.out
          obtain ⟨a0, a1⟩ := eob_cells hA6
          obtain ⟨b0, b1⟩ := eob_cells hB6
          have fa : W6.frozen? ⟨A, 0, none⟩ = false := free_of hA6
          have fb : W6.frozen? ⟨A + 1, 0, none⟩ = false := free_of hB6
          have p0 : W6.cell? ⟨pb, la, none⟩ = some (.int .i64 (f la)) := (World.cell?_of_block (HB6'.block pb hpl)).trans PA.out
          have p1 : W6.cell? ⟨pb, lb, none⟩ = some (.int .i64 (f lb)) := (World.cell?_of_block (HB6'.block pb hpl)).trans PB.out
          have HE1 := hid (show EJ wr A (f la) (f lb) lp lq ((W6.setCell ⟨A, 0, none⟩ (.int .i64 (f la))).setCell ⟨A + 1, 0, none⟩ (.int .i64 (f lb))) from ⟨(Below.heap_setCell _ _ _ _ (by show A ≠ A + 1; omega)).trans (eob_first hA6), eob_first ((Below.heap_setCell _ _ _ _ (by show A + 1 ≠ A; omega)).trans hB6), (HB6'.setCell (by exact hAw) _).setCell (by show wr.heap.size ≤ A + 1; omega) _⟩)
          have HE2 := hid (show EJ wr A (f la) (f lb) lp lq ((W6.setCell ⟨A + 1, 0, none⟩ (.int .i64 (f lb))).setCell ⟨A, 0, none⟩ (.int .i64 (f la))) from ⟨eob_first ((Below.heap_setCell _ _ _ _ (by show A ≠ A + 1; omega)).trans hA6), (Below.heap_setCell _ _ _ _ (by show A + 1 ≠ A; omega)).trans (eob_first hB6), (HB6'.setCell (by show wr.heap.size ≤ A + 1; omega) _).setCell (by exact hAw) _⟩)
          have hAA : ¬ A + 1 = A := by omega
          have hAA' : ¬ A = A + 1 := by omega
          have hAp : ¬ A = pb := by omega
          have hBp : ¬ A + 1 = pb := by omega
          clear hA6 hB6 HB6'
          go_upto_region 11 with fail
          rw [← hA, ← hW6]
          clear hW6 hA
          go_cut [] (fun wz => Hid (EJ wr A (f la) (f lb) lp lq wz))
          case first =>
            go_region
            all_goals (
              go_wp2_with fail
              go_meet
              first | exact hid ⟨HE1.out.a, HE1.out.b, HE1.out.on.drew⟩ | exact hid ⟨HE2.out.a, HE2.out.b, HE2.out.on.drew⟩)
          case rest =>
            obtain ⟨z0, z1⟩ := eob_cells hcut.out.a
            obtain ⟨z2, z3⟩ := eob_cells hcut.out.b
            have hLw : Lg < wr.heap.size := hLgb.2
            have hrw : rb < wr.heap.size := by omega
            have hAc : A < wc.heap.size := lt_of_block hcut.out.a
            have hBc : A + 1 < wc.heap.size := lt_of_block hcut.out.b
            have z4 : wc.cell? ⟨rb, 2, none⟩ = some (.slice (some ⟨Lg, 0, none⟩) m lc) := (World.cell?_of_block (hcut.out.on.block rb hrw)).trans PR.out
            have HJN := hid (fun (W : World) => (by have := ojoined_any (w := W) (p := f la) (q := f lb) (m := lp) (n := lq); rw [HEN.out] at this; exact this : Calls Tryz.prog 98 #[.agg #[.int .i64 (f la), .string (tx lp)], .agg #[.int .i64 (f lb), .string (tx lq)]] W fun e w' => e = .returned (lkv (renL f l).a (renL f l).p (renL f l).b (renL f l).q) ∧ Below W.heap.size W w'))
            have HB9 := hid (fun (w9 : World) (hb : Below wc.heap.size wc w9) => (show Below wr.heap.size wr w9 from by
              have h1 := hcut.out.on
              exact ⟨hb.os.trans h1.os, hb.tape.trans h1.tape, hb.output.trans h1.output, Nat.le_trans h1.size hb.size, fun i hi => (hb.block i (by have := h1.size; omega)).trans (h1.block i hi)⟩))
            have HS9 := hid (fun (w9 : World) (hb : Below wc.heap.size wc w9) => (by
              have h9 := HB9.out w9 hb
              exact ⟨(World.cell?_of_block (h9.block rb hrw)).trans PR.out, (World.cell?_of_block (hb.block A hAc)).trans z0, (World.cell?_of_block (hb.block A hAc)).trans z1, (World.cell?_of_block (hb.block (A + 1) hBc)).trans z2, (World.cell?_of_block (hb.block (A + 1) hBc)).trans z3⟩ : w9.cell? ⟨rb, 2, none⟩ = some (.slice (some ⟨Lg, 0, none⟩) m lc) ∧ w9.cell? ⟨A, 0, none⟩ = some (.int .i64 (f la)) ∧ w9.cell? ⟨A, 1, none⟩ = some (.string (tx lp)) ∧ w9.cell? ⟨A + 1, 0, none⟩ = some (.int .i64 (f lb)) ∧ w9.cell? ⟨A + 1, 1, none⟩ = some (.string (tx lq))))
            have HR9 := hid (fun (w9 : World) (hb : Below wc.heap.size wc w9) => (own_sameJ HROW.out (fun i q => by
              have e : Lg = i := Option.some.inj q
              subst e
              exact (HB9.out w9 hb).block Lg hLw) : w9.ownsRow B 83 4 (.slice (some ⟨Lg, 0, none⟩) m lc) m (flatL (renT f ls i))))
            have HX9 := hid (fun (w9 : World) (hb : Below wc.heap.size wc w9) => own_atL (HR9.out w9 hb) (renT_at HLL.out) (by rw [renT_len, HMM.out]))
            have HN9 := hid (fun (w9 : World) (hb : Below wc.heap.size wc w9) => (by
              obtain ⟨o1, o2⟩ := own_putL (renL f l) (HR9.out w9 hb) (by rw [renT_len, HMM.out]) him
              rw [renT_next HLL.out] at o1
              have h9 := HB9.out w9 hb
              have h2 := hJ.out.on
              refine ⟨by rw [HMM.out]; exact o1, o2.os.trans (h9.os.trans h2.os), o2.tape.trans (h9.tape.trans h2.tape), o2.output.trans (h9.output.trans h2.output), by have := o2.size; have := h9.size; omega, fun i hi hne => ?_⟩
              rw [o2.block i (by have := h9.size; omega) hne, h9.block i (by omega), h2.block i hi hne] : LkI w2 B (.slice (some ⟨Lg, 0, none⟩) m lc) f ls (i + 1) (w9.setCells Lg (i * 4) (lkL (renL f l)))))
            obtain ⟨ra, hra⟩ : ∃ ra, ra = (renL f l).a := ⟨_, rfl⟩
            obtain ⟨rp, hrp'⟩ : ∃ rp, rp = (renL f l).p := ⟨_, rfl⟩
            obtain ⟨rb', hrb'⟩ : ∃ rb', rb' = (renL f l).b := ⟨_, rfl⟩
            obtain ⟨rq, hrq⟩ : ∃ rq, rq = (renL f l).q := ⟨_, rfl⟩
            have HLK2 := hid (show lkL (renL f l) = [.int .i64 ra, .string (tx rp), .int .i64 rb', .string (tx rq)] by rw [hra, hrp', hrb', hrq]; rfl)
            rw [← hra, ← hrp', ← hrb', ← hrq] at HJN
            clear hra hrp' hrb' hrq
            have hLA : ¬ Lg = A := by omega
            have hLB : ¬ Lg = A + 1 := by omega
            go_wp2_with fail
            go_region_held3 (fun W => W.cell? ⟨rb, 2, none⟩ = some (.slice (some ⟨Lg, 0, none⟩) m lc) ∧ W.cell? ⟨A, 0, none⟩ = some (.int .i64 (f la)) ∧ W.cell? ⟨A, 1, none⟩ = some (.string (tx lp)) ∧ W.cell? ⟨A + 1, 0, none⟩ = some (.int .i64 (f lb)) ∧ W.cell? ⟨A + 1, 1, none⟩ = some (.string (tx lq))) (first | (go_keep; done) | exact S9) (first | (go_at_call 98; refine (HJN.out _).mono ?_; rintro en w9 ⟨rfl, hb9⟩; have HBB := hid (show Below wc.heap.size wc w9 from ⟨hb9.os, hb9.tape, hb9.output, hb9.size, hb9.block⟩); have S9 := HS9.out w9 HBB.out; obtain ⟨⟨t0, t1, t2, t3⟩, tf⟩ := HX9.out w9 HBB.out; have v0 := tf (i * 4); have v1 := tf (i * 4 + 1); have v2 := tf (i * 4 + 2); have v3 := tf (i * 4 + 3)))
            go_wp2
            exact ⟨⟨i + 1, by omega, by simp, hid (by have := HN9.out w9 HBB.out; rw [HLK2.out] at this; exact this)⟩, by simp [intOf]; omega⟩
        · have him' : i = m := by omega
          subst him'
          have hlr : (Value.slice lv i lc).ownBlock ≠ some rb := fun q => by have := (HL2.out.lt rb q).1; omega
          have hrw : wr.heap[rb]? = w2.heap[rb]? := hJ.out.on.block rb (by omega) (fun e => hlr e.symm)
          have z2 : wr.cell? ⟨rb, 2, none⟩ = some (.slice lv i lc) := (World.cell?_of_block (by exact hrw)).trans y2
          have hrow : wr.ownsRow B 83 4 (.slice lv i lc) (ls.map (renL f)).length (flatL (ls.map (renL f))) := by
            have h0 := hJ.out.row
            rw [← HMM.out, renT_all] at h0
            rw [List.length_map]
            rw [HMM.out] at h0 ⊢
            exact h0
          have HSL := hid (osortL hrow (by rw [List.length_map, HMM.out]; omega))
          clear hrw hrow
          go_wp2_with fail
          refine HSL.out.mono ?_
          rintro en w5 ⟨rfl, ls', hp2, hs2, hr2, hg2⟩
          have HFN := hid (show OrdQ B w (.slice dv ds.length dc) (.slice lv ls.length lc) ds ls w5 from by
            rw [HNN.out, HMM.out]
            have hD0 := HD.out
            rw [HNN.out] at hD0
            have hL0 := HL.out
            rw [HMM.out] at hL0
            have hsz : w.heap.size ≤ w1.heap.size := HG1.out.size
            have hpb := HPB.out
            have h12 := HI2.out.below
            have hk : ∀ q, q < w1.heap.size → (Value.slice lv i lc).ownBlock ≠ some q → w5.heap[q]? = w1.heap[q]? := fun q h1 h2 => by
              rw [hg2.block q (by have := hJ.out.on.size; omega) (fun e => h2 e.symm), hJ.out.on.block q (by omega) (fun e => h2 e.symm), h12.block q (by omega)]
            refine ⟨ds', ls', HP.out, HST.out, by rw [← HF.out]; exact hp2, hs2.imp (fun h => Int.not_lt.2 (by exact h)), ⟨?_, fun q hq => ?_, fun q hq => ?_⟩, hr2, ?_, ?_, ?_, ?_, fun q h1 h2 h3 => ?_⟩
            · refine own_sameJ HD1.out.row fun q hq => hk q (HD1.out.row.lt q hq).2 (fun e => own_apartJ HL2.out (own_sameJ HD1.out.row fun q' hq' => h12.block q' (by have := (HD1.out.row.lt q' hq').2; omega)) Tryz.lnkNeJ e hq)
            · have hc := HD1.out.cls q hq
              exact own_sameJ hc fun r hr' => hk r (hc.lt r hr').2 (fun e => own_apartJ HL2.out (own_sameJ hc fun q' hq' => h12.block q' (by have := (hc.lt q' hq').2; omega)) Tryz.lnkNeS e hr')
            · have hc := HD1.out.prt q hq
              exact own_sameJ hc fun r hr' => hk r (hc.lt r hr').2 (fun e => own_apartJ HL2.out (own_sameJ hc fun q' hq' => h12.block q' (by have := (hc.lt q' hq').2; omega)) Tryz.lnkNeS e hr')
            · have := hg2.size; have := hJ.out.on.size; have := h12.size; omega
            · exact hg2.os.trans (hJ.out.on.os.trans (h12.os.trans HG1.out.os))
            · exact hg2.tape.trans (hJ.out.on.tape.trans (h12.tape.trans HG1.out.tape))
            · exact hg2.output.trans (hJ.out.on.output.trans (h12.output.trans HG1.out.output))
            · rw [hk q (by omega) h3, HG1.out.block q h1 (fun e => h2 e.symm)])
          clear hp2 hs2 hr2 hg2
          go_wp2
          refine bodyPost_end (v := .tuple #[]) (by simp [results, Tryz.results59, go_sem]) rfl ?_
          exact ⟨rfl, HFN.out⟩
end Go.Proofs.YtebaopiedlioiaaGreatDoor
namespace Go.Proofs.YtebaopiedlioiaaGreatDoor
open Go.RowKit
open Wo (Wd)

/-- A method of the reader, as a value. -/
abbrev mvJ (f : FuncId) (rb : Nat) : Value := .func (.func f) #[.pointer (some ⟨rb, 0, none⟩)] #[]
abbrev kndO (rb : Nat) : Obj := .map #[⟨.string (tx To.widthT), mvJ 92 rb, 0⟩, ⟨.string (tx To.deviceT), mvJ 93 rb, 1⟩, ⟨.string (tx To.linkT), mvJ 94 rb, 2⟩] 3
theorem kchk (w : World) (b : Bool) (s : ByteArray) : (Instr.checkKey b 10000 9 (.string s)).run Tryz.prog w = .ok () w := by
  rw [Instr.checkKey]
  simp [run_underlying Tryz.underlying9, Result.andThen]
theorem kfind (w : World) (s : ByteArray) (es : List MapEntry) (r : Option (Nat × Value)) (hf : Instr.findNow .string (.string s) es 0 = some r) : (Instr.findKey 9 (.string s) es).run Tryz.prog w = .ok r w := by
  unfold Instr.findKey
  simp [run_underlying Tryz.underlying9, hf, Result.andThen]
theorem kupd {w : World} {b clock : Nat} {es : Array MapEntry} {k : List UInt8} {v : Value} (hm : w.heap[b]? = some (.map es clock)) (hf : Instr.findNow .string (.string (tx k)) es.toList 0 = some none) : ∃ W, (Instr.mapUpdate 113 (.map (some b)) (.string (tx k)) v).run Tryz.prog w = .ok () W ∧ W.heap[b]? = some (.map (es.push ⟨.string (tx k), v, clock⟩) (clock + 1)) ∧ w.grownBy W (some b) := by
  refine ⟨{ w with heap := w.heap.setIfInBounds b (.map (es.push ⟨.string (tx k), v, clock⟩) (clock + 1)) }, ?_, ?_, ?_⟩
  · unfold Instr.mapUpdate
    simp [run_underlying Tryz.underlying113, MapKept.run_getObj_map hm, kchk, kfind _ _ _ _ hf, MapKept.run_setObj_map _ hm, Result.andThen]
  · have := lt_of_block hm
    simp [this]
  · refine ⟨rfl, rfl, rfl, by simp, fun k hk hne => ?_⟩
    simp only [Array.getElem?_setIfInBounds]
    rw [if_neg (fun e => hne (by rw [e]))]

set_option maxRecDepth 20000 in
set_option maxHeartbeats 1000000 in
theorem okinds (rb : Nat) (w : World) : Calls Tryz.prog 57 #[.pointer (some ⟨rb, 0, none⟩)] w fun e w' => e = .returned (.map (some w.heap.size)) ∧ w'.heap[w.heap.size]? = some (kndO rb) ∧ Below w.heap.size w w' := by
  have hM : ∀ w : World, (Instr.makeMap 113 none).run Tryz.prog w = .ok (.map (some w.heap.size)) (w.alloc (.map #[] 0)) := fun _ => by kernel_rfl
  obtain ⟨W1, r1, b1, g1⟩ := kupd (w := w.alloc (.map #[] 0)) (b := w.heap.size) (clock := 0) (es := #[]) (k := To.widthT) (v := mvJ 92 rb) (new_0 _ _) rfl
  obtain ⟨W2, r2, b2, g2⟩ := kupd (k := To.deviceT) (v := mvJ 93 rb) b1 (by rfl)
  obtain ⟨W3, r3, b3, g3⟩ := kupd (k := To.linkT) (v := mvJ 94 rb) b2 (by rfl)
  change (Instr.mapUpdate 113 (.map (some w.heap.size)) (.string ⟨#[119, 105, 100, 116, 104]⟩) (.func (.func 92) #[.pointer (some ⟨rb, 0, none⟩)] #[])).run Tryz.prog _ = _ at r1
  change (Instr.mapUpdate 113 (.map (some w.heap.size)) (.string ⟨#[100, 101, 118, 105, 99, 101]⟩) (.func (.func 93) #[.pointer (some ⟨rb, 0, none⟩)] #[])).run Tryz.prog _ = _ at r2
  change (Instr.mapUpdate 113 (.map (some w.heap.size)) (.string ⟨#[108, 105, 110, 107]⟩) (.func (.func 94) #[.pointer (some ⟨rb, 0, none⟩)] #[])).run Tryz.prog _ = _ at r3
  have HF := hid (show W3.heap[w.heap.size]? = some (kndO rb) ∧ Below w.heap.size w W3 from by
    refine ⟨b3, ((g3.os.trans g2.os).trans g1.os), ((g3.tape.trans g2.tape).trans g1.tape), ((g3.output.trans g2.output).trans g1.output), ?_, fun k hk => ?_⟩
    · have h1 := g1.size
      have h2 := g2.size
      have h3 := g3.size
      simp only [World.size_alloc] at h1
      omega
    · have h1 := g1.size
      have h2 := g2.size
      simp only [World.size_alloc] at h1
      have hne : some k ≠ some w.heap.size := fun e => by injection e with e; omega
      rw [g3.block k (by omega) hne, g2.block k (by omega) hne, g1.block k (by simp only [World.size_alloc]; omega) hne, Below.heap_alloc _ _ _ hk])
  clear b1 b2 b3 g1 g2 g3
  go_enter Tryz.func57, Tryz.ntmps57
  go_wp2
  go_ret
  exact ⟨rfl, HF.out⟩
/-- What the map of methods tells of a word. -/
def kndV (rb : Nat) (s : List UInt8) : Value := if s = To.widthT then mvJ 92 rb else if s = To.deviceT then mvJ 93 rb else if s = To.linkT then mvJ 94 rb else .nilFunc
theorem kndO_look {w : World} {b rb : Nat} (hm : w.heap[b]? = some (kndO rb)) (s : List UInt8) : (Instr.lookup 113 (.map (some b)) (.string (tx s)) false).run Tryz.prog w = .ok (kndV rb s) w := by
  have hz : (zeroValue 1).run Tryz.prog w = .ok .nilFunc w := by kernel_rfl
  have he : ∀ t : List UInt8, (tx s == tx t) = decide (s = t) := fun t => by
    show (s.toArray == t.toArray) = decide (s = t)
    by_cases h : s = t
    · subst h; simp
    · rw [decide_eq_false h, beq_eq_false_iff_ne]
      intro q
      exact h (by simpa using q)
  by_cases h1 : s = To.widthT
  · have hf : Instr.findNow .string (.string (tx s)) [⟨.string (tx To.widthT), mvJ 92 rb, 0⟩, ⟨.string (tx To.deviceT), mvJ 93 rb, 1⟩, ⟨.string (tx To.linkT), mvJ 94 rb, 2⟩] 0 = some (some (0, mvJ 92 rb)) := by
      simp only [Instr.findNow, Instr.sameNow, he, decide_eq_true h1]
    have hv : kndV rb s = mvJ 92 rb := by unfold kndV; rw [if_pos h1]
    rw [hv]
    unfold Instr.lookup
    simp [run_underlying Tryz.underlying113, MapKept.run_getObj_map hm, kchk, kfind _ _ _ _ hf, Result.andThen]
  · by_cases h2 : s = To.deviceT
    · have hf : Instr.findNow .string (.string (tx s)) [⟨.string (tx To.widthT), mvJ 92 rb, 0⟩, ⟨.string (tx To.deviceT), mvJ 93 rb, 1⟩, ⟨.string (tx To.linkT), mvJ 94 rb, 2⟩] 0 = some (some (1, mvJ 93 rb)) := by
        simp only [Instr.findNow, Instr.sameNow, he, decide_eq_false h1, decide_eq_true h2]
      have hv : kndV rb s = mvJ 93 rb := by unfold kndV; rw [if_neg h1, if_pos h2]
      rw [hv]
      unfold Instr.lookup
      simp [run_underlying Tryz.underlying113, MapKept.run_getObj_map hm, kchk, kfind _ _ _ _ hf, Result.andThen]
    · by_cases h3 : s = To.linkT
      · have hf : Instr.findNow .string (.string (tx s)) [⟨.string (tx To.widthT), mvJ 92 rb, 0⟩, ⟨.string (tx To.deviceT), mvJ 93 rb, 1⟩, ⟨.string (tx To.linkT), mvJ 94 rb, 2⟩] 0 = some (some (2, mvJ 94 rb)) := by
          simp only [Instr.findNow, Instr.sameNow, he, decide_eq_false h1, decide_eq_false h2, decide_eq_true h3]
        have hv : kndV rb s = mvJ 94 rb := by unfold kndV; rw [if_neg h1, if_neg h2, if_pos h3]
        rw [hv]
        unfold Instr.lookup
        simp [run_underlying Tryz.underlying113, MapKept.run_getObj_map hm, kchk, kfind _ _ _ _ hf, Result.andThen]
      · have hf : Instr.findNow .string (.string (tx s)) [⟨.string (tx To.widthT), mvJ 92 rb, 0⟩, ⟨.string (tx To.deviceT), mvJ 93 rb, 1⟩, ⟨.string (tx To.linkT), mvJ 94 rb, 2⟩] 0 = some none := by
          simp only [Instr.findNow, Instr.sameNow, he, decide_eq_false h1, decide_eq_false h2, decide_eq_false h3]
        have hv : kndV rb s = .nilFunc := by unfold kndV; rw [if_neg h1, if_neg h2, if_neg h3]
        rw [hv]
        unfold Instr.lookup
        simp [run_underlying Tryz.underlying113, MapKept.run_getObj_map hm, kchk, kfind _ _ _ _ hf, hz, Result.andThen]
end Go.Proofs.YtebaopiedlioiaaGreatDoor
namespace Go.Proofs.YtebaopiedlioiaaGreatDoor
open Go.RowKit
open Wo (Wd)

theorem ocaught_not (r l f : Addr) (w : World) :
    CallsD Tryz.prog 55 #[.pointer (some r), .pointer (some l), .pointer (some f)] .returning w fun x u' w' => x = .returned (.tuple #[]) ∧ u' = .returning ∧ w' = w := by
  refine callsD_of_wpS Tryz.func55 rfl fun c₀ cs hu => ?_
  apply wpS_seq
  apply wpS_region
  simp [wpOpsS, go_sem, recoverD, hu, Tryz.ntmps55, Exit.thenS]
  refine wpS_cond (t := false) (by simp [Act.eval, Array.replicate]) ?_
  simp only [Bool.false_eq_true, if_false]
  refine wpS_of_wp (wp_skip ?_)
  cases c₀
  simp_all [bodyPostS, results, Tryz.results55]

abbrev fobJ (a b c : Value) : Obj := .cells #[a, b, c] 60
abbrev tobJ (a b c : Value) : Obj := .cells #[a, b, c] 25

set_option maxRecDepth 4000 in
set_option maxHeartbeats 1000000 in
theorem ocaught (N rb : Nat) (ft : Ru.Ft) (x0 x1 x2 y0 y1 y2 : Value) (pv : Int) (w : World) (hr : JFt w rb ft) (h0 : w.heap[N]? = some (tobJ x0 x1 x2)) (h1 : w.heap[N + 1]? = some (fobJ y0 y1 y2)) (_hNr : N ≠ rb) (_hN1 : N + 1 ≠ rb) :
    CallsD Tryz.prog 55 #[.pointer (some ⟨rb, 0, none⟩), .pointer (some ⟨N, 0, none⟩), .pointer (some ⟨N + 1, 0, none⟩)] (.panicking (pan pv)) w fun e u' w' =>
      e = .returned (.tuple #[]) ∧ u' = .panicking [{ v := .iface 26 (.int .i64 pv), recovered := true }] ∧
      w'.heap[N]? = some (tobJ (.int .i64 0) (.slice none 0 0) (.slice none 0 0)) ∧ w'.heap[N + 1]? = some (fobJ (.int .i64 ft.1) (.int .i64 ft.2.1) (.int .i64 ft.2.2)) ∧ Below N w w' := by
  obtain ⟨c0, c1, c2, c3, c4, c5, c6, c7, c8, c9, c10, c11, hc⟩ := hr.ex
  have r5 := cell_at (o := 12) hc
  have r6 := cell_at (o := 13) hc
  have r7 := cell_at (o := 14) hc
  simp only [List.getElem?_toArray, List.getElem?_cons_succ, List.getElem?_cons_zero] at r5 r6 r7
  have a0 := cell_at (o := 0) h0
  have a4 := cell_at (o := 1) h0
  have a5 := cell_at (o := 2) h0
  have a1 := cell_at (o := 0) h1
  have a2 := cell_at (o := 1) h1
  have a3 := cell_at (o := 2) h1
  have f0 := free_of (o := 0) h0
  have f4 := free_of (o := 1) h0
  have f5 := free_of (o := 2) h0
  have f1 := free_of (o := 0) h1
  have f2 := free_of (o := 1) h1
  have f3 := free_of (o := 2) h1
  refine callsD_of_wpS Tryz.func55 rfl fun c₀ cs hu => ?_
  apply wpS_seq
  apply wpS_region
  simp [wpOpsS, go_sem, recoverD, hu, Tryz.ntmps55, Exit.thenS]
  refine wpS_cond (t := true) (by simp [Act.eval, Array.replicate]) ?_
  simp only [if_true]
  apply wpS_region
  simp [wpOpsS, go_sem, r5, r6, r7, a0, a1, a2, a3, a4, a5, f0, f1, f2, f3, f4, f5, bodyPostS, results, Tryz.results55]
  have hne : N ≠ N + 1 := by omega
  have hne' : N + 1 ≠ N := by omega
  have b0 := block_set (o := 2) (.slice none 0 0) (block_set (o := 1) (.slice none 0 0) (block_set (o := 0) (.int .i64 0) h0))
  have e1 : (((w.setCell ⟨N, 0, none⟩ (.int .i64 0)).setCell ⟨N, 1, none⟩ (.slice none 0 0)).setCell ⟨N, 2, none⟩ (.slice none 0 0)).heap[N + 1]? = some (fobJ y0 y1 y2) := by
    rw [Below.heap_setCell _ _ _ _ hne', Below.heap_setCell _ _ _ _ hne', Below.heap_setCell _ _ _ _ hne', h1]
  refine ⟨?_, ?_, ?_⟩
  · rw [Below.heap_setCell _ _ _ _ hne, Below.heap_setCell _ _ _ _ hne, Below.heap_setCell _ _ _ _ hne]
    exact b0
  · exact block_set (o := 2) (.int .i64 ft.2.2) (block_set (o := 1) (.int .i64 ft.2.1) (block_set (o := 0) (.int .i64 ft.1) e1))
  · have hs : N ≤ N + 1 := Nat.le_succ _
    repeat (refine Below.setCell ?_ (by dsimp only; omega) _)
    exact Below.refl _ _
end Go.Proofs.YtebaopiedlioiaaGreatDoor
namespace Go.Proofs.YtebaopiedlioiaaGreatDoor
open Go.RowKit
open Wo (Wd)

theorem endW_lastJ {l : List Wd} {x : Wd} (h : l[l.length - 1]? = some x) : Ru.endW l = ([], x.2.1, x.2.2 + x.1.length) := by
  unfold Ru.endW
  rw [List.getLast?_eq_getElem?, h]

set_option maxRecDepth 20000 in
set_option maxHeartbeats 1000000 in
theorem obegin_any {w : World} {rb g cap : Nat} {c0 c1 c2 c3 c4 d5 d6 d7 d8 d9 d10 d11 d12 d13 d14 : Value} {a : Wd} {t : List Wd} (hc : w.heap[rb]? = some (.cells #[c0, c1, c2, c3, c4, d5, d6, d7, d8, d9, d10, d11, d12, d13, d14] 111 (0, 0))) (hg : g < w.heap.size)
    (hL : ∀ (i : Nat) (y : Wd), (a :: t)[i]? = some y → w.cell? ⟨g, i * 3, none⟩ = some (.string (tx y.1)) ∧ w.cell? ⟨g, i * 3 + 1, none⟩ = some (.int .i64 y.2.1) ∧ w.cell? ⟨g, i * 3 + 2, none⟩ = some (.int .i64 y.2.2)) (hgr : g ≠ rb) (hcap : t.length + 1 ≤ cap) (hcm : cap ≤ 9223372036854775807) (hsm : ∀ x ∈ a :: t, x.1.length ≤ 1048576 ∧ x.2.2 ≤ 1048577) :
    Calls Tryz.prog 58 #[.pointer (some ⟨rb, 0, none⟩), .slice (some ⟨g, 0, none⟩) (t.length + 1) cap] w fun en w' => en = .returned (.tuple #[]) ∧ JOn w w' rb g c0 c1 c2 c3 c4 a t (Ru.endW (a :: t)) := by
  obtain ⟨x, hx⟩ : ∃ x, (a :: t)[t.length]? = some x := ⟨(a :: t)[t.length]'(by simp), List.getElem?_eq_getElem (by simp)⟩
  have he : Ru.endW (a :: t) = ([], x.2.1, x.2.2 + x.1.length) := endW_lastJ (by simpa using hx)
  rw [he]
  have hlt := lt_of_block hc
  obtain ⟨q1, q2, q3⟩ := hL _ x hx
  obtain ⟨p1, p2, p3⟩ := hL 0 a rfl
  simp only [Nat.zero_mul, Nat.zero_add] at p1 p2 p3
  have hxm := hsm x (List.mem_of_getElem? hx)
  have hxI : (x.2.2 : Int) + (x.1.length : Int) ≤ 2097153 := by omega
  have hx0 : (0 : Int) ≤ (x.2.2 : Int) + (x.1.length : Int) := by omega
  have kk : ∀ (o : Nat) (v : Value), (#[c0, c1, c2, c3, c4, d5, d6, d7, d8, d9, d10, d11, d12, d13, d14] : Array Value)[o]? = some v → w.cell? ⟨rb, o, none⟩ = some v := fun o v h => by rw [cell_at hc]; exact h
  have k5 := kk 5 d5 rfl
  have k6 := kk 6 d6 rfl
  have k7 := kk 7 d7 rfl
  have k8 := kk 8 d8 rfl
  have k9 := kk 9 d9 rfl
  have k10 := kk 10 d10 rfl
  have k11 := kk 11 d11 rfl
  have g5 := free_of (o := 5) hc
  have g6 := free_of (o := 6) hc
  have g7 := free_of (o := 7) hc
  have g8 := free_of (o := 8) hc
  have g9 := free_of (o := 9) hc
  have g10 := free_of (o := 10) hc
  have g11 := free_of (o := 11) hc
  have hm0 : (0 : Int) ≤ (t.length : Int) := by omega
  have hmI : (t.length : Int) < (t.length : Int) + 1 := by omega
  have hcI : (1 : Int) ≤ (cap : Int) := by omega
  have hlI : (1 : Int) ≤ (t.length : Int) + 1 := by omega
  have hgr' : ¬ rb = g := fun q => hgr q.symm
  have HR := hid (fun (o' cap' : Nat) (ho : (1 < cap ∧ o' = 3 ∧ cap' = cap - 1) ∨ (cap = 1 ∧ cap' = 0)) => (by
    obtain ⟨V, hV⟩ : ∃ V, V = (((((((w.setCell ⟨rb, 5, none⟩ (.string (tx a.1))).setCell ⟨rb, 6, none⟩ (.int .i64 a.2.1)).setCell ⟨rb, 7, none⟩ (.int .i64 a.2.2)).setCell ⟨rb, 8, none⟩ (.slice (some ⟨g, o', none⟩) t.length cap')).setCell ⟨rb, 9, none⟩ (.string (tx []))).setCell ⟨rb, 10, none⟩ (.int .i64 x.2.1)).setCell ⟨rb, 11, none⟩ (.int .i64 ((x.2.2 : Int) + (x.1.length : Int)))) := ⟨_, rfl⟩
    have eb : V.heap[g]? = w.heap[g]? := by
      rw [hV, Below.heap_setCell _ _ _ _ hgr, Below.heap_setCell _ _ _ _ hgr, Below.heap_setCell _ _ _ _ hgr, Below.heap_setCell _ _ _ _ hgr, Below.heap_setCell _ _ _ _ hgr, Below.heap_setCell _ _ _ _ hgr, Below.heap_setCell _ _ _ _ hgr]
    have hsz : V.heap.size = w.heap.size := by rw [hV]; simp only [World.size_setCell]
    have hrd : JRd V rb g c0 c1 c2 c3 c4 a t ([], x.2.1, x.2.2 + x.1.length) := by
      refine ⟨o', cap', d12, d13, d14, ?_, ?_, ?_, hgr, by omega, fun i y hy => ?_⟩
      · rw [hV, block_set (o := 11) _ (block_set (o := 10) _ (block_set (o := 9) _ (block_set (o := 8) _ (block_set (o := 7) _ (block_set (o := 6) _ (block_set (o := 5) _ hc))))))]
        simp
      · rcases ho with ⟨_, _, rfl⟩ | ⟨_, rfl⟩ <;> omega
      · rcases ho with ⟨_, _, rfl⟩ | ⟨_, rfl⟩ <;> omega
      · have hil := (List.getElem?_eq_some_iff.1 hy).1
        obtain ⟨r1, r2, r3⟩ := hL (i + 1) y (by simpa using hy)
        have ce : ∀ o, V.cell? ⟨g, o, none⟩ = w.cell? ⟨g, o, none⟩ := fun o => World.cell?_of_block eb
        rcases ho with ⟨_, rfl, _⟩ | ⟨_, _⟩
        · rw [ce, ce, ce, show 3 + i * 3 = (i + 1) * 3 by omega]
          exact ⟨r1, r2, r3⟩
        · omega
    have hgw : w.grownBy V (some rb) := by
      rw [hV]
      exact grown_two (grown_two (grown_two (grown_two (grown_two (grown_two (grown_set _ _ _ _) (grown_set _ _ _ _)) (grown_set _ _ _ _)) (grown_set _ _ _ _)) (grown_set _ _ _ _)) (grown_set _ _ _ _)) (grown_set _ _ _ _)
    rw [← hV]
    exact ((show JOn w V rb g c0 c1 c2 c3 c4 a t ([], x.2.1, x.2.2 + x.1.length) from ⟨hrd, hgw⟩).alloc (wob x)).drew : JOn w (((((((((w.setCell ⟨rb, 5, none⟩ (.string (tx a.1))).setCell ⟨rb, 6, none⟩ (.int .i64 a.2.1)).setCell ⟨rb, 7, none⟩ (.int .i64 a.2.2)).setCell ⟨rb, 8, none⟩ (.slice (some ⟨g, o', none⟩) t.length cap')).setCell ⟨rb, 9, none⟩ (.string (tx []))).setCell ⟨rb, 10, none⟩ (.int .i64 x.2.1)).setCell ⟨rb, 11, none⟩ (.int .i64 ((x.2.2 : Int) + (x.1.length : Int)))).alloc (wob x)).drew) rb g c0 c1 c2 c3 c4 a t ([], x.2.1, x.2.2 + x.1.length)))
  clear kk hsm hx he hxm hL hc
  by_cases h1 : cap = 1
  · subst h1
    have HF := hid (HR.out 0 0 (Or.inr ⟨rfl, rfl⟩))
    obtain ⟨n, hn⟩ : ∃ n, n = t.length := ⟨_, rfl⟩
    rw [← hn] at HF hcap hm0 hmI hlI q1 q2 q3 ⊢
    clear HR hn
    go_enter Tryz.func58, Tryz.ntmps58
    go_wp2_with fail
    go_region
    all_goals go_wp2
    refine bodyPost_end (v := .tuple #[]) (by simp [results, Tryz.results58, go_sem]) rfl ⟨rfl, ?_⟩
    have HG := HF.out
    rw [show n = 0 by omega, show tx [] = ⟨#[]⟩ from rfl, wob] at HG
    exact HG
  · have hcJ : (1 : Int) < (cap : Int) := by omega
    have HF := hid (HR.out 3 (cap - 1) (Or.inl ⟨by omega, rfl, rfl⟩))
    obtain ⟨n, hn⟩ : ∃ n, n = t.length := ⟨_, rfl⟩
    rw [← hn] at HF hcap hm0 hmI hlI q1 q2 q3 ⊢
    clear HR hn
    go_enter Tryz.func58, Tryz.ntmps58
    go_wp2_with fail
    go_region
    all_goals go_wp2
    refine bodyPost_end (v := .tuple #[]) (by simp [results, Tryz.results58, go_sem]) rfl ⟨rfl, ?_⟩
    have HG := HF.out
    rw [show tx [] = ⟨#[]⟩ from rfl, wob] at HG
    exact HG
end Go.Proofs.YtebaopiedlioiaaGreatDoor
namespace Go.Proofs.YtebaopiedlioiaaGreatDoor
open Go.RowKit Go
open Wo (Wd)

theorem JRd.set0 {w : World} {rb g : Nat} {c0 c1 c2 c3 c4 : Value} {x : Wd} {l : List Wd} {e : Wd} (h : JRd w rb g c0 c1 c2 c3 c4 x l e) (v : Value) : JRd (w.setCell ⟨rb, 0, none⟩ v) rb g v c1 c2 c3 c4 x l e := by
  obtain ⟨o, cap, f0, f1, f2, hc, h1, h2, h3, h4, h5⟩ := h.ex
  have eb : (w.setCell ⟨rb, 0, none⟩ v).heap[g]? = w.heap[g]? := Below.heap_setCell _ _ _ _ h3
  refine ⟨o, cap, f0, f1, f2, by rw [block_set (o := 0) _ hc]; rfl, h1, h2, h3, by simpa using h4, fun i y hy => ?_⟩
  obtain ⟨q1, q2, q3⟩ := h5 i y hy
  exact ⟨by rw [World.cell?_of_block eb]; exact q1, by rw [World.cell?_of_block eb]; exact q2, by rw [World.cell?_of_block eb]; exact q3⟩
theorem oNumber (l : List UInt8) (w : World) (hl : l.length ≤ 1048576) : Calls Tryz.prog 130 #[.string (tx l)] w fun en w' => en = .returned (.tuple #[.int .i64 (Wo.numV l), .int .i64 (Wo.numE l)]) ∧ w' = w := by
  have := Number_any (tx l) w (by rw [tx_size]; unfold maxLen; omega)
  rw [show (tx l).data.toList = l from rfl] at this
  exact this
/-- What width leaves. -/
def WidQ (w : World) (rb g : Nat) (c1 c2 c3 c4 : Value) (x : Wd) (e : Wd) (r : Except Ru.Ft Nat) (en : Ending) (w' : World) : Prop :=
  (∃ n, r = .ok n ∧ en = .returned (.tuple #[]) ∧ JOn w w' rb g (.int .i64 n) c1 c2 c3 c4 x [] e) ∨ (∃ f, r = .error f ∧ JGave w rb f en w')

set_option maxRecDepth 20000 in
set_option maxHeartbeats 1000000 in
theorem owidth_any {w : World} {rb g : Nat} {c0 c1 c2 c3 c4 : Value} {x : Wd} {l : List Wd} {e : Wd} (h : JRd w rb g c0 c1 c2 c3 c4 x l e) (hx : (Ru.nx e l).1.length ≤ 1048576) :
    Calls Tryz.prog 92 #[.pointer (some ⟨rb, 0, none⟩)] w fun en w' => WidQ w rb g c1 c2 c3 c4 x e (To.wid e l) en w' := by
  have HN := hid (onext_on (JOn.start h))
  obtain ⟨y, hy⟩ : ∃ y, y = Ru.nx e l := ⟨_, rfl⟩
  have HW : Hid (To.wid e l = if Wo.numE y.1 ≠ 0 then .error (Ru.ft y (Wo.numE y.1)) else if ¬ (1 ≤ Wo.numV y.1 ∧ Wo.numV y.1 ≤ 128) then .error (Ru.ft y 5) else if l.tail ≠ [] then .error (Ru.ft (Ru.nx e l.tail) 110) else .ok (Wo.numV y.1)) := by rw [hy]; rfl
  rw [← hy] at HN hx
  have HU := hid (fun W => oNumber y.1 W hx)
  obtain ⟨n, hn⟩ : ∃ n, n = Wo.numV y.1 := ⟨_, rfl⟩
  obtain ⟨d, hd⟩ : ∃ d, d = Wo.numE y.1 := ⟨_, rfl⟩
  rw [← hn, ← hd] at HU HW
  have HF := hid (fun (W : World) (hj : JOn w W rb g c0 c1 c2 c3 c4 x l.tail e) => ofinish_on hj)
  have hrl := h.lt
  clear h hy hn hd hx
  go_enter Tryz.func92, Tryz.ntmps92
  go_wp2_with fail
  refine HN.out.mono ?_
  rintro en w1 ⟨rfl, H1⟩
  go_wp2_with fail
  refine (HU.out _).mono ?_
  rintro en w2 ⟨rfl, rfl⟩
  by_cases h0 : d = 0
  · subst h0
    go_wp2_with fail
    refine (omust_yes _ _ _ _).mono ?_
    rintro en w3 ⟨rfl, rfl⟩
    have HI := hid (fun W => oisWidth (n : Int) W)
    obtain ⟨b, hb⟩ : ∃ b, b = decide (1 ≤ (n : Int) ∧ (n : Int) ≤ 128) := ⟨_, rfl⟩
    rw [← hb] at HI
    have HBT := hid (show (b = true → (1 ≤ n ∧ n ≤ 128)) ∧ (b = false → ¬ (1 ≤ n ∧ n ≤ 128)) by
      rw [hb]
      refine ⟨fun q => ?_, fun q => ?_⟩
      · have := of_decide_eq_true q; omega
      · have := of_decide_eq_false q; omega)
    clear hb
    go_wp2_with fail
    go_region_held2 (fun w' => w'.cell? ⟨w1.heap.size, 0, none⟩ = some (.string (tx y.1)) ∧ w'.cell? ⟨w1.heap.size, 1, none⟩ = some (.int .i64 y.2.1) ∧ w'.cell? ⟨w1.heap.size, 2, none⟩ = some (.int .i64 y.2.2)) (go_keep) (first | (go_at_call 56; refine (omust_on ((H1.out.alloc _).alloc _).drew b y 5).mono ?_; rintro en w2 (⟨HB, rfl, rfl⟩ | ⟨HB, q, rfl, hf, hg⟩); rotate_left; (exact ⟨rfl, Or.inr ⟨_, by rw [HW.out, if_neg (by simp), if_pos (HBT.out.2 HB.out)], q, rfl, hf, hg⟩⟩)) | (go_at_call 74; refine (HI.out _).mono ?_; rintro en w2 ⟨rfl, rfl⟩))
    have H2 := hid ((((H1.out.alloc (wob y)).alloc (wob y)).drew).alloc (wob y))
    go_wp2_with fail
    refine (HF.out _ H2.out).mono ?_
    rintro en w4 (⟨HL, rfl, H4⟩ | ⟨HL, q, rfl, hf, hg⟩)
    · obtain ⟨o, cap, ⟨k0, -⟩, -, -, -, kf, -⟩ := H4.out.rd.cells
      have kf0 := kf 0
      have H5 := hid (show JOn w (w4.setCell ⟨rb, 0, none⟩ (.int .i64 n)) rb g (.int .i64 n) c1 c2 c3 c4 x [] e from ⟨by have := H4.out.rd.set0 (.int .i64 (n : Int)); rw [HL.out] at this; exact this, grown_two H4.out.on (grown_set _ _ _ _)⟩)
      clear kf
      go_wp2
      exact bodyPost_end (v := .tuple #[]) (by simp [results, Tryz.results92, go_sem]) rfl (Or.inl ⟨n, by rw [HW.out, if_neg (by simp), if_neg (fun q => q (HBT.out.1 HB.out)), if_neg (fun q => q HL.out)], rfl, H5.out⟩)
    · exact ⟨rfl, Or.inr ⟨_, by rw [HW.out, if_neg (by simp), if_neg (fun q => q (HBT.out.1 HB.out)), if_pos HL.out], q, rfl, hf, hg⟩⟩
  · have h0I : ((d : Int) == 0) = false := by rw [beq_eq_false_iff_ne]; omega
    have HER := hid (show To.wid e l = .error (Ru.ft y d) by rw [HW.out, if_pos h0])
    go_wp2_with fail
    refine (omust_no (H1.out.alloc _).rd y d).mono ?_
    rintro en w3 ⟨q, rfl, hf, hg⟩
    exact ⟨rfl, Or.inr ⟨_, HER.out, q, rfl, hf, grown_two (H1.out.alloc _).on hg⟩⟩
end Go.Proofs.YtebaopiedlioiaaGreatDoor
