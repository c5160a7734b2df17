/-
  The law FibMeets: of any width, any changes and any texts it answers true.
  The program's Dead.
-/
import Derived.Test.YtipmlcdnfaobiaaGreatVRMeetAnd
namespace Go.Proofs.YtipmlcdnfaobiaaGreat
open Go.RowKit

/-- Where the program's walk through the rules stands: copies of the dead so far, and what stands ahead. -/
structure DpAt (w : World) (vo : Value) (qs : List (Raw × Value)) (va : Value) (A : List (List UInt8)) (wr : World) : Prop where
  low : Below w.heap.size w wr
  own : OwnR wr w.heap.size vo qs
  row : wr.ownsRow w.heap.size 9 1 va A.length (Cub.svs A)
  prt : ∀ q ∈ qs, Ported wr w.heap.size q.2 q.1.ports ∧ (q.1.ports ≠ [] → ∀ b, va.ownBlock = some b → q.2.ownBlock ≠ some b)
theorem DpAt.on {w wo w' : World} {qs : List (Raw × Value)} {vo va : Value} {A : List (List UInt8)} (h : DpAt w vo qs va A wo) (hb : Below wo.heap.size wo w') : DpAt w vo qs va A w' :=
  ⟨below_2 h.low hb, h.own.on hb, own_keep1 h.row hb, fun q hq => ⟨(h.prt q hq).1.on hb, (h.prt q hq).2⟩⟩
theorem ported_lt {w : World} {B : Nat} {v : Value} {zs : List (List UInt8)} (h : Ported w B v zs) : zs = [] ∨ ∃ b ao n c, v = .slice ao n c ∧ v.ownBlock = some b ∧ B ≤ b ∧ b < w.heap.size := by
  obtain ⟨ao, cap, e1, e2, q | ⟨b, e3, e4, cs, e5, e6⟩⟩ := h
  · exact Or.inl q
  · exact Or.inr ⟨b, ao, _, cap, e1, by rw [e1, e3]; rfl, e4, lt_of_block e5⟩
theorem ported_kept {w w' : World} {B : Nat} {v : Value} {zs : List (List UInt8)} {row : Option Nat} (h : Ported w B v zs) (hg : w.grownBy w' row) (hne : zs ≠ [] → ∀ b, row = some b → v.ownBlock ≠ some b) : Ported w' B v zs := by
  by_cases h0 : zs = []
  · obtain ⟨ao, cap, e1, e2, _⟩ := h
    exact ⟨ao, cap, e1, e2, Or.inl h0⟩
  · obtain ⟨ao, cap, e1, e2, q | ⟨b, e3, e4, cs, e5, e6⟩⟩ := h
    · exact absurd q h0
    · refine ⟨ao, cap, e1, e2, Or.inr ⟨b, e3, e4, cs, ?_, e6⟩⟩
      rw [hg.block b (lt_of_block e5) (fun e => hne h0 b e.symm (by rw [e1, e3]; rfl))]
      exact e5
theorem DpAt.addR {w wo W w7 : World} {qs : List (Raw × Value)} {va v7 : Value} {A : List (List UInt8)} {n bc : Nat} {bo : Option Addr} {q : Raw × Value} (h : DpAt w (.slice bo n bc) qs va A wo) (hW : Below wo.heap.size wo W) (hp : Ported W wo.heap.size q.2 q.1.ports)
    (hown : w7.ownsRow w.heap.size 44 4 v7 (n + 1) (flatV qs ++ [.int .i64 q.1.prio, .string (tx q.1.mat), .int .i64 q.1.kind, q.2])) (hg : W.grownBy w7 (Value.slice bo n bc).ownBlock) (hn : qs.length = n) (hsl : ∀ b, va.ownBlock = some b → b < wo.heap.size) : DpAt w v7 (qs ++ [q]) va A w7 := by
  have hW' := h.on hW
  have ho := hW'.own.own
  rw [hn] at ho
  refine ⟨hW'.low.grown hg hW'.low.size (fun b hb => (own_block1 ho b hb).1), ⟨?_, fun x hx => ?_⟩, own_other hW'.row ho hg (by decide), fun x hx => ?_⟩
  · rw [flatV_append, List.length_append, hn]; exact hown
  · rcases List.mem_append.1 hx with hx | hx
    · exact h.own.vals x hx
    · rw [List.mem_singleton.1 hx]
      obtain ⟨ao, c, e, _⟩ := hp
      exact ⟨ao, _, c, e⟩
  · rcases List.mem_append.1 hx with hx | hx
    · exact ⟨(hW'.prt x hx).1.grew hg (fun b hb => (own_block1 ho b hb).2), (hW'.prt x hx).2⟩
    · rw [List.mem_singleton.1 hx]
      refine ⟨(hp.mono h.low.size).grew hg (fun b hb => (own_block1 ho b hb).2), fun h0 b hb e => ?_⟩
      have h1 := hsl b hb
      rcases ported_lt hp with q0 | ⟨b', _, _, _, _, e2, e3, _⟩
      · exact absurd q0 h0
      · rw [e2] at e; injection e with e; omega
theorem DpAt.addS {w wo W w7 : World} {qs : List (Raw × Value)} {vo v7 : Value} {A : List (List UInt8)} {n bc : Nat} {bo : Option Addr} {m : List UInt8} (h : DpAt w vo qs (.slice bo n bc) A wo) (hW : Below wo.heap.size wo W)
    (hown : w7.ownsRow w.heap.size 9 1 v7 (n + 1) (Cub.svs A ++ Cub.svs [m])) (hg : W.grownBy w7 (Value.slice bo n bc).ownBlock) (hn : A.length = n) (hb7 : v7.ownBlock = (Value.slice bo n bc).ownBlock ∨ v7.ownBlock = some W.heap.size) : DpAt w vo qs v7 (A ++ [m]) w7 := by
  have hW' := h.on hW
  have ho := hW'.row
  rw [hn] at ho
  refine ⟨hW'.low.grown hg hW'.low.size (fun b hb => (own_block1 ho b hb).1), ⟨own_other hW'.own.own ho hg (by decide), h.own.vals⟩, ?_, fun q hq => ⟨ported_kept (hW'.prt q hq).1 hg (hW'.prt q hq).2, fun h0 b hb e => ?_⟩⟩
  · rw [Cub.svs_append, List.length_append, hn]
    exact hown
  · rcases hb7 with q7 | q7
    · rw [q7] at hb; exact (h.prt q hq).2 h0 b hb e
    · rw [q7] at hb
      injection hb with hb
      rcases ported_lt (hW'.prt q hq).1 with q0 | ⟨b', _, _, _, _, e2, _, e3⟩
      · exact absurd q0 h0
      · rw [e2] at e; injection e with e; omega

theorem DpAt.str {w X : World} {qs : List (Raw × Value)} {vo : Value} {A : List (List UInt8)} {i hc : Nat} {ho : Option Addr} {m : List UInt8} (h : DpAt w vo qs (.slice ho i hc) A X) (hl : A.length = i) :
    (X.alloc (.cells #[.string (tx m)] 9)).ownsRow w.heap.size 9 1 (.slice ho i hc) i (Cub.svs A) ∧
    (∀ (t : Nat) u, ([.string (tx m)] : List Value)[t]? = some u → (X.alloc (.cells #[.string (tx m)] 9)).cell? ((⟨X.heap.size, 0, none⟩ : Addr).add t) = some u) ∧
    w.heap.size ≤ (X.alloc (.cells #[.string (tx m)] 9)).heap.size ∧
    ∀ (v8 : Value) (w8 : World), w8.ownsRow w.heap.size 9 1 v8 (i + 1) (Cub.svs A ++ [.string (tx m)]) → (X.alloc (.cells #[.string (tx m)] 9)).grownBy w8 (Value.slice ho i hc).ownBlock → (v8.ownBlock = (Value.slice ho i hc).ownBlock ∨ v8.ownBlock = some (X.alloc (.cells #[.string (tx m)] 9)).heap.size) → ∃ a8 c8, v8 = .slice a8 (i + 1) c8 ∧ DpAt w vo qs (.slice a8 (i + 1) c8) (A ++ [m]) w8 := by
  have hB : Below X.heap.size X (X.alloc (.cells #[.string (tx m)] 9)) := (Below.refl _ _).alloc (Nat.le_refl _) _
  have hn := new_0 X (.cells #[.string (tx m)] 9)
  refine ⟨?_, fun t u hu => ?_, Nat.le_trans h.low.size hB.size, fun v8 w8 ho8 hg8 hb8 => ?_⟩
  · have := (h.on hB).row
    rw [hl] at this
    exact this
  · rw [addr_add5, Nat.zero_add, cell_at hn, ← Array.getElem?_toList]
    exact hu
  · obtain ⟨a8, c8, e⟩ := own_form ho8
    subst e
    exact ⟨a8, c8, rfl, h.addS hB ho8 hg8 hl hb8⟩
theorem DpAt.rul {w Y X : World} {qs : List (Raw × Value)} {va : Value} {A : List (List UInt8)} {bn bc : Nat} {bo : Option Addr} {p k : Int} {m : List UInt8} {zs : List (List UInt8)} {zo : Option Addr} {zn zc : Nat} (h : DpAt w (.slice bo bn bc) qs va A Y) (hY : Below Y.heap.size Y X) (hl : qs.length = bn) (hp : Ported X Y.heap.size (.slice zo zn zc) zs) :
    (X.alloc (rob p (tx m) k (.slice zo zn zc))).ownsRow w.heap.size 44 4 (.slice bo bn bc) bn (flatV qs) ∧
    (∀ (t : Nat) u, ([.int .i64 p, .string (tx m), .int .i64 k, .slice zo zn zc] : List Value)[t]? = some u → (X.alloc (rob p (tx m) k (.slice zo zn zc))).cell? ((⟨X.heap.size, 0, none⟩ : Addr).add t) = some u) ∧
    w.heap.size ≤ (X.alloc (rob p (tx m) k (.slice zo zn zc))).heap.size ∧
    ∀ (v8 : Value) (w8 : World), w8.ownsRow w.heap.size 44 4 v8 (bn + 1) (flatV qs ++ [.int .i64 p, .string (tx m), .int .i64 k, .slice zo zn zc]) → (X.alloc (rob p (tx m) k (.slice zo zn zc))).grownBy w8 (Value.slice bo bn bc).ownBlock → ∃ a8 c8, v8 = .slice a8 (bn + 1) c8 ∧ DpAt w (.slice a8 (bn + 1) c8) (qs ++ [((⟨p, m, k, zs⟩ : Raw), Value.slice zo zn zc)]) va A w8 := by
  have hB : Below X.heap.size X (X.alloc (rob p (tx m) k (.slice zo zn zc))) := (Below.refl _ _).alloc (Nat.le_refl _) _
  have hBY : Below Y.heap.size Y (X.alloc (rob p (tx m) k (.slice zo zn zc))) := below_2 hY hB
  have hn := new_0 X (rob p (tx m) k (.slice zo zn zc))
  refine ⟨?_, fun t u hu => ?_, Nat.le_trans h.low.size hBY.size, fun v8 w8 ho8 hg8 => ?_⟩
  · have := (h.on hBY).own.own
    rw [hl] at this
    exact this
  · rw [addr_add5, Nat.zero_add, cell_at hn, ← Array.getElem?_toList]
    exact hu
  · obtain ⟨a8, c8, e⟩ := own_form ho8
    subst e
    refine ⟨a8, c8, rfl, h.addR hBY (q := ((⟨p, m, k, zs⟩ : Raw), Value.slice zo zn zc)) (hp.on hB) ho8 hg8 hl (fun b hb => ?_)⟩
    obtain ⟨ho, hc, e⟩ := own_form h.row
    have hr := h.row
    rw [e] at hr hb
    obtain ⟨_, cs, q⟩ := own_block1 hr b hb
    exact lt_of_block q
/-- What the program's Dead tells. -/
def PDeadPost (w : World) (ps : List (Raw × Value)) (e : Ending) (w' : World) : Prop :=
  Below w.heap.size w w' ∧
  (((∃ i r, (ps.map Prod.fst)[i]? = some r ∧ Cub.manyB r.mat (mats ((ps.map Prod.fst).take i)) = true) ∧ e = .returned (.tuple #[.slice none 0 0, .int .i64 3])) ∨
   ((∀ (i : Nat) (r : Raw), (ps.map Prod.fst)[i]? = some r → Cub.manyB r.mat (mats ((ps.map Prod.fst).take i)) = false) ∧ ∃ ao n c qs, e = .returned (.tuple #[.slice ao n c, .int .i64 0]) ∧ OwnR w' w.heap.size (.slice ao n c) qs ∧ qs.length = n ∧ (∀ q ∈ qs, Ported w' w.heap.size q.2 q.1.ports) ∧ qs.map Prod.fst = (stD (ps.map Prod.fst)).2))

set_option maxRecDepth 20000 in
set_option maxHeartbeats 4000000 in
theorem Dead_any {w : World} {Bp tb n c : Nat} {ao : Option Addr} {W : Int} {ps : List (Raw × Value)} (h : TabAt w Bp tb W (.slice ao n c) ps) (hn : ps.length = n) :
    Calls Tryz.prog 23 #[.pointer (some ⟨tb, 0, none⟩)] w fun e w' => PDeadPost w ps e w' := by
  have HT := hid h
  have HN := hid hn
  have HMD := hid (made_yes h.blk)
  have h4 : n ≤ 4096 := by have := h.good.few; rw [List.length_map, hn] at this; exact this
  have t1 : w.cell? ⟨tb, 1, none⟩ = some (.slice ao n c) := by rw [cell_at h.blk]; rfl
  have HG := hid h.good
  have HA0 := hid (show DpAt w (.slice none 0 0) [] (.slice none 0 0) [] w from ⟨Below.refl _ _, ⟨World.ownsRow_nil _ _ _ _, fun q hq => by cases hq⟩, World.ownsRow_nil _ _ _ _, fun q hq => by cases hq⟩)
  obtain ⟨i0, hi, hz0, hz1, hz2⟩ := info_parts Tryz.infoRule4
  have HI := hid hi
  have HZ0 := hid hz0
  have HZ1 := hid hz1
  have HZ2 := hid hz2
  obtain ⟨j0, hj, hy0, hy1, hy2⟩ := info_parts Tryz.infoString
  have HJ := hid hj
  have HY0 := hid hy0
  have HY1 := hid hy1
  have HY2 := hid hy2
  clear h hn hi hz0 hz1 hz2 hj hy0 hy1 hy2
  go_enter Tryz.func23, Tryz.ntmps23
  go_wp2_with fail
  refine HMD.out.mono ?_
  rintro en w1 ⟨rfl, hw1⟩
  have hw1' := hw1.symm
  clear hw1
  subst hw1'
  go_wp2_with fail
  clear t1
  go_loopw [4, 5, 19] (fun vo va vi wr => ∃ (i : Nat) (bo : Option Addr) (bn bc : Nat) (qs : List (Raw × Value)) (ho : Option Addr) (al hc : Nat) (A : List (List UInt8)), i ≤ n ∧ vi = .int .i64 i ∧ vo = .slice bo bn bc ∧ va = .slice ho al hc ∧ bn ≤ i ∧ al ≤ i ∧ Hid (DpAt w (.slice bo bn bc) qs (.slice ho al hc) A wr) ∧ Hid (qs.length = bn) ∧ Hid (A.length = al) ∧ Hid (A = (stD ((ps.map Prod.fst).take i)).1) ∧ Hid (qs.map Prod.fst = (stD ((ps.map Prod.fst).take i)).2) ∧ Hid (∀ (t : Nat) (r : Raw), t < i → (ps.map Prod.fst)[t]? = some r → Cub.manyB r.mat (mats ((ps.map Prod.fst).take t)) = false)) (fun _ _ vi _ => n - (intOf vi).toNat)
  case atStart => exact ⟨0, none, 0, 0, [], none, 0, 0, [], Nat.zero_le _, rfl, rfl, rfl, Nat.le_refl _, Nat.le_refl _, HA0, rfl, rfl, rfl, rfl, fun t r ht => by omega⟩
  case round =>
    clear HA0
    obtain ⟨i, bo, bn, bc, qs, ho, al, hc, A, hi, rfl, rfl, rfl, hbn, hal, HA, HL, HAL, HE, HS, HM⟩ := hrel
    rename World => wo
    by_cases hlt : i < n
    · obtain ⟨q, hq⟩ : ∃ q, ps[i]? = some q := ⟨ps[i]'(by rw [HN.out]; exact hlt), List.getElem?_eq_getElem _⟩
      have hI : (i : Int) < (n : Int) := by omega
      have hI0 : (0 : Int) ≤ (i : Int) := by omega
      have hqm := List.mem_of_getElem? hq
      have HLQ := hid (show (ps.map Prod.fst)[i]? = some q.1 by rw [List.getElem?_map, hq]; rfl)
      obtain ⟨g, rfl⟩ : ∃ g, ao = some ⟨g, 0, none⟩ := by
        obtain ⟨lo, lc, e, _, hf⟩ := HT.out.list.form
        injection e with e1 _ _
        subst e1
        rcases hf with ⟨_, h0⟩ | ⟨g, h1, _⟩
        · rw [h0] at hq; simp at hq
        · exact ⟨g, h1⟩
      obtain ⟨e0, e1, e2, e3⟩ := (HT.out.list.on HA.out.low).cells hq
      have HMW := hid (HG.out.wid q.1.mat (List.mem_map_of_mem (List.mem_map_of_mem hqm)))
      have HDS := hid (dead_same HG.out.wid i (by rw [List.length_map, HN.out]; omega))
      rw [← HE.out] at HDS
      have HSM := hid (errR_small (HG.out.ok q.1 (List.mem_map_of_mem hqm)))
      have HPT := hid (HT.out.ports q hqm)
      obtain ⟨zo, zn, zc, hz⟩ := HT.out.list.vals q hqm
      obtain ⟨⟨p, m, k, zs⟩, uv⟩ := q
      simp only at HLQ HMW hz HSM HPT e0 e1 e2 e3
      subst hz
      obtain ⟨many, hmany⟩ : ∃ many, Cub.manyB m A = many := ⟨_, rfl⟩
      have HLF := hid (show ∀ X, Below wo.heap.size wo X → Calls Tryz.prog 42 #[.string (tx m), .slice ho al hc] X fun e w' => ∃ ao' nl cl, e = .returned (.tuple #[.slice ao' nl cl, .int .i64 (if many = true then 3 else 0)]) ∧ (many = false → nl = (Cub.leftTo m A A.length).length) ∧ Below X.heap.size X w' from fun X hX => by
        have hrow := (HA.out.on hX).row
        refine (Cub.Left_ok (tx m) (.slice ho al hc) A X (Cub.src_own hrow) (by rw [HAL.out]; omega) (HDS.out.1.err HMW.out) (if many = true then 3 else 0) many (by simpa using hmany) rfl).mono ?_
        rintro e w' ⟨v', rfl, h1, h2, hb⟩
        cases many with
        | true => exact ⟨none, 0, 0, by rw [h1 rfl], (fun h => by cases h), hb⟩
        | false =>
          obtain ⟨ao', cl, e1, _⟩ := (h2 rfl).row
          exact ⟨ao', _, cl, by rw [e1], (fun _ => by simp), hb⟩)
      have HMY := hid (show Cub.manyB m (mats ((ps.map Prod.fst).take i)) = many by rw [← (HDS.out.2 m HMW.out).2]; exact hmany)
      have HBX := hid (show Below wo.heap.size wo (wo.alloc (rob p (tx m) k (.slice zo zn zc))) from (Below.refl _ _).alloc (Nat.le_refl _) _)
      have HNX := hid (new_0 wo (rob p (tx m) k (.slice zo zn zc)))
      clear hq hqm hmany
      go_wp2_with fail
      refine (HLF.out _ HBX.out).mono ?_
      rintro en w1 ⟨ao', nl, cl, rfl, hnl, hb1⟩
      have HBW := hid (below_2 HBX.out hb1)
      have HA1 := hid (HA.out.on HBW.out)
      have HR1 := hid (below_block hb1 HNX.out (lt_of_block HNX.out))
      have HNL := hid hnl
      have f0 : w1.cell? ⟨wo.heap.size, 0, none⟩ = some (.int .i64 p) := by rw [cell_at HR1.out]; rfl
      have f1 : w1.cell? ⟨wo.heap.size, 1, none⟩ = some (.string (tx m)) := by rw [cell_at HR1.out]; rfl
      have f2 : w1.cell? ⟨wo.heap.size, 2, none⟩ = some (.int .i64 k) := by rw [cell_at HR1.out]; rfl
      have f3 : w1.cell? ⟨wo.heap.size, 3, none⟩ = some (.slice zo zn zc) := by rw [cell_at HR1.out]; rfl
      clear hb1 hnl e0 e1 e2 e3 HLF
      cases many with
      | true =>
        have HFIN := hid (show PDeadPost w ps (.returned (.tuple #[.slice none 0 0, .int .i64 3])) w1 from ⟨HA1.out.low, Or.inl ⟨⟨i, _, HLQ.out, HMY.out⟩, rfl⟩⟩)
        go_wp2
        refine bodyPost_ret (v := .tuple #[.slice none 0 0, .int .i64 3]) (by simp [results, Tryz.results23, go_sem]) rfl HFIN.out
      | false =>
        have HM2 := hid (show ∀ (t : Nat) (r : Raw), t < i + 1 → (ps.map Prod.fst)[t]? = some r → Cub.manyB r.mat (mats ((ps.map Prod.fst).take t)) = false from fun t r ht hr => by
          by_cases e : t = i
          · subst e
            rw [HLQ.out] at hr
            injection hr with hr
            rw [← hr]
            exact HMY.out
          · exact HM.out t r (by omega) hr)
        have HST := hid (show stD ((ps.map Prod.fst).take (i + 1)) = if Cub.leftTo m A A.length = [] then (A, (stD ((ps.map Prod.fst).take i)).2 ++ [(⟨p, m, k, zs⟩ : Raw)]) else (A ++ [m], (stD ((ps.map Prod.fst).take i)).2) by
          rw [List.take_add_one, HLQ.out]
          show stD ((ps.map Prod.fst).take i ++ [(⟨p, m, k, zs⟩ : Raw)]) = _
          rw [stD_snoc]
          unfold stepD
          rw [← HE.out])
        by_cases h0 : Cub.leftTo m A A.length = []
        · have hz : nl = 0 := by rw [HNL.out rfl, h0]; rfl
          subst hz
          have HE2 := hid (show A = (stD ((ps.map Prod.fst).take (i + 1))).1 by rw [HST.out, if_pos h0])
          have HS2 := hid (show (qs.map Prod.fst) ++ [(⟨p, m, k, zs⟩ : Raw)] = (stD ((ps.map Prod.fst).take (i + 1))).2 by rw [HST.out, if_pos h0, HS.out])
          have HCP := hid (fcopyOf_any (w := w1) (p := p) (k := k) (m := m) ((HPT.out.on HA1.out.low).txs) (fun z hz => by have := HSM.out.1.2.2 z hz; unfold maxLen; omega) HSM.out.1)
          clear HNL h0
          go_wp2_with fail
          refine HCP.out.mono ?_
          rintro en w2 ⟨v2, rfl, hp2, hb2⟩
          obtain ⟨yo, yc, hy, -⟩ := hp2.out
          obtain ⟨yn, hyn⟩ : ∃ yn, yn = zs.length := ⟨_, rfl⟩
          rw [← hyn] at hy
          subst hy
          have HR := hid (HA1.out.rul (p := p) (k := k) (m := m) hb2 HL.out hp2.out)
          have HO4 := hid (show ∀ u ∈ ([.int .i64 p, .string (tx m), .int .i64 k, .slice yo yn yc] : List Value), u.oneCell' = true from fun u hu => by
            simp only [List.mem_cons, List.not_mem_nil, or_false] at hu
            rcases hu with rfl | rfl | rfl | rfl <;> rfl)
          clear hp2 hb2 hyn f0 f1 f2 f3 HCP
          go_wp2_with (at_builtin; refine wpList_append_own_at _ rfl _ _ 29 rfl w.heap.size 44 i0 _ 4 56 Tryz.underlying29 HI.out HZ0.out HZ1.out HZ2.out rfl (by decide) (.slice bo bn bc) bn (flatV qs) rfl HR.out.1 _ 1 1 [.int .i64 p, .string (tx m), .int .i64 k, .slice yo yn yc] rfl rfl HR.out.2.1 HO4.out (by unfold maxLen; omega) (by omega) HR.out.2.2.1 ?_; intro v7 w7 hown7 hg7 _ _; obtain ⟨a7, c7, hv7, hA7⟩ := HR.out.2.2.2 v7 w7 hown7 hg7; subst hv7; have HA7 := hid hA7; clear hown7 hg7 hA7)
          go_roundw
          case rel => exact ⟨i + 1, a7, bn + 1, c7, _, ho, al, hc, A, by omega, by go_num, rfl, rfl, by omega, by omega, HA7, by show _ = _; rw [List.length_append, HL.out]; rfl, HAL, HE2, by show _ = _; rw [List.map_append]; exact HS2.out, HM2⟩
          case measure => simp [intOf]; omega
        · have HE2 := hid (show A ++ [m] = (stD ((ps.map Prod.fst).take (i + 1))).1 by rw [HST.out, if_neg h0])
          have HS2 := hid (show qs.map Prod.fst = (stD ((ps.map Prod.fst).take (i + 1))).2 by rw [HST.out, if_neg h0, HS.out])
          have hnz : ((nl : Int) == 0) = false := by
            rw [beq_eq_false_iff_ne]
            intro e
            have e : nl = 0 := by omega
            rw [HNL.out rfl] at e
            exact h0 (List.length_eq_zero_iff.1 e)
          have HX := hid (HA1.out.str (m := m) HAL.out)
          have HO1 := hid (show ∀ u ∈ ([.string (tx m)] : List Value), u.oneCell' = true from fun u hu => by rw [List.mem_singleton.1 hu]; rfl)
          clear HNL h0 f0 f2 f3
          go_wp2_with (at_builtin; refine wpList_append_own_at _ rfl _ _ 39 rfl w.heap.size 9 j0 _ 1 16 Tryz.underlying39 HJ.out HY0.out HY1.out HY2.out rfl (by decide) (.slice ho al hc) al (Cub.svs A) rfl HX.out.1 _ 1 1 [.string (tx m)] rfl rfl HX.out.2.1 HO1.out (by unfold maxLen; omega) (by omega) HX.out.2.2.1 ?_; intro v8 w8 hown8 hg8 _ hb8; obtain ⟨a8, c8, hv8, hA8⟩ := HX.out.2.2.2 v8 w8 hown8 hg8 hb8; subst hv8; have HA8 := hid hA8; clear hown8 hg8 hA8 hb8)
          go_roundw
          case rel => exact ⟨i + 1, bo, bn, bc, qs, a8, al + 1, c8, _, by omega, by go_num, rfl, rfl, by omega, by omega, HA8, HL, by show _ = _; rw [List.length_append, HAL.out]; rfl, HE2, HS2, HM2⟩
          case measure => simp [intOf]; omega
    · have hI : ¬ ((i : Int) < (n : Int)) := by omega
      have HFIN := hid (show PDeadPost w ps (.returned (.tuple #[.slice bo bn bc, .int .i64 0])) wo from ⟨HA.out.low, Or.inr ⟨fun t r hr => HM.out t r (by have := (List.getElem?_eq_some_iff.1 hr).1; rw [List.length_map, HN.out] at this; omega) hr, bo, bn, bc, qs, rfl, HA.out.own, HL.out, fun q hq => (HA.out.prt q hq).1, by
        have := HS.out
        rw [List.take_of_length_le (by rw [List.length_map, HN.out]; omega)] at this
        exact this⟩⟩)
      go_wp2
      refine bodyPost_ret (v := .tuple #[.slice bo bn bc, .int .i64 0]) (by simp [results, Tryz.results23, go_sem]) rfl HFIN.out
end Go.Proofs.YtipmlcdnfaobiaaGreat
namespace Go.Proofs.YtipmlcdnfaobiaaGreat
open Go.RowKit

theorem meetR_few {W : Int} {L : List Raw} (hg : GoodT W L) (h : List UInt8) : (meetR W L h).1.ports.length ≤ 64 := by
  unfold meetR
  split
  · simp [zeroR]
  · split
    · simp [zeroR]
    · rw [List.getD_eq_getElem?_getD]
      cases q : L[(metN L h).toNat]? with
      | none => simp [zeroR]
      | some r => exact (errR_small (hg.ok r (List.mem_of_getElem? q))).2.1
theorem lookR_few {W : Int} {L : List Raw} (hg : GoodT W L) (h : List UInt8) : (lookR W L h).2.1.length ≤ 64 := by
  unfold lookR
  split
  · simp
  · split
    · simp
    · rw [List.getD_eq_getElem?_getD]
      cases q : L[(metN L h).toNat]? with
      | none => simp [zeroR]
      | some r => exact (errR_small (hg.ok r (List.mem_of_getElem? q))).2.1

set_option maxRecDepth 20000 in
set_option maxHeartbeats 2000000 in
theorem SameRule_eq {w : World} {p k : Int} {m : List UInt8} {zs : List (List UInt8)} {a1 a2 : Option Addr} {n1 n2 c1 c2 : Nat} (h1 : Txs w (.slice a1 n1 c1) zs) (h2 : Txs w (.slice a2 n2 c2) zs) (hz : zs.length ≤ maxLen) :
    Calls Tryz.prog 21 #[.agg #[.int .i64 p, .string (tx m), .int .i64 k, .slice a1 n1 c1], .agg #[.int .i64 p, .string (tx m), .int .i64 k, .slice a2 n2 c2]] w fun e w' => e = .returned (.bool true) ∧ Below w.heap.size w w' := by
  have HS := hid (fun (X : World) (hX : Below w.heap.size w X) => Same_actsI (k := k) (h1.below hX) (h2.below hX) hz)
  have HB := hid (show Below w.heap.size w ((w.alloc (rob p (tx m) k (.slice a1 n1 c1))).alloc (rob p (tx m) k (.slice a2 n2 c2))) from ((Below.refl _ _).alloc (Nat.le_refl _) _).alloc (by simp) _)
  have epp : (p == p) = true := by simp
  have emm : (m == m) = true := by simp
  clear h1 h2
  go_enter Tryz.func21, Tryz.ntmps21
  go_wp2_with (first | (go_at_call 22; refine (HS.out _ HB.out).mono ?_; rintro e wz ⟨rfl, hbz⟩) | fail)
  go_ret
  exact ⟨rfl, below_2 HB.out hbz⟩

set_option maxRecDepth 20000 in
set_option maxHeartbeats 4000000 in
theorem fmeets_bad {w : World} {ao bo : Option Addr} {n cap n2 cap2 : Nat} {W : Int} (h : ¬ (1 ≤ W ∧ W ≤ 128)) : Calls Tryz.prog 4 #[.int .i64 W, .slice ao n cap, .slice bo n2 cap2] w fun e w' => e = .returned (.bool true) ∧ Below w.heap.size w w' := by
  have HM := hid (made_bad (w := w) (ao := ao) (n := n) (cap := cap) h)
  have p2 := eqlR_two
  go_enter Tryz.func4, Tryz.ntmps4
  go_wp2_with fail
  refine HM.out.mono ?_
  rintro en w1 ⟨rfl, hb1⟩
  have B1 := hid hb1
  clear hb1
  go_wp2_with (go_at_call 10; refine (fawake _).mono ?_; rintro e wz ⟨rfl, hbz⟩; have BZ := hid (below_2 B1.out hbz); clear hbz)
  go_ret
  exact ⟨rfl, BZ.out⟩

set_option maxRecDepth 20000 in
set_option maxHeartbeats 4000000 in
theorem fmeets_good {w : World} {ao bo : Option Addr} {n cap n2 cap2 : Nat} {W : Int} {cs : List (Int × Raw × Value)} {hs2 : List (List UInt8)} (h : 1 ≤ W ∧ W ≤ 128) (hc : ChIn w ao cs) (hn : cs.length = n) (hnc : n ≤ cap) (hs : ∀ u ∈ cs, Small u.2.1.mat u.2.1.ports) (h63 : n ≤ maxLen)
    (ht : Txs w (.slice bo n2 cap2) hs2) (hhn : hs2.length = n2) (hhl : ∀ x ∈ hs2, x.length ≤ maxLen) (h263 : n2 ≤ maxLen) : Calls Tryz.prog 4 #[.int .i64 W, .slice ao n cap, .slice bo n2 cap2] w fun e w' => e = .returned (.bool true) ∧ Below w.heap.size w w' := by
  have HM := hid (made_good h hc hn hnc hs h63)
  have HG := hid (madeN_good h ((chs cs).take 100))
  have HT := hid ht
  have HHN := hid hhn
  have HHL := hid hhl
  have p2 := eqlR_none
  obtain ⟨L, hL⟩ : ∃ L, L = madeN W ((chs cs).take 100) := ⟨_, rfl⟩
  rw [← hL] at HM HG
  have h263I : (n2 : Int) ≤ 9223372036854775807 := by unfold maxLen at h263; omega
  clear hc hn hs ht hhn hhl hL
  go_enter Tryz.func4, Tryz.ntmps4
  go_wp2_with fail
  refine HM.out.mono ?_
  rintro en w1 ⟨tb, rb, rfl, h1⟩
  have B1 := hid h1.out
  clear h1
  go_wp2_with (first | (go_at_call 10; refine (fawake _).mono ?_; rintro e wz ⟨rfl, hbz⟩; have BZ := hid (B1.out.on hbz); clear hbz) | fail)
  clear p2 HM B1
  go_loopw [10] (fun vi wr => ∃ j : Nat, j ≤ n2 ∧ vi = .int .i64 j ∧ Hid (Both w wr tb rb W L)) (fun vi _ => n2 - (intOf vi).toNat)
  case atStart => exact ⟨0, Nat.zero_le _, rfl, BZ⟩
  case round =>
    clear BZ
    obtain ⟨j, hj, rfl, HA⟩ := hrel
    rename World => wo
    by_cases hlt : j < n2
    · have hjI : (j : Int) < (n2 : Int) := by omega
      have hj0 : (0 : Int) ≤ (j : Int) := by omega
      obtain ⟨hd, hhd⟩ : ∃ hd, hd = hs2.getD j [] := ⟨_, rfl⟩
      obtain ⟨g, o, rfl, hcell⟩ : ∃ g o, bo = some ⟨g, o, none⟩ ∧ ∀ X, Below w.heap.size w X → X.cell? ⟨g, o + j, none⟩ = some (.string (tx hd)) := by
        obtain ⟨a', c', e, q | ⟨g, o, e2, hg, hcl⟩⟩ := HT.out
        · rw [q] at HHN; have := HHN.out; simp at this; omega
        · injection e with e1 _ _
          refine ⟨g, o, by rw [e1, e2], fun X hX => ?_⟩
          rw [hX.cell (by exact hg), hcl j (by rw [HHN.out]; exact hlt), hhd]
      have HCL := hid hcell
      have HLEN := hid (show hd.length ≤ maxLen by
        rw [hhd, List.getD_eq_getElem?_getD, List.getElem?_eq_getElem (show j < hs2.length by rw [HHN.out]; exact hlt)]
        exact HHL.out _ (List.getElem_mem _))
      have HF1 := hid (meetR_few HG.out hd)
      have HF2 := hid (lookR_few HG.out hd)
      have c0 := hcell wo HA.out.low
      have HM1 := hid (Meets_any (h := hd) HA.out.fib)
      clear hcell hhd
      obtain ⟨⟨⟨pp, mm, kk, zz⟩, x, er⟩, hmr⟩ : ∃ q, q = meetR W L hd := ⟨_, rfl⟩
      obtain ⟨⟨lk, lp, le⟩, hlr⟩ : ∃ q, q = lookR W L hd := ⟨_, rfl⟩
      have HMR := hid hmr
      have HLR := hid hlr
      rw [← hmr] at HF1
      rw [← hlr] at HF2
      simp only at HF1 HF2
      clear hmr hlr
      go_wp2_with fail
      refine HM1.out.mono ?_
      rintro en w2 hp2
      have hv2 := hp2.v
      rw [← HMR.out] at hv2
      obtain ⟨a2, n2', c2, rfl, hpo2⟩ := hv2
      have B2 := hid (HA.out.on hp2.1)
      have HP2 := hid hpo2
      clear hp2 hpo2 HM1 c0
      have c0 := HCL.out w2 B2.out.low
      have HBB2 := hid (show Below w2.heap.size w2 (w2.alloc (rob pp (tx mm) kk (.slice a2 n2' c2))) from (Below.refl _ _).alloc (Nat.le_refl _) _)
      have c1 := HCL.out _ (B2.out.on HBB2.out).low
      have HM2 := hid (RMeets_any (h := hd) (B2.out.on HBB2.out).doc HG.out HLEN.out)
      go_wp2_with fail
      refine HM2.out.mono ?_
      rintro en w3 ⟨hv3, hb3⟩
      rw [← HMR.out] at hv3
      obtain ⟨a3, n3, c3, rfl, hpo3⟩ := hv3
      have B3 := hid ((B2.out.on HBB2.out).on hb3)
      have K2 := hid (below_block hb3 (new_0 w2 (rob pp (tx mm) kk (.slice a2 n2' c2))) (by simp))
      have HP2b := hid (HP2.out.on (below_2 HBB2.out hb3))
      have HP3 := hid hpo3
      clear hb3 hpo3 HM2 c0 c1 HP2 HBB2
      have HBB3 := hid (show Below w3.heap.size w3 (w3.alloc (rob pp (tx mm) kk (.slice a3 n3 c3))) from (Below.refl _ _).alloc (Nat.le_refl _) _)
      have c0 := HCL.out w3 B3.out.low
      have c1 := HCL.out _ (B3.out.on HBB3.out).low
      have HM3 := hid (Lookup_any (h := hd) (B3.out.on HBB3.out).fib)
      generalize w2.heap.size = k2 at K2 ⊢
      go_wp2_with fail
      refine HM3.out.mono ?_
      rintro en w4 hp4
      have hv4 := hp4.v
      rw [← HLR.out] at hv4
      obtain ⟨a4, n4, c4, rfl, hpo4⟩ := hv4
      have hb4 := hp4.1
      have B4 := hid ((B3.out.on HBB3.out).on hb4)
      have K3 := hid (below_block hb4 (new_0 w3 (rob pp (tx mm) kk (.slice a3 n3 c3))) (by simp))
      have K2b := hid (below_block (below_2 HBB3.out hb4) K2.out (lt_of_block K2.out))
      have HP2c := hid (HP2b.out.on (below_2 HBB3.out hb4))
      have HP3b := hid (HP3.out.on (below_2 HBB3.out hb4))
      have HP4 := hid hpo4
      clear hb4 hp4 hpo4 HM3 c0 c1 HP2b HP3 HBB3 K2
      generalize w3.heap.size = k3 at K3 ⊢
      have HBB4 := hid (show Below w4.heap.size w4 (w4.alloc (aob lk (.slice a4 n4 c4))) from (Below.refl _ _).alloc (Nat.le_refl _) _)
      have c0 := HCL.out w4 B4.out.low
      have c1 := HCL.out _ (B4.out.on HBB4.out).low
      have HM4 := hid (RLookup_any (h := hd) (B4.out.on HBB4.out).doc HG.out HLEN.out)
      go_wp2_with fail
      refine HM4.out.mono ?_
      rintro en w5 ⟨hv5, hb5⟩
      rw [← HLR.out] at hv5
      obtain ⟨a5, n5, c5, rfl, hpo5⟩ := hv5
      have B5 := hid ((B4.out.on HBB4.out).on hb5)
      have K4 := hid (below_block hb5 (new_0 w4 (aob lk (.slice a4 n4 c4))) (by simp))
      have K3b := hid (below_block (below_2 HBB4.out hb5) K3.out (lt_of_block K3.out))
      have K2c := hid (below_block (below_2 HBB4.out hb5) K2b.out (lt_of_block K2b.out))
      have HP2d := hid (HP2c.out.on (below_2 HBB4.out hb5))
      have HP3c := hid (HP3b.out.on (below_2 HBB4.out hb5))
      have HP4b := hid (HP4.out.on (below_2 HBB4.out hb5))
      have HP5 := hid hpo5
      clear hb5 hpo5 HM4 c0 c1 HP2c HP3b HP4 HBB4 K3 K2b
      generalize w4.heap.size = k4 at K4 ⊢
      have HBB5 := hid (show Below w5.heap.size w5 (w5.alloc (aob lk (.slice a5 n5 c5))) from (Below.refl _ _).alloc (Nat.le_refl _) _)
      obtain ⟨X, hX⟩ : ∃ X, X = w5.alloc (aob lk (.slice a5 n5 c5)) := ⟨_, rfl⟩
      obtain ⟨k5, hk5⟩ : ∃ k5, k5 = w5.heap.size := ⟨_, rfl⟩
      have BX := hid (show Both w X tb rb W L by rw [hX]; exact B5.out.on HBB5.out)
      have HFS := hid (show ∀ Y, Below X.heap.size X Y → (Y.heap[k2]? = some (rob pp (tx mm) kk (.slice a2 n2' c2)) ∧ Y.heap[k3]? = some (rob pp (tx mm) kk (.slice a3 n3 c3)) ∧ Y.heap[k4]? = some (aob lk (.slice a4 n4 c4)) ∧ Y.heap[k5]? = some (aob lk (.slice a5 n5 c5))) ∧ Txs Y (.slice a2 n2' c2) zz ∧ Txs Y (.slice a3 n3 c3) zz ∧ Txs Y (.slice a4 n4 c4) lp ∧ Txs Y (.slice a5 n5 c5) lp from fun Y hY => by
        have hwY : Below w5.heap.size w5 Y := below_2 HBB5.out (by rw [← hX]; exact hY)
        refine ⟨⟨below_block hwY K2c.out (lt_of_block K2c.out), below_block hwY K3b.out (lt_of_block K3b.out), below_block hwY K4.out (lt_of_block K4.out), ?_⟩, (HP2d.out.on hwY).txs, (HP3c.out.on hwY).txs, (HP4b.out.on hwY).txs, (HP5.out.on hwY).txs⟩
        rw [hX] at hY
        rw [hk5]
        exact below_block hY (new_0 w5 _) (by simp))
      have HCS := hid (show ∀ Y, Below X.heap.size X Y → Y.cell? ⟨k2, 0, none⟩ = some (.int .i64 pp) ∧ Y.cell? ⟨k2, 1, none⟩ = some (.string (tx mm)) ∧ Y.cell? ⟨k2, 2, none⟩ = some (.int .i64 kk) ∧ Y.cell? ⟨k2, 3, none⟩ = some (.slice a2 n2' c2) ∧ Y.cell? ⟨k3, 0, none⟩ = some (.int .i64 pp) ∧ Y.cell? ⟨k3, 1, none⟩ = some (.string (tx mm)) ∧ Y.cell? ⟨k3, 2, none⟩ = some (.int .i64 kk) ∧ Y.cell? ⟨k3, 3, none⟩ = some (.slice a3 n3 c3) ∧ Y.cell? ⟨k4, 0, none⟩ = some (.int .i64 lk) ∧ Y.cell? ⟨k4, 1, none⟩ = some (.slice a4 n4 c4) ∧ Y.cell? ⟨k5, 0, none⟩ = some (.int .i64 lk) ∧ Y.cell? ⟨k5, 1, none⟩ = some (.slice a5 n5 c5) from fun Y hY => by
        obtain ⟨⟨b2, b3, b4, b5⟩, _⟩ := HFS.out Y hY
        refine ⟨?_, ?_, ?_, ?_, ?_, ?_, ?_, ?_, ?_, ?_, ?_, ?_⟩
        · rw [cell_at b2]; rfl
        · rw [cell_at b2]; rfl
        · rw [cell_at b2]; rfl
        · rw [cell_at b2]; rfl
        · rw [cell_at b3]; rfl
        · rw [cell_at b3]; rfl
        · rw [cell_at b3]; rfl
        · rw [cell_at b3]; rfl
        · rw [cell_at b4]; rfl
        · rw [cell_at b4]; rfl
        · rw [cell_at b5]; rfl
        · rw [cell_at b5]; rfl)
      have HSR := hid (fun (Y : World) (hY : Below X.heap.size X Y) => SameRule_eq (p := pp) (m := mm) (k := kk) (HFS.out Y hY).2.1 (HFS.out Y hY).2.2.1 (show zz.length ≤ maxLen by have := HF1.out; unfold maxLen; omega))
      have HSA := hid (fun (Y : World) (hY : Below X.heap.size X Y) => Same_actsI (k := lk) (HFS.out Y hY).2.2.2.1 (HFS.out Y hY).2.2.2.2 (show lp.length ≤ maxLen by have := HF2.out; unfold maxLen; omega))
      have exx : (x != x) = false := by simp
      have eer : (er != er) = false := by simp
      have ele : (le != le) = false := by simp
      have hS0 := HCS.out X (Below.refl _ _)
      have HX := hid hX
      have HK5 := hid hk5
      clear hX hk5
      rw [HX.out, HK5.out] at hS0
      obtain ⟨d0, d1, d2, d3, d4, d5, d6, d7, d8, d9, d10, d11⟩ := hS0
      clear HBB5 K2c K3b K4 HP2d HP3c HP4b HP5 B5 HFS HLEN HF1 HF2 HMR HLR HCL HT HHN HHL B2 B3 B4 HA
      go_wp2_with fail
      rw [← HX.out]
      refine (HSR.out _ (Below.refl _ _)).mono ?_
      rintro en w6 ⟨rfl, hb6⟩
      have HB6 := hid hb6
      clear hb6 d0 d1 d2 d3 d4 d5 d6 d7 d8 d9 d10 d11
      have hS6 := HCS.out w6 HB6.out
      rw [HK5.out] at hS6
      obtain ⟨d0, d1, d2, d3, d4, d5, d6, d7, d8, d9, d10, d11⟩ := hS6
      go_wp2_with fail
      refine (HSA.out _ HB6.out).mono ?_
      rintro en w7 ⟨rfl, hb7⟩
      have HB7 := hid (below_2 HB6.out hb7)
      clear hb7 d0 d1 d2 d3 d4 d5 d6 d7 d8 d9 d10 d11
      have HEND := hid (BX.out.on HB7.out)
      clear HSR HSA HCS
      go_wp2
      go_roundw
      case rel => exact ⟨j + 1, by omega, by go_num, HEND⟩
      case measure => simp [intOf]; omega
    · have hjI : ¬ ((j : Int) < (n2 : Int)) := by omega
      go_wp2
      go_ret
      exact ⟨rfl, HA.out.low⟩
theorem fmeets_any {w : World} {ao bo : Option Addr} {n cap n2 cap2 : Nat} {W : Int} {cs : List (Int × Raw × Value)} {hs2 : List (List UInt8)} (hc : ChIn w ao cs) (hn : cs.length = n) (hnc : n ≤ cap) (hs : ∀ u ∈ cs, Small u.2.1.mat u.2.1.ports) (h64 : n * 64 ≤ 140737488355328)
    (ht : Txs w (.slice bo n2 cap2) hs2) (hhn : hs2.length = n2) (hhl : ∀ x ∈ hs2, x.length ≤ maxLen) (h263 : n2 * 16 ≤ 140737488355328) : Calls Tryz.prog 4 #[.int .i64 W, .slice ao n cap, .slice bo n2 cap2] w fun e w' => e = .returned (.bool true) ∧ Below w.heap.size w w' := by
  by_cases h : 1 ≤ W ∧ W ≤ 128
  · exact fmeets_good h hc hn hnc hs (by unfold maxLen; omega) ht hhn hhl (by unfold maxLen; omega)
  · exact fmeets_bad h
end Go.Proofs.YtipmlcdnfaobiaaGreat
