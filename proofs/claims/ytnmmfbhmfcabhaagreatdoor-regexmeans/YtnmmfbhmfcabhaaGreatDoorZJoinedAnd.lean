/-
  The calls of the law RegexMeans, each with what stays.
  The document's Joined, of several.
-/
import Derived.Test.YtnmmfbhmfcabhaaGreatDoorZAwakeAnd
import Derived.Test.YtnmmfbhmfcabhaaGreatDoorZGoesAnd
import Derived.Test.YtnmmfbhmfcabhaaGreatDoorXAddAnd
namespace Go.Proofs.YtnmmfbhmfcabhaaGreatDoor
open Go.RowKit

/-- Several as one, as the document has it. -/
def jdN (op : Int) (ks : List Rx) : Rx := if op = 4 ∧ (flatK op ks).length = 1 then (flatK op ks).headD (.mk op [] []) else .mk op [] (flatK op ks)
/-- Any blocks. -/
def allK : Nat → Prop := fun _ => True
theorem RxS.rxk {w : World} {v : Value} {ks : List Rx} (h : RxS w v ks) : RxK allK w v ks := by
  induction h with
  | nil ao cap => exact .nil ao cap
  | some g o cap ks vs hg hl hc _ ih => exact .some g o cap ks vs trivial hg hl hc ih
theorem step_append_srcX {P : Program} (w : World) {ops : Array Oper} {o : Oper} {a : Act} {K : Act → World → Prop} {Q : Exit → Act → World → Prop} {E : Prop} (hgd : o.guard = none) (s x : Operand) (t : TypeId)
    (ho : o.op = .call { callee := .builtin .append, args := #[s, x], argTypes := #[t, t] })
    (base : Nat) (e : TypeId) (i : TypeInfo) (z : Value) (size bytes : Nat) (ht : P.underlying t = some (.slice e)) (hi : P.info? e = some i) (hz : i.zero = some z)
    (hsize : i.size = size) (hby : i.bytes = bytes) (hzs : z.cells.size = size) (hsz : 0 < size)
    (v : Value) (n : Nat) (xs : List Value) (hs : a.eval s = v) (hown : w.ownsRow base e size v n xs)
    (vx : Value) (m : Nat) (news : List Value) (hx : a.eval x = vx) (hsrc : (∃ c, vx = .slice none 0 c ∧ m = 0 ∧ news = []) ∨ ∃ ad c, vx = .slice (some ad) m c ∧ news.length = m * size ∧ ∀ j u, news[j]? = some u → w.cell? (ad.add j) = some u) (h1 : ∀ u ∈ news, u.oneCell' = true)
    (h63 : n + m ≤ maxLen) (hbytes : (n + m) * bytes ≤ 140737488355328) (hbase : base ≤ w.heap.size)
    (h : ∀ v' w', w'.ownsRow base e size v' (n + m) (xs ++ news) → w.grownBy w' v.ownBlock → K (a.put o.dst v') w') :
    if Region.wanted o (yielded ops a.tmps) = true then Oper.wp P o a w K Q else E := by
  have hw : Region.wanted o (yielded ops a.tmps) = true := by simp [Region.wanted, hgd]
  rw [if_pos hw]
  rcases hsrc with ⟨c, rfl, rfl, rfl⟩ | ⟨ad, cap, rfl, hl, hc⟩
  · have hrun := run_app_noneX (P := P) (w := w) base t o.type e i size c ht hi v n xs hown
    unfold Oper.wp
    simp [execOp, ho, resolve, invoke, builtin, hs, hx, hrun, Result.andThen]
    exact h v w (by simpa using hown) ⟨rfl, rfl, rfl, Nat.le_refl _, fun _ _ _ => rfl⟩
  · obtain ⟨v', w', hrun, h2, h3, _, _⟩ := run_append_own_at (P := P) w base t o.type e i z size bytes ht hi hz hsize hby hzs hsz v n xs hown ad m cap news hl hc h1 h63 hbytes hbase
    unfold Oper.wp
    simp [execOp, ho, resolve, invoke, builtin, hs, hx, hrun, Result.andThen]
    exact h v' w' h2 h3
/-- Where the document's Joined stands. -/
structure JdI (w wr : World) (op : Int) (ks : List Rx) (j : Nat) (u : Value) (qs : Prs) : Prop where
  own : wr.ownsRow (w.heap.size + 2) 25 3 u qs.length (flatP qs)
  box : wr.heap[w.heap.size + 1]? = some (.cells #[.int .i64 op, .string (tx []), u] 25 (0, 0))
  res : wr.heap[w.heap.size]? = some (.cells #[.int .i64 0, .string (tx []), .slice none 0 0] 25 (0, 0))
  fst : qs.map Prod.fst = flatK op (ks.take j)
  kids : ∀ q ∈ qs, RxK allK w q.2 q.1.kids
  low : Below w.heap.size w wr
theorem JdI.drew {w wr : World} {op : Int} {ks : List Rx} {j : Nat} {u : Value} {qs : Prs} (h : JdI w wr op ks j u qs) : JdI w wr.drew op ks j u qs := ⟨h.own.drew, h.box, h.res, h.fst, h.kids, h.low.drew⟩
theorem JdI.alloc {w wr : World} {op : Int} {ks : List Rx} {j : Nat} {u : Value} {qs : Prs} (h : JdI w wr op ks j u qs) (ob : Obj) : JdI w (wr.alloc ob) op ks j u qs := ⟨h.own.alloc ob, (Below.heap_alloc _ _ _ (Array.getElem?_eq_some_iff.1 h.box).1).trans h.box, (Below.heap_alloc _ _ _ (Array.getElem?_eq_some_iff.1 h.res).1).trans h.res, h.fst, h.kids, h.low.alloc h.low.size ob⟩
theorem JdI.next {w wr w3 : World} {op : Int} {ks : List Rx} {j m mk : Nat} {u v3 : Value} {qs ts : Prs} (h : JdI w wr op ks j u qs) (hg : wr.grownBy w3 u.ownBlock) (ho : w3.ownsRow (w.heap.size + 2) 25 3 v3 (m + mk) (flatP qs ++ flatP ts)) (hm : m = qs.length) (hmk : mk = ts.length) (ht : qs.map Prod.fst ++ ts.map Prod.fst = flatK op (ks.take (j + 1))) (hk : ∀ q ∈ ts, RxK allK w q.2 q.1.kids) :
    JdI w (w3.setCell ⟨w.heap.size + 1, 2, none⟩ v3) op ks (j + 1) v3 (qs ++ ts) := by
  have hu : ∀ g, u.ownBlock = some g → w.heap.size + 2 ≤ g := fun g hg => (h.own.lt g hg).1
  have hlt : w.heap.size + 1 < wr.heap.size := (Array.getElem?_eq_some_iff.1 h.box).1
  have e1 : w3.heap[w.heap.size + 1]? = wr.heap[w.heap.size + 1]? := hg.block _ hlt (fun e => by have := hu _ e.symm; omega)
  have e0 : w3.heap[w.heap.size]? = wr.heap[w.heap.size]? := hg.block _ (by omega) (fun e => by have := hu _ e.symm; omega)
  have b3 : Below w.heap.size w w3 := h.low.grown hg (by omega) (fun q hq => by have := hu q hq; omega)
  refine ⟨?_, ?_, ?_, by rw [List.map_append]; exact ht.trans rfl, fun q hq => (List.mem_append.1 hq).elim (h.kids q) (hk q), b3.setCell (by show w.heap.size ≤ w.heap.size + 1; omega) _⟩
  · rw [flatP_app, List.length_append, ← hm, ← hmk]
    exact ownsRow_setCell_below ho (by show w.heap.size + 1 < _; omega) _
  · rw [block_set _ (e1.trans h.box)]; rfl
  · rw [Below.heap_setCell _ _ _ _ (by show w.heap.size ≠ w.heap.size + 1; omega), e0]; exact h.res
theorem JdI.done {w wr : World} {op : Int} {ks : List Rx} {j m vc : Nat} {bo : Option Addr} {qs : Prs} (h : JdI w wr op ks j (.slice bo m vc) qs) (ht : qs.map Prod.fst = flatK op ks) (he : jdN op ks = .mk op [] (flatK op ks)) :
    TellS w (jdN op ks) (.returned (.agg #[.int .i64 op, .string (tx []), .slice bo m vc])) (((wr.setCell ⟨w.heap.size, 0, none⟩ (.int .i64 op)).setCell ⟨w.heap.size, 1, none⟩ (.string (tx []))).setCell ⟨w.heap.size, 2, none⟩ (.slice bo m vc)) := by
  have hB : Below w.heap.size w (((wr.setCell ⟨w.heap.size, 0, none⟩ (.int .i64 op)).setCell ⟨w.heap.size, 1, none⟩ (.string (tx []))).setCell ⟨w.heap.size, 2, none⟩ (.slice bo m vc)) := ((h.low.setCell (Nat.le_refl _) _).setCell (Nat.le_refl _) _).setCell (Nat.le_refl _) _
  refine ⟨bo, m, vc, by rw [he]; rfl, ?_, hB⟩
  rw [he]
  have ho := ownsRow_setCell_below (ownsRow_setCell_below (ownsRow_setCell_below h.own (a := ⟨w.heap.size, 0, none⟩) (by show w.heap.size < _; omega) (.int .i64 op)) (a := ⟨w.heap.size, 1, none⟩) (by show w.heap.size < _; omega) (.string (tx []))) (a := ⟨w.heap.size, 2, none⟩) (by show w.heap.size < _; omega) (.slice bo m vc)
  have hr : RowX allK (((wr.setCell ⟨w.heap.size, 0, none⟩ (.int .i64 op)).setCell ⟨w.heap.size, 1, none⟩ (.string (tx []))).setCell ⟨w.heap.size, 2, none⟩ (.slice bo m vc)) (w.heap.size + 2) (.slice bo m vc) qs := ⟨ho, fun p hp => (h.kids p hp).on (.below hB)⟩
  have := (hr.rxk (K' := allK) (fun g h => h) (fun g _ => trivial)).low
  rw [ht] at this
  exact this

set_option maxRecDepth 20000 in
set_option maxHeartbeats 2000000 in
theorem RJoined_any {w : World} {v : Value} {ps : Prs} {op : Int} (hS : LieX allK w v ps) (h2 : ps.length ≠ 1) (hn : nodesL (ps.map Prod.fst) ≤ 1000000) :
    Calls Tryz.prog 26 #[.int .i64 op, v] w fun e w' => TellS w (jdN op (ps.map Prod.fst)) e w' := by
  obtain ⟨i0, hi, hz0, hz1, hz2⟩ := info_parts Tryz.infoRegX
  have HI := hid hi
  have HZ0 := hid hz0
  have HZ1 := hid hz1
  have HZ2 := hid hz2
  clear hi hz0 hz1 hz2
  obtain ⟨ks, hks⟩ : ∃ ks, ks = ps.map Prod.fst := ⟨_, rfl⟩
  have HKS := hid hks
  have hlen : ps.length = ks.length := by rw [hks]; simp
  rw [← hks] at hn ⊢
  obtain ⟨ao, cap, rfl, hat⟩ := hS.form
  have HKI := hid hS.kids
  have HAT := hid hat
  have hlk := length_le ks
  obtain ⟨n, hnn⟩ : ∃ n, n = ps.length := ⟨_, rfl⟩
  have HN := hid hnn
  have hnb : n ≤ 1000000 := by omega
  have HNL := hid hn
  rw [← hnn] at h2 ⊢
  have hn1 : ((n : Int) == 1) = false := by rw [beq_eq_false_iff_ne]; omega
  clear hS hat hks hlen hlk hnn hn h2
  go_enter Tryz.func26, Tryz.ntmps26
  go_wp2_with fail
  have HJ0 := hid (show JdI w ((w.alloc (Obj.cells #[.int .i64 0, .string (tx []), .slice none 0 0] 25)).alloc (Obj.cells #[.int .i64 op, .string (tx []), .slice none 0 0] 25)) op ks 0 (.slice none 0 0) [] from by
    refine ⟨World.ownsRow_nil _ _ _ _, ?_, ?_, rfl, fun q hq => absurd hq (by simp), ((Below.refl _ _).alloc (Nat.le_refl _) _).alloc (by simp) _⟩
    · have := new_0 (w.alloc (Obj.cells #[.int .i64 0, .string (tx []), .slice none 0 0] 25)) (Obj.cells #[.int .i64 op, .string (tx []), .slice none 0 0] 25)
      rw [World.size_alloc] at this
      exact this
    · rw [Below.heap_alloc _ _ _ (by simp)]; exact new_0 _ _)
  go_loopw [6] (fun i wr => ∃ j : Nat, ∃ qs : Prs, ∃ u : Value, j ≤ n ∧ i = .int .i64 j ∧ Hid (JdI w wr op ks j u qs)) (fun i _ => n - (intOf i).toNat)
  case atStart => exact ⟨0, [], _, Nat.zero_le _, rfl, HJ0⟩
  case round =>
    obtain ⟨j, qs, u, hj, rfl, HJ⟩ := hrel
    have hql : qs.length ≤ 1000000 := by
      have h1 := congrArg List.length HJ.out.fst
      rw [List.length_map] at h1
      have h2 := flatK_len op (ks.take j)
      have h3 := nodesL_take (ks := ks) j
      have := HNL.out
      omega
    obtain ⟨m, hm⟩ : ∃ m, m = qs.length := ⟨_, rfl⟩
    have HM := hid hm
    rw [← hm] at hql
    have how := HJ.out.own
    rw [← hm] at how
    have HOW := hid how
    obtain ⟨bo, vc, rfl⟩ := own_form how
    have hbx := HJ.out.box
    have hrx := HJ.out.res
    have hlo := HJ.out.low.size
    have hls : w.heap.size + 2 ≤ wr.heap.size := by have := (Array.getElem?_eq_some_iff.1 hbx).1; omega
    have x0 : wr.cell? ⟨w.heap.size + 1, 0, none⟩ = some (.int .i64 op) := by rw [cell_at hbx]; rfl
    have x1 : wr.cell? ⟨w.heap.size + 1, 1, none⟩ = some (.string (tx [])) := by rw [cell_at hbx]; rfl
    have x2 : wr.cell? ⟨w.heap.size + 1, 2, none⟩ = some (.slice bo m vc) := by rw [cell_at hbx]; rfl
    clear hm how
    by_cases hlt : j < n
    · obtain ⟨p, hp⟩ : ∃ p, ps[j]? = some p := ⟨ps[j]'(by rw [← HN.out]; exact hlt), List.getElem?_eq_getElem _⟩
      obtain ⟨g, o, rfl, hg, hcell⟩ : ∃ g o, ao = some ⟨g, o, none⟩ ∧ g < w.heap.size ∧ ∀ (i : Nat) (p : Rx × Value), ps[i]? = some p → w.cell? ⟨g, o + i * 3, none⟩ = some (.int .i64 p.1.op) ∧ w.cell? ⟨g, o + i * 3 + 1, none⟩ = some (.string (tx p.1.name)) ∧ w.cell? ⟨g, o + i * 3 + 2, none⟩ = some p.2 := by
        rcases HAT.out with e | h
        · rw [e] at hp; simp at hp
        · exact h
      obtain ⟨k, pv⟩ := p
      obtain ⟨a0, a1, a2⟩ := hcell j _ hp
      have k0 := (HJ.out.low.cell (p := ⟨g, o + j * 3, none⟩) (by exact hg)).trans a0
      have k1 := (HJ.out.low.cell (p := ⟨g, o + j * 3 + 1, none⟩) (by exact hg)).trans a1
      have k2 := (HJ.out.low.cell (p := ⟨g, o + j * 3 + 2, none⟩) (by exact hg)).trans a2
      have hkid := HKI.out _ (List.mem_of_getElem? hp)
      obtain ⟨bu, bc, hpv⟩ := hkid.form
      dsimp only at hpv
      subst hpv
      dsimp only at k0 k1 k2 hkid
      have hkj : ks[j]? = some k := by rw [HKS.out, List.getElem?_map, hp]; rfl
      have HTK := hid (show flatK op (ks.take (j + 1)) = flatK op (ks.take j) ++ (if k.op == op then k.kids else [k]) by rw [take_snocR hkj, flatK_snoc])
      have hkI : (j : Int) < (n : Int) := by omega
      have hk0 : (0 : Int) ≤ (j : Int) := by omega
      have hkn : k.nodes ≤ 1000000 := by
        have := nodesL_mem (List.mem_of_getElem? hkj)
        have := HNL.out
        omega
      have hkk := k.nodes_kids
      have hkl := length_le k.kids
      have HKID := hid hkid
      have HFZ := hid (fun (W : World) (hg : wr.drew.grownBy W (Value.slice bo m vc).ownBlock) => (by
        have e : W.heap[w.heap.size + 1]? = _ := (hg.block _ (by show _ < wr.heap.size; omega) (fun e => by have := (HOW.out.lt _ e.symm).1; omega)).trans HJ.out.box
        exact ⟨free_of e, by rw [cell_at e]; rfl⟩ : W.frozen? ⟨w.heap.size + 1, 2, none⟩ = false ∧ W.cell? ⟨w.heap.size + 1, 2, none⟩ = some (.slice bo m vc)))
      clear hp a0 a1 a2 hcell hkj hkid hbx hrx
      by_cases ho : k.op = op
      · obtain ⟨ts, hts, hlie⟩ := HKID.out.lie
        have htl : ts.length = k.kids.length := by rw [← hts]; simp
        have HSRC := hid (fun (W : World) (hb : Below w.heap.size w W) => (hlie.on hb).src)
        have HONE := hid hlie.one
        have HNX := hid (fun (w3 : World) (v3 : Value) (mk : Nat) (hmk : mk = ts.length) (hg : wr.drew.grownBy w3 (Value.slice bo m vc).ownBlock) (hw : w3.ownsRow (w.heap.size + 2) 25 3 v3 (m + mk) (flatP qs ++ flatP ts)) => HJ.out.drew.next hg hw HM.out hmk (by rw [HJ.out.fst, hts, HTK.out, if_pos (by simpa using ho)]) hlie.kids)
        rw [htl] at HSRC HNX
        obtain ⟨mk, hmk⟩ : ∃ mk, mk = k.kids.length := ⟨_, rfl⟩
        have HMK := hid hmk
        rw [← hmk] at HSRC k2 hkl HNX
        clear hlie hts htl hmk
        subst ho
        have hMB : (m + mk) * 48 ≤ 140737488355328 := by omega
        have hML : m + mk ≤ maxLen := by unfold maxLen; omega
        go_wp2_with fail
        go_region_law (refine step_append_srcX wr.drew (by rfl) (.tmp 29) (.tmp 34) 23 (by rfl) (w.heap.size + 2) 25 i0 (.agg #[.int .i64 0, .string (tx []), .slice none 0 0]) 3 48 Tryz.underlying23 HI.out HZ0.out HZ1.out HZ2.out rfl (by decide) (.slice bo m vc) m (flatP qs) (by rfl) ?c1 (.slice bu mk bc) mk (flatP ts) (by rfl) ?c2 HONE.out hML hMB ?c3 ?_; (case c1 => exact HOW.out.drew); (case c2 => exact HSRC.out _ HJ.out.low.drew); (case c3 => exact hls); intro v3 w3 hown3 hgrow3; obtain ⟨q1, q2⟩ := HFZ.out _ hgrow3; obtain ⟨a3, c3, rfl⟩ := own_form hown3)
        all_goals (have F3 := hid (HNX.out _ _ _ rfl hgrow3 hown3); clear hown3 hgrow3; go_wp2; exact ⟨⟨j + 1, qs ++ ts, _, by omega, by go_num, F3⟩, by simp [intOf]; omega⟩)
      · have hoI : (k.op == op) = false := by simpa using ho
        have HFA := hid (fun (W : World) (ob : Obj) (hg : (wr.drew.alloc ob).grownBy W (Value.slice bo m vc).ownBlock) => (by
          have e : W.heap[w.heap.size + 1]? = _ := (hg.block _ (by show _ < (wr.drew.alloc ob).heap.size; rw [World.size_alloc]; show _ < wr.heap.size + 1; omega) (fun e => by have := (HOW.out.lt _ e.symm).1; omega)).trans (HJ.out.drew.alloc ob).box
          exact ⟨free_of e, by rw [cell_at e]; rfl⟩ : W.frozen? ⟨w.heap.size + 1, 2, none⟩ = false ∧ W.cell? ⟨w.heap.size + 1, 2, none⟩ = some (.slice bo m vc)))
        have HNX := hid (fun (w3 : World) (v3 : Value) (ob : Obj) (hg : (wr.drew.alloc ob).grownBy w3 (Value.slice bo m vc).ownBlock) (hw : w3.ownsRow (w.heap.size + 2) 25 3 v3 (m + 1) (flatP qs ++ flatP [(k, .slice bu k.kids.length bc)])) => (HJ.out.drew.alloc ob).next hg hw HM.out (ts := [(k, .slice bu k.kids.length bc)]) rfl (by rw [HJ.out.fst, HTK.out, if_neg (by simp [hoI])]; rfl) (fun q hq => by rw [List.mem_singleton.1 hq]; exact HKID.out))
        obtain ⟨mk, hmk⟩ : ∃ mk, mk = k.kids.length := ⟨_, rfl⟩
        rw [← hmk] at k2 hkl HNX
        clear ho hmk
        have hMB : (m + 1) * 48 ≤ 140737488355328 := by omega
        have x2a : (wr.alloc (Obj.cells #[.int .i64 k.op, .string (tx k.name), .slice bu mk bc] 25)).cell? ⟨w.heap.size + 1, 2, none⟩ = some (.slice bo m vc) := (World.cell?_of_block (by exact Below.heap_alloc _ _ _ (by show w.heap.size + 1 < wr.heap.size; omega))).trans x2
        have hML : m + 1 ≤ maxLen := by unfold maxLen; omega
        go_wp2_with fail
        go_region_law (refine step_append_srcX _ (by rfl) (.tmp 38) (.tmp 43) 23 (by rfl) (w.heap.size + 2) 25 i0 (.agg #[.int .i64 0, .string (tx []), .slice none 0 0]) 3 48 Tryz.underlying23 HI.out HZ0.out HZ1.out HZ2.out rfl (by decide) (.slice bo m vc) m (flatP qs) (by rfl) ?c1 (.slice (some ⟨wr.heap.size, 0, none⟩) 1 1) 1 (flatP [(k, .slice bu mk bc)]) (by rfl) ?c2 ?c4 hML hMB ?c3 ?_; (case c1 => exact HOW.out.drew.alloc _); (case c2 => exact Or.inr ⟨_, _, rfl, rfl, new_cells wr.drew #[.int .i64 k.op, .string (tx k.name), .slice bu mk bc] _ _ rfl⟩); (case c4 => exact flatP_one fun p hp => by rw [List.mem_singleton.1 hp]; rfl); (case c3 => show _ ≤ (wr.alloc (Obj.cells #[.int .i64 k.op, .string (tx k.name), .slice bu mk bc] 25)).heap.size; rw [World.size_alloc]; omega); intro v3 w3 hown3 hgrow3; obtain ⟨q1, q2⟩ := HFA.out _ (Obj.cells #[.int .i64 k.op, .string (tx k.name), .slice bu mk bc] 25) hgrow3; obtain ⟨a3, c3, rfl⟩ := own_form hown3)
        all_goals (have F3 := hid (HNX.out _ _ (Obj.cells #[.int .i64 k.op, .string (tx k.name), .slice bu mk bc] 25) hgrow3 hown3); clear hown3 hgrow3; go_wp2; exact ⟨⟨j + 1, qs ++ [(k, .slice bu mk bc)], _, by omega, by go_num, F3⟩, by simp [intOf]; omega⟩)
    · have hkI : ¬ ((j : Int) < (n : Int)) := by omega
      have HTK := hid (show qs.map Prod.fst = flatK op ks by rw [HJ.out.fst, List.take_of_length_le (by have := HN.out; have h2 := congrArg List.length HKS.out; rw [List.length_map] at h2; omega)])
      have hfl : (flatK op ks).length = m := by rw [← HTK.out, HM.out]; simp
      have HFL := hid hfl
      have z0 : wr.cell? ⟨w.heap.size, 0, none⟩ = some (.int .i64 0) := by rw [cell_at hrx]; rfl
      have z1 : wr.cell? ⟨w.heap.size, 1, none⟩ = some (.string (tx [])) := by rw [cell_at hrx]; rfl
      have z2 : wr.cell? ⟨w.heap.size, 2, none⟩ = some (.slice none 0 0) := by rw [cell_at hrx]; rfl
      have y0 := frozen_of_row wr w.heap.size 0 _ _ hrx
      have y1 := frozen_of_row wr w.heap.size 1 _ _ hrx
      have y2 := frozen_of_row wr w.heap.size 2 _ _ hrx
      clear hfl hbx hrx
      by_cases h4 : op = 4
      · subst h4
        by_cases h1 : m = 1
        · subst h1
          obtain ⟨⟨k, pv⟩, hq⟩ : ∃ q, qs = [q] := List.length_eq_one_iff.1 HM.out.symm
          have HE := hid (show jdN 4 ks = k by unfold jdN; rw [if_pos ⟨rfl, HFL.out⟩, ← HTK.out, hq]; rfl)
          have hkid := HJ.out.kids (k, pv) (by rw [hq]; simp)
          obtain ⟨bu, bc, hpv⟩ := hkid.form
          dsimp only at hpv hkid
          subst hpv
          have HKID := hid hkid
          obtain ⟨g, cap1, e1, hg, hgl, hc⟩ := ownX_form HOW.out (by omega)
          injection e1 with e1 _ e2
          subst e1 e2
          have t0 := hc 0 _ (by rw [hq]; rfl)
          have t1 := hc 1 _ (by rw [hq]; rfl)
          have t2 := hc 2 _ (by rw [hq]; rfl)
          clear hc hq hkid
          obtain ⟨mk, hmk⟩ : ∃ mk, mk = k.kids.length := ⟨_, rfl⟩
          rw [← hmk] at HKID t2
          clear hmk
          go_wp2
          refine bodyPost_ret (v := .agg #[.int .i64 k.op, .string (tx k.name), .slice bu mk bc]) (by simp [results, Tryz.results26, go_sem, z0, z1, z2]) rfl ?_
          have hB : Below w.heap.size w (((wr.setCell ⟨w.heap.size, 0, none⟩ (.int .i64 k.op)).setCell ⟨w.heap.size, 1, none⟩ (.string (tx k.name))).setCell ⟨w.heap.size, 2, none⟩ (.slice bu mk bc)) := ((HJ.out.low.setCell (Nat.le_refl _) _).setCell (Nat.le_refl _) _).setCell (Nat.le_refl _) _
          exact ⟨bu, mk, bc, by rw [HE.out], by rw [HE.out]; exact HKID.out.low.on hB, hB⟩
        · have hmI : ((m : Int) == 1) = false := by rw [beq_eq_false_iff_ne]; omega
          have HE := hid (show jdN 4 ks = .mk 4 [] (flatK 4 ks) by unfold jdN; rw [if_neg (by rw [HFL.out]; exact fun h => h1 h.2)])
          have HFIN := hid (HJ.out.done HTK.out HE.out)
          clear h1
          go_wp2
          exact bodyPost_ret (v := .agg #[.int .i64 4, .string (tx []), .slice bo m vc]) (by simp [results, Tryz.results26, go_sem, z0, z1, z2]) rfl HFIN.out
      · have hoI : (op == 4) = false := by simpa using h4
        have HE := hid (show jdN op ks = .mk op [] (flatK op ks) by unfold jdN; rw [if_neg (fun h => h4 h.1)])
        have HFIN := hid (HJ.out.done HTK.out HE.out)
        clear h4
        go_wp2
        exact bodyPost_ret (v := .agg #[.int .i64 op, .string (tx []), .slice bo m vc]) (by simp [results, Tryz.results26, go_sem, z0, z1, z2]) rfl HFIN.out
end Go.Proofs.YtnmmfbhmfcabhaaGreatDoor
namespace Go.Proofs.YtnmmfbhmfcabhaaGreatDoor
open Go.RowKit

theorem oneR_fit {op : Int} {r : Rx} (h : r.Fit) : (oneR op r).Fit := Rx.Fit.mk (by simp [oneR, Rx.name]) fun k hk => by rw [List.mem_singleton.1 (show k ∈ [r] from hk)]; exact h
theorem flat_fit {op : Int} {ks : List Rx} (h : ∀ k ∈ ks, k.Fit) : ∀ k ∈ flatK op ks, k.Fit := by
  intro k hk
  obtain ⟨x, hx, hm⟩ := List.mem_flatMap.1 hk
  split at hm
  · exact (h x hx).kid hm
  · rw [List.mem_singleton.1 hm]; exact h x hx
theorem jdN_fit {op : Int} {ks : List Rx} (h : ∀ k ∈ ks, k.Fit) : (jdN op ks).Fit := by
  have hf := flat_fit (op := op) h
  unfold jdN
  split
  · rename_i h1
    obtain ⟨x, hx⟩ := List.length_eq_one_iff.1 h1.2
    rw [hx]
    exact hf x (by rw [hx]; simp)
  · exact Rx.Fit.mk (by simp [Rx.name]) fun k hk => hf k hk
theorem two_fit {a b : Rx} (ha : a.Fit) (hb : b.Fit) : ∀ k ∈ [a, b], k.Fit := fun k hk => by
  rcases List.mem_cons.1 hk with rfl | hk
  · exact ha
  · rw [List.mem_singleton.1 hk]; exact hb
/-- Two expressions side by side in a block. -/
theorem lie_two {W : World} {b : Nat} {x y : Rx} {vx vy : Value} (hb : W.heap[b]? = some (.cells #[.int .i64 x.op, .string (tx x.name), vx, .int .i64 y.op, .string (tx y.name), vy] 25 (0, 0))) (hx : RxS W vx x.kids) (hy : RxS W vy y.kids) : LieX allK W (.slice (some ⟨b, 0, none⟩) 2 2) [(x, vx), (y, vy)] := by
  refine ⟨⟨_, 2, rfl, Or.inr ⟨b, 0, rfl, (Array.getElem?_eq_some_iff.1 hb).1, fun i p hp => ?_⟩⟩, fun p hp => ?_⟩
  · match i, hp with
    | 0, hp => simp at hp; subst hp; exact ⟨by rw [cell_at hb]; rfl, by rw [cell_at hb]; rfl, by rw [cell_at hb]; rfl⟩
    | 1, hp => simp at hp; subst hp; exact ⟨by rw [cell_at hb]; rfl, by rw [cell_at hb]; rfl, by rw [cell_at hb]; rfl⟩
    | i + 2, hp => simp at hp
  · rcases List.mem_cons.1 hp with rfl | hp
    · exact hx.rxk
    · rw [List.mem_singleton.1 hp]; exact hy.rxk
/-- The document's Joined of two, side by side in a block. -/
theorem RJoined_two {W : World} {b : Nat} {x y : Rx} {vx vy : Value} (op : Int) (hb : W.heap[b]? = some (.cells #[.int .i64 x.op, .string (tx x.name), vx, .int .i64 y.op, .string (tx y.name), vy] 25 (0, 0))) (hx : RxS W vx x.kids) (hy : RxS W vy y.kids) (hn : x.nodes + y.nodes ≤ 1000000) :
    Calls Tryz.prog 26 #[.int .i64 op, .slice (some ⟨b, 0, none⟩) 2 2] W fun e w' => TellS W (jd2 op x y) e w' :=
  RJoined_any (lie_two hb hx hy) (by simp) (by simp [nodesL]; omega)
theorem jd2_eq (op : Int) (a b : Rx) : jdN op [a, b] = jd2 op a b := rfl


section
variable {Hd : World → Prop} {wA : World}
theorem mOne (HH : ∀ W, Below wA.heap.size wA W → Hd W) {V : World} (hV : Below wA.heap.size wA V) {x P : Rx} {v : Value} (hx : RxS V v x.kids) (op : Int) (hP : P = oneR op x) :
    Calls Tryz.prog 24 #[.int .i64 op, .agg #[.int .i64 x.op, .string (tx x.name), v]] V fun e w5 => ∃ u5 n5 c5, e = .returned (.agg #[.int .i64 P.op, .string (tx P.name), .slice u5 n5 c5]) ∧ Hd w5 ∧ Hid (RxS w5 (.slice u5 n5 c5) P.kids) ∧ Hid (Below wA.heap.size wA w5) ∧ Hid (Below V.heap.size V w5) := by
  refine (one_any (op := op) hx).mono ?_
  rintro e w5 ⟨u5, n5, c5, rfl, x5, l5⟩
  rw [← hP] at x5 ⊢
  exact ⟨u5, n5, c5, rfl, HH w5 (hV.trans (l5.out.mono hV.size)), x5, hV.trans (l5.out.mono hV.size), l5⟩
theorem mJoin (HH : ∀ W, Below wA.heap.size wA W → Hd W) {W : World} {b : Nat} {x y Q : Rx} {vx vy : Value} (op : Int) (hW : Below wA.heap.size wA W) (hb : W.heap[b]? = some (Obj.cells #[.int .i64 x.op, .string (tx x.name), vx, .int .i64 y.op, .string (tx y.name), vy] 25)) (hx : RxS W vx x.kids) (hy : RxS W vy y.kids) (hn : x.nodes + y.nodes ≤ 1000000) (hQ : Q = jd2 op x y) :
    Calls Tryz.prog 26 #[.int .i64 op, .slice (some ⟨b, 0, none⟩) 2 2] W fun e w6 => ∃ u6 n6 c6, e = .returned (.agg #[.int .i64 Q.op, .string (tx Q.name), .slice u6 n6 c6]) ∧ Hd w6 ∧ Hid (RxS w6 (.slice u6 n6 c6) Q.kids) ∧ Hid (Below wA.heap.size wA w6) ∧ Hid (Below W.heap.size W w6) := by
  refine (RJoined_two (x := x) (y := y) op hb hx hy hn).mono ?_
  rintro e w6 ⟨u6, n6, c6, rfl, x6, l6⟩
  rw [← hQ] at x6 ⊢
  exact ⟨u6, n6, c6, rfl, HH w6 (hW.trans (l6.out.mono hW.size)), x6, hW.trans (l6.out.mono hW.size), l6⟩
theorem mJoin_a (HH : ∀ W, Below wA.heap.size wA W → Hd W) {w5 : World} {x y Q : Rx} {vx vy : Value} (op : Int) (l5 : Below wA.heap.size wA w5) (hx : ∀ W, Below wA.heap.size wA W → RxS W vx x.kids) (hy : ∀ W, Below wA.heap.size wA W → RxS W vy y.kids) (hn : x.nodes + y.nodes ≤ 1000000) (hQ : Q = jd2 op x y) :
    Calls Tryz.prog 26 #[.int .i64 op, .slice (some ⟨w5.heap.size, 0, none⟩) 2 2] (w5.alloc (Obj.cells #[.int .i64 x.op, .string (tx x.name), vx, .int .i64 y.op, .string (tx y.name), vy] 25)) fun e w6 => ∃ u6 n6 c6, e = .returned (.agg #[.int .i64 Q.op, .string (tx Q.name), .slice u6 n6 c6]) ∧ Hd w6 ∧ Hid (RxS w6 (.slice u6 n6 c6) Q.kids) ∧ Hid (Below wA.heap.size wA w6) ∧ Hid (Below w5.heap.size w5 w6) := by
  have hw : Below w5.heap.size w5 (w5.alloc (Obj.cells #[.int .i64 x.op, .string (tx x.name), vx, .int .i64 y.op, .string (tx y.name), vy] 25)) := (Below.refl _ _).alloc (Nat.le_refl _) _
  have hb : Below wA.heap.size wA (w5.alloc (Obj.cells #[.int .i64 x.op, .string (tx x.name), vx, .int .i64 y.op, .string (tx y.name), vy] 25)) := l5.trans (hw.mono l5.size)
  refine (mJoin HH op hb (new_0 _ _) (hx _ hb) (hy _ hb) hn hQ).mono ?_
  rintro e w6 ⟨u6, n6, c6, rfl, s6, x6, k6, l6⟩
  exact ⟨u6, n6, c6, rfl, s6, x6, k6, hw.trans (l6.out.mono hw.size)⟩
theorem mJoin_b (HH : ∀ W, Below wA.heap.size wA W → Hd W) {V w5 : World} {x y Q : Rx} {vx vy : Value} (op : Int) (hV : Below wA.heap.size wA V) (l5 : Below (V.drew.alloc (Obj.cells #[.int .i64 x.op, .string (tx x.name), vx, .int .i64 y.op, .string (tx y.name), vy] 25)).heap.size (V.drew.alloc (Obj.cells #[.int .i64 x.op, .string (tx x.name), vx, .int .i64 y.op, .string (tx y.name), vy] 25)) w5) (hx : ∀ W, Below wA.heap.size wA W → RxS W vx x.kids) (hy : ∀ W, Below wA.heap.size wA W → RxS W vy y.kids) (hn : x.nodes + y.nodes ≤ 1000000) (hQ : Q = jd2 op x y) :
    Calls Tryz.prog 26 #[.int .i64 op, .slice (some ⟨V.heap.size, 0, none⟩) 2 2] w5 fun e w6 => ∃ u6 n6 c6, e = .returned (.agg #[.int .i64 Q.op, .string (tx Q.name), .slice u6 n6 c6]) ∧ Hd w6 ∧ Hid (RxS w6 (.slice u6 n6 c6) Q.kids) ∧ Hid (Below wA.heap.size wA w6) ∧ Hid (Below w5.heap.size w5 w6) := by
  have h0 : Below wA.heap.size wA (V.drew.alloc (Obj.cells #[.int .i64 x.op, .string (tx x.name), vx, .int .i64 y.op, .string (tx y.name), vy] 25)) := hV.drew.alloc hV.size _
  have hb : Below wA.heap.size wA w5 := h0.trans (l5.mono h0.size)
  refine (mJoin HH op hb ((l5.block _ (by simp)).trans (new_0 V.drew _)) (hx _ hb) (hy _ hb) hn hQ).mono ?_
  rintro e w6 ⟨u6, n6, c6, rfl, s6, x6, k6, l6⟩
  exact ⟨u6, n6, c6, rfl, s6, x6, k6, l6⟩
theorem mAlike (HH : ∀ W, Below wA.heap.size wA W → Hd W) {W : World} {P Q : Rx} {va vb vp : Value} {ps : Whos} (hW : Below wA.heap.size wA W) (fP : P.Fit) (fQ : Q.Fit) (hl : ∀ q, P.L q ↔ Q.L q) (hp : PathAt W vp ps) (hn : ps.length ≤ 1000000) (xa : RxS W va P.kids) (xb : RxS W vb Q.kids) :
    Calls Tryz.prog 25 #[.agg #[.int .i64 P.op, .string (tx P.name), va], .agg #[.int .i64 Q.op, .string (tx Q.name), vb], vp] W fun e w7 => e = .returned (.bool true) ∧ Hd w7 ∧ Hid (Below wA.heap.size wA w7) := by
  refine (alike9_any xa xb fP fQ hp hn (fun h1 h2 => match_alike hl h1 h2 _)).mono ?_
  rintro e w7 ⟨rfl, l7⟩
  exact ⟨rfl, HH w7 (hW.trans (l7.mono hW.size)), hW.trans (l7.mono hW.size)⟩
end
end Go.Proofs.YtnmmfbhmfcabhaaGreatDoor
