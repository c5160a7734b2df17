/-
  The law FibUndoes: of any width and any changes it answers true.
  Undo: what undoes changes.
  back: the changes that undo all of them, the last one's first: the walk.
  back: the changes that undo all of them, the last one's first.
-/
import Derived.Test.YtipmlcdnfaobiaaGreatVRUndo
import Derived.RangeFuncNested
import Derived.RangeFuncBound
import Derived.RangeFuncCalls
import Derived.RangeFuncLeaves
import Derived.RangeFuncBox
import Derived.Shelf.Abstract
import Derived.Shelf.RegionOpen
import Derived.OwnWalkIn
import Derived.TacticsInMore
import Derived.LoopNIn
import Derived.LoopIn
namespace Go.Proofs.YtipmlcdnfaobiaaGreat
open Go.RowKit Go.Shelf
attribute [local go_sem] Oper.semAt_some

theorem Backward_any (ao : Option Addr) (n c : Nat) (w : World) : Calls Tryz.prog 63 #[.slice ao n c] w fun e w' =>
    e = .returned (.func (.func 84) #[] #[.pointer (some ⟨w.heap.size, 0, none⟩)]) ∧
    w' = w.alloc (.cells #[.slice ao n c] 22) := by
  go_enter Tryz.func63, Tryz.ntmps63
  go_wp2
  go_ret
  exact ⟨rfl, rfl⟩
/-- The box of the row that is gone through, and the row, stay. -/
def KRow (bs g : Nat) (A B : World) : Prop := ∀ b, b = bs ∨ b = g → ∀ cs t r, A.heap[b]? = some (.cells cs t r) → B.heap[b]? = some (.cells cs t r)
theorem KRow.trans {bs g : Nat} {A B C : World} (h : KRow bs g A B) (k : KRow bs g B C) : KRow bs g A C := fun b hb cs t r hv => k b hb cs t r (h b hb cs t r hv)
theorem kRow_b {bs g : Nat} (W : World) (l : Nat) (o o' : Obj) (h : W.heap[l]? = some o) (hc : o.isCells = false) : KRow bs g W (W.putObj l o') := fun b _ cs t r hv => by
  have hne : b ≠ l := fun e => by
    subst e
    rw [hv] at h
    cases h
    cases hc
  rw [(grownBy_putObj' W l o').block b (lt_of_block hv) (fun e => hne (by injection e))]
  exact hv
/-- A change as a value. -/
def chV (us : List (Int × Raw × Value)) (i : Nat) : Value := match us[i]? with
  | some u => .agg #[.int .i64 u.1, .int .i64 u.2.1.prio, .string (tx u.2.1.mat), .int .i64 u.2.1.kind, u.2.2]
  | none => .agg #[]
theorem chV_at {us : List (Int × Raw × Value)} {i : Nat} {u : Int × Raw × Value} (h : us[i]? = some u) : chV us i = .agg #[.int .i64 u.1, .int .i64 u.2.1.prio, .string (tx u.2.1.mat), .int .i64 u.2.1.kind, u.2.2] := by unfold chV; rw [h]
theorem two_endsV {e : Ending} {p q : Prop} (h : (e = .returned (.bool true) ∧ p) ∨ (e = .returned (.bool false) ∧ q)) : ∃ b, e = .returned (.bool b) ∧ Hid ((b = true ∧ p) ∨ (b = false ∧ q)) := by
  rcases h with ⟨h, hp⟩ | ⟨h, hq⟩
  · exact ⟨true, h, Or.inl ⟨rfl, hp⟩⟩
  · exact ⟨false, h, Or.inr ⟨rfl, hq⟩⟩
/-- The row in memory, as the iterator has it. -/
structure BkAt (w : World) (bs g n c : Nat) (ao : Option Addr) (cur : Array Value) (us : List (Int × Raw × Value)) : Prop where
  box : w.heap[bs]? = some (.cells #[.slice ao n c] 22 (0, 0))
  row : 0 < n → ao = some ⟨g, 0, none⟩ ∧ w.heap[g]? = some (.cells cur 57 (0, 0))
theorem BkAt.krow {w w' : World} {bs g n c : Nat} {ao : Option Addr} {cur : Array Value} {us : List (Int × Raw × Value)} (h : BkAt w bs g n c ao cur us) (k : KRow bs g w w') : BkAt w' bs g n c ao cur us := ⟨k bs (Or.inl rfl) _ _ _ h.box, fun h0 => ⟨(h.row h0).1, k g (Or.inr rfl) _ _ _ (h.row h0).2⟩⟩
theorem rev_take {n q : Nat} (hq : q < n) : ((List.range n).reverse).take (n - q) = ((List.range n).reverse).take (n - (q + 1)) ++ [q] := by
  rw [show n - q = n - (q + 1) + 1 by omega, List.take_add_one, List.getElem?_reverse (by rw [List.length_range]; omega), List.length_range, show n - 1 - (n - (q + 1)) = q by omega, List.getElem?_range hq]
  rfl

set_option maxRecDepth 100000 in
set_option maxHeartbeats 2000000 in
theorem bk_stops {nn n c bs g : Nat} {ao : Option Addr} {cur : Array Value} {us : List (Int × Raw × Value)} (hn : 2 ≤ nn) (hl : us.length = n) (h63 : n * 64 ≤ 140737488355328) (hcur : ∀ (t : Nat) u, us[t]? = some u → cur[t * 5]? = some (.int .i64 u.1) ∧ cur[t * 5 + 1]? = some (.int .i64 u.2.1.prio) ∧ cur[t * 5 + 2]? = some (.string (tx u.2.1.mat)) ∧ cur[t * 5 + 3]? = some (.int .i64 u.2.1.kind) ∧ cur[t * 5 + 4]? = some u.2.2) (w : World) (hB : BkAt w bs g n c ao cur us) :
    SeqStopsK Fence.wide nn Tryz.prog 84 #[.pointer (some ⟨bs, 0, none⟩)] (fun i : Fin n => #[Value.int .i64 (i.val : Int), chV us i.val]) (KRow bs g)
      (fun xs => xs.map Fin.val = (List.range n).reverse) (fun _ => True) n w := fun l J Jx W hW hJ hJx hY h0 => by
  have hB1 : BkAt W bs g n c ao cur us := ⟨below_block hW hB.box (lt_of_block hB.box), fun h0 => ⟨(hB.row h0).1, below_block hW (hB.row h0).2 (lt_of_block (hB.row h0).2)⟩⟩
  have HB1 := hid hB1
  have HL := hid hl
  have HCR := hid hcur
  have cb : W.cell? ⟨bs, 0, none⟩ = some (.slice ao n c) := by rw [cell_at hB1.box]; rfl
  have hn1 : 1 ≤ nn := by omega
  clear hcur hl hB hB1
  refine callsIn_of_wp Tryz.func84 rfl trivial ?_ rfl
  simp only [Tryz.ntmps84, List.size_toArray, List.length_cons, List.length_nil, Nat.reduceAdd, Nat.reduceSub, Array.replicate_succ, Array.replicate_zero, List.push_toArray, List.append_toArray, List.nil_append, List.cons_append]
  gi_wp2
  gi_loopw [3] (fun vi wr => ∃ (s : Nat) (pre : List (Fin n)), s ≤ n ∧ vi = .int .i64 ((s : Int) - 1) ∧ Hid (pre.map Fin.val = (List.range n).reverse.take (n - s)) ∧ Hid (J pre wr ∧ BkAt wr bs g n c ao cur us)) (fun vi _ => (intOf vi + 1).toNat)
  case atStart => exact ⟨n, [], Nat.le_refl _, rfl, by show _ = _; rw [Nat.sub_self]; rfl, h0, HB1.out⟩
  case round =>
    obtain ⟨s, pre, hs, rfl, HP, HR⟩ := hrel
    by_cases hs0 : s = 0
    · subst hs0
      have HE := hid (show pre.map Fin.val = (List.range n).reverse by
        have := HP.out
        rw [Nat.sub_zero, List.take_of_length_le (by rw [List.length_reverse, List.length_range]; exact Nat.le_refl _)] at this
        exact this)
      gi_wp2
      go_end0
      exact ⟨⟨_, rfl⟩, .inl ⟨pre, HE.out, HR.out.1⟩⟩
    · obtain ⟨q, rfl⟩ : ∃ q, s = q + 1 := ⟨s - 1, by omega⟩
      obtain ⟨rfl, hrw⟩ := HR.out.2.row (by omega)
      have eq1 : (((q + 1 : Nat) : Int) - 1) = (q : Int) := by omega
      rw [eq1]
      have hqI : (q : Int) < (n : Int) := by omega
      have hq0 : (0 : Int) ≤ (q : Int) := by omega
      obtain ⟨u, hu⟩ : ∃ u, us[q]? = some u := ⟨us[q]'(by rw [HL.out]; omega), List.getElem?_eq_getElem _⟩
      have hlen : pre.length < n := by have := congrArg List.length HP.out; rw [List.length_map, List.length_take, List.length_reverse, List.length_range] at this; omega
      have hyq := hY pre ⟨q, by omega⟩ wr HR.out.1 hlen
      simp only [chV_at hu] at hyq
      have HP2 := hid (show (pre ++ [(⟨q, by omega⟩ : Fin n)]).map Fin.val = (List.range n).reverse.take (n - q) by rw [List.map_append, HP.out, rev_take (show q < n by omega)]; rfl)
      obtain ⟨k0, k1, k2, k3, k4⟩ := HCR.out q u hu
      have cb : wr.cell? ⟨bs, 0, none⟩ = some (.slice (some ⟨g, 0, none⟩) n c) := by rw [cell_at HR.out.2.box]; rfl
      have c0 : wr.cell? ⟨g, q * 5, none⟩ = some (.int .i64 u.1) := by rw [cell_at hrw]; exact k0
      have c1 : wr.cell? ⟨g, q * 5 + 1, none⟩ = some (.int .i64 u.2.1.prio) := by rw [cell_at hrw]; exact k1
      have c2 : wr.cell? ⟨g, q * 5 + 2, none⟩ = some (.string (tx u.2.1.mat)) := by rw [cell_at hrw]; exact k2
      have c3 : wr.cell? ⟨g, q * 5 + 3, none⟩ = some (.int .i64 u.2.1.kind) := by rw [cell_at hrw]; exact k3
      have c4 : wr.cell? ⟨g, q * 5 + 4, none⟩ = some u.2.2 := by rw [cell_at hrw]; exact k4
      obtain ⟨kd, ⟨p, m, k, zs⟩, uv⟩ := u
      simp only at c0 c1 c2 c3 c4 hyq
      obtain ⟨fn, tmps, assign, body, hy, hR⟩ := hyq.mono (fun e w hh => two_endsV hh)
      have hd1 : 1 ≤ nn - 1 := by omega
      clear hu k0 k1 k2 k3 k4 hyq eq1 hrw
      gi_wp2_with (refine hR.mono ?_; rintro e w' ⟨b, rfl, HE⟩)
      all_goals (rcases HE.out with ⟨rfl, hj, hkb⟩ | ⟨rfl, hjx⟩)
      all_goals first
        | (exact absurd (show (!true) = true by assumption) (by decide))
        | (exact absurd (show (!false) = false by assumption) (by decide))
        | (refine bodyPost_ret (results_none rfl _ _ _) rfl ?_
           exact ⟨⟨_, rfl⟩, .inr ⟨_, trivial, hjx⟩⟩)
        | (exact ⟨⟨q, _, by omega, rfl, HP2, hj, HR.out.2.krow hkb⟩, by simp [intOf]⟩)

def madeC (n : Nat) : Array Value := madeCells #[.int .i64 0, .int .i64 0, .string (tx []), .int .i64 0, .slice none 0 0] (n * 5)
theorem madeC_size (n : Nat) : (madeC n).size = n * 5 := size_madeCells _ _
theorem run_madeC (n : Nat) (hn : n * 64 ≤ 140737488355328) (w : World) :
    (Instr.makeSlice 22 (.int .i64 0) (.int .i64 (n : Int))).run Tryz.prog w = .ok (.slice (some ⟨w.heap.size, 0, none⟩) 0 n) (w.alloc (.cells (madeC n) 57)) := by
  obtain ⟨i, hi, hz0, hz1, hz2⟩ := info_parts Tryz.infoChange
  have := run_make (P := Tryz.prog) w 22 57 i (.agg #[.int .i64 0, .int .i64 0, .string (tx []), .int .i64 0, .slice none 0 0]) Tryz.underlying22 hi hz0 .i64 .i64 0 n (by omega) (by omega) (by rw [hz2]; omega) (by omega)
  have e : (.int .i64 0 : Value) = .int .i64 ((0 : Nat) : Int) := rfl
  rw [e]
  refine this.trans ?_
  rw [hz1]
  rfl

theorem OwnC.keepC {w w' : World} {B : Nat} {v : Value} {us : List (Int × Raw × Value)} (h : OwnC w B v us) (hk : ∀ (b : Nat) (cs : Array Value) (t : TypeId) (r : Nat × Nat), w.heap[b]? = some (.cells cs t r) → t ≠ 22 → w'.heap[b]? = some (.cells cs t r)) : OwnC w' B v us := by
  refine ⟨⟨h.row.1, ?_⟩, fun u hu => ?_⟩
  · rcases h.row.2 with q | ⟨g, cp, cur, e, hB, hh, q⟩
    · exact Or.inl q
    · exact Or.inr ⟨g, cp, cur, e, hB, hk _ _ _ _ hh (by decide), q⟩
  · obtain ⟨ao, cap, e1, e2, q | ⟨b, e3, e4, cs, e5, e6⟩⟩ := h.prt u hu
    · exact ⟨ao, cap, e1, e2, Or.inl q⟩
    · exact ⟨ao, cap, e1, e2, Or.inr ⟨b, e3, e4, cs, hk _ _ _ _ e5 (by decide), e6⟩⟩
/-- A change at a place. -/
def chAt (us : List (Int × Raw × Value)) (i : Nat) : Int × Raw := match us[i]? with
  | some u => (u.1, u.2.1)
  | none => (0, ⟨0, [], 0, []⟩)
theorem chAt_at {us : List (Int × Raw × Value)} {i : Nat} {u : Int × Raw × Value} (h : us[i]? = some u) : chAt us i = (u.1, u.2.1) := by unfold chAt; rw [h]
/-- Where back stands. -/
structure BackI (w : World) (us : List (Int × Raw × Value)) (g n c : Nat) (ao : Option Addr) (cur : Array Value) (pre : List (Fin n)) (W : World) : Prop where
  ex : ∃ v ys, W.heap[w.heap.size + 1]? = some (.cells #[v] 22 (0, 0)) ∧ OwnC W w.heap.size v ys ∧ ys.length = pre.length ∧ chs ys = pre.map fun i => chAt us i.val
  bk : BkAt W (w.heap.size + 1 + 1) g n c ao cur us
  low : Below w.heap.size w W
theorem BackI.keep {w W W' : World} {us : List (Int × Raw × Value)} {g n c : Nat} {ao : Option Addr} {cur : Array Value} {pre : List (Fin n)} (h : BackI w us g n c ao cur pre W) (hk : ∀ (b : Nat) (cs : Array Value) (t : TypeId) (r : Nat × Nat), W.heap[b]? = some (.cells cs t r) → W'.heap[b]? = some (.cells cs t r)) (hl : Below w.heap.size w W') : BackI w us g n c ao cur pre W' := by
  obtain ⟨v, ys, h1, h2, h3, h4⟩ := h.ex
  exact ⟨⟨v, ys, hk _ _ _ _ h1, h2.keepC (fun b cs t r hb _ => hk b cs t r hb), h3, h4⟩, ⟨hk _ _ _ _ h.bk.box, fun h0 => ⟨(h.bk.row h0).1, hk _ _ _ _ (h.bk.row h0).2⟩⟩, hl⟩
theorem backI_own {w : World} {us : List (Int × Raw × Value)} {g n c B : Nat} {ao : Option Addr} {cur : Array Value} (hB : w.heap.size ≤ B) : OwnFrom B (BackI w us g n c ao cur) := fun pre W W' row hs hg hr => by
  refine hs.keep (fun b cs t r hb => ?_) (hs.low.grown hg hs.low.size (fun k e => Nat.le_trans hB (hr k e).1))
  rw [hg.block b (lt_of_block hb) (fun e => by
    obtain ⟨_, o, ho, hc⟩ := hr b e.symm
    rw [hb] at ho
    cases ho
    cases hc)]
  exact hb

/-- append, under a name that the walk leaves. -/
def appV (ts : Array TypeId) (ty : TypeId) (args : Array Value) : Sem Value := Builtin.append_ ts ty args
theorem appV_fold {ts : Array TypeId} {ty : TypeId} {args : Array Value} : Builtin.append_ ts ty args = appV ts ty args := rfl
/-- A change is appended, behind a call, and its row put into its box. -/
theorem app_chg {w W w1 : World} {us ys : List (Int × Raw × Value)} {g n c j lc a3n c3 N : Nat} {cur : Array Value} {pre : List (Fin n)} {x : Fin n} {ao lo a3 : Option Addr} {kd p k : Int} {m : List UInt8} {zs : List (List UInt8)} {i0 : TypeInfo}
    (hv : W.heap[w.heap.size + 1]? = some (.cells #[.slice lo j lc] 22 (0, 0))) (ho : OwnC W w.heap.size (.slice lo j lc) ys) (hl : ys.length = j) (hj : j = pre.length) (hc : chs ys = pre.map fun i => chAt us i.val) (hbk : BkAt W (w.heap.size + 1 + 1) g n c ao cur us) (hlow : Below w.heap.size w W) (hgo : g < w.heap.size) (hx : chAt us x.val = (kd, ⟨p, m, k, zs⟩))
    (hb : Below W.drew.heap.size W.drew w1) (hp : Ported w1 W.drew.heap.size (.slice a3 a3n c3) zs) (hi : Tryz.prog.info? 57 = some i0) (hz0 : i0.zero = some (.agg #[.int .i64 0, .int .i64 0, .string (tx []), .int .i64 0, .slice none 0 0])) (hz1 : i0.size = 5) (hz2 : i0.bytes = 64) (h64 : (j + 1) * 64 ≤ 140737488355328) :
    ∃ a6 c6 w2, (appV #[22, 22] 22 #[.slice lo j lc, .slice (some ⟨w1.heap.size, 0, none⟩) 1 1]).run Tryz.prog (w1.alloc (cob5 kd p m k (.slice a3 a3n c3))) = .ok (.slice a6 (j + 1) c6) w2 ∧
      Hid (BackI w us g n c ao cur (pre ++ [x]) (w2.setCell ⟨w.heap.size + 1, 0, none⟩ (.slice a6 (j + 1) c6))) ∧ Hid (KeepsFrom N W (w2.setCell ⟨w.heap.size + 1, 0, none⟩ (.slice a6 (j + 1) c6))) ∧ Hid (KRow (w.heap.size + 1 + 1) g W (w2.setCell ⟨w.heap.size + 1, 0, none⟩ (.slice a6 (j + 1) c6))) ∧
      Hid (Below W.heap.size W w1) ∧ w1.cell? ⟨w.heap.size + 1, 0, none⟩ = some (.slice lo j lc) ∧ (∀ o, (w1.alloc o).cell? ⟨w.heap.size + 1, 0, none⟩ = some (.slice lo j lc)) ∧ w2.cell? ⟨w.heap.size + 1, 0, none⟩ = some (.slice lo j lc) ∧ w2.frozen? ⟨w.heap.size + 1, 0, none⟩ = false := by
  have hbW : Below W.heap.size W w1 := ⟨hb.os, hb.tape, hb.output, hb.size, fun k hk => hb.block k hk⟩
  have hX : Below W.heap.size W (w1.alloc (cob5 kd p m k (.slice a3 a3n c3))) := hbW.alloc hbW.size _
  have hnew := new_0 w1 (cob5 kd p m k (.slice a3 a3n c3))
  have hrow := (ho.on hX).row
  rw [hl] at hrow
  obtain ⟨v', w2, hrun, hown, hgr, _, _⟩ := run_append_own_at (P := Tryz.prog) (w1.alloc (cob5 kd p m k (.slice a3 a3n c3))) w.heap.size 22 22 57 i0 (.agg #[.int .i64 0, .int .i64 0, .string (tx []), .int .i64 0, .slice none 0 0]) 5 64 Tryz.underlying22 hi hz0 hz1 hz2 rfl (by decide) (.slice lo j lc) j (flatC ys) hrow ⟨w1.heap.size, 0, none⟩ 1 1 [.int .i64 kd, .int .i64 p, .string (tx m), .int .i64 k, .slice a3 a3n c3] rfl (World.news_of_block hnew) (by simp [Value.oneCell']) (by unfold maxLen; omega) (by omega) (Nat.le_trans hlow.size hX.size)
  obtain ⟨a6, c6, rfl⟩ := ownC_form hown
  obtain ⟨hO2, hL2⟩ := ho.next (r := ⟨p, m, k, zs⟩) (kd := kd) hl hlow hX ((hp.mono hlow.size).on ((Below.refl _ _).alloc (Nat.le_refl _) _)) hown hgr
  have hro := own_blockC hrow
  have hkeep : ∀ (b : Nat) (cs : Array Value) (t : TypeId) (r : Nat × Nat), W.heap[b]? = some (.cells cs t r) → (t ≠ 57 ∨ b < w.heap.size) → w2.heap[b]? = some (.cells cs t r) := fun b cs t r hb' hor => by
    have h1 := below_block hX hb' (lt_of_block hb')
    rw [hgr.block b (lt_of_block h1) (fun e => by
      obtain ⟨q1, cs', q2⟩ := hro b e.symm
      rcases hor with hor | hor
      · exact ne_type h1 q2 hor rfl
      · omega)]
    exact h1
  have hLB := hkeep _ _ _ _ hv (Or.inl (by decide))
  refine ⟨a6, c6, w2, hrun, ⟨⟨.slice a6 (j + 1) c6, ys ++ [(kd, ⟨p, m, k, zs⟩, .slice a3 a3n c3)], by rw [block_set (o := 0) _ hLB]; rfl, hO2.keepC (fun b cs t r hb' ht => block_other _ hb' (ne_type hb' hLB ht)), by rw [List.length_append, List.length_append, hl, hj]; rfl, by rw [List.map_append, ← hc]; simp [chs, hx]⟩, ⟨block_other _ (hkeep _ _ _ _ hbk.box (Or.inl (by decide))) (by omega), fun h0 => ⟨(hbk.row h0).1, block_other _ (hkeep _ _ _ _ (hbk.row h0).2 (Or.inr hgo)) (by omega)⟩⟩, hL2.setCell (p := ⟨w.heap.size + 1, 0, none⟩) (Nat.le_succ _) _⟩, ?_, ?_, hbW, ?_, ?_, ?_, free_of hLB⟩
  · refine ⟨?_, fun b o _ hb' ho' => ?_⟩
    · have := hgr.size
      have := hX.size
      simp
      omega
    · have h1 : (w1.alloc (cob5 kd p m k (.slice a3 a3n c3))).heap[b]? = some o := by rw [hX.block b (Array.getElem?_eq_some_iff.1 hb').1]; exact hb'
      have h2 : w2.heap[b]? = some o := by
        rw [hgr.block b (Array.getElem?_eq_some_iff.1 h1).1 (fun e => by
          obtain ⟨_, cs', q2⟩ := hro b e.symm
          rw [h1] at q2
          cases q2
          cases ho')]
        exact h1
      have hne : b ≠ w.heap.size + 1 := fun e => by
        subst e
        rw [hv] at hb'
        cases hb'
        cases ho'
      exact block_other _ h2 hne
  · intro b hb' cs t r hcs
    rcases hb' with rfl | rfl
    · rw [hbk.box] at hcs
      cases hcs
      exact block_other _ (hkeep _ _ _ _ hbk.box (Or.inl (by decide))) (by omega)
    · have hr0 := (hbk.row (Nat.lt_of_le_of_lt (Nat.zero_le _) x.isLt)).2
      rw [hr0] at hcs
      cases hcs
      exact block_other _ (hkeep _ _ _ _ hr0 (Or.inr hgo)) (by omega)
  · rw [cell_at (below_block hbW hv (lt_of_block hv))]; rfl
  · intro o
    rw [cell_at (new_old _ o (below_block hbW hv (lt_of_block hv)))]; rfl
  · rw [cell_at hLB]; rfl
end Go.Proofs.YtipmlcdnfaobiaaGreat
namespace Go.Proofs.YtipmlcdnfaobiaaGreat
open Go.RowKit Go.Shelf
attribute [local go_sem] Oper.semAt_some

theorem chAt_rev {us : List (Int × Raw × Value)} {n : Nat} {xs : List (Fin n)} (hl : us.length = n) (h : xs.map Fin.val = (List.range n).reverse) : xs.map (fun i => chAt us i.val) = (chs us).reverse := by
  have e : xs.map (fun i => chAt us i.val) = (xs.map Fin.val).map (chAt us) := by rw [List.map_map]; rfl
  rw [e, h, List.map_reverse]
  refine congrArg List.reverse ?_
  apply List.ext_getElem?
  intro i
  unfold chs
  rw [List.getElem?_map, List.getElem?_map]
  by_cases hi : i < n
  · obtain ⟨u, hu⟩ : ∃ u, us[i]? = some u := ⟨us[i]'(by rw [hl]; exact hi), List.getElem?_eq_getElem _⟩
    rw [List.getElem?_range hi, hu]
    show some (chAt us i) = _
    rw [chAt_at hu]
    rfl
  · rw [List.getElem?_eq_none (by rw [List.length_range]; omega), List.getElem?_eq_none (by rw [hl]; omega)]
    rfl

attribute [local go_sem ↓] appV_fold
set_option maxRecDepth 100000 in
set_option maxHeartbeats 4000000 in
theorem back_any {w : World} {B D g n c : Nat} {W num er : Int} {v : Value} {ao : Option Addr} {cur : Array Value} {us : List (Int × Raw × Value)} (hD : w.heap[D]? = some (tob W v num er (.slice ao n c))) (hl : us.length = n) (h64 : n * 64 ≤ 140737488355328) (hg : 0 < n → ao = some ⟨g, 0, none⟩ ∧ w.heap[g]? = some (.cells cur 57 (0, 0)))
    (hcur : ∀ (t : Nat) u, us[t]? = some u → cur[t * 5]? = some (.int .i64 u.1) ∧ cur[t * 5 + 1]? = some (.int .i64 u.2.1.prio) ∧ cur[t * 5 + 2]? = some (.string (tx u.2.1.mat)) ∧ cur[t * 5 + 3]? = some (.int .i64 u.2.1.kind) ∧ cur[t * 5 + 4]? = some u.2.2) (hp : ∀ u ∈ us, Ported w B u.2.2 u.2.1.ports) (hs : ∀ u ∈ us, Small u.2.1.mat u.2.1.ports) :
    Calls Tryz.prog 44 #[.pointer (some ⟨D, 0, none⟩)] w fun e w' => ∃ bo c' ys, e = .returned (.slice bo n c') ∧ Hid (OwnC w' w.heap.size (.slice bo n c') ys ∧ ys.length = n ∧ chs ys = (chs us).reverse ∧ Below w.heap.size w w') := by
  refine (callsIn_wide (n := 9)).1 ?_
  refine callsIn_of_wp_marks Tryz.func44 rfl trivial ?_ rfl
  simp only [Tryz.ntmps44, List.size_toArray, List.length_cons, List.length_nil, Nat.reduceAdd, Nat.reduceSub, Array.replicate_succ, Array.replicate_zero, List.push_toArray, List.append_toArray, List.nil_append, List.cons_append]
  have a4 : w.cell? ⟨D, 4, none⟩ = some (.slice ao n c) := by rw [cell_at hD]; rfl
  have hmk := run_madeC n h64
  have HBW := hid Backward_any
  have a4a : ∀ o, (w.alloc o).cell? ⟨D, 4, none⟩ = some (.slice ao n c) := fun o => alloc_cell a4 (lt_of_block hD) o
  have a4b : ∀ o o', ((w.alloc o).alloc o').cell? ⟨D, 4, none⟩ = some (.slice ao n c) := fun o o' => alloc_cell (a4a o) (by have := lt_of_block hD; simp; omega) o'
  gi_wp2_with (refine ⟨trivial, ?_⟩; gi_at_call 63; refine (callsIn_wide.2 (HBW.out _ _ _ _)).mono ?_; rintro e w' ⟨rfl, rfl⟩)
  obtain ⟨W2, hW2⟩ : ∃ W2, W2 = ((w.alloc (.cells (madeC n) 57)).alloc (.cells #[.slice (some ⟨w.heap.size, 0, none⟩) 0 n] 22)).alloc (.cells #[.slice ao n c] 22) := ⟨_, rfl⟩
  have hsz : W2.heap.size = w.heap.size + 1 + 1 + 1 := by rw [hW2]; simp
  have hlow : Below w.heap.size w W2 := by rw [hW2]; exact (((Below.refl _ _).alloc (Nat.le_refl _) _).alloc (by simp) _).alloc (by simp; omega) _
  have hrow0 : W2.heap[w.heap.size]? = some (.cells (madeC n) 57) := by rw [hW2]; exact new_old _ _ (new_old _ _ (new_0 _ _))
  have hbox0 : W2.heap[w.heap.size + 1]? = some (.cells #[.slice (some ⟨w.heap.size, 0, none⟩) 0 n] 22) := by rw [hW2]; exact new_old _ _ (new_1 _ _ _)
  have hbs0 : W2.heap[w.heap.size + 1 + 1]? = some (.cells #[.slice ao n c] 22) := by rw [hW2]; have := new_0 ((w.alloc (.cells (madeC n) 57)).alloc (.cells #[.slice (some ⟨w.heap.size, 0, none⟩) 0 n] 22)) (.cells #[.slice ao n c] 22); simpa using this
  have hI0 : BackI w us g n c ao cur [] W2 := ⟨⟨.slice (some ⟨w.heap.size, 0, none⟩) 0 n, [], hbox0, ⟨⟨rfl, Or.inr ⟨w.heap.size, n, _, rfl, Nat.le_refl _, hrow0, Nat.zero_le _, by unfold maxLen; omega, madeC_size n, by simp [flatC]⟩⟩, fun q hq => by cases hq⟩, rfl, rfl⟩, ⟨hbs0, fun h0 => ⟨(hg h0).1, below_block hlow (hg h0).2 (lt_of_block (hg h0).2)⟩⟩, hlow⟩
  rw [← hW2]
  have HD := hid hD
  have HL := hid hl
  have HG := hid hg
  have HCR := hid hcur
  have HPT := hid hp
  have HSM := hid hs
  have HLW := hid hlow
  have hlt : w.heap.size ≤ W2.heap.size := hlow.size
  have hB0 := hI0.bk
  clear hW2 hrow0 hbox0 hbs0 hmk a4 a4a a4b HBW hD hl hg hcur hp hs
  refine wpIn_rangeFunc_ownH rfl (by omega) (gf := 84) (lb := #[.pointer (some ⟨w.heap.size + 1 + 1, 0, none⟩)]) rfl trivial (enters_of Tryz.func84 (by kernel_rfl) rfl)
    (bk_stops (nn := 9 - 1) (by omega) HL.out h64 HCR.out W2 hB0) KRow.trans (fun W l o o' _ h hc _ => kRow_b W l o o' h hc) (Below.refl _ _) (fun _ => rfl)
    (BackI w us g n c ao cur) (fun _ _ _ => False) (backI_own hlt) (fun _ _ _ _ _ hs _ _ => hs) hI0
    (fun x a' W => ∃ cb : Nat, W2.heap.size ≤ cb ∧ a' = { tmps := #[.pointer (some ⟨D, 0, none⟩), undef, .slice none 0 0, .pointer (some ⟨w.heap.size + 1, 0, none⟩), undef, .pointer (some ⟨cb, 0, none⟩), .pointer (some ⟨D, 0, none⟩), .pointer (some ⟨D, 0, none⟩), .pointer (some ⟨D, 4, none⟩), .slice ao n c, .int .i64 (n : Int), .slice (some ⟨w.heap.size, 0, none⟩) 0 n, .pointer (some ⟨D, 0, none⟩), .pointer (some ⟨D, 0, none⟩), .pointer (some ⟨D, 4, none⟩), .slice ao n c, .func (.func 84) #[] #[.pointer (some ⟨w.heap.size + 1 + 1, 0, none⟩)], .int .i64 (x.val : Int), chV us x.val, undef, undef, undef, undef, undef, undef, undef, undef, undef, undef], defers := [] } ∧ ∃ u, us[x.val]? = some u ∧ W.heap[cb]? = some (cob5 u.1 u.2.1.prio u.2.1.mat u.2.1.kind u.2.2))
    (fun x a' s W W' row hs hg hr => ?ax) ?assign ?body ?done ?stop
  case ax =>
    obtain ⟨cb, h1, h2, u, h3, h4⟩ := hs
    refine ⟨cb, h1, h2, u, h3, ?_⟩
    rw [hg.block cb (lt_of_block h4) (fun e => by
      obtain ⟨_, o, ho, hc⟩ := hr cb e.symm
      rw [h4] at ho
      cases ho
      cases hc)]
    exact h4
  case assign =>
    intro l pre x W K hI hK
    obtain ⟨u, hu⟩ : ∃ u, us[x.val]? = some u := ⟨us[x.val]'(by rw [HL.out]; exact x.isLt), List.getElem?_eq_getElem _⟩
    have hpu := HPT.out u (List.mem_of_getElem? hu)
    obtain ⟨kd, ⟨p, m, k, zs⟩, uv⟩ := u
    obtain ⟨uo, uc, huv, -⟩ := hpu
    simp only at huv
    subst huv
    have hWs : W2.heap.size ≤ W.heap.size := by have := lt_of_block hI.bk.box; omega
    rw [chV_at hu]
    gi_wp2
    refine hK _ _ ⟨by simp, fun b o _ hb _ => ?_⟩ (fun b _ cs t r hb => new_old _ _ hb) (hI.keep (fun b cs t r hb => new_old _ _ hb) (hI.low.alloc hI.low.size _)) ⟨W.heap.size, hWs, by rw [chV_at hu], _, hu, new_0 _ _⟩
    rw [((Below.refl W.heap.size W).alloc (Nat.le_refl _) _).block b (Array.getElem?_eq_some_iff.1 hb).1]
    exact hb
  case body =>
    rintro l pre x a' W hl hlr hI ⟨cb, hcb, rfl, u, hu, hcbk⟩ hlt
    have hmx : Tryz.prog.follows .mixedOrders = true := by kernel_rfl
    obtain ⟨vv, ys, h1, h2, h3, h4⟩ := hI.ex
    obtain ⟨lo, lc, hvv⟩ := ownC_form h2.row
    obtain ⟨j, hj⟩ : ∃ j, j = ys.length := ⟨_, rfl⟩
    rw [← hj] at hvv h3
    subst hvv
    have hpu := HPT.out u (List.mem_of_getElem? hu)
    have hsu := HSM.out u (List.mem_of_getElem? hu)
    have hxu := chAt_at hu
    obtain ⟨kd, ⟨p, m, k, zs⟩, uv⟩ := u
    simp only at hpu hsu hxu hcbk
    have hpx := hpu
    obtain ⟨uo, uc, huv, -⟩ := hpu
    obtain ⟨un, hun⟩ : ∃ un, un = zs.length := ⟨_, rfl⟩
    rw [← hun] at huv
    subst huv
    have HCP := hid (show Calls Tryz.prog 38 #[.agg #[.int .i64 p, .string (tx m), .int .i64 k, .slice uo un uc]] W.drew fun e w' => ∃ a3 n3 c3, e = .returned (.agg #[.int .i64 p, .string (tx m), .int .i64 k, .slice a3 n3 c3]) ∧ Hid (Ported w' W.drew.heap.size (.slice a3 n3 c3) zs) ∧ Below W.drew.heap.size W.drew w' from (fcopyOf_any (p := p) (k := k) (m := m) ((hpx.on hI.low.drew).txs) (fun z hz => by have := hsu.2.2 z hz; unfold maxLen; omega) hsu).mono (by
      rintro e w' ⟨v', rfl, hp', hb'⟩
      obtain ⟨a3, c3, e3, _⟩ := hp'.out
      subst e3
      exact ⟨a3, _, c3, rfl, hp', hb'⟩))
    have hcl : W.cell? ⟨w.heap.size + 1, 0, none⟩ = some (.slice lo j lc) := by rw [cell_at h1]; rfl
    have e0 : W.cell? ⟨cb, 0, none⟩ = some (.int .i64 kd) := by rw [cell_at hcbk]; rfl
    have e1 : W.cell? ⟨cb, 1, none⟩ = some (.int .i64 p) := by rw [cell_at hcbk]; rfl
    have e2 : W.cell? ⟨cb, 2, none⟩ = some (.string (tx m)) := by rw [cell_at hcbk]; rfl
    have e3 : W.cell? ⟨cb, 3, none⟩ = some (.int .i64 k) := by rw [cell_at hcbk]; rfl
    have e4 : W.cell? ⟨cb, 4, none⟩ = some (.slice uo un uc) := by rw [cell_at hcbk]; rfl
    have hj64 : (j + 1) * 64 ≤ 140737488355328 := by rw [h3]; have := hlt; omega
    obtain ⟨i0, hi, hz0, hz1, hz2⟩ := info_parts Tryz.infoChange
    have HAP := hid (fun (w1 : World) (a3 : Option Addr) (n3 c3 : Nat) (hb : Below W.drew.heap.size W.drew w1) (hp : Ported w1 W.drew.heap.size (.slice a3 n3 c3) zs) => app_chg (N := W2.heap.size) h1 h2 hj.symm h3 h4 hI.bk hI.low (lt_of_block (HG.out (Nat.lt_of_le_of_lt (Nat.zero_le _) x.isLt)).2) hxu hb hp hi hz0 hz1 hz2 hj64)
    have HE0 := hid e0
    clear h1 h2 h3 h4 hj hpx hsu hxu hu hun hi hz0 hz1 hz2 hcbk hlr
    gi_wp2
    gi_region_with_o (refine ⟨trivial, ?_⟩; gi_at_call 38; refine (CallsIn.inRound l (callsIn_wide.2 HCP.out)).mono ?_; rintro e w1 ⟨a3, n3, c3, rfl, hp3, hb1⟩; obtain ⟨a6, c6, w2, hrun, H1, H2, H3, H4, cc1, cc2, cc3, cf⟩ := HAP.out w1 a3 n3 c3 hb1 hp3.out; have f0 := (H4.out.cell (block_old HE0.out)).trans HE0.out; clear hb1 hp3)
    all_goals gi_wp2
    all_goals exact ⟨H2.out, H3.out, H1.out⟩
  case done =>
    rintro D' xs W hD' hS hI hK
    obtain ⟨vv, ys, h1, h2, h3, h4⟩ := hI.ex
    obtain ⟨lo, lc, hvv⟩ := ownC_form h2.row
    have hxl : xs.length = n := by have := congrArg List.length hS; rw [List.length_map, List.length_reverse, List.length_range] at this; exact this
    rw [h3, hxl] at hvv
    subst hvv
    have hcl : W.cell? ⟨w.heap.size + 1, 0, none⟩ = some (.slice lo n lc) := by rw [cell_at h1]; rfl
    gi_wp2
    refine ⟨by simp, .inl ⟨_, _, rfl, run_takeDeferred hK, ?_⟩⟩
    have hkc : ∀ (b : Nat) (cs : Array Value) (t : TypeId) (r : Nat × Nat), W.heap[b]? = some (.cells cs t r) → (W.putObj D' (.deferred none)).heap[b]? = some (.cells cs t r) := fun b cs t r hb => kRow_b (bs := b) (g := b) W D' _ _ hK rfl b (Or.inl rfl) cs t r hb
    exact ⟨_, results_tmp rfl _ _ _, lo, lc, ys, rfl, h2.keepC (fun b cs t r hb _ => hkc b cs t r hb), h3.trans hxl, by rw [h4]; exact chAt_rev HL.out hS, hI.low.trans (belowK_b (w := w) (Nat.le_refl _) W D' _ _ (by omega) hK rfl rfl)⟩
  case stop =>
    rintro D' j pre W hD' hS h hK
    exact h.elim
end Go.Proofs.YtipmlcdnfaobiaaGreat
namespace Go.Proofs.YtipmlcdnfaobiaaGreat
open Go.RowKit

theorem undos_len {W : Int} {cs : List (Int × Raw)} : ∀ {L L' : List Raw} {i : Nat}, runN W L cs i = .ok L' → (undosN W L cs).length = cs.length := by
  induction cs with
  | nil => intro L L' i _; rfl
  | cons c cs ih =>
    intro L L' i h
    cases hs : stepN W L c.1 c.2 with
    | error e => rw [runN_no hs] at h; cases h
    | ok L1 =>
      rw [runN_ok hs] at h
      rw [undosN_ok hs, List.length_cons, List.length_cons, ih h]
theorem undo_small {W : Int} {L L1 : List Raw} {c : Int × Raw} (hg : GoodT W L) (hs : stepN W L c.1 c.2 = .ok L1) : Small (undoN L c.1 c.2).2.mat (undoN L c.1 c.2).2.ports := by
  obtain ⟨k, r⟩ := c
  obtain ⟨o1, -, -⟩ := step_okC (c := (k, r)) hs
  rcases o1 with ⟨h1, he, hn⟩ | ⟨h1, he, hn⟩ | ⟨h1, he, hn⟩
  · have h1 : k = 1 := h1
    subst h1
    have e : undoN L 1 r = (2, r) := by unfold undoN; rw [if_pos rfl]
    show Small (undoN L 1 r).2.mat (undoN L 1 r).2.ports
    rw [e]
    exact (errR_small he).1
  · have h1 : k = 2 := h1
    subst h1
    have e : undoN L 2 r = (1, oldR L r) := by unfold undoN; rw [if_neg (by decide), if_pos rfl]
    show Small (undoN L 2 r).2.mat (undoN L 2 r).2.ports
    rw [e]
    exact (errR_small (hg.ok _ (oldR_mem hg.srt hn).1)).1
  · have h1 : k = 3 := h1
    subst h1
    have e : undoN L 3 r = (3, oldR L r) := by unfold undoN; rw [if_neg (by decide), if_neg (by decide)]
    show Small (undoN L 3 r).2.mat (undoN L 3 r).2.ports
    rw [e]
    exact (errR_small (hg.ok _ (oldR_mem hg.srt hn).1)).1
theorem undos_small {W : Int} {cs : List (Int × Raw)} : ∀ {L : List Raw}, GoodT W L → ∀ u ∈ undosN W L cs, Small u.2.mat u.2.ports := by
  induction cs with
  | nil => intro L _ u hu; cases hu
  | cons c cs ih =>
    intro L hg u hu
    cases hs : stepN W L c.1 c.2 with
    | error e => rw [show undosN W L (c :: cs) = [] by simp [undosN, hs]] at hu; cases hu
    | ok L1 =>
      rw [undosN_ok hs] at hu
      rcases List.mem_cons.1 hu with hu | hu
      · rw [hu]; exact undo_small hg hs
      · exact ih (hg.step hs) u hu
theorem chs_small {us : List (Int × Raw × Value)} {us' : List (Int × Raw)} (h : ∀ u ∈ us', Small u.2.mat u.2.ports) (e : chs us = us') : ∀ u ∈ us, Small u.2.1.mat u.2.1.ports := fun u hu =>
  h (u.1, u.2.1) (by rw [← e]; exact List.mem_map_of_mem (f := fun u : Int × Raw × Value => (u.1, u.2.1)) hu)
theorem OwnC.mono {w : World} {B B' : Nat} {v : Value} {us : List (Int × Raw × Value)} (h : OwnC w B v us) (hB : B' ≤ B) : OwnC w B' v us := by
  refine ⟨⟨h.row.1, ?_⟩, fun u hu => (h.prt u hu).mono hB⟩
  rcases h.row.2 with q | ⟨g, cp, cur, e, hB2, q⟩
  · exact Or.inl q
  · exact Or.inr ⟨g, cp, cur, e, Nat.le_trans hB hB2, q⟩
theorem ownC_cur {w : World} {B n c : Nat} {bo : Option Addr} {us : List (Int × Raw × Value)} (h : w.ownsRow B 57 5 (.slice bo n c) n (flatC us)) (hl : us.length = n) : ∃ (g : Nat) (cur : Array Value), (0 < n → bo = some ⟨g, 0, none⟩ ∧ w.heap[g]? = some (.cells cur 57 (0, 0))) ∧
    ∀ (t : Nat) u, us[t]? = some u → cur[t * 5]? = some (.int .i64 u.1) ∧ cur[t * 5 + 1]? = some (.int .i64 u.2.1.prio) ∧ cur[t * 5 + 2]? = some (.string (tx u.2.1.mat)) ∧ cur[t * 5 + 3]? = some (.int .i64 u.2.1.kind) ∧ cur[t * 5 + 4]? = some u.2.2 := by
  rcases h.2 with ⟨_, h0⟩ | ⟨g, cap, cur, e, _, hh, _, _, _, ht⟩
  · refine ⟨0, #[], fun h => by omega, fun t u hu => ?_⟩
    have := (List.getElem?_eq_some_iff.1 hu).1
    omega
  · injection e with e1 e2 e3
    have get : ∀ (j : Nat) (x : Value), (flatC us)[j]? = some x → cur[j]? = some x := fun j x hj => by
      rw [← ht, List.getElem?_take] at hj
      split at hj
      · rw [← Array.getElem?_toList]; exact hj
      · cases hj
    refine ⟨g, cur, fun _ => ⟨e1, hh⟩, fun t u hu => ?_⟩
    obtain ⟨h0, h1, h2, h3, h4⟩ := flatC_get hu
    exact ⟨get _ _ h0, get _ _ h1, get _ _ h2, get _ _ h3, get _ _ h4⟩

set_option maxRecDepth 20000 in
set_option maxHeartbeats 4000000 in
theorem Undo_any {w : World} {Bp tb n cap : Nat} {ao : Option Addr} {W : Int} {L : List Raw} {cs : List (Int × Raw × Value)} (h : FTab w Bp tb W L) (hc : ChIn w ao cs) (hn : cs.length = n) (h64 : n * 64 ≤ 140737488355328) :
    Calls Tryz.prog 25 #[.pointer (some ⟨tb, 0, none⟩), .slice ao n cap] w fun e w' => RUndPost w W L (chs cs) e w' := by
  obtain ⟨v, ps, ht, rfl⟩ := h.ex
  have HT := hid ht
  have hbase := h.base
  have htb := lt_of_block ht.blk
  have HTR := hid (try_any (cap := cap) ht (Nat.le_of_lt (Nat.lt_of_le_of_lt hbase htb)) hc hn h64)
  have HMD := hid (made_yes ht.blk)
  have HN := hid hn
  clear ht h hc hn
  go_enter Tryz.func25, Tryz.ntmps25
  go_wp2_with fail
  refine HMD.out.mono ?_
  rintro en w1 ⟨rfl, hw1⟩
  have hw1' := hw1.symm
  clear hw1
  subst hw1'
  go_wp2_with fail
  refine HTR.out.mono ?_
  rintro en w2 ⟨hb2, ⟨v', vu', ps', us', num, hrun, rfl, hown, -, hund, hup, hue⟩ | ⟨i, er, hrun, h0, rfl⟩⟩
  · obtain ⟨al, cl, hv', -⟩ := hown.form
    obtain ⟨au, cu, hvu⟩ := ownC_form hund
    obtain ⟨ql, hql⟩ : ∃ ql, ql = ps'.length := ⟨_, rfl⟩
    obtain ⟨m, hm⟩ : ∃ m, m = us'.length := ⟨_, rfl⟩
    rw [← hql] at hv'
    rw [← hm] at hvu hund
    subst hv' hvu
    have HFIN := hid (show ∀ X, Below w2.heap.size w2 X → X.heap[w2.heap.size]? = some (tob W (.slice al ql cl) num 0 (.slice au m cu)) → Calls Tryz.prog 44 #[.pointer (some ⟨w2.heap.size, 0, none⟩)] X fun e w' => ∃ bo c', e = .returned (.slice bo m c') ∧ Hid (RUndPost w W (ps.map Prod.fst) (chs cs) (.returned (.tuple #[.slice bo m c', .int .i64 0, .int .i64 0])) w') from fun X hX hT => by
      have hX2 := below_2 hb2 hX
      have hml : us'.length = n := by
        have e := congrArg List.length hue
        rw [List.length_map, undos_len hrun, List.length_map, HN.out] at e
        exact e
      obtain ⟨g, cur, hgc, hcr⟩ := ownC_cur (show X.ownsRow w.heap.size 57 5 (.slice au m cu) m (flatC us') from by
        refine ⟨hund.1, ?_⟩
        rcases hund.2 with q | ⟨g, cp, cur, e, hB, hh, q⟩
        · exact Or.inl q
        · exact Or.inr ⟨g, cp, cur, e, hB, below_block hX hh (lt_of_block hh), q⟩) hm.symm
      refine (back_any hT hm.symm (by rw [hm, hml]; exact h64) hgc hcr (fun u hu => (hup u hu).on hX) (chs_small (undos_small HT.out.good) hue)).mono ?_
      rintro e w' ⟨bo, c', ys, rfl, ho⟩
      obtain ⟨o1, o2, o3, o4⟩ := ho.out
      have hue : chs us' = undosN W (ps.map Prod.fst) (chs cs) := hue
      exact ⟨bo, c', rfl, below_2 hX2 o4, Or.inl ⟨_, bo, m, c', ys, hrun, rfl, o1.mono hX2.size, o2, by rw [o3, hue]⟩⟩)
    have hTn := new_0 w2 (tob W (.slice al ql cl) num 0 (.slice au m cu))
    have HTN := hid hTn
    have HBX := hid (show Below w2.heap.size w2 (w2.alloc (tob W (.slice al ql cl) num 0 (.slice au m cu))) from (Below.refl _ _).alloc (Nat.le_refl _) _)
    clear hown hund hrun hup hue hTn hb2 hql hm
    go_wp2_with fail
    refine (HFIN.out _ HBX.out HTN.out).mono ?_
    rintro en w3 ⟨bo, c', rfl, HP⟩
    clear HFIN
    go_wp2
    refine bodyPost_ret (v := .tuple #[.slice bo m c', .int .i64 0, .int .i64 0]) (by simp [results, Tryz.results25, go_sem]) rfl HP.out
  · have HFIN := hid (show ∀ o nq, RUndPost w W (ps.map Prod.fst) (chs cs) (.returned (.tuple #[.slice none 0 0, .int .i64 i, .int .i64 er])) ((w2.alloc o).drewN nq) from fun o nq => by
      have hb1 : Below w.heap.size w (w2.alloc o) := hb2.alloc hb2.size _
      exact ⟨below_drewN (n := nq) hb1, Or.inr ⟨i, er, hrun, h0, rfl⟩⟩)
    have hne : (er != 0) = true := by rw [bne_iff_ne]; exact h0
    clear hrun hb2 h0
    go_wp2_with fail
    go_quiet (fail)
    go_wp2
    refine bodyPost_ret (v := .tuple #[.slice none 0 0, .int .i64 i, .int .i64 er]) (by simp [results, Tryz.results25, go_sem]) rfl ?_
    exact HFIN.out (tob 0 (.slice none 0 0) i er (.slice none 0 0)) _
end Go.Proofs.YtipmlcdnfaobiaaGreat
namespace Go.Proofs.YtipmlcdnfaobiaaGreat
open Go.RowKit

theorem OwnC.grew {w w' : World} {B b : Nat} {v : Value} {us : List (Int × Raw × Value)} {cs : Array Value} {r : Nat × Nat} (h : OwnC w B v us) (hg : w.grownBy w' (some b)) (hb : w.heap[b]? = some (.cells cs 72 r)) : OwnC w' B v us := by
  refine ⟨⟨h.row.1, ?_⟩, fun u hu => (h.prt u hu).grewB hg hb (by decide)⟩
  rcases h.row.2 with q | ⟨g, cp, cur, e, hB, hh, q⟩
  · exact Or.inl q
  · refine Or.inr ⟨g, cp, cur, e, hB, ?_, q⟩
    rw [hg.block g (lt_of_block hh) (fun e => by injection e with e; exact ne_type hh hb (by decide) e)]
    exact hh
/-- What Undo tells, by its numbers. -/
def UndV (W : Int) (L : List Raw) (cs : List (Int × Raw)) (x y : Int) (us : List (Int × Raw × Value)) : Prop :=
  (∃ L', y = 0 ∧ x = 0 ∧ runN W L cs 0 = .ok L' ∧ chs us = (undosN W L cs).reverse) ∨ (∃ i : Nat, y ≠ 0 ∧ x = i ∧ runN W L cs 0 = .error (i, y) ∧ us = [])
theorem UndV.uniq {W : Int} {L : List Raw} {cs : List (Int × Raw)} {x y x' y' : Int} {us us' : List (Int × Raw × Value)} (h : UndV W L cs x y us) (h' : UndV W L cs x' y' us') : x' = x ∧ y' = y ∧ chs us = chs us' := by
  rcases h with ⟨L1, h1, h2, h3, h4⟩ | ⟨i, h1, h2, h3, h4⟩
  · rcases h' with ⟨L2, k1, k2, k3, k4⟩ | ⟨j, k1, k2, k3, k4⟩
    · exact ⟨k2.trans h2.symm, k1.trans h1.symm, h4.trans k4.symm⟩
    · rw [h3] at k3; cases k3
  · rcases h' with ⟨L2, k1, k2, k3, k4⟩ | ⟨j, k1, k2, k3, k4⟩
    · rw [h3] at k3; cases k3
    · rw [h3] at k3
      injection k3 with k3
      injection k3 with k3 k5
      exact ⟨by rw [h2, k2, k3], k5.symm, by rw [h4, k4]⟩
theorem UndV.small {W : Int} {L : List Raw} {cs : List (Int × Raw)} {x y : Int} {us : List (Int × Raw × Value)} (hg : GoodT W L) (h : UndV W L cs x y us) : ∀ u ∈ us, Small u.2.1.mat u.2.1.ports := by
  rcases h with ⟨_, _, _, _, h⟩ | ⟨_, _, _, _, h⟩
  · exact chs_small (fun u hu => undos_small hg u (List.mem_reverse.1 hu)) h
  · intro u hu; rw [h] at hu; cases hu
theorem UndV.len {W : Int} {L : List Raw} {cs : List (Int × Raw)} {x y : Int} {us : List (Int × Raw × Value)} (h : UndV W L cs x y us) : us.length ≤ cs.length := by
  rcases h with ⟨_, _, _, hr, h⟩ | ⟨_, _, _, _, h⟩
  · have := congrArg List.length h
    rw [List.length_map, List.length_reverse, undos_len hr] at this
    omega
  · rw [h]; exact Nat.zero_le _
theorem RUndPost.form {w w' : World} {W : Int} {L : List Raw} {cs : List (Int × Raw)} {e : Ending} (h : RUndPost w W L cs e w') : ∃ (a : Option Addr) (n c : Nat) (us : List (Int × Raw × Value)) (x y : Int), e = .returned (.tuple #[.slice a n c, .int .i64 x, .int .i64 y]) ∧ us.length = n ∧ Hid (OwnC w' w.heap.size (.slice a n c) us) ∧ Hid (UndV W L cs x y us) ∧ Hid (Below w.heap.size w w') := by
  obtain ⟨hb, ⟨L', ao, n, c, us, h1, h2, h3, h4, h5⟩ | ⟨i, er, h1, h2, h3⟩⟩ := h
  · exact ⟨ao, n, c, us, 0, 0, h2, h4, h3, Or.inl ⟨L', rfl, rfl, h1, h5⟩, hb⟩
  · exact ⟨none, 0, 0, [], i, er, h3, rfl, ⟨World.ownsRow_nil _ _ _ _, fun q hq => by cases hq⟩, Or.inr ⟨i, h2, rfl, h1, rfl⟩, hb⟩

set_option maxRecDepth 20000 in
set_option maxHeartbeats 4000000 in
theorem fundoes_bad {w : World} {ao bo : Option Addr} {n cap n2 cap2 : Nat} {W : Int} (h : ¬ (1 ≤ W ∧ W ≤ 128)) : Calls Tryz.prog 6 #[.int .i64 W, .slice ao n cap, .slice bo n2 cap2] w fun e w' => e = .returned (.bool true) ∧ Below w.heap.size w w' := by
  have HM := hid (made_bad (w := w) (ao := ao) (n := n) (cap := cap) h)
  have p2 := eqlR_two
  go_enter Tryz.func6, Tryz.ntmps6
  go_wp2_with fail
  refine HM.out.mono ?_
  rintro en w1 ⟨rfl, hb1⟩
  have B1 := hid hb1
  clear hb1
  go_wp2_with (go_at_call 10; refine (fawake _).mono ?_; rintro e wz ⟨rfl, hbz⟩; have BZ := hid (below_2 B1.out hbz); clear hbz)
  go_ret
  exact ⟨rfl, BZ.out⟩

set_option maxRecDepth 20000 in
set_option maxHeartbeats 8000000 in
theorem fundoes_good {w : World} {ao bo : Option Addr} {n cap n2 cap2 : Nat} {W : Int} {cs ds : List (Int × Raw × Value)} (h : 1 ≤ W ∧ W ≤ 128) (hc : ChIn w ao cs) (hn : cs.length = n) (hnc : n ≤ cap) (hs : ∀ u ∈ cs, Small u.2.1.mat u.2.1.ports) (h63 : n ≤ maxLen)
    (hd : ChIn w bo ds) (hdn : ds.length = n2) (hds : ∀ u ∈ ds, Small u.2.1.mat u.2.1.ports) (hd64 : n2 * 64 ≤ 140737488355328) : Calls Tryz.prog 6 #[.int .i64 W, .slice ao n cap, .slice bo n2 cap2] w fun e w' => e = .returned (.bool true) ∧ Below w.heap.size w w' := by
  have HM := hid (made_good h hc hn hnc hs h63)
  have HG := hid (madeN_good h ((chs cs).take 100))
  have HC := hid hd
  have HN := hid hdn
  have HS := hid hds
  have p2 := eqlR_none
  obtain ⟨L, hL⟩ : ∃ L, L = madeN W ((chs cs).take 100) := ⟨_, rfl⟩
  rw [← hL] at HM HG
  clear hc hn hs hd hdn hds hL
  go_enter Tryz.func6, Tryz.ntmps6
  go_wp2_with fail
  refine HM.out.mono ?_
  rintro en w1 ⟨tb, rb, rfl, h1⟩
  have B1 := hid h1.out
  clear h1
  go_wp2_with (first | (go_at_call 10; refine (fawake _).mono ?_; rintro e wz ⟨rfl, hbz⟩; have BZ := hid (B1.out.on hbz); clear hbz) | fail)
  have HU := hid (Undo_any (cap := cap2) BZ.out.fib (HC.out.on BZ.out.low) HN.out hd64)
  clear HM B1 p2
  refine HU.out.mono ?_
  rintro en w2 hp2
  obtain ⟨a, m, c, us, x, y, rfl, hm, O2, V2, K2⟩ := hp2.form
  have B2 := hid (BZ.out.on K2.out)
  have HRU := hid (RUndo_any (cap := cap2) B2.out.doc B2.out.low.size HG.out (HC.out.on B2.out.low) HN.out HS.out hd64)
  clear hp2 HU
  go_wp2_with fail
  refine HRU.out.mono ?_
  rintro en w3 hp3
  obtain ⟨b, m', c', us', x', y', rfl, hm', O3, V3, K3⟩ := hp3.form
  obtain ⟨hxx, hyy, hch⟩ := V2.out.uniq V3.out
  rw [hxx, hyy] at V3
  rw [hxx, hyy]
  have hmm : m' = m := by
    have e := congrArg List.length hch
    rw [List.length_map, List.length_map] at e
    omega
  rw [hmm] at hm' O3
  rw [hmm]
  have B3 := hid (B2.out.on K3.out)
  have hm2 : m ≤ n2 := by
    have := V2.out.len
    rw [List.length_map, HN.out] at this
    omega
  have HSC := hid (SameChanges_eq (w := w3.drew) (c1 := c) (c2 := c') ((((O2.out.on K3.out).on ((Below.refl _ _).drew)).chIn hm (V2.out.small HG.out)).1) (((O3.out.on ((Below.refl _ _).drew)).chIn hm' (V3.out.small HG.out)).1) hm hm' hch (fun u hu => by have := (V2.out.small HG.out u hu).2.1; unfold maxLen; omega) (by unfold maxLen; omega))
  have OA := hid (O2.out.on K3.out)
  have HMU := hid hm
  clear hp3 HRU hch hm hm' O3 V3 K2 K3 B2 BZ O2 hxx hyy hmm
  have exx : (x != x) = false := by simp
  have eyy : (y != y) = false := by simp
  obtain ⟨lo, nl, lc, -, hS0, hr1⟩ := two_rows B3.out.fib B3.out.doc
  have HR1 := hid hr1
  clear hr1
  go_wp2_with fail
  go_region_held2 (fun W' => W'.cell? ⟨rb, 1, none⟩ = some (.slice lo nl lc)) (first | exact hS0 | exact hS1 | exact hS2 | exact hS3) (first | (go_at_call 27; refine HSC.out.mono ?_; rintro en w4 ⟨rfl, hb4⟩; have HB4 := hid (below_2 ((Below.refl w3.heap.size w3).drew) hb4); have hS1 := (HB4.out.cell (block_old hS0)).trans hS0; clear hb4) | (go_at_call 12; refine (HR1.out _ HB4.out).mono ?_; rintro en w5 ⟨a5, n5, c5, rfl, hb5, hS2, hsm⟩; have HSM := hid hsm; have HB5 := hid (below_2 HB4.out hb5); clear hb5 hsm) | (go_at_call 11; refine HSM.out.mono ?_; rintro en w6 ⟨rfl, hb6⟩; have hS3 := (hb6.cell (block_old hS2)).trans hS2; have B6 := hid (B3.out.on (below_2 HB5.out hb6)); have OC := hid (OA.out.on (below_2 HB5.out hb6)); clear hb6))
  clear hS0 hS1 hS2 hS3 HR1 HSM HB4 HB5 OA B3 HSC exx eyy
  rcases V2.out with ⟨L', hy, -, hrun, hun⟩ | ⟨i, hy, -, -, -⟩
  · subst hy
    have HRUN := hid hrun
    have HUN := hid hun
    have HDO := hid (Do_any (cap := cap2) B6.out.fib (HC.out.on B6.out.low) HN.out hd64)
    clear hrun hun
    go_wp2_with fail
    refine HDO.out.mono ?_
    rintro en w7 ⟨hg7, hd7⟩
    rw [HRUN.out] at hd7
    obtain ⟨rfl, HF7⟩ : en = .returned (.tuple #[.int .i64 0, .int .i64 0]) ∧ Hid (FTab w7 w.heap.size tb W L') := by
      rcases hd7 with ⟨L5, h1, h2, h3⟩ | ⟨i5, er, h1, _⟩
      · injection h1 with h1; subst h1; exact ⟨h2, h3⟩
      · cases h1
    have HL7 := hid (grown_low B6.out.low hg7 B6.out.ot)
    have HX7 := hid (show DTab w7 w.heap.size rb W L ∧ ChIn w7 a us from by
      obtain ⟨cc, hcc⟩ := B6.out.fib.blk
      exact ⟨B6.out.doc.grew hg7 hcc, ((OC.out.grew hg7 hcc).chIn HMU.out (V2.out.small HG.out)).1⟩)
    have HD2 := hid (Do_any (cap := c) HF7.out HX7.out.2 HMU.out (by omega))
    have HRB := hid (show runN W L' (chs us) 0 = .ok L by rw [HUN.out]; exact run_undo HG.out HRUN.out)
    clear hg7 hd7 HDO OC
    go_wp2_with fail
    refine HD2.out.mono ?_
    rintro en w8 ⟨hg8, hd8⟩
    rw [HRB.out] at hd8
    obtain ⟨rfl, HF8⟩ : en = .returned (.tuple #[.int .i64 0, .int .i64 0]) ∧ Hid (FTab w8 w.heap.size tb W L) := by
      rcases hd8 with ⟨L5, h1, h2, h3⟩ | ⟨i5, er, h1, _⟩
      · injection h1 with h1; subst h1; exact ⟨h2, h3⟩
      · cases h1
    have HL8 := hid (grown_low HL7.out hg8 B6.out.ot)
    have HX8 := hid (show DTab w8 w.heap.size rb W L from by
      obtain ⟨cc, hcc⟩ := HF7.out.blk
      exact HX7.out.1.grew hg8 hcc)
    clear hg8 hd8 HD2 HX7 HF7 HL7 HRB
    obtain ⟨lo8, nl8, lc8, -, hT0, hr8⟩ := two_rows HF8.out HX8.out
    have HR8 := hid hr8
    clear hr8
    go_wp2_with fail
    go_region_held2 (fun W' => W'.cell? ⟨rb, 1, none⟩ = some (.slice lo8 nl8 lc8)) (first | exact hT0 | exact hT2 | exact hT3) (first | (go_at_call 12; refine (HR8.out _ ((Below.refl _ _).drew)).mono ?_; rintro en w9 ⟨a9, n9, c9, rfl, hb9, hT2, hsm9⟩; have HSM9 := hid hsm9; have HB9 := hid (below_2 ((Below.refl w8.heap.size w8).drew) hb9); clear hb9 hsm9) | (go_at_call 11; refine HSM9.out.mono ?_; rintro en w10 ⟨rfl, hb10⟩; have hT3 := (hb10.cell (block_old hT2)).trans hT2; have HB10 := hid (below_2 HL8.out (below_2 HB9.out hb10)); clear hb10))
    clear hT0 hT2 hT3 HR8 HSM9
    go_wp2
    go_ret
    exact ⟨rfl, HB10.out⟩
  · have hne : (y != 0) = true := by rw [bne_iff_ne]; exact hy
    clear hy
    go_wp2
    go_ret
    exact ⟨rfl, B6.out.low⟩
theorem fundoes_any {w : World} {ao bo : Option Addr} {n cap n2 cap2 : Nat} {W : Int} {cs ds : List (Int × Raw × Value)} (hc : ChIn w ao cs) (hn : cs.length = n) (hnc : n ≤ cap) (hs : ∀ u ∈ cs, Small u.2.1.mat u.2.1.ports) (h64 : n * 64 ≤ 140737488355328)
    (hd : ChIn w bo ds) (hdn : ds.length = n2) (hds : ∀ u ∈ ds, Small u.2.1.mat u.2.1.ports) (hd64 : n2 * 64 ≤ 140737488355328) : Calls Tryz.prog 6 #[.int .i64 W, .slice ao n cap, .slice bo n2 cap2] w fun e w' => e = .returned (.bool true) ∧ Below w.heap.size w w' := by
  by_cases h : 1 ≤ W ∧ W ≤ 128
  · exact fundoes_good h hc hn hnc hs (by unfold maxLen; omega) hd hdn hds hd64
  · exact fundoes_bad h
end Go.Proofs.YtipmlcdnfaobiaaGreat
