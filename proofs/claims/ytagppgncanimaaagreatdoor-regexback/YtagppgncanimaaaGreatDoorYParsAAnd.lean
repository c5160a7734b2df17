/-
  The program's placeOf: some place.
  The program's Read of any words.
  The program's parse of any words.
-/
import Derived.Test.YtagppgncanimaaaGreatDoorYBadWAnd
import Derived.Test.YtagppgncanimaaaGreatDoorYNamedAnd
namespace Go.Proofs.YtagppgncanimaaaGreatDoor
open Go.RowKit

/-- What parse comes to. -/
inductive Out where
  | fault (a : Nat)
  | deep (b : Nat)
  | ok (A P : List Rx)
def endM (n b : Nat) : GpX → Out
  | [(A, P)] => if P.isEmpty = true then .fault n else if b = 0 then .ok A P else .deep b
  | _ => .fault n
def stepM (ts : List (List UInt8)) (a b : Nat) (G : GpX) : Res := match G.getLast? with
  | none => .bad a
  | some g => stepL ts a b G.dropLast g.1 g.2
theorem stepM_snoc (ts : List (List UInt8)) (a b : Nat) (Gi : GpX) (A P : List Rx) : stepM ts a b (Gi ++ [(A, P)]) = stepL ts a b Gi A P := by simp [stepM]
def runM (ts : List (List UInt8)) : Nat → Nat → Nat → GpX → Out
  | 0, _, _, _ => .fault 0
  | k + 1, a, b, G => if a < ts.length then (match stepM ts a b G with
    | .go a' b' G' => runM ts k a' b' G'
    | .bad f => .fault f) else endM ts.length b G
theorem runM_end {ts : List (List UInt8)} {k a b : Nat} {G : GpX} (ha : a = ts.length) : runM ts (k + 1) a b G = endM ts.length b G := by rw [runM, if_neg (by omega)]
theorem runM_go {ts : List (List UInt8)} {k a b a' b' : Nat} {Gi G' : GpX} {A P : List Rx} (ha : a < ts.length) (h : stepL ts a b Gi A P = .go a' b' G') : runM ts (k + 1) a b (Gi ++ [(A, P)]) = runM ts k a' b' G' := by rw [runM, if_pos ha, stepM_snoc, h]
theorem runM_bad {ts : List (List UInt8)} {k a b f : Nat} {Gi : GpX} {A P : List Rx} (ha : a < ts.length) (h : stepL ts a b Gi A P = .bad f) : runM ts (k + 1) a b (Gi ++ [(A, P)]) = .fault f := by rw [runM, if_pos ha, stepM_snoc, h]
/-- An expression's Kids, in blocks of expressions of one's own from a number on. -/
def RxO (w : World) (n : Nat) (v : Value) (ks : List Rx) : Prop := ∃ K, RxK K w v ks ∧ ∀ k, K k → n ≤ k ∧ ∃ cs, w.heap[k]? = some (.cells cs 25 (0, 0))
theorem RxO.low {w : World} {n : Nat} {v : Value} {ks : List Rx} (h : RxO w n v ks) : RxS w v ks := by
  obtain ⟨K, h1, _⟩ := h
  exact h1.low
theorem RxO.on {w w' : World} {n : Nat} {v : Value} {ks : List Rx} (h : RxO w n v ks) (hs : w.heap.size ≤ w'.heap.size) (hk : ∀ k, n ≤ k → k < w.heap.size → w'.heap[k]? = w.heap[k]?) : RxO w' n v ks := by
  obtain ⟨K, h1, h2⟩ := h
  refine ⟨K, h1.on ⟨hs, fun k hK hl => hk k (h2 k hK).1 hl⟩, fun k hK => ⟨(h2 k hK).1, ?_⟩⟩
  obtain ⟨cs, hc⟩ := (h2 k hK).2
  exact ⟨cs, (hk k (h2 k hK).1 (Array.getElem?_eq_some_iff.1 hc).1).trans hc⟩
theorem RxO.mono {w : World} {n m : Nat} {v : Value} {ks : List Rx} (h : RxO w n v ks) (hm : m ≤ n) : RxO w m v ks := by
  obtain ⟨K, h1, h2⟩ := h
  exact ⟨K, h1, fun k hK => ⟨by have := (h2 k hK).1; omega, (h2 k hK).2⟩⟩
/-- What the program's parse tells. -/
def PrOut (w : World) (O : Out) (e : Ending) (w' : World) : Prop := match O with
  | .fault f => e = .returned (.tuple #[.agg #[.int .i64 0, .string (tx []), .slice none 0 0], .int .i64 f, .int .i64 90])
  | .deep b => e = .returned (.tuple #[.agg #[.int .i64 0, .string (tx []), .slice none 0 0], .int .i64 b, .int .i64 91])
  | .ok A P => ∃ u n c, e = .returned (.tuple #[.agg #[.int .i64 (wholeR A P).op, .string (tx (wholeR A P).name), .slice u n c], .int .i64 0, .int .i64 0]) ∧ Hid (RxO w' w.heap.size (.slice u n c) (wholeR A P).kids)

theorem fault_cellsX {W : World} {n : Nat} {x y : Value} {ca : Array Value} {ta tb tc : TypeId} (e0 : W.heap[n]? = some (.cells ca ta (0, 0))) (e1 : W.heap[n + 1]? = some (.cells #[x] tb (0, 0))) (e2 : W.heap[n + 1 + 1]? = some (.cells #[y] tc (0, 0))) (u v : Value) :
    ((W.setCell ⟨n + 1, 0, none⟩ u).setCell ⟨n + 1 + 1, 0, none⟩ v).heap[n]? = some (.cells ca ta (0, 0)) ∧ ((W.setCell ⟨n + 1, 0, none⟩ u).setCell ⟨n + 1 + 1, 0, none⟩ v).heap[n + 1]? = some (.cells #[u] tb (0, 0)) ∧ ((W.setCell ⟨n + 1, 0, none⟩ u).setCell ⟨n + 1 + 1, 0, none⟩ v).heap[n + 1 + 1]? = some (.cells #[v] tc (0, 0)) := by
  have g2 : (W.setCell ⟨n + 1, 0, none⟩ u).heap[n + 1 + 1]? = some (.cells #[y] tc (0, 0)) := by rw [Below.heap_setCell _ _ _ _ (by show n + 1 + 1 ≠ n + 1; omega)]; exact e2
  refine ⟨?_, ?_, ?_⟩
  · rw [Below.heap_setCell _ _ _ _ (by show n ≠ n + 1 + 1; omega), Below.heap_setCell _ _ _ _ (by show n ≠ n + 1; omega)]; exact e0
  · rw [Below.heap_setCell _ _ _ _ (by show n + 1 ≠ n + 1 + 1; omega), heap_setCell_same W (n + 1) 0 _ _ _ e1]; rfl
  · rw [heap_setCell_same _ (n + 1 + 1) 0 _ _ _ g2]; rfl

theorem parse_caught {pb n a : Nat} {x y : Value} (w : World) (h1 : w.cell? ⟨pb, 1, none⟩ = some (.int .i64 a)) (a1 : w.cell? ⟨n + 1, 0, none⟩ = some x) (a2 : w.cell? ⟨n + 1 + 1, 0, none⟩ = some y) (f1 : w.frozen? ⟨n + 1, 0, none⟩ = false) (f2 : w.frozen? ⟨n + 1 + 1, 0, none⟩ = false) :
    CallsD Tryz.prog 89 #[.pointer (some ⟨pb, 0, none⟩), .pointer (some ⟨n + 1, 0, none⟩), .pointer (some ⟨n + 1 + 1, 0, none⟩)] (.panicking panX) w fun e u' w' =>
      e = .returned (.tuple #[]) ∧ u' = .panicking [{ v := .iface 26 (.int .i64 90), recovered := true }] ∧
      w' = (w.setCell ⟨n + 1, 0, none⟩ (.int .i64 a)).setCell ⟨n + 1 + 1, 0, none⟩ (.int .i64 90) := by
  refine callsD_of_wpS Tryz.func89 rfl fun c₀ cs hu => ?_
  apply wpS_seq
  apply wpS_region
  simp [wpOpsS, go_sem, recoverD, hu, Tryz.ntmps89, Exit.thenS]
  refine wpS_cond (t := true) (by simp [Act.eval, Array.replicate]) ?_
  simp only [if_true]
  apply wpS_region
  simp [wpOpsS, go_sem, h1, a1, a2, f1, f2, bodyPostS, results, Tryz.results89]

set_option maxRecDepth 20000 in
set_option maxHeartbeats 4000000 in
theorem parse_any {w : World} {v : Value} {ts : List (List UInt8)} (hW : WdAt w v ts) (hl : ts.length ≤ 99000) (htl : ∀ t ∈ ts, t.length ≤ 1048576) :
    Calls Tryz.prog 60 #[v] w fun e w' => PrOut w (runM ts (ts.length + 1) 0 0 [([], [])]) e w' ∧ Below w.heap.size w w' := by
  have hmf : ∀ (fn : Fn) (first cap : Array Value) (w : World), (Instr.makeFunc fn first cap).run Tryz.prog w = .ok (.func fn first cap) w := fun _ _ _ _ => rfl
  have hmk := run_groups
  have hWd := hW
  obtain ⟨ao, cap, rfl, -⟩ := hW
  have HWW := hid (show ∀ W, Below w.heap.size w W → WdAt W (.slice ao ts.length cap) ts from fun W hb => hWd.on hb)
  obtain ⟨n, hnn⟩ : ∃ n, n = ts.length := ⟨_, rfl⟩
  have HN := hid hnn
  obtain ⟨O, hO⟩ : ∃ O, O = runM ts (ts.length + 1) 0 0 [([], [])] := ⟨_, rfl⟩
  rw [← hO]
  have HO0 := hid hO
  have HTL := hid htl
  rw [← hnn] at HWW hl ⊢
  clear hWd hnn hO htl
  go_enter_defers Tryz.func60, Tryz.ntmps60
  go_wp2_with fail
  generalize hw0 : ((((w.alloc (Obj.cells #[.int .i64 0, .string ⟨#[]⟩, .slice none 0 0] 25)).alloc (Obj.cells #[.int .i64 0] 3)).alloc (Obj.cells #[.int .i64 0] 26)).alloc (Obj.cells #[.slice none 0 0, .slice none 0 0] 147)).alloc (Obj.cells #[.slice ao n cap, .int .i64 0, .slice (some ⟨w.heap.size + 1 + 1 + 1, 0, none⟩) 1 1, .int .i64 0] 143) = w0
  have hst : w0.heap.size = w.heap.size + 5 ∧ w0.heap[w.heap.size]? = some (.cells #[.int .i64 0, .string ⟨#[]⟩, .slice none 0 0] 25 (0, 0)) ∧ w0.heap[w.heap.size + 1]? = some (.cells #[.int .i64 0] 3 (0, 0)) ∧ w0.heap[w.heap.size + 1 + 1]? = some (.cells #[.int .i64 0] 26 (0, 0)) ∧ PS (w.heap.size + 3) w0 (w.heap.size + 1 + 1 + 1 + 1) (.slice ao n cap) 0 0 [([], [])] ∧ Below w.heap.size w w0 := by
    generalize ha : Obj.cells #[.int .i64 0, .string ⟨#[]⟩, .slice none 0 0] 25 = oa at hw0
    generalize hb : Obj.cells #[.int .i64 0] 3 = ob at hw0
    generalize hc : Obj.cells #[.int .i64 0] 26 = oc at hw0
    generalize hd : Obj.cells #[.slice none 0 0, .slice none 0 0] 147 = od at hw0
    generalize he : Obj.cells #[.slice ao n cap, .int .i64 0, .slice (some ⟨w.heap.size + 1 + 1 + 1, 0, none⟩) 1 1, .int .i64 0] 143 = oe at hw0
    have e1 : (w.alloc oa).heap.size = w.heap.size + 1 := by simp
    have e2 : ((w.alloc oa).alloc ob).heap.size = w.heap.size + 1 + 1 := by simp
    have e3 : (((w.alloc oa).alloc ob).alloc oc).heap.size = w.heap.size + 1 + 1 + 1 := by simp
    have e4 : ((((w.alloc oa).alloc ob).alloc oc).alloc od).heap.size = w.heap.size + 1 + 1 + 1 + 1 := by simp
    have q0 : w0.heap[w.heap.size]? = some oa := by rw [← hw0, Below.heap_alloc _ _ _ (by omega), Below.heap_alloc _ _ _ (by omega), Below.heap_alloc _ _ _ (by omega), Below.heap_alloc _ _ _ (by omega)]; exact new_0 _ _
    have q1 : w0.heap[w.heap.size + 1]? = some ob := by rw [← hw0, Below.heap_alloc _ _ _ (by omega), Below.heap_alloc _ _ _ (by omega), Below.heap_alloc _ _ _ (by omega), ← e1]; exact new_0 _ _
    have q2 : w0.heap[w.heap.size + 1 + 1]? = some oc := by rw [← hw0, Below.heap_alloc _ _ _ (by omega), Below.heap_alloc _ _ _ (by omega), ← e2]; exact new_0 _ _
    have q3 : w0.heap[w.heap.size + 1 + 1 + 1]? = some od := by rw [← hw0, Below.heap_alloc _ _ _ (by omega), ← e3]; exact new_0 _ _
    have q4 : w0.heap[w.heap.size + 1 + 1 + 1 + 1]? = some oe := by rw [← hw0, ← e4]; exact new_0 _ _
    have e5 : w0.heap.size = w.heap.size + 5 := by rw [← hw0]; simp
    rw [← hd] at q3
    rw [← he] at q4
    refine ⟨e5, q0, q1, q2, ⟨fun _ => False, .slice (some ⟨w.heap.size + 1 + 1 + 1, 0, none⟩) 1 1, [Grp.new], ⟨by omega, q4, ⟨rfl, Or.inr ⟨w.heap.size + 1 + 1 + 1, 1, #[.slice none 0 0, .slice none 0 0], rfl, by omega, q3, Nat.le_refl _, by decide, rfl, rfl⟩⟩, fun _ h => h.elim, fun g hg => by rw [List.mem_singleton.1 hg]; exact RowX.nil _ _ _, fun g hg => by rw [List.mem_singleton.1 hg]; exact RowX.nil _ _ _, by simp [Grp.blocks, Grp.new, Value.ownBlock], fun _ _ _ _ h => h, fun _ h => h.elim⟩, rfl⟩, ?_⟩
    rw [← hw0]
    exact (((((Below.refl _ _).alloc (Nat.le_refl _) _).alloc (by omega) _).alloc (by omega) _).alloc (by omega) _).alloc (by omega) _
  clear hw0
  obtain ⟨hs0, b0, b1, b2, hps0, hB0⟩ := hst
  have HBX := hid (fun (W : World) (hb : Below (w.heap.size + 3) w0 W) => (by
    have e0 := (hb.block w.heap.size (by omega)).trans b0
    have e1 := (hb.block (w.heap.size + 1) (by omega)).trans b1
    have e2 := (hb.block (w.heap.size + 1 + 1) (by omega)).trans b2
    exact ⟨⟨by rw [cell_at e0]; rfl, by rw [cell_at e0]; rfl, by rw [cell_at e0]; rfl, by rw [cell_at e1]; rfl, by rw [cell_at e2]; rfl⟩, free_of e0, free_of e0, free_of e0, free_of e1, free_of e2⟩ : (W.cell? ⟨w.heap.size, 0, none⟩ = some (.int .i64 0) ∧ W.cell? ⟨w.heap.size, 1, none⟩ = some (.string ⟨#[]⟩) ∧ W.cell? ⟨w.heap.size, 2, none⟩ = some (.slice none 0 0) ∧ W.cell? ⟨w.heap.size + 1, 0, none⟩ = some (.int .i64 0) ∧ W.cell? ⟨w.heap.size + 1 + 1, 0, none⟩ = some (.int .i64 0)) ∧ W.frozen? ⟨w.heap.size, 0, none⟩ = false ∧ W.frozen? ⟨w.heap.size, 1, none⟩ = false ∧ W.frozen? ⟨w.heap.size, 2, none⟩ = false ∧ W.frozen? ⟨w.heap.size + 1, 0, none⟩ = false ∧ W.frozen? ⟨w.heap.size + 1 + 1, 0, none⟩ = false))
  have HBK := hid (fun (W : World) (hb : Below (w.heap.size + 3) w0 W) => (by
    exact ⟨(hb.block w.heap.size (by omega)).trans b0, (hb.block (w.heap.size + 1) (by omega)).trans b1, (hb.block (w.heap.size + 1 + 1) (by omega)).trans b2⟩ : W.heap[w.heap.size]? = some (.cells #[.int .i64 0, .string ⟨#[]⟩, .slice none 0 0] 25 (0, 0)) ∧ W.heap[w.heap.size + 1]? = some (.cells #[.int .i64 0] 3 (0, 0)) ∧ W.heap[w.heap.size + 1 + 1]? = some (.cells #[.int .i64 0] 26 (0, 0))))
  have HPS0 := hid hps0
  have HB0 := hid hB0
  clear hps0 hB0 b0 b1 b2
  have HCG := hid (fun (W : World) (a b : Nat) (G : GpX) (hp : PS (w.heap.size + 3) W (w.heap.size + 1 + 1 + 1 + 1) (.slice ao n cap) a b G) (hb : Below (w.heap.size + 3) w0 W) => (by
    obtain ⟨⟨x0, x1, x2, x3, x4⟩, f0, f1, f2, f3, f4⟩ := HBX.out W hb
    exact parse_caught W hp.cells.2.1 x3 x4 f3 f4 : CallsD Tryz.prog 89 #[.pointer (some ⟨w.heap.size + 1 + 1 + 1 + 1, 0, none⟩), .pointer (some ⟨w.heap.size + 1, 0, none⟩), .pointer (some ⟨w.heap.size + 1 + 1, 0, none⟩)] (.panicking panX) W fun e u' w' =>
      e = .returned (.tuple #[]) ∧ u' = .panicking [{ v := .iface 26 (.int .i64 90), recovered := true }] ∧
      w' = (W.setCell ⟨w.heap.size + 1, 0, none⟩ (.int .i64 a)).setCell ⟨w.heap.size + 1 + 1, 0, none⟩ (.int .i64 90)))
  have HFT := hid (fun (W : World) (a : Nat) (hO : O = .fault a) (hb : Below (w.heap.size + 3) w0 W) => (by
    obtain ⟨e0, e1, e2⟩ := HBK.out W hb
    obtain ⟨k0, k1, k2⟩ := fault_cellsX (n := w.heap.size) e0 e1 e2 (.int .i64 a) (.int .i64 90)
    refine ⟨⟨by rw [cell_at k0]; rfl, by rw [cell_at k0]; rfl, by rw [cell_at k0]; rfl, by rw [cell_at k1]; rfl, by rw [cell_at k2]; rfl⟩, by rw [hO]; rfl, ?_⟩
    have hb2 := HB0.out.trans (hb.mono (show w.heap.size ≤ w.heap.size + 3 by omega))
    exact (hb2.setCell (by show w.heap.size ≤ w.heap.size + 1; omega) _).setCell (by show w.heap.size ≤ w.heap.size + 1 + 1; omega) _ : (((W.setCell ⟨w.heap.size + 1, 0, none⟩ (.int .i64 a)).setCell ⟨w.heap.size + 1 + 1, 0, none⟩ (.int .i64 90)).cell? ⟨w.heap.size, 0, none⟩ = some (.int .i64 0) ∧ ((W.setCell ⟨w.heap.size + 1, 0, none⟩ (.int .i64 a)).setCell ⟨w.heap.size + 1 + 1, 0, none⟩ (.int .i64 90)).cell? ⟨w.heap.size, 1, none⟩ = some (.string ⟨#[]⟩) ∧ ((W.setCell ⟨w.heap.size + 1, 0, none⟩ (.int .i64 a)).setCell ⟨w.heap.size + 1 + 1, 0, none⟩ (.int .i64 90)).cell? ⟨w.heap.size, 2, none⟩ = some (.slice none 0 0) ∧ ((W.setCell ⟨w.heap.size + 1, 0, none⟩ (.int .i64 a)).setCell ⟨w.heap.size + 1 + 1, 0, none⟩ (.int .i64 90)).cell? ⟨w.heap.size + 1, 0, none⟩ = some (.int .i64 a) ∧ ((W.setCell ⟨w.heap.size + 1, 0, none⟩ (.int .i64 a)).setCell ⟨w.heap.size + 1 + 1, 0, none⟩ (.int .i64 90)).cell? ⟨w.heap.size + 1 + 1, 0, none⟩ = some (.int .i64 90)) ∧ PrOut w O (.returned (.tuple #[.agg #[.int .i64 0, .string (tx []), .slice none 0 0], .int .i64 a, .int .i64 90])) ((W.setCell ⟨w.heap.size + 1, 0, none⟩ (.int .i64 a)).setCell ⟨w.heap.size + 1 + 1, 0, none⟩ (.int .i64 90)) ∧ Below w.heap.size w ((W.setCell ⟨w.heap.size + 1, 0, none⟩ (.int .i64 a)).setCell ⟨w.heap.size + 1 + 1, 0, none⟩ (.int .i64 90))))
  go_loopw [] (fun wr => Hid (∃ (k a b : Nat) (G : GpX), PS (w.heap.size + 3) wr (w.heap.size + 1 + 1 + 1 + 1) (.slice ao n cap) a b G ∧ G ≠ [] ∧ a ≤ n ∧ n < a + k ∧ O = runM ts k a b G ∧ nodesG G ≤ 2 * a ∧ G.length ≤ a + 1 ∧ Below (w.heap.size + 3) w0 wr)) (fun wr => n - (intOf ((wr.cell? ⟨w.heap.size + 1 + 1 + 1 + 1, 1, none⟩).getD undef)).toNat)
  case atStart => exact ⟨n + 1, 0, 0, _, HPS0.out, by simp, by omega, by omega, by have := HO0.out; rw [← HN.out] at this; exact this, by simp [nodesG, nodesL], by simp, Below.refl _ _⟩
  case round =>
    obtain ⟨k, a, b, G, hps, hGne, han, hk, hO, hng, hgl, hb⟩ := hrel.out
    obtain ⟨Gi, ⟨A, P⟩, rfl⟩ := snoc_of hGne
    obtain ⟨k, rfl⟩ : ∃ k', k = k' + 1 := ⟨k - 1, by omega⟩
    obtain ⟨c0, c1, -, -⟩ := hps.cells
    have HPS := hid hps
    have HBB := hid hb
    have HDN := hid (done_any c0 c1)
    have hGil : Gi.length ≤ a := by simp at hgl; exact hgl
    by_cases hlt : a < n
    · rw [decide_eq_false (by omega : ¬ a = n)] at HDN
      have hat : a < ts.length := by rw [← HN.out]; exact hlt
      obtain ⟨RS, hRS⟩ : ∃ RS, RS = stepL ts a b Gi A P := ⟨_, rfl⟩
      have HCC := hid (fun (w1 : World) (hb1 : Below wr.heap.size wr w1) => (by
        have hsr := HPS.out.cells.2.2.2
        have hB1 : Below (w.heap.size + 3) wr w1 := hb1.mono (by omega)
        have := word_step (HPS.out.below hb1) (fun W hW => HWW.out W (HB0.out.trans (((hb.trans hB1).trans hW).mono (by omega)))) hat HTL.out (by rw [← HN.out]; omega) (by omega) (by omega)
        rw [← hRS] at this
        exact this : Calls Tryz.prog 91 #[.pointer (some ⟨w.heap.size + 1 + 1 + 1 + 1, 0, none⟩)] w1 fun en w2 => StOut (w.heap.size + 3) w1 (w.heap.size + 1 + 1 + 1 + 1) (.slice ao n cap) b (Gi ++ [(A, P)]) RS en w2))
      have HBT := hid (fun (w1 w2 : World) (hb1 : Below wr.heap.size wr w1) (hb2 : Below (w.heap.size + 3) w1 w2) => (by
        have hsr := HPS.out.cells.2.2.2
        exact (hb.trans (hb1.mono (by omega))).trans hb2 : Below (w.heap.size + 3) w0 w2))
      cases RS with
      | go a' b' G' =>
        have hrun := hO.trans (runM_go hat hRS.symm)
        obtain ⟨q1, q2, q3, q4, q5⟩ := stepL_inv hat hRS.symm
        have HQ := hid (show G' ≠ [] ∧ a' ≤ n ∧ n < a' + k ∧ O = runM ts k a' b' G' ∧ nodesG G' ≤ 2 * a' ∧ G'.length ≤ a' + 1 from ⟨q3, by rw [HN.out]; exact q2, by omega, hrun, by omega, by omega⟩)
        have HAA := hid q1
        clear hps hb hrel hO hRS hrun q1 q2 q3 q4 q5 hng hgl
        go_wp2_with fail
        refine HDN.out.mono ?_
        rintro en w1 ⟨rfl, hb1⟩
        have HC1 := hid (HCC.out w1 hb1)
        have B1 := hid hb1
        clear hb1
        go_wp2_with fail
        refine HC1.out.mono ?_
        rintro en w2 ⟨rfl, hps2, hb2⟩
        have c2 := hps2.cells.2.1
        have R2 := hid (show ∃ (k a b : Nat) (G : GpX), PS (w.heap.size + 3) w2 (w.heap.size + 1 + 1 + 1 + 1) (.slice ao n cap) a b G ∧ G ≠ [] ∧ a ≤ n ∧ n < a + k ∧ O = runM ts k a b G ∧ nodesG G ≤ 2 * a ∧ G.length ≤ a + 1 ∧ Below (w.heap.size + 3) w0 w2 from by
          obtain ⟨q1, q2, q3, q4, q5, q6⟩ := HQ.out
          exact ⟨k, a', b', G', hps2, q1, q2, q3, q4, q5, q6, HBT.out _ _ B1.out hb2⟩)
        clear hps2 hb2
        go_wp2
        go_roundw
        case rel => exact R2
        case measure =>
          have h1 := HQ.out.2.1
          have h2 := HAA.out
          rw [c1, c2]
          simp [intOf]
          omega
      | bad f =>
        have hrun := hO.trans (runM_bad hat hRS.symm)
        have HOF := hid hrun
        clear hps hb hrel hO hRS hrun hng hgl
        go_wp2_with fail
        refine HDN.out.mono ?_
        rintro en w1 ⟨rfl, hb1⟩
        have HC1 := hid (HCC.out w1 hb1)
        have B1 := hid hb1
        clear hb1
        go_wp2_with fail
        refine HC1.out.mono ?_
        rintro en w2 ⟨rfl, hps2, hb2⟩
        have HB2 := hid (HBT.out _ _ B1.out hb2)
        have HC2 := hid (HCG.out _ _ _ _ hps2 HB2.out)
        clear hps2 hb2
        refine leaves_cons (f := 89) (args := #[.pointer (some ⟨w.heap.size + 1 + 1 + 1 + 1, 0, none⟩), .pointer (some ⟨w.heap.size + 1, 0, none⟩), .pointer (some ⟨w.heap.size + 1 + 1, 0, none⟩)]) (by simp) (by simp [go_sem]) ?_
        refine HC2.out.mono ?_
        rintro e u' w'' ⟨rfl, rfl, rfl⟩
        obtain ⟨⟨x0, x1, x2, x3, x4⟩, hpo, hbl⟩ := HFT.out _ _ HOF.out HB2.out
        refine ⟨.tuple #[.agg #[.int .i64 0, .string (tx []), .slice none 0 0], .int .i64 f, .int .i64 90], ?_, hpo, hbl⟩
        simp [results, Tryz.results60, go_sem, x0, x1, x2, x3, x4]
    · obtain rfl : a = n := by omega
      rw [decide_eq_true (rfl : a = a)] at HDN
      have hOe := hO.trans (runM_end HN.out)
      rw [← HN.out] at hOe
      obtain ⟨K, vg, gs, hpp, habs⟩ := hps
      obtain ⟨gi, g, rfl, hgi, hga, hgp⟩ := abs_last habs
      obtain ⟨gb, capg, rfl, hgB, hgl2, hgpb, ⟨csg, hgb⟩, k0, k1, -, -, -⟩ := hpp.last
      have hgm : g ∈ gi ++ [g] := by simp
      obtain ⟨pa, pc, hvp⟩ := own_form (hpp.rowP g hgm).own
      have hnp : g.parts.length = P.length := by rw [← hgp]; simp
      rw [hnp] at hvp
      obtain ⟨np, hnpp⟩ : ∃ np, np = P.length := ⟨_, rfl⟩
      rw [← hnpp] at hvp
      obtain ⟨N, hNN⟩ : ∃ N, N = gi.length := ⟨_, rfl⟩
      have hNG : N = Gi.length := by rw [hNN, ← hgi]; simp
      have HC := hid (fun (W : World) (hb : Below wr.heap.size wr W) => (by
        obtain ⟨⟨-, -, p2, p3⟩, -⟩ := (hpp.below hb).cells
        rw [← hNN] at p2
        exact ⟨p2, p3, by rw [← hvp, hNN]; exact (hb.cell (by exact hgl2)).trans k1⟩ : W.cell? ⟨w.heap.size + 1 + 1 + 1 + 1, 2, none⟩ = some (.slice (some ⟨gb, 0, none⟩) (N + 1) capg) ∧ W.cell? ⟨w.heap.size + 1 + 1 + 1 + 1, 3, none⟩ = some (.int .i64 b) ∧ W.cell? ⟨gb, N * 2 + 1, none⟩ = some (.slice pa np pc)))
      have HO := hid (fun (W : World) (h2 : W.cell? ⟨w.heap.size + 1 + 1 + 1 + 1, 2, none⟩ = some (.slice (some ⟨gb, 0, none⟩) (N + 1) capg)) => (by
        have := open_any h2 (by omega)
        rw [show (((N + 1 : Nat) : Int) - 1) = (N : Int) by omega] at this
        exact this : Calls Tryz.prog 93 #[.pointer (some ⟨w.heap.size + 1 + 1 + 1 + 1, 0, none⟩)] W fun e w' => e = .returned (.int .i64 N) ∧ W = w'))
      have HLA := hid (fun (W : World) (h2 : W.cell? ⟨w.heap.size + 1 + 1 + 1 + 1, 2, none⟩ = some (.slice (some ⟨gb, 0, none⟩) (N + 1) capg)) => (by
        exact last_any (n := N) (N := N + 1) h2 rfl (by omega) : Calls Tryz.prog 94 #[.pointer (some ⟨w.heap.size + 1 + 1 + 1 + 1, 0, none⟩)] W fun e w' => e = .returned (.pointer (some ⟨gb, N * 2, none⟩)) ∧ Below W.heap.size W w'))
      have HWH := hid (fun (W : World) (hb : Below wr.heap.size wr W) => (by
        have h1 := hpp.below hb
        have hx := whole_any (K := K) (w := W) (B := w.heap.size + 3) (gb := gb) (o := N * 2) (va := g.va) (vp := g.vp) (qs := g.ahead) (ps := g.parts) ((hb.block gb hgl2).trans hgb) (by rw [hNN]; exact (hb.cell (by exact hgl2)).trans k0) (by rw [hNN]; exact (hb.cell (by exact hgl2)).trans k1) (h1.rowA g hgm) (h1.rowP g hgm).lie h1.lt (fun k hk => h1.free g hgm k (blocks_mem.2 (Or.inl hk))) (by have := h1.pbl; omega) (by rw [hga, hgp]; rw [nodesG_snoc] at hng; omega)
        rw [hga, hgp] at hx
        refine hx.mono ?_
        rintro e w' ⟨⟨u, n, c, K', rfl, hX, hY⟩, hg2⟩
        have hwl := hpp.pbl
        have hws := hb.size
        have hKB : ∀ k, K' k → w.heap.size + 3 ≤ k := fun k hk => by
          rcases hY.out.2 k hk with h2 | h2
          · exact h1.kB k h2
          · omega
        have hTY : ∀ k, K' k → ∃ cs, w'.heap[k]? = some (.cells cs 25 (0, 0)) := fun k hk => by
          rcases hY.out.2 k hk with h2 | h2
          · obtain ⟨cs, hc⟩ := h1.kt k h2
            exact ⟨cs, (hg2.block k (h1.lt k h2) (fun e => h1.free g hgm k (blocks_mem.2 (Or.inl e.symm)) h2)).trans hc⟩
          · exact h2.2
        exact ⟨u, n, c, rfl, fun W' hW' hs' => ⟨K', hX.out.on ⟨hs', fun k hk hl => hW' k (hKB k hk) hl⟩, fun k hk => ⟨by have := hKB k hk; omega, by
          obtain ⟨cs, hc⟩ := hTY k hk
          exact ⟨cs, (hW' k (hKB k hk) (Array.getElem?_eq_some_iff.1 hc).1).trans hc⟩⟩⟩, (hb.mono (by omega)).grown hg2 (by omega) fun k hk => ((h1.rowA g hgm).own.lt k hk).1⟩ : Calls Tryz.prog 95 #[.pointer (some ⟨gb, N * 2, none⟩)] W fun e w' => ∃ u n c, e = .returned (.agg #[.int .i64 (wholeR A P).op, .string (tx (wholeR A P).name), .slice u n c]) ∧ Hid (∀ W', (∀ k, w.heap.size + 3 ≤ k → k < w'.heap.size → W'.heap[k]? = w'.heap[k]?) → w'.heap.size ≤ W'.heap.size → RxO W' w.heap.size (.slice u n c) (wholeR A P).kids) ∧ Below (w.heap.size + 3) wr w'))
      have HPB := hid (fun (W : World) (hb : Below wr.heap.size wr W) => (by
        have hsr := HPS.out.cells.2.2.2
        exact ⟨HPS.out.below hb, HBB.out.trans (hb.mono (by omega))⟩ : PS (w.heap.size + 3) W (w.heap.size + 1 + 1 + 1 + 1) (.slice ao a cap) a b (Gi ++ [(A, P)]) ∧ Below (w.heap.size + 3) w0 W))
      have hcs : (0 < N ∧ O = .fault a) ∨ (N = 0 ∧ np = 0 ∧ O = .fault a) ∨ (N = 0 ∧ 0 < np ∧ 0 < b ∧ O = .deep b) ∨ (N = 0 ∧ 0 < np ∧ b = 0 ∧ O = .ok A P) := by
        cases Gi with
        | cons x y =>
          refine Or.inl ⟨by rw [hNG]; simp, hOe.trans ?_⟩
          cases y <;> rfl
        | nil =>
          right
          have hN0 : N = 0 := hNG
          have hOe : O = if P.isEmpty = true then .fault a else if b = 0 then .ok A P else .deep b := hOe
          cases P with
          | nil => exact Or.inl ⟨hN0, hnpp, hOe⟩
          | cons x y =>
            right
            have hp : 0 < np := by rw [hnpp]; simp
            by_cases hb0 : b = 0
            · rw [if_neg (by simp), if_pos hb0] at hOe
              exact Or.inr ⟨hN0, hp, hb0, hOe⟩
            · rw [if_neg (by simp), if_neg hb0] at hOe
              exact Or.inl ⟨hN0, hp, by omega, hOe⟩
      clear hpp habs hga hgp k0 k1 hvp hnp hnpp hb hrel hgb hO hOe hng hgl hgi hNN hNG hlt
      rcases hcs with ⟨hN0, hOF⟩ | ⟨rfl, rfl, hOF⟩ | ⟨rfl, hp0, hb0, hOF⟩ | ⟨rfl, hp0, rfl, hOF⟩
      · have hI : ((N : Int) == 0) = false := by rw [beq_eq_false_iff_ne]; omega
        have HOF := hid hOF
        clear hOF
        go_wp2_with fail
        refine HDN.out.mono ?_
        rintro en w1 ⟨rfl, hb1⟩
        obtain ⟨z2, z3, z1⟩ := HC.out _ hb1
        have B1 := hid hb1
        clear hb1
        go_wp2_with fail
        refine (HO.out _ z2).mono ?_
        rintro en w2 ⟨rfl, rfl⟩
        go_wp2_with fail
        refine must_false.mono ?_
        rintro en w4 ⟨rfl, rfl⟩
        obtain ⟨hp1, hbb1⟩ := HPB.out _ B1.out
        have HB2 := hid hbb1
        have HC2 := hid (HCG.out _ _ _ _ hp1 hbb1)
        clear hp1 hbb1
        refine leaves_cons (f := 89) (args := #[.pointer (some ⟨w.heap.size + 1 + 1 + 1 + 1, 0, none⟩), .pointer (some ⟨w.heap.size + 1, 0, none⟩), .pointer (some ⟨w.heap.size + 1 + 1, 0, none⟩)]) (by simp) (by simp [go_sem]) ?_
        refine HC2.out.mono ?_
        rintro e u' w'' ⟨rfl, rfl, rfl⟩
        obtain ⟨⟨x0, x1, x2, x3, x4⟩, hpo, hbl⟩ := HFT.out _ _ HOF.out HB2.out
        refine ⟨.tuple #[.agg #[.int .i64 0, .string (tx []), .slice none 0 0], .int .i64 a, .int .i64 90], ?_, hpo, hbl⟩
        simp [results, Tryz.results60, go_sem, x0, x1, x2, x3, x4]
      · have HOF := hid hOF
        clear hOF
        go_wp2_with fail
        refine HDN.out.mono ?_
        rintro en w1 ⟨rfl, hb1⟩
        obtain ⟨z2, z3, z1⟩ := HC.out _ hb1
        have B1 := hid hb1
        clear hb1
        go_wp2_with fail
        refine (HO.out _ z2).mono ?_
        rintro en w2 ⟨rfl, rfl⟩
        go_wp2_with fail
        refine (HLA.out _ z2).mono ?_
        rintro en w3 ⟨rfl, hb3⟩
        obtain ⟨y2, y3, y1⟩ := HC.out _ (below_2x B1.out hb3)
        have B1 := hid (below_2x B1.out hb3)
        clear hb3 z1 z2 z3
        go_wp2_with fail
        refine must_false.mono ?_
        rintro en w4 ⟨rfl, rfl⟩
        obtain ⟨hp1, hbb1⟩ := HPB.out _ B1.out
        have HB2 := hid hbb1
        have HC2 := hid (HCG.out _ _ _ _ hp1 hbb1)
        clear hp1 hbb1
        refine leaves_cons (f := 89) (args := #[.pointer (some ⟨w.heap.size + 1 + 1 + 1 + 1, 0, none⟩), .pointer (some ⟨w.heap.size + 1, 0, none⟩), .pointer (some ⟨w.heap.size + 1 + 1, 0, none⟩)]) (by simp) (by simp [go_sem]) ?_
        refine HC2.out.mono ?_
        rintro e u' w'' ⟨rfl, rfl, rfl⟩
        obtain ⟨⟨x0, x1, x2, x3, x4⟩, hpo, hbl⟩ := HFT.out _ _ HOF.out HB2.out
        refine ⟨.tuple #[.agg #[.int .i64 0, .string (tx []), .slice none 0 0], .int .i64 a, .int .i64 90], ?_, hpo, hbl⟩
        simp [results, Tryz.results60, go_sem, x0, x1, x2, x3, x4]
      · have HOF := hid hOF
        have hbI : (0 : Int) < (b : Int) := by omega
        clear hOF
        go_wp2_with fail
        refine HDN.out.mono ?_
        rintro en w1 ⟨rfl, hb1⟩
        obtain ⟨z2, z3, z1⟩ := HC.out _ hb1
        have B1 := hid hb1
        clear hb1
        go_wp2_with fail
        refine (HO.out _ z2).mono ?_
        rintro en w2 ⟨rfl, rfl⟩
        go_wp2_with fail
        refine (HLA.out _ z2).mono ?_
        rintro en w3 ⟨rfl, hb3⟩
        obtain ⟨y2, y3, y1⟩ := HC.out _ (below_2x B1.out hb3)
        have B3 := hid (below_2x B1.out hb3)
        obtain ⟨⟨x0, x1, x2, x3, x4⟩, f0, f1, f2, f3, f4⟩ := HBX.out _ (HPB.out _ B3.out).2
        clear hb3 z1 z2 z3
        go_wp2_with fail
        try rw [show decide (0 < np) = true from decide_eq_true hp0]
        refine must_true.mono ?_
        rintro en w4 ⟨rfl, rfl⟩
        go_wp2_with fail
        go_region
        all_goals (
          go_wp2_with fail
          refine leaves_cons (f := 89) (args := #[.pointer (some ⟨w.heap.size + 1 + 1 + 1 + 1, 0, none⟩), .pointer (some ⟨w.heap.size + 1, 0, none⟩), .pointer (some ⟨w.heap.size + 1 + 1, 0, none⟩)]) (by simp) (by simp [go_sem]) ?_
          refine (parse_idle _ _ _ _).mono ?_
          rintro e u' w'' ⟨rfl, rfl, rfl⟩
          refine ⟨.tuple #[.agg #[.int .i64 0, .string (tx []), .slice none 0 0], .int .i64 b, .int .i64 91], ?_, by rw [HOF.out]; rfl, ?_⟩
          · simp [results, Tryz.results60, go_sem, x0, x1, x2, x3, x4]
          · have hb := HB0.out.trans ((HPB.out _ B3.out).2.mono (show w.heap.size ≤ w.heap.size + 3 by omega))
            repeat (first | exact hb | refine Below.drew ?_ | refine Below.setCell ?_ (by simp only []; omega) _))
      · have HOF := hid hOF
        clear hOF
        go_wp2_with fail
        refine HDN.out.mono ?_
        rintro en w1 ⟨rfl, hb1⟩
        obtain ⟨z2, z3, z1⟩ := HC.out _ hb1
        have B1 := hid hb1
        clear hb1
        go_wp2_with fail
        refine (HO.out _ z2).mono ?_
        rintro en w2 ⟨rfl, rfl⟩
        go_wp2_with fail
        refine (HLA.out _ z2).mono ?_
        rintro en w3 ⟨rfl, hb3⟩
        obtain ⟨y2, y3, y1⟩ := HC.out _ (below_2x B1.out hb3)
        have B3 := hid (below_2x B1.out hb3)
        clear hb3 z1 z2 z3
        go_wp2_with fail
        try rw [show decide (0 < np) = true from decide_eq_true hp0]
        refine must_true.mono ?_
        rintro en w4 ⟨rfl, rfl⟩
        go_wp2_with fail
        refine (HLA.out _ y2).mono ?_
        rintro en w5 ⟨rfl, hb5⟩
        have B5 := hid (below_2x B3.out hb5)
        clear hb5 y1 y2 y3
        go_wp2_with fail
        refine (HWH.out _ B5.out).mono ?_
        rintro en w6 ⟨u, nn, c, rfl, X6, hb6⟩
        obtain ⟨⟨x0, x1, x2, x3, x4⟩, f0, f1, f2, f3, f4⟩ := HBX.out _ (HBB.out.trans hb6)
        have B6 := hid (HBB.out.trans hb6)
        clear hb6
        go_wp2_with fail
        refine leaves_cons (f := 89) (args := #[.pointer (some ⟨w.heap.size + 1 + 1 + 1 + 1, 0, none⟩), .pointer (some ⟨w.heap.size + 1, 0, none⟩), .pointer (some ⟨w.heap.size + 1 + 1, 0, none⟩)]) (by simp) (by simp [go_sem]) ?_
        refine (parse_idle _ _ _ _).mono ?_
        rintro e u' w'' ⟨rfl, rfl, rfl⟩
        refine ⟨.tuple #[.agg #[.int .i64 (wholeR A P).op, .string (tx (wholeR A P).name), .slice u nn c], .int .i64 0, .int .i64 0], ?_, ?_, ?_⟩
        · simp [results, Tryz.results60, go_sem, x0, x1, x2, x3, x4]
        · rw [HOF.out]
          refine ⟨u, nn, c, rfl, hid (X6.out _ (fun k hk _ => ?_) (by simp))⟩
          rw [Below.heap_setCell _ _ _ _ (by show k ≠ w.heap.size + 1 + 1; omega), Below.heap_setCell _ _ _ _ (by show k ≠ w.heap.size + 1; omega), Below.heap_setCell _ _ _ _ (by show k ≠ w.heap.size; omega), Below.heap_setCell _ _ _ _ (by show k ≠ w.heap.size; omega), Below.heap_setCell _ _ _ _ (by show k ≠ w.heap.size; omega)]
        · have hb := HB0.out.trans (B6.out.mono (show w.heap.size ≤ w.heap.size + 3 by omega))
          exact ((((hb.setCell (by show w.heap.size ≤ w.heap.size; omega) _).setCell (by show w.heap.size ≤ w.heap.size; omega) _).setCell (by show w.heap.size ≤ w.heap.size; omega) _).setCell (by show w.heap.size ≤ w.heap.size + 1; omega) _).setCell (by show w.heap.size ≤ w.heap.size + 1 + 1; omega) _
end Go.Proofs.YtagppgncanimaaaGreatDoor
namespace Go.Proofs.YtagppgncanimaaaGreatDoor
open Go.RowKit

/-- What the program's Read tells. -/
def RdOut (w : World) (O : Out) (e : Ending) (w' : World) : Prop := match O with
  | .fault f => e = .returned (.tuple #[.agg #[.int .i64 0, .string (tx []), .slice none 0 0], .int .i64 f, .int .i64 90])
  | .deep b => e = .returned (.tuple #[.agg #[.int .i64 0, .string (tx []), .slice none 0 0], .int .i64 b, .int .i64 91])
  | .ok A P => (chkN (wholeR A P) = 0 ∧ ∃ u n c, e = .returned (.tuple #[.agg #[.int .i64 (wholeR A P).op, .string (tx (wholeR A P).name), .slice u n c], .int .i64 0, .int .i64 0]) ∧ Hid (RxO w' w.heap.size (.slice u n c) (wholeR A P).kids)) ∨ (chkN (wholeR A P) ≠ 0 ∧ e = .returned (.tuple #[.agg #[.int .i64 0, .string (tx []), .slice none 0 0], .int .i64 0, .int .i64 (chkN (wholeR A P) : Nat)]))

set_option maxRecDepth 20000 in
set_option maxHeartbeats 2000000 in
theorem read_err {w : World} {v : Value} {f c : Nat} {ao : Option Addr} {n cap : Nat} (hv : v = .slice ao n cap) (hc : c ≠ 0) (HP : ∀ (W : World), Below w.heap.size w W → Calls Tryz.prog 60 #[v] W fun e w' => e = .returned (.tuple #[.agg #[.int .i64 0, .string (tx []), .slice none 0 0], .int .i64 f, .int .i64 c]) ∧ Below W.heap.size W w') :
    Calls Tryz.prog 37 #[v] w fun e w' => e = .returned (.tuple #[.agg #[.int .i64 0, .string (tx []), .slice none 0 0], .int .i64 f, .int .i64 c]) ∧ Below w.heap.size w w' := by
  have H := hid HP
  have hcI : ((c : Int) == 0) = false := by rw [beq_eq_false_iff_ne]; omega
  clear HP
  subst hv
  go_enter Tryz.func37, Tryz.ntmps37
  go_wp2_with fail
  refine (H.out _ ((Below.refl _ _).alloc (Nat.le_refl _) _)).mono ?_
  rintro en w1 ⟨rfl, hb1⟩
  have hs1 : w.heap.size + 1 ≤ w1.heap.size := by have := hb1.size; simpa using this
  have hbx : w1.heap[w.heap.size]? = some (.cells #[.int .i64 0, .string ⟨#[]⟩, .slice none 0 0] 25 (0, 0)) := (hb1.block w.heap.size (by simp)).trans (new_0 _ _)
  have B1 := hid (show Below w.heap.size w w1 from ((Below.refl _ _).alloc (Nat.le_refl _) _).trans (hb1.mono (by simp)))
  have x0 : ∀ o, (w1.alloc o).cell? ⟨w.heap.size, 0, none⟩ = some (.int .i64 0) := fun o => by rw [cell_at (new_old _ o hbx)]; rfl
  have x1 : ∀ o, (w1.alloc o).cell? ⟨w.heap.size, 1, none⟩ = some (.string ⟨#[]⟩) := fun o => by rw [cell_at (new_old _ o hbx)]; rfl
  have x2 : ∀ o, (w1.alloc o).cell? ⟨w.heap.size, 2, none⟩ = some (.slice none 0 0) := fun o => by rw [cell_at (new_old _ o hbx)]; rfl
  have y0 : ∀ o, (w1.alloc o).frozen? ⟨w.heap.size, 0, none⟩ = false := fun o => free_of (new_old _ o hbx)
  have y1 : ∀ o, (w1.alloc o).frozen? ⟨w.heap.size, 1, none⟩ = false := fun o => free_of (new_old _ o hbx)
  have y2 : ∀ o, (w1.alloc o).frozen? ⟨w.heap.size, 2, none⟩ = false := fun o => free_of (new_old _ o hbx)
  clear hb1 hbx
  go_wp2
  try (go_quiet (fail); go_wp2)
  refine bodyPost_ret (v := .tuple #[.agg #[.int .i64 0, .string (tx []), .slice none 0 0], .int .i64 f, .int .i64 c]) (by simp [results, Tryz.results37, go_sem, x0, x1, x2]) rfl ⟨rfl, ?_⟩
  have hb := B1.out
  exact (((hb.alloc (by omega) _).setCell (Nat.le_refl _) _).setCell (Nat.le_refl _) _).setCell (Nat.le_refl _) _

set_option maxRecDepth 20000 in
set_option maxHeartbeats 2000000 in
theorem read_chk {w : World} {v : Value} {R : Rx} {c : Nat} {ao : Option Addr} {n cap : Nat} (hv : v = .slice ao n cap) (hc : c ≠ 0) (hR : c = chkN R) (hF : R.Fit) (HP : ∀ (W : World), Below w.heap.size w W → Calls Tryz.prog 60 #[v] W fun e w' => (∃ u n c, e = .returned (.tuple #[.agg #[.int .i64 R.op, .string (tx R.name), .slice u n c], .int .i64 0, .int .i64 0]) ∧ Hid (RxO w' W.heap.size (.slice u n c) R.kids)) ∧ Below W.heap.size W w') :
    Calls Tryz.prog 37 #[v] w fun e w' => e = .returned (.tuple #[.agg #[.int .i64 0, .string (tx []), .slice none 0 0], .int .i64 0, .int .i64 c]) ∧ Below w.heap.size w w' := by
  have H := hid HP
  have hcI : ((c : Int) == 0) = false := by rw [beq_eq_false_iff_ne]; omega
  have HCK := hid (fun (W : World) (u : Option Addr) (n c : Nat) (hS : RxS W (.slice u n c) R.kids) => gCheck_any hS hF)
  rw [← hR] at HCK
  clear HP hR hF
  subst hv
  go_enter Tryz.func37, Tryz.ntmps37
  go_wp2_with fail
  refine (H.out _ ((Below.refl _ _).alloc (Nat.le_refl _) _)).mono ?_
  rintro en w1 ⟨⟨u, nn, cc, rfl, X1⟩, hb1⟩
  have HC1 := hid (fun (ob : Obj) => HCK.out (w1.alloc ob) u nn cc (X1.out.low.on ((Below.refl _ _).alloc (Nat.le_refl _) ob)))
  have hs1 : w.heap.size + 1 ≤ w1.heap.size := by have := hb1.size; simpa using this
  have hbx1 : w1.heap[w.heap.size]? = some (.cells #[.int .i64 0, .string ⟨#[]⟩, .slice none 0 0] 25 (0, 0)) := (hb1.block w.heap.size (by simp)).trans (new_0 _ _)
  have B1 := hid (show Below w.heap.size w w1 from ((Below.refl _ _).alloc (Nat.le_refl _) _).trans (hb1.mono (by simp)))
  clear hb1
  go_wp2_with fail
  refine (HC1.out _).mono ?_
  rintro en w2 ⟨rfl, hb2⟩
  have hs2 : w1.heap.size + 1 ≤ w2.heap.size := by have := hb2.size; simpa using this
  have hbx : w2.heap[w.heap.size]? = some (.cells #[.int .i64 0, .string ⟨#[]⟩, .slice none 0 0] 25 (0, 0)) := (hb2.block w.heap.size (by simp; omega)).trans ((Below.heap_alloc _ _ _ (by omega)).trans hbx1)
  have x0 : w2.cell? ⟨w.heap.size, 0, none⟩ = some (.int .i64 0) := by rw [cell_at hbx]; rfl
  have x1 : w2.cell? ⟨w.heap.size, 1, none⟩ = some (.string ⟨#[]⟩) := by rw [cell_at hbx]; rfl
  have x2 : w2.cell? ⟨w.heap.size, 2, none⟩ = some (.slice none 0 0) := by rw [cell_at hbx]; rfl
  have y0 : w2.frozen? ⟨w.heap.size, 0, none⟩ = false := free_of hbx
  have y1 : w2.frozen? ⟨w.heap.size, 1, none⟩ = false := free_of hbx
  have y2 : w2.frozen? ⟨w.heap.size, 2, none⟩ = false := free_of hbx
  have B2 := hid (show Below w.heap.size w w2 from below_2x B1.out (((Below.refl _ _).alloc (Nat.le_refl _) _).trans (hb2.mono (by simp))))
  clear hb2 hbx hbx1
  go_wp2
  try (go_quiet (fail); go_wp2)
  refine bodyPost_ret (v := .tuple #[.agg #[.int .i64 0, .string (tx []), .slice none 0 0], .int .i64 0, .int .i64 c]) (by simp [results, Tryz.results37, go_sem, x0, x1, x2]) rfl ⟨rfl, ?_⟩
  have hb := B2.out
  exact ((hb.setCell (Nat.le_refl _) _).setCell (Nat.le_refl _) _).setCell (Nat.le_refl _) _

set_option maxRecDepth 20000 in
set_option maxHeartbeats 2000000 in
theorem read_good {w : World} {v : Value} {R : Rx} {ao : Option Addr} {n cap : Nat} (hv : v = .slice ao n cap) (hc : chkN R = 0) (hF : R.Fit) (HPQ : ∀ (W : World), Below w.heap.size w W → Calls Tryz.prog 60 #[v] W fun e w' => (∃ u n c, e = .returned (.tuple #[.agg #[.int .i64 R.op, .string (tx R.name), .slice u n c], .int .i64 0, .int .i64 0]) ∧ Hid (RxO w' W.heap.size (.slice u n c) R.kids)) ∧ Below W.heap.size W w') :
    Calls Tryz.prog 37 #[v] w fun e w' => ∃ u n c, e = .returned (.tuple #[.agg #[.int .i64 R.op, .string (tx R.name), .slice u n c], .int .i64 0, .int .i64 0]) ∧ Hid (RxO w' w.heap.size (.slice u n c) R.kids) ∧ Below w.heap.size w w' := by
  have HP := hid HPQ
  have HCK := hid (fun (W : World) (u : Option Addr) (n c : Nat) (hS : RxS W (.slice u n c) R.kids) => (by
    have := gCheck_any hS hF
    rw [hc] at this
    exact this : Calls Tryz.prog 12 #[.agg #[.int .i64 R.op, .string (tx R.name), .slice u n c]] W fun e w' => e = .returned (.int .i64 ((0 : Nat) : Int)) ∧ Below W.heap.size W w'))
  subst hv
  clear hF hc HPQ
  go_enter Tryz.func37, Tryz.ntmps37
  go_wp2_with fail
  refine (HP.out _ ((Below.refl _ _).alloc (Nat.le_refl _) _)).mono ?_
  rintro en w1 ⟨⟨u, n, c, rfl, X1⟩, hb1⟩
  have HC1 := hid (fun (ob : Obj) => HCK.out (w1.alloc ob) u n c (X1.out.low.on ((Below.refl _ _).alloc (Nat.le_refl _) ob)))
  have hs1 : w.heap.size + 1 ≤ w1.heap.size := by have := hb1.size; simpa using this
  have hbx1 : w1.heap[w.heap.size]? = some (.cells #[.int .i64 0, .string ⟨#[]⟩, .slice none 0 0] 25 (0, 0)) := (hb1.block w.heap.size (by simp)).trans (new_0 _ _)
  have B1 := hid (show Below w.heap.size w w1 from ((Below.refl _ _).alloc (Nat.le_refl _) _).trans (hb1.mono (by simp)))
  clear hb1
  go_wp2_with fail
  refine (HC1.out _).mono ?_
  rintro en w2 ⟨rfl, hb2⟩
  have hs2 : w1.heap.size + 1 ≤ w2.heap.size := by have := hb2.size; simpa using this
  have hbx : w2.heap[w.heap.size]? = some (.cells #[.int .i64 0, .string ⟨#[]⟩, .slice none 0 0] 25 (0, 0)) := (hb2.block w.heap.size (by simp; omega)).trans ((Below.heap_alloc _ _ _ (by omega)).trans hbx1)
  have hrx : w2.heap[w1.heap.size]? = some (.cells #[.int .i64 R.op, .string (tx R.name), .slice u n c] 25 (0, 0)) := (hb2.block w1.heap.size (by simp)).trans (new_0 _ _)
  have x0 : w2.cell? ⟨w.heap.size, 0, none⟩ = some (.int .i64 0) := by rw [cell_at hbx]; rfl
  have x1 : w2.cell? ⟨w.heap.size, 1, none⟩ = some (.string ⟨#[]⟩) := by rw [cell_at hbx]; rfl
  have x2 : w2.cell? ⟨w.heap.size, 2, none⟩ = some (.slice none 0 0) := by rw [cell_at hbx]; rfl
  have y0 : w2.frozen? ⟨w.heap.size, 0, none⟩ = false := free_of hbx
  have y1 : w2.frozen? ⟨w.heap.size, 1, none⟩ = false := free_of hbx
  have y2 : w2.frozen? ⟨w.heap.size, 2, none⟩ = false := free_of hbx
  have r0 : w2.cell? ⟨w1.heap.size, 0, none⟩ = some (.int .i64 R.op) := by rw [cell_at hrx]; rfl
  have r1 : w2.cell? ⟨w1.heap.size, 1, none⟩ = some (.string (tx R.name)) := by rw [cell_at hrx]; rfl
  have r2 : w2.cell? ⟨w1.heap.size, 2, none⟩ = some (.slice u n c) := by rw [cell_at hrx]; rfl
  have B2 := hid (show Below w.heap.size w w2 from below_2x B1.out (((Below.refl _ _).alloc (Nat.le_refl _) _).trans (hb2.mono (by simp))))
  have X2 := hid (show RxO w2 (w.heap.size + 1) (.slice u n c) R.kids from (X1.out.on (by omega) (fun k _ hl => (hb2.block k (by simp only [World.size_alloc]; omega)).trans (Below.heap_alloc _ _ _ hl))).mono (by simp))
  clear hb2 hbx hrx hbx1
  go_wp2
  try (go_quiet (fail); go_wp2)
  refine bodyPost_ret (v := .tuple #[.agg #[.int .i64 R.op, .string (tx R.name), .slice u n c], .int .i64 0, .int .i64 0]) (by simp [results, Tryz.results37, go_sem, x0, x1, x2]) rfl ⟨u, n, c, rfl, ?_, ?_⟩
  · refine hid ((X2.out.on (w' := ((w2.setCell ⟨w.heap.size, 0, none⟩ (.int .i64 R.op)).setCell ⟨w.heap.size, 1, none⟩ (.string (tx R.name))).setCell ⟨w.heap.size, 2, none⟩ (.slice u n c)) (by simp) (fun k hk _ => set3_heap (by omega))).mono (by omega))
  · exact ((B2.out.setCell (Nat.le_refl _) _).setCell (Nat.le_refl _) _).setCell (Nat.le_refl _) _

theorem gRead_any {w : World} {v : Value} {ts : List (List UInt8)} (hW : WdAt w v ts) (hl : ts.length ≤ 99000) (htl : ∀ t ∈ ts, t.length ≤ 1048576) (hF : ∀ A P, runM ts (ts.length + 1) 0 0 [([], [])] = .ok A P → (wholeR A P).Fit) :
    Calls Tryz.prog 37 #[v] w fun e w' => RdOut w (runM ts (ts.length + 1) 0 0 [([], [])]) e w' ∧ Below w.heap.size w w' := by
  have HP : ∀ (W : World), Below w.heap.size w W → Calls Tryz.prog 60 #[v] W fun e w' => PrOut W (runM ts (ts.length + 1) 0 0 [([], [])]) e w' ∧ Below W.heap.size W w' := fun W hb => parse_any (hW.on hb) hl htl
  obtain ⟨ao, cap, hv, -⟩ := hW
  obtain ⟨O, hO⟩ : ∃ O, O = runM ts (ts.length + 1) 0 0 [([], [])] := ⟨_, rfl⟩
  rw [← hO] at HP hF ⊢
  cases O with
  | fault f => exact read_err hv (by decide) HP
  | deep b => exact read_err hv (by decide) HP
  | ok A P =>
    by_cases hc : chkN (wholeR A P) = 0
    · refine (read_good hv hc (hF A P rfl) HP).mono ?_
      rintro e w' ⟨u, n, c, h1, h2, h3⟩
      exact ⟨Or.inl ⟨hc, u, n, c, h1, h2⟩, h3⟩
    · refine (read_chk hv hc rfl (hF A P rfl) HP).mono ?_
      rintro e w' ⟨h1, h3⟩
      exact ⟨Or.inr ⟨hc, h1⟩, h3⟩
end Go.Proofs.YtagppgncanimaaaGreatDoor
namespace Go.Proofs.YtagppgncanimaaaGreatDoor
open Go.RowKit

set_option maxRecDepth 20000 in
set_option maxHeartbeats 2000000 in
theorem placeOf_any {w : World} {v : Value} {B f : Nat} {ws : List Wo.Wd} (h : w.ownsRow B 109 3 v ws.length (flatW ws)) (hl : ws.length ≤ 1000000) :
    Calls Tryz.prog 38 #[v, .int .i64 f] w fun e w' => ∃ x y : Int, e = .returned (.tuple #[.int .i64 x, .int .i64 y]) ∧ Below w.heap.size w w' := by
  have HD := hid (show ∀ k, Below w.heap.size w (w.drewN k) from fun k => ⟨rfl, rfl, rfl, Nat.le_refl _, fun _ _ => rfl⟩)
  by_cases h0 : ws.length = 0
  · obtain ⟨ao, cap, rfl⟩ := own_form h
    obtain ⟨n, hn⟩ : ∃ n, n = ws.length := ⟨_, rfl⟩
    rw [← hn] at h0 ⊢
    subst h0
    have hI : ¬ (f : Int) < ((0 : Nat) : Int) := by omega
    clear h hn
    go_enter Tryz.func38, Tryz.ntmps38
    go_wp2
    refine bodyPost_ret (v := .tuple #[.int .i64 1, .int .i64 1]) (by simp [results, Tryz.results38, go_sem]) rfl ?_
    first | exact ⟨rfl, Below.refl _ _⟩ | exact ⟨by simp, Below.refl _ _⟩ | exact ⟨1, 1, rfl, Below.refl _ _⟩
  · obtain ⟨g, cap, rfl, _, hg, hc⟩ := ownX_form h (by omega)
    by_cases hf : f < ws.length
    · obtain ⟨x, hx⟩ : ∃ x, ws[f]? = some x := ⟨_, List.getElem?_eq_getElem hf⟩
      have k1 := hc _ _ (flatW_at hx).2.1
      have k2 := hc _ _ (flatW_at hx).2.2
      obtain ⟨n, hn⟩ : ∃ n, n = ws.length := ⟨_, rfl⟩
      rw [← hn] at hf hl ⊢
      have hI : (f : Int) < (n : Int) := by omega
      have hI0 : (0 : Int) ≤ (f : Int) := by omega
      clear h hc hx hn h0
      go_enter Tryz.func38, Tryz.ntmps38
      go_wp2_with fail
      go_quiet (fail)
      go_wp2
      refine bodyPost_ret (v := .tuple #[.int .i64 (x.2.1 : Nat), .int .i64 (x.2.2 : Nat)]) (by simp [results, Tryz.results38, go_sem]) rfl ?_
      exact ⟨_, _, rfl, HD.out _⟩
    · obtain ⟨m, hm⟩ : ∃ m, ws.length = m + 1 := ⟨ws.length - 1, by omega⟩
      obtain ⟨x, hx⟩ : ∃ x, ws[m]? = some x := ⟨_, List.getElem?_eq_getElem (by omega)⟩
      have k0 := hc _ _ (flatW_at hx).1
      have k1 := hc _ _ (flatW_at hx).2.1
      have k2 := hc _ _ (flatW_at hx).2.2
      obtain ⟨n, hn⟩ : ∃ n, n = ws.length := ⟨_, rfl⟩
      rw [← hn] at hf hl hm h0 ⊢
      have hI : ¬ (f : Int) < (n : Int) := by omega
      have hz : ((n : Int) == 0) = false := by rw [beq_eq_false_iff_ne]; omega
      have hw : IntKind.i64.wrap ((n : Int) - 1) = (m : Int) := by
        have : (n : Int) - 1 = (m : Int) := by omega
        rw [this]; unfold IntKind.wrap; simp [IntKind.bits, IntKind.signed]; omega
      have hmI : (m : Int) < (n : Int) := by omega
      have hm0 : (0 : Int) ≤ (m : Int) := by omega
      clear h hc hx hn h0
      go_enter Tryz.func38, Tryz.ntmps38
      go_wp2_with fail
      go_quiet (fail)
      go_wp2
      refine bodyPost_ret (v := .tuple #[.int .i64 (x.2.1 : Nat), .int .i64 (wrap64 ((x.2.2 : Nat) + (x.1.length : Nat)))]) (by simp [results, Tryz.results38, go_sem]) rfl ?_
      exact ⟨_, _, rfl, show Below w.heap.size w (World.drewN (w.alloc _) _) from ((Below.refl _ _).alloc (Nat.le_refl _) _).trans ⟨rfl, rfl, rfl, Nat.le_refl _, fun _ _ => rfl⟩⟩
end Go.Proofs.YtagppgncanimaaaGreatDoor
