/-
  The program's next: the last pair is taken off.
  The program's add: a pair is put behind the others, or it is left out.
  Pairs of lists that are still to be gone through: how they lie, and what a step of a map of such keys leaves.
-/
import Derived.Test.YtagppgncanimaaaGreatDoorZBackRAnd
import Derived.Test.YtagppgncanimaaaGreatDoorZNoneAnd
import Derived.Deep.AppendLies
import Derived.Deep.RegionLaw
import Derived.Deep.RegionHeld3
import Derived.Deep.DeepCutAuto
namespace Go.Proofs.YtagppgncanimaaaGreatDoor
open Go.RowKit Go

/-- Two lists that lie somewhere, and what both stand for. -/
structure Pr where
  a : Value
  b : Value
  ks : List Rx
def flatQ (ps : List Pr) : List Value := ps.flatMap fun p => [p.a, p.b]
theorem flatQ_app (a b : List Pr) : flatQ (a ++ b) = flatQ a ++ flatQ b := by simp [flatQ]
theorem flatQ_len (ps : List Pr) : (flatQ ps).length = ps.length * 2 := by
  induction ps with
  | nil => rfl
  | cons p t ih =>
    have e : flatQ (p :: t) = p.a :: p.b :: flatQ t := rfl
    rw [e]; simp [ih]; omega
/-- The blocks that no call touches. -/
def Kst (w : World) (lb mb : Nat) (v : Value) : Nat → Prop := fun k => k < w.heap.size ∧ k ≠ lb ∧ k ≠ mb ∧ v.ownBlock ≠ some k
theorem Seen.on {K K' : Nat → Prop} {w w' : World} {p : Addr} (h : Seen K w p) (hK : ∀ g, K g → K' g) (hb : ∀ g, K g → w'.heap[g]? = w.heap[g]?) : Seen K' w' p := by
  obtain ⟨h0, ⟨x, hx⟩, hf⟩ := h
  have e := hb _ h0
  exact ⟨hK _ h0, ⟨x, (World.cell?_of_block e).trans hx⟩, (World.frozen?_of_block e).trans hf⟩
theorem EnsOk.on {K K' : Nat → Prop} {w w' : World} {es : List MapEntry} (h : EnsOk K w es) (hK : ∀ g, K g → K' g) (hb : ∀ g, K g → w'.heap[g]? = w.heap[g]?) : EnsOk K' w' es := fun e he => by
  obtain ⟨p, q, n, z, h1, h2, h3, h4⟩ := h e he
  exact ⟨p, q, n, z, h1, h2.on hK hb, h3.on hK hb, h4⟩
/-- The pairs in memory: lb the struct, mb the map, v the row. -/
structure PrAt (B : Nat) (w : World) (lb mb : Nat) (v : Value) (ps : List Pr) : Prop where
  hl : B ≤ lb
  hm : B ≤ mb
  blk : w.heap[lb]? = some (.cells #[v, .map (some mb)] 113 (0, 0))
  map : MapOk (Kst w lb mb v) w mb
  own : w.ownsRow B 116 2 v ps.length (flatQ ps)
  each : ∀ p ∈ ps, RxF (Kst w lb mb v) w p.a p.ks ∧ RxF (Kst w lb mb v) w p.b p.ks ∧ p.ks ≠ []
/-- All else stays as it was. -/
structure PrKept (B : Nat) (w w' : World) (lb mb : Nat) (v v' : Value) : Prop where
  os : w'.os = w.os
  tape : w'.tape = w.tape
  output : w'.output = w.output
  size : w.heap.size ≤ w'.heap.size
  keep : ∀ k, Kst w lb mb v k → w'.heap[k]? = w.heap[k]?
  up : ∀ k, Kst w lb mb v k → Kst w' lb mb v' k
theorem PrKept.refl (B : Nat) (w : World) (lb mb : Nat) (v : Value) : PrKept B w w lb mb v v := ⟨rfl, rfl, rfl, Nat.le_refl _, fun _ _ => rfl, fun _ h => h⟩
theorem PrKept.trans {B : Nat} {w w' w'' : World} {lb mb : Nat} {v v' v'' : Value} (h : PrKept B w w' lb mb v v') (k : PrKept B w' w'' lb mb v' v'') : PrKept B w w'' lb mb v v'' :=
  ⟨k.os.trans h.os, k.tape.trans h.tape, k.output.trans h.output, Nat.le_trans h.size k.size, fun g hg => (k.keep g (h.up g hg)).trans (h.keep g hg), fun g hg => k.up g (h.up g hg)⟩
theorem PrAt.lbl {B : Nat} {w : World} {lb mb : Nat} {v : Value} {ps : List Pr} (h : PrAt B w lb mb v ps) : lb < w.heap.size := (Array.getElem?_eq_some_iff.1 h.blk).1
theorem PrAt.mbl {B : Nat} {w : World} {lb mb : Nat} {v : Value} {ps : List Pr} (h : PrAt B w lb mb v ps) : mb < w.heap.size := by
  obtain ⟨es, clock, e, _⟩ := h.map
  exact (Array.getElem?_eq_some_iff.1 e).1
theorem PrAt.ne {B : Nat} {w : World} {lb mb : Nat} {v : Value} {ps : List Pr} (h : PrAt B w lb mb v ps) : lb ≠ mb := by
  rintro rfl
  obtain ⟨es, clock, e, _⟩ := h.map
  rw [h.blk] at e
  cases e
theorem PrAt.far {B : Nat} {w : World} {lb mb : Nat} {v : Value} {ps : List Pr} (h : PrAt B w lb mb v ps) : v.ownBlock ≠ some lb ∧ v.ownBlock ≠ some mb := by
  constructor
  · intro e
    obtain ⟨cs, hc⟩ := own_block h.own e
    exact ne_typeX hc h.blk (by decide) rfl
  · intro e
    obtain ⟨cs, hc⟩ := own_block h.own e
    obtain ⟨es, clock, e2, _⟩ := h.map
    rw [hc] at e2
    cases e2
/-- What is left of a change. -/
theorem PrAt.upd {B : Nat} {w w' : World} {lb mb : Nat} {v v' : Value} {ps ps' : List Pr} (h : PrAt B w lb mb v ps) (hk : PrKept B w w' lb mb v v') (hb : w'.heap[lb]? = some (.cells #[v', .map (some mb)] 113 (0, 0)))
    (hm : ∃ es clock, w'.heap[mb]? = some (.map es clock) ∧ EnsOk (Kst w lb mb v) w es.toList) (ho : w'.ownsRow B 116 2 v' ps'.length (flatQ ps'))
    (he : ∀ p ∈ ps', RxF (Kst w lb mb v) w p.a p.ks ∧ RxF (Kst w lb mb v) w p.b p.ks ∧ p.ks ≠ []) : PrAt B w' lb mb v' ps' := by
  have hkk : KeepK (Kst w lb mb v) w w' := ⟨hk.size, fun g hg _ => hk.keep g hg⟩
  refine ⟨h.hl, h.hm, hb, ?_, ho, fun p hp => ?_⟩
  · obtain ⟨es, clock, e, hes⟩ := hm
    exact ⟨es, clock, e, hes.on hk.up hk.keep⟩
  · obtain ⟨h1, h2, h3⟩ := he p hp
    exact ⟨(h1.on hkk).mono hk.up, (h2.on hkk).mono hk.up, h3⟩
/-- Memory that grows changes nothing. -/
theorem PrAt.kept {B : Nat} {w w' : World} {lb mb : Nat} {v : Value} (hb : Below w.heap.size w w') : PrKept B w w' lb mb v v := ⟨hb.os, hb.tape, hb.output, hb.size, fun k hk => hb.block k hk.1, fun _ hk => ⟨Nat.lt_of_lt_of_le hk.1 hb.size, hk.2⟩⟩
theorem PrAt.below {B : Nat} {w w' : World} {lb mb : Nat} {v : Value} {ps : List Pr} (h : PrAt B w lb mb v ps) (hb : Below w.heap.size w w') : PrAt B w' lb mb v ps := by
  refine h.upd (PrAt.kept hb) ((hb.block _ h.lbl).trans h.blk) ?_ (own_same h.own fun g hg => hb.block g (h.own.lt g hg).2) h.each
  obtain ⟨es, clock, e, hes⟩ := h.map
  exact ⟨es, clock, (hb.block _ h.mbl).trans e, hes⟩
theorem PrAt.cells {B : Nat} {w : World} {lb mb : Nat} {v : Value} {ps : List Pr} (h : PrAt B w lb mb v ps) : w.cell? ⟨lb, 0, none⟩ = some v ∧ w.cell? ⟨lb, 1, none⟩ = some (.map (some mb)) ∧ w.frozen? ⟨lb, 0, none⟩ = false := by
  refine ⟨?_, ?_, ?_⟩
  · rw [cell_at h.blk]; rfl
  · rw [cell_at h.blk]; rfl
  · simp [World.frozen?, h.blk]

theorem RxF.kept {B : Nat} {w w' : World} {lb mb : Nat} {v v' u : Value} {ks : List Rx} (h : RxF (Kst w lb mb v) w u ks) (hk : PrKept B w w' lb mb v v') : RxF (Kst w' lb mb v') w' u ks := (h.on ⟨hk.size, fun g hg _ => hk.keep g hg⟩).mono hk.up

/-- A step that touches the map alone. -/
structure Mv (w w' : World) (mb : Nat) : Prop where
  os : w'.os = w.os
  tape : w'.tape = w.tape
  output : w'.output = w.output
  size : w'.heap.size = w.heap.size
  rest : ∀ k, k ≠ mb → w'.heap[k]? = w.heap[k]?
theorem Mv.refl (w : World) (mb : Nat) : Mv w w mb := ⟨rfl, rfl, rfl, rfl, fun _ _ => rfl⟩
theorem Mv.trans {w w' w'' : World} {mb : Nat} (h : Mv w w' mb) (k : Mv w' w'' mb) : Mv w w'' mb := ⟨k.os.trans h.os, k.tape.trans h.tape, k.output.trans h.output, k.size.trans h.size, fun g hg => (k.rest g hg).trans (h.rest g hg)⟩
theorem Mv.of_drew {w w' : World} {mb : Nat} (h : Mv w.drew w' mb) : Mv w w' mb := ⟨h.os, h.tape, h.output, h.size, h.rest⟩
theorem Mv.seen {K : Nat → Prop} {w w' : World} {mb : Nat} {p : Addr} (h : Mv w w' mb) (hK : ¬ K mb) (hs : Seen K w p) : Seen K w' p := hs.on (fun _ h => h) fun g hg => h.rest g (fun e => hK (e ▸ hg))
theorem Mv.cell {w w' : World} {mb : Nat} {p : Addr} (h : Mv w w' mb) (hp : p.block ≠ mb) : w'.cell? p = w.cell? p := World.cell?_of_block (h.rest _ hp)
theorem Mv.frozen {w w' : World} {mb : Nat} {p : Addr} (h : Mv w w' mb) (hp : p.block ≠ mb) : w'.frozen? p = w.frozen? p := World.frozen?_of_block (h.rest _ hp)

theorem PrAt.moved {B : Nat} {w w' : World} {lb mb : Nat} {v : Value} {ps : List Pr} (h : PrAt B w lb mb v ps) (hv : Mv w w' mb) (hm : MapOk (Kst w lb mb v) w' mb) : PrAt B w' lb mb v ps ∧ PrKept B w w' lb mb v v := by
  have hk : PrKept B w w' lb mb v v := ⟨hv.os, hv.tape, hv.output, by rw [hv.size]; exact Nat.le_refl _, fun k hk => hv.rest k hk.2.2.1, fun k hk => ⟨by rw [hv.size]; exact hk.1, hk.2⟩⟩
  refine ⟨h.upd hk ((hv.rest _ h.ne).trans h.blk) ?_ (own_same h.own fun g hg => hv.rest g (fun e => h.far.2 (e ▸ hg))) h.each, hk⟩
  obtain ⟨es, clock, e, hes⟩ := hm
  exact ⟨es, clock, e, hes.on (fun _ h => h) fun g hg => (hv.rest g hg.2.2.1).symm⟩
theorem setCell_own {w : World} {b i : Nat} {v : Value} {cs : Array Value} {t : TypeId} {fr : Nat × Nat} (h : w.heap[b]? = some (.cells cs t fr)) : (w.setCell ⟨b, i, none⟩ v).heap[b]? = some (.cells (cs.setIfInBounds i v) t fr) := by
  simp [World.setCell, Array.getElem?_modify, h]
/-- A pair was put behind the others. -/
theorem PrAt.pushed {B : Nat} {w w3 : World} {lb mb : Nat} {v : Value} {ps : List Pr} {p : Pr} {m g3 cap3 : Nat} (h : PrAt B w lb mb v ps) (hm : m = ps.length) (hg : w.grownBy w3 v.ownBlock) (hat : v.ownBlock = some g3 ∨ g3 = w.heap.size)
    (hown : w3.ownsRow B 116 2 (.slice (some ⟨g3, 0, none⟩) (m + 1) cap3) (m + 1) (flatQ ps ++ [p.a, p.b])) (ha : RxF (Kst w lb mb v) w p.a p.ks) (hb : RxF (Kst w lb mb v) w p.b p.ks) (hp : p.ks ≠ []) :
    PrAt B (w3.setCell ⟨lb, 0, none⟩ (.slice (some ⟨g3, 0, none⟩) (m + 1) cap3)) lb mb (.slice (some ⟨g3, 0, none⟩) (m + 1) cap3) (ps ++ [p]) ∧ PrKept B w (w3.setCell ⟨lb, 0, none⟩ (.slice (some ⟨g3, 0, none⟩) (m + 1) cap3)) lb mb v (.slice (some ⟨g3, 0, none⟩) (m + 1) cap3) := by
  have hlb := h.lbl
  have hmb := h.mbl
  have hf := h.far
  have hgl : g3 ≠ lb := by
    rcases hat with e | e
    · rintro rfl; exact hf.1 e
    · omega
  have hL : w3.heap[lb]? = some (.cells #[v, .map (some mb)] 113 (0, 0)) := (hg.block lb hlb (fun e => hf.1 e.symm)).trans h.blk
  obtain ⟨V, hV⟩ : ∃ V, V = w3.setCell ⟨lb, 0, none⟩ (.slice (some ⟨g3, 0, none⟩) (m + 1) cap3) := ⟨_, rfl⟩
  have hVs : V.heap.size = w3.heap.size := by rw [hV]; simp
  have hVr : ∀ k, k ≠ lb → V.heap[k]? = w3.heap[k]? := fun k hk => by rw [hV, Below.heap_setCell _ _ _ _ (by exact hk)]
  have hk : PrKept B w V lb mb v (.slice (some ⟨g3, 0, none⟩) (m + 1) cap3) := by
    refine ⟨by rw [hV]; exact hg.os, by rw [hV]; exact hg.tape, by rw [hV]; exact hg.output, by rw [hVs]; exact hg.size, fun k hk => ?_, fun k hk => ⟨by rw [hVs]; exact Nat.lt_of_lt_of_le hk.1 hg.size, hk.2.1, hk.2.2.1, fun e => ?_⟩⟩
    · rw [hVr k hk.2.1, hg.block k hk.1 (fun e => hk.2.2.2 e.symm)]
    · have e' : g3 = k := by simpa [Value.ownBlock] using e
      subst e'
      rcases hat with e2 | e2
      · exact hk.2.2.2 e2
      · have := hk.1; omega
  rw [← hV]
  refine ⟨h.upd hk ?_ ?_ ?_ fun x hx => ?_, hk⟩
  · rw [hV, setCell_own hL]; rfl
  · obtain ⟨es, clock, e, hes⟩ := h.map
    exact ⟨es, clock, by rw [hVr mb (fun e => h.ne e.symm), hg.block mb hmb (fun e => hf.2 e.symm), e], hes⟩
  · rw [flatQ_app, List.length_append, ← hm, hV]
    exact own_farX hown (by simp [Value.ownBlock]; exact hgl)
  · rcases List.mem_append.1 hx with hx | hx
    · exact h.each x hx
    · rw [List.mem_singleton.1 hx]
      exact ⟨ha, hb, hp⟩

theorem Seen.heap {K : Nat → Prop} {w w' : World} {p : Addr} (h : Seen K w p) (e : w'.heap = w.heap) : Seen K w' p := h.on (fun _ h => h) fun g _ => by rw [e]
theorem MapOk.heap {K : Nat → Prop} {w w' : World} {mb : Nat} (h : MapOk K w mb) (e : w'.heap = w.heap) : MapOk K w' mb := by
  obtain ⟨es, clock, h1, h2⟩ := h
  exact ⟨es, clock, by rw [e]; exact h1, h2.on (fun _ h => h) fun g _ => by rw [e]⟩
theorem Born.heap {w w' : World} {mb b : Nat} (h : Born w mb b) (e : w'.heap = w.heap) : Born w' mb b := by
  obtain ⟨es, clock, h1, h2⟩ := h
  exact ⟨es, clock, by rw [e]; exact h1, h2⟩

section
variable {ops : Array Oper} {o : Oper} {a : Act} {w : World} {Kc : Act → World → Prop} {Q : Exit → Act → World → Prop} {E : Prop} {K : Nat → Prop} {mb : Nat} {p q : Addr} {n : Int}
theorem step_lookup (hg : o.guard = none) (x y : Operand) (hop : o.op = .lookup 110 x y false) (hx : a.eval x = .map (some mb)) (hy : a.eval y = keyV p q n) (h : MapOk K w mb) (hp : Seen K w p) (hq : Seen K w q)
    (hK : ∀ z w', Mv w w' mb → w'.heap = w.heap → Kc (a.put o.dst (.int .i64 z)) w') : if Region.wanted o (yielded ops a.tmps) = true then Oper.wp Tryz.prog o a w Kc Q else E := by
  have hw : Region.wanted o (yielded ops a.tmps) = true := by simp [Region.wanted, hg]
  rw [if_pos hw]
  obtain ⟨es, clock, e, hes⟩ := h
  obtain ⟨z, k, hrun⟩ := lookup_key (n := n) e hes hp hq
  unfold Oper.wp
  simp [execOp, hop, hx, hy, hrun, Result.andThen]
  exact hK z _ ⟨rfl, rfl, rfl, rfl, fun _ _ => rfl⟩ rfl
theorem step_entry (hg : o.guard = none) (x y : Operand) (hop : o.op = .mapEntry 110 x y) (hx : a.eval x = .map (some mb)) (hy : a.eval y = keyV p q n) (h : MapOk K w mb) (hKm : ¬ K mb) (hp : Seen K w p) (hq : Seen K w q)
    (hK : ∀ z b w', Mv w w' mb → MapOk K w' mb → Born w' mb b → Kc (a.put o.dst (.tuple #[.int .i64 z, goInt (b : Nat)])) w') : if Region.wanted o (yielded ops a.tmps) = true then Oper.wp Tryz.prog o a w Kc Q else E := by
  have hw : Region.wanted o (yielded ops a.tmps) = true := by simp [Region.wanted, hg]
  rw [if_pos hw]
  obtain ⟨es, clock, e, hes⟩ := h
  have hlt := (Array.getElem?_eq_some_iff.1 e).1
  obtain ⟨z, b, es', clock', k, hrun, h1, h2⟩ := entry_key (n := n) e hes hp hq
  unfold Oper.wp
  simp [execOp, hop, hx, hy, hrun, Result.andThen]
  have hmv : Mv w { w.drewN k with heap := w.heap.setIfInBounds mb (.map es' clock') } mb := ⟨rfl, rfl, rfl, by simp, fun g hg => by simp [Ne.symm hg]⟩
  have hnew : ({ w.drewN k with heap := w.heap.setIfInBounds mb (.map es' clock') } : World).heap[mb]? = some (.map es' clock') := by simp [hlt]
  exact hK z b _ hmv ⟨es', clock', hnew, h1.on (fun _ h => h) fun g hg => hmv.rest g (fun e => hKm (e ▸ hg))⟩ ⟨es', clock', hnew, h2⟩
theorem step_store (hg : o.guard = none) (x y u : Operand) (hop : o.op = .entryStore 110 x y u) {b : Nat} {z : Int} (hx : a.eval x = .map (some mb)) (hy : a.eval y = goInt (b : Nat)) (hu : a.eval u = .int .i64 z) (h : MapOk K w mb) (hKm : ¬ K mb) (hb : Born w mb b)
    (hK : ∀ r w', Mv w w' mb → MapOk K w' mb → Kc (a.put o.dst r) w') : if Region.wanted o (yielded ops a.tmps) = true then Oper.wp Tryz.prog o a w Kc Q else E := by
  have hw : Region.wanted o (yielded ops a.tmps) = true := by simp [Region.wanted, hg]
  rw [if_pos hw]
  obtain ⟨es, clock, e, hes⟩ := h
  obtain ⟨es2, clock2, e2, hb⟩ := hb
  rw [e] at e2
  cases e2
  have hlt := (Array.getElem?_eq_some_iff.1 e).1
  obtain ⟨es', hrun, h1⟩ := store_key (z := z) e hes hb
  unfold Oper.wp
  simp [execOp, hop, hx, hy, hu, hrun, Result.andThen]
  have hmv : Mv w { w with heap := w.heap.setIfInBounds mb (.map es' clock) } mb := ⟨rfl, rfl, rfl, by simp, fun g hg => by simp [Ne.symm hg]⟩
  have hnew : ({ w with heap := w.heap.setIfInBounds mb (.map es' clock) } : World).heap[mb]? = some (.map es' clock) := by simp [hlt]
  exact hK _ _ hmv ⟨es', clock, hnew, h1.on (fun _ h => h) fun g hg => hmv.rest g (fun e => hKm (e ▸ hg))⟩
end
end Go.Proofs.YtagppgncanimaaaGreatDoor
namespace Go.Proofs.YtagppgncanimaaaGreatDoor
open Go.RowKit Go

/-- What add leaves. -/
def AddQ (B : Nat) (w : World) (lb mb : Nat) (v : Value) (ps : List Pr) (p : Pr) (en : Ending) (w' : World) : Prop :=
  en = .returned (.tuple #[]) ∧ ∃ v' ps', PrAt B w' lb mb v' ps' ∧ (ps' = ps ∨ ps' = ps ++ [p]) ∧ PrKept B w w' lb mb v v'
theorem Tryz.infoPairX : (Tryz.prog.info? 116).map (fun i => (i.zero, i.size, i.bytes)) = some (some (.agg #[.slice none 0 0, .slice none 0 0]), 2, 48) := by kernel_rfl

set_option maxRecDepth 20000 in
set_option maxHeartbeats 4000000 in
theorem pAdd_any {B : Nat} {w : World} {lb mb : Nat} {v : Value} {ps : List Pr} {p : Pr} (h : PrAt B w lb mb v ps) (ha : RxF (Kst w lb mb v) w p.a p.ks) (hb : RxF (Kst w lb mb v) w p.b p.ks) (hn : ps.length ≤ 1000000) :
    Calls Tryz.prog 61 #[.pointer (some ⟨lb, 0, none⟩), .agg #[p.a, p.b]] w fun en w' => AddQ B w lb mb v ps p en w' := by
  obtain ⟨i0, hi, hz0, hz1, hz2⟩ := info_parts Tryz.infoPairX
  have HI := hid hi
  have HZ0 := hid hz0
  have HZ1 := hid hz1
  have HZ2 := hid hz2
  clear hi hz0 hz1 hz2
  have H := hid h
  have HA := hid ha
  have HB := hid hb
  obtain ⟨ao, cap, ea, -⟩ := ha.at
  obtain ⟨bo, cbp, eb, -⟩ := hb.at
  by_cases hk : p.ks = []
  · rw [ea, eb, hk]
    have HF := hid (fun (w' : World) (hb : Below w.heap.size w w') => (show AddQ B w lb mb v ps p (.returned (.tuple #[])) w' from ⟨rfl, v, ps, H.out.below hb, Or.inl rfl, PrAt.kept hb⟩))
    clear h ha hb ea eb
    go_enter Tryz.func61, Tryz.ntmps61
    go_wp2
    exact bodyPost_ret (v := .tuple #[]) (by simp [results, Tryz.results61, go_sem]) rfl (HF.out _ ((Below.refl _ _).alloc (Nat.le_refl _) _))
  · rw [ea] at ha
    rw [eb] at hb
    obtain ⟨g, o, rfl, hs⟩ := ha.first hk
    obtain ⟨g', o', rfl, hs'⟩ := hb.first hk
    obtain ⟨n, hnn⟩ : ∃ n, n = p.ks.length := ⟨_, rfl⟩
    have HN := hid hnn
    have hn0 : 0 < n := by rw [hnn]; exact List.length_pos_iff.2 hk
    rw [← hnn] at ea eb
    have HEA := hid ea
    have HEB := hid eb
    rw [ea, eb]
    obtain ⟨av, vc, hv⟩ := own_form h.own
    obtain ⟨m, hm⟩ : ∃ m, m = ps.length := ⟨_, rfl⟩
    rw [← hm] at hv hn
    have HM := hid hm
    have HV := hid hv
    have HS := hid hs
    have HS' := hid hs'
    have HK := hid hk
    have hnI : (0 : Int) < (n : Int) := by omega
    have hnE : ((n : Int) == 0) = false := by rw [beq_eq_false_iff_ne]; omega
    have hlb := h.lbl
    obtain ⟨W0, hW0⟩ : ∃ W0, W0 = w.heap.size := ⟨_, rfl⟩
    have HW := hid hW0
    obtain ⟨l0, l1, lf⟩ := h.cells
    rw [hv] at l0
    obtain ⟨K, hK⟩ : ∃ K, K = Kst w lb mb v := ⟨_, rfl⟩
    have HK2 := hid hK
    have HKM := hid (show ¬ K mb by rw [hK]; exact fun e => e.2.2.1 rfl)
    have HBX := hid (fun (x y : Obj) => (show Below w.heap.size w ((w.alloc x).alloc y) from ((Below.refl _ _).alloc (Nat.le_refl _) _).alloc (by simp) _))
    have hKb : ∀ (w' : World), Below w.heap.size w w' → ∀ g, K g → w'.heap[g]? = w.heap[g]? := fun w' hb g hg => hb.block g (by rw [hK] at hg; exact hg.1)
    have HSA := hid (fun (x y : Obj) => (show Seen K ((w.alloc x).alloc y) ⟨g, o, none⟩ from (by rw [← hK] at hs; exact hs.on (fun _ h => h) (hKb _ (HBX.out x y)))))
    have HSB := hid (fun (x y : Obj) => (show Seen K ((w.alloc x).alloc y) ⟨g', o', none⟩ from (by rw [← hK] at hs'; exact hs'.on (fun _ h => h) (hKb _ (HBX.out x y)))))
    have HMP := hid (fun (x y : Obj) => (show MapOk K ((w.alloc x).alloc y) mb from (by
      obtain ⟨es, clock, e, hes⟩ := h.map
      rw [← hK] at hes
      exact ⟨es, clock, ((HBX.out x y).block _ h.mbl).trans e, hes.on (fun _ h => h) (hKb _ (HBX.out x y))⟩)))
    have HC := hid (fun (wc : World) (hv : Mv ((w.alloc (.cells #[.slice (some ⟨g, o, none⟩) n cap, .slice (some ⟨g', o', none⟩) n cbp] 116)).alloc (.cells #[.pointer (some ⟨g, o, none⟩), .pointer (some ⟨g', o', none⟩), .int .i64 n] 154)) wc mb) => (by
      have hm := H.out.mbl
      have hne := H.out.ne
      have e1 : ((w.alloc (.cells #[.slice (some ⟨g, o, none⟩) n cap, .slice (some ⟨g', o', none⟩) n cbp] 116)).alloc (.cells #[.pointer (some ⟨g, o, none⟩), .pointer (some ⟨g', o', none⟩), .int .i64 n] 154)).heap[w.heap.size + 1]? = some (.cells #[.pointer (some ⟨g, o, none⟩), .pointer (some ⟨g', o', none⟩), .int .i64 n] 154) := new_1 _ _ _
      have e0 : ((w.alloc (.cells #[.slice (some ⟨g, o, none⟩) n cap, .slice (some ⟨g', o', none⟩) n cbp] 116)).alloc (.cells #[.pointer (some ⟨g, o, none⟩), .pointer (some ⟨g', o', none⟩), .int .i64 n] 154)).heap[w.heap.size]? = some (.cells #[.slice (some ⟨g, o, none⟩) n cap, .slice (some ⟨g', o', none⟩) n cbp] 116) := (Below.heap_alloc _ _ _ (by simp)).trans (new_0 _ _)
      have f1 := (hv.rest (w.heap.size + 1) (by omega)).trans e1
      have f0 := (hv.rest w.heap.size (by omega)).trans e0
      have fl : wc.heap[lb]? = w.heap[lb]? := (hv.rest lb hne).trans ((HBX.out _ _).block lb hlb)
      refine ⟨⟨(World.cell?_of_block (by exact fl)).trans l0, (World.cell?_of_block (by exact fl)).trans l1, (World.frozen?_of_block (by exact fl)).trans lf⟩, ⟨?_, ?_, ?_⟩, ⟨?_, ?_⟩, by rw [hv.size]; simp⟩
      · rw [cell_at f1]; rfl
      · rw [cell_at f1]; rfl
      · rw [cell_at f1]; rfl
      · rw [cell_at f0]; rfl
      · rw [cell_at f0]; rfl : (wc.cell? ⟨lb, 0, none⟩ = some (.slice av m vc) ∧ wc.cell? ⟨lb, 1, none⟩ = some (.map (some mb)) ∧ wc.frozen? ⟨lb, 0, none⟩ = false) ∧ (wc.cell? ⟨w.heap.size + 1, 0, none⟩ = some (.pointer (some ⟨g, o, none⟩)) ∧ wc.cell? ⟨w.heap.size + 1, 1, none⟩ = some (.pointer (some ⟨g', o', none⟩)) ∧ wc.cell? ⟨w.heap.size + 1, 2, none⟩ = some (.int .i64 n)) ∧ (wc.cell? ⟨w.heap.size, 0, none⟩ = some (.slice (some ⟨g, o, none⟩) n cap) ∧ wc.cell? ⟨w.heap.size, 1, none⟩ = some (.slice (some ⟨g', o', none⟩) n cbp)) ∧ wc.heap.size = w.heap.size + 1 + 1))
    have HPR := hid (fun (wc : World) (hv : Mv ((w.alloc (.cells #[.slice (some ⟨g, o, none⟩) n cap, .slice (some ⟨g', o', none⟩) n cbp] 116)).alloc (.cells #[.pointer (some ⟨g, o, none⟩), .pointer (some ⟨g', o', none⟩), .int .i64 n] 154)) wc mb) (hm : MapOk K wc mb) => (by
      have hb := HBX.out (.cells #[.slice (some ⟨g, o, none⟩) n cap, .slice (some ⟨g', o', none⟩) n cbp] 116) (.cells #[.pointer (some ⟨g, o, none⟩), .pointer (some ⟨g', o', none⟩), .int .i64 n] 154)
      have hk := PrAt.kept (B := B) (lb := lb) (mb := mb) (v := v) hb
      have h1 := H.out.below hb
      obtain ⟨es, clock, e, hes⟩ := hm
      rw [HK2.out] at hes
      obtain ⟨h2, h3⟩ := h1.moved hv ⟨es, clock, e, hes.on hk.up (fun _ _ => rfl)⟩
      exact ⟨h2, hk.trans h3⟩ : PrAt B wc lb mb v ps ∧ PrKept B w wc lb mb v v))
    clear h ha hb ea eb hnn hk hs hs' hm hv hKb hK HS HS' HW hW0
    go_enter Tryz.func61, Tryz.ntmps61
    go_upto_region 2 with fail
    go_region_held3 (fun w' => w'.cell? ⟨w.heap.size, 0, none⟩ = some (.slice (some ⟨g, o, none⟩) n cap) ∧ w'.cell? ⟨w.heap.size, 1, none⟩ = some (.slice (some ⟨g', o', none⟩) n cbp)) (go_keep) (fail)
    go_upto_region 3 with fail
    go_cut [] (fun wy => Hid (Mv ((w.alloc (.cells #[.slice (some ⟨g, o, none⟩) n cap, .slice (some ⟨g', o', none⟩) n cbp] 116)).alloc (.cells #[.pointer (some ⟨g, o, none⟩), .pointer (some ⟨g', o', none⟩), .int .i64 n] 154)) wy mb ∧ MapOk K wy mb))
    case first =>
      refine wp_region_any (by kernel_rfl) ?_
      change wpAny _ _ _ _ _ _ _ (World.drew _)
      refine wpAny_take (i := 0) (v := ?v0) rfl (by kernel_rfl) (by kernel_rfl) (by kernel_rfl) (fun _ _ _ h => h) (Or.inl ⟨by rfl, ?y0⟩) ?_
      case y0 => intro w; go_simp; try with_reducible rfl
      refine wpAny_take (i := 1) (v := ?v1) rfl (by kernel_rfl) (by kernel_rfl) (by kernel_rfl) (fun _ _ _ h => h) (Or.inl ⟨by rfl, ?y1⟩) ?_
      case y1 => intro w; go_simp; try with_reducible rfl
      refine wpAny_take (i := 2) (v := ?v2) rfl (by kernel_rfl) (by kernel_rfl) (by kernel_rfl) (fun _ _ _ h => h) (Or.inl ⟨by rfl, ?y2⟩) ?_
      case y2 => intro w; go_simp; try with_reducible rfl
      refine wpAny_ready (rs := [3, 4]) (by kernel_rfl) (by simp) ?_
      refine AllReady.cons rfl (fun K' hK => ?_) (AllReady.cons rfl (fun K' hK => ?_) AllReady.nil)
      · go_simp
        refine hK _ _ ?_
        clear hK K'
        refine wpAny_ready (rs := [4]) (by kernel_rfl) (by simp) ?_
        refine AllReady.cons rfl (fun K' hK => ?_) AllReady.nil
        go_simp
        refine hK _ _ ?_
        clear hK K'
        refine wpAny_ready (rs := [5, 7]) (by kernel_rfl) (by simp) ?_
        refine AllReady.cons rfl (fun K' hK => ?_) (AllReady.cons rfl (fun K' hK => ?_) AllReady.nil)
        · refine step_lookup (K := K) (p := ⟨g, o, none⟩) (q := ⟨g', o', none⟩) (n := n) (mb := mb) (by rfl) (.tmp 22) (.tmp 23) (by rfl) (by rfl) (by rfl) (HMP.out _ _) (HSA.out _ _) (HSB.out _ _) ?_
          intro z w1 M1 E1
          refine hK _ _ ?_
          clear hK K'
          refine wpAny_take (i := 6) (v := ?vpa) rfl (by kernel_rfl) (by kernel_rfl) (by kernel_rfl) (fun _ _ _ h => h) (Or.inl ⟨by rfl, ?ypa⟩) ?_
          case ypa => intro w; go_simp; try with_reducible rfl
          refine wpAny_ready (rs := [7]) (by kernel_rfl) (by simp) ?_
          refine AllReady.cons rfl (fun K' hK => ?_) AllReady.nil
          refine step_entry (K := K) (p := ⟨g, o, none⟩) (q := ⟨g', o', none⟩) (n := n) (mb := mb) (by rfl) (.tmp 22) (.tmp 23) (by rfl) (by rfl) (by rfl) ((HMP.out _ _).heap E1) HKM.out ((HSA.out _ _).heap E1) ((HSB.out _ _).heap E1) ?_
          intro z2 b w2 M2 MM2 BB2
          refine hK _ _ ?_
          clear hK K'
          refine wpAny_take (i := 8) (v := ?vpb) rfl (by kernel_rfl) (by kernel_rfl) (by kernel_rfl) (fun _ _ _ h => h) (Or.inl ⟨by rfl, ?ypb⟩) ?_
          case ypb => intro w; go_simp; try with_reducible rfl
          refine wpAny_ready (rs := [9]) (by kernel_rfl) (by simp) ?_
          refine AllReady.cons rfl (fun K' hK => ?_) AllReady.nil
          refine step_store (K := K) (mb := mb) (b := b) (by rfl) (.tmp 22) (.tmp 27) (.tmp 25) (by rfl) (by rfl) (by rfl) (by rfl) MM2 HKM.out BB2 ?_
          intro y w3 M3 MM3
          refine hK _ _ ?_
          clear hK K'
          refine wpAny_done (by kernel_rfl) ?_ _
          go_wp2_with fail
          go_meet
          exact hid ⟨(M1.trans (M2.trans M3)).of_drew.of_drew, MM3⟩
        · refine step_entry (K := K) (p := ⟨g, o, none⟩) (q := ⟨g', o', none⟩) (n := n) (mb := mb) (by rfl) (.tmp 22) (.tmp 23) (by rfl) (by rfl) (by rfl) (HMP.out _ _) HKM.out (HSA.out _ _) (HSB.out _ _) ?_
          intro z2 b w1 M1 MM1 BB1
          refine hK _ _ ?_
          clear hK K'
          refine wpAny_take (i := 8) (v := ?vpc) rfl (by kernel_rfl) (by kernel_rfl) (by kernel_rfl) (fun _ _ _ h => h) (Or.inl ⟨by rfl, ?ypc⟩) ?_
          case ypc => intro w; go_simp; try with_reducible rfl
          refine wpAny_ready (rs := [5]) (by kernel_rfl) (by simp) ?_
          refine AllReady.cons rfl (fun K' hK => ?_) AllReady.nil
          refine step_lookup (K := K) (p := ⟨g, o, none⟩) (q := ⟨g', o', none⟩) (n := n) (mb := mb) (by rfl) (.tmp 22) (.tmp 23) (by rfl) (by rfl) (by rfl) MM1 (M1.seen HKM.out (HSA.out _ _)) (M1.seen HKM.out (HSB.out _ _)) ?_
          intro z w2 M2 E2
          refine hK _ _ ?_
          clear hK K'
          refine wpAny_take (i := 6) (v := ?vpd) rfl (by kernel_rfl) (by kernel_rfl) (by kernel_rfl) (fun _ _ _ h => h) (Or.inl ⟨by rfl, ?ypd⟩) ?_
          case ypd => intro w; go_simp; try with_reducible rfl
          refine wpAny_ready (rs := [9]) (by kernel_rfl) (by simp) ?_
          refine AllReady.cons rfl (fun K' hK => ?_) AllReady.nil
          refine step_store (K := K) (mb := mb) (b := b) (by rfl) (.tmp 22) (.tmp 27) (.tmp 25) (by rfl) (by rfl) (by rfl) (by rfl) (MM1.heap E2) HKM.out (BB1.heap E2) ?_
          intro y w3 M3 MM3
          refine hK _ _ ?_
          clear hK K'
          refine wpAny_done (by kernel_rfl) ?_ _
          go_wp2_with fail
          go_meet
          exact hid ⟨(M1.trans (M2.trans M3)).of_drew.of_drew, MM3⟩
      · go_simp
        refine hK _ _ ?_
        clear hK K'
        refine wpAny_ready (rs := [3]) (by kernel_rfl) (by simp) ?_
        refine AllReady.cons rfl (fun K' hK => ?_) AllReady.nil
        go_simp
        refine hK _ _ ?_
        clear hK K'
        refine wpAny_ready (rs := [5, 7]) (by kernel_rfl) (by simp) ?_
        refine AllReady.cons rfl (fun K' hK => ?_) (AllReady.cons rfl (fun K' hK => ?_) AllReady.nil)
        · refine step_lookup (K := K) (p := ⟨g, o, none⟩) (q := ⟨g', o', none⟩) (n := n) (mb := mb) (by rfl) (.tmp 22) (.tmp 23) (by rfl) (by rfl) (by rfl) (HMP.out _ _) (HSA.out _ _) (HSB.out _ _) ?_
          intro z w1 M1 E1
          refine hK _ _ ?_
          clear hK K'
          refine wpAny_take (i := 6) (v := ?vqa) rfl (by kernel_rfl) (by kernel_rfl) (by kernel_rfl) (fun _ _ _ h => h) (Or.inl ⟨by rfl, ?yqa⟩) ?_
          case yqa => intro w; go_simp; try with_reducible rfl
          refine wpAny_ready (rs := [7]) (by kernel_rfl) (by simp) ?_
          refine AllReady.cons rfl (fun K' hK => ?_) AllReady.nil
          refine step_entry (K := K) (p := ⟨g, o, none⟩) (q := ⟨g', o', none⟩) (n := n) (mb := mb) (by rfl) (.tmp 22) (.tmp 23) (by rfl) (by rfl) (by rfl) ((HMP.out _ _).heap E1) HKM.out ((HSA.out _ _).heap E1) ((HSB.out _ _).heap E1) ?_
          intro z2 b w2 M2 MM2 BB2
          refine hK _ _ ?_
          clear hK K'
          refine wpAny_take (i := 8) (v := ?vqb) rfl (by kernel_rfl) (by kernel_rfl) (by kernel_rfl) (fun _ _ _ h => h) (Or.inl ⟨by rfl, ?yqb⟩) ?_
          case yqb => intro w; go_simp; try with_reducible rfl
          refine wpAny_ready (rs := [9]) (by kernel_rfl) (by simp) ?_
          refine AllReady.cons rfl (fun K' hK => ?_) AllReady.nil
          refine step_store (K := K) (mb := mb) (b := b) (by rfl) (.tmp 22) (.tmp 27) (.tmp 25) (by rfl) (by rfl) (by rfl) (by rfl) MM2 HKM.out BB2 ?_
          intro y w3 M3 MM3
          refine hK _ _ ?_
          clear hK K'
          refine wpAny_done (by kernel_rfl) ?_ _
          go_wp2_with fail
          go_meet
          exact hid ⟨(M1.trans (M2.trans M3)).of_drew.of_drew, MM3⟩
        · refine step_entry (K := K) (p := ⟨g, o, none⟩) (q := ⟨g', o', none⟩) (n := n) (mb := mb) (by rfl) (.tmp 22) (.tmp 23) (by rfl) (by rfl) (by rfl) (HMP.out _ _) HKM.out (HSA.out _ _) (HSB.out _ _) ?_
          intro z2 b w1 M1 MM1 BB1
          refine hK _ _ ?_
          clear hK K'
          refine wpAny_take (i := 8) (v := ?vqc) rfl (by kernel_rfl) (by kernel_rfl) (by kernel_rfl) (fun _ _ _ h => h) (Or.inl ⟨by rfl, ?yqc⟩) ?_
          case yqc => intro w; go_simp; try with_reducible rfl
          refine wpAny_ready (rs := [5]) (by kernel_rfl) (by simp) ?_
          refine AllReady.cons rfl (fun K' hK => ?_) AllReady.nil
          refine step_lookup (K := K) (p := ⟨g, o, none⟩) (q := ⟨g', o', none⟩) (n := n) (mb := mb) (by rfl) (.tmp 22) (.tmp 23) (by rfl) (by rfl) (by rfl) MM1 (M1.seen HKM.out (HSA.out _ _)) (M1.seen HKM.out (HSB.out _ _)) ?_
          intro z w2 M2 E2
          refine hK _ _ ?_
          clear hK K'
          refine wpAny_take (i := 6) (v := ?vqd) rfl (by kernel_rfl) (by kernel_rfl) (by kernel_rfl) (fun _ _ _ h => h) (Or.inl ⟨by rfl, ?yqd⟩) ?_
          case yqd => intro w; go_simp; try with_reducible rfl
          refine wpAny_ready (rs := [9]) (by kernel_rfl) (by simp) ?_
          refine AllReady.cons rfl (fun K' hK => ?_) AllReady.nil
          refine step_store (K := K) (mb := mb) (b := b) (by rfl) (.tmp 22) (.tmp 27) (.tmp 25) (by rfl) (by rfl) (by rfl) (by rfl) (MM1.heap E2) HKM.out (BB1.heap E2) ?_
          intro y w3 M3 MM3
          refine hK _ _ ?_
          clear hK K'
          refine wpAny_done (by kernel_rfl) ?_ _
          go_wp2_with fail
          go_meet
          exact hid ⟨(M1.trans (M2.trans M3)).of_drew.of_drew, MM3⟩
    case rest =>
      obtain ⟨M, MM⟩ := hcut.out
      obtain ⟨⟨x0, x1, x2⟩, ⟨y0, y1, y2⟩, ⟨z0, z1⟩, hsz⟩ := HC.out _ M
      clear hcut
      go_upto_region 4 with fail
      go_cut [34] (fun s wz => ∃ q : Bool, s = .bool q ∧ Hid (Mv ((w.alloc (.cells #[.slice (some ⟨g, o, none⟩) n cap, .slice (some ⟨g', o', none⟩) n cbp] 116)).alloc (.cells #[.pointer (some ⟨g, o, none⟩), .pointer (some ⟨g', o', none⟩), .int .i64 n] 154)) wz mb ∧ MapOk K wz mb))
      case first =>
        refine wp_region_any (by kernel_rfl) ?_
        change wpAny _ _ _ _ _ _ _ (World.drew _)
        refine wpAny_take (i := 0) (v := ?vra) rfl (by kernel_rfl) (by kernel_rfl) (by kernel_rfl) (fun _ _ _ h => h) (Or.inl ⟨by rfl, ?yra⟩) ?_
        case yra => intro w; go_simp; try with_reducible rfl
        refine wpAny_take (i := 1) (v := ?vrb) rfl (by kernel_rfl) (by kernel_rfl) (by kernel_rfl) (fun _ _ _ h => h) (Or.inl ⟨by rfl, ?yrb⟩) ?_
        case yrb => intro w; go_simp; try with_reducible rfl
        refine wpAny_take (i := 2) (v := ?vrc) rfl (by kernel_rfl) (by kernel_rfl) (by kernel_rfl) (fun _ _ _ h => h) (Or.inl ⟨by rfl, ?yrc⟩) ?_
        case yrc => intro w; go_simp; try with_reducible rfl
        refine wpAny_ready (rs := [3, 4]) (by kernel_rfl) (by simp) ?_
        refine AllReady.cons rfl (fun K' hK => ?_) (AllReady.cons rfl (fun K' hK => ?_) AllReady.nil)
        · go_simp
          refine hK _ _ ?_
          clear hK K'
          refine wpAny_ready (rs := [4]) (by kernel_rfl) (by simp) ?_
          refine AllReady.cons rfl (fun K' hK => ?_) AllReady.nil
          go_simp
          refine hK _ _ ?_
          clear hK K'
          refine wpAny_ready (rs := [5]) (by kernel_rfl) (by simp) ?_
          refine AllReady.cons rfl (fun K' hK => ?_) AllReady.nil
          refine step_lookup (K := K) (p := ⟨g, o, none⟩) (q := ⟨g', o', none⟩) (n := n) (mb := mb) (by rfl) (.tmp 31) (.tmp 32) (by rfl) (by rfl) (by rfl) MM (M.seen HKM.out (HSA.out _ _)) (M.seen HKM.out (HSB.out _ _)) ?_
          intro z w1 M1 E1
          refine hK _ _ ?_
          clear hK K'
          refine wpAny_take (i := 6) (v := ?vrd) rfl (by kernel_rfl) (by kernel_rfl) (by kernel_rfl) (fun _ _ _ h => h) (Or.inl ⟨by rfl, ?yrd⟩) ?_
          case yrd => intro w; go_simp; try with_reducible rfl
          refine wpAny_done (by kernel_rfl) ?_ _
          go_wp2_with fail
          go_meet
          exact ⟨_, rfl, hid ⟨M.trans M1.of_drew, MM.heap E1⟩⟩
        · go_simp
          refine hK _ _ ?_
          clear hK K'
          refine wpAny_ready (rs := [3]) (by kernel_rfl) (by simp) ?_
          refine AllReady.cons rfl (fun K' hK => ?_) AllReady.nil
          go_simp
          refine hK _ _ ?_
          clear hK K'
          refine wpAny_ready (rs := [5]) (by kernel_rfl) (by simp) ?_
          refine AllReady.cons rfl (fun K' hK => ?_) AllReady.nil
          refine step_lookup (K := K) (p := ⟨g, o, none⟩) (q := ⟨g', o', none⟩) (n := n) (mb := mb) (by rfl) (.tmp 31) (.tmp 32) (by rfl) (by rfl) (by rfl) MM (M.seen HKM.out (HSA.out _ _)) (M.seen HKM.out (HSB.out _ _)) ?_
          intro z w1 M1 E1
          refine hK _ _ ?_
          clear hK K'
          refine wpAny_take (i := 6) (v := ?vre) rfl (by kernel_rfl) (by kernel_rfl) (by kernel_rfl) (fun _ _ _ h => h) (Or.inl ⟨by rfl, ?yre⟩) ?_
          case yre => intro w; go_simp; try with_reducible rfl
          refine wpAny_done (by kernel_rfl) ?_ _
          go_wp2_with fail
          go_meet
          exact ⟨_, rfl, hid ⟨M.trans M1.of_drew, MM.heap E1⟩⟩
      case rest =>
        clear x0 x1 x2 y0 y1 y2 z0 z1 hsz M MM
        obtain ⟨q, rfl, hc2⟩ := hcut
        obtain ⟨M, MM⟩ := hc2.out
        obtain ⟨⟨x0, x1, x2⟩, -, ⟨z0, z1⟩, hsz⟩ := HC.out _ M
        have P1 := hid (HPR.out _ M MM)
        clear hc2 M MM
        cases q with
        | false =>
          go_wp2
          exact bodyPost_end (v := .tuple #[]) (by simp [results, Tryz.results61, go_sem]) rfl ⟨rfl, v, ps, P1.out.1, Or.inl rfl, P1.out.2⟩
        | true =>
          have hxI : (0 : Int) ≤ (m : Int) := by omega
          have HRO := hid (fun (ob : Obj) => (by
            have h2 := (P1.out.1.below ((Below.refl _ _).alloc (Nat.le_refl _) ob)).own
            rw [HV.out, ← HM.out] at h2
            exact h2 : (wc.alloc ob).drew.ownsRow B 116 2 (.slice av m vc) m (flatQ ps)))
          have HBW := hid (fun (ob : Obj) => (by have := P1.out.1.hl; have := P1.out.1.lbl; show B ≤ (wc.alloc ob).heap.size; simp only [World.size_alloc]; omega : B ≤ (wc.alloc ob).drew.heap.size))
          have HLB := hid (fun (ob : Obj) (w3 : World) (hg : (wc.alloc ob).drew.grownBy w3 (Value.slice av m vc).ownBlock) => (by
            have hl := P1.out.1.lbl
            have hf := P1.out.1.far.1
            rw [HV.out] at hf
            have e : w3.heap[lb]? = wc.heap[lb]? := (hg.block lb (by show lb < (wc.alloc ob).heap.size; simp only [World.size_alloc]; omega) (fun e => hf e.symm)).trans (Below.heap_alloc _ _ _ hl)
            exact ⟨(World.cell?_of_block (by exact e)).trans x0, (World.frozen?_of_block (by exact e)).trans x2⟩ : w3.cell? ⟨lb, 0, none⟩ = some (.slice av m vc) ∧ w3.frozen? ⟨lb, 0, none⟩ = false))
          have HFIN := hid (fun (ob : Obj) (w3 : World) (g3 cap3 : Nat) (hown : w3.ownsRow B 116 2 (.slice (some ⟨g3, 0, none⟩) (m + 1) cap3) (m + 1) (flatQ ps ++ [.slice (some ⟨g, o, none⟩) n cap, .slice (some ⟨g', o', none⟩) n cbp])) (hg : (wc.alloc ob).drew.grownBy w3 (Value.slice av m vc).ownBlock) (hat : (Value.slice av m vc).ownBlock = some g3 ∨ g3 = wc.heap.size + 1) => (by
            have hbx : Below wc.heap.size wc (wc.alloc ob).drew := ((Below.refl _ _).alloc (Nat.le_refl _) ob).drew
            have hk1 := P1.out.2.trans (PrAt.kept (B := B) (lb := lb) (mb := mb) (v := v) hbx)
            have h1 := P1.out.1.below hbx
            rw [← HV.out] at hg hat
            rw [← HEA.out, ← HEB.out] at hown
            obtain ⟨h2, h3⟩ := h1.pushed (p := p) HM.out hg (by rcases hat with e | e; exact Or.inl e; exact Or.inr (by show g3 = (wc.alloc ob).heap.size; simp only [World.size_alloc]; exact e)) hown (HA.out.kept hk1) (HB.out.kept hk1) HK.out
            exact ⟨rfl, _, _, h2, Or.inr rfl, hk1.trans h3⟩ : AddQ B w lb mb v ps p (.returned (.tuple #[])) (w3.setCell ⟨lb, 0, none⟩ (.slice (some ⟨g3, 0, none⟩) (m + 1) cap3))))
          have hlw : lb < wc.heap.size := by omega
          clear hsz
          go_wp2_with fail
          go_region_law (refine step_append_lies _ (by rfl) (.tmp 39) (.tmp 41) 111 (by rfl) B 116 i0 (.agg #[.slice none 0 0, .slice none 0 0]) 2 48 Tryz.underlying111 HI.out HZ0.out HZ1.out HZ2.out rfl (by decide) (.slice av m vc) m (flatQ ps) (by rfl) (by exact HRO.out _) ⟨wc.heap.size, 0, none⟩ 1 1 [.slice (some ⟨g, o, none⟩) n cap, .slice (some ⟨g', o', none⟩) n cbp] (by rfl) (by rfl) (by exact new_cells wc #[.slice (some ⟨g, o, none⟩) n cap, .slice (some ⟨g', o', none⟩) n cbp] _ _ rfl) (by simp [Value.oneCell']) (by omega) (by unfold maxLen; omega) (by omega) (by exact HBW.out _) (wc.heap.size + 1) (by simp) ?_; intro g3 cap3 w3 hown3 hgrow3 hat3 hlt3; obtain ⟨q1, q2⟩ := HLB.out _ w3 hgrow3)
          all_goals (
            have F1 := hid (HFIN.out _ _ _ _ hown3 hgrow3 hat3)
            clear hown3 hgrow3 hat3
            go_wp2
            exact bodyPost_end (v := .tuple #[]) (by simp [results, Tryz.results61, go_sem]) rfl F1.out)
end Go.Proofs.YtagppgncanimaaaGreatDoor
namespace Go.Proofs.YtagppgncanimaaaGreatDoor
open Go.RowKit Go

theorem own_popQ {w : World} {B : Nat} {e : TypeId} {size g m cap : Nat} {xs ys : List Value} (h : w.ownsRow B e size (.slice (some ⟨g, 0, none⟩) (m + 1) cap) (m + 1) (xs ++ ys)) (hl : xs.length = m * size) : w.ownsRow B e size (.slice (some ⟨g, 0, none⟩) m cap) m xs := by
  refine ⟨hl, Or.inr ?_⟩
  rcases h.2 with ⟨e, _⟩ | ⟨g', c', cur, e, hB, hg, hnc, hcm, hcs, ht⟩
  · cases e
  · cases e
    refine ⟨g, cap, cur, rfl, hB, hg, by omega, hcm, hcs, ?_⟩
    have h1 := congrArg (List.take (m * size)) ht
    rw [List.take_take, List.take_append_of_le_length (by omega), List.take_of_length_le (by omega : xs.length ≤ m * size)] at h1
    rw [← h1]
    congr 1
    rw [Nat.add_mul]
    omega
/-- The last pair was taken off. -/
theorem PrAt.popped {B : Nat} {w W : World} {lb mb m g cap : Nat} {ps : List Pr} {p : Pr} (h : PrAt B w lb mb (.slice (some ⟨g, 0, none⟩) (m + 1) cap) (ps ++ [p])) (hm : m = ps.length) (hos : W.os = w.os) (htp : W.tape = w.tape) (hou : W.output = w.output) (hs : w.heap.size ≤ W.heap.size)
    (hb : ∀ k, k < w.heap.size → k ≠ lb → W.heap[k]? = w.heap[k]?) (hl : W.heap[lb]? = some (.cells #[.slice (some ⟨g, 0, none⟩) m cap, .map (some mb)] 113 (0, 0))) :
    PrAt B W lb mb (.slice (some ⟨g, 0, none⟩) m cap) ps ∧ PrKept B w W lb mb (.slice (some ⟨g, 0, none⟩) (m + 1) cap) (.slice (some ⟨g, 0, none⟩) m cap) := by
  have hk : PrKept B w W lb mb (.slice (some ⟨g, 0, none⟩) (m + 1) cap) (.slice (some ⟨g, 0, none⟩) m cap) := ⟨hos, htp, hou, hs, fun k hk => hb k hk.1 hk.2.1, fun k hk => ⟨Nat.lt_of_lt_of_le hk.1 hs, hk.2.1, hk.2.2.1, fun e => hk.2.2.2 (by simpa [Value.ownBlock] using e)⟩⟩
  refine ⟨h.upd hk hl ?_ ?_ fun x hx => h.each x (List.mem_append_left _ hx), hk⟩
  · obtain ⟨es, clock, e, hes⟩ := h.map
    exact ⟨es, clock, by rw [hb mb h.mbl (fun e => h.ne e.symm), e], hes⟩
  · have h1 := h.own
    rw [flatQ_app, List.length_append, List.length_singleton, ← hm] at h1
    have h2 := own_popQ h1 (by rw [flatQ_len, hm])
    rw [← hm]
    exact own_same h2 fun k hk => hb k (h1.lt k (by simpa [Value.ownBlock] using hk)).2 (fun e => h.far.1 (by rw [← e]; simpa [Value.ownBlock] using hk))
theorem PrAt.last {B : Nat} {w : World} {lb mb : Nat} {v : Value} {ps : List Pr} {p : Pr} (h : PrAt B w lb mb v (ps ++ [p])) : ∃ g cap, v = .slice (some ⟨g, 0, none⟩) (ps.length + 1) cap ∧ g ≠ lb ∧ g < w.heap.size ∧ ps.length + 1 ≤ cap ∧ w.cell? ⟨g, ps.length * 2, none⟩ = some p.a ∧ w.cell? ⟨g, ps.length * 2 + 1, none⟩ = some p.b := by
  obtain ⟨g, cap, e, _, hg, hc⟩ := ownX_form h.own (by simp)
  have hf := h.far.1
  rw [e] at hf
  have hcap : ps.length + 1 ≤ cap := by
    rcases h.own.2 with ⟨e2, _⟩ | ⟨g', c', cur, e2, _, _, hnc, _⟩
    · rw [e] at e2; cases e2
    · rw [e] at e2
      cases e2
      simpa using hnc
  refine ⟨g, cap, by simpa using e, fun e2 => hf (by rw [e2]; rfl), hg, hcap, hc _ _ ?_, hc _ _ ?_⟩
  · rw [flatQ_app, List.getElem?_append_right (by rw [flatQ_len]; omega), flatQ_len]; simp [flatQ]
  · rw [flatQ_app, List.getElem?_append_right (by rw [flatQ_len]; omega), flatQ_len]; simp [flatQ]

set_option maxRecDepth 20000 in
set_option maxHeartbeats 4000000 in
theorem pNext_any {B : Nat} {w : World} {lb mb : Nat} {v : Value} {ps : List Pr} {p : Pr} (h : PrAt B w lb mb v (ps ++ [p])) (hn : ps.length ≤ 1000000) :
    Calls Tryz.prog 62 #[.pointer (some ⟨lb, 0, none⟩)] w fun en w' => en = .returned (.agg #[p.a, p.b]) ∧ ∃ v', PrAt B w' lb mb v' ps ∧ PrKept B w w' lb mb v v' := by
  have H := hid h
  obtain ⟨g, cap, rfl, hgl, hg, hcap, ca, cb⟩ := h.last
  obtain ⟨l0, l1, lf⟩ := h.cells
  have hlb := h.lbl
  obtain ⟨m, hm⟩ : ∃ m, m = ps.length := ⟨_, rfl⟩
  have HM := hid hm
  rw [← hm] at l0 ca cb hn H hcap
  have hmc : m ≤ cap := by omega
  obtain ⟨ao, an, ac, ea⟩ : ∃ ao an ac, p.a = .slice ao an ac := by obtain ⟨ao, ac, e, _⟩ := (h.each p (by simp)).1.at; exact ⟨ao, _, ac, e⟩
  obtain ⟨bo, bn, bc, eb⟩ : ∃ ao an ac, p.b = .slice ao an ac := by obtain ⟨ao, ac, e, _⟩ := (h.each p (by simp)).2.1.at; exact ⟨ao, _, ac, e⟩
  rw [ea] at ca ⊢
  rw [eb] at cb ⊢
  have hmI : (0 : Int) ≤ (m : Int) := by omega
  have hmJ : (m : Int) < (m : Int) + 1 := by omega
  rw [← hm]
  clear h hm ea eb
  go_enter Tryz.func62, Tryz.ntmps62
  go_wp2
  refine bodyPost_ret (v := .agg #[.slice ao an ac, .slice bo bn bc]) (by simp [results, Tryz.results62, go_sem]) rfl ⟨rfl, .slice (some ⟨g, 0, none⟩) m cap, ?_⟩
  refine H.out.popped HM.out rfl rfl rfl (by simp only [World.size_alloc, World.size_setCell]; omega) (fun k hk hkl => ?_) ?_
  · rw [Below.heap_alloc _ _ _ (by simp only [World.size_alloc, World.size_setCell]; omega), Below.heap_alloc _ _ _ (by simpa using hk), Below.heap_setCell _ _ _ _ (by exact hkl)]
  · rw [Below.heap_alloc _ _ _ (by simp only [World.size_alloc, World.size_setCell]; omega), Below.heap_alloc _ _ _ (by simpa using hlb), setCell_own H.out.blk]
    rfl
end Go.Proofs.YtagppgncanimaaaGreatDoor
