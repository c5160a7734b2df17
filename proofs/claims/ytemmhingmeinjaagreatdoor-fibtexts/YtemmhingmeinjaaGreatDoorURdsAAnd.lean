/-
  The document's own functions on texts and rows of texts: Right, Texts.
-/
import Derived.Test.YtemmhingmeinjaaGreatDoorBMapAnd
namespace Go.Proofs.YtemmhingmeinjaaGreatDoor
open Go.RowKit
open Wo (Wd)

theorem Tryz.infoRule : (Tryz.prog.info? 51).map (fun i => (i.zero, i.size, i.bytes)) = some (some (.agg #[.int .i64 0, .string ByteArray.empty, .int .i64 0, .slice none 0 0]), 4, 56) := by kernel_rfl

abbrev rdz (width : Nat) : Obj := .cells #[.int .i64 width, .slice none 0 0, .string ⟨#[]⟩, .int .i64 0, .int .i64 0, .int .i64 0, .int .i64 0, .int .i64 0] 145
theorem RsInv.start (w : World) (width : Nat) (ls : List (List Wd)) : RsInv w width ls 0 (.slice none 0 0) []
    ((((w.alloc (.cells #[.slice none 0 0] 36)).alloc (fob (.int .i64 0) (.int .i64 0) (.int .i64 0))).alloc (rdz width)).alloc (.map #[] 0)) := {
  l := new_old _ _ (new_old _ _ (new_old _ _ (new_0 _ _)))
  f := new_old _ _ (new_old _ _ (new_1 _ _ _))
  r := ⟨_, _, _, _, _, _, _, new_old _ _ (new_2 _ _ _ _)⟩
  keys := by
    have := KeysAt.new (((w.alloc (.cells #[.slice none 0 0] 36)).alloc (fob (.int .i64 0) (.int .i64 0) (.int .i64 0))).alloc (rdz width))
    simp only [World.size_alloc] at this
    exact this
  rows := RsAt.nil _ _
  below := ((((Below.refl _ _).alloc (Nat.le_refl _) _).alloc (by simp) _).alloc (by simp; omega) _).alloc (by simp; omega) _
  len := rfl
  few := by omega
  le := Nat.zero_le _
  all := by simp }

theorem RsInv.finish {w : World} {width : Nat} {ls : List (List Wd)} {v : Value} {ps : List (Ru.Rl × Value)} {wr : World} (h : RsInv w width ls ls.length v ps wr) :
    ReadPost w width ls (.returned (.tuple #[v, .agg #[.int .i64 0, .int .i64 0, .int .i64 0]])) ((((wr.setCell ⟨w.heap.size, 0, none⟩ v).setCell ⟨w.heap.size + 1, 0, none⟩ (.int .i64 0)).setCell ⟨w.heap.size + 1, 1, none⟩ (.int .i64 0)).setCell ⟨w.heap.size + 1, 2, none⟩ (.int .i64 0)) := by
  have hr : Ru.rds width ls [] = .ok (ps.map Prod.fst) := by rw [h.all]; simp [Ru.rds]
  refine ⟨(((h.below.setCell (by simp) _).setCell (by simp) _).setCell (by simp) _).setCell (by simp) _, Or.inr ⟨v, ps, hr, rfl, ?_⟩⟩
  have hk : ∀ {w1 : World} {b o : Nat} {u : Value} {cs : Array Value} {T : TypeId}, RsAt w1 w.heap.size v ps → w1.heap[b]? = some (.cells cs T (0, 0)) → T ≠ 51 → T ≠ 9 → RsAt (w1.setCell ⟨b, o, none⟩ u) w.heap.size v ps := fun hr hb h1 h2 =>
    hr.kept (grown_cell _ _ _ _) (fun b' e cs' T' fr' hb' => by
      simp only [Option.some.injEq] at e
      subst e
      rw [hb] at hb'
      simp only [Option.some.injEq, Obj.cells.injEq] at hb'
      rw [← hb'.2.1]; exact ⟨h1, h2⟩) (fun b' e => by simp only [Option.some.injEq] at e; subst e; exact lt_of_block hb)
  have f1 := block_other (o := 0) v h.f (g := w.heap.size) (by omega)
  have f2 := block_set (o := 0) (.int .i64 0) f1
  have f3 := block_set (o := 1) (.int .i64 0) f2
  exact hk (hk (hk (hk h.rows h.l (by decide) (by decide)) f1 (by decide) (by decide)) f2 (by decide) (by decide)) f3 (by decide) (by decide)

set_option maxHeartbeats 1000000 in
theorem umust_b {w : World} {rb width : Nat} (hB : RdB w rb width) (b : Bool) (x : Wd) (e : Nat) :
    Calls Tryz.prog 72 #[.pointer (some ⟨rb, 0, none⟩), .bool b, wv x, .int .i64 e] w fun en w' => (Hid (b = true) ∧ en = .returned (.tuple #[]) ∧ w' = w.alloc (wob x)) ∨ (Hid (b = false) ∧ Gave w rb (Ru.ft x e) en w') := by
  cases b with
  | true => exact (umust_yes _ x e w).mono fun en w' h => Or.inl ⟨rfl, h⟩
  | false =>
    obtain ⟨c1, c2, c3, c4, c5, c6, c7, hc0⟩ := hB
    have hc := new_old w (wob x) hc0
    have k5 := cell_at (o := 5) hc
    have k6 := cell_at (o := 6) hc
    have k7 := cell_at (o := 7) hc
    simp only [List.getElem?_toArray, List.getElem?_cons_succ, List.getElem?_cons_zero] at k5 k6 k7
    have f5 : (w.alloc (wob x)).frozen? ⟨rb, 5, none⟩ = false := free_of hc
    have f6 : (w.alloc (wob x)).frozen? ⟨rb, 6, none⟩ = false := free_of hc
    have f7 : (w.alloc (wob x)).frozen? ⟨rb, 7, none⟩ = false := free_of hc
    have HF : Hid (FaultAt ((((w.alloc (wob x)).setCell ⟨rb, 5, none⟩ (.int .i64 x.2.1)).setCell ⟨rb, 6, none⟩ (.int .i64 x.2.2)).setCell ⟨rb, 7, none⟩ (.int .i64 e)) rb (Ru.ft x e) ∧ w.grownBy ((((w.alloc (wob x)).setCell ⟨rb, 5, none⟩ (.int .i64 x.2.1)).setCell ⟨rb, 6, none⟩ (.int .i64 x.2.2)).setCell ⟨rb, 7, none⟩ (.int .i64 e)) (some rb)) :=
      ⟨⟨_, c1, c2, c3, c4, by rw [block_set (o := 7) _ (block_set (o := 6) _ (block_set (o := 5) _ hc))]; rfl⟩, grown_two (grown_two (grown_two (grown_alloc _ _ _) (grown_set _ _ _ _)) (grown_set _ _ _ _)) (grown_set _ _ _ _)⟩
    clear hc hc0
    have q : Calls Tryz.prog 72 #[.pointer (some ⟨rb, 0, none⟩), .bool false, wv x, .int .i64 e] w fun en w' => Gave w rb (Ru.ft x e) en w' := by
      go_enter Tryz.func72, Tryz.ntmps72
      go_wp2
      exact ⟨rfl, e, rfl, HF.out⟩
    exact q.mono fun en w' h => Or.inr ⟨rfl, h⟩

def PanicKeeps (D : List Deferred) (p4 p5 : Value) (X : List PanicEntry → World → Prop) (Nm : Act → World → Prop) : Exit → Act → World → Prop
  | .panic c, a, w => X c w ∧ a.defers = D ∧ a.tmps[4]? = some p4 ∧ a.tmps[5]? = some p5
  | .normal, a, w => Nm a w
  | _, _, _ => False
theorem PanicKeeps.stable {D : List Deferred} {p4 p5 : Value} {X : List PanicEntry → World → Prop} {Nm : Act → World → Prop} {d : Tmp} (h4 : d ≠ 4) (h5 : d ≠ 5) (v : Value) (c : List PanicEntry) (a : Act) (w : World)
    (h : PanicKeeps D p4 p5 X Nm (.panic c) (a.put (some d) v) w) : PanicKeeps D p4 p5 X Nm (.panic c) a w := by
  obtain ⟨e1, e2, e3, e4⟩ := h
  refine ⟨e1, e2, ?_, ?_⟩
  · simpa [Act.put, Array.getElem?_setIfInBounds_ne h4] using e3
  · simpa [Act.put, Array.getElem?_setIfInBounds_ne h5] using e4
theorem wp_panic_keeps {P : Program} {code : Code} {Q : Exit → Act → World → Prop} {a : Act} {w : World} (D : List Deferred) (p4 p5 : Value) (X : List PanicEntry → World → Prop)
    (hp : ∀ c a w, X c w → a.defers = D → a.tmps[4]? = some p4 → a.tmps[5]? = some p5 → Q (.panic c) a w) (h : Code.wp P code (PanicKeeps D p4 p5 X (fun a w => Q .normal a w)) a w) : Code.wp P code Q a w := by
  refine Code.wp_mono (Q := PanicKeeps D p4 p5 X (fun a w => Q .normal a w)) ?_ h
  intro e a w hq
  cases e with
  | panic c => exact hp c a w hq.1 hq.2.1 hq.2.2.1 hq.2.2.2
  | normal => exact hq
  | ret => exact hq.elim
  | exit _ => exact hq.elim
  | goto _ => exact hq.elim
  | outgrown => exact hq.elim

section
variable {w : World} {width : Nat} {ls : List (List Wd)} {k : Nat} {v : Value} {ps : List (Ru.Rl × Value)} {wr w1 : World}
structure Beside (w : World) (v : Value) (ps : List (Ru.Rl × Value)) (w1 : World) : Prop where
  l : w1.heap[w.heap.size]? = some (.cells #[v] 36 (0, 0))
  f : w1.heap[w.heap.size + 1]? = some (fob (.int .i64 0) (.int .i64 0) (.int .i64 0))
  rows : RsAt w1 w.heap.size v ps
  below : Below w.heap.size w w1
theorem RsInv.beside (J : RsInv w width ls k v ps wr) : Beside w v ps wr := ⟨J.l, J.f, J.rows, J.below⟩
theorem Beside.reader (J : Beside w v ps wr) (hr : RdB wr (w.heap.size + 2) width) (hg : wr.grownBy w1 (some (w.heap.size + 2))) : Beside w v ps w1 := by
  obtain ⟨c1, c2, c3, c4, c5, c6, c7, hc⟩ := hr
  refine ⟨block_grow J.l hg (by omega), block_grow J.f hg (by omega), J.rows.kept hg (fun b e cs T fr hb => ?_) (fun b e => by simp only [Option.some.injEq] at e; subst e; exact lt_of_block hc), below_grow J.below hg (Nat.le_of_lt (lt_of_block J.l)) (by omega)⟩
  simp only [Option.some.injEq] at e
  subst e
  rw [hc] at hb
  simp only [Option.some.injEq, Obj.cells.injEq] at hb
  rw [← hb.2.1]; exact ⟨by decide, by decide⟩
theorem Beside.keys (J : Beside w v ps wr) {ks : List (Nat × List UInt8)} (hk : KeysAt wr (w.heap.size + 3) ks) (hg : wr.grownBy w1 (some (w.heap.size + 3))) : Beside w v ps w1 := by
  obtain ⟨f, ⟨D, ⟨es, clock, hb0, _⟩, _⟩, _⟩ := hk
  refine ⟨block_grow J.l hg (by omega), block_grow J.f hg (by omega), J.rows.kept hg (fun b e cs T fr hb => ?_) (fun b e => by simp only [Option.some.injEq] at e; subst e; exact lt_of_block hb0), below_grow J.below hg (Nat.le_of_lt (lt_of_block J.l)) (by omega)⟩
  simp only [Option.some.injEq] at e
  subst e
  rw [hb0] at hb
  cases hb
theorem Beside.on (J : Beside w v ps wr) (hb : Below wr.heap.size wr w1) : Beside w v ps w1 :=
  ⟨below_block hb J.l (lt_of_block J.l), below_block hb J.f (lt_of_block J.f), J.rows.below hb, J.below.trans (hb.mono (Nat.le_of_lt (lt_of_block J.l)))⟩
theorem Beside.alloc (J : Beside w v ps wr) (o : Obj) : Beside w v ps (wr.alloc o) := J.on ((Below.refl _ _).alloc (Nat.le_refl _) _)
theorem RdB.same {rb : Nat} (h : RdB wr rb width) (he : w1.heap[rb]? = wr.heap[rb]?) : RdB w1 rb width := by
  obtain ⟨c1, c2, c3, c4, c5, c6, c7, hc⟩ := h
  exact ⟨c1, c2, c3, c4, c5, c6, c7, he.trans hc⟩
theorem RdB.lt {rb : Nat} (h : RdB wr rb width) : rb < wr.heap.size := by
  obtain ⟨c1, c2, c3, c4, c5, c6, c7, hc⟩ := h
  exact lt_of_block hc
theorem rul_small {x : List Wd} {y : Ru.Rl} (h : Ru.rul width x = .ok y) (hs : ∀ z ∈ x, z.1.length ≤ 1048576) : y.prio ≤ 2147483647 ∧ y.mat.length ≤ 1048576 := by
  have hsh : Short (Ru.endW x) x := ⟨Ru.endW_text x, hs⟩
  unfold Ru.rul at h
  by_cases h1 : (Ru.nx (Ru.endW x) x).1 = Ru.ruleT
  · rw [if_neg (fun q => q h1)] at h
    rcases bool_two (Wo.numB (Ru.nx (Ru.endW x) x.tail).1) with h2 | h2
    · rw [if_pos h2] at h; cases h
    · rw [if_neg (by rw [h2]; simp)] at h
      rcases bool_two (Cub.Cu.right (Ru.nx (Ru.endW x) x.tail.tail).1) with h3 | h3
      · rw [if_pos h3] at h; cases h
      · rw [if_neg (by rw [h3]; simp)] at h
        by_cases h4 : (Ru.nx (Ru.endW x) x.tail.tail).1.length = width
        · rw [if_neg (fun q => q h4)] at h
          revert h
          cases Ru.act (Ru.endW x) x.tail.tail.tail with
          | error f => intro h; cases h
          | ok r =>
            obtain ⟨kk, pp, tt⟩ := r
            intro h
            simp only at h
            split at h
            · cases h
            · injection h with h
              subst h
              refine ⟨?_, hsh.tail.tail.nx⟩
              show Wo.numV _ ≤ _
              unfold Wo.numV
              rw [if_pos h2]
              unfold Wo.numB at h2
              simp only [decide_eq_true_eq] at h2
              exact h2.2.2.2
        · rw [if_pos h4] at h; cases h
  · rw [if_pos h1] at h; cases h
end

theorem RsInv.next {w : World} {width : Nat} {ls : List (List Wd)} {k : Nat} {v v' : Value} {ps : List (Ru.Rl × Value)} {wr w4 w5 : World} {o : Obj} {x : List Wd} {y : Ru.Rl} {u : Value} (J : RsInv w width ls k v ps wr) (hx : ls[k]? = some x) (hy : Ru.rul width x = .ok y) (hin : decide ((y.prio, y.mat) ∉ ps.map keyOfR) = true) (hk : k < 4096)
    (B4 : Beside w v ps w4) (R4 : RdB w4 (w.heap.size + 2) width) (K4 : KeysAt w4 (w.heap.size + 3) (ps.map keyOfR ++ [(y.prio, y.mat)])) (hP : PortsV w4 w.heap.size u y.ports)
    (ho : w5.ownsRow w.heap.size 51 4 v' (ps.length + 1) (flatR ps ++ [.int .i64 y.prio, .string (tx y.mat), .int .i64 y.kind, u])) (hg : (w4.alloc o).grownBy w5 v.ownBlock) :
    RsInv w width ls (k + 1) v' (ps ++ [(y, u)]) (w5.setCell ⟨w.heap.size, 0, none⟩ v') := by
  have own4 := B4.rows.own.alloc o
  have stay : ∀ {b : Nat} {cs : Array Value} {T : TypeId}, w4.heap[b]? = some (.cells cs T (0, 0)) → T ≠ 51 → w5.heap[b]? = some (.cells cs T (0, 0)) := fun hb hT => by
    have h1 := new_old w4 o hb
    exact (hg.block _ (lt_of_block h1) (fun e => own_ne own4 h1 hT e.symm)).trans h1
  have l5 := stay B4.l (by decide)
  have f5 := stay B4.f (by decide)
  obtain ⟨c1, c2, c3, c4, c5, c6, c7, hr⟩ := R4
  have r5 := stay hr (by decide)
  have hkb : w5.heap[w.heap.size + 3]? = w4.heap[w.heap.size + 3]? := by
    obtain ⟨f, ⟨D, ⟨es, clock, hb0, _⟩, _⟩, _⟩ := K4
    have h1 := new_old w4 o hb0
    refine (hg.block _ (lt_of_block h1) (fun e => ?_)).trans (h1.trans hb0.symm)
    rcases own4.2 with ⟨rfl, _⟩ | ⟨b, cap, cur, rfl, _, hb, _⟩
    · cases e
    · have e' : b = w.heap.size + 3 := by simpa [Value.ownBlock] using e.symm
      rw [e', h1] at hb
      cases hb
  have b4 : Below w.heap.size w (w4.alloc o) := B4.below.alloc B4.below.size _
  have b5 : Below w.heap.size w w5 := b4.grown hg b4.size (fun q hq => (own4.lt q hq).1)
  have rows5 : RsAt w5 w.heap.size v' (ps ++ [(y, u)]) := ((B4.alloc o).rows.snoc (q := (y, u)) (hP.kept (w' := w4.alloc o) fun b cs hb _ => heap_old _ _ (lt_of_block hb)) ho hg)
  exact {
    l := block_set _ l5
    f := block_other _ f5 (by omega)
    r := ⟨c1, c2, c3, c4, c5, c6, c7, block_other _ r5 (by omega)⟩
    keys := by
      rw [List.map_append]
      exact K4.same ((Below.heap_setCell _ _ _ _ (by show w.heap.size + 3 ≠ w.heap.size; omega)).trans hkb)
    rows := rows5.kept (grown_cell _ _ _ _) (fun b e cs T fr hb => by
      simp only [Option.some.injEq] at e
      subst e
      rw [l5] at hb
      simp only [Option.some.injEq, Obj.cells.injEq] at hb
      rw [← hb.2.1]; exact ⟨by decide, by decide⟩) (fun b e => by simp only [Option.some.injEq] at e; subst e; exact lt_of_block l5)
    below := b5.setCell (p := ⟨w.heap.size, 0, none⟩) (Nat.le_refl w.heap.size) _
    len := by simp [J.len]
    few := by omega
    le := (List.getElem?_eq_some_iff.1 hx).1
    all := J.onward hx hy hin hk u }
theorem Beside.list {w : World} {v : Value} {ps : List (Ru.Rl × Value)} {w4 w5 : World} {o : Obj} (B4 : Beside w v ps w4) (hg : (w4.alloc o).grownBy w5 v.ownBlock) : w5.heap[w.heap.size]? = some (.cells #[v] 36 (0, 0)) := by
  have h1 := new_old w4 o B4.l
  exact (hg.block _ (lt_of_block h1) (fun e => own_ne (B4.rows.own.alloc o) h1 (by decide) e.symm)).trans h1
theorem not_dec {p : Prop} [Decidable p] {b : Bool} (h : (!decide p) = b) : decide (¬ p) = b := by rw [← h]; simp
structure Faulty (w : World) (width : Nat) (ls : List (List Wd)) (v : Value) (ps : List (Ru.Rl × Value)) (c : List PanicEntry) (w3 : World) : Prop where
  ex : ∃ q f, c = pan q ∧ Beside w v ps w3 ∧ FaultAt w3 (w.heap.size + 2) f ∧ Ru.rds width ls [] = .error f

set_option maxRecDepth 4000 in
set_option maxHeartbeats 4000000 in
theorem uread_any {w : World} {g : Nat} {ls : List (List Wd)} {G C : Nat → Nat} (hL : LsAt w g ls G C) (cap width : Nat) (_hn : ls.length ≤ 1048577) :
    Calls Tryz.prog 39 #[.slice (some ⟨g, 0, none⟩) ls.length cap, .int .i64 width] w fun en w' => ReadPost w width ls en w' := by
  have hmf : ∀ (fn : Fn) (first cap : Array Value) (w : World), (Instr.makeFunc fn first cap).run Tryz.prog w = .ok (.func fn first cap) w := fun _ _ _ _ => rfl
  have hmm : ∀ w : World, (Instr.makeMap 85 none).run Tryz.prog w = .ok (.map (some w.heap.size)) (w.alloc (.map #[] 0)) := fun _ => by kernel_rfl
  obtain ⟨i0, hi, hz0, hz1, hz2⟩ := info_parts Tryz.infoRule
  have HI := hid hi
  have HZ0 := hid hz0
  have HZ1 := hid hz1
  have HZ2 := hid hz2
  clear hi hz0 hz1 hz2
  have HL := hid hL
  have hgl := hL.old
  clear hL
  go_enter_defers Tryz.func39, Tryz.ntmps39
  go_wp2_with fail
  go_loopw [17] (fun i wr => ∃ (k : Nat) (v : Value) (ps : List (Ru.Rl × Value)), i = .int .i64 k ∧ Hid (RsInv w width ls k v ps wr)) (fun i _ => ls.length - (intOf i).toNat)
  case atStart => exact ⟨0, _, _, rfl, RsInv.start w width ls⟩
  case round =>
    obtain ⟨k, v, ps, rfl, J⟩ := hrel
    obtain ⟨ao, vcap, rfl⟩ := J.out.rows.form
    have c0 := cell_at (o := 0) J.out.l
    simp only [List.getElem?_toArray, List.getElem?_cons_zero] at c0
    have f0 := free_of (o := 0) J.out.l
    have hkle := J.out.le
    by_cases hlt : k < ls.length
    · obtain ⟨x, hx⟩ : ∃ x, ls[k]? = some x := ⟨ls[k], List.getElem?_eq_getElem hlt⟩
      have HX := hid hx
      have hLr := HL.out.below J.out.below
      have hxs := HL.out.small x (List.mem_of_getElem? hx)
      have hck := hLr.line k x hx
      have hcc := HL.out.cap k x hx
      have hkI : (k : Int) < (ls.length : Int) := by omega
      have hk0 : (0 : Int) ≤ (k : Int) := by omega
      have hne : G k ≠ w.heap.size + 2 := by have := (HL.out.word k x hx).1; omega
      have HR := hid (urule J.out.r (hLr.word k x hx) hne hxs.1 hcc.1 (by have := hcc.2; unfold maxLen at this; omega) hxs.2.2 hxs.2.1)
      clear hx hLr hxs hcc
      go_wp2_with fail
      refine HR.out.mono ?_
      rintro en w1 (⟨y, u, hy, rfl, hP, hB1, hg1⟩ | ⟨f, hf, q, rfl, hF, hg1⟩)
      rotate_left
      · have J1 := J.out.beside.reader J.out.r hg1
        exact uleave rfl rfl J1.below J1.l J1.f hF (J.out.faultR HX.out hf)
      obtain ⟨uo, un, uc, rfl⟩ := hP.form
      have HXS := hid (HL.out.small x (List.mem_of_getElem? HX.out))
      have hys := rul_small hy (fun z hz => (HXS.out.2.2 z hz).1)
      have HY := hid hy
      have HP := hid hP
      have HB1 := hid hB1
      have B1 := hid (J.out.beside.reader J.out.r hg1)
      have K1 := hid (J.out.keys.same (hg1.block _ J.out.keys.lt (by simp)))
      have hL1 := HL.out.below B1.out.below
      obtain ⟨z, hz⟩ : ∃ z, x[0]? = some z := ⟨x[0]'HXS.out.1, List.getElem?_eq_getElem HXS.out.1⟩
      obtain ⟨z0, z1, z2⟩ := (hL1.word k x HX.out).2 0 z hz
      have hG1 := (hL1.word k x HX.out).1
      have HZ := hid (show z = Ru.nx (Ru.endW x) x by
        rcases x with _ | ⟨a, t⟩
        · simp at hz
        · simpa using hz.symm)
      simp only [Nat.zero_mul, Nat.zero_add] at z0 z1 z2
      have hxl : 0 < x.length := HXS.out.1
      have hxI : (0 : Int) < (x.length : Int) := by omega
      obtain ⟨kg, hkg⟩ : ∃ kg, kg = G k := ⟨_, rfl⟩
      clear hP hB1 hy hz hL1
      have e0 := alloc_cell z0 hG1
      have e1 := alloc_cell z1 hG1
      have e2 := alloc_cell z2 hG1
      have HA := hid (uadd (w := (w1.alloc (rob y.prio (tx y.mat) y.kind (.slice uo un uc))).drew) (K1.out.same (show _ = _ from heap_old w1 _ K1.out.lt)) y (.slice uo un uc) hys.1 hys.2 (by rw [List.length_map, J.out.len]; have := J.out.few; omega))
      have hN1 : w.heap.size + 3 < w1.heap.size := K1.out.lt
      have hGo : G k < w.heap.size := (HL.out.word k x HX.out).1
      have HS0 : Hid (∀ w2 : World, (w1.alloc (rob y.prio (tx y.mat) y.kind (.slice uo un uc))).drew.grownBy w2 (some (w.heap.size + 3)) → w2.cell? ⟨w1.heap.size, 0, none⟩ = some (.int .i64 y.prio) ∧ w2.cell? ⟨w1.heap.size, 1, none⟩ = some (.string (tx y.mat)) ∧ w2.cell? ⟨w1.heap.size, 2, none⟩ = some (.int .i64 y.kind) ∧ w2.cell? ⟨w1.heap.size, 3, none⟩ = some (.slice uo un uc) ∧ w2.cell? ⟨G k, 0, none⟩ = some (.string (tx z.1)) ∧ w2.cell? ⟨G k, 1, none⟩ = some (.int .i64 z.2.1) ∧ w2.cell? ⟨G k, 2, none⟩ = some (.int .i64 z.2.2)) := by
        intro w2 hg2
        have b1 : w2.heap[w1.heap.size]? = some (rob y.prio (tx y.mat) y.kind (.slice uo un uc)) := block_grow (w := (w1.alloc (rob y.prio (tx y.mat) y.kind (.slice uo un uc))).drew) (new_0 w1 _) hg2 (by omega)
        have b2 : w2.heap[G k]? = (w1.alloc (rob y.prio (tx y.mat) y.kind (.slice uo un uc))).heap[G k]? := hg2.block _ (by show G k < (w1.alloc _).heap.size; simp; omega) (fun q => by simp at q; omega)
        refine ⟨by rw [cell_at b1]; rfl, by rw [cell_at b1]; rfl, by rw [cell_at b1]; rfl, by rw [cell_at b1]; rfl, ?_, ?_, ?_⟩
        · rw [World.cell?_of_block b2]; exact e0 _
        · rw [World.cell?_of_block b2]; exact e1 _
        · rw [World.cell?_of_block b2]; exact e2 _
      have hdz := HZ
      go_wp2_with fail
      refine wp_panic_keeps [udef w.heap.size] (.pointer (some ⟨w.heap.size, 0, none⟩)) (.pointer (some ⟨w.heap.size + 1, 0, none⟩)) (Faulty w width ls (.slice ao ps.length vcap) ps) ?_ ?_
      · rintro c a w3 ⟨q, f, rfl, hBs, hF, hr⟩ hd h4 h5
        show Leaves Tryz.prog Tryz.f39 a.tmps _ a.defers (.panicking (pan q)) w3
        rw [hd]
        exact uleave h4 h5 hBs.below hBs.l hBs.f hF hr
      refine wp_region_held_drew (S := (fun w' => w'.cell? ⟨w1.heap.size, 0, none⟩ = some (.int .i64 y.prio) ∧ w'.cell? ⟨w1.heap.size, 1, none⟩ = some (.string (tx y.mat)) ∧ w'.cell? ⟨w1.heap.size, 2, none⟩ = some (.int .i64 y.kind) ∧ w'.cell? ⟨w1.heap.size, 3, none⟩ = some (.slice uo un uc) ∧ w'.cell? ⟨G k, 0, none⟩ = some (.string (tx z.1)) ∧ w'.cell? ⟨G k, 1, none⟩ = some (.int .i64 z.2.1) ∧ w'.cell? ⟨G k, 2, none⟩ = some (.int .i64 z.2.2))) (by kernel_rfl) (by go_keep) (fun hHeld => ?_)
      refine wpAnyH_take (i := 0) (v := .map (some (w.heap.size + 1 + 1 + 1))) rfl (by kernel_rfl) (by kernel_rfl) (by kernel_rfl) (fun c a w h => PanicKeeps.stable (d := 24) (by decide) (by decide) _ c a w h) (Or.inl ⟨by rfl, fun w hSw => by (try dsimp only at hSw); go_simp⟩) hHeld ?_
      simp only [Act.put, List.setIfInBounds_toArray]
      refine wpAnyH_take (i := 1) (v := rv y (.slice uo un uc)) rfl (by kernel_rfl) (by kernel_rfl) (by kernel_rfl) (fun c a w h => PanicKeeps.stable (d := 25) (by decide) (by decide) _ c a w h) (Or.inl ⟨by rfl, fun w hSw => by (try dsimp only at hSw); go_simp⟩) hHeld ?_
      simp only [Act.put]
      refine wpAnyH_take (i := 3) (v := .slice (some ⟨G k, 0, none⟩) x.length (C k)) rfl (by kernel_rfl) (by kernel_rfl) (by kernel_rfl) (fun c a w h => PanicKeeps.stable (d := 27) (by decide) (by decide) _ c a w h) (Or.inl ⟨by rfl, fun w hSw => by (try dsimp only at hSw); go_simp⟩) hHeld ?_
      simp only [Act.put]
      refine wpAnyH_take (i := 4) (v := .pointer (some ⟨G k, 0, none⟩)) rfl (by kernel_rfl) (by kernel_rfl) (by kernel_rfl) (fun c a w h => PanicKeeps.stable (d := 28) (by decide) (by decide) _ c a w h) (Or.inl ⟨by rfl, fun w hSw => by (try dsimp only at hSw); go_simp⟩) hHeld ?_
      simp only [Act.put]
      refine wpAnyH_take (i := 5) (v := wv z) rfl (by kernel_rfl) (by kernel_rfl) (by kernel_rfl) (fun c a w h => PanicKeeps.stable (d := 29) (by decide) (by decide) _ c a w h) (Or.inl ⟨by rfl, fun w hSw => by (try dsimp only at hSw); go_simp⟩) hHeld ?_
      simp only [Act.put]
      refine wpAnyH_ready (rs := [2]) (by kernel_rfl) (by simp) ?_
      refine AllReadyH.cons rfl (fun K hK => ?_) AllReadyH.nil
      go_simp
      refine HA.out.mono ?_
      rintro en w2 ⟨rfl, hks, hg2⟩
      have HKS := hid hks
      have HG2 := hid hg2
      have B2 := hid (((B1.out.alloc (rob y.prio (tx y.mat) y.kind (.slice uo un uc))).on (Below.refl _ _).drew).keys (K1.out.same (show _ = _ from heap_old w1 _ K1.out.lt)) hg2)
      have R2 := hid (RdB.same (w1 := w2) HB1.out ((hg2.block _ (by show _ < (w1.alloc _).heap.size; have := HB1.out.lt; simp; omega) (by simp)).trans (show _ = _ from heap_old w1 _ HB1.out.lt)))
      refine hK.out _ _ (HS0.out w2 hg2) (fun hHeld2 => ?_)
      clear hK K hks hg2 hHeld
      refine wpAnyH_ready (rs := [6]) (by kernel_rfl) (by simp) ?_
      refine AllReadyH.cons rfl (fun K hK => ?_) AllReadyH.nil
      go_simp
      refine (umust_b R2.out _ z 52).mono ?_
      rintro en w3 (⟨HB, rfl, rfl⟩ | ⟨HB, q, rfl, hF, hg3⟩)
      rotate_left
      · exact ⟨⟨q, _, rfl, B2.out.reader R2.out hg3, hF, by rw [HZ.out]; exact J.out.faultS HX.out HY.out (not_dec HB.out)⟩, rfl, rfl, rfl⟩
      have hN2 : w1.heap.size < w2.heap.size := by have := HG2.out.size; simp [World.drew] at this; omega
      obtain ⟨t0, t1, t2, t3, t4, t5, t6⟩ := HS0.out w2 HG2.out
      have s0 := alloc_cell t0 hN2 (wob z)
      have s1 := alloc_cell t1 hN2 (wob z)
      have s2 := alloc_cell t2 hN2 (wob z)
      have s3 := alloc_cell t3 hN2 (wob z)
      have s4 := alloc_cell t4 (by omega : G k < w2.heap.size) (wob z)
      have s5 := alloc_cell t5 (by omega : G k < w2.heap.size) (wob z)
      have s6 := alloc_cell t6 (by omega : G k < w2.heap.size) (wob z)
      refine hK.out _ _ ⟨s0, s1, s2, s3, s4, s5, s6⟩ (fun _ => ?_)
      refine wpAnyH_done (by kernel_rfl) ?_ _
      clear hK K hHeld2 t0 t1 t2 t3 t4 t5 t6
      have B3 := hid (B2.out.alloc (wob z))
      have R3 := hid (RdB.same (w1 := w2.alloc (wob z)) R2.out (heap_old _ _ R2.out.lt))
      dsimp only [PanicKeeps]
      go_wp2_with fail
      refine (umust_b R3.out _ z 3).mono ?_
      rintro en w4 (⟨HB4, rfl, rfl⟩ | ⟨HB4, q, rfl, hF, hg4⟩)
      rotate_left
      · exact uleave rfl rfl (B3.out.reader R3.out hg4).below (B3.out.reader R3.out hg4).l (B3.out.reader R3.out hg4).f hF (by rw [HZ.out]; exact J.out.faultM HX.out HY.out (not_dec HB.out) (by have := HB4.out; simp at this; omega))
      have hk4 : k < 4096 := by have := HB4.out; simp at this; omega
      have B4 := hid (B3.out.alloc (wob z))
      have R4 := hid (RdB.same (w1 := (w2.alloc (wob z)).alloc (wob z)) R3.out (heap_old _ _ R3.out.lt))
      have K4 := hid (KeysAt.same (w' := (w2.alloc (wob z)).alloc (wob z)) (HKS.out (of_decide_eq_true (not_dec HB.out))) (by rw [heap_old _ _ (by simp; omega), heap_old _ _ (by omega)]))
      have P4 := hid ((HP.out.kept (w' := (w2.alloc (wob z)).alloc (wob z)) (by
        intro b cs hb hbB
        have hkl := J.out.keys.lt
        have hb1 := lt_of_block hb
        rw [heap_old _ _ (by simp; omega), heap_old _ _ (by omega)]
        refine (HG2.out.block b (by show b < (w1.alloc _).heap.size; simp; omega) (fun q => by simp at q; omega)).trans ?_
        exact heap_old _ _ hb1)).mono (show w.heap.size ≤ wr.heap.size from J.out.below.size))
      have hlb := B4.out.l
      have n0 := cell_at (o := 0) hlb
      simp only [List.getElem?_toArray, List.getElem?_cons_zero] at n0
      have n1 := alloc_cell n0 (lt_of_block hlb)
      have p0 := alloc_cell s0 (by simp; omega) (wob z)
      have p1 := alloc_cell s1 (by simp; omega) (wob z)
      have p2 := alloc_cell s2 (by simp; omega) (wob z)
      have p3 := alloc_cell s3 (by simp; omega) (wob z)
      have hsz4 : w.heap.size ≤ w2.heap.size := by omega
      have hplen : ps.length ≤ 4096 := by have := J.out.len; have := J.out.few; omega
      clear hlb s4 s5 s6
      go_wp2_with (first | (at_builtin; refine wpList_append_own_at _ rfl _ _ 36 rfl w.heap.size 51 i0 (.agg #[.int .i64 0, .string ByteArray.empty, .int .i64 0, .slice none 0 0]) 4 56 Tryz.underlying36 HI.out HZ0.out HZ1.out HZ2.out rfl (by decide) (.slice ao ps.length vcap) ps.length (flatR ps) rfl (B4.out.rows.own.alloc _) ⟨w2.heap.size + 1 + 1, 0, none⟩ 1 1 [.int .i64 y.prio, .string (tx y.mat), .int .i64 y.kind, .slice uo un uc] rfl rfl (new_cells _ #[.int .i64 y.prio, .string (tx y.mat), .int .i64 y.kind, .slice uo un uc] _ _ (by simp)) ?c2 ?c3 ?c4 ?c5 ?_))
      case c2 => simp [Value.oneCell']
      case c3 => unfold maxLen; omega
      case c4 => omega
      case c5 => simp; omega
      intro v' w5 hown5 hgrow5 _ _
      obtain ⟨a5, cap5, rfl⟩ := own_form hown5
      have J5 := hid (J.out.next HX.out HY.out (not_dec HB.out) hk4 B4.out R4.out K4.out P4.out hown5 hgrow5)
      have hl5 := B4.out.list hgrow5
      have m0 := cell_at (o := 0) hl5
      simp only [List.getElem?_toArray, List.getElem?_cons_zero] at m0
      have mf := free_of (o := 0) hl5
      clear hown5 hgrow5 hl5
      go_wp2
      go_roundw
      case rel => exact ⟨k + 1, _, _, by go_num, J5.out⟩
      case measure => simp [intOf]; omega
    · have hkn : k = ls.length := by omega
      have J' := J.out
      rw [hkn] at J'
      have JF := hid J'.finish
      clear J'
      have hkI : ¬ (k : Int) < (ls.length : Int) := by omega
      have HKN := hid hkn
      clear hkn hlt
      have b1 := J.out.f
      have c1 := cell_at (o := 0) b1
      have c2 := cell_at (o := 1) b1
      have c3 := cell_at (o := 2) b1
      simp only [List.getElem?_toArray, List.getElem?_cons_succ, List.getElem?_cons_zero] at c1 c2 c3
      have f1 := free_of (o := 0) b1
      have f2 := free_of (o := 1) b1
      have f3 := free_of (o := 2) b1
      clear b1
      go_wp2
      refine leaves_cons (f := 70) (args := #[.pointer (some ⟨w.heap.size + 2, 0, none⟩), .pointer (some ⟨w.heap.size, 0, none⟩), .pointer (some ⟨w.heap.size + 1, 0, none⟩)]) (by simp) (by simp [go_sem]) ?_
      refine (ucaught_not _ _ _ _).mono ?_
      rintro e u' w'' ⟨rfl, rfl, rfl⟩
      refine ⟨.tuple #[.slice ao ps.length vcap, .agg #[.int .i64 0, .int .i64 0, .int .i64 0]], ?_, JF.out⟩
      simp [results, Tryz.results39, go_sem, c0, c1, c2, c3]

set_option maxRecDepth 4000 in
set_option maxHeartbeats 2000000 in
theorem uread_none (ao : Option Addr) (cap width : Nat) (w : World) :
    Calls Tryz.prog 39 #[.slice ao 0 cap, .int .i64 width] w fun en w' => ReadPost w width [] en w' := by
  have hmf : ∀ (fn : Fn) (first cap : Array Value) (w : World), (Instr.makeFunc fn first cap).run Tryz.prog w = .ok (.func fn first cap) w := fun _ _ _ _ => rfl
  have hmm : ∀ w : World, (Instr.makeMap 85 none).run Tryz.prog w = .ok (.map (some w.heap.size)) (w.alloc (.map #[] 0)) := fun _ => by kernel_rfl
  have J0 := hid (RsInv.start w width [])
  have c0 := cell_at (o := 0) J0.out.l
  have b1 := J0.out.f
  have c1 := cell_at (o := 0) b1
  have c2 := cell_at (o := 1) b1
  have c3 := cell_at (o := 2) b1
  simp only [List.getElem?_toArray, List.getElem?_cons_succ, List.getElem?_cons_zero] at c0 c1 c2 c3
  clear b1
  go_enter_defers Tryz.func39, Tryz.ntmps39
  go_wp2_with fail
  refine wp_loop_rounds 1 ?_
  rw [rounds_succ]
  go_wp2
  refine leaves_cons (f := 70) (args := #[.pointer (some ⟨w.heap.size + 2, 0, none⟩), .pointer (some ⟨w.heap.size, 0, none⟩), .pointer (some ⟨w.heap.size + 1, 0, none⟩)]) (by simp) (by simp [go_sem]) ?_
  refine (ucaught_not _ _ _ _).mono ?_
  rintro e u' w'' ⟨rfl, rfl, rfl⟩
  refine ⟨.tuple #[.slice none 0 0, .agg #[.int .i64 0, .int .i64 0, .int .i64 0]], ?_, ?_⟩
  · simp [results, Tryz.results39, go_sem, c0, c1, c2, c3]
  · exact ⟨J0.out.below, Or.inr ⟨.slice none 0 0, [], rfl, rfl, RsAt.nil _ _⟩⟩
end Go.Proofs.YtemmhingmeinjaaGreatDoor
namespace Go.Proofs.YtemmhingmeinjaaGreatDoor
open Go.RowKit
open Wo (Wd)

theorem tk_bounds (l : List UInt8) (c : Nat) : (Wo.tk l c).1.length ≤ l.length ∧ ∀ p ∈ (Wo.tk l c).1, p.2 ≤ c + l.length := by
  generalize hn : l.length = n
  induction n using Nat.strongRecOn generalizing l c with
  | ind n ih =>
    cases l with
    | nil => rw [Wo.tk_nil]; exact ⟨by simp, fun p hp => absurd hp (by simp)⟩
    | cons a t =>
      simp only [List.length_cons] at hn
      by_cases h35 : a.toNat = 35
      · rw [Wo.tk_hash _ _ _ h35]; exact ⟨by simp, fun p hp => absurd hp (by simp)⟩
      · cases hb : Wo.blk a.toNat with
        | true =>
          rw [Wo.tk_blank _ _ _ h35 hb]
          obtain ⟨h1, h2⟩ := ih t.length (by omega) t (c + 1) rfl
          exact ⟨by omega, fun p hp => by have := h2 p hp; omega⟩
        | false =>
          by_cases h0 : Wo.fst (a :: t) = 0
          · rw [Wo.tk_fault _ _ _ h35 hb h0]; exact ⟨by simp, fun p hp => absurd hp (by simp)⟩
          · rw [Wo.tk_word _ _ _ h35 hb h0]
            have hle := Wo.fst_le (a :: t)
            simp only [List.length_cons] at hle
            obtain ⟨h1, h2⟩ := ih ((a :: t).drop (Wo.fst (a :: t))).length (by rw [List.length_drop, List.length_cons]; omega) _ (c + Wo.fst (a :: t)) rfl
            rw [List.length_drop, List.length_cons] at h1 h2
            refine ⟨by simp only [List.length_cons]; omega, fun p hp => ?_⟩
            rcases List.mem_cons.1 hp with rfl | hp
            · show c ≤ _; omega
            · have := h2 p hp; omega
theorem lns_bounds (s : List UInt8) : (Wo.lns s).length ≤ s.length + 1 ∧ ∀ l ∈ Wo.lns s, l.length ≤ s.length := by
  induction s with
  | nil => exact ⟨by simp [Wo.lns], fun l hl => by simp [Wo.lns] at hl; simp [hl]⟩
  | cons a t ih =>
    unfold Wo.lns
    split
    · refine ⟨by simp only [List.length_cons]; have := ih.1; omega, fun l hl => ?_⟩
      rcases List.mem_cons.1 hl with rfl | hl
      · simp
      · have := ih.2 l hl; simp only [List.length_cons]; omega
    · cases e : Wo.lns t with
      | nil => exact absurd e (Wo.lns_ne t)
      | cons h r =>
        rw [e] at ih
        refine ⟨by have := ih.1; simp only [List.length_cons] at this ⊢; omega, fun l hl => ?_⟩
        rcases List.mem_cons.1 hl with rfl | hl
        · have := ih.2 h List.mem_cons_self; simp only [List.length_cons]; omega
        · have := ih.2 l (List.mem_cons_of_mem _ hl); simp only [List.length_cons]; omega
theorem rd_bounds (m : Nat) (ls : List (List UInt8)) (n : Nat) (h : ∀ l ∈ ls, l.length ≤ m) : (Wo.rd ls n).1.length ≤ ls.length ∧ ∀ x ∈ (Wo.rd ls n).1, x.length ≤ m ∧ ∀ y ∈ x, y.1.length ≤ m ∧ y.2.2 ≤ m + 1 := by
  induction ls generalizing n with
  | nil => exact ⟨by simp [Wo.rd], fun x hx => absurd hx (by simp [Wo.rd])⟩
  | cons l ls ih =>
    obtain ⟨i1, i2⟩ := ih (n + 1) (fun q hq => h q (List.mem_cons_of_mem _ hq))
    have hl := h l List.mem_cons_self
    cases e : (Wo.tk l 1).2 with
    | some c => rw [Wo.rd_fault e]; exact ⟨by simp, fun x hx => absurd hx (by simp)⟩
    | none =>
      by_cases hz : (Wo.tk l 1).1 = []
      · rw [Wo.rd_none e hz]; exact ⟨by simp only [List.length_cons]; omega, i2⟩
      · rw [Wo.rd_some e hz]
        refine ⟨by simp only [List.length_cons]; omega, fun x hx => ?_⟩
        rcases List.mem_cons.1 hx with rfl | hx
        · obtain ⟨b1, b2⟩ := tk_bounds l 1
          refine ⟨by simp only [Wo.wds, List.length_map]; omega, fun y hy => ?_⟩
          simp only [Wo.wds, List.mem_map] at hy
          obtain ⟨p, hp, rfl⟩ := hy
          have h1 := tk_len l 1 p hp
          have h2 := b2 p hp
          exact ⟨by show p.1.length ≤ m; omega, by show p.2 ≤ m + 1; omega⟩
        · exact i2 x hx
theorem read_bounds (s : List UInt8) : (Wo.read s).length ≤ s.length + 1 ∧ ∀ x ∈ Wo.read s, 0 < x.length ∧ x.length ≤ s.length ∧ ∀ y ∈ x, y.1.length ≤ s.length ∧ y.2.2 ≤ s.length + 1 := by
  obtain ⟨l1, l2⟩ := lns_bounds s
  obtain ⟨r1, r2⟩ := rd_bounds s.length (Wo.lns s) 1 l2
  refine ⟨?_, fun x hx => ⟨read_ne s x hx, ?_⟩⟩
  · unfold Wo.read
    split
    · omega
    · simp
  · unfold Wo.read at hx
    split at hx
    · exact r2 x hx
    · exact absurd hx (by simp)
theorem lines_for {w : World} {B : Nat} {v : Value} {s : List UInt8} (h : LinesAt w B v (Wo.read s)) (hs : s.length ≤ 1048576) (h0 : 0 < (Wo.read s).length) : ∃ g cap G C, v = .slice (some ⟨g, 0, none⟩) (Wo.read s).length cap ∧ LsAt w g (Wo.read s) G C := by
  obtain ⟨vs, ho, hl, hi⟩ := h
  obtain ⟨rb1, rb2⟩ := read_bounds s
  obtain ⟨g, cap, rfl, hg, hc⟩ := own_some ho h0
  have key : ∀ i : Nat, ∃ G C : Nat, ∀ x : List Wd, (Wo.read s)[i]? = some x → vs[i]? = some (Value.slice (some ⟨G, 0, none⟩) x.length C) ∧ LineAt w G x ∧ x.length ≤ C ∧ C ≤ maxLen := by
    intro i
    cases hx : (Wo.read s)[i]? with
    | none => exact ⟨0, 0, fun x h => by cases h⟩
    | some x =>
      obtain ⟨u, hu, hown⟩ := hi i x hx
      obtain ⟨g2, cap2, rfl, hg2, hc2⟩ := own_some hown (rb2 x (List.mem_of_getElem? hx)).1
      refine ⟨g2, cap2, fun y hy => ?_⟩
      cases hy
      refine ⟨hu, ⟨hg2, fun k y hy => ?_⟩, ?_⟩
      · obtain ⟨f1, f2, f3⟩ := flatW_at hy
        exact ⟨hc2 _ _ f1, hc2 _ _ f2, hc2 _ _ f3⟩
      · rcases hown.2 with ⟨e, _⟩ | ⟨g3, c3, cur, e, _, _, h1, h2, _⟩
        · cases e
        · simp only [Value.slice.injEq] at e
          rw [e.2.2]; exact ⟨h1, h2⟩
  refine ⟨g, cap, fun i => (key i).choose, fun i => (key i).choose_spec.choose, rfl, ⟨hg, fun i x hx => ?_, fun i x hx => ?_, fun i x hx => ?_, fun x hx => ?_⟩⟩
  · exact hc i _ ((key i).choose_spec.choose_spec x hx).1
  · exact ((key i).choose_spec.choose_spec x hx).2.1
  · exact ((key i).choose_spec.choose_spec x hx).2.2
  · obtain ⟨h1, h2, h3⟩ := rb2 x hx
    exact ⟨h1, by omega, fun y hy => by have := h3 y hy; omega⟩

set_option maxHeartbeats 400000 in
theorem isWidth_any (n : Int) (w : World) : Calls Tryz.prog 31 #[.int .i64 n] w fun e w' => e = .returned (.bool (decide (1 ≤ n ∧ n ≤ 128))) ∧ w' = w := by
  by_cases h1 : 1 ≤ n
  · by_cases h2 : n ≤ 128
    · have hd : decide (1 ≤ n ∧ n ≤ 128) = true := by simp [h1, h2]
      rw [hd]
      go_enter Tryz.func31, Tryz.ntmps31
      go_wp2
      go_ret
      exact ⟨rfl, rfl⟩
    · have hd : decide (1 ≤ n ∧ n ≤ 128) = false := by simp [h2]
      rw [hd]
      go_enter Tryz.func31, Tryz.ntmps31
      go_wp2
      go_ret
      exact ⟨rfl, rfl⟩
  · have hd : decide (1 ≤ n ∧ n ≤ 128) = false := by simp [h1]
    rw [hd]
    go_enter Tryz.func31, Tryz.ntmps31
    go_wp2
    go_ret
    exact ⟨rfl, rfl⟩

theorem RsAt.base {w : World} {B B' : Nat} {v : Value} {ps : List (Ru.Rl × Value)} (h : RsAt w B v ps) (hB : B' ≤ B) : RsAt w B' v ps := by
  refine ⟨?_, fun q hq => (h.ports q hq).mono hB⟩
  exact h.own.mono hB
def ParsePost (w : World) (s : List UInt8) (width : Int) (en : Ending) (w' : World) : Prop :=
  Below w.heap.size w w' ∧ ((∃ f : Ru.Ft, Ru.prs s width = .error f ∧ en = .returned (.tuple #[.slice none 0 0, .int .i64 f.1, .int .i64 f.2.1, .int .i64 f.2.2])) ∨
    (∃ v ps, Ru.prs s width = .ok (ps.map Prod.fst) ∧ en = .returned (.tuple #[v, .int .i64 0, .int .i64 0, .int .i64 0]) ∧ RsAt w' w.heap.size v ps))

set_option maxHeartbeats 1000000 in
theorem Parse_any (s : List UInt8) (width : Int) (w : World) (hs : s.length ≤ 1048576) : Calls Tryz.prog 21 #[.string (tx s), .int .i64 width] w fun en w' => ParsePost w s width en w' := by
  by_cases hw : 1 ≤ width ∧ width ≤ 128
  · have HW := hid (isWidth_any width)
    rw [decide_eq_true hw] at HW
    have hn1 : ¬ (width < 1 ∨ 128 < width) := by omega
    have HN := hid (Lines_any s w hs)
    by_cases he : Wo.err s = 0
    · have HE := hid he
      have hpr := hid (show Ru.prs s width = Ru.rds width.toNat (Wo.read s) [] by unfold Ru.prs; rw [if_neg hn1, if_neg (fun q => q he)])
      have hfz : Wo.faultL s = 0 ∧ Wo.faultC s = 0 := by
        unfold Wo.err at he
        unfold Wo.faultL Wo.faultC
        cases h : (Wo.rd (Wo.lns s) 1).2 with
        | none => exact ⟨rfl, rfl⟩
        | some p => rw [h] at he; cases he
      rw [hfz.1, hfz.2, he] at HN
      obtain ⟨n, hn⟩ : ∃ n : Nat, width = n := ⟨width.toNat, by omega⟩
      subst hn
      have hrd : ∀ (v : Value) (w1 : World), LinesAt w1 w.heap.size v (Wo.read s) → Calls Tryz.prog 39 #[v, .int .i64 n] w1 fun en w' => ReadPost w1 n (Wo.read s) en w' := by
        intro v w1 hL
        by_cases h0 : 0 < (Wo.read s).length
        · obtain ⟨g, cap, G, C, rfl, hLs⟩ := lines_for hL hs h0
          exact uread_any hLs cap n (by have := (read_bounds s).1; omega)
        · obtain ⟨ao, cap, rfl⟩ := hL.form
          have e0 : Wo.read s = [] := List.length_eq_zero_iff.1 (by omega)
          rw [e0]
          exact uread_none ao cap n w1
      have HRD := hid hrd
      clear hw hn1 he hfz hrd
      go_enter Tryz.func21, Tryz.ntmps21
      go_wp2_with fail
      refine (HW.out _).mono ?_
      rintro en w0 ⟨rfl, rfl⟩
      go_wp2_with fail
      refine HN.out.mono ?_
      rintro en w1 ⟨v, rfl, HL, hb1⟩
      obtain ⟨ao, cap, rfl⟩ := HL.out.form
      go_wp2_with fail
      refine (HRD.out _ _ HL.out).mono ?_
      rintro en w2 ⟨hb2, ⟨f, hf, rfl⟩ | ⟨v, ps, hr, rfl, hR⟩⟩
      · have HB := hid (hb1.trans (hb2.mono hb1.size))
        have HF := hid (hpr.out.trans hf)
        clear hf hb1 hb2
        go_wp2
        go_quiet (fail)
        go_wp2
        refine bodyPost_ret (v := .tuple #[.slice none 0 0, .int .i64 f.1, .int .i64 f.2.1, .int .i64 f.2.2]) (by simp [results, Tryz.results21, go_sem]) rfl ?_
        exact ⟨below_drewN (HB.out.alloc HB.out.size _), Or.inl ⟨f, HF.out, rfl⟩⟩
      · obtain ⟨vo, vc, rfl⟩ := hR.form
        have HB := hid (hb1.trans (hb2.mono hb1.size))
        have HF := hid (hpr.out.trans hr)
        have HR := hid (hR.below ((Below.refl _ _).alloc (Nat.le_refl _) (fob (.int .i64 0) (.int .i64 0) (.int .i64 0))))
        have hsz1 := hb1.size
        clear hr hb1 hb2 hR
        go_wp2
        go_quiet (fail)
        go_wp2
        refine bodyPost_ret (v := .tuple #[.slice vo ps.length vc, .int .i64 0, .int .i64 0, .int .i64 0]) (by simp [results, Tryz.results21, go_sem]) rfl ?_
        refine ⟨below_drewN (HB.out.alloc HB.out.size _), Or.inr ⟨_, ps, HF.out, rfl, ?_⟩⟩
        exact (HR.out.below (below_drewN (Below.refl _ _))).base hsz1
    · obtain ⟨hne, herr⟩ : Wo.err s = 30 ∧ Ru.prs s width = .error (Wo.faultL s, Wo.faultC s, Wo.err s) := by
        refine ⟨?_, by unfold Ru.prs; rw [if_neg hn1, if_pos he]⟩
        unfold Wo.err at he ⊢
        split at he
        · exact absurd rfl he
        · rfl
      have HE := hid herr
      rw [hne] at HN HE
      obtain ⟨a, ha⟩ : ∃ a, a = Wo.faultL s := ⟨_, rfl⟩
      obtain ⟨b, hb⟩ : ∃ b, b = Wo.faultC s := ⟨_, rfl⟩
      rw [← ha, ← hb] at HN HE
      clear ha hb herr hne he hw hn1
      go_enter Tryz.func21, Tryz.ntmps21
      go_wp2_with fail
      refine (HW.out _).mono ?_
      rintro en w0 ⟨rfl, rfl⟩
      go_wp2_with fail
      refine HN.out.mono ?_
      rintro en w1 ⟨v, rfl, HL, hb1⟩
      obtain ⟨ao, cap, rfl⟩ := HL.out.form
      go_wp2
      refine bodyPost_ret (v := .tuple #[.slice none 0 0, .int .i64 a, .int .i64 b, .int .i64 30]) (by simp [results, Tryz.results21, go_sem]) rfl ?_
      exact ⟨hb1, Or.inl ⟨(a, b, 30), HE.out, rfl⟩⟩
  · have HW := hid (isWidth_any width)
    rw [decide_eq_false hw] at HW
    have HE := hid (show Ru.prs s width = .error (0, 0, 1) by unfold Ru.prs; rw [if_pos (by omega)])
    clear hw
    go_enter Tryz.func21, Tryz.ntmps21
    go_wp2_with fail
    refine (HW.out _).mono ?_
    rintro en w0 ⟨rfl, rfl⟩
    go_wp2
    refine bodyPost_ret (v := .tuple #[.slice none 0 0, .int .i64 0, .int .i64 0, .int .i64 1]) (by simp [results, Tryz.results21, go_sem]) rfl ?_
    exact ⟨Below.refl _ _, Or.inl ⟨(0, 0, 1), HE.out, rfl⟩⟩
end Go.Proofs.YtemmhingmeinjaaGreatDoor
namespace Go.Proofs.YtemmhingmeinjaaGreatDoor
open Go.RowKit
open Wo (Wd)

theorem ulen_data (s : ByteArray) : s.data.toList.length = s.size := Array.length_toList

set_option maxHeartbeats 1000000 in
theorem URight_any (s : ByteArray) (w : World) (hs : s.size ≤ maxLen) :
    Calls Tryz.prog 64 #[.string s] w fun e w' => e = .returned (.bool (Cub.Cu.right s.data.toList)) ∧ w' = w := by
  unfold maxLen at hs
  go_enter Tryz.func64, Tryz.ntmps64
  go_wp2
  go_loop [3] (fun i => ∃ k : Nat, k ≤ s.size ∧ i = .int .i64 k ∧ Hid ((s.data.toList.take k).all Cub.Cu.sym = true)) (fun i => s.size - (intOf i).toNat)
  case atStart => exact ⟨0, Nat.zero_le _, rfl, by show _ = _; simp⟩
  case round =>
    obtain ⟨k, hk, rfl, hpre⟩ := hrel
    by_cases hlt : k < s.size
    · have HS : Hid (s.data.toList.take (k + 1) = s.data.toList.take k ++ [s[k]]) := take_snoc s k hlt
      by_cases hsym : Cub.Cu.sym s[k] = true
      · have HP : Hid ((s.data.toList.take (k + 1)).all Cub.Cu.sym = true) := by
          show _ = _
          rw [HS.out, List.all_append, hpre.out]; simp [hsym]
        rcases Cub.Cu.sym_cases hsym with hc | hc | hc
        · have hcn : (s[k].toNat : Int) = 48 := by rw [hc]; rfl
          clear hc hsym
          go_wp2
          go_round
          case rel => exact ⟨k + 1, by omega, by go_num, HP⟩
          case measure => simp [intOf]; omega
        · have hcn : (s[k].toNat : Int) = 49 := by rw [hc]; rfl
          clear hc hsym
          go_wp2
          go_round
          case rel => exact ⟨k + 1, by omega, by go_num, HP⟩
          case measure => simp [intOf]; omega
        · have hcn : (s[k].toNat : Int) = 120 := by rw [hc]; rfl
          clear hc hsym
          go_wp2
          go_round
          case rel => exact ⟨k + 1, by omega, by go_num, HP⟩
          case measure => simp [intOf]; omega
      · have n1 : ((s[k].toNat : Int) != 48) = true := by
          rw [bne_iff_ne]; intro h; exact hsym (by have : s[k] = 48 := UInt8.toNat.inj (by simp; omega); simp [Cub.Cu.sym, this])
        have n2 : ((s[k].toNat : Int) != 49) = true := by
          rw [bne_iff_ne]; intro h; exact hsym (by have : s[k] = 49 := UInt8.toNat.inj (by simp; omega); simp [Cub.Cu.sym, this])
        have n3 : ((s[k].toNat : Int) != 120) = true := by
          rw [bne_iff_ne]; intro h; exact hsym (by have : s[k] = 120 := UInt8.toNat.inj (by simp; omega); simp [Cub.Cu.sym, this])
        have HF : Hid (Cub.Cu.right s.data.toList = false) := by
          show _ = _
          have : s.data.toList.all Cub.Cu.sym = false := by
            rw [List.all_eq_false]
            exact ⟨s[k], by show s.data[k] ∈ s.data.toList; simp, hsym⟩
          simp [Cub.Cu.right, this]
        clear hsym
        go_wp2
        go_ret
        exact ⟨by rw [HF.out]; rfl, rfl⟩
    · have hkk : k = s.size := by omega
      subst hkk
      have HE : Hid (s.data.toList.all Cub.Cu.sym = true) := by
        have := hpre.out
        rw [List.take_of_length_le (by simp)] at this
        exact this
      by_cases he : s.size = 0
      · have hemp : s.toList.isEmpty = true := by rw [ByteArray.toList_eq]; exact List.isEmpty_iff_length_eq_zero.2 (by rw [ulen_data]; exact he)
        have HF : Hid (Cub.Cu.right s.data.toList = false) := by
          show _ = _
          have : ¬ (1 ≤ s.data.toList.length) := by rw [ulen_data]; omega
          simp only [Cub.Cu.right, this, decide_false, Bool.and_false, Bool.false_and]
        clear he
        go_wp2
        go_ret
        exact ⟨by rw [HF.out]; rfl, rfl⟩
      · have hemp : s.toList.isEmpty = false := by
          rw [ByteArray.toList_eq, ← Bool.not_eq_true]
          exact fun h => he (by have := List.isEmpty_iff_length_eq_zero.1 h; rw [ulen_data] at this; exact this)
        have HF : Hid (Cub.Cu.right s.data.toList = decide ((s.size : Int) ≤ 128)) := by
          show _ = _
          have h1 : 1 ≤ s.data.toList.length := by rw [ulen_data]; omega
          simp only [Cub.Cu.right, HE.out, h1, decide_true, Bool.true_and]
          apply decide_eq_decide.2
          rw [ulen_data]
          omega
        clear he
        go_wp2
        go_ret
        exact ⟨by rw [HF.out]; rfl, rfl⟩

theorem uRight (l : List UInt8) (w : World) (h : l.length ≤ 1048576) : Calls Tryz.prog 64 #[.string (tx l)] w fun e w' => e = .returned (.bool (Cub.Cu.right l)) ∧ w' = w := by
  have := URight_any (tx l) w (by rw [tx_size]; unfold maxLen; omega)
  rw [tx_list] at this
  exact this

set_option maxHeartbeats 400000 in
theorem UTexts_none (a1 a2 : Option Addr) (c d : Nat) (w : World) :
    Calls Tryz.prog 44 #[.slice a1 0 c, .slice a2 0 d] w fun e w' => e = .returned (.bool true) ∧ Below w.heap.size w w' := by
  go_enter Tryz.func44, Tryz.ntmps44
  go_wp2
  refine wp_loop_rounds 1 ?_
  rw [rounds_succ]
  go_wp2
  go_ret
  exact ⟨rfl, Below.refl _ _⟩

set_option maxHeartbeats 1000000 in
theorem UTexts_some (L : Nat → List UInt8) (g o g' o' n c d : Nat) (w : World) (hn : n ≤ maxLen) (h1 : ∀ i, i < n → w.cell? ⟨g, o + i, none⟩ = some (.string (tx (L i)))) (h2 : ∀ i, i < n → w.cell? ⟨g', o' + i, none⟩ = some (.string (tx (L i)))) :
    Calls Tryz.prog 44 #[.slice (some ⟨g, o, none⟩) n c, .slice (some ⟨g', o', none⟩) n d] w fun e w' => e = .returned (.bool true) ∧ Below w.heap.size w w' := by
  have H1 := hid h1
  have H2 := hid h2
  clear h1 h2
  unfold maxLen at hn
  have hne : ((n : Int) != (n : Int)) = false := by simp
  go_enter Tryz.func44, Tryz.ntmps44
  go_wp2
  go_loopw [5] (fun i wr => ∃ k : Nat, k ≤ n ∧ i = .int .i64 k ∧ (∀ a, wr.cell? a = w.cell? a) ∧ Below w.heap.size w wr) (fun i _ => n - (intOf i).toNat)
  case atStart => exact ⟨0, Nat.zero_le _, rfl, fun _ => rfl, Below.refl _ _⟩
  case round =>
    obtain ⟨k, hk, rfl, hcl, hbl⟩ := hrel
    by_cases hlt : k < n
    · have c1 : wr.cell? ⟨g, o + k, none⟩ = some (.string (tx (L k))) := (hcl _).trans (H1.out k hlt)
      have c2 : wr.cell? ⟨g', o' + k, none⟩ = some (.string (tx (L k))) := (hcl _).trans (H2.out k hlt)
      have HCL := hid hcl
      clear hcl
      have hkI : (0 : Int) ≤ (k : Int) := by omega
      have hkI2 : (k : Int) < (n : Int) := by omega
      go_wp2
      go_quiet (fail)
      go_wp2
      go_roundw
      case rel => exact ⟨k + 1, by omega, by go_num, HCL.out, below_drewN hbl⟩
      case measure => simp [intOf]; omega
    · have hkn : k = n := by omega
      subst hkn
      clear hcl
      go_wp2
      go_ret
      exact ⟨rfl, hbl⟩
theorem UTexts_same {w : World} {v1 v2 : Value} {zs : List (List UInt8)} (h1 : Txs w v1 zs) (h2 : Txs w v2 zs) (hn : zs.length ≤ maxLen) : Calls Tryz.prog 44 #[v1, v2] w fun e w' => e = .returned (.bool true) ∧ Below w.heap.size w w' := by
  obtain ⟨a1, c1, rfl, r1⟩ := h1
  obtain ⟨a2, c2, rfl, r2⟩ := h2
  rcases r1 with rfl | ⟨g, o, rfl, _, hc1⟩
  · exact UTexts_none a1 a2 c1 c2 w
  · rcases r2 with rfl | ⟨g', o', rfl, _, hc2⟩
    · exact UTexts_none _ a2 c1 c2 w
    · exact UTexts_some (fun i => zs.getD i []) g o g' o' zs.length c1 c2 w hn hc1 hc2
theorem PortsV.txs {w : World} {B : Nat} {v : Value} {ps : List (List UInt8)} (h : PortsV w B v ps) : Txs w v ps := by
  rcases h with ⟨rfl, rfl⟩ | ⟨b, cap, rfl, _, hT⟩
  · exact Txs.nil _ _ _
  · refine ⟨_, cap, rfl, Or.inr ⟨b, 0, rfl, hT.lt, fun i hi => ?_⟩⟩
    rw [Nat.zero_add]
    have := hT.cell (i := i) (z := ps[i]) (List.getElem?_eq_getElem hi)
    rw [this, List.getD_eq_getElem?_getD, List.getElem?_eq_getElem hi]
    rfl
end Go.Proofs.YtemmhingmeinjaaGreatDoor
