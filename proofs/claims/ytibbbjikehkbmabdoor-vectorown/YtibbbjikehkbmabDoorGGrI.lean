/-
  What greatest has so far: a row of one's own in a box, whether all agree; one stamp more.
-/
import Derived.Test.YtibbbjikehkbmabDoorGTog
import Derived.Test.YtibbbjikehkbmabDoorGQuiet
import Derived.Test.YtibbbjikehkbmabDoorGStep
import Derived.Test.YtibbbjikehkbmabDoorGChk
import Derived.Maps.AppendAt
namespace Go.Proofs.YtibbbjikehkbmabDoor.Ve
open Go.RowKit Go.Shelf
attribute [local go_sem] Oper.semAt_some

def GrI (n0 N : Nat) (w0 : World) (B4 B5 ba bb bc : Nat) (xs : List St) (ag : Bool) (W : World) : Prop :=
  (∃ v, Boxed W B4 23 v ∧ W.ownsRow n0 33 2 v xs.length (flatS xs) ∧ ∀ q, q = ba ∨ q = bb ∨ q = bc → v.ownBlock ≠ some q) ∧ Boxed W B5 4 (.bool ag) ∧ Below n0 w0 W ∧ N ≤ W.heap.size
theorem grI_own {α : Type} {n0 N B B4 B5 ba bb bc : Nat} {w0 : World} (hn : n0 ≤ w0.heap.size) (hB : n0 ≤ B) (f : List α → List St) (g : List α → Bool) : OwnFrom B (fun s W => GrI n0 N w0 B4 B5 ba bb bc (f s) (g s) W) :=
  OwnFrom.and (Own.from (holdsRow_own n0 B4 23 33 2 (fun s => (f s).length) (fun s => flatS (f s)) (fun _ v => ∀ q, q = ba ∨ q = bb ∨ q = bc → v.ownBlock ≠ some q)) _)
    (OwnFrom.and (Own.from (boxed_own B5 4 (fun s => .bool (g s))) _) (OwnFrom.and (ownFrom_below hn hB) (fun _ _ _ _ hs hg _ => Nat.le_trans hs hg.size)))
theorem row_kept {W W' : World} {n0 n : Nat} {r : Option Nat} {v : Value} {xs : List Value} (h : W.ownsRow n0 33 2 v n xs) (hg : W.grownBy W' r) (hr : ∀ q, r = some q → v.ownBlock ≠ some q) : W'.ownsRow n0 33 2 v n xs := by
  obtain ⟨h1, h2⟩ := h
  refine ⟨h1, ?_⟩
  rcases h2 with h2 | ⟨g, cap, cur, e, hB, hh, rest⟩
  · exact Or.inl h2
  · refine Or.inr ⟨g, cap, cur, e, hB, (hg.block g (lt_of_block hh) (fun e' => hr g e'.symm (by rw [e]; rfl))).trans hh, rest⟩
theorem grI_bears {α : Type} {n0 N B4 B5 ba bb bc : Nat} {w0 : World} (hn : n0 ≤ w0.heap.size) (ha : n0 ≤ ba) (hb : n0 ≤ bb) (h4 : B4 ≠ ba ∧ B4 ≠ bb) (h5 : B5 ≠ ba ∧ B5 ≠ bb) (f : List α → List St) (g : List α → Bool) : Bears (fun q => q = ba ∨ q = bb) (fun s W => GrI n0 N w0 B4 B5 ba bb bc (f s) (g s) W) := by
  rintro s A B ⟨⟨v, hv, hr, hG⟩, hv5, hlow, hz⟩ st
  obtain ⟨r, hg, hr'⟩ := id st
  refine ⟨⟨v, bears_boxed (own := fun q => q = ba ∨ q = bb) (fun _ : List α => v) (by omega) s A B hv st, row_kept hr hg (fun q hq => hG q (by rcases hr' q hq with e | e <;> simp [e])), hG⟩, bears_boxed (own := fun q => q = ba ∨ q = bb) (fun s : List α => .bool (g s)) (by omega) s A B hv5 st, bears_below ha hb hn s A B hlow st, Nat.le_trans hz hg.size⟩
def appV (ts : Array TypeId) (ty : TypeId) (args : Array Value) : Sem Value := Builtin.append_ ts ty args
theorem appV_fold {ts : Array TypeId} {ty : TypeId} {args : Array Value} : Builtin.append_ ts ty args = appV ts ty args := rfl
theorem own_block {W : World} {n0 n q : Nat} {v : Value} {xs : List Value} (h : W.ownsRow n0 33 2 v n xs) (e : v.ownBlock = some q) : n0 ≤ q ∧ ∃ cs, W.heap[q]? = some (.cells cs 33 (0, 0)) := by
  rcases h.2 with ⟨e', _⟩ | ⟨g, cap, cur, e', hB, hh, _⟩
  · rw [e'] at e; cases e
  · rw [e'] at e
    have : g = q := by
      injection e
    subst this
    exact ⟨hB, _, hh⟩
/-- One stamp more. -/
theorem gr_app {n0 N B4 B5 ba bb bc : Nat} {w0 W : World} {xs : List St} {ag : Bool} (h : GrI n0 N w0 B4 B5 ba bb bc xs ag W) (hn : n0 ≤ w0.heap.size) (h45 : B4 ≠ B5) (h4 : n0 ≤ B4) (hb4 : ∀ q, q = ba ∨ q = bb ∨ q = bc → q ≠ B4 ∧ q < N) (hlen : xs.length ≤ 600) (NB : Nat) :
    ∃ a n c, W.cell? ⟨B4, 0, none⟩ = some (.slice a n c) ∧ (∀ o, (W.alloc o).drew.cell? ⟨B4, 0, none⟩ = some (.slice a n c)) ∧ ∀ s : St, ∃ a' c' w2, (appV #[23, 23] 23 #[.slice a n c, .slice (some ⟨W.heap.size, 0, none⟩) 1 1]).run Tryd.prog (W.alloc (.cells #[.int .i64 s.1, .int .u64 (s.2 : Int)] 33)).drew = .ok (.slice a' (n + 1) c') w2 ∧
      w2.cell? ⟨B4, 0, none⟩ = some (.slice a n c) ∧ w2.frozen? ⟨B4, 0, none⟩ = false ∧ Hid (GrI n0 N w0 B4 B5 ba bb bc (xs ++ [s]) ag (w2.setCell ⟨B4, 0, none⟩ (.slice a' (n + 1) c'))) ∧ Hid (KeepsFrom NB W (w2.setCell ⟨B4, 0, none⟩ (.slice a' (n + 1) c'))) ∧ Hid (KIt n0 ba bb bc W (w2.setCell ⟨B4, 0, none⟩ (.slice a' (n + 1) c'))) := by
  obtain ⟨⟨v, hv, hr, hG⟩, hv5, hlow, hz⟩ := h
  obtain ⟨a, c, rfl⟩ := OwnS.form hr
  have hb : Below W.heap.size W W.drew := (Below.refl _ _).drew
  refine ⟨a, xs.length, c, hv.cell, fun o => (Boxed.alloc (show Boxed W.drew B4 _ _ from hv) o).cell, fun s => ?_⟩
  obtain ⟨o, ho⟩ : ∃ o, o = Obj.cells #[.int .i64 s.1, .int .u64 (s.2 : Int)] 33 := ⟨_, rfl⟩
  have hX : Below W.heap.size W (W.drew.alloc o) := hb.alloc (Nat.le_refl _) _
  have hnew : (W.drew.alloc o).heap[W.heap.size]? = some o := by rw [ho]; exact new_0 W.drew _
  have hrX := own_keptS hr (hX.mono (Nat.le_refl _))
  obtain ⟨i0, hi, hz0, hz1, hz2⟩ := info_parts info_stamp
  rw [← ho]
  obtain ⟨v', w2, hrun, hown, hgr, _, hob⟩ := run_append_own_at (P := Tryd.prog) (W.drew.alloc o) n0 23 23 33 i0 (.agg #[.int .i64 0, .int .u64 0]) 2 16 Tryd.underlying23 hi hz0 hz1 hz2 rfl (by decide) (.slice a xs.length c) xs.length (flatS xs) hrX ⟨W.heap.size, 0, none⟩ 1 1 [.int .i64 s.1, .int .u64 (s.2 : Int)] rfl (World.news_of_block (by rw [hnew, ho])) (by simp [Value.oneCell']) (by unfold maxLen; omega) (by omega) (by have := hlow.size; simp; omega)
  subst ho
  obtain ⟨hO2, hL2, a', c', rfl⟩ := OwnS.next (n := xs.length + 1) (B := n0) (W := W.drew) (s := s) hlow.drew (by have := hlow.size; simp; omega) (show OwnS W.drew n0 _ xs from own_keptS hr hb) rfl hown hgr
  have hvX := Boxed.alloc (show Boxed W.drew B4 _ _ from hv) (.cells #[.int .i64 s.1, .int .u64 (s.2 : Int)] 33)
  have hv2 := hvX.kept hgr (hvX.not_row (by decide) hrX)
  have h5X := Boxed.alloc (show Boxed W.drew B5 _ _ from hv5) (.cells #[.int .i64 s.1, .int .u64 (s.2 : Int)] 33)
  have h52 := h5X.kept hgr (h5X.not_row (by decide) hrX)
  have hne : (Value.slice a' (xs.length + 1) c').ownBlock ≠ some B4 := fun e => by
    obtain ⟨_, cs, hc⟩ := own_block hown e
    rw [show w2.heap[B4]? = _ from hv2] at hc
    cases hc
  have hB : Below n0 W (w2.setCell ⟨B4, 0, none⟩ (.slice a' (xs.length + 1) c')) := by
    have h1 : Below n0 W W.drew := (Below.refl _ W).drew
    have h2 := (h1.alloc (by have := hlow.size; simp; omega) (.cells #[.int .i64 s.1, .int .u64 (s.2 : Int)] 33)).grown hgr (by have := hlow.size; simp; omega) (fun q hq => (own_block hrX hq).1)
    exact h2.setCell (p := ⟨B4, 0, none⟩) h4 _
  refine ⟨a', c', w2, hrun, hv2.cell, hv2.frozen, ⟨⟨_, hv2.set _, ?_, ?_⟩, h52.other (fun e => h45 e.symm) _, hL2.setCell (p := ⟨B4, 0, none⟩) h4 _, ?_⟩, ?_, ?_⟩
  · rw [List.length_append, flatS_append]
    exact row_kept hown (grownBy_setCell' w2 B4 _) (fun q hq => by cases hq; exact hne)
  · intro q hq e
    rcases hob with hob | hob
    · exact hG q hq (hob.symm.trans e)
    · rw [hob] at e
      injection e with e
      have := (hb4 q hq).2
      simp at e
      omega
  · have := hgr.size
    simp at this ⊢
    omega
  · refine KeepsOthers.from ?_ _
    refine ((KeepsOthers.of_grownBy (grown_of_below none hX) (fun j o ej _ => by cases ej)).trans (KeepsOthers.of_grownBy hgr (fun j o ej hj => ?_))).trans (KeepsOthers.setCell _ _ _)
    obtain ⟨_, cs, hc⟩ := own_block hrX ej
    rw [hc] at hj
    cases hj
    rfl
  · refine ⟨hB, fun q hq ty u hu => ?_⟩
    have hu1 := Boxed.alloc (show Boxed W.drew q _ _ from hu) (.cells #[.int .i64 s.1, .int .u64 (s.2 : Int)] 33)
    exact (hu1.kept hgr (fun e => hG q hq e.symm)).other (hb4 q hq).1 _
/-- Whether all agree, anew. -/
theorem gr_fin {n0 N B4 B5 ba bb bc NB nq : Nat} {w0 W W3 : World} {xs : List St} {ag : Bool} (h : GrI n0 N w0 B4 B5 ba bb bc xs ag W3) (hK : KeepsFrom NB W W3) (hT : KIt n0 ba bb bc W W3) (h45 : B4 ≠ B5) (h5 : n0 ≤ B5) (hb5 : ∀ q, q = ba ∨ q = bb ∨ q = bc → q ≠ B5) (ag' : Bool) :
    KeepsFrom NB W ((W3.drewN nq).setCell ⟨B5, 0, none⟩ (.bool ag')) ∧ KIt n0 ba bb bc W ((W3.drewN nq).setCell ⟨B5, 0, none⟩ (.bool ag')) ∧ GrI n0 N w0 B4 B5 ba bb bc xs ag' ((W3.drewN nq).setCell ⟨B5, 0, none⟩ (.bool ag')) := by
  obtain ⟨⟨v, hv, hr, hG⟩, hv5, hlow, hz⟩ := h
  have hd : Below W3.heap.size W3 (W3.drewN nq) := below_drewN (Below.refl _ _)
  have hne : v.ownBlock ≠ some B5 := fun e => by
    obtain ⟨_, cs, hc⟩ := own_block hr e
    rw [show W3.heap[B5]? = _ from hv5] at hc
    cases hc
  refine ⟨hK.trans (KeepsOthers.from ((KeepsOthers.of_grownBy (grown_of_below none hd) (fun j o ej _ => by cases ej)).trans (KeepsOthers.setCell _ _ _)) _), ⟨hT.1.trans ((below_drewN (Below.refl _ _)).setCell (p := ⟨B5, 0, none⟩) h5 _), fun q hq ty u hu => ?_⟩, ⟨v, (show Boxed (W3.drewN nq) B4 _ _ from hv).other h45 _, row_kept (own_keptS hr hd) (grownBy_setCell' _ B5 _) (fun q hq => by cases hq; exact hne), hG⟩, (show Boxed (W3.drewN nq) B5 _ _ from hv5).set _, (below_drewN hlow).setCell (p := ⟨B5, 0, none⟩) h5 _, ?_⟩
  · exact (show Boxed (W3.drewN nq) q ty u from hT.2 q hq ty u hu).other (hb5 q hq) _
  · simp
    exact hz
theorem grI_drewN {n0 N B4 B5 ba bb bc : Nat} {w0 W : World} {xs : List St} {ag : Bool} (h : GrI n0 N w0 B4 B5 ba bb bc xs ag W) (nq : Nat) : GrI n0 N w0 B4 B5 ba bb bc xs ag (W.drewN nq) := by
  obtain ⟨⟨v, hv, hr, hG⟩, hv5, hlow, hz⟩ := h
  exact ⟨⟨v, hv, own_keptS hr (below_drewN (Below.refl _ _)), hG⟩, hv5, below_drewN hlow, hz⟩
theorem keeps_drewN (NB : Nat) (W : World) (nq : Nat) : KeepsFrom NB W (W.drewN nq) := KeepsOthers.from (KeepsOthers.of_grownBy (grown_of_below none (below_drewN (Below.refl _ W))) (fun j o ej _ => by cases ej)) _
theorem kIt_drewN (n0 ba bb bc : Nat) (W : World) (nq : Nat) : KIt n0 ba bb bc W (W.drewN nq) := ⟨below_drewN (Below.refl _ _), fun _ _ _ _ h => h⟩
end Go.Proofs.YtibbbjikehkbmabDoor.Ve
