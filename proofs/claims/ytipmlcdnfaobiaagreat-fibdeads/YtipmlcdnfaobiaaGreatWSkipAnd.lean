/-
  Lines: the lines of a text that have words, or the place of its first fault.
  A text read line by line: the walk of read.
  A text read line by line: read, and its deferred call that catches a fault.
  Rows of lines in memory; what holds while a text is read line by line.
  A reader's line: the walk.
  A reader's line: its words, or the place of the first fault.
  A reader's next word.
  A reader: its place goes on (pass, nextLine), blanks are passed by (skip).
-/
import Derived.Test.YtipmlcdnfaobiaaGreatWLetAnd
import Derived.Test.YtipmlcdnfaobiaaGreatWLay
import Derived.Maps.AppendAt
import Derived.Deep.Onto
namespace Go.Proofs.YtipmlcdnfaobiaaGreat
open Go.RowKit Go.Shelf

/-- A reader in memory: its line, its column, what of the line is not read yet. -/
def rdc (n c : Nat) (s : List UInt8) : Array Value := #[.int .i64 n, .int .i64 c, .string (tx s)]
theorem grown_cell (w : World) (b o : Nat) (u : Value) : w.grownBy (w.setCell ⟨b, o, none⟩ u) (some b) :=
  ⟨rfl, rfl, rfl, by simp, fun k _ hne => Below.heap_setCell _ _ _ _ (fun e => hne (by simp [e]))⟩
theorem grown_two {a b c : World} {r : Option Nat} (h : a.grownBy b r) (k : b.grownBy c r) : a.grownBy c r :=
  ⟨k.os.trans h.os, k.tape.trans h.tape, k.output.trans h.output, Nat.le_trans h.size k.size, fun i hi hne => (k.block i (Nat.lt_of_lt_of_le hi h.size) hne).trans (h.block i hi hne)⟩
theorem grown_drew {a b : World} {r : Option Nat} (h : a.grownBy b r) : a.grownBy b.drew r := ⟨h.os, h.tape, h.output, h.size, h.block⟩
end Go.Proofs.YtipmlcdnfaobiaaGreat
namespace Go.Proofs.YtipmlcdnfaobiaaGreat
open Go.RowKit

abbrev noByte : List PanicEntry := [{ v := .iface 33 (.int .i64 30), recovered := false }]
/-- A word as a value. -/
def wdV (x : Wo.Wd) : Value := .agg #[.string (tx x.1), .int .i64 x.2.1, .int .i64 x.2.2]

theorem word_end_grown {w X w3 : World} {r : Nat} {v a b d : Value} (hX : Below w.heap.size w X) (h3 : X.grownBy w3 (some r)) :
    w.grownBy ((((w3.setCell ⟨r, 2, none⟩ v).setCell ⟨w.heap.size, 0, none⟩ a).setCell ⟨w.heap.size, 1, none⟩ b).setCell ⟨w.heap.size, 2, none⟩ d) (some r) := by
  have g0 := grown_two (grown_two (grown_of_below (some r) hX) h3) (grown_cell w3 r 2 v)
  have k : ∀ (x : World) (o : Nat) (u : Value), w.grownBy x (some r) → w.grownBy (x.setCell ⟨w.heap.size, o, none⟩ u) (some r) := fun x o u h =>
    grown_through h (grown_cell x w.heap.size o u) (fun i hi _ e => by simp at e; omega)
  exact k _ _ _ (k _ _ _ (k _ _ _ g0))

/-- A reader's three cells. -/
def Three (w : World) (r n c : Nat) (s : List UInt8) : Prop := w.cell? ⟨r, 0, none⟩ = some (.int .i64 n) ∧ w.cell? ⟨r, 1, none⟩ = some (.int .i64 c) ∧ w.cell? ⟨r, 2, none⟩ = some (.string (tx s))
theorem three_store {w : World} {r n c g : Nat} {s : List UInt8} (h : Three w r n c s) (hne : r ≠ g) (a b d : Value) : Three (((w.setCell ⟨g, 0, none⟩ a).setCell ⟨g, 1, none⟩ b).setCell ⟨g, 2, none⟩ d) r n c s := by
  have e : ∀ o, (((w.setCell ⟨g, 0, none⟩ a).setCell ⟨g, 1, none⟩ b).setCell ⟨g, 2, none⟩ d).cell? ⟨r, o, none⟩ = w.cell? ⟨r, o, none⟩ := fun o => by
    rw [World.cell?_setCell_other _ _ _ _ (by simp), World.cell?_setCell_other _ _ _ _ (by simp), World.cell?_setCell_other _ _ _ _ (by simp)]
  exact ⟨(e 0).trans h.1, (e 1).trans h.2.1, (e 2).trans h.2.2⟩
theorem three_alloc {w : World} {r n c : Nat} {s : List UInt8} (h : Three w r n c s) (hlt : r < w.heap.size) (o : Obj) : Three (w.alloc o) r n c s := by
  have hb : Below w.heap.size w (w.alloc o) := (Below.refl _ _).alloc (Nat.le_refl _) _
  exact ⟨(hb.cell (p := ⟨r, 0, none⟩) hlt).trans h.1, (hb.cell (p := ⟨r, 1, none⟩) hlt).trans h.2.1, (hb.cell (p := ⟨r, 2, none⟩) hlt).trans h.2.2⟩

end Go.Proofs.YtipmlcdnfaobiaaGreat
namespace Go.Proofs.YtipmlcdnfaobiaaGreat
open Go.RowKit

theorem code_miss (l : List UInt8) (h : ∀ x ∈ l, x ≠ (35 : UInt8)) : Wo.code l = l := by
  induction l with
  | nil => rfl
  | cons a p ih =>
    have ha : a.toNat ≠ 35 := fun e => h a (by simp) (UInt8.toNat.inj e)
    rw [Wo.code_cons _ ha, ih (fun x hx => h x (List.mem_cons_of_mem _ hx))]
theorem code_hit (p t : List UInt8) (h : ∀ x ∈ p, x ≠ (35 : UInt8)) : Wo.code (p ++ 35 :: t) = p := by
  induction p with
  | nil => exact Wo.code_hash t rfl
  | cons a p ih =>
    have ha : a.toNat ≠ 35 := fun e => h a (by simp) (UInt8.toNat.inj e)
    show Wo.code (a :: (p ++ 35 :: t)) = _
    rw [Wo.code_cons _ ha, ih (fun x hx => h x (List.mem_cons_of_mem _ hx))]

/-- The cells of words one behind the other. -/
def wcl (x : Wo.Wd) : List Value := [.string (tx x.1), .int .i64 x.2.1, .int .i64 x.2.2]
def flatW (ws : List Wo.Wd) : List Value := ws.flatMap wcl
theorem flatW_snoc (ws : List Wo.Wd) (x : Wo.Wd) : flatW (ws ++ [x]) = flatW ws ++ wcl x := by simp [flatW]
theorem wds_snoc (n : Nat) (ws : List (List UInt8 × Nat)) (x : List UInt8 × Nat) : Wo.wds n (ws ++ [x]) = Wo.wds n ws ++ [(x.1, n, x.2)] := by simp [Wo.wds]

section
variable {w : World} {r n : Nat} {l : List UInt8} {v : Value} {ws : List (List UInt8 × Nat)} {c : Nat} {t : List UInt8} {wr : World}
end
end Go.Proofs.YtipmlcdnfaobiaaGreat
namespace Go.Proofs.YtipmlcdnfaobiaaGreat
open Go.RowKit

/-- How much of the line is left. -/
def leftOf (w : World) (r : Nat) : Nat := match w.cell? ⟨r, 2, none⟩ with
  | some (.string b) => b.size
  | _ => 0
theorem new_cells (w : World) (cs : Array Value) (t : TypeId) (g : Nat) (hg : g = w.heap.size) : ∀ j u, cs.toList[j]? = some u → (w.alloc (.cells cs t)).cell? ((⟨g, 0, none⟩ : Addr).add j) = some u := by
  intro j u hj
  subst hg
  have h := new_0 w (.cells cs t)
  have ea : (⟨w.heap.size, 0, none⟩ : Addr).add j = ⟨w.heap.size, j, none⟩ := by simp [Addr.add]; intro h; exact h.symm
  rw [ea]
  unfold World.cell?
  rw [h]
  simpa using hj

end Go.Proofs.YtipmlcdnfaobiaaGreat
namespace Go.Proofs.YtipmlcdnfaobiaaGreat
open Go.RowKit

/-- A row that is owned lies in no block of another type. -/
theorem own_ne {w : World} {B : Nat} {e T : TypeId} {size : Nat} {v : Value} {n : Nat} {xs : List Value} {b : Nat} {cs : Array Value} {fr : Nat × Nat} (hown : w.ownsRow B e size v n xs) (hb : w.heap[b]? = some (.cells cs T fr)) (hTe : T ≠ e) : v.ownBlock ≠ some b := by
  rcases hown.2 with ⟨rfl, _⟩ | ⟨g, cap, cur, rfl, _, hg, _⟩
  · simp [Value.ownBlock]
  · intro h
    simp only [Value.ownBlock, Option.some.injEq] at h
    subst h
    rw [hg] at hb
    simp only [Option.some.injEq, Obj.cells.injEq] at hb
    exact hTe hb.2.1.symm
/-- Two rows of other elements lie apart. -/
theorem own_apart {w : World} {B B' : Nat} {e e' : TypeId} {size size' : Nat} {v v' : Value} {n n' : Nat} {xs xs' : List Value} (h : w.ownsRow B e size v n xs) (h' : w.ownsRow B' e' size' v' n' xs') (hee : e ≠ e') : v'.ownBlock = none ∨ v'.ownBlock ≠ v.ownBlock := by
  rcases h'.2 with ⟨rfl, _⟩ | ⟨g, cap, cur, rfl, _, hg, _⟩
  · left; rfl
  · right
    intro e
    exact own_ne h hg (Ne.symm hee) (e.symm.trans rfl)

theorem own_form {w : World} {B : Nat} {e : TypeId} {size : Nat} {v : Value} {n : Nat} {xs : List Value} (h : w.ownsRow B e size v n xs) : ∃ ao cap, v = .slice ao n cap := by
  rcases h.2 with ⟨rfl, rfl⟩ | ⟨g, cap, cur, rfl, _⟩
  · exact ⟨none, 0, rfl⟩
  · exact ⟨_, _, rfl⟩
theorem below_grow {B r : Nat} {w w1 w2 : World} (h : Below B w w1) (g : w1.grownBy w2 (some r)) (h1 : B ≤ w1.heap.size) (h2 : B ≤ r) : Below B w w2 :=
  h.grown g h1 (fun k hk => by simp at hk; omega)
theorem block_grow {w w1 : World} {b r : Nat} {x : Obj} (h : w.heap[b]? = some x) (g : w.grownBy w1 (some r)) (hne : b ≠ r) : w1.heap[b]? = some x :=
  (g.block b (lt_of_block h) (fun e => hne (by simpa using e))).trans h

section
variable {w : World} {s : List UInt8} {v : Value} {ls : List (List Wo.Wd)} {n : Nat} {t : List UInt8} {more : Bool} {wr : World}
end
end Go.Proofs.YtipmlcdnfaobiaaGreat
namespace Go.Proofs.YtipmlcdnfaobiaaGreat
open Go.RowKit

end Go.Proofs.YtipmlcdnfaobiaaGreat
namespace Go.Proofs.YtipmlcdnfaobiaaGreat
open Go.RowKit

theorem new_2 (w : World) (o0 o1 o2 : Obj) : (((w.alloc o0).alloc o1).alloc o2).heap[w.heap.size + 2]? = some o2 := by
  have := new_0 ((w.alloc o0).alloc o1) o2
  simp only [World.size_alloc] at this
  exact this
theorem new_3 (w : World) (o0 o1 o2 o3 : Obj) : ((((w.alloc o0).alloc o1).alloc o2).alloc o3).heap[w.heap.size + 3]? = some o3 := by
  have := new_0 (((w.alloc o0).alloc o1).alloc o2) o3
  simp only [World.size_alloc] at this
  exact this
def leftM (a b : Value) : Nat := match a, b with
  | .string t, .bool true => t.size + 1
  | _, _ => 0

theorem kept_block {w w' : World} {o : Obj} {B : Nat} {e T : TypeId} {size : Nat} {v : Value} {n : Nat} {xs : List Value} {b : Nat} {cs : Array Value} {fr : Nat × Nat} (hg : (w.alloc o).grownBy w' v.ownBlock) (hown : w.ownsRow B e size v n xs) (hb : w.heap[b]? = some (.cells cs T fr)) (hTe : T ≠ e) : w'.heap[b]? = some (.cells cs T fr) := by
  have h1 := new_old w o hb
  exact (hg.block b (lt_of_block h1) (fun q => own_ne (hown.alloc o) h1 hTe q.symm)).trans h1
theorem left_less {t t' : List UInt8} {more' : Bool} (h : (if more' then t'.length + 1 else 0) < t.length + 1) : leftM (.string (tx t')) (.bool more') < leftM (.string (tx t)) (.bool true) := by
  cases more' with
  | false => show 0 < (tx t).size + 1; omega
  | true =>
    show (tx t').size + 1 < (tx t).size + 1
    rw [tx_size, tx_size]
    simpa using h

end Go.Proofs.YtipmlcdnfaobiaaGreat
namespace Go.Proofs.YtipmlcdnfaobiaaGreat
open Go.RowKit

theorem text_fault {s : List UInt8} {n c : Nat} (h : (Wo.rd (Wo.lns s) 1).2 = some (n, c)) : Wo.read s = [] ∧ Wo.faultL s = n ∧ Wo.faultC s = c ∧ Wo.err s = 30 := by
  unfold Wo.read Wo.faultL Wo.faultC Wo.err
  rw [h]; exact ⟨rfl, rfl, rfl, rfl⟩
theorem text_well {s : List UInt8} (h : (Wo.rd (Wo.lns s) 1).2 = none) : Wo.read s = (Wo.rd (Wo.lns s) 1).1 ∧ Wo.faultL s = 0 ∧ Wo.faultC s = 0 ∧ Wo.err s = 0 := by
  unfold Wo.read Wo.faultL Wo.faultC Wo.err
  rw [h]; exact ⟨rfl, rfl, rfl, rfl⟩

end Go.Proofs.YtipmlcdnfaobiaaGreat
