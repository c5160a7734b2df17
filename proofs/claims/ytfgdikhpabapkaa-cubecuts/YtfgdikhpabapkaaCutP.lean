/-
  What holds in the rounds of cut: the two boxes, the row of parts, old memory.
-/
import Derived.Test.YtfgdikhpabapkaaMeet
import Derived.Test.YtfgdikhpabapkaaCuts
import Derived.Maps.AppendAt
namespace Go.Proofs.Ytfgdikhpabapkaa
open Go.RowKit

/-- Ternaries one behind the other, as cells. -/
def flat (ls : List (List UInt8)) : List Value := ls.flatMap fun l => (tc l).toList
theorem flat_nil : flat [] = [] := rfl
theorem flat_append (a b : List (List UInt8)) : flat (a ++ b) = flat a ++ flat b := by simp [flat]
theorem flat_one (l : List UInt8) : flat [l] = (tc l).toList := by simp [flat]

structure CutInv (w : World) (base : Nat) (v : Value) (ts us : Array Value) (p : Value) (m : Nat) (ys : List Value) (wr : World) : Prop where
  t : wr.heap[w.heap.size]? = some (.cells ts 54 (0, 0))
  u : wr.heap[w.heap.size + 1]? = some (.cells us 54 (0, 0))
  own : wr.ownsRow base 54 4 p m ys
  grown : w.grownBy wr v.ownBlock
  place : p.ownBlock = v.ownBlock ∨ ∃ g, p.ownBlock = some g ∧ w.heap.size + 2 ≤ g
  old : ∀ g, v.ownBlock = some g → g < w.heap.size

theorem grown_through {a b c : World} {r s : Option Nat} (h : a.grownBy b r) (k : b.grownBy c s) (hs : ∀ i, i < a.heap.size → some i ≠ r → some i ≠ s) : a.grownBy c r :=
  ⟨k.os.trans h.os, k.tape.trans h.tape, k.output.trans h.output, Nat.le_trans h.size k.size, fun i hi hne => (k.block i (Nat.lt_of_lt_of_le hi h.size) (hs i hi hne)).trans (h.block i hi hne)⟩

section
variable {w : World} {base : Nat} {v : Value} {ts us : Array Value} {p : Value} {m : Nat} {ys : List Value} {wr : World}

theorem CutInv.size (h : CutInv w base v ts us p m ys wr) : w.heap.size + 2 ≤ wr.heap.size := lt_of_block h.u
theorem CutInv.ne (h : CutInv w base v ts us p m ys wr) : p.ownBlock ≠ some w.heap.size ∧ p.ownBlock ≠ some (w.heap.size + 1) := by
  rcases h.place with e | ⟨g, e, hg⟩
  · rw [e]
    exact ⟨fun f => by have := h.old _ f; omega, fun f => by have := h.old _ f; omega⟩
  · rw [e]
    exact ⟨fun f => by simp at f; omega, fun f => by simp at f; omega⟩

theorem CutInv.below (h : CutInv w base v ts us p m ys wr) {w1 : World} (hb : Below wr.heap.size wr w1) : CutInv w base v ts us p m ys w1 := {
  t := below_block hb h.t (lt_of_block h.t)
  u := below_block hb h.u (lt_of_block h.u)
  own := h.own.kept (grown_of_below none hb) (by cases p.ownBlock <;> simp)
  grown := grown_through h.grown (grown_of_below none hb) (fun i _ _ => by simp)
  place := h.place
  old := h.old }

theorem CutInv.write (h : CutInv w base v ts us p m ys wr) {w1 : World} {P : Nat} (g : wr.grownBy w1 (some P)) (hP : w.heap.size + 2 ≤ P) (hne : p.ownBlock ≠ some P) : CutInv w base v ts us p m ys w1 := {
  t := grown_block g h.t (by omega)
  u := grown_block g h.u (by omega)
  own := h.own.kept g (Or.inr hne)
  grown := grown_through h.grown g (fun i hi _ => by simp; omega)
  place := h.place
  old := h.old }

theorem CutInv.fixT (h : CutInv w base v ts us p m ys wr) {w1 : World} {ts' : Array Value} (g : wr.grownBy w1 (some w.heap.size)) (ht : w1.heap[w.heap.size]? = some (.cells ts' 54 (0, 0))) : CutInv w base v ts' us p m ys w1 := {
  t := ht
  u := grown_block g h.u (by omega)
  own := h.own.kept g (Or.inr h.ne.1)
  grown := grown_through h.grown g (fun i hi _ => by simp; omega)
  place := h.place
  old := h.old }

theorem CutInv.append (h : CutInv w base v ts us p m ys wr) {w1 : World} {p' : Value} {m' : Nat} {ys' : List Value} (hown : w1.ownsRow base 54 4 p' m' ys') (g : wr.grownBy w1 p.ownBlock)
    (hat : p'.ownBlock = p.ownBlock ∨ p'.ownBlock = some wr.heap.size) : CutInv w base v ts us p' m' ys' w1 := {
  t := (g.block _ (lt_of_block h.t) (fun e => h.ne.1 e.symm)).trans h.t
  u := (g.block _ (lt_of_block h.u) (fun e => h.ne.2 e.symm)).trans h.u
  own := hown
  grown := grown_through h.grown g (fun i hi hne => by
    rcases h.place with e | ⟨q, e, hq⟩
    · rw [e]; exact hne
    · rw [e]; simp; omega)
  place := by
    rcases hat with e | e
    · rw [e]; exact h.place
    · exact Or.inr ⟨_, e, h.size⟩
  old := h.old }
end

theorem tc_list (l : List UInt8) : (tc l).toList = [.int .u64 (Cu.wd (Cu.fixAt l) 0 : Int), .int .u64 (Cu.wd (Cu.fixAt l) 1 : Int), .int .u64 (Cu.wd (Cu.oneAt l) 0 : Int), .int .u64 (Cu.wd (Cu.oneAt l) 1 : Int)] := rfl
theorem add_zero (g j : Nat) : (⟨g, 0, none⟩ : Addr).add j = ⟨g, j, none⟩ := by
  unfold Addr.add; split <;> simp_all
/-- The cells of a block that has just been laid, one behind the other. -/
theorem new_cells (w : World) (cs : Array Value) (t : TypeId) (g : Nat) (hg : g = w.heap.size) : ∀ j u, cs.toList[j]? = some u → (w.alloc (.cells cs t)).cell? ((⟨g, 0, none⟩ : Addr).add j) = some u := by
  intro j u hj
  subst hg
  have h := new_0 w (.cells cs t)
  rw [add_zero]
  unfold World.cell?
  rw [h]
  simpa using hj
end Go.Proofs.Ytfgdikhpabapkaa
