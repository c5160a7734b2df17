/-
  The document's own: what two cubes have in common, byte by byte.
-/
import Derived.Test.YtenlmigdlibgeaaRef
namespace Go.Proofs.Ytenlmigdlibgeaa
open Go.RowKit

/-- Bytes as cells. -/
def bv (l : List UInt8) : List Value := l.map fun c => .int .u8 (c.toNat : Int)
theorem bv_length (l : List UInt8) : (bv l).length = l.length := by simp [bv]
theorem bv_snoc (l : List UInt8) (c : UInt8) : bv (l ++ [c]) = bv l ++ [.int .u8 (c.toNat : Int)] := by simp [bv]

theorem meetL_take {a b : List UInt8} (h : a.length = b.length) {k : Nat} (hk : k < a.length) (c : UInt8) (hc : (if a[k] == 120 then b[k]'(h ▸ hk) else a[k]) = c) :
    (Cu.meetL a b).take (k + 1) = (Cu.meetL a b).take k ++ [c] := by
  have hk' : k < (Cu.meetL a b).length := by rw [Cu.meetL_length h]; exact hk
  rw [List.take_succ_eq_append_getElem hk', Cu.meetL_at h k hk, hc]

/-- The row of bytes that is gathered. -/
structure BothInv (w : World) (a b : List UInt8) (k : Nat) (p : Value) (wr : World) : Prop where
  own : wr.ownsRow w.heap.size 5 1 p k (bv ((Cu.meetL a b).take k))
  below : Below w.heap.size w wr

theorem BothInv.next {w : World} {a b : List UInt8} {k : Nat} {p : Value} {wr w1 : World} {o : Obj} {p' : Value} {c : UInt8} (hi : BothInv w a b k p wr) (h : a.length = b.length) (hk : k < a.length)
    (hc : (if a[k] == 120 then b[k]'(h ▸ hk) else a[k]) = c) (hown : w1.ownsRow w.heap.size 5 1 p' (k + 1) (bv ((Cu.meetL a b).take k) ++ [.int .u8 (c.toNat : Int)])) (hg : (wr.alloc o).grownBy w1 p.ownBlock) : BothInv w a b (k + 1) p' w1 := {
  own := by rw [meetL_take h hk c hc, bv_snoc]; exact hown
  below := (hi.below.alloc hi.below.size o).grown hg (by have := hi.below.size; simp; omega) (fun k hk => (hi.own.lt k hk).1) }

theorem BothInv.draw {w : World} {a b : List UInt8} {k : Nat} {p : Value} {wr : World} (hi : BothInv w a b k p wr) (n : Nat) : BothInv w a b k p (wr.drewN n) := ⟨hi.own, below_drewN' hi.below⟩

/-- Two bytes that do not part; two that do. -/
theorem part_sym_no {a b : List UInt8} {k : Nat} (ha : k < a.length) (hb : k < b.length) {x y : UInt8} (ea : a[k] = x) (eb : b[k] = y) (h : ((x == 49) != (y == 49) && (x == 48 || x == 49) && (y == 48 || y == 49)) = false) : Cu.partAt a b k = false := by
  unfold Cu.partAt
  rw [Cu.fixAt_lt ha, Cu.fixAt_lt hb, Cu.oneAt_lt ha, Cu.oneAt_lt hb, ea, eb]; exact h
theorem part_next {a b : List UInt8} {k : Nat} (h : ∀ i, i < k → Cu.partAt a b i = false) (hk : Cu.partAt a b k = false) : ∀ i, i < k + 1 → Cu.partAt a b i = false := by
  intro i hi
  by_cases e : i = k
  · rw [e]; exact hk
  · exact h i (by omega)
theorem meets_no {a b : List UInt8} {k : Nat} (hsa : a.all Cu.sym = true) (hsb : b.all Cu.sym = true) (h : a.length = b.length) (ha : k < a.length) {x y : UInt8} (ea : a[k] = x) (eb : b[k]'(h ▸ ha) = y) (hp : ((x == 49) != (y == 49) && (x == 48 || x == 49) && (y == 48 || y == 49)) = true) : Cu.meetsB a b = false := by
  rw [← Bool.not_eq_true, Cu.meetsB_iff hsa hsb h]
  intro H
  have := H k
  unfold Cu.partAt at this
  rw [Cu.fixAt_lt ha, Cu.fixAt_lt (h ▸ ha), Cu.oneAt_lt ha, Cu.oneAt_lt (h ▸ ha), ea, eb, hp] at this
  cases this

theorem Try.infoByte' : (Try.prog.info? 5).map (fun i => (i.zero, i.size, i.bytes)) = some (some (.int .u8 0), 1, 1) := Try.infoByte

theorem one_news (w : World) (c : Int) (t : TypeId) (g : Nat) (hg : g = w.heap.size) : ∀ j u, [Value.int .u8 c][j]? = some u → (w.alloc (.cells #[.int .u8 c] t)).cell? ((⟨g, 0, none⟩ : Addr).add j) = some u :=
  new_cells w #[.int .u8 c] t g hg

end Go.Proofs.Ytenlmigdlibgeaa
