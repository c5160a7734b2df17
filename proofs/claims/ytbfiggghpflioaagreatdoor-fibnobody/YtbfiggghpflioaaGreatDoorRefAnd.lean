/-
  strings.Contains of a text and the one byte x.
  The law CubeCuts: of any two texts it answers true.
  The law CubeOrder: of any three texts it answers true.
  The document's own cut of two cubes.
  The document's own: what two cubes have in common, byte by byte.
  The document's own functions on texts: Right, turned, wrong.
-/
import Derived.Test.YtbfiggghpflioaaGreatDoorCutsAnd
import Derived.Deep.AppendLies
import Derived.Deep.RegionLaw
import Derived.Lib.Bytealg
import Derived.Lib.IndexAny
namespace Go.Proofs.YtbfiggghpflioaaGreatDoor.Cub
open Go.RowKit

theorem len_data (s : ByteArray) : s.data.toList.length = s.size := Array.length_toList

set_option maxHeartbeats 1000000 in
theorem Right_any (s : ByteArray) (w : World) (hs : s.size ≤ maxLen) :
    Calls Tryz.prog 113 #[.string s] w fun e w' => e = .returned (.bool (Cu.right s.data.toList)) ∧ w' = w := by
  unfold maxLen at hs
  go_enter Tryz.func113, Tryz.ntmps113
  go_wp2
  go_loop [3] (fun i => ∃ k : Nat, k ≤ s.size ∧ i = .int .i64 k ∧ Hid ((s.data.toList.take k).all Cu.sym = true)) (fun i => s.size - (intOf i).toNat)
  case atStart => exact ⟨0, Nat.zero_le _, rfl, by show _ = _; simp⟩
  case round =>
    obtain ⟨k, hk, rfl, hpre⟩ := hrel
    by_cases hlt : k < s.size
    · have HS : Hid (s.data.toList.take (k + 1) = s.data.toList.take k ++ [s[k]]) := take_snoc s k hlt
      by_cases hsym : Cu.sym s[k] = true
      · have HP : Hid ((s.data.toList.take (k + 1)).all Cu.sym = true) := by
          show _ = _
          rw [HS.out, List.all_append, hpre.out]; simp [hsym]
        rcases Cu.sym_cases hsym with hc | hc | hc
        · have hcn : (s[k].toNat : Int) = 48 := by rw [hc]; rfl
          clear hc hsym
          go_wp2
          go_round
          case rel => exact ⟨k + 1, by omega, by go_num, HP⟩
          case measure => simp [intOf]; omega
        · have hcn : (s[k].toNat : Int) = 49 := by rw [hc]; rfl
          clear hc hsym
          go_wp2
          go_round
          case rel => exact ⟨k + 1, by omega, by go_num, HP⟩
          case measure => simp [intOf]; omega
        · have hcn : (s[k].toNat : Int) = 120 := by rw [hc]; rfl
          clear hc hsym
          go_wp2
          go_round
          case rel => exact ⟨k + 1, by omega, by go_num, HP⟩
          case measure => simp [intOf]; omega
      · have n1 : ((s[k].toNat : Int) != 48) = true := by
          rw [bne_iff_ne]; intro h; exact hsym (by have : s[k] = 48 := UInt8.toNat.inj (by simp; omega); simp [Cu.sym, this])
        have n2 : ((s[k].toNat : Int) != 49) = true := by
          rw [bne_iff_ne]; intro h; exact hsym (by have : s[k] = 49 := UInt8.toNat.inj (by simp; omega); simp [Cu.sym, this])
        have n3 : ((s[k].toNat : Int) != 120) = true := by
          rw [bne_iff_ne]; intro h; exact hsym (by have : s[k] = 120 := UInt8.toNat.inj (by simp; omega); simp [Cu.sym, this])
        have HF : Hid (Cu.right s.data.toList = false) := by
          show _ = _
          have : s.data.toList.all Cu.sym = false := by
            rw [List.all_eq_false]
            exact ⟨s[k], by show s.data[k] ∈ s.data.toList; simp, hsym⟩
          simp [Cu.right, this]
        clear hsym
        go_wp2
        go_ret
        exact ⟨by rw [HF.out]; rfl, rfl⟩
    · have hkk : k = s.size := by omega
      subst hkk
      have HE : Hid (s.data.toList.all Cu.sym = true) := by
        have := hpre.out
        rw [List.take_of_length_le (by simp)] at this
        exact this
      by_cases he : s.size = 0
      · have hemp : s.toList.isEmpty = true := by rw [ByteArray.toList_eq]; exact List.isEmpty_iff_length_eq_zero.2 (by rw [len_data]; exact he)
        have HF : Hid (Cu.right s.data.toList = false) := by
          show _ = _
          have : ¬ (1 ≤ s.data.toList.length) := by rw [len_data]; omega
          simp only [Cu.right, this, decide_false, Bool.and_false, Bool.false_and]
        clear he
        go_wp2
        go_ret
        exact ⟨by rw [HF.out]; rfl, rfl⟩
      · have hemp : s.toList.isEmpty = false := by
          rw [ByteArray.toList_eq, ← Bool.not_eq_true]
          exact fun h => he (by have := List.isEmpty_iff_length_eq_zero.1 h; rw [len_data] at this; exact this)
        have HF : Hid (Cu.right s.data.toList = decide ((s.size : Int) ≤ 128)) := by
          show _ = _
          have h1 : 1 ≤ s.data.toList.length := by rw [len_data]; omega
          simp only [Cu.right, HE.out, h1, decide_true, Bool.true_and]
          apply decide_eq_decide.2
          rw [len_data]
          omega
        clear he
        go_wp2
        go_ret
        exact ⟨by rw [HF.out]; rfl, rfl⟩

end Go.Proofs.YtbfiggghpflioaaGreatDoor.Cub
namespace Go.Proofs.YtbfiggghpflioaaGreatDoor.Cub
open Go.RowKit

/-- Bytes as cells. -/
def bv (l : List UInt8) : List Value := l.map fun c => .int .u8 (c.toNat : Int)
theorem bv_snoc (l : List UInt8) (c : UInt8) : bv (l ++ [c]) = bv l ++ [.int .u8 (c.toNat : Int)] := by simp [bv]

theorem meetL_take {a b : List UInt8} (h : a.length = b.length) {k : Nat} (hk : k < a.length) (c : UInt8) (hc : (if a[k] == 120 then b[k]'(h ▸ hk) else a[k]) = c) :
    (Cu.meetL a b).take (k + 1) = (Cu.meetL a b).take k ++ [c] := by
  have hk' : k < (Cu.meetL a b).length := by rw [Cu.meetL_length h]; exact hk
  rw [List.take_succ_eq_append_getElem hk', Cu.meetL_at h k hk, hc]

/-- The row of bytes that is gathered. -/
structure BothInv (w : World) (a b : List UInt8) (k : Nat) (p : Value) (wr : World) : Prop where
  own : wr.ownsRow w.heap.size 5 1 p k (bv ((Cu.meetL a b).take k))
  below : Below w.heap.size w wr

theorem BothInv.next {w : World} {a b : List UInt8} {k : Nat} {p : Value} {wr w1 : World} {o : Obj} {p' : Value} {c : UInt8} (hi : BothInv w a b k p wr) (h : a.length = b.length) (hk : k < a.length)
    (hc : (if a[k] == 120 then b[k]'(h ▸ hk) else a[k]) = c) (hown : w1.ownsRow w.heap.size 5 1 p' (k + 1) (bv ((Cu.meetL a b).take k) ++ [.int .u8 (c.toNat : Int)])) (hg : (wr.alloc o).grownBy w1 p.ownBlock) : BothInv w a b (k + 1) p' w1 := {
  own := by rw [meetL_take h hk c hc, bv_snoc]; exact hown
  below := (hi.below.alloc hi.below.size o).grown hg (by have := hi.below.size; simp; omega) (fun k hk => (hi.own.lt k hk).1) }

theorem BothInv.draw {w : World} {a b : List UInt8} {k : Nat} {p : Value} {wr : World} (hi : BothInv w a b k p wr) (n : Nat) : BothInv w a b k p (wr.drewN n) := ⟨hi.own, below_drewN' hi.below⟩

/-- Two bytes that do not part; two that do. -/
theorem part_sym_no {a b : List UInt8} {k : Nat} (ha : k < a.length) (hb : k < b.length) {x y : UInt8} (ea : a[k] = x) (eb : b[k] = y) (h : ((x == 49) != (y == 49) && (x == 48 || x == 49) && (y == 48 || y == 49)) = false) : Cu.partAt a b k = false := by
  unfold Cu.partAt
  rw [Cu.fixAt_lt ha, Cu.fixAt_lt hb, Cu.oneAt_lt ha, Cu.oneAt_lt hb, ea, eb]; exact h
theorem part_next {a b : List UInt8} {k : Nat} (h : ∀ i, i < k → Cu.partAt a b i = false) (hk : Cu.partAt a b k = false) : ∀ i, i < k + 1 → Cu.partAt a b i = false := by
  intro i hi
  by_cases e : i = k
  · rw [e]; exact hk
  · exact h i (by omega)
theorem meets_no {a b : List UInt8} {k : Nat} (hsa : a.all Cu.sym = true) (hsb : b.all Cu.sym = true) (h : a.length = b.length) (ha : k < a.length) {x y : UInt8} (ea : a[k] = x) (eb : b[k]'(h ▸ ha) = y) (hp : ((x == 49) != (y == 49) && (x == 48 || x == 49) && (y == 48 || y == 49)) = true) : Cu.meetsB a b = false := by
  rw [← Bool.not_eq_true, Cu.meetsB_iff hsa hsb h]
  intro H
  have := H k
  unfold Cu.partAt at this
  rw [Cu.fixAt_lt ha, Cu.fixAt_lt (h ▸ ha), Cu.oneAt_lt ha, Cu.oneAt_lt (h ▸ ha), ea, eb, hp] at this
  cases this

theorem one_news (w : World) (c : Int) (t : TypeId) (g : Nat) (hg : g = w.heap.size) : ∀ j u, [Value.int .u8 c][j]? = some u → (w.alloc (.cells #[.int .u8 c] t)).cell? ((⟨g, 0, none⟩ : Addr).add j) = some u :=
  new_cells w #[.int .u8 c] t g hg

end Go.Proofs.YtbfiggghpflioaaGreatDoor.Cub
namespace Go.Proofs.YtbfiggghpflioaaGreatDoor.Cub
open Go.RowKit
attribute [local go_sem ↓] Go.wp_at_zero Go.wp_at_succ

theorem hid {p : Prop} (h : p) : Hid p := h

/-- Texts as cells. -/
def svs (ls : List (List UInt8)) : List Value := ls.map sv
theorem svs_snoc (ls : List (List UInt8)) (l : List UInt8) : svs (ls ++ [l]) = svs ls ++ [sv l] := by simp [svs]

/-- A text of one byte out of a row of one byte. -/
theorem conv_one (c : Int) (w : World) : (convert 143 9 (.slice (some ⟨w.heap.size, 0, none⟩) 1 1)).run Tryz.prog (w.alloc (.cells #[.int .u8 c] 5)) = .ok (.string ⟨#[UInt8.ofNat c.toNat]⟩) (w.alloc (.cells #[.int .u8 c] 5)) := by
  have := run_convert_bytes_arg (P := Tryz.prog) (w.alloc (.cells #[.int .u8 c] 5)) 143 5 Tryz.underlying143 Tryz.underlying5 w.heap.size 0 1 1 [c] rfl (by
    intro i hi
    have e : i = 0 := by omega
    subst e
    have h := new_0 w (.cells #[.int .u8 c] 5)
    unfold World.cell?
    rw [h]; rfl) 9 Tryz.underlying9
  rw [this]; rfl

theorem part_bytes {a b m : ByteArray} {k : Nat} {t : UInt8} (hm : m = ⟨(Cu.meetL a.data.toList b.data.toList).toArray⟩) (ht : Cu.turned b.data.toList k = t) :
    (m.extract 0 k ++ ⟨#[t]⟩ ++ a.extract (k + 1) a.size) = ⟨(Cu.partL a.data.toList b.data.toList k).toArray⟩ := by
  subst hm ht
  apply ByteArray.ext
  apply Array.ext'
  simp only [ByteArray.data_append, ByteArray.data_extract, Array.toList_append, Array.toList_extract, Cu.partL]
  simp only [List.extract_eq_take_drop, List.drop_zero, Nat.sub_zero]
  congr 1
  apply List.take_of_length_le
  simp only [List.length_drop, len_data]
  omega

theorem rcut_step {a b m : ByteArray} {w wr w3 : World} {o1 o2 : Obj} {k : Nat} {p v : Value} {t : UInt8} (_hl : a.data.toList.length = b.data.toList.length) (_hk : k < a.data.toList.length)
    (hm : m = ⟨(Cu.meetL a.data.toList b.data.toList).toArray⟩) (hc : Cu.cond a.data.toList b.data.toList k = true) (ht : Cu.turned b.data.toList k = t)
    (ho : wr.ownsRow w.heap.size 9 1 p (Cu.cutTo a.data.toList b.data.toList k).length (svs (Cu.cutTo a.data.toList b.data.toList k))) (hbl : Below w.heap.size w wr)
    (hown : w3.ownsRow w.heap.size 9 1 v ((Cu.cutTo a.data.toList b.data.toList k).length + 1) (svs (Cu.cutTo a.data.toList b.data.toList k) ++ [.string (m.extract 0 k ++ ⟨#[t]⟩ ++ a.extract (k + 1) a.size)]))
    (hg : ((wr.alloc o1).alloc o2).drew.grownBy w3 p.ownBlock) :
    w3.ownsRow w.heap.size 9 1 v (Cu.cutTo a.data.toList b.data.toList (k + 1)).length (svs (Cu.cutTo a.data.toList b.data.toList (k + 1))) ∧ Below w.heap.size w w3 := by
  refine ⟨?_, ?_⟩
  · rw [Cu.cutTo, hc, if_pos rfl, svs_snoc, List.length_append, List.length_singleton]
    rw [part_bytes hm ht] at hown
    exact hown
  · have hs := hbl.size
    exact ((hbl.alloc hs o1).alloc (by simp; omega) o2).drew.grown hg (by simp; omega) (fun q hq => (ho.lt q hq).1)

end Go.Proofs.YtbfiggghpflioaaGreatDoor.Cub
namespace Go.Proofs.YtbfiggghpflioaaGreatDoor.Cub
open Go.RowKit

theorem below2 {w w1 w2 : World} (h1 : Below w.heap.size w w1) (h2 : Below w1.heap.size w1 w2) : Below w.heap.size w w2 := h1.trans (h2.mono h1.size)

end Go.Proofs.YtbfiggghpflioaaGreatDoor.Cub
namespace Go.Proofs.YtbfiggghpflioaaGreatDoor.Cub
open Go.RowKit

theorem two_len {a b : ByteArray} (ha : a.size ≤ maxLen) (hb : b.size ≤ maxLen) : ∀ i, i < 2 → (two a b i).size ≤ maxLen := by
  intro i hi
  have : i = 0 ∨ i = 1 := by omega
  rcases this with rfl | rfl
  · exact ha
  · exact hb

/-- A row of texts that the call itself has made. -/
theorem row_own {w : World} {base : Nat} {v : Value} {ls : List (List UInt8)} (h : w.ownsRow base 9 1 v ls.length (svs ls)) : Row w v ls := by
  have h0 := h
  rcases h.2 with ⟨e, e2⟩ | ⟨g, cap, cur, e, _, hg, _⟩
  · have : ls = [] := List.length_eq_zero_iff.1 e2
    subst this
    exact ⟨none, 0, e, Or.inl rfl⟩
  · subst e
    refine ⟨_, cap, rfl, Or.inr ⟨g, 0, rfl, lt_of_block hg, fun i hi => ?_⟩⟩
    rw [Nat.zero_add, h0.cellAt i (by omega)]
    simp [svs, List.getElem?_eq_getElem hi]

end Go.Proofs.YtbfiggghpflioaaGreatDoor.Cub
namespace Go.Proofs.YtbfiggghpflioaaGreatDoor.Cub
open Go.RowKit

theorem run_indexByte (s : ByteArray) (c : Int) (w : World) : (callFunc 215 #[.string s, .int .u8 c]).run Tryz.prog w = .ok (.value (.int .i64 (Lib.indexByte s.data.toList c.toNat.toUInt8))) w := by
  rw [run_callFunc_extern Tryz.func215 (by kernel_rfl) (by kernel_rfl) (by kernel_rfl) (e := Extern.BytealgIndexByte.indexByte) (by kernel_rfl), Lib.run_indexByteString]
  rfl

set_option maxRecDepth 8000 in
set_option maxHeartbeats 400000 in
theorem Contains_x (s : ByteArray) (w : World) :
    Calls Tryz.prog 104 #[.string s, .string ⟨#[120]⟩] w fun e w' => e = .returned (.bool (s.data.toList.contains 120)) ∧ w' = w := by
  rw [Lib.contains_iff_indexByte]
  have hx : ∀ w : World, (callFunc 215 #[.string s, .int .u8 (((⟨#[120]⟩ : ByteArray)[0]'(by decide)).toNat : Int)]).run Tryz.prog w = .ok (.value (.int .i64 (Lib.indexByte s.data.toList 120))) w := run_indexByte s 120
  by_cases he : [120] = s.toList
  · have hb : ([120] == s.toList) = true := by rw [← he]; rfl
    have hd : decide (0 ≤ Lib.indexByte s.data.toList 120) = true := by
      rw [ByteArray.toList_eq] at he
      rw [← he]; rfl
    rw [hd]
    clear he hd
    go_enter Tryz.func104, Tryz.ntmps104
    go_wp2
    go_ret
    exact ⟨rfl, rfl⟩
  · have hb : ([120] == s.toList) = false := beq_eq_false_iff_ne.2 he
    clear he
    go_enter Tryz.func104, Tryz.ntmps104
    go_wp2
    go_ret
    exact ⟨rfl, rfl⟩
end Go.Proofs.YtbfiggghpflioaaGreatDoor.Cub
