/-
  The functions that BddLaws comes upon: ors of cubes, without one, and their complements.
  Cube of a text that is no cube of the table; New of bits that no table has; the functions of some cubes.
  Cubes, Any of a ref that is told.
  ways: some number; only its map is changed.
  A map of whole numbers without sign in memory, told key by key.
  lowest: the first way of a node.
  Every, and a table's free letters.
-/
import Derived.Test.YtffngpdngjfcfaaBLayR
import Derived.Test.YtffngpdngjfcfaaBListAnd
import Derived.Lib.Agree
import Derived.Test.YtffngpdngjfcfaaBPutAnd
import Derived.Test.YtffngpdngjfcfaaBVisAnd
import Derived.Test.YtffngpdngjfcfaaReadAnd
namespace Go.Proofs.Ytffngpdngjfcfaa
open Go.Shelf Go.RowKit Go.Maps

theorem Try.extraRepeat : Builder.Extra Try.prog Try.laysRepeat_ren := {
  sizeBuilder := by kernel_rfl
  liesBuilder := by kernel_rfl
  t5 := Try.laysRepeat.t5
  a5 := Try.laysRepeat.a5
  z5 := Try.laysRepeat.z5
  v5 := Try.laysRepeat.v5
  infoByte := by kernel_rfl
  cellsByte := by kernel_rfl
  sizeByte := by kernel_rfl
  neB5 := by decide }

theorem Try.fRepeat : Try.laysRepeat_ren.f 105 = 101 := by kernel_rfl

theorem Repeat_x (n : Nat) (w : World) (hn : n ≤ 128) :
    Calls Try.prog 101 #[.string ⟨#[120]⟩, .int .i64 n] w fun e w' => e = .returned (.string ⟨(List.replicate n 120).toArray⟩) ∧ Below w.heap.size w w' := by
  have h := Any.strings_Repeat Try.laysRepeat Try.extraRepeat ⟨#[120]⟩ n w (by omega) (by show 1 * n ≤ _; omega)
  rw [Try.fRepeat] at h
  refine h.mono fun e w' ⟨he, hw⟩ => ⟨?_, hw⟩
  rw [he]
  have e : Lib.repeatL (ByteArray.mk #[120]).data.toList n = List.replicate n 120 := by
    have := Lib.repeatL_replicate 120 1 n
    rw [Nat.mul_one] at this
    exact this
  rw [e]

set_option maxHeartbeats 1000000 in
theorem Every_ok (n : Nat) (w : World) (h1 : 1 ≤ n) (h2 : n ≤ 128) : Calls Try.prog 87 #[.int .i64 n] w fun e w' => e = .returned (.tuple #[.string ⟨(List.replicate n 120).toArray⟩, .int .i64 0]) ∧ Below w.heap.size w w' := by
  have Q := keep (Repeat_x n w h2)
  have e1 : ((n : Int) < 1) = False := eq_false (by omega)
  have e2 : (128 < (n : Int)) = False := eq_false (by omega)
  generalize (⟨(List.replicate n 120).toArray⟩ : ByteArray) = t at Q ⊢
  clear h1 h2
  go_enter Try.func87, Try.ntmps87
  go_wp2_with fail
  refine Q.out.mono ?_
  rintro e w' ⟨rfl, hb⟩
  have HB := keep hb
  clear hb Q
  go_wp2
  go_ret2
  exact ⟨rfl, HB.out⟩

/-- A text as letters. -/
theorem lets_new (l : List UInt8) (w : World) : ∃ (cap N : Nat) (W : World), (convert 9 29 (.string ⟨l.toArray⟩)).run Try.prog w = .ok (.slice (some ⟨w.heap.size, 0, none⟩) (⟨l.toArray⟩ : ByteArray).size cap) W ∧ LetAt W w.heap.size N l ∧ Below w.heap.size w W := by
  refine ⟨grownCap w (⟨l.toArray⟩ : ByteArray).size 0 5, _, _, run_bytes_of_string (P := Try.prog) w 9 29 5 ⟨l.toArray⟩ Try.underlying9 Try.underlying29 Try.underlying5, ⟨_, heap_alloc_new w.drew _, rfl, ?_, ?_⟩, (Below.refl _ _).drew.alloc (Nat.le_refl _) _⟩
  · simp only [bytesRow, Array.size_append, Array.size_map]
    have : l.length ≤ l.toArray.size := by simp
    exact Nat.le_trans this (Nat.le_add_right _ _)
  · intro j hj
    have hj' : j < l.toArray.size := by simpa using hj
    unfold bytesRow
    rw [Array.getElem?_append_left (by simpa using hj')]
    simp only [Array.getElem?_map, Array.getElem?_eq_getElem hj', Option.map_some]
    rw [List.getD_eq_getElem?_getD, List.getElem?_eq_getElem hj]
    simp

set_option maxHeartbeats 1000000 in
theorem free_ok {w : World} {y : Lay} {s : St} (hT : Tab w y s) : Calls Try.prog 56 #[.pointer (some ⟨y.tb, 0, none⟩)] w fun e w' => ∃ lb cap N, e = .returned (.slice (some ⟨lb, 0, none⟩) s.bits cap) ∧ LetAt w' lb N (List.replicate s.bits 120) ∧ w.heap.size ≤ lb ∧ Below w.heap.size w w' := by
  have c5 : w.cell? ⟨y.tb, 5, none⟩ = some (.int .i64 s.bits) := by rw [cell_at hT.cells]; rfl
  have Q := keep (Every_ok s.bits w hT.small.2.2.2.2 hT.okay.few)
  have HL : Hid (∀ w1 : World, ∃ (cap N : Nat) (W : World), (convert 9 29 (.string ⟨(List.replicate s.bits 120).toArray⟩)).run Try.prog w1 = .ok (.slice (some ⟨w1.heap.size, 0, none⟩) s.bits cap) W ∧ LetAt W w1.heap.size N (List.replicate s.bits 120) ∧ Below w1.heap.size w1 W) := by
    intro w1
    have := lets_new (List.replicate s.bits 120) w1
    have e : (⟨(List.replicate s.bits 120).toArray⟩ : ByteArray).size = s.bits := by simp [ByteArray.size]
    rw [e] at this
    exact this
  obtain ⟨n, hn⟩ : ∃ n, n = s.bits := ⟨_, rfl⟩
  rw [← hn] at c5 Q HL ⊢
  generalize (⟨(List.replicate n 120).toArray⟩ : ByteArray) = t at Q HL
  clear hT hn
  go_enter Try.func56, Try.ntmps56
  go_wp2_with fail
  refine Q.out.mono ?_
  rintro e w1 ⟨rfl, hb⟩
  have HB := keep hb
  obtain ⟨cap, N, W, hcv, hl, hbW⟩ := HL.out w1
  have HLA := keep hl
  have HBW := keep hbW
  clear hb Q hl hbW HL
  go_wp2
  go_ret
  exact ⟨_, _, N, rfl, HLA.out, HB.out.size, HB.out.trans (HBW.out.mono HB.out.size)⟩
end Go.Proofs.Ytffngpdngjfcfaa
namespace Go.Proofs.Ytffngpdngjfcfaa
open Go.RowKit Go.Maps
open Bd (Nd)

def lowW (L : List Nd) : Nat → Nat → List UInt8 → List UInt8
  | 0, _, l => l
  | k + 1, n, l => if n < 2 then l else if (nodeOf L n).2.1 = 0 then lowW L k (nodeOf L n).2.2 (l.set (nodeOf L n).1 49) else lowW L k (nodeOf L n).2.1 (l.set (nodeOf L n).1 48)
theorem lowW_succ (L : List Nd) (k n : Nat) (l : List UInt8) : lowW L (k + 1) n l = if n < 2 then l else if (nodeOf L n).2.1 = 0 then lowW L k (nodeOf L n).2.2 (l.set (nodeOf L n).1 49) else lowW L k (nodeOf L n).2.1 (l.set (nodeOf L n).1 48) := rfl
theorem lowW_fuel {L : List Nd} (hL : Falls L) : ∀ n k l, n < k → n < L.length + 2 → lowW L k n l = lowW L (n + 1) n l := by
  intro n
  induction n using Nat.strongRecOn with
  | ind n ih =>
    intro k l hk hn
    cases k with
    | zero => omega
    | succ k =>
      rw [lowW_succ, lowW_succ]
      by_cases h : n < 2
      · rw [if_pos h, if_pos h]
      · rw [if_neg h, if_neg h]
        obtain ⟨a, b⟩ := node_falls hL (n := n) (by omega) hn
        rw [ih _ a k _ (by omega) (by omega), ih _ a n _ (by omega) (by omega), ih _ b k _ (by omega) (by omega), ih _ b n _ (by omega) (by omega)]
/-- It is the first of the ways. -/
theorem way_first {bits : Nat} {L : List Nd} (hL : Bd.Okay bits L) : ∀ k n l, n < k → n < L.length + 2 → n ≠ 0 → (way L k n l)[0]? = some (lowW L k n l) := by
  intro k
  induction k with
  | zero => intro n l h; omega
  | succ k ih =>
    intro n l hk hn h0
    rw [way_succ, lowW_succ]
    by_cases h2 : n < 2
    · rw [if_pos h2, if_pos h2, if_pos (by omega)]; rfl
    · rw [if_neg h2, if_neg h2]
      obtain ⟨hx, hb, a, b⟩ := node_half hL (by omega : 2 ≤ n) hn
      obtain ⟨f1, f2, f3, f4, f5, f6⟩ := hL.fit _ _ hx
      by_cases hl : (nodeOf L n).2.1 = 0
      · rw [if_pos hl]
        have hlen : (way L k (nodeOf L n).2.1 (l.set (nodeOf L n).1 48)).length = 0 := by
          rw [way_length, hl]
          cases k with
          | zero => rfl
          | succ k => rfl
        rw [List.getElem?_append_right (by omega), hlen]
        exact ih _ _ (by omega) (by omega) (fun e => f3 (by rw [hl, e]))
      · rw [if_neg hl]
        have := ih (nodeOf L n).2.1 (l.set (nodeOf L n).1 48) (by omega) (by omega) hl
        rw [List.getElem?_append_left (Bd.getElem?_lt this)]
        exact this

/-- All but the letters' block are as they were. -/
structure OnlyLet (lb : Nat) (w w' : World) : Prop where
  os : w'.os = w.os
  tape : w'.tape = w.tape
  output : w'.output = w.output
  size : w.heap.size ≤ w'.heap.size
  block : ∀ k, k < w.heap.size → k ≠ lb → w'.heap[k]? = w.heap[k]?

theorem OnlyLet.drew {lb : Nat} {w w' : World} (h : OnlyLet lb w w') : OnlyLet lb w w'.drew := ⟨h.os, h.tape, h.output, h.size, h.block⟩
theorem OnlyLet.set {lb : Nat} {w w' : World} (h : OnlyLet lb w w') (o : Nat) (u : Value) : OnlyLet lb w (w'.setCell ⟨lb, o, none⟩ u) := ⟨h.os, h.tape, h.output, by have := h.size; simpa using this, fun k hk hne => (set_other u hne).trans (h.block k hk hne)⟩

set_option maxRecDepth 4000 in
set_option maxHeartbeats 4000000 in
theorem lowest_any {w : World} {y : Lay} {s : St} (lb N cap n : Nat) (l : List UInt8) (hlb : ¬ y.own lb) (h0 : n ≠ 0) (hn : n < s.L.length + 2) (hT : Tab w y s) (hLt : LetAt w lb N l) (hl : l.length = s.bits) :
    Calls Try.prog 61 #[.pointer (some ⟨y.tb, 3, none⟩), .int .i64 n, .slice (some ⟨lb, 0, none⟩) s.bits cap] w fun e w' => e = .returned (.string ⟨(lowW s.L (n + 1) n l).toArray⟩) ∧ OnlyLet lb w w' := by
  obtain ⟨R, hR⟩ : ∃ R, R = lowW s.L (n + 1) n l := ⟨_, rfl⟩
  rw [← hR]
  have HT := keep hT
  have HS : Hid (∃ l', LetAt w lb N l' ∧ l'.length = s.bits ∧ lowW s.L (n + 1) n l' = R ∧ OnlyLet lb w w) := ⟨l, hLt, hl, hR.symm, rfl, rfl, rfl, Nat.le_refl _, fun _ _ _ => rfl⟩
  have HLB := keep hlb
  have hbits := hT.okay.few
  have hlenI : (s.L.length : Int) ≤ 1073741824 := by have := hT.small.1; omega
  obtain ⟨bt, hbt⟩ : ∃ bt, bt = s.bits := ⟨_, rfl⟩
  have HBT := keep hbt
  rw [← hbt] at HS ⊢
  clear hT hLt hl hR hbt hlb
  go_enter Try.func61, Try.ntmps61
  go_wp2_with fail
  go_loopw [1] (fun i wr => ∃ m : Nat, m ≠ 0 ∧ m < s.L.length + 2 ∧ i = .int .i64 m ∧ Hid (∃ l', LetAt wr lb N l' ∧ l'.length = bt ∧ lowW s.L (m + 1) m l' = R ∧ OnlyLet lb w wr)) (fun i _ => (intOf i).toNat)
  case atStart => exact ⟨n, h0, hn, rfl, HS.out⟩
  case round =>
    clear HS h0 hn
    obtain ⟨m, h0, hn, rfl, H⟩ := hrel
    obtain ⟨l, hLt, hl, hR, hO⟩ := H.out
    by_cases h2 : m < 2
    · have hm1 : m = 1 := by omega
      subst hm1
      have hRl : R = l := by rw [← hR]; rfl
      subst hRl
      have hcv := hLt.text cap
      rw [hl] at hcv
      have HO := keep hO
      clear H hLt hR hO
      go_wp2
      go_ret
      exact ⟨rfl, HO.out⟩
    · have hTr : Tab wr y s := HT.out.same fun j hj => hO.block j (HT.out.lt hj) (fun e => HLB.out (e ▸ hj))
      obtain ⟨hx, hb, ha, hbb⟩ := node_half hTr.okay (by omega : 2 ≤ m) hn
      obtain ⟨f1, f2, f3, f4, f5, f6⟩ := hTr.okay.fit _ _ hx
      rw [lowW_succ, if_neg h2] at hR
      have flo := lowW_fuel hTr.okay.falls (nodeOf s.L m).2.1 m (l.set (nodeOf s.L m).1 48) (by omega) (by omega)
      have fhi := lowW_fuel hTr.okay.falls (nodeOf s.L m).2.2 m (l.set (nodeOf s.L m).1 49) (by omega) (by omega)
      rw [flo, fhi] at hR
      generalize nodeOf s.L m = x at *
      obtain ⟨i, rfl⟩ : ∃ i, m = i + 2 := ⟨m - 2, by omega⟩
      have hxi : s.L[i]? = some x := hx
      have c3 := hTr.cell3
      obtain ⟨ao, cp, hls⟩ := hTr.list_slice
      have hlrow := hTr.list
      rw [hls] at c3 hlrow
      obtain ⟨g, cp', e, hcells⟩ := nodesIn_of hlrow (by have := Bd.getElem?_lt hxi; omega)
      have ea : ao = some ⟨g, 0, none⟩ := by cases e; rfl
      subst ea
      obtain ⟨d0, d1, d2⟩ := hcells i x hxi
      have hbl : x.1 < l.length := by rw [hl, HBT.out]; exact f4
      have hlbl := hLt.lt
      have q0 := hLt.cell hbl
      have z0 := hLt.thaw hbl
      have q0a : ∀ o, (wr.alloc o).cell? ⟨lb, x.1, none⟩ = some (.int .u8 ((l.getD x.1 0).toNat : Int)) := fun o => by rw [World.cell?_of_block (heap_alloc_old wr o hlbl)]; exact q0
      have z0a : ∀ o, (wr.alloc o).frozen? ⟨lb, x.1, none⟩ = false := fun o => by rw [World.frozen?_of_block (heap_alloc_old wr o hlbl)]; exact z0
      have hbl1 : x.1 < (l.set x.1 48).length := by rw [List.length_set]; exact hbl
      have L1 : ∀ o, LetAt ((wr.alloc o).setCell ⟨lb, x.1, none⟩ (.int .u8 48)) lb N (l.set x.1 48) := fun o => (hLt.same (heap_alloc_old wr o hlbl)).set hbl 48
      have L2 : ∀ o, LetAt ((((wr.alloc o).setCell ⟨lb, x.1, none⟩ (.int .u8 48)).drew).setCell ⟨lb, x.1, none⟩ (.int .u8 49)) lb N (l.set x.1 49) := fun o => by
        have := ((L1 o).same (w' := ((wr.alloc o).setCell ⟨lb, x.1, none⟩ (.int .u8 48)).drew) rfl).set hbl1 49
        rw [List.set_set] at this
        exact this
      have O0 : ∀ o, OnlyLet lb w (wr.alloc o) := fun o => ⟨hO.os, hO.tape, hO.output, by have := hO.size; simp; omega, fun k hk hne => (heap_alloc_old wr o (by have := hO.size; omega)).trans (hO.block k hk hne)⟩
      have HL1 : Hid (∀ o, LetAt ((wr.alloc o).setCell ⟨lb, x.1, none⟩ (.int .u8 48)) lb N (l.set x.1 48) ∧ OnlyLet lb w ((wr.alloc o).setCell ⟨lb, x.1, none⟩ (.int .u8 48))) := fun o => ⟨L1 o, (O0 o).set _ _⟩
      have HL2 : Hid (∀ o, LetAt ((((wr.alloc o).setCell ⟨lb, x.1, none⟩ (.int .u8 48)).drew).setCell ⟨lb, x.1, none⟩ (.int .u8 49)) lb N (l.set x.1 49) ∧ OnlyLet lb w ((((wr.alloc o).setCell ⟨lb, x.1, none⟩ (.int .u8 48)).drew).setCell ⟨lb, x.1, none⟩ (.int .u8 49))) := fun o => ⟨L2 o, ((O0 o).set _ _).drew.set _ _⟩
      have hl48 : (l.set x.1 48).length = bt := by rw [List.length_set]; exact hl
      have hl49 : (l.set x.1 49).length = bt := by rw [List.length_set]; exact hl
      have e1 : ((i + 2 : Nat) : Int) = (i : Int) + 2 := by omega
      have hiI : (i : Int) < (s.L.length : Int) := by have := Bd.getElem?_lt hxi; omega
      have hi0 : (0 : Int) ≤ (i : Int) := by omega
      have h2I : ((2 : Int) ≤ (i : Int) + 2) = True := eq_true (by omega)
      have hbI : (x.1 : Int) < (bt : Int) := by rw [hl] at hbl; omega
      have hlne : lb ≠ wr.heap.size := by omega
      rw [e1]
      obtain ⟨len, hlen0⟩ : ∃ len, len = s.L.length := ⟨_, rfl⟩
      rw [← hlen0] at c3 hiI hlenI
      have HX := keep (And.intro (And.intro f1 f2) (And.intro f3 hn))
      have HR := keep hR
      have HL48 := keep hl48
      have HL49 := keep hl49
      have HLEN := keep hlen0
      clear hlen0
      obtain ⟨x0, x1, x2⟩ := x
      simp only at d0 d1 d2 hbI q0 z0 q0a z0a HL1 HL2 HR HX HL48 HL49
      clear H hLt hl hR hO hTr hx hb ha hbb f1 f2 f3 f4 f5 f6 flo fhi hxi hls e hcells hlrow hbl hlbl L1 hbl1 L2 O0 hl48 hl49 h2 h0 hn
      by_cases hz : x1 = 0
      · subst hz
        go_wp2
        go_region
        go_wp2
        go_region
        go_wp2
        go_roundw
        case rel =>
          have h3 := HX.out
          have h4 := HR.out
          rw [if_pos trivial] at h4
          refine ⟨x2, fun e => h3.2.1 e.symm, by have := h3.1.2; have := h3.2.2; omega, rfl, l.set x0 49, ?_, HL49.out, h4, ?_⟩
          · exact (HL2.out _).1.same rfl
          · exact (HL2.out _).2.drew
        case measure => have h3 := HX.out; simp [intOf]; omega
      · have hzI : ((x1 : Int) == 0) = false := by rw [beq_eq_false_iff_ne]; omega
        go_wp2
        go_region
        go_wp2
        go_roundw
        case rel =>
          have h3 := HX.out
          have h4 := HR.out
          rw [if_neg hz] at h4
          refine ⟨x1, hz, by have := h3.1.1; have := h3.2.2; omega, rfl, l.set x0 48, ?_, HL48.out, h4, ?_⟩
          · exact (HL1.out _).1.same rfl
          · exact (HL1.out _).2.drew
        case measure => have h3 := HX.out; simp [intOf]; omega
end Go.Proofs.Ytffngpdngjfcfaa
namespace Go.Proofs.Ytffngpdngjfcfaa
open Go.RowKit Go.Maps

/-- Block b is a map of sz entries: at a key that may be one, f says what it holds. -/
def MapU (P : Program) (k e : TypeId) (w : World) (b sz : Nat) (f : Value → Option Int) : Prop :=
  ∃ D : DataW Unit, w.ownsMap P k (plainElem P e) b sz D ∧ Maps.size D = sz ∧
    ∀ key kl, keyOf P k key = some kl → Maps.has D kl = (f key).isSome ∧ ∀ c, f key = some c → D.atKey kl (.lit (.int .u64 0)) = .lit (.int .u64 c)

theorem MapU.lt {P : Program} {k e : TypeId} {w : World} {b sz : Nat} {f : Value → Option Int} (h : MapU P k e w b sz f) : b < w.heap.size := by
  obtain ⟨D, h, _⟩ := h
  exact h.lt

/-- A block that is as it was. -/
theorem MapU.same {P : Program} {k e : TypeId} {w w' : World} {b sz : Nat} {f : Value → Option Int} (h : MapU P k e w b sz f) (hb : w'.heap[b]? = w.heap[b]?) : MapU P k e w' b sz f := by
  obtain ⟨D, ⟨es, clock, h1, F, hs, hD⟩, h2, h3⟩ := h
  exact ⟨D, ⟨es, clock, hb.trans h1, F, hs, hD⟩, h2, h3⟩

theorem MapU.new (P : Program) (k e : TypeId) (w : World) : MapU P k e (w.alloc (.map #[] 0)) w.heap.size 0 (fun _ => none) :=
  ⟨.map [], World.ownsMap_made w P k _, rfl, fun key kl _ => ⟨by simp [Maps.has], fun c h => by cases h⟩⟩

theorem MapU.look {P : Program} {k e t : TypeId} {w : World} {b sz : Nat} {f : Value → Option Int} (h : MapU P k e w b sz f) (K : Keyed P k) (ht : P.underlying t = some (.map k e)) (he : P.underlying e = some (.int .u64))
    (hz : (zeroValue e).run P w = .ok (.int .u64 0) w) {key : Value} {kl : Lit} (hk : keyOf P k key = some kl) :
    (Instr.lookup t (.map (some b)) key true).run P w = .ok (.tuple #[.int .u64 ((f key).getD 0), .bool (f key).isSome]) w := by
  obtain ⟨D, h1, h2, h3⟩ := h
  obtain ⟨v, ps, hrun, hv⟩ := h1.look_ok K ht hz (zd := .lit (.int .u64 0)) (zp := []) (plainElem_int he (by decide)) hk
  obtain ⟨c, rfl, hc, hwc⟩ := plainElem_int_inv he hv
  obtain ⟨h4, h5⟩ := h3 key kl hk
  rw [hrun, h4]
  cases hf : f key with
  | none =>
    have : D.atKey kl (.lit (.int .u64 0)) = .lit (.int .u64 0) := Maps.atKey_of_not_has (by rw [h4, hf]; rfl) _
    have hc' := congrArg Prod.fst hc
    simp only [this] at hc'
    cases hc'
    rfl
  | some c' =>
    have := h5 c' hf
    have hc' := congrArg Prod.fst hc
    simp only [this] at hc'
    cases hc'
    rfl

/-- Behind a store. -/
theorem mapU_put {P : Program} {k e : TypeId} {w w' : World} {b sz : Nat} {f : Value → Option Int} (K : Keyed P k) {D : DataW Unit} (h1 : w.ownsMap P k (plainElem P e) b sz D) (h2 : Maps.size D = sz)
    (h3 : ∀ key kl, keyOf P k key = some kl → Maps.has D kl = (f key).isSome ∧ ∀ c, f key = some c → D.atKey kl (.lit (.int .u64 0)) = .lit (.int .u64 c)) {key : Value} {kl : Lit} (hk : keyOf P k key = some kl) {c : Int}
    (h4 : w'.ownsMap P k (plainElem P e) b (sz + 1) (D.put kl (.lit (.int .u64 c)))) : ∀ f', Upd f key (some c) f' → MapU P k e w' b (if (f key).isSome then sz else sz + 1) f' := by
  intro f' hf'
  have hs : Maps.size (D.put kl (.lit (.int .u64 c))) = if (f key).isSome then sz else sz + 1 := by
    rw [Maps.size_put (h1.tidy K), (h3 key kl hk).1, h2]
  refine ⟨D.put kl (.lit (.int .u64 c)), ?_, hs, ?_⟩
  · have := owns_tight h4
    rw [hs] at this
    exact this
  · intro key' kl' hk'
    by_cases e1 : key' = key
    · subst e1
      have : kl' = kl := by rw [hk] at hk'; cases hk'; rfl
      subst this
      rw [hf'.1]
      refine ⟨by rw [Maps.has_put_same h1.isMap (K.key hk)]; rfl, ?_⟩
      intro c' hc'
      cases hc'
      exact Maps.atKey_put_same h1.isMap (K.key hk) _ _
    · have hne : kl' ≠ kl := fun e2 => e1 (K.inj hk' (by rw [e2]; exact hk))
      rw [hf'.2 _ e1, Maps.has_put_other hne, Maps.atKey_put_other hne]
      exact h3 key' kl' hk'

/-- A store into a map, as one equation. -/
theorem MapU.put_run {P : Program} {k e t : TypeId} {w : World} {b sz : Nat} {f : Value → Option Int} (h : MapU P k e w b sz f) (K : Keyed P k) (ht : P.underlying t = some (.map k e)) (he : P.underlying e = some (.int .u64)) (hn : sz < maxLen)
    {key : Value} {kl : Lit} (hk : keyOf P k key = some kl) {c : Int} (hc : (Lit.int .u64 c).wf = true) :
    ∃ w', (Instr.mapUpdate t (.map (some b)) key (.int .u64 c)).run P w = .ok () w' ∧ (∀ f', Upd f key (some c) f' → MapU P k e w' b (if (f key).isSome then sz else sz + 1) f') ∧ w.grownBy w' (some b) := by
  obtain ⟨D, h1, h2, h3⟩ := h
  obtain ⟨w', hrun, r1, r2⟩ := h1.update K ht hn hk (val := .int .u64 c) (d := .lit (.int .u64 c)) (ps := []) (plainElem_int he hc)
  exact ⟨w', hrun, mapU_put K h1 h2 h3 hk r1, r2⟩

end Go.Proofs.Ytffngpdngjfcfaa
namespace Go.Proofs.Ytffngpdngjfcfaa
open Go.RowKit Go.Maps
open Bd (Nd)

theorem zero_u64 (w : World) : (zeroValue 97).run Try.prog w = .ok (.int .u64 0) w := by kernel_rfl

/-- What ways knows: of some nodes a number that is not too great. -/
structure Knows (wf : Nat → Nat) (w : World) (pb top : Nat) (acc : List Nat) : Prop where
  nodup : acc.Nodup
  lt : ∀ m, m ∈ acc → m < top
  map : ∃ f, MapU Try.prog 3 97 w pb acc.length f ∧ (∀ m : Nat, m ∉ acc → f (i6 m) = none) ∧ (∀ m : Nat, m ∈ acc → f (i6 m) = some (wf m : Int))
theorem Knows.few {wf : Nat → Nat} {w : World} {pb top : Nat} {acc : List Nat} (h : Knows wf w pb top acc) : acc.length ≤ top := by
  refine Bd.pigeon top acc.length (fun j => acc.getD j 0) ?_ ?_
  · intro j hj
    show acc.getD j 0 < _
    rw [List.getD_eq_getElem?_getD, List.getElem?_eq_getElem hj]
    exact h.lt _ (List.getElem_mem hj)
  · intro p q hp hq hpq
    have hpq' : acc.getD p 0 = acc.getD q 0 := hpq
    rw [List.getD_eq_getElem?_getD, List.getElem?_eq_getElem hp, List.getD_eq_getElem?_getD, List.getElem?_eq_getElem hq] at hpq'
    exact (List.getElem_inj (h₀ := hp) (h₁ := hq) h.nodup).1 hpq'
theorem Knows.ptr {wf : Nat → Nat} {w : World} {pb top : Nat} {acc : List Nat} (h : Knows wf w pb top acc) : pb < w.heap.size := by
  obtain ⟨f, hf, _⟩ := h.map
  exact hf.lt
theorem Knows.same {wf : Nat → Nat} {w w' : World} {pb top : Nat} {acc : List Nat} (h : Knows wf w pb top acc) (hb : w'.heap[pb]? = w.heap[pb]?) : Knows wf w' pb top acc := by
  obtain ⟨f, hf, h1, h2⟩ := h.map
  exact ⟨h.nodup, h.lt, f, hf.same hb, h1, h2⟩
theorem Knows.look {wf : Nat → Nat} {w : World} {pb top : Nat} {acc : List Nat} (h : Knows wf w pb top acc) {n : Nat} (hn : n < 9223372036854775808) :
    (n ∉ acc ∧ (Instr.lookup 99 (.map (some pb)) (.int .i64 n) true).run Try.prog w = .ok (.tuple #[.int .u64 0, .bool false]) w) ∨ (Instr.lookup 99 (.map (some pb)) (.int .i64 n) true).run Try.prog w = .ok (.tuple #[.int .u64 (wf n), .bool true]) w := by
  obtain ⟨f, hf, h1, h2⟩ := h.map
  obtain ⟨kl, hkl⟩ := key_int (a := n) hn
  have hl := MapU.look hf kInt Try.underlying99 Try.underlying97 (zero_u64 _) hkl
  by_cases hin : n ∈ acc
  · rw [h2 n hin] at hl
    exact Or.inr hl
  · rw [h1 n hin] at hl
    exact Or.inl ⟨hin, hl⟩
theorem Knows.put {wf : Nat → Nat} {w : World} {pb top : Nat} {acc : List Nat} (h : Knows wf w pb top acc) {n : Nat} (hn : n < top) (ht : top ≤ 1073741826) (hc : wf n ≤ 4611686018427387904) :
    ∃ w', (Instr.mapUpdate 99 (.map (some pb)) (.int .i64 n) (.int .u64 (wf n))).run Try.prog w = .ok () w' ∧ (∃ acc', Knows wf w' pb top acc') ∧ Only pb w w' := by
  have hfew := h.few
  obtain ⟨f, hf, h1, h2⟩ := h.map
  obtain ⟨kl, hkl⟩ := key_int (a := n) (by omega)
  obtain ⟨w', hrun, hput, hg⟩ := MapU.put_run hf kInt Try.underlying99 Try.underlying97 (by unfold maxLen; omega) hkl (c := (wf n : Int)) (WalkArith.wf_u64 (by omega))
  obtain ⟨f', hf'⟩ := upd_exists f (i6 n) (some (wf n : Int))
  have hm := hput f' hf'
  refine ⟨w', hrun, ?_, ⟨hg.os, hg.tape, hg.output, hg.size, fun j hj hne => hg.block j hj (fun e => hne (by cases e; rfl))⟩⟩
  have ne : ∀ m : Nat, m ≠ n → f' (i6 m) = f (i6 m) := fun m hmn => hf'.2 _ (fun e => hmn (i6_inj e))
  by_cases hin : n ∈ acc
  · have e' : f (.int .i64 n) = some (wf n : Int) := h2 n hin
    rw [e'] at hm
    refine ⟨acc, h.nodup, h.lt, f', hm, fun m hmm => by rw [ne m (fun e => hmm (by rw [e]; exact hin))]; exact h1 m hmm, fun m hmm => ?_⟩
    by_cases e2 : m = n
    · subst e2; exact hf'.1
    · rw [ne m e2]; exact h2 m hmm
  · have e' : f (.int .i64 n) = none := h1 n hin
    rw [e'] at hm
    refine ⟨acc ++ [n], ?_, ?_, f', by rw [List.length_append]; exact hm, fun m hmm => ?_, fun m hmm => ?_⟩
    · rw [List.nodup_append]
      exact ⟨h.nodup, by simp, fun a ha b hb e => by simp at hb; subst hb; subst e; exact hin ha⟩
    · intro m hmm
      rcases List.mem_append.1 hmm with h3 | h3
      · exact h.lt m h3
      · simp at h3; omega
    · rw [ne m (fun e => hmm (by rw [e]; simp))]; exact h1 m (fun h3 => hmm (List.mem_append_left _ h3))
    · by_cases e2 : m = n
      · subst e2; exact hf'.1
      · rw [ne m e2]
        rcases List.mem_append.1 hmm with h3 | h3
        · exact h2 m h3
        · simp at h3; exact absurd h3 e2

theorem Tab.only {w w' : World} {y : Lay} {s : St} {pb : Nat} (h : Tab w y s) (hm : Only pb w w') (hp : ¬ y.own pb) : Tab w' y s := h.same fun k hk => hm.block k (h.lt hk) (fun e => hp (e ▸ hk))

set_option maxHeartbeats 4000000 in
theorem ways_any {y : Lay} {s : St} (wf : Nat → Nat) (pb en : Nat) (he : en ≤ 4611686018427387904) (hp : ¬ y.own pb) (w0 : wf 0 = 0) (w1 : wf 1 = 1) (hwe : ∀ m, wf m ≤ en) (hwf : ∀ i x, s.L[i]? = some x → wf (i + 2) = if wf x.2.1 < en - wf x.2.2 then wf x.2.1 + wf x.2.2 else en) : ∀ (k n : Nat) (acc : List Nat) (w : World), n < k → n < s.L.length + 2 → Tab w y s → Knows wf w pb (s.L.length + 2) acc →
    Calls Try.prog 54 #[.pointer (some ⟨y.tb, 3, none⟩), .int .i64 n, .int .u64 en, .map (some pb)] w fun e w' => e = .returned (.int .u64 (wf n)) ∧ (∃ acc', Knows wf w' pb (s.L.length + 2) acc') ∧ Only pb w w' := by
  intro k
  induction k with
  | zero => intro n acc w h; omega
  | succ k ih =>
    intro n acc w hnk hn hT hK
    have hsm := hT.small.1
    by_cases h2 : n < 2
    · have HR : Hid ((∃ acc', Knows wf w pb (s.L.length + 2) acc') ∧ Only pb w w) := ⟨⟨acc, hK⟩, Only.refl _ _⟩
      have h2I : (n : Int) < 2 := by omega
      clear hT hK ih
      have hwn : wf n = n := by
        rcases Nat.lt_or_ge n 1 with h | h
        · rw [show n = 0 by omega]; exact w0
        · rw [show n = 1 by omega]; exact w1
      rw [hwn]
      clear hwf hwe hwn
      go_enter Try.func54, Try.ntmps54
      go_wp2_with fail
      go_ret
      exact ⟨rfl, HR.out⟩
    · rcases hK.look (n := n) (by omega) with ⟨hin, hlook⟩ | hlook
      · obtain ⟨i, rfl⟩ : ∃ i, n = i + 2 := ⟨n - 2, by omega⟩
        obtain ⟨x, hx⟩ : ∃ x, s.L[i]? = some x := ⟨s.L[i]'(by omega), List.getElem?_eq_getElem _⟩
        have hfit := hT.okay.fit i x hx
        have c3 := hT.cell3
        obtain ⟨ao, cap, hls⟩ := hT.list_slice
        have hrow := hT.list
        rw [hls] at c3 hrow
        have hNI := nodesIn_of hrow (by have := Bd.getElem?_lt hx; omega)
        obtain ⟨g, cap', e, hcells⟩ := hNI
        have ea : ao = some ⟨g, 0, none⟩ := by cases e; rfl
        subst ea
        obtain ⟨d0, d1, d2⟩ := hcells i x hx
        have hWb : Below w.heap.size w (w.alloc (.cells #[.int .i64 x.1, .int .i64 x.2.1, .int .i64 x.2.2] 82)).drew := ((Below.refl _ _).alloc (Nat.le_refl _) _).drew
        have hbx := heap_alloc_new w (.cells #[.int .i64 x.1, .int .i64 x.2.1, .int .i64 x.2.2] 82)
        have hpl := hK.ptr
        have HV : Hid (Calls Try.prog 54 #[.pointer (some ⟨y.tb, 3, none⟩), .int .i64 x.2.1, .int .u64 en, .map (some pb)] (w.alloc (.cells #[.int .i64 x.1, .int .i64 x.2.1, .int .i64 x.2.2] 82)).drew fun e w1 => e = .returned (.int .u64 (wf x.2.1)) ∧ (w1.cell? ⟨w.heap.size, 1, none⟩ = some (.int .i64 x.2.1) ∧ w1.cell? ⟨w.heap.size, 2, none⟩ = some (.int .i64 x.2.2)) ∧
            Hid (Calls Try.prog 54 #[.pointer (some ⟨y.tb, 3, none⟩), .int .i64 x.2.2, .int .u64 en, .map (some pb)] w1 fun e w2 => e = .returned (.int .u64 (wf x.2.2)) ∧ (w2.cell? ⟨w.heap.size, 1, none⟩ = some (.int .i64 x.2.1) ∧ w2.cell? ⟨w.heap.size, 2, none⟩ = some (.int .i64 x.2.2)) ∧
              Hid (∃ w4, (Instr.mapUpdate 99 (.map (some pb)) (.int .i64 ((i : Int) + 2)) (.int .u64 (wf (i + 2)))).run Try.prog w2 = .ok () w4 ∧ Hid ((∃ acc', Knows wf w4 pb (s.L.length + 2) acc') ∧ Only pb w w4)))) := by
          refine (ih x.2.1 acc _ (by omega) (by omega) (hT.below hWb) (hK.same (hWb.block _ hpl))).mono ?_
          rintro e w1 ⟨rfl, ⟨acc1, hK1⟩, m1⟩
          have b1 : w1.heap[w.heap.size]? = _ := (m1.block w.heap.size (by simp) (by omega)).trans hbx
          refine ⟨rfl, ⟨by rw [cell_at b1]; rfl, by rw [cell_at b1]; rfl⟩, ?_⟩
          refine (ih x.2.2 acc1 w1 (by omega) (by omega) ((hT.below hWb).only m1 hp) hK1).mono ?_
          rintro e w2 ⟨rfl, ⟨acc2, hK2⟩, m2⟩
          have b2 : w2.heap[w.heap.size]? = _ := (m2.block w.heap.size (block_lt b1) (by omega)).trans b1
          refine ⟨rfl, ⟨by rw [cell_at b2]; rfl, by rw [cell_at b2]; rfl⟩, ?_⟩
          obtain ⟨w4, hrun, hacc, m4⟩ := hK2.put (n := i + 2) hn (by omega) (Nat.le_trans (hwe _) he)
          have e1 : ((i + 2 : Nat) : Int) = (i : Int) + 2 := by omega
          rw [e1] at hrun
          exact ⟨w4, hrun, hacc, ((Only.of_below hWb).trans m1).trans (m2.trans m4)⟩
        have HWF := keep (hwf i x hx)
        have HC1 := keep (hwe x.2.1)
        have HC2 := keep (hwe x.2.2)
        have e1 : ((i + 2 : Nat) : Int) = (i : Int) + 2 := by omega
        have hiI : (i : Int) < (s.L.length : Int) := by have := Bd.getElem?_lt hx; omega
        have hi0 : (0 : Int) ≤ (i : Int) := by omega
        have hlenI : (s.L.length : Int) ≤ 1073741824 := by omega
        have h2I : ((i : Int) + 2 < 2) = False := eq_false (by omega)
        rw [e1] at hlook ⊢
        obtain ⟨len, hlen0⟩ : ∃ len, len = s.L.length := ⟨_, rfl⟩
        rw [← hlen0] at c3 hiI hlenI
        obtain ⟨x0, x1, x2⟩ := x
        simp only at d0 d1 d2 HV HWF HC1 HC2
        generalize wf x1 = c1 at HV HWF HC1
        generalize wf x2 = c2 at HV HWF HC2
        generalize wf (i + 2) = cn at HV HWF ⊢
        have heI : (en : Int) ≤ 4611686018427387904 := by omega
        clear hwf hwe w0 w1 ih hT hK hin hfit hrow hls e hcells hWb hbx hx hlen0 hnk hn h2 hpl
        go_enter Try.func54, Try.ntmps54
        go_wp2_with fail
        go_region_held3 (fun w' => w'.cell? ⟨w.heap.size, 1, none⟩ = some (.int .i64 x1) ∧ w'.cell? ⟨w.heap.size, 2, none⟩ = some (.int .i64 x2)) (first | (go_keep; done) | exact S2 | exact S1) (first | (go_at_call 54; refine HV2.out.mono ?_; rintro e w2 ⟨rfl, S2, HP⟩) | (go_at_call 54; refine HV.out.mono ?_; rintro e w1 ⟨rfl, S1, HV2⟩))
        clear HV HV2
        have a1 : (c1 : Int) ≤ (en : Int) := by have := HC1.out; omega
        have a2 : (c2 : Int) ≤ (en : Int) := by have := HC2.out; omega
        obtain ⟨w4, hrun, HD⟩ := HP.out
        have hw := HWF.out
        clear HWF HC1 HC2 HP
        by_cases hlt : c1 < en - c2
        · rw [if_pos hlt] at hw
          have e2 : (cn : Int) = (c1 : Int) + (c2 : Int) := by omega
          have hltI : ((c1 : Int) < (en : Int) - (c2 : Int)) = True := eq_true (by omega)
          rw [e2] at hrun
          clear hw
          go_wp2
          go_ret
          exact ⟨by rw [e2]; rfl, HD.out⟩
        · rw [if_neg hlt] at hw
          subst hw
          have hltI : ((c1 : Int) < (cn : Int) - (c2 : Int)) = False := eq_false (by omega)
          go_wp2
          go_ret
          exact ⟨rfl, HD.out⟩
      · have HR : Hid ((∃ acc', Knows wf w pb (s.L.length + 2) acc') ∧ Only pb w w) := ⟨⟨acc, hK⟩, Only.refl _ _⟩
        have h2I : ((n : Int) < 2) = False := eq_false (by omega)
        clear hT hK ih hwf hwe w0 w1
        go_enter Try.func54, Try.ntmps54
        go_wp2_with fail
        go_ret
        exact ⟨rfl, HR.out⟩
end Go.Proofs.Ytffngpdngjfcfaa
namespace Go.Proofs.Ytffngpdngjfcfaa
open Go.RowKit Go.Maps
open Bd (Nd)

/-- The texts of a function. -/
def textsOf (bits : Nat) (L : List Nd) (n : Nat) : List (List UInt8) := way L (n + 1) n (List.replicate bits 120)
def few (L : List Nd) (m : Nat) : Nat := min (ways L (m + 1) m) 2001
theorem few_step {L : List Nd} (hL : Falls L) (i : Nat) (x : Nd) (hx : L[i]? = some x) : few L (i + 2) = if few L x.2.1 < 2001 - few L x.2.2 then few L x.2.1 + few L x.2.2 else 2001 := by
  have hi := Bd.getElem?_lt hx
  have e : nodeOf L (i + 2) = x := by
    show L.getD (i + 2 - 2) (0, 0, 0) = x
    rw [show i + 2 - 2 = i by omega, List.getD_eq_getElem?_getD, hx]; rfl
  obtain ⟨a, b⟩ := node_falls hL (n := i + 2) (by omega) (by omega)
  rw [e] at a b
  have h : ways L (i + 2 + 1) (i + 2) = ways L (x.2.1 + 1) x.2.1 + ways L (x.2.2 + 1) x.2.2 := by
    rw [ways_succ, if_neg (by omega), e, ways_fuel hL x.2.1 (i + 2) (by omega) (by omega), ways_fuel hL x.2.2 (i + 2) (by omega) (by omega)]
  unfold few
  rw [h]
  split <;> omega

theorem lets_free (n k : Nat) : FreeFrom (List.replicate n 120) k := by
  intro j _ hj
  rw [List.length_replicate] at hj
  rw [List.getD_eq_getElem?_getD, List.getElem?_replicate, if_pos hj]; rfl

set_option maxRecDepth 4000 in
set_option maxHeartbeats 4000000 in
theorem Cubes_ok {w : World} {y : Lay} {s : St} (hT : Tab w y s) (h2 : 2 ≤ s.first) (r n : Nat) (hn : s.node? r = some n) (hnl : n < s.L.length + 2) :
    Calls Try.prog 24 #[.pointer (some ⟨y.tb, 0, none⟩), .int .i64 r, .int .i64 2000] w fun e w' => (e = .returned (.tuple #[.slice none 0 0, .int .i64 3]) ∧ Below w.heap.size w w') ∨
      (∃ v, e = .returned (.tuple #[v, .int .i64 0]) ∧ w'.ownsRow 0 9 1 v (textsOf s.bits s.L n).length (strs (textsOf s.bits s.L n)) ∧ (∀ g, v.ownBlock = some g → w.heap.size ≤ g) ∧ Below w.heap.size w w') := by
  have HT := keep hT
  have Q1 := keep (root_ok hT h2 r n hn)
  have hmm := @run_makeMap Try.prog
  have HW : Hid (∀ w1 : World, Below w.heap.size w w1 → Calls Try.prog 54 #[.pointer (some ⟨y.tb, 3, none⟩), .int .i64 n, .int .u64 2001, .map (some w1.heap.size)] (w1.alloc (.map #[] 0)) fun e w2 => e = .returned (.int .u64 (few s.L n)) ∧ Below w.heap.size w w2) := by
    intro w1 hb
    have hb2 : Below w1.heap.size w1 (w1.alloc (.map #[] 0)) := (Below.refl _ _).alloc (Nat.le_refl _) _
    have hT1 := (hT.below hb).below hb2
    have hK : Knows (few s.L) (w1.alloc (.map #[] 0)) w1.heap.size (s.L.length + 2) [] := ⟨by simp, by simp, fun _ => none, MapU.new Try.prog 3 97 w1, fun _ _ => rfl, by simp⟩
    refine (ways_any (few s.L) w1.heap.size 2001 (by omega) (fun ho => by have := (hT.below hb).lt ho; omega) rfl rfl (fun m => by unfold few; omega) (few_step hT.okay.falls) (n + 1) n [] _ (by omega) hnl hT1 hK).mono ?_
    rintro e w2 ⟨rfl, _, m⟩
    refine ⟨rfl, hb.trans ?_⟩
    exact ⟨m.os.trans hb2.os, m.tape.trans hb2.tape, m.output.trans hb2.output, Nat.le_trans hb2.size m.size, fun j hj => (m.block j (by have := hb.size; have := hb2.size; omega) (by have := hb.size; omega)).trans (hb2.block j (by have := hb.size; omega))⟩
  have HF : Hid (few s.L n ≤ 2000 → ∀ w2 : World, Below w.heap.size w w2 → Calls Try.prog 56 #[.pointer (some ⟨y.tb, 0, none⟩)] w2.drew fun e w3 => ∃ lb cap : Nat, e = .returned (.slice (some ⟨lb, 0, none⟩) s.bits cap) ∧ w3.cell? ⟨y.tb, 5, none⟩ = some (.int .i64 s.bits) ∧
      Hid (Calls Try.prog 55 #[.pointer (some ⟨y.tb, 3, none⟩), .int .i64 n, .slice (some ⟨lb, 0, none⟩) s.bits cap, .slice none 0 0] w3 fun e w4 => ∃ v, e = .returned v ∧ w4.cell? ⟨y.tb, 5, none⟩ = some (.int .i64 s.bits) ∧ Hid (w4.ownsRow 0 9 1 v (textsOf s.bits s.L n).length (strs (textsOf s.bits s.L n)) ∧ (∀ g, v.ownBlock = some g → w.heap.size ≤ g) ∧ Below w.heap.size w w4))) := by
    intro hfew w2 hb
    have hbd : Below w.heap.size w w2.drew := hb.drew
    refine (free_ok (hT.below hbd)).mono ?_
    rintro e w3 ⟨lb, cap, N, rfl, hL, hlb, hb3⟩
    have hb3' : Below w.heap.size w w3 := hbd.trans (hb3.mono hbd.size)
    have hT3 := hT.below hb3'
    refine ⟨lb, cap, rfl, by rw [cell_at hT3.cells]; rfl, ?_⟩
    have hlbs : w2.heap.size ≤ lb := hlb
    have hway : ways s.L (n + 1) n ≤ 2000 := by unfold few at hfew; omega
    refine (cubs_any lb N cap (fun ho => by have := (hT.below hb).lt ho; omega) (n + 1) n (List.replicate s.bits 120) [] (.slice none 0 0) w3 (by omega) hnl hT3 hL (by simp) (lets_free _ _) (World.ownsRow_nil _ _ _ _) (fun g hg => by cases hg) (by simp; omega)).mono ?_
    rintro e w4 ⟨v, rfl, C⟩
    have hb4 : Below w.heap.size w w4 := ⟨C.os.trans hb3'.os, C.tape.trans hb3'.tape, C.output.trans hb3'.output, Nat.le_trans hb3'.size C.size, fun j hj => (C.block j (by have := hb3'.size; omega) (by have := hb.size; omega) (by simp [Value.ownBlock])).trans (hb3'.block j hj)⟩
    have hT4 := hT.below hb4
    refine ⟨v, rfl, by rw [cell_at hT4.cells]; rfl, ?_, fun g hg => ?_, hb4⟩
    · have := C.row
      rw [List.nil_append] at this
      exact this
    · rcases C.own g hg with h | h
      · cases h
      · have := hb3'.size; omega
  obtain ⟨c, hc⟩ : ∃ c, c = few s.L n := ⟨_, rfl⟩
  rw [← hc] at HW HF
  have c5 : ∀ w2 : World, Below w.heap.size w w2 → w2.cell? ⟨y.tb, 5, none⟩ = some (.int .i64 s.bits) := fun w2 hb => by rw [cell_at (HT.out.below hb).cells]; rfl
  have HC5 := keep c5
  clear hT hn hnl hc c5
  go_enter Try.func24, Try.ntmps24
  go_wp2_with fail
  refine Q1.out.mono ?_
  rintro e w1 ⟨rfl, hb1⟩
  have HB1 := keep hb1
  clear hb1 Q1
  go_wp2_with fail
  refine (HW.out w1 HB1.out).mono ?_
  rintro e w2 ⟨rfl, hb2⟩
  have HB2 := keep hb2
  clear hb2 HW
  by_cases hlt : 2000 < c
  · have hltI : ((2000 : Int) < (c : Int)) = True := eq_true (by omega)
    clear HF
    go_wp2
    go_ret2
    exact Or.inl ⟨rfl, HB2.out⟩
  · have hltI : ((2000 : Int) < (c : Int)) = False := eq_false (by omega)
    have HF2 := keep (HF.out (by omega) w2 HB2.out)
    have k5 := HC5.out w2 HB2.out
    clear HF hlt HC5
    go_wp2_with fail
    go_region_held3 (fun w' => w'.cell? ⟨y.tb, 5, none⟩ = some (.int .i64 s.bits)) (first | (go_keep; done) | exact S2 | exact S1) (first | (go_at_call 55; refine HC2.out.mono ?_; rintro e w4 ⟨v, rfl, S2, HD⟩) | (go_at_call 56; refine HF2.out.mono ?_; rintro e w3 ⟨lb, cap, rfl, S1, HC2⟩))
    go_wp2
    go_ret2
    exact Or.inr ⟨v, rfl, HD.out⟩

set_option maxRecDepth 4000 in
set_option maxHeartbeats 4000000 in
theorem Any_ok {w : World} {y : Lay} {s : St} (hT : Tab w y s) (h2 : 2 ≤ s.first) (r n : Nat) (hn : s.node? r = some n) (hnl : n < s.L.length + 2) :
    Calls Try.prog 26 #[.pointer (some ⟨y.tb, 0, none⟩), .int .i64 r] w fun e w' => (n = 0 ∧ e = .returned (.tuple #[.string ByteArray.empty, .bool false, .int .i64 0]) ∧ Below w.heap.size w w') ∨
      (n ≠ 0 ∧ e = .returned (.tuple #[.string ⟨(lowW s.L (n + 1) n (List.replicate s.bits 120)).toArray⟩, .bool true, .int .i64 0]) ∧ Below w.heap.size w w') := by
  have HT := keep hT
  have Q1 := keep (root_ok hT h2 r n hn)
  obtain ⟨R, hR⟩ : ∃ R : ByteArray, R = ⟨(lowW s.L (n + 1) n (List.replicate s.bits 120)).toArray⟩ := ⟨_, rfl⟩
  rw [← hR]
  have HF : Hid (n ≠ 0 → ∀ w2 : World, Below w.heap.size w w2 → Calls Try.prog 56 #[.pointer (some ⟨y.tb, 0, none⟩)] w2.drew fun e w3 => ∃ lb cap : Nat, e = .returned (.slice (some ⟨lb, 0, none⟩) s.bits cap) ∧ w3.cell? ⟨y.tb, 5, none⟩ = some (.int .i64 s.bits) ∧
      Hid (Calls Try.prog 61 #[.pointer (some ⟨y.tb, 3, none⟩), .int .i64 n, .slice (some ⟨lb, 0, none⟩) s.bits cap] w3 fun e w4 => e = .returned (.string R) ∧ w4.cell? ⟨y.tb, 5, none⟩ = some (.int .i64 s.bits) ∧ Hid (Below w.heap.size w w4))) := by
    intro h0 w2 hb
    have hbd : Below w.heap.size w w2.drew := hb.drew
    refine (free_ok (hT.below hbd)).mono ?_
    rintro e w3 ⟨lb, cap, N, rfl, hL, hlb, hb3⟩
    have hb3' : Below w.heap.size w w3 := hbd.trans (hb3.mono hbd.size)
    have hT3 := hT.below hb3'
    refine ⟨lb, cap, rfl, by rw [cell_at hT3.cells]; rfl, ?_⟩
    have hlbs : w2.heap.size ≤ lb := hlb
    refine (lowest_any lb N cap n (List.replicate s.bits 120) (fun ho => by have := (hT.below hb).lt ho; omega) h0 hnl hT3 hL (by simp)).mono ?_
    rintro e w4 ⟨rfl, m⟩
    have hb4 : Below w.heap.size w w4 := ⟨m.os.trans hb3'.os, m.tape.trans hb3'.tape, m.output.trans hb3'.output, Nat.le_trans hb3'.size m.size, fun j hj => (m.block j (by have := hb3'.size; omega) (by have := hb.size; omega)).trans (hb3'.block j hj)⟩
    exact ⟨by rw [hR], by rw [cell_at (hT.below hb4).cells]; rfl, hb4⟩
  have HC5 : Hid (∀ w2 : World, Below w.heap.size w w2 → w2.cell? ⟨y.tb, 5, none⟩ = some (.int .i64 s.bits)) := fun w2 hb => by rw [cell_at (HT.out.below hb).cells]; rfl
  clear hT hn hnl hR
  go_enter Try.func26, Try.ntmps26
  go_wp2_with fail
  refine Q1.out.mono ?_
  rintro e w1 ⟨rfl, hb1⟩
  have HB1 := keep hb1
  clear hb1 Q1
  by_cases h0 : n = 0
  · have hnI : ((n : Int) == 0) = true := by rw [beq_iff_eq]; omega
    have H0 := keep h0
    clear HF h0
    go_wp2
    go_ret3
    exact Or.inl ⟨H0.out, rfl, HB1.out⟩
  · have hnI : ((n : Int) == 0) = false := by rw [beq_eq_false_iff_ne]; omega
    have HF2 := keep (HF.out h0 w1 HB1.out)
    have k5 := HC5.out w1 HB1.out
    have H0 := keep h0
    clear HF HC5 h0
    go_wp2_with fail
    go_region_held3 (fun w' => w'.cell? ⟨y.tb, 5, none⟩ = some (.int .i64 s.bits)) (first | (go_keep; done) | exact S2 | exact S1) (first | (go_at_call 61; refine HC2.out.mono ?_; rintro e w4 ⟨rfl, S2, HD⟩) | (go_at_call 56; refine HF2.out.mono ?_; rintro e w3 ⟨lb, cap, rfl, S1, HC2⟩))
    go_wp2
    go_ret3
    exact Or.inr ⟨H0.out, rfl, HD.out⟩
end Go.Proofs.Ytffngpdngjfcfaa
namespace Go.Proofs.Ytffngpdngjfcfaa
open Go.RowKit Go.Maps
open Bd (Nd)

set_option maxHeartbeats 4000000 in
theorem Cube_size {w : World} {y : Lay} {s : St} (hT : Tab w y s) (t : ByteArray) (ht : t.size ≠ s.bits) :
    Calls Try.prog 25 #[.pointer (some ⟨y.tb, 0, none⟩), .string t] w fun e w' => e = .returned (.tuple #[.int .i64 0, .int .i64 21]) ∧ Below w.heap.size w w' := by
  have ltb := hT.lt y.own_tb
  obtain ⟨x0, x1, xb, xs⟩ := box2 w (.cells #[.pointer (some ⟨y.tb, 0, none⟩)] 23) (.cells #[.string t] 9)
  have hTa := hT.below xb
  have c5 : ((w.alloc (.cells #[.pointer (some ⟨y.tb, 0, none⟩)] 23)).alloc (.cells #[.string t] 9)).cell? ⟨y.tb, 5, none⟩ = some (.int .i64 s.bits) := by rw [cell_at hTa.cells]; rfl
  have HTA := keep hTa
  have XB := keep xb
  have hne : ((t.size : Int) != (s.bits : Int)) = true := by rw [bne_iff_ne]; omega
  clear hT hTa x0 x1 xb xs ht
  go_enter Try.func25, Try.ntmps25
  go_wp2_with (first | (go_at_call 57; refine (made_ok HTA.out).mono ?_; rintro e w' ⟨rfl, rfl⟩))
  go_quiet (fail)
  go_wp2
  go_ret2
  exact ⟨rfl, belowN XB.out _⟩

set_option maxHeartbeats 4000000 in
theorem Cube_text {w : World} {y : Lay} {s : St} (hT : Tab w y s) (t : ByteArray) (ht : t.size = s.bits) (hr : Cu.right t.data.toList = false) :
    Calls Try.prog 25 #[.pointer (some ⟨y.tb, 0, none⟩), .string t] w fun e w' => e = .returned (.tuple #[.int .i64 0, .int .i64 21]) ∧ Below w.heap.size w w' := by
  have ltb := hT.lt y.own_tb
  obtain ⟨x0, x1, xb, xs⟩ := box2 w (.cells #[.pointer (some ⟨y.tb, 0, none⟩)] 23) (.cells #[.string t] 9)
  have hTa := hT.below xb
  have hck := check_any t ((w.alloc (.cells #[.pointer (some ⟨y.tb, 0, none⟩)] 23)).alloc (.cells #[.string t] 9)).drew
  have e0 : chkE t = 10 := if_neg (by rw [hr]; simp)
  rw [e0] at hck
  have HCK : Hid (Calls Try.prog 58 #[.string t] ((w.alloc (.cells #[.pointer (some ⟨y.tb, 0, none⟩)] 23)).alloc (.cells #[.string t] 9)).drew fun e w1 => e = .returned (.int .i64 10) ∧ w1.cell? ⟨w.heap.size, 0, none⟩ = some (.pointer (some ⟨y.tb, 0, none⟩)) ∧ w1.cell? ⟨w.heap.size + 1, 0, none⟩ = some (.string t) ∧ w1.cell? ⟨y.tb, 5, none⟩ = some (.int .i64 s.bits) ∧
      Hid (Below w.heap.size w w1)) := by
    refine hck.mono ?_
    rintro e w1 ⟨rfl, hb1⟩
    have hb1' : Below (w.heap.size + 2) ((w.alloc (.cells #[.pointer (some ⟨y.tb, 0, none⟩)] 23)).alloc (.cells #[.string t] 9)) w1 := by
      rw [← xs]; exact ⟨hb1.os, hb1.tape, hb1.output, hb1.size, hb1.block⟩
    have y0 : w1.heap[w.heap.size]? = _ := (hb1'.block _ (by omega)).trans x0
    have y1 : w1.heap[w.heap.size + 1]? = _ := (hb1'.block _ (by omega)).trans x1
    have hbw : Below w.heap.size w w1 := xb.trans (hb1'.mono (by omega))
    have hT1 := hT.below hbw
    exact ⟨rfl, by rw [cell_at y0]; rfl, by rw [cell_at y1]; rfl, by rw [cell_at hT1.cells]; rfl, hbw⟩
  have c5 : ((w.alloc (.cells #[.pointer (some ⟨y.tb, 0, none⟩)] 23)).alloc (.cells #[.string t] 9)).cell? ⟨y.tb, 5, none⟩ = some (.int .i64 s.bits) := by rw [cell_at hTa.cells]; rfl
  have HTA := keep hTa
  have hne : ((t.size : Int) != (s.bits : Int)) = false := by rw [ht]; simp
  clear hT hr hck hTa x0 x1 xb xs e0 ht
  go_enter Try.func25, Try.ntmps25
  go_wp2_with (first | (go_at_call 57; refine (made_ok HTA.out).mono ?_; rintro e w' ⟨rfl, rfl⟩))
  go_region_held3 (fun w' => w'.cell? ⟨w.heap.size, 0, none⟩ = some (.pointer (some ⟨y.tb, 0, none⟩)) ∧ w'.cell? ⟨w.heap.size + 1, 0, none⟩ = some (.string t) ∧ w'.cell? ⟨y.tb, 5, none⟩ = some (.int .i64 s.bits)) (first | (go_keep; done) | exact ⟨q1, q2, q3⟩) (first | (go_at_call 58; refine HCK.out.mono ?_; rintro e w1 ⟨rfl, q1, q2, q3, HBW⟩))
  go_wp2
  go_ret2
  exact ⟨rfl, HBW.out⟩

set_option maxHeartbeats 400000 in
theorem New_err (w : World) (bits : Int) (hb : bits < 1 ∨ 128 < bits) : Calls Try.prog 13 #[.int .i64 bits, .int .i64 1048576] w fun e w' => e = .returned (.tuple #[.pointer none, .int .i64 1]) ∧ w' = w := by
  rcases hb with h | h
  · go_enter Try.func13, Try.ntmps13
    go_wp2
    go_ret2
    exact ⟨rfl, rfl⟩
  · have h1 : ¬ (bits < 1) := by omega
    go_enter Try.func13, Try.ntmps13
    go_wp2
    go_ret2
    exact ⟨rfl, rfl⟩

theorem suf_cof {t : ByteArray} {k : Nat} (hk : k < t.size) (b : Bool) : Bd.cof (suf t k) k b = suf t (k + 1) ∨ Bd.cof (suf t k) k b = Bd.ff := by
  by_cases h0 : t.data.toList.getD k 0 = 48
  · rw [suf_zero hk h0, Bd.cof_mux (suf_from t (k + 1)) (Bd.from_ff _)]
    cases b
    · exact Or.inl rfl
    · exact Or.inr rfl
  · by_cases h1 : t.data.toList.getD k 0 = 49
    · rw [suf_one hk h1, Bd.cof_mux (Bd.from_ff _) (suf_from t (k + 1))]
      cases b
      · exact Or.inr rfl
      · exact Or.inl rfl
    · rw [suf_free h0 h1, Bd.cof_from (suf_from t (k + 1))]
      exact Or.inl rfl

/-- What a table comes upon that makes some cubes. -/
def cubeFam (bits : Nat) (ts : List ByteArray) (hs : ∀ t, t ∈ ts → t.size = bits) (hl : ts.length ≤ 30) : Bd.Fam bits 32 where
  F k f := (∃ t, t ∈ ts ∧ f = suf t k) ∨ f = Bd.ff ∨ f = Bd.tt
  dep k f h := by
    rcases h with ⟨t, _, rfl⟩ | rfl | rfl
    · exact suf_from t k
    · exact Bd.from_ff _
    · exact Bd.from_tt _
  go k f b hk h := by
    rcases h with ⟨t, ht, rfl⟩ | rfl | rfl
    · rcases suf_cof (t := t) (k := k) (by rw [hs t ht]; exact hk) b with e | e
      · exact Or.inl ⟨t, ht, e⟩
      · exact Or.inr (Or.inl e)
    · exact Or.inr (Or.inl rfl)
    · exact Or.inr (Or.inr rfl)
  en k j := ((ts.map fun t => suf t k) ++ [Bd.ff, Bd.tt]).getD j Bd.ff
  all k f _ h := by
    have hm : f ∈ (ts.map fun t => suf t k) ++ [Bd.ff, Bd.tt] := by
      rw [List.mem_append]
      rcases h with ⟨t, ht, rfl⟩ | rfl | rfl
      · exact Or.inl (List.mem_map.2 ⟨t, ht, rfl⟩)
      · exact Or.inr List.mem_cons_self
      · exact Or.inr (List.mem_cons_of_mem _ List.mem_cons_self)
    obtain ⟨j, hj, e⟩ := List.mem_iff_getElem.1 hm
    refine ⟨j, ?_, ?_⟩
    · simp at hj; omega
    · rw [List.getD_eq_getElem?_getD, List.getElem?_eq_getElem hj, e]; rfl
end Go.Proofs.Ytffngpdngjfcfaa
namespace Go.Proofs.Ytffngpdngjfcfaa
open Bd (ff tt iteF cof From)

def notF (f : Bd.Fn) : Bd.Fn := iteF f ff tt
def dif (f g : Bd.Fn) : Bd.Fn := iteF g ff f
def orL : List ByteArray → List Bool → Nat → Bd.Fn
  | t :: ts, b :: bs, k => fun h => (b && suf t k h) || orL ts bs k h
  | _, _, _ => ff
/-- A row of bits as a number, and back. -/
def num : List Bool → Nat
  | [] => 0
  | b :: bs => (if b then 1 else 0) + 2 * num bs
def dec : Nat → Nat → List Bool
  | 0, _ => []
  | n + 1, j => (j % 2 == 1) :: dec n (j / 2)
theorem dec_num (bs : List Bool) : dec bs.length (num bs) = bs := by
  induction bs with
  | nil => rfl
  | cons b bs ih =>
    show ((num (b :: bs)) % 2 == 1) :: dec bs.length (num (b :: bs) / 2) = b :: bs
    have h1 : num (b :: bs) / 2 = num bs := by cases b <;> simp [num] <;> omega
    have h2 : (num (b :: bs) % 2 == 1) = b := by cases b <;> simp [num] <;> omega
    rw [h1, h2, ih]
theorem num_lt (bs : List Bool) : num bs < 2 ^ bs.length := by
  induction bs with
  | nil => simp [num]
  | cons b bs ih =>
    show num (b :: bs) < 2 ^ (bs.length + 1)
    rw [Nat.pow_succ]
    cases b <;> simp [num] <;> omega
theorem or_none (ts : List ByteArray) (bs : List Bool) (k : Nat) (h : num bs = 0) : orL ts bs k = ff := by
  induction ts generalizing bs with
  | nil => cases bs <;> rfl
  | cons t ts ih =>
    cases bs with
    | nil => rfl
    | cons b bs =>
      have hb : b = false := by cases b <;> simp [num] at h ⊢ <;> omega
      have hs : num bs = 0 := by simp [num] at h; omega
      subst hb
      funext x
      show (false && suf t k x || orL ts bs k x) = false
      rw [ih bs hs]; rfl
theorem from_or (ts : List ByteArray) (bs : List Bool) (k : Nat) : From k (orL ts bs k) := by
  induction ts generalizing bs with
  | nil => cases bs <;> exact Bd.from_ff _
  | cons t ts ih =>
    cases bs with
    | nil => exact Bd.from_ff _
    | cons b bs =>
      intro x z hxz
      show (b && suf t k x || orL ts bs k x) = (b && suf t k z || orL ts bs k z)
      rw [suf_from t k x z hxz, ih bs x z hxz]
theorem cof_or (ts : List ByteArray) (bs : List Bool) (k : Nat) (b : Bool) (hs : ∀ t, t ∈ ts → k < t.size) : ∃ bs', bs'.length = bs.length ∧ cof (orL ts bs k) k b = orL ts bs' (k + 1) := by
  induction ts generalizing bs with
  | nil => exact ⟨bs, rfl, by cases bs <;> rfl⟩
  | cons t ts ih =>
    cases bs with
    | nil => exact ⟨[], rfl, rfl⟩
    | cons c bs =>
      obtain ⟨bs', hl, e⟩ := ih bs (fun t ht => hs t (List.mem_cons_of_mem _ ht))
      rcases suf_cof (hs t List.mem_cons_self) b with h | h
      · refine ⟨c :: bs', by simp [hl], ?_⟩
        funext x
        show (c && cof (suf t k) k b x || cof (orL ts bs k) k b x) = (c && suf t (k + 1) x || orL ts bs' (k + 1) x)
        rw [h, e]
      · refine ⟨false :: bs', by simp [hl], ?_⟩
        funext x
        show (c && cof (suf t k) k b x || cof (orL ts bs k) k b x) = (false && suf t (k + 1) x || orL ts bs' (k + 1) x)
        rw [h, e]
        show (c && false || _) = _
        simp
theorem dif_none (f : Bd.Fn) : dif f ff = f := by funext x; rfl
theorem dif_ff (g : Bd.Fn) : dif ff g = ff := by funext x; unfold dif iteF ff; split <;> rfl
theorem notF_from {k : Nat} {f : Bd.Fn} (h : From k f) : From k (notF f) := Bd.from_iteF h (Bd.from_ff _) (Bd.from_tt _)

/-- The kinds of functions that the law comes upon. -/
def LawF (t0 : ByteArray) (ts : List ByteArray) (k : Nat) (f : Bd.Fn) : Prop :=
  (∃ bs : List Bool, bs.length = ts.length ∧ (f = orL ts bs k ∨ f = notF (orL ts bs k) ∨ f = dif (orL ts bs k) (suf t0 k) ∨ f = notF (dif (orL ts bs k) (suf t0 k)))) ∨ f = suf t0 k ∨ f = notF (suf t0 k)

theorem num_false (n : Nat) : num (List.replicate n false) = 0 := by
  induction n with
  | zero => rfl
  | succ n ih => simp [List.replicate_succ, num, ih]

def lawEn (t0 : ByteArray) (ts : List ByteArray) (k j : Nat) : Bd.Fn :=
  if j / 2048 = 0 then orL ts (dec ts.length (j % 2048)) k
  else if j / 2048 = 1 then notF (orL ts (dec ts.length (j % 2048)) k)
  else if j / 2048 = 2 then (if j % 2048 = 0 then suf t0 k else dif (orL ts (dec ts.length (j % 2048)) k) (suf t0 k))
  else (if j % 2048 = 0 then notF (suf t0 k) else notF (dif (orL ts (dec ts.length (j % 2048)) k) (suf t0 k)))

def lawFam (nb : Nat) (t0 : ByteArray) (ts : List ByteArray) (h0 : t0.size = nb) (hs : ∀ t, t ∈ ts → t.size = nb) (hl : ts.length ≤ 11) : Bd.Fam nb 8192 where
  F k f := LawF t0 ts k f
  dep k f h := by
    rcases h with ⟨bs, _, rfl | rfl | rfl | rfl⟩ | rfl | rfl
    · exact from_or ts bs k
    · exact notF_from (from_or ts bs k)
    · exact Bd.from_iteF (suf_from t0 k) (Bd.from_ff _) (from_or ts bs k)
    · exact notF_from (Bd.from_iteF (suf_from t0 k) (Bd.from_ff _) (from_or ts bs k))
    · exact suf_from t0 k
    · exact notF_from (suf_from t0 k)
  go k f b hk h := by
    have hts : ∀ t, t ∈ ts → k < t.size := fun t ht => by rw [hs t ht]; exact hk
    have h0' : k < t0.size := by rw [h0]; exact hk
    rcases h with ⟨bs, hbl, rfl | rfl | rfl | rfl⟩ | rfl | rfl
    · obtain ⟨bs', hl', e⟩ := cof_or ts bs k b hts
      exact Or.inl ⟨bs', hl'.trans hbl, Or.inl e⟩
    · obtain ⟨bs', hl', e⟩ := cof_or ts bs k b hts
      exact Or.inl ⟨bs', hl'.trans hbl, Or.inr (Or.inl (by show notF (cof (orL ts bs k) k b) = _; rw [e]))⟩
    · obtain ⟨bs', hl', e⟩ := cof_or ts bs k b hts
      rcases suf_cof h0' b with e0 | e0
      · exact Or.inl ⟨bs', hl'.trans hbl, Or.inr (Or.inr (Or.inl (by show dif (cof (orL ts bs k) k b) (cof (suf t0 k) k b) = _; rw [e, e0])))⟩
      · exact Or.inl ⟨bs', hl'.trans hbl, Or.inl (by show dif (cof (orL ts bs k) k b) (cof (suf t0 k) k b) = _; rw [e, e0, dif_none])⟩
    · obtain ⟨bs', hl', e⟩ := cof_or ts bs k b hts
      rcases suf_cof h0' b with e0 | e0
      · exact Or.inl ⟨bs', hl'.trans hbl, Or.inr (Or.inr (Or.inr (by show notF (dif (cof (orL ts bs k) k b) (cof (suf t0 k) k b)) = _; rw [e, e0])))⟩
      · exact Or.inl ⟨bs', hl'.trans hbl, Or.inr (Or.inl (by show notF (dif (cof (orL ts bs k) k b) (cof (suf t0 k) k b)) = _; rw [e, e0, dif_none]))⟩
    · rcases suf_cof h0' b with e0 | e0
      · exact Or.inr (Or.inl e0)
      · exact Or.inl ⟨List.replicate ts.length false, by simp, Or.inl (by rw [e0, or_none _ _ _ (num_false _)])⟩
    · rcases suf_cof h0' b with e0 | e0
      · exact Or.inr (Or.inr (by show notF (cof (suf t0 k) k b) = _; rw [e0]))
      · exact Or.inl ⟨List.replicate ts.length false, by simp, Or.inr (Or.inl (by show notF (cof (suf t0 k) k b) = _; rw [e0, or_none _ _ _ (num_false _)]))⟩
  en k j := lawEn t0 ts k j
  all k f _ h := by
    have hp : ∀ bs : List Bool, bs.length = ts.length → num bs < 2048 ∧ dec ts.length (num bs) = bs := by
      intro bs hb
      have h1 := num_lt bs
      have h2 : 2 ^ bs.length ≤ 2 ^ 11 := Nat.pow_le_pow_right (by omega) (by omega)
      exact ⟨by omega, by rw [← hb]; exact dec_num bs⟩
    have at_ : ∀ q j, q < 4 → j < 2048 → (q * 2048 + j) < 8192 ∧ (q * 2048 + j) / 2048 = q ∧ (q * 2048 + j) % 2048 = j := by
      intro q j hq hj
      refine ⟨by omega, by omega, by omega⟩
    rcases h with ⟨bs, hb, h⟩ | rfl | rfl
    · obtain ⟨n1, n2⟩ := hp bs hb
      have zero : num bs = 0 → orL ts bs k = ff := or_none ts bs k
      rcases h with rfl | rfl | rfl | rfl
      · obtain ⟨a1, a2, a3⟩ := at_ 0 (num bs) (by omega) n1
        exact ⟨_, a1, by unfold lawEn; rw [a2, a3, n2]; rfl⟩
      · obtain ⟨a1, a2, a3⟩ := at_ 1 (num bs) (by omega) n1
        exact ⟨_, a1, by unfold lawEn; rw [a2, a3, n2]; rfl⟩
      · by_cases hz : num bs = 0
        · obtain ⟨a1, a2, a3⟩ := at_ 0 (num bs) (by omega) n1
          exact ⟨_, a1, by unfold lawEn; rw [a2, a3, n2, zero hz, dif_ff]; rfl⟩
        · obtain ⟨a1, a2, a3⟩ := at_ 2 (num bs) (by omega) n1
          exact ⟨_, a1, by unfold lawEn; rw [a2, a3, n2, if_neg (by omega), if_neg (by omega), if_pos rfl, if_neg hz]⟩
      · by_cases hz : num bs = 0
        · obtain ⟨a1, a2, a3⟩ := at_ 1 (num bs) (by omega) n1
          exact ⟨_, a1, by unfold lawEn; rw [a2, a3, n2, zero hz, dif_ff]; rfl⟩
        · obtain ⟨a1, a2, a3⟩ := at_ 3 (num bs) (by omega) n1
          exact ⟨_, a1, by unfold lawEn; rw [a2, a3, n2, if_neg (by omega), if_neg (by omega), if_neg (by omega), if_neg hz]⟩
    · obtain ⟨a1, a2, a3⟩ := at_ 2 0 (by omega) (by omega)
      exact ⟨_, a1, by unfold lawEn; rw [a2, a3, if_neg (by omega), if_neg (by omega), if_pos rfl, if_pos rfl]⟩
    · obtain ⟨a1, a2, a3⟩ := at_ 3 0 (by omega) (by omega)
      exact ⟨_, a1, by unfold lawEn; rw [a2, a3, if_neg (by omega), if_neg (by omega), if_neg (by omega), if_pos rfl]⟩
end Go.Proofs.Ytffngpdngjfcfaa
