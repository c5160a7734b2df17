/-
  answer, And, Or, Not, Diff, Ite where answer fails.
  A table that New did not make: each method answers ErrNil.
  And of some; Not, Diff; two refs of one function are one.
  Make: the function of a right list.
  build: the node of a list.
-/
import Derived.Test.YtnkipdlfpnmgeaaQIteTAnd
import Derived.Test.YtnkipdlfpnmgeaaBIteAnd
import Derived.Test.YtnkipdlfpnmgeaaWordsAnd
import Derived.Test.YtnkipdlfpnmgeaaBFoldAAnd
import Derived.Test.YtnkipdlfpnmgeaaBTellAnd
namespace Go.Proofs.Ytnkipdlfpnmgeaa
open Go.RowKit Go.Maps
open Bd (Nd)

/-- The function of a list: that of its last node; of no nodes, none. -/
def lastF (Q : List Nd) : Bd.Fn := if Q.length = 0 then Bd.ff else Bd.den Q (Q.length + 1)

/-- build on its way: the numbers of the first nodes. -/
structure Builds {bits M : Nat} (A : Bd.Fam bits M) (w : World) (y : Lay) (s : St) (Q : List Nd) (k : Nat) (wr : World) (g cap : Nat) (ms : List Nat) (y1 : Lay) (N : List Nd) : Prop where
  tab : Tab wr y1 { s with L := s.L ++ N }
  within : Bd.Within A (s.L ++ N)
  moves : Moves noX w y wr y1
  row : wr.ownsRow 0 3 1 (.slice (some ⟨g, 0, none⟩) (k + 2) cap) (k + 2) (nums ms)
  far : w.heap.size ≤ g
  free : ¬ y1.own g
  len : ms.length = k + 2
  den : ∀ (j m : Nat), ms[j]? = some m → m < (s.L ++ N).length + 2 ∧ Bd.den (s.L ++ N) m = Bd.den Q j

theorem Builds.cell {bits M : Nat} {A : Bd.Fam bits M} {w : World} {y : Lay} {s : St} {Q : List Nd} {k : Nat} {wr : World} {g cap : Nat} {ms : List Nat} {y1 : Lay} {N : List Nd} (h : Builds A w y s Q k wr g cap ms y1 N) {j m : Nat} (hj : ms[j]? = some m) : wr.cell? ⟨g, j, none⟩ = some (.int .i64 m) := by
  have hadd : ∀ j, (⟨g, 0, none⟩ : Addr).add j = ⟨g, j, none⟩ := by intro j; unfold Addr.add; split <;> simp_all
  have hc := h.row.cells (g := g) rfl j (i6 m) (by unfold nums; rw [List.getElem?_map, hj]; rfl)
  rw [hadd] at hc
  exact hc

theorem run_twos (n : Nat) (hn : n ≤ 1073741824) (w : World) : ∃ W0, (Instr.makeSlice 70 (.int .i64 2) (.int .i64 ((n : Int) + 2))).run Try.prog w = .ok (.slice (some ⟨w.heap.size, 0, none⟩) 2 (n + 2)) W0 ∧ W0 = w.alloc (.cells (zeros (n + 2)) 3) := by
  obtain ⟨i, hi, hz0, hz1, hz2⟩ := info_parts Try.infoInt
  have := run_make (P := Try.prog) w 70 3 i (.int .i64 0) Try.underlying70 hi hz0 .i64 .i64 2 ((n : Int) + 2) (by omega) (by omega) (by rw [hz2]; omega) (by omega)
  rw [this, hz1, Nat.mul_one, show ((n : Int) + 2).toNat = n + 2 by omega]
  exact ⟨_, rfl, rfl⟩

theorem builds_new {bits M : Nat} {A : Bd.Fam bits M} {w : World} {y : Lay} {s : St} (Q : List Nd) (hT : Tab w y s) (hW : Bd.Within A s.L) (n : Nat) (hn : n ≤ 1073741824) :
    Builds A w y s Q 0 ((w.alloc (.cells (zeros (n + 2)) 3)).setCell ⟨w.heap.size, 1, none⟩ (.int .i64 1)) w.heap.size (n + 2) [0, 1] y [] := by
  have x0 := heap_alloc_new w (.cells (zeros (n + 2)) 3)
  have x1 := set_block (o := 1) (.int .i64 1) x0
  have hb : Below w.heap.size w ((w.alloc (.cells (zeros (n + 2)) 3)).setCell ⟨w.heap.size, 1, none⟩ (.int .i64 1)) := ((Below.refl _ _).alloc (Nat.le_refl _) _).setCell (Nat.le_refl _) _
  refine ⟨by rw [List.append_nil]; exact hT.below hb, by rw [List.append_nil]; exact hW, moves_below y hb, ?_, Nat.le_refl _, fun ho => by have := hT.lt ho; omega, rfl, fun j m hj => ?_⟩
  · refine ⟨rfl, Or.inr ⟨w.heap.size, n + 2, _, rfl, Nat.zero_le _, x1, by omega, by unfold maxLen; omega, by simp [zeros_size], ?_⟩⟩
    have e : (zeros (n + 2)).toList = .int .i64 0 :: .int .i64 0 :: List.replicate n (.int .i64 0) := by
      unfold zeros
      rw [toList_madeCells_one]
      rfl
    rw [Array.toList_setIfInBounds, e]
    rfl
  · rw [List.append_nil]
    match j, hj with
    | 0, hj => simp at hj; subst hj; exact ⟨by omega, by rw [Bd.den_zero, Bd.den_zero]⟩
    | 1, hj => simp at hj; subst hj; exact ⟨by omega, by rw [Bd.den_one, Bd.den_one]⟩
    | (j + 2), hj => simp at hj

/-- append where there is room. -/
theorem room_row {w : World} {g k cap : Nat} {cur : Array Value} {xs : List Value} (hg : w.heap[g]? = some (.cells cur 3 (0, 0))) (hsz : cur.size = cap) (hk : k < cap) (hcap : cap ≤ maxLen) (ht : cur.toList.take k = xs) (r : Value) :
    (w.setCells g (0 + k * 1) [r]).heap[g]? = some (.cells (cur.setIfInBounds k r) 3 (0, 0)) ∧ w.grownBy (w.setCells g (0 + k * 1) [r]) (some g) ∧ (w.setCells g (0 + k * 1) [r]).ownsRow 0 3 1 (.slice (some ⟨g, 0, none⟩) (k + 1) cap) (k + 1) (xs ++ [r]) := by
  have e : w.setCells g (0 + k * 1) [r] = w.setCell ⟨g, k, none⟩ r := by rw [Nat.zero_add, Nat.mul_one]; rfl
  rw [e]
  have h1 := set_block (o := k) r hg
  have hxl : xs.length = k := by rw [← ht, List.length_take, Array.length_toList]; omega
  refine ⟨h1, ⟨rfl, rfl, rfl, by rw [show (w.setCell ⟨g, k, none⟩ r).heap.size = w.heap.size from by simp]; exact Nat.le_refl _, fun j hj hne => set_other r (fun e => hne (by rw [e]))⟩, ?_⟩
  refine ⟨by simp [hxl], Or.inr ⟨g, cap, _, rfl, Nat.zero_le _, h1, by omega, hcap, by simp [hsz], ?_⟩⟩
  rw [Array.toList_setIfInBounds, Nat.mul_one]
  apply List.ext_getElem?
  intro i
  rcases Nat.lt_trichotomy i k with hi | hi | hi
  · rw [List.getElem?_take_of_lt (by omega), List.getElem?_set_ne (by omega), List.getElem?_append_left (by omega), ← ht, List.getElem?_take_of_lt hi]
  · subst hi
    rw [List.getElem?_take_of_lt (by omega), List.getElem?_set_self (by rw [Array.length_toList]; omega), List.getElem?_append_right (by omega), hxl]
    simp
  · rw [List.getElem?_eq_none (by rw [List.length_take]; omega), List.getElem?_eq_none (by simp; omega)]

/-- One node more. -/
theorem builds_node {M : Nat} {w : World} {y : Lay} {s : St} {A : Bd.Fam s.bits M} {Q : List Nd} {k : Nat} {wr : World} {g cap : Nat} {ms : List Nat} {y1 : Lay} {N : List Nd} (h : Builds A w y s Q k wr g cap ms y1 N) (sb room kb : Nat) (hS : StepAt w sb y.tb room kb) (hns : ¬ y.own sb) (hroom : s.bits * M ≤ room) (hr3 : room ≤ 1073741824)
    (hQ : Bd.Okay s.bits Q) (hF : Bd.Within A Q) {x : Nd} (hx : Q[k]? = some x) : ∃ lo hi, ms[x.2.1]? = some lo ∧ ms[x.2.2]? = some hi ∧ ∀ o : Obj, Calls Try.prog 74 #[.pointer (some ⟨sb, 0, none⟩), .int .i64 x.1, .int .i64 lo, .int .i64 hi] (wr.alloc o).drew fun e w3 => ∃ r : Nat, e = .returned (.int .i64 r) ∧
      w3.heap[wr.heap.size]? = some o ∧ w3.heap[g]? = wr.heap[g]? ∧ wr.heap.size < w3.heap.size ∧ w3.ownsRow 0 3 1 (.slice (some ⟨g, 0, none⟩) (k + 2) cap) (k + 2) (nums ms) ∧
      ∀ (o2 : Obj) (w4 : World) (g4 cap4 : Nat), w4.ownsRow 0 3 1 (.slice (some ⟨g4, 0, none⟩) (k + 2 + 1) cap4) (k + 2 + 1) (nums ms ++ [.int .i64 r]) → (w3.alloc o2).grownBy w4 (some g) → (some g = some g4 ∨ g4 = w3.heap.size + 1) → ∃ ms' y' N', Builds A w y s Q (k + 1) w4 g4 cap4 ms' y' N' := by
  obtain ⟨f1, f2, f3, f4, f5, f6⟩ := hQ.fit k x hx
  have hl := h.len
  have g1 : ms[x.2.1]? = some (ms[x.2.1]'(by omega)) := List.getElem?_eq_getElem _
  have g2 : ms[x.2.2]? = some (ms[x.2.2]'(by omega)) := List.getElem?_eq_getElem _
  refine ⟨_, _, g1, g2, fun o => ?_⟩
  obtain ⟨a1, a2⟩ := h.den _ _ g1
  obtain ⟨b1, b2⟩ := h.den _ _ g2
  generalize ms[x.2.1] = lo at *
  generalize ms[x.2.2] = hi at *
  have hbw : Below wr.heap.size wr (wr.alloc o).drew := ((Below.refl _ _).alloc (Nat.le_refl _) o).drew
  have hT1 := h.tab.below hbw
  have lsb := block_lt hS
  have hns1 := h.moves.not_own lsb hns
  have hsz := h.moves.size
  have hS1 : StepAt (wr.alloc o).drew sb y1.tb room kb := by
    rw [h.moves.tb]
    exact (hbw.block sb (by omega)).trans ((h.moves.block sb lsb hns (fun h => h)).trans hS)
  have hkQ := Bd.getElem?_lt hx
  have hb1 : x.1 < Bd.bitOf (s.L ++ N) lo := Bd.bit_ge (k := x.1 + 1) hT1.okay a1 (by show Bd.From _ (Bd.den (s.L ++ N) lo); rw [a2]; exact (Bd.from_den hQ _ (by omega)).mono f5) (by have := hQ.few; omega)
  have hb2 : x.1 < Bd.bitOf (s.L ++ N) hi := Bd.bit_ge (k := x.1 + 1) hT1.okay b1 (by show Bd.From _ (Bd.den (s.L ++ N) hi); rw [b2]; exact (Bd.from_den hQ _ (by omega)).mono f6) (by have := hQ.few; omega)
  have hden : Bd.mux x.1 (Bd.den (s.L ++ N) lo) (Bd.den (s.L ++ N) hi) = Bd.den Q (k + 2) := by rw [a2, b2]; exact (Bd.den_at hQ hx).symm
  refine (node_any (s := { s with L := s.L ++ N }) A hT1 h.within sb room kb hS1 hns1 hroom hr3 x.1 lo hi f4 a1 b1 hb1 hb2 (by show A.F _ (Bd.mux x.1 (Bd.den (s.L ++ N) lo) (Bd.den (s.L ++ N) hi)); rw [hden]; exact hF k x hx)).mono ?_
  rintro e w3 ⟨r, rfl, hG⟩
  obtain ⟨N2, y2, t2, wi2, hr2, d2, m2⟩ := hG.ex
  have hgl : g < wr.heap.size := (h.row.lt g rfl).2
  have hgn : ¬ y2.own g := fun ho => by
    rcases m2.own g ho with e | e
    · exact h.free e
    · simp at e; omega
  have k0 : w3.heap[wr.heap.size]? = some o := (m2.block _ (by simp) (fun ho => by have := h.tab.lt ho; omega) (fun h => h)).trans (heap_alloc_new wr o)
  have k1 : w3.heap[g]? = wr.heap[g]? := (m2.block _ (by simp; omega) h.free (fun h => h)).trans (hbw.block g hgl)
  refine ⟨r, rfl, k0, k1, block_lt k0, row_same h.row fun q hq => by cases hq; exact k1, ?_⟩
  intro o2 w4 g4 cap4 hown hgr hat
  have z3 : wr.heap.size < w3.heap.size := block_lt k0
  have z4 : w3.heap.size + 1 ≤ w4.heap.size := by have := hgr.size; simpa using this
  have old : ∀ j, j < w3.heap.size → j ≠ g → w4.heap[j]? = w3.heap[j]? := by
    intro j hj hne
    rw [hgr.block j (by simp; omega) (fun e => hne (by cases e; rfl))]
    exact heap_alloc_old w3 o2 hj
  have t2' : Tab w3 y2 { s with L := s.L ++ (N ++ N2) } := by rw [← List.append_assoc]; exact t2
  have t4 : Tab w4 y2 { s with L := s.L ++ (N ++ N2) } := t2'.same fun j hj => old j (t2'.lt hj) (fun e => hgn (e ▸ hj))
  have m3 : Moves noX w y w3 y2 := (h.moves.trans (moves_below y1 hbw)).trans m2
  refine ⟨ms ++ [r], y2, N ++ N2, t4, by rw [← List.append_assoc]; exact wi2, ?_, ?_, ?_, ?_, by simp [hl], fun j m hj => ?_⟩
  · exact ⟨m3.tb, m3.own, hgr.os.trans m3.os, hgr.tape.trans m3.tape, hgr.output.trans m3.output, by have := m3.size; omega, fun j hj hn hX => (old j (by have := m3.size; omega) (by have := h.far; omega)).trans (m3.block j hj hn hX)⟩
  · rw [nums_snoc]; exact hown
  · rcases hat with e | e
    · cases e; exact h.far
    · have := h.far; omega
  · rcases hat with e | e
    · cases e; exact hgn
    · intro ho; have := t2'.lt ho; omega
  · rw [← List.append_assoc]
    have hll : (s.L ++ N ++ N2).length = (s.L ++ N).length + N2.length := List.length_append
    rcases Nat.lt_or_ge j (k + 2) with hj2 | hj2
    · rw [List.getElem?_append_left (by omega)] at hj
      obtain ⟨c1, c2⟩ := h.den j m hj
      exact ⟨by omega, by rw [Bd.den_append_old _ _ c1]; exact c2⟩
    · rw [List.getElem?_append_right (by omega), hl] at hj
      have h0 : j - (k + 2) = 0 := by have := Bd.getElem?_lt hj; simp at this; exact this
      rw [h0] at hj
      simp at hj
      subst hj
      have hjk : j = k + 2 := by omega
      subst hjk
      exact ⟨hr2, d2.trans hden⟩

set_option maxRecDepth 4000 in
set_option maxHeartbeats 4000000 in
theorem build_any {M : Nat} {w : World} {y : Lay} {s : St} (A : Bd.Fam s.bits M) (hT : Tab w y s) (hW : Bd.Within A s.L) (sb room kb : Nat) (hS : StepAt w sb y.tb room kb) (hns : ¬ y.own sb) (hroom : s.bits * M ≤ room) (hr3 : room ≤ 1073741824)
    (Q : List Nd) (lv : Value) (hl : w.ownsRow 0 62 3 lv Q.length (flat Q)) (hdis : ∀ k, lv.ownBlock = some k → ¬ y.own k) (hQ : Bd.Okay s.bits Q) (hlen : Q.length ≤ 1073741824) (hF : Bd.Within A Q) :
    Calls Try.prog 84 #[.pointer (some ⟨sb, 0, none⟩), lv] w fun e w' => ∃ r : Nat, e = .returned (.int .i64 r) ∧ Grew noX A w y s w' r (lastF Q) := by
  obtain ⟨ao, cp, rfl⟩ : ∃ ao cp, lv = .slice ao Q.length cp := by
    rcases hl.2 with ⟨h1, h2⟩ | ⟨g, cp, cur, h1, _⟩
    · exact ⟨none, 0, by rw [h1, h2]⟩
    · exact ⟨_, _, h1⟩
  have HL := keep hl
  obtain ⟨n, hn⟩ : ∃ n, n = Q.length := ⟨_, rfl⟩
  have HN := keep hn
  rw [← hn] at hlen HL hdis ⊢
  obtain ⟨W0, hmk, hW0⟩ := run_twos n hlen w
  have x0 := heap_alloc_new w (.cells (zeros (n + 2)) 3)
  have c1 : W0.cell? ⟨w.heap.size, 1, none⟩ = some (.int .i64 0) := by
    rw [hW0, cell_at x0]
    unfold zeros
    rw [← Array.getElem?_toList, toList_madeCells_one]
    rfl
  have z1 : W0.frozen? ⟨w.heap.size, 1, none⟩ = false := by rw [hW0]; exact not_frozen x0
  have HB0 : Hid (Builds A w y s Q 0 (W0.setCell ⟨w.heap.size, 1, none⟩ (.int .i64 1)) w.heap.size (n + 2) [0, 1] y []) := by rw [hW0]; exact builds_new Q hT hW n hlen
  have HST : Hid (∀ (k : Nat) (wr : World) (g cap : Nat) (ms : List Nat) (y1 : Lay) (N : List Nd), Builds A w y s Q k wr g cap ms y1 N → ∀ x, Q[k]? = some x → ∃ lo hi, ms[x.2.1]? = some lo ∧ ms[x.2.2]? = some hi ∧ ∀ o : Obj, Calls Try.prog 74 #[.pointer (some ⟨sb, 0, none⟩), .int .i64 x.1, .int .i64 lo, .int .i64 hi] (wr.alloc o).drew fun e w3 => ∃ r : Nat, e = .returned (.int .i64 r) ∧
      w3.heap[wr.heap.size]? = some o ∧ w3.heap[g]? = wr.heap[g]? ∧ wr.heap.size < w3.heap.size ∧ w3.ownsRow 0 3 1 (.slice (some ⟨g, 0, none⟩) (k + 2) cap) (k + 2) (nums ms) ∧
      ∀ (o2 : Obj) (w4 : World) (g4 cap4 : Nat), w4.ownsRow 0 3 1 (.slice (some ⟨g4, 0, none⟩) (k + 2 + 1) cap4) (k + 2 + 1) (nums ms ++ [.int .i64 r]) → (w3.alloc o2).grownBy w4 (some g) → (some g = some g4 ∨ g4 = w3.heap.size + 1) → ∃ ms' y' N', Builds A w y s Q (k + 1) w4 g4 cap4 ms' y' N') := fun k wr g cap ms y1 N h x hx => builds_node h sb room kb hS hns hroom hr3 hQ hF hx
  have HQ := keep hQ
  have HD := keep hdis
  have hlenI : (n : Int) ≤ 1073741824 := by omega
  obtain ⟨i0, hi, hz0, hz1, hz2⟩ := info_parts Try.infoInt
  have HI := keep hi
  have HZ0 := keep hz0
  have HZ1 := keep hz1
  have HZ2 := keep hz2
  clear hT hW hS hns hroom hr3 hl hdis hQ hF hn hW0 x0 hi hz0 hz1 hz2
  go_enter Try.func84, Try.ntmps84
  go_wp2
  clear hmk c1 z1
  go_loopw [5, 16] (fun v i wr => ∃ k g : Nat, k ≤ n ∧ v = .slice (some ⟨g, 0, none⟩) (k + 2) (n + 2) ∧ i = .int .i64 k ∧ Hid (∃ ms y1 N, Builds A w y s Q k wr g (n + 2) ms y1 N)) (fun _ i _ => n - (intOf i).toNat)
  case atStart => exact ⟨0, w.heap.size, Nat.zero_le _, rfl, rfl, _, _, _, HB0.out⟩
  case round =>
    clear HB0
    obtain ⟨k, g, hk, rfl, rfl, H⟩ := hrel
    obtain ⟨ms, y1, N, hB⟩ := H.out
    by_cases hlt : k < n
    · obtain ⟨x, hx⟩ : ∃ x, Q[k]? = some x := ⟨Q[k]'(by rw [← HN.out]; exact hlt), List.getElem?_eq_getElem _⟩
      obtain ⟨f1, f2, f3, f4, f5, f6⟩ := HQ.out.fit k x hx
      obtain ⟨lo, hi, m1, m2, hcall⟩ := HST.out k wr g (n + 2) ms y1 N hB x hx
      have hgl : g < wr.heap.size := (hB.row.lt g rfl).2
      have cl := hB.cell m1
      have ch := hB.cell m2
      have cla : ∀ o, (wr.alloc o).cell? ⟨g, x.2.1, none⟩ = some (.int .i64 lo) := fun o => by rw [World.cell?_of_block (heap_alloc_old wr o hgl)]; exact cl
      have cha : ∀ o, (wr.alloc o).cell? ⟨g, x.2.2, none⟩ = some (.int .i64 hi) := fun o => by rw [World.cell?_of_block (heap_alloc_old wr o hgl)]; exact ch
      have hrow : wr.ownsRow 0 62 3 (.slice ao n cp) n (flat Q) := row_same HL.out fun q hq => hB.moves.block q (HL.out.lt q hq).2 (HD.out q hq) (fun h => h)
      have hNI : NodesIn wr (.slice ao n cp) Q := nodesIn_of (by rw [← HN.out]; exact hrow) (by have := HN.out; omega)
      obtain ⟨gl, cp', e, hcells⟩ := hNI
      have ea : ao = some ⟨gl, 0, none⟩ := by cases e; rfl
      subst ea
      obtain ⟨d0, d1, d2⟩ := hcells k x hx
      have HC := keep (hcall (.cells #[.int .i64 x.1, .int .i64 x.2.1, .int .i64 x.2.2] 62))
      have hkI : (0 : Int) ≤ (k : Int) := by omega
      have hkI2 : (k : Int) < (n : Int) := by omega
      have l1 : (x.2.1 : Int) < (k : Int) + 2 := by omega
      have l2 : (x.2.2 : Int) < (k : Int) + 2 := by omega
      have l1' : x.2.1 < k + 2 := by omega
      have l2' : x.2.2 < k + 2 := by omega
      obtain ⟨x0, x1, x2⟩ := x
      simp only at d0 d1 d2 cl ch cla cha l1 l2 l1' l2' HC
      have HCE : Hid (Calls Try.prog 74 #[.pointer (some ⟨sb, 0, none⟩), .int .i64 x0, .int .i64 lo, .int .i64 hi] (wr.alloc (.cells #[.int .i64 x0, .int .i64 x1, .int .i64 x2] 62)).drew fun e w3 => ∃ r : Nat, e = .returned (.int .i64 r) ∧ (w3.cell? ⟨wr.heap.size, 0, none⟩ = some (.int .i64 x0) ∧ w3.cell? ⟨wr.heap.size, 1, none⟩ = some (.int .i64 x1) ∧ w3.cell? ⟨wr.heap.size, 2, none⟩ = some (.int .i64 x2) ∧ w3.cell? ⟨g, x1, none⟩ = some (.int .i64 lo) ∧ w3.cell? ⟨g, x2, none⟩ = some (.int .i64 hi)) ∧
          (∀ o, (w3.alloc o).cell? ⟨wr.heap.size, 0, none⟩ = some (.int .i64 x0) ∧ (w3.alloc o).cell? ⟨wr.heap.size, 1, none⟩ = some (.int .i64 x1) ∧ (w3.alloc o).cell? ⟨wr.heap.size, 2, none⟩ = some (.int .i64 x2) ∧ (w3.alloc o).cell? ⟨g, x1, none⟩ = some (.int .i64 lo) ∧ (w3.alloc o).cell? ⟨g, x2, none⟩ = some (.int .i64 hi)) ∧
          (∀ o j, j < 1 → ((w3.alloc o).cell? ⟨g, 0 + (k + 2) * 1 + j, none⟩).isSome = true ∧ (w3.alloc o).frozen? ⟨g, 0 + (k + 2) * 1 + j, none⟩ = false) ∧
          Hid (∀ o2 : Obj, (∃ ms' y' N', Builds A w y s Q (k + 1) ((w3.alloc o2).setCells g (0 + (k + 2) * 1) [.int .i64 r]) g (n + 2) ms' y' N') ∧
            (((w3.alloc o2).setCells g (0 + (k + 2) * 1) [.int .i64 r]).cell? ⟨wr.heap.size, 0, none⟩ = some (.int .i64 x0) ∧ ((w3.alloc o2).setCells g (0 + (k + 2) * 1) [.int .i64 r]).cell? ⟨wr.heap.size, 1, none⟩ = some (.int .i64 x1) ∧ ((w3.alloc o2).setCells g (0 + (k + 2) * 1) [.int .i64 r]).cell? ⟨wr.heap.size, 2, none⟩ = some (.int .i64 x2) ∧ ((w3.alloc o2).setCells g (0 + (k + 2) * 1) [.int .i64 r]).cell? ⟨g, x1, none⟩ = some (.int .i64 lo) ∧ ((w3.alloc o2).setCells g (0 + (k + 2) * 1) [.int .i64 r]).cell? ⟨g, x2, none⟩ = some (.int .i64 hi)))) := by
        refine HC.out.mono ?_
        rintro e w3 ⟨r, rfl, k0, k1, kz, kr, kf⟩
        have five : ∀ w' : World, w'.heap[wr.heap.size]? = w3.heap[wr.heap.size]? → w'.heap[g]? = w3.heap[g]? → w'.cell? ⟨wr.heap.size, 0, none⟩ = some (.int .i64 x0) ∧ w'.cell? ⟨wr.heap.size, 1, none⟩ = some (.int .i64 x1) ∧ w'.cell? ⟨wr.heap.size, 2, none⟩ = some (.int .i64 x2) ∧ w'.cell? ⟨g, x1, none⟩ = some (.int .i64 lo) ∧ w'.cell? ⟨g, x2, none⟩ = some (.int .i64 hi) := by
          intro w' e1 e2
          have e1' := e1.trans k0
          exact ⟨by rw [cell_at e1']; rfl, by rw [cell_at e1']; rfl, by rw [cell_at e1']; rfl, by rw [World.cell?_of_block (e2.trans k1)]; exact cl, by rw [World.cell?_of_block (e2.trans k1)]; exact ch⟩
        obtain ⟨cur, hcur, hcs, hct⟩ : ∃ cur, wr.heap[g]? = some (.cells cur 3 (0, 0)) ∧ cur.size = n + 2 ∧ cur.toList.take (k + 2) = nums ms := by
          rcases hB.row.2 with ⟨e, _⟩ | ⟨g', cap', cur, e, _, h1, _, _, h2, h3⟩
          · cases e
          · cases e; exact ⟨cur, h1, by omega, by rw [Nat.mul_one] at h3; exact h3⟩
        have hga : ∀ o, (w3.alloc o).heap[g]? = some (.cells cur 3 (0, 0)) := fun o => (heap_alloc_old w3 o (by omega)).trans (k1.trans hcur)
        refine ⟨r, rfl, five w3 rfl rfl, fun o => five _ (heap_alloc_old w3 o (by omega)) (heap_alloc_old w3 o (by omega)), fun o j hj => ?_, fun o2 => ?_⟩
        · have hj0 : j = 0 := by omega
          subst hj0
          refine ⟨?_, not_frozen (hga o)⟩
          rw [cell_at (hga o), Array.getElem?_eq_getElem (by omega)]
          rfl
        · obtain ⟨r1, r2, r3⟩ := room_row (hga o2) hcs (by omega) (by unfold maxLen; omega) hct (.int .i64 r)
          refine ⟨kf o2 _ g (n + 2) r3 r2 (Or.inl rfl), ?_⟩
          have hb : ((w3.alloc o2).setCells g (0 + (k + 2) * 1) [.int .i64 r]).heap[wr.heap.size]? = some _ := (r2.block wr.heap.size (by simp; omega) (fun e => by cases e; omega)).trans ((heap_alloc_old w3 o2 (by omega)).trans k0)
          have cl' := cl
          have ch' := ch
          rw [cell_at hcur] at cl' ch'
          exact ⟨by rw [cell_at hb]; rfl, by rw [cell_at hb]; rfl, by rw [cell_at hb]; rfl, by rw [cell_at r1, Array.getElem?_setIfInBounds_ne (by omega)]; exact cl', by rw [cell_at r1, Array.getElem?_setIfInBounds_ne (by omega)]; exact ch'⟩
      clear HC hcall hB H hrow hcells e f1 f2 f3 f4 f5 f6 hx m1 m2 hgl cl ch
      go_wp2_with fail
      go_region_held3 (fun w' => w'.cell? ⟨wr.heap.size, 0, none⟩ = some (.int .i64 x0) ∧ w'.cell? ⟨wr.heap.size, 1, none⟩ = some (.int .i64 x1) ∧ w'.cell? ⟨wr.heap.size, 2, none⟩ = some (.int .i64 x2) ∧ w'.cell? ⟨g, x1, none⟩ = some (.int .i64 lo) ∧ w'.cell? ⟨g, x2, none⟩ = some (.int .i64 hi)) (first | (go_keep; done) | exact S4 | exact S3 _ | exact S2) (first | (refine step_append_room rfl (.tmp 20) (.tmp 35) 70 rfl 3 i0 1 Try.underlying70 HI.out HZ1.out g 0 (k + 2) (n + 2) rfl ⟨w3.heap.size, 0, none⟩ 1 1 [.int .i64 r] rfl rfl (World.news_of_block (heap_alloc_new w3 _)) (by simp [Value.oneCell']) (by omega) (by exact HSP _) ?_; obtain ⟨HB4, S4⟩ := HF3.out (.cells #[.int .i64 r] 3)) | (go_at_call 74; refine HCE.out.mono ?_; rintro e w3 ⟨r, rfl, S2, S3, HSP, HF3⟩))
      go_wp2
      go_roundw
      case rel => exact ⟨k + 1, g, by omega, rfl, by go_num, (by have h := HB4; rw [Nat.zero_add, Nat.mul_one] at h; exact h)⟩
      case measure => simp [intOf]; omega
    · have hkn : k = n := by omega
      subst hkn
      obtain ⟨m, hm⟩ : ∃ m, ms[k + 1]? = some m := ⟨ms[k + 1]'(by rw [hB.len]; omega), List.getElem?_eq_getElem _⟩
      have cm := hB.cell hm
      obtain ⟨d1, d2⟩ := hB.den _ _ hm
      by_cases h0 : k = 0
      · have HG : Hid (Grew noX A w y s wr 0 (lastF Q)) := ⟨N, y1, hB.tab, hB.within, by omega, by unfold lastF; rw [if_pos (by rw [← HN.out]; exact h0)]; exact Bd.den_zero _, hB.moves⟩
        subst h0
        clear hB H cm d1 d2 hm hlt
        go_wp2
        go_ret
        exact ⟨0, rfl, HG.out⟩
      · have HG : Hid (Grew noX A w y s wr m (lastF Q)) := ⟨N, y1, hB.tab, hB.within, d1, by unfold lastF; rw [if_neg (by rw [← HN.out]; exact h0), ← HN.out]; exact d2, hB.moves⟩
        have hk0 : ((k : Int) == 0) = false := by rw [beq_eq_false_iff_ne]; omega
        clear hB H d1 d2 hm hlt
        go_wp2
        go_ret
        exact ⟨m, rfl, HG.out⟩
end Go.Proofs.Ytnkipdlfpnmgeaa
namespace Go.Proofs.Ytnkipdlfpnmgeaa
open Go.RowKit Go.Maps
open Bd (Nd)

set_option maxHeartbeats 4000000 in
theorem make_how {M : Nat} {w : World} {y : Lay} {s : St} (A : Bd.Fam s.bits M) (hT : Tab w y s) (hW : Bd.Within A s.L) (hlim : s.bits * M ≤ s.limit) (B : Nat) (Q : List Nd) (lv : Value) (h0 : w.heap[B]? = some (.cells #[.pointer (some ⟨y.tb, 0, none⟩)] 23 (0, 0))) (h1 : w.heap[B + 1]? = some (.cells #[lv] 41 (0, 0)))
    (hy : ¬ y.own B ∧ ¬ y.own (B + 1)) (hl : w.ownsRow 0 62 3 lv Q.length (flat Q)) (hdis : ∀ k, lv.ownBlock = some k → ¬ y.own k) (hQ : Bd.Okay s.bits Q) (hlen : Q.length ≤ 1073741824) (hF : Bd.Within A Q) (nv : Value) :
    Calls Try.prog 83 #[nv, .pointer (some ⟨B, 0, none⟩), .pointer (some ⟨B + 1, 0, none⟩)] w fun e w' => ∃ r, e = .returned (i6 r) ∧ Grew noX A w y s w' r (lastF Q) := by
  have c0 : w.cell? ⟨B, 0, none⟩ = some (.pointer (some ⟨y.tb, 0, none⟩)) := by rw [cell_at h0]; rfl
  have c1 : w.cell? ⟨B + 1, 0, none⟩ = some lv := by rw [cell_at h1]; rfl
  have c6 : w.cell? ⟨y.tb, 6, none⟩ = some (.int .i64 s.limit) := by rw [cell_at hT.cells]; rfl
  have hsl := hT.small
  have HC : Hid (Calls Try.prog 47 #[.pointer (some ⟨y.tb, 3, none⟩), .int .i64 s.limit] w.drew fun e w1 => e = .returned (.pointer (some ⟨w.heap.size + 1, 0, none⟩)) ∧ w1.cell? ⟨B, 0, none⟩ = some (.pointer (some ⟨y.tb, 0, none⟩)) ∧ w1.cell? ⟨B + 1, 0, none⟩ = some lv ∧ w1.cell? ⟨y.tb, 6, none⟩ = some (.int .i64 s.limit) ∧
      Hid (Calls Try.prog 84 #[.pointer (some ⟨w.heap.size + 1, 0, none⟩), lv] w1 fun e w2 => ∃ r : Nat, e = .returned (.int .i64 r) ∧ w2.cell? ⟨B, 0, none⟩ = some (.pointer (some ⟨y.tb, 0, none⟩)) ∧ w2.cell? ⟨B + 1, 0, none⟩ = some lv ∧ w2.cell? ⟨y.tb, 6, none⟩ = some (.int .i64 s.limit) ∧ Hid (Grew noX A w y s w2 r (lastF Q)))) := by
    refine (step_any w.drew y.tb s.limit).mono ?_
    rintro e w1 ⟨rfl, rfl⟩
    obtain ⟨s1, s2, s3⟩ := step_new w.drew y.tb s.limit
    have s3' : Below w.heap.size w _ := (Below.refl w.heap.size w).drew.trans s3
    have lB := block_lt h0
    have lB1 := block_lt h1
    have ltb := hT.lt y.own_tb
    refine ⟨rfl, by rw [s3'.cell (by exact lB)]; exact c0, by rw [s3'.cell (by exact lB1)]; exact c1, by rw [s3'.cell (by exact ltb)]; exact c6, ?_⟩
    have hT1 := hT.below s3'
    have hns : ¬ y.own (w.heap.size + 1) := fun ho => by have := hT.lt ho; omega
    refine (build_any A hT1 hW (w.heap.size + 1) s.limit w.heap.size s1 hns hlim (by omega) Q lv (row_same hl fun g hg => s3'.block g (hl.lt g hg).2) hdis hQ hlen hF).mono ?_
    rintro e w2 ⟨r, rfl, hG⟩
    obtain ⟨N, y2, t2, wi2, hr2, d2, m2⟩ := hG.ex
    have z := s3'.size
    have b0 := m2.block B (by omega) hy.1 (fun h => h)
    have b1 := m2.block (B + 1) (by omega) hy.2 (fun h => h)
    refine ⟨r, rfl, ?_, ?_, ?_, N, y2, t2, wi2, hr2, d2, (moves_below y s3').trans m2⟩
    · rw [World.cell?_of_block b0, s3'.cell (by exact lB)]; exact c0
    · rw [World.cell?_of_block b1, s3'.cell (by exact lB1)]; exact c1
    · rw [← m2.tb, cell_at t2.cells]; rfl
  clear hT hW hlim h0 h1 hy hl hdis hQ hF
  go_enter Try.func83, Try.ntmps83
  go_wp2_with fail
  go_region_held3 (fun w' => w'.cell? ⟨B, 0, none⟩ = some (.pointer (some ⟨y.tb, 0, none⟩)) ∧ w'.cell? ⟨B + 1, 0, none⟩ = some lv ∧ w'.cell? ⟨y.tb, 6, none⟩ = some (.int .i64 s.limit)) (first | (go_keep; done) | exact ⟨q1, q2, q3⟩ | exact ⟨p1, p2, p3⟩) (first | (go_at_call 84; refine HC2.out.mono ?_; rintro e w2 ⟨r, rfl, q1, q2, q3, HG⟩) | (go_at_call 47; refine HC.out.mono ?_; rintro e w1 ⟨rfl, p1, p2, p3, HC2⟩))
  go_wp2_with fail
  go_ret
  exact ⟨r, rfl, HG.out⟩

theorem enter_Make : ∀ args w, (callFunc 83 args).run Try.prog w = .ok (.enter 83 args) w := fun args w => by kernel_rfl

set_option maxHeartbeats 4000000 in
theorem Make_ok {M : Nat} {w : World} {y : Lay} {s : St} (A : Bd.Fam s.bits M) (hT : Tab w y s) (hW : Bd.Within A s.L) (h2 : 2 ≤ s.first) (hsm : s.roots.length + 1 ≤ 1073741824) (hlim : s.bits * M ≤ s.limit) (Q : List Nd) (lv : Value) (hl : w.ownsRow 0 62 3 lv Q.length (flat Q)) (hdis : ∀ k, lv.ownBlock = some k → ¬ y.own k) (hR : Right s.bits Q) (hlen : Q.length ≤ 1073741824) (hF : Bd.Within A Q) :
    Calls Try.prog 60 #[.pointer (some ⟨y.tb, 0, none⟩), lv] w fun e w' => ∃ r, e = .returned (.tuple #[i6 r, .int .i64 0, .int .i64 0]) ∧ Told A w y s w' r (lastF Q) := by
  have hmf : ∀ (fn : Fn) (first cap : Array Value) (w : World), (Instr.makeFunc fn first cap).run Try.prog w = .ok (.func fn first cap) w := fun _ _ _ _ => rfl
  have ltb := hT.lt y.own_tb
  obtain ⟨ao, cp, hlv⟩ : ∃ ao cp, lv = .slice ao Q.length cp := by
    rcases hl.2 with ⟨h1, h2⟩ | ⟨g, cp, cur, h1, _⟩
    · exact ⟨none, 0, by rw [h1, h2]⟩
    · exact ⟨_, _, h1⟩
  obtain ⟨n, hn⟩ : ∃ n, n = Q.length := ⟨_, rfl⟩
  rw [← hn] at hlv
  obtain ⟨x0, x1, xb, xs⟩ := box2 w (.cells #[.pointer (some ⟨y.tb, 0, none⟩)] 23) (.cells #[lv] 41)
  have hTa := hT.below xb
  have hla : ((w.alloc (.cells #[.pointer (some ⟨y.tb, 0, none⟩)] 23)).alloc (.cells #[lv] 41)).drew.ownsRow 0 62 3 lv Q.length (flat Q) := row_same hl fun g hg => xb.block g (hl.lt g hg).2
  have hck := check_ok hla hR hlen
  have HCK : Hid (Calls Try.prog 82 #[lv, .int .i64 s.bits] ((w.alloc (.cells #[.pointer (some ⟨y.tb, 0, none⟩)] 23)).alloc (.cells #[lv] 41)).drew fun e w1 => e = .returned (.tuple #[.int .i64 0, .bool true]) ∧ w1.cell? ⟨w.heap.size, 0, none⟩ = some (.pointer (some ⟨y.tb, 0, none⟩)) ∧ w1.cell? ⟨w.heap.size + 1, 0, none⟩ = some lv ∧ w1.cell? ⟨y.tb, 5, none⟩ = some (.int .i64 s.bits) ∧
      Hid (Calls Try.prog 45 #[.pointer (some ⟨y.tb, 0, none⟩), .slice none 0 0, .func (.func 83) #[] #[.pointer (some ⟨w.heap.size, 0, none⟩), .pointer (some ⟨w.heap.size + 1, 0, none⟩)]] w1 fun e w' => ∃ r, e = .returned (.tuple #[i6 r, .int .i64 0]) ∧ Hid (Told A w y s w' r (lastF Q)))) := by
    refine hck.mono ?_
    rintro e w1 ⟨rfl, hb1⟩
    have hb1' : Below (w.heap.size + 2) ((w.alloc (.cells #[.pointer (some ⟨y.tb, 0, none⟩)] 23)).alloc (.cells #[lv] 41)) w1 := by
      rw [← xs]; exact ⟨hb1.os, hb1.tape, hb1.output, hb1.size, hb1.block⟩
    have y0 : w1.heap[w.heap.size]? = _ := (hb1'.block _ (by omega)).trans x0
    have y1 : w1.heap[w.heap.size + 1]? = _ := (hb1'.block _ (by omega)).trans x1
    have hbw : Below w.heap.size w w1 := xb.trans (hb1'.mono (by omega))
    have hT1 := hT.below hbw
    refine ⟨rfl, by rw [cell_at y0]; rfl, by rw [cell_at y1]; rfl, by rw [cell_at hT1.cells]; rfl, ?_⟩
    refine (answer_ok A hT1 h2 hsm hlim (.slice none 0 0) [] [] ⟨none, 0, rfl, fun i r h => by simp at h⟩ (by simp) ⟨rfl, fun i r h => by simp at h⟩ 83 enter_Make #[.pointer (some ⟨w.heap.size, 0, none⟩), .pointer (some ⟨w.heap.size + 1, 0, none⟩)] (lastF Q) ?_).mono ?_
    · intro w2 g hb2 _ _
      have hb2' : Below w1.heap.size w1 w2 := hb2
      have z1 := block_lt y0
      have z2 := block_lt y1
      have hbw2 : Below w.heap.size w w2 := hbw.trans (hb2'.mono hbw.size)
      exact make_how A (hT1.below hb2') hW hlim w.heap.size Q lv ((hb2'.block _ z1).trans y0) ((hb2'.block _ z2).trans y1) ⟨fun ho => by have := hT.lt ho; omega, fun ho => by have := hT.lt ho; omega⟩ (row_same hl fun g hg => hbw2.block g (hl.lt g hg).2) hdis hR.okay hlen hF _
    · rintro e w' ⟨r, rfl, ⟨N, tt, y', m, q1, q2, q3, q4, q5, q6, q7⟩⟩
      exact ⟨r, rfl, N, tt, y', m, q1, q2, q3, q4, q5, (moves_below y hbw).trans q6, q7⟩
  have c5 : ((w.alloc (.cells #[.pointer (some ⟨y.tb, 0, none⟩)] 23)).alloc (.cells #[lv] 41)).cell? ⟨y.tb, 5, none⟩ = some (.int .i64 s.bits) := by rw [cell_at hTa.cells]; rfl
  have HTA := keep hTa
  clear hT hW h2 hsm hlim hF hR hck hTa x0 x1 xb xs hl hla hdis hlen hn
  subst hlv
  go_enter Try.func60, Try.ntmps60
  go_wp2_with (first | (go_at_call 34; refine (made_ok HTA.out).mono ?_; rintro e w' ⟨rfl, rfl⟩))
  go_region_held3 (fun w' => w'.cell? ⟨w.heap.size, 0, none⟩ = some (.pointer (some ⟨y.tb, 0, none⟩)) ∧ w'.cell? ⟨w.heap.size + 1, 0, none⟩ = some (.slice ao n cp) ∧ w'.cell? ⟨y.tb, 5, none⟩ = some (.int .i64 s.bits)) (first | (go_keep; done) | exact ⟨q1, q2, q3⟩) (first | (go_at_call 82; refine HCK.out.mono ?_; rintro e w1 ⟨rfl, q1, q2, q3, HANS⟩))
  go_wp2_with (first | (go_at_call 45; refine HANS.out.mono ?_; rintro e w' ⟨r, rfl, HT⟩))
  go_ret3
  exact ⟨r, rfl, HT.out⟩
end Go.Proofs.Ytnkipdlfpnmgeaa
namespace Go.Proofs.Ytnkipdlfpnmgeaa
open Go.RowKit Go.Maps
open Bd (Nd)

theorem node_no (s : St) : s.node? 0 = some 0 := rfl
theorem node_yes (s : St) : s.node? 1 = some 1 := rfl

/-- Two refs of one node are one. -/
theorem node_inj {w : World} {y : Lay} {s : St} (hT : Tab w y s) {r r' m : Nat} (h : s.node? r = some m) (h' : s.node? r' = some m) : r = r' := by
  have root : ∀ q, ¬ q < 2 → s.node? q = some m → s.first ≤ q ∧ s.roots[q - s.first]? = some m := by
    intro q hq hn
    unfold St.node? at hn
    rw [if_neg hq] at hn
    by_cases h2 : s.first ≤ q
    · rw [if_pos h2] at hn; exact ⟨h2, hn⟩
    · rw [if_neg h2] at hn; cases hn
  have small : ∀ q, q < 2 → s.node? q = some m → q = m := by
    intro q hq hn
    unfold St.node? at hn
    rw [if_pos hq] at hn
    exact Option.some.inj hn
  have big : ∀ q, s.roots[q]? = some m → 2 ≤ m := fun q hq => (hT.valid.2 m (List.mem_of_getElem? hq)).1
  by_cases h1 : r < 2
  · have e1 := small r h1 h
    by_cases h3 : r' < 2
    · exact e1.trans (small r' h3 h').symm
    · have := big _ (root r' h3 h').2
      omega
  · obtain ⟨a1, a2⟩ := root r h1 h
    by_cases h3 : r' < 2
    · have := small r' h3 h'
      have := big _ a2
      omega
    · obtain ⟨b1, b2⟩ := root r' h3 h'
      have i1 := Bd.getElem?_lt a2
      have i2 := Bd.getElem?_lt b2
      rw [List.getElem?_eq_getElem i1] at a2
      rw [List.getElem?_eq_getElem i2] at b2
      have e : s.roots[r - s.first] = s.roots[r' - s.first] := by rw [Option.some.inj a2, Option.some.inj b2]
      have := (List.getElem_inj (h₀ := i1) (h₁ := i2) hT.valid.1).1 e
      omega
end Go.Proofs.Ytnkipdlfpnmgeaa
namespace Go.Proofs.Ytnkipdlfpnmgeaa
open Go.RowKit Go.Maps

/-- No table, or one that New did not make. -/
def Nobody (w : World) (p : Value) : Prop := p = .pointer none ∨ ∃ g, p = .pointer (some ⟨g, 0, none⟩) ∧ w.cell? ⟨g, 7, none⟩ = some (.pointer none)
theorem Nobody.below {w w' : World} {p : Value} (h : Nobody w p) (hb : Below w.heap.size w w') : Nobody w' p := by
  rcases h with h | ⟨g, h, hc⟩
  · exact Or.inl h
  · exact Or.inr ⟨g, h, by rw [hb.cell (World.block_lt_of_cell? w _ hc)]; exact hc⟩
theorem eql_none (w : World) (a : Addr) : (binOp .eql 23 (.pointer none) (.pointer (some a))).run Try.prog w = .ok (.bool false) w := by
  have h : ∀ d : Nat, (Op.equalIn (d + 1) 23 (.pointer none) (.pointer (some a))).run Try.prog w = .ok false w := fun d => by
    simp [Op.equalIn, run_underlying Try.underlying23, sizeOf, typeInfo]
  simp only [binOp]
  simp [Op.equal, Op.maxDepth, h 9999]
theorem made_no {w : World} {p : Value} (h : Nobody w p) : Calls Try.prog 34 #[p] w fun e w' => e = .returned (.bool false) ∧ w' = w := by
  rcases h with rfl | ⟨g, rfl, c7⟩
  · go_enter Try.func34, Try.ntmps34
    go_wp2
    go_ret
    exact ⟨rfl, rfl⟩
  · have hq := eql_none w
    go_enter Try.func34, Try.ntmps34
    go_wp2
    go_ret
    exact ⟨rfl, rfl⟩

theorem Nobody.pointer {w : World} {p : Value} (h : Nobody w p) : ∃ a, p = .pointer a := by
  rcases h with h | ⟨g, h, _⟩
  · exact ⟨_, h⟩
  · exact ⟨_, h⟩

set_option maxHeartbeats 400000 in
theorem Bits_no {w : World} {p : Value} (h : Nobody w p) : Calls Try.prog 27 #[p] w fun e w' => e = .returned (.int .i64 0) ∧ w' = w := by
  have q := made_no h
  obtain ⟨a, rfl⟩ := h.pointer
  clear h
  go_enter Try.func27, Try.ntmps27
  go_wp2_with fail
  refine q.mono ?_
  rintro e w' ⟨rfl, rfl⟩
  go_wp2
  go_ret
  exact ⟨rfl, rfl⟩
set_option maxHeartbeats 400000 in
theorem Size_no {w : World} {p : Value} (h : Nobody w p) : Calls Try.prog 13 #[p] w fun e w' => e = .returned (.int .i64 0) ∧ w' = w := by
  have q := made_no h
  obtain ⟨a, rfl⟩ := h.pointer
  clear h
  go_enter Try.func13, Try.ntmps13
  go_wp2_with fail
  refine q.mono ?_
  rintro e w' ⟨rfl, rfl⟩
  go_wp2
  go_ret
  exact ⟨rfl, rfl⟩

set_option maxHeartbeats 400000 in
theorem Cube_no {w : World} {p : Value} (h : Nobody w p) (t : ByteArray) : Calls Try.prog 22 #[p, .string t] w fun e w' => ∃ r, e = .returned (.tuple #[r, .int .i64 4]) ∧ Below w.heap.size w w' := by
  have hb : Below w.heap.size w ((w.alloc (.cells #[p] 23)).alloc (.cells #[.string t] 9)) := ((Below.refl _ _).alloc (Nat.le_refl _) _).alloc (by simp) _
  have q := made_no (h.below hb)
  have HB := keep hb
  obtain ⟨a, rfl⟩ := h.pointer
  clear h hb
  go_enter Try.func22, Try.ntmps22
  go_wp2_with fail
  refine q.mono ?_
  rintro e w' ⟨rfl, rfl⟩
  go_wp2
  go_ret2
  exact ⟨_, rfl, HB.out⟩
set_option maxHeartbeats 400000 in
theorem Make_no {w : World} {p : Value} (h : Nobody w p) (ao : Option Addr) (len cap : Nat) : Calls Try.prog 60 #[p, .slice ao len cap] w fun e w' => ∃ r n, e = .returned (.tuple #[r, n, .int .i64 4]) ∧ Below w.heap.size w w' := by
  have hb : Below w.heap.size w ((w.alloc (.cells #[p] 23)).alloc (.cells #[.slice ao len cap] 41)) := ((Below.refl _ _).alloc (Nat.le_refl _) _).alloc (by simp) _
  have q := made_no (h.below hb)
  have HB := keep hb
  obtain ⟨a, rfl⟩ := h.pointer
  clear h hb
  go_enter Try.func60, Try.ntmps60
  go_wp2_with fail
  refine q.mono ?_
  rintro e w' ⟨rfl, rfl⟩
  go_wp2
  go_ret3
  exact ⟨_, _, rfl, HB.out⟩
set_option maxHeartbeats 400000 in
theorem root_no {w : World} {p : Value} (h : Nobody w p) (v : Value) : Calls Try.prog 35 #[p, v] w fun e w' => e = .returned (.tuple #[.int .i64 0, .int .i64 4]) ∧ w' = w := by
  have q := made_no h
  obtain ⟨a, rfl⟩ := h.pointer
  clear h
  go_enter Try.func35, Try.ntmps35
  go_wp2_with fail
  refine q.mono ?_
  rintro e w' ⟨rfl, rfl⟩
  go_wp2
  go_ret2
  exact ⟨rfl, rfl⟩

/-- What follows a root that none has. -/
def RootErr (w : World) (p v : Value) (err : Int) : Prop := Calls Try.prog 35 #[p, v] w fun e w' => e = .returned (.tuple #[.int .i64 0, .int .i64 err]) ∧ Below w.heap.size w w'
theorem root_err_no {w : World} {p : Value} (h : Nobody w p) (v : Value) : RootErr w p v 4 := (root_no h v).mono fun e w' ⟨h1, h2⟩ => ⟨h1, by rw [h2]; exact Below.refl _ _⟩

set_option maxHeartbeats 400000 in
theorem Any_err {w : World} {p : Value} {err : Int} (he : err = 4 ∨ err = 22) (r : Int) (h : RootErr w p (.int .i64 r) err) : Calls Try.prog 40 #[p, .int .i64 r] w fun e w' => ∃ r s, e = .returned (.tuple #[r, s, .int .i64 err]) ∧ Below w.heap.size w w' := by
  have hn : (err != 0) = true := by rcases he with rfl | rfl <;> rfl
  have H := keep h
  clear h
  go_enter Try.func40, Try.ntmps40
  go_wp2_with fail
  refine H.out.mono ?_
  rintro e w' ⟨rfl, hb⟩
  go_wp2
  go_ret3
  exact ⟨_, _, rfl, hb⟩
set_option maxHeartbeats 400000 in
theorem List_err {w : World} {p : Value} {err : Int} (he : err = 4 ∨ err = 22) (r : Int) (h : RootErr w p (.int .i64 r) err) : Calls Try.prog 15 #[p, .int .i64 r] w fun e w' => ∃ r, e = .returned (.tuple #[r, .int .i64 err]) ∧ Below w.heap.size w w' := by
  have hn : (err != 0) = true := by rcases he with rfl | rfl <;> rfl
  have H := keep h
  clear h
  go_enter Try.func15, Try.ntmps15
  go_wp2_with fail
  refine H.out.mono ?_
  rintro e w' ⟨rfl, hb⟩
  go_wp2
  go_ret2
  exact ⟨_, rfl, hb⟩
end Go.Proofs.Ytnkipdlfpnmgeaa
namespace Go.Proofs.Ytnkipdlfpnmgeaa
open Go.RowKit Go.Maps

/-- answer fails. -/
def AnsErr (w : World) (p v : Value) (err : Int) : Prop := ∀ f, Calls Try.prog 45 #[p, v, f] w fun e w' => e = .returned (.tuple #[.int .i64 0, .int .i64 err]) ∧ Below w.heap.size w w'

set_option maxHeartbeats 1000000 in
theorem answer_no {w : World} {p : Value} (h : Nobody w p) (v : Value) : AnsErr w p v 4 := by
  intro f
  have hb : Below w.heap.size w (((w.alloc (.cells #[p] 23)).alloc (.cells #[.int .i64 0] 25)).alloc (.cells #[.int .i64 0] 30)) := (((Below.refl _ _).alloc (Nat.le_refl _) _).alloc (by simp) _).alloc (by simp <;> omega) _
  have q := made_no (h.below hb)
  obtain ⟨a, rfl⟩ := h.pointer
  clear h hb
  go_enter_defers Try.func45, Try.ntmps45
  go_wp2_with (refine q.mono ?_; rintro e w' ⟨rfl, rfl⟩)
  refine ⟨.tuple #[.int .i64 0, .int .i64 4], ?_, rfl, (((Below.refl _ _).alloc (Nat.le_refl _) _).alloc (by simp) _).alloc (by simp <;> omega) _⟩
  simp [results, Try.results45, go_sem]

set_option maxHeartbeats 1000000 in
theorem Or_err {w : World} {a : Option Addr} {err : Int} (v : Value) (h : ∀ w1, Below w.heap.size w w1 → AnsErr w1 (.pointer a) v err) : Calls Try.prog 24 #[.pointer a, v] w fun e w' => ∃ r, e = .returned (.tuple #[r, .int .i64 err]) ∧ Below w.heap.size w w' := by
  have hmf : ∀ (fn : Fn) (first cap : Array Value) (w : World), (Instr.makeFunc fn first cap).run Try.prog w = .ok (.func fn first cap) w := fun _ _ _ _ => rfl
  have hb : Below w.heap.size w (w.alloc (.cells #[.pointer a] 23)) := (Below.refl _ _).alloc (Nat.le_refl _) _
  have H := keep (h _ hb)
  have HB := keep hb
  clear h hb
  go_enter Try.func24, Try.ntmps24
  go_wp2_with fail
  refine (H.out _).mono ?_
  rintro e w' ⟨rfl, hb⟩
  have HB2 := keep (HB.out.trans (hb.mono HB.out.size))
  clear hb
  go_wp2
  go_ret2
  exact ⟨_, rfl, HB2.out⟩

/-- Of these three refs there is no answer. -/
def IteErr (w : World) (a : Option Addr) (x y z : Int) (err : Int) : Prop := ∀ w1, Below w.heap.size w w1 → AnsErr (w1.alloc (.cells #[.int .i64 x, .int .i64 y, .int .i64 z] 25)) (.pointer a) (.slice (some ⟨w1.heap.size, 0, none⟩) 3 3) err

theorem ite_err_no {w : World} {a : Option Addr} (h : Nobody w (.pointer a)) (x y z : Int) : IteErr w a x y z 4 := fun _ hb => answer_no ((h.below hb).below ((Below.refl _ _).alloc (Nat.le_refl _) _)) _
end Go.Proofs.Ytnkipdlfpnmgeaa
