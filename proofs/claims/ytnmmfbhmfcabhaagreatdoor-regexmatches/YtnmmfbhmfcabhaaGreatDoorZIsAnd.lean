/-
  The document's spans of a node without Kids.
  The law's own one, path and alike.
  The program's Match of any expression and any path.
  The document's table: all places false.
  Tables of bools in memory.
  The document's Is: is a device one of a node without Kids?
-/
import Derived.Test.YtnmmfbhmfcabhaaGreatDoorZAwakeAnd
import Derived.BigQuiet
import Derived.Deep.QuietTactic
import Derived.Test.YtnmmfbhmfcabhaaGreatDoorYJoinAnd
import Derived.Test.YtnmmfbhmfcabhaaGreatDoorWFewAnd
import Derived.Test.YtnmmfbhmfcabhaaGreatDoorZTakeAnd
import Derived.BigRegion
import Derived.Deep.RegionHeld2
import Derived.Deep.RegionLaw
namespace Go.Proofs.YtnmmfbhmfcabhaaGreatDoor
open Go.RowKit

set_option maxRecDepth 20000 in
set_option maxHeartbeats 2000000 in
theorem RIs_any {w : World} {op : Int} {nm : List UInt8} {ao : Option Addr} {kn cap : Nat} {d : Dv} {vc : Value} (hop : op = 1 ∨ op = 2 ∨ op = 3) (hT : Txs w vc d.2) (hn : d.2.length ≤ maxLen) :
    Calls Tryz.prog 68 #[.agg #[.int .i64 op, .string (tx nm), .slice ao kn cap], .agg #[.string (tx d.1), vc]] w fun e w' => e = .returned (.bool (fitD d op nm)) ∧ Below w.heap.size w w' := by
  have BB := hid (fun (x y : Obj) => (show Below w.heap.size w ((w.alloc x).alloc y) from ((Below.refl _ _).alloc (Nat.le_refl _) _).alloc (by simp) _))
  have HT := hid (fun (W : World) (hb : Below w.heap.size w W) => hT.below hb)
  obtain ⟨bo, cb, rfl, hr⟩ := hT
  obtain ⟨nd, cls⟩ := d
  dsimp only at hn hr HT ⊢
  obtain ⟨n, hnn⟩ : ∃ n, n = cls.length := ⟨_, rfl⟩
  have HN := hid hnn
  unfold maxLen at hn
  rw [← hnn] at hn ⊢
  have HR := hid hr
  clear hr hnn
  rcases hop with rfl | rfl | rfl
  · have HE := hid (show fitD (nd, cls) 1 nm = (nd == nm) by unfold fitD fitB; rw [if_pos rfl])
    rw [HE.out]
    go_enter Tryz.func68, Tryz.ntmps68
    go_wp2
    go_ret
    exact ⟨rfl, BB.out _ _⟩
  · obtain ⟨b, hb⟩ : ∃ b, b = cls.contains nm := ⟨_, rfl⟩
    have HE := hid (show fitD (nd, cls) 2 nm = b by rw [hb]; unfold fitD fitB; rw [if_neg (by omega), if_pos rfl])
    have HBE := hid hb
    rw [HE.out]
    clear hb
    go_enter Tryz.func68, Tryz.ntmps68
    go_wp2_with fail
    generalize hW0 : (w.alloc (Obj.cells #[.int .i64 2, .string (tx nm), .slice ao kn cap] 25)).alloc (Obj.cells #[.string (tx nd), .slice bo n cb] 66) = W0
    have L0 := hid (show Below w.heap.size w W0 by rw [← hW0]; exact BB.out _ _)
    have C0 := hid (show W0.cell? ⟨w.heap.size, 1, none⟩ = some (.string (tx nm)) ∧ W0.cell? ⟨w.heap.size + 1, 1, none⟩ = some (.slice bo n cb) ∧ W0.heap.size = w.heap.size + 2 by
      rw [← hW0]
      refine ⟨?_, ?_, by simp⟩
      · rw [World.cell?_of_block (w := w.alloc (Obj.cells #[.int .i64 2, .string (tx nm), .slice ao kn cap] 25)) (by exact Below.heap_alloc _ _ _ (by simp)), cell_at (new_0 _ _)]; rfl
      · have := new_0 (w.alloc (Obj.cells #[.int .i64 2, .string (tx nm), .slice ao kn cap] 25)) (Obj.cells #[.string (tx nd), .slice bo n cb] 66)
        rw [World.size_alloc] at this
        rw [cell_at this]; rfl)
    clear hW0
    go_loopw [5] (fun x wr => ∃ i : Nat, i ≤ n ∧ x = .int .i64 i ∧ Hid ((cls.take i).contains nm = false) ∧ Hid (Below W0.heap.size W0 wr)) (fun x _ => n - (intOf x).toNat)
    case atStart => exact ⟨0, Nat.zero_le _, rfl, rfl, Below.refl _ _⟩
    case round =>
      obtain ⟨i, hi, rfl, HC, LI⟩ := hrel
      have c0 := (LI.out.cell (p := ⟨w.heap.size, 1, none⟩) (by show w.heap.size < _; have := C0.out.2.2; omega)).trans C0.out.1
      have c1 := (LI.out.cell (p := ⟨w.heap.size + 1, 1, none⟩) (by show w.heap.size + 1 < _; have := C0.out.2.2; omega)).trans C0.out.2.1
      have LW := hid (show Below w.heap.size w wr from L0.out.trans (LI.out.mono L0.out.size))
      by_cases hlt : i < n
      · have hiI : (i : Int) < (n : Int) := by omega
        have hi0 : (0 : Int) ≤ (i : Int) := by omega
        have hlt' : i < cls.length := by rw [← HN.out]; exact hlt
        obtain ⟨g, o, rfl, hg, hc⟩ := HR.out.resolve_left (fun e => by rw [e] at hlt'; simp at hlt')
        have c2 := (LW.out.cell (p := ⟨g, o + i, none⟩) (by exact hg)).trans (hc i hlt')
        rw [List.getD_eq_getElem?_getD, List.getElem?_eq_getElem hlt', Option.getD_some] at c2
        have HTK := hid (show cls.take (i + 1) = cls.take i ++ [cls[i]] from (List.take_append_getElem hlt').symm)
        obtain ⟨z, hz⟩ : ∃ z, z = cls[i] := ⟨_, rfl⟩
        have HZM := hid (show z ∈ cls by rw [hz]; exact List.getElem_mem hlt')
        rw [← hz] at c2 HTK
        clear hc hz hlt'
        by_cases hez : z = nm
        · subst hez
          have HQ := hid (show b = true by rw [HBE.out, List.contains_iff_mem]; exact HZM.out)
          go_wp2_with fail
          go_quiet (fail)
          go_wp2
          exact bodyPost_ret (v := .bool true) (by simp [results, Tryz.results68, go_sem]) rfl ⟨by rw [HQ.out], below_drewN LW.out⟩
        · have hzB : (z == nm) = false := by simpa using hez
          have HQ := hid (show (cls.take (i + 1)).contains nm = false by
            rw [HTK.out]
            have := HC.out
            rw [List.contains_eq_mem, decide_eq_false_iff_not] at this ⊢
            rw [List.mem_append, not_or]
            exact ⟨this, by rw [List.mem_singleton]; exact fun e => hez e.symm⟩)
          clear hez
          go_wp2_with fail
          go_quiet (fail)
          go_wp2
          exact ⟨⟨i + 1, by omega, by go_num, HQ, below_drewN LI.out⟩, by simp [intOf]; omega⟩
      · have hiI : ¬ (i : Int) < (n : Int) := by omega
        have HQ := hid (show b = false by
          rw [HBE.out]
          have := HC.out
          rw [List.take_of_length_le (by rw [← HN.out]; omega)] at this
          exact this)
        go_wp2
        exact bodyPost_ret (v := .bool false) (by simp [results, Tryz.results68, go_sem]) rfl ⟨by rw [HQ.out], LW.out⟩
  · have HE := hid (show fitD (nd, cls) 3 nm = true by unfold fitD fitB; rw [if_neg (by omega), if_neg (by omega)])
    rw [HE.out]
    go_enter Tryz.func68, Tryz.ntmps68
    go_wp2
    go_ret
    exact ⟨rfl, BB.out _ _⟩
end Go.Proofs.YtnmmfbhmfcabhaaGreatDoor
namespace Go.Proofs.YtnmmfbhmfcabhaaGreatDoor
open Go.RowKit

/-- A row of bools. -/
def rowB (n : Nat) (f : Nat → Bool) : Array Value := ((List.range n).map fun j => Value.bool (f j)).toArray
theorem rowB_at {n : Nat} {f : Nat → Bool} {j : Nat} (h : j < n) : (rowB n f)[j]? = some (.bool (f j)) := by
  unfold rowB
  simp [h]
theorem rowB_set {n : Nat} {f : Nat → Bool} (j : Nat) (b : Bool) : (rowB n f).setIfInBounds j (.bool b) = rowB n (fun c => if c = j then b else f c) := by
  apply Array.ext_getElem?
  intro i
  rw [Array.getElem?_setIfInBounds]
  by_cases hi : i < n
  · by_cases hj : j = i
    · subst hj
      rw [if_pos rfl, if_pos (by simp [rowB]; exact hi), rowB_at hi, if_pos rfl]
    · rw [if_neg hj, rowB_at hi, rowB_at hi, if_neg (fun e => hj e.symm)]
  · have e1 : ∀ f : Nat → Bool, (rowB n f)[i]? = none := fun f => by
      rw [Array.getElem?_eq_none]; simp [rowB]; omega
    rw [e1, e1]
    by_cases hj : j = i
    · subst hj
      rw [if_pos rfl, if_neg (by simp [rowB]; omega)]
    · rw [if_neg hj]
theorem rowB_congr {n : Nat} {f g : Nat → Bool} (h : ∀ j, j < n → f j = g j) : rowB n f = rowB n g := by
  unfold rowB
  congr 1
  apply List.map_congr_left
  intro j hj
  rw [h j (List.mem_range.1 hj)]
/-- A table: its rows are one's own. -/
structure TabAt (B : Nat) (w : World) (g : Nat) (n : Nat) (rw : Nat → Nat) (f : Nat → Nat → Bool) : Prop where
  low : B ≤ g
  lt : g < w.heap.size
  cell : ∀ i, i < n → w.cell? ⟨g, i, none⟩ = some (.slice (some ⟨rw i, 0, none⟩) n n)
  row : ∀ i, i < n → B ≤ rw i ∧ rw i ≠ g ∧ w.heap[rw i]? = some (.cells (rowB n (f i)) 4 (0, 0))
  inj : ∀ i k, i < n → k < n → rw i = rw k → i = k
theorem TabAt.on {B : Nat} {w w' : World} {g n : Nat} {rw : Nat → Nat} {f : Nat → Nat → Bool} (h : TabAt B w g n rw f) (hb : Below w.heap.size w w') : TabAt B w' g n rw f :=
  ⟨h.low, Nat.lt_of_lt_of_le h.lt hb.size, fun i hi => (hb.cell (p := ⟨g, i, none⟩) (by exact h.lt)).trans (h.cell i hi), fun i hi => by
    obtain ⟨h1, h2, h3⟩ := h.row i hi
    exact ⟨h1, h2, (hb.block _ (Array.getElem?_eq_some_iff.1 h3).1).trans h3⟩, h.inj⟩
theorem TabAt.congr {B : Nat} {w : World} {g n : Nat} {rw : Nat → Nat} {f f' : Nat → Nat → Bool} (h : TabAt B w g n rw f) (hf : ∀ i j, i < n → j < n → f i j = f' i j) : TabAt B w g n rw f' :=
  ⟨h.low, h.lt, h.cell, fun i hi => by
    obtain ⟨h1, h2, h3⟩ := h.row i hi
    exact ⟨h1, h2, by rw [← rowB_congr (hf i · hi)]; exact h3⟩, h.inj⟩
theorem TabAt.mono {B B' : Nat} {w : World} {g n : Nat} {rw : Nat → Nat} {f : Nat → Nat → Bool} (h : TabAt B w g n rw f) (hB : B' ≤ B) : TabAt B' w g n rw f :=
  ⟨Nat.le_trans hB h.low, h.lt, h.cell, fun i hi => ⟨Nat.le_trans hB (h.row i hi).1, (h.row i hi).2⟩, h.inj⟩
theorem TabAt.at {B : Nat} {w : World} {g n : Nat} {rw : Nat → Nat} {f : Nat → Nat → Bool} (h : TabAt B w g n rw f) {i j : Nat} (hi : i < n) (hj : j < n) : w.cell? ⟨rw i, j, none⟩ = some (.bool (f i j)) := by
  rw [cell_at (h.row i hi).2.2]; exact rowB_at hj
theorem TabAt.free {B : Nat} {w : World} {g n : Nat} {rw : Nat → Nat} {f : Nat → Nat → Bool} (h : TabAt B w g n rw f) {i : Nat} (hi : i < n) (j : Nat) : w.frozen? ⟨rw i, j, none⟩ = false := free_of (h.row i hi).2.2
/-- One place of a table is written. -/
def updF (f : Nat → Nat → Bool) (i j : Nat) (b : Bool) (a c : Nat) : Bool := if a = i ∧ c = j then b else f a c
theorem TabAt.put {B : Nat} {w : World} {g n : Nat} {rw : Nat → Nat} {f : Nat → Nat → Bool} (h : TabAt B w g n rw f) {i : Nat} (hi : i < n) (j : Nat) (b : Bool) : TabAt B (w.setCell ⟨rw i, j, none⟩ (.bool b)) g n rw (updF f i j b) := by
  obtain ⟨h1, h2, h3⟩ := h.row i hi
  refine ⟨h.low, by simpa using h.lt, fun k hk => ?_, fun k hk => ?_, h.inj⟩
  · rw [World.cell?_of_block (w := w) (by exact Below.heap_setCell _ _ _ _ (by show g ≠ rw i; exact fun e => h2 e.symm))]
    exact h.cell k hk
  · obtain ⟨k1, k2, k3⟩ := h.row k hk
    refine ⟨k1, k2, ?_⟩
    by_cases hki : k = i
    · subst hki
      rw [block_set _ k3, rowB_set]
      congr 2
      refine rowB_congr fun c _ => ?_
      unfold updF
      by_cases hc : c = j
      · rw [if_pos hc, if_pos ⟨rfl, hc⟩]
      · rw [if_neg hc, if_neg fun e => hc e.2]
    · rw [Below.heap_setCell _ _ _ _ (by show rw k ≠ rw i; exact fun e => hki (h.inj k i hk hi e)), k3]
      congr 2
      refine rowB_congr fun c _ => ?_
      unfold updF
      rw [if_neg fun e => hki e.1]
/-- Written up to a place, row by row. -/
def upTo (i j : Nat) (f g : Nat → Nat → Bool) (a c : Nat) : Bool := if a < i ∨ a = i ∧ c < j then f a c else g a c
theorem upTo_put (i j : Nat) (f g : Nat → Nat → Bool) : updF (upTo i j f g) i j (f i j) = upTo i (j + 1) f g := by
  funext a c
  unfold updF upTo
  by_cases h1 : a = i ∧ c = j
  · rw [if_pos h1, if_pos (Or.inr ⟨h1.1, by omega⟩), h1.1, h1.2]
  · rw [if_neg h1]
    by_cases h2 : a < i ∨ a = i ∧ c < j
    · rw [if_pos h2, if_pos (by omega)]
    · rw [if_neg h2, if_neg (by omega)]
theorem upTo_row {n : Nat} (i : Nat) (f g : Nat → Nat → Bool) {a c : Nat} (hc : c < n) : upTo i n f g a c = upTo (i + 1) 0 f g a c := by
  unfold upTo
  by_cases h : a < i ∨ a = i ∧ c < n
  · rw [if_pos h, if_pos (by omega)]
  · rw [if_neg h, if_neg (by omega)]
theorem upTo_zero (f g : Nat → Nat → Bool) : upTo 0 0 f g = g := by
  funext a c; unfold upTo; rw [if_neg (by omega)]
theorem upTo_all {n : Nat} (f g : Nat → Nat → Bool) {a c : Nat} (ha : a < n) : upTo n 0 f g a c = f a c := by
  unfold upTo; rw [if_pos (Or.inl ha)]
end Go.Proofs.YtnmmfbhmfcabhaaGreatDoor
namespace Go.Proofs.YtnmmfbhmfcabhaaGreatDoor
open Go.RowKit

theorem Tryz.infoRowB : (Tryz.prog.info? 79).map (fun i => (i.zero, i.size, i.bytes)) = some (some (.slice none 0 0), 1, 24) := by kernel_rfl

theorem Tryz.infoBoolX : (Tryz.prog.info? 4).map (fun i => (i.zero, i.size, i.bytes)) = some (some (.bool false), 1, 1) := by kernel_rfl
theorem made_rowB (n : Nat) : madeCells #[.bool false] n = rowB n fun _ => false := by
  apply Array.ext_getElem?
  intro i
  by_cases hi : i < n
  · rw [rowB_at hi]
    simp [madeCells, hi, Nat.mod_one]
  · rw [Array.getElem?_eq_none (by rw [size_madeCells]; omega), Array.getElem?_eq_none (by simp [rowB]; omega)]
theorem run_rowB (n : Nat) (hn : n ≤ 1000) (w : World) : (Instr.makeSlice 79 (.int .i64 ((n : Int) + 1)) (.int .i64 ((n : Int) + 1))).run Tryz.prog w = .ok (.slice (some ⟨w.heap.size, 0, none⟩) (n + 1) (n + 1)) (w.alloc (.cells (rowB (n + 1) fun _ => false) 4)) := by
  obtain ⟨i, hi, hz0, hz1, hz2⟩ := info_parts Tryz.infoBoolX
  have := run_make (P := Tryz.prog) w 79 4 i (.bool false) Tryz.underlying79 hi hz0 .i64 .i64 ((n : Int) + 1) ((n : Int) + 1) (by omega) (by omega) (by rw [hz2]; omega) (by omega)
  rw [this, hz1, Nat.mul_one, show ((n : Int) + 1).toNat = n + 1 by omega]
  rw [← made_rowB]
  rfl
/-- The rows of a table that is being made. -/
def rowsB (n : Nat) (rs : List Nat) : List Value := rs.map fun b => .slice (some ⟨b, 0, none⟩) n n

/-- What a call that tells a table leaves. -/
def TellT (w : World) (n : Nat) (f : Nat → Nat → Bool) (e : Ending) (w' : World) : Prop := ∃ g cap rw, e = .returned (.slice (some ⟨g, 0, none⟩) n cap) ∧ Hid (TabAt w.heap.size w' g n rw f) ∧ Hid (Below w.heap.size w w')
theorem RowsB.next {w wr w3 : World} {n j vc : Nat} {rs : List Nat} {bo : Option Addr} {v3 : Value} (hO : wr.ownsRow w.heap.size 79 1 (.slice bo j vc) j (rowsB (n + 1) rs)) (hR : rs.length = j ∧ rs.Nodup ∧ ∀ b ∈ rs, w.heap.size ≤ b ∧ (Value.slice bo j vc).ownBlock ≠ some b ∧ wr.heap[b]? = some (.cells (rowB (n + 1) fun _ => false) 4 (0, 0))) (hB : Below w.heap.size w wr)
    (hown3 : w3.ownsRow w.heap.size 79 1 v3 (j + 1) (rowsB (n + 1) rs ++ rowsB (n + 1) [wr.heap.size])) (hgrow3 : ((wr.alloc (.cells (rowB (n + 1) fun _ => false) 4)).alloc (.cells #[.slice (some ⟨wr.heap.size, 0, none⟩) (n + 1) (n + 1)] 79)).grownBy w3 (Value.slice bo j vc).ownBlock) (hblk3 : v3.ownBlock = (Value.slice bo j vc).ownBlock ∨ v3.ownBlock = some (wr.heap.size + 1 + 1)) :
    w3.ownsRow w.heap.size 79 1 v3 (j + 1) (rowsB (n + 1) (rs ++ [wr.heap.size])) ∧ ((rs ++ [wr.heap.size]).length = j + 1 ∧ (rs ++ [wr.heap.size]).Nodup ∧ ∀ b ∈ rs ++ [wr.heap.size], w.heap.size ≤ b ∧ v3.ownBlock ≠ some b ∧ w3.heap[b]? = some (.cells (rowB (n + 1) fun _ => false) 4 (0, 0))) ∧ Below w.heap.size w w3 := by
  obtain ⟨h1, h2, h3⟩ := hR
  have hlt : ∀ b ∈ rs, b < wr.heap.size := fun b hb => (Array.getElem?_eq_some_iff.1 (h3 b hb).2.2).1
  have hol : ∀ b, (Value.slice bo j vc).ownBlock = some b → w.heap.size ≤ b ∧ b < wr.heap.size := fun b hb => hO.lt b hb
  have hsz := hB.size
  have hold : ∀ b, b < wr.heap.size + 1 → some b ≠ (Value.slice bo j vc).ownBlock → w3.heap[b]? = (wr.alloc (.cells (rowB (n + 1) fun _ => false) 4)).heap[b]? := fun b hb hne => by
    rw [hgrow3.block b (by simp only [World.size_alloc]; omega) hne, Below.heap_alloc _ _ _ (by simp only [World.size_alloc]; omega)]
  refine ⟨by rw [show rowsB (n + 1) (rs ++ [wr.heap.size]) = rowsB (n + 1) rs ++ rowsB (n + 1) [wr.heap.size] by simp [rowsB]]; exact hown3, ⟨by simp [h1], ?_, fun b hb => ?_⟩, ?_⟩
  · rw [List.nodup_append]
    refine ⟨h2, by simp, fun a ha b hb => ?_⟩
    rw [List.mem_singleton] at hb
    have := hlt a ha
    omega
  · rcases List.mem_append.1 hb with hb | hb
    · obtain ⟨k1, k2, k3⟩ := h3 b hb
      have := hlt b hb
      refine ⟨k1, fun e => ?_, ?_⟩
      · rcases hblk3 with h | h
        · exact k2 (h.symm.trans e)
        · rw [h] at e; injection e; omega
      · rw [hold b (by omega) (fun e => k2 e.symm), Below.heap_alloc _ _ _ this]; exact k3
    · rw [List.mem_singleton] at hb
      subst hb
      refine ⟨hsz, fun e => ?_, ?_⟩
      · rcases hblk3 with h | h
        · have := (hol _ (h.symm.trans e)).2; omega
        · rw [h] at e; injection e; omega
      · rw [hold _ (by omega) (fun e => by have := (hol _ e.symm).2; omega)]; exact new_0 _ _
  · exact ((hB.alloc (by omega) _).alloc (by simp only [World.size_alloc]; omega) _).grown hgrow3 (by simp only [World.size_alloc]; omega) (fun q hq => (hol q hq).1)

set_option maxRecDepth 20000 in
set_option maxHeartbeats 2000000 in
theorem RTable_any {w : World} {n : Nat} (hn : n ≤ 1000) : Calls Tryz.prog 67 #[.int .i64 n] w fun e w' => TellT w (n + 1) (fun _ _ => false) e w' := by
  obtain ⟨i0, hi, hz0, hz1, hz2⟩ := info_parts Tryz.infoRowB
  have HI := hid hi
  have HZ0 := hid hz0
  have HZ1 := hid hz1
  have HZ2 := hid hz2
  clear hi hz0 hz1 hz2
  have hmk := run_rowB n hn
  go_enter Tryz.func67, Tryz.ntmps67
  go_wp2_with fail
  go_loopw [3, 4] (fun u i wr => ∃ j : Nat, ∃ rs : List Nat, j ≤ n + 1 ∧ i = .int .i64 j ∧ Hid (wr.ownsRow w.heap.size 79 1 u j (rowsB (n + 1) rs)) ∧ Hid (rs.length = j ∧ rs.Nodup ∧ ∀ b ∈ rs, w.heap.size ≤ b ∧ u.ownBlock ≠ some b ∧ wr.heap[b]? = some (.cells (rowB (n + 1) fun _ => false) 4 (0, 0))) ∧ Hid (Below w.heap.size w wr)) (fun _ i _ => n + 1 - (intOf i).toNat)
  case atStart => exact ⟨0, [], Nat.zero_le _, rfl, World.ownsRow_nil _ _ _ _, ⟨rfl, List.nodup_nil, fun b hb => by simp at hb⟩, Below.refl _ _⟩
  case round =>
    obtain ⟨j, rs, hj, rfl, HO, HR, HB⟩ := hrel
    obtain ⟨bo, vc, rfl⟩ := own_form HO.out
    by_cases hlt : j ≤ n
    · have hkI : (j : Int) ≤ (n : Int) := by omega
      go_wp2_with (first | (at_builtin; refine wpList_append_srcX _ rfl _ _ 80 rfl w.heap.size 79 i0 (.slice none 0 0) 1 24 Tryz.underlying80 HI.out HZ0.out HZ1.out HZ2.out rfl (by decide) (.slice bo j vc) j (rowsB (n + 1) rs) rfl ((HO.out.alloc _).alloc _) (.slice (some ⟨wr.heap.size + 1, 0, none⟩) 1 1) 1 (rowsB (n + 1) [wr.heap.size]) rfl (Or.inr ⟨_, _, rfl, rfl, new_cells _ #[.slice (some ⟨wr.heap.size, 0, none⟩) (n + 1) (n + 1)] _ _ (by simp)⟩) ?c2 ?c3 ?c4 ?c5 ?_))
      case c2 => intro u hu; rw [List.mem_singleton.1 hu]; rfl
      case c3 => unfold maxLen; omega
      case c4 => omega
      case c5 => have := HB.out.size; simp only [World.size_alloc]; omega
      intro v3 w3 hown3 hgrow3 hblk3
      obtain ⟨a3, c3, rfl⟩ := own_form hown3
      have X3 := hid (RowsB.next HO.out HR.out HB.out hown3 hgrow3 hblk3)
      clear hown3 hgrow3 hblk3
      go_wp2
      go_roundw
      case rel => exact ⟨j + 1, rs ++ [wr.heap.size], by omega, by go_num, X3.out.1, X3.out.2.1, X3.out.2.2⟩
      case measure => simp [intOf]; omega
    · have hkI : ¬ ((j : Int) ≤ (n : Int)) := by omega
      obtain rfl : j = n + 1 := by omega
      obtain ⟨g, cap, hv, hg, hgl, hc⟩ := ownX_form HO.out (by omega)
      injection hv with hv1 _ hv2
      subst hv1 hv2
      go_wp2
      refine bodyPost_ret (v := .slice (some ⟨g, 0, none⟩) (n + 1) vc) (by simp [results, Tryz.results67, go_sem]) rfl ⟨g, vc, fun i => rs.getD i 0, rfl, ⟨hg, hgl, fun i hi => ?_, fun i hi => ?_, fun i k hi hk e => ?_⟩, HB⟩
      · refine hc i _ ?_
        have hi' : i < rs.length := by rw [HR.out.1]; exact hi
        simp [rowsB, List.getD_eq_getElem?_getD, List.getElem?_eq_getElem hi']
      · have hi' : i < rs.length := by rw [HR.out.1]; exact hi
        have e : rs.getD i 0 = rs[i] := by simp [List.getD_eq_getElem?_getD, List.getElem?_eq_getElem hi']
        obtain ⟨h1, h2, h3⟩ := HR.out.2.2 rs[i] (List.getElem_mem hi')
        rw [e]
        refine ⟨h1, fun e => h2 (by rw [e]; rfl), h3⟩
      · have hi' : i < rs.length := by rw [HR.out.1]; exact hi
        have hk' : k < rs.length := by rw [HR.out.1]; exact hk
        have e1 : rs.getD i 0 = rs[i] := by simp [List.getD_eq_getElem?_getD, List.getElem?_eq_getElem hi']
        have e2 : rs.getD k 0 = rs[k] := by simp [List.getD_eq_getElem?_getD, List.getElem?_eq_getElem hk']
        rw [e1, e2] at e
        exact (List.getElem_inj HR.out.2.1).1 e
end Go.Proofs.YtnmmfbhmfcabhaaGreatDoor
namespace Go.Proofs.YtnmmfbhmfcabhaaGreatDoor
open Go.RowKit

set_option maxRecDepth 20000 in
set_option maxHeartbeats 2000000 in
theorem gMatch_any {w : World} {v vp : Value} {r : Rx} {ps : Whos} (hS : RxS w v r.kids) (hF : r.Fit) (hP : PathAt w vp ps) (hn : ps.length ≤ 1000000) :
    Calls Tryz.prog 19 #[.agg #[.int .i64 r.op, .string (tx r.name), v], vp] w fun e w' => e = .returned (.tuple #[.bool (if chkN r = 0 then matchB r ps else false), .int .i64 (chkN r)]) ∧ Below w.heap.size w w' := by
  by_cases hc : chkN r = 0
  · by_cases hne : ps = []
    · subst hne
      have hn1 := (chk_zero hc).2
      have HMB := hid (show (if chkN r = 0 then matchB r [] else false) = (Sp.of r).em by rw [if_pos hc]; rfl)
      rw [HMB.out, hc]
      have HCK := hid (fun (W : World) (hb : Below w.heap.size w W) => (by
        have := gCheck_any (r := r) (hS.on hb) hF
        rw [hc] at this
        exact this : Calls Tryz.prog 12 #[.agg #[.int .i64 r.op, .string (tx r.name), v]] W fun e w' => e = .returned (.int .i64 ((0 : Nat) : Int)) ∧ Below W.heap.size W w'))
      have HSO := hid (fun (W : World) (hb : Below w.heap.size w W) => spotOf_any r (hS.on hb) (by omega) W (Below.refl _ _))
      obtain ⟨ao, cap, rfl, -⟩ := hS.at
      obtain ⟨po, pcap, rfl, -⟩ := hP
      have HB0 := hid (boxed.start w r (.slice ao r.kids.length cap))
      obtain ⟨kn, hkn⟩ : ∃ kn, kn = r.kids.length := ⟨_, rfl⟩
      rw [← hkn] at HCK HSO HB0 ⊢
      clear hS hF hc hn1 hkn HMB hn
      go_enter Tryz.func19, Tryz.ntmps19
      go_wp2_with fail
      refine (HCK.out _ HB0.out.low).mono ?_
      rintro en w1 ⟨rfl, hb1⟩
      have B1 := hid (HB0.out.on hb1)
      obtain ⟨c0, c1, c2⟩ := B1.out.cells
      clear hb1
      go_wp2_with fail
      refine (HSO.out _ B1.out.low).mono ?_
      rintro en w2 ⟨u, sn, sc, bs, rfl, -, -, BJ⟩
      have B2 := hid (show Below w.heap.size w w2 from below_2x B1.out.low BJ.out)
      have hsz := B2.out.size
      clear c0 c1 c2
      go_wp2_with fail
      try (go_quiet (fail); go_wp2_with fail)
      first
        | exact bodyPost_ret (v := .tuple #[.bool (Sp.of r).em, .int .i64 0]) (by simp [results, Tryz.results19, go_sem]) rfl ⟨rfl, B2.out.alloc hsz _⟩
        | exact bodyPost_ret (v := .tuple #[.bool (Sp.of r).em, .int .i64 0]) (by simp [results, Tryz.results19, go_sem]) rfl ⟨rfl, below_drewN (B2.out.alloc hsz _)⟩
    · refine (gMatch_ok hS hF hc hP hn hne).mono ?_
      rintro e w' ⟨rfl, hb⟩
      exact ⟨by rw [if_pos hc, hc]; rfl, hb⟩
  · have HMB := hid (show (if chkN r = 0 then matchB r ps else false) = false by rw [if_neg hc])
    rw [HMB.out]
    have HCK := hid (fun (W : World) (hb : Below w.heap.size w W) => gCheck_any (r := r) (hS.on hb) hF)
    obtain ⟨ao, cap, rfl, -⟩ := hS.at
    obtain ⟨po, pcap, rfl, -⟩ := hP
    have HB0 := hid (boxed.start w r (.slice ao r.kids.length cap))
    obtain ⟨kn, hkn⟩ : ∃ kn, kn = r.kids.length := ⟨_, rfl⟩
    obtain ⟨c, hcc⟩ : ∃ c, c = chkN r := ⟨_, rfl⟩
    rw [← hkn] at HCK HB0 ⊢
    rw [← hcc] at HCK hc ⊢
    have hcI : ((c : Int) == 0) = false := by rw [beq_eq_false_iff_ne]; omega
    clear hS hF hc hkn HMB hcc hn
    go_enter Tryz.func19, Tryz.ntmps19
    go_wp2_with fail
    refine (HCK.out _ HB0.out.low).mono ?_
    rintro en w1 ⟨rfl, hb1⟩
    have B1 := hid (HB0.out.on hb1)
    clear hb1
    go_wp2
    refine bodyPost_ret (v := .tuple #[.bool false, .int .i64 c]) (by simp [results, Tryz.results19, go_sem]) rfl ⟨rfl, B1.out.low⟩
end Go.Proofs.YtnmmfbhmfcabhaaGreatDoor
namespace Go.Proofs.YtnmmfbhmfcabhaaGreatDoor
open Go.RowKit

/-- What a call that tells an expression leaves. -/
def TellS (w : World) (r : Rx) (e : Ending) (w' : World) : Prop := ∃ u n c, e = .returned (.agg #[.int .i64 r.op, .string (tx r.name), .slice u n c]) ∧ Hid (RxS w' (.slice u n c) r.kids) ∧ Hid (Below w.heap.size w w')
theorem rx_row1 {w : World} {g : Nat} {r : Rx} {v : Value} {cs : Array Value} (hb : w.heap[g]? = some (.cells cs 25 (0, 0))) (c0 : cs[0]? = some (.int .i64 r.op)) (c1 : cs[1]? = some (.string (tx r.name))) (c2 : cs[2]? = some v) (h : RxS w v r.kids) : RxS w (.slice (some ⟨g, 0, none⟩) 1 1) [r] := by
  refine RxS.some g 0 1 [r] [v] (Array.getElem?_eq_some_iff.1 hb).1 rfl (fun i k u hk hu => ?_) (fun i k u hk hu => ?_)
  · cases i with
    | zero =>
      simp at hk hu
      subst hk hu
      exact ⟨by rw [cell_at hb]; exact c0, by rw [cell_at hb]; exact c1, by rw [cell_at hb]; exact c2⟩
    | succ i => simp at hk
  · cases i with
    | zero =>
      simp at hk hu
      subst hk hu
      exact h
    | succ i => simp at hk

set_option maxRecDepth 20000 in
set_option maxHeartbeats 2000000 in
theorem one_any {w : World} {v : Value} {r : Rx} {op : Int} (hS : RxS w v r.kids) : Calls Tryz.prog 24 #[.int .i64 op, .agg #[.int .i64 r.op, .string (tx r.name), v]] w fun e w' => TellS w (oneR op r) e w' := by
  have HS := hid hS
  obtain ⟨ao, cap, rfl, -⟩ := hS.at
  obtain ⟨kn, hkn⟩ : ∃ kn, kn = r.kids.length := ⟨_, rfl⟩
  rw [← hkn] at HS ⊢
  clear hS hkn
  go_enter Tryz.func24, Tryz.ntmps24
  go_wp2
  have hB := (((Below.refl w.heap.size w).alloc (Nat.le_refl _) (rxo r.op r.name (.slice ao kn cap))).alloc (by simp) (rxo op [] (.slice (some ⟨w.heap.size + 1 + 1, 0, none⟩) 1 1))).alloc (by simp only [World.size_alloc]; omega) (rxo r.op r.name (.slice ao kn cap))
  refine bodyPost_ret (v := .agg #[.int .i64 op, .string (tx []), .slice (some ⟨w.heap.size + 1 + 1, 0, none⟩) 1 1]) (by simp [results, Tryz.results24, go_sem]) rfl ⟨_, _, _, rfl, ?_, hB⟩
  have hnew := new_0 ((w.alloc (rxo r.op r.name (.slice ao kn cap))).alloc (rxo op [] (.slice (some ⟨w.heap.size + 1 + 1, 0, none⟩) 1 1))) (rxo r.op r.name (.slice ao kn cap))
  simp only [World.size_alloc] at hnew
  exact rx_row1 hnew rfl rfl rfl (HS.out.on hB)

/-- A path, cut. -/
theorem PathAt.cut {w : World} {v : Value} {ps : Whos} (h : PathAt w v ps) : ∃ ao cap, v = .slice ao ps.length cap := by
  obtain ⟨ao, cap, e, _⟩ := h
  exact ⟨ao, cap, e⟩
theorem PathAt.on {w w' : World} {v : Value} {ps : Whos} (h : PathAt w v ps) (hb : Below w.heap.size w w') : PathAt w' v ps := by
  obtain ⟨ao, cap, e, hr⟩ := h
  refine ⟨ao, cap, e, ?_⟩
  rcases hr with hr | ⟨g, o, ea, hg, hc⟩
  · exact Or.inl hr
  · refine Or.inr ⟨g, o, ea, Nat.lt_of_lt_of_le hg hb.size, fun i p hp => ?_⟩
    obtain ⟨h1, vo, vn, vc, c0, c1, h2⟩ := hc i p hp
    exact ⟨h1, vo, vn, vc, (hb.cell (by exact hg)).trans c0, (hb.cell (by exact hg)).trans c1, h2.below hb⟩

/-- What the law's path leaves. -/
def PathPost (w : World) (ps : Whos) (e : Ending) (w' : World) : Prop := ∃ u n c, e = .returned (.slice u n c) ∧ Hid (PathAt w' (.slice u n c) (ps.take 30)) ∧ Hid (Below w.heap.size w w')

set_option maxRecDepth 20000 in
set_option maxHeartbeats 2000000 in
theorem path9_any {w : World} {v : Value} {ps : Whos} (hP : PathAt w v ps) (hc : ∃ ao cap, v = .slice ao ps.length cap ∧ ps.length ≤ cap) (hn : ps.length ≤ maxLen) : Calls Tryz.prog 18 #[v] w fun e w' => PathPost w ps e w' := by
  obtain ⟨ao, cap, rfl, hr⟩ := hP
  obtain ⟨ao', cap', e, hcl⟩ := hc
  injection e with e1 _ e2
  subst e1 e2
  have HR := hid hr
  obtain ⟨n, hnn⟩ : ∃ n, n = ps.length := ⟨_, rfl⟩
  have HN := hid hnn
  unfold maxLen at hn
  rw [← hnn] at hn hcl ⊢
  clear hr hnn
  by_cases h30 : 30 < n
  · have hI : (30 : Int) < (n : Int) := by omega
    have hI2 : (30 : Int) ≤ (cap : Int) := by omega
    go_enter Tryz.func18, Tryz.ntmps18
    go_wp2
    refine bodyPost_ret (v := .slice ao 30 cap) (by simp [results, Tryz.results18, go_sem]) rfl ⟨_, _, _, rfl, ⟨ao, cap, ?_, ?_⟩, Below.refl _ _⟩
    · rw [List.length_take, ← HN.out, Nat.min_eq_left (by omega)]
    · rcases HR.out with h | ⟨g, o, ea, hg, hc⟩
      · exact Or.inl (by rw [h]; rfl)
      · refine Or.inr ⟨g, o, ea, hg, fun i p hp => hc i p ?_⟩
        rw [List.getElem?_take] at hp
        split at hp
        · exact hp
        · cases hp
  · have hI : ¬ (30 : Int) < (n : Int) := by omega
    go_enter Tryz.func18, Tryz.ntmps18
    go_wp2
    refine bodyPost_ret (v := .slice ao n cap) (by simp [results, Tryz.results18, go_sem]) rfl ⟨_, _, _, rfl, ?_, Below.refl _ _⟩
    rw [List.take_of_length_le (by rw [← HN.out]; omega)]
    exact ⟨ao, cap, by rw [← HN.out], HR.out⟩

set_option maxRecDepth 20000 in
set_option maxHeartbeats 2000000 in
theorem alike9_any {w : World} {va vb vp : Value} {a b : Rx} {ps : Whos} (hA : RxS w va a.kids) (hB : RxS w vb b.kids) (fA : a.Fit) (fB : b.Fit) (hP : PathAt w vp ps) (hn : ps.length ≤ 1000000) (hm : chkN a = 0 → chkN b = 0 → matchB a ps = matchB b ps) :
    Calls Tryz.prog 25 #[.agg #[.int .i64 a.op, .string (tx a.name), va], .agg #[.int .i64 b.op, .string (tx b.name), vb], vp] w fun e w' => e = .returned (.bool true) ∧ Below w.heap.size w w' := by
  have HA := hid (fun (W : World) (hb : Below w.heap.size w W) => gMatch_any (r := a) (hA.on hb) fA (hP.on hb) hn)
  have HB := hid (fun (W : World) (hb : Below w.heap.size w W) => gMatch_any (r := b) (hB.on hb) fB (hP.on hb) hn)
  obtain ⟨ca, hca⟩ : ∃ c, c = chkN a := ⟨_, rfl⟩
  obtain ⟨cb, hcb⟩ : ∃ c, c = chkN b := ⟨_, rfl⟩
  obtain ⟨x, hx⟩ : ∃ x, x = (if ca = 0 then matchB a ps else false) := ⟨_, rfl⟩
  obtain ⟨y, hy⟩ : ∃ y, y = (if cb = 0 then matchB b ps else false) := ⟨_, rfl⟩
  have hxy : ca = 0 → cb = 0 → x = y := fun h1 h2 => by rw [hx, hy, if_pos h1, if_pos h2]; exact hm (hca.symm.trans h1) (hcb.symm.trans h2)
  rw [← hca, ← hx] at HA
  rw [← hcb, ← hy] at HB
  obtain ⟨ao, cap, rfl, -⟩ := hA.at
  obtain ⟨bo, cbp, rfl, -⟩ := hB.at
  obtain ⟨po, pcap, rfl⟩ := hP.cut
  obtain ⟨kn, hkn⟩ : ∃ kn, kn = a.kids.length := ⟨_, rfl⟩
  obtain ⟨km, hkm⟩ : ∃ km, km = b.kids.length := ⟨_, rfl⟩
  rw [← hkn] at HA ⊢
  rw [← hkm] at HB ⊢
  have BA := hid (show boxed w a (.slice ao kn cap) ((w.alloc (rxo a.op a.name (.slice ao kn cap))).alloc (rxo b.op b.name (.slice bo km cbp))) from (boxed.start w a (.slice ao kn cap)).alloc (by simp) _)
  have BB := hid (show boxed (w.alloc (rxo a.op a.name (.slice ao kn cap))) b (.slice bo km cbp) ((w.alloc (rxo a.op a.name (.slice ao kn cap))).alloc (rxo b.op b.name (.slice bo km cbp))) from boxed.start _ _ _)
  clear hA hB fA fB hP hn hm hca hcb hx hy hkn hkm
  go_enter Tryz.func25, Tryz.ntmps25
  go_wp2_with fail
  refine (HA.out _ BA.out.low).mono ?_
  rintro en w1 ⟨rfl, hb1⟩
  have B1 := hid (BA.out.on hb1)
  have B2 := hid (BB.out.on hb1)
  obtain ⟨c0, c1, c2⟩ := B2.out.cells
  simp only [World.size_alloc] at c0 c1 c2
  clear hb1
  go_wp2_with fail
  refine (HB.out _ B1.out.low).mono ?_
  rintro en w2 ⟨rfl, hb2⟩
  have B3 := hid (B1.out.on hb2)
  clear hb2
  by_cases h1 : ca = 0
  · by_cases h2 : cb = 0
    · obtain rfl := hxy h1 h2
      subst h1 h2
      go_wp2
      exact bodyPost_ret (v := .bool true) (by simp [results, Tryz.results25, go_sem]) rfl ⟨rfl, B3.out.low⟩
    · subst h1
      have hI : ((cb : Int) == 0) = false := by rw [beq_eq_false_iff_ne]; omega
      go_wp2
      exact bodyPost_ret (v := .bool true) (by simp [results, Tryz.results25, go_sem]) rfl ⟨rfl, B3.out.low⟩
  · have hI : ((ca : Int) == 0) = false := by rw [beq_eq_false_iff_ne]; omega
    go_wp2
    exact bodyPost_ret (v := .bool true) (by simp [results, Tryz.results25, go_sem]) rfl ⟨rfl, B3.out.low⟩
end Go.Proofs.YtnmmfbhmfcabhaaGreatDoor
namespace Go.Proofs.YtnmmfbhmfcabhaaGreatDoor
open Go.RowKit

/-- What the document's spans leave. -/
def SpanPost (w : World) (r : Rx) (ps : Whos) (e : Ending) (w' : World) : Prop := ∃ f, TabOf f r.L ps ∧ TellT w (ps.length + 1) f e w'
def SpanC (r : Rx) (ps : Whos) : Prop := ∀ (w : World) (v vp : Value), RxS w v r.kids → PathAt w vp ps → Calls Tryz.prog 42 #[.agg #[.int .i64 r.op, .string (tx r.name), v], vp] w fun e w' => SpanPost w r ps e w'
theorem leaf_put {op : Int} {nm : List UInt8} {ps : Whos} {i : Nat} {d : Dv} (hd : ps[i]? = some d) (Z : Nat → Nat → Bool) (hZ : ∀ a c, Z a c = false) : updF (upTo i 0 (leafF op nm ps) Z) i (i + 1) (fitD d op nm) = upTo (i + 1) 0 (leafF op nm ps) Z := by
  funext a c
  unfold updF upTo
  by_cases h1 : a = i ∧ c = i + 1
  · obtain ⟨rfl, rfl⟩ := h1
    rw [if_pos ⟨rfl, rfl⟩, if_pos (Or.inl (by omega))]
    unfold leafF
    rw [hd]
    simp
  · rw [if_neg h1]
    by_cases h2 : a < i
    · rw [if_pos (Or.inl h2), if_pos (Or.inl (by omega))]
    · rw [if_neg (by omega), hZ]
      by_cases h3 : a = i
      · subst h3
        rw [if_pos (Or.inl (by omega))]
        unfold leafF
        rw [decide_eq_false (by intro e; exact h1 ⟨rfl, e⟩)]
        rfl
      · rw [if_neg (by omega)]

set_option maxRecDepth 20000 in
set_option maxHeartbeats 2000000 in
theorem spans_leaf {r : Rx} {ps : Whos} (hop : r.op = 1 ∨ r.op = 2 ∨ r.op = 3) (hn : ps.length ≤ 30) : SpanC r ps := by
  intro w v vp hS hP
  have HL := hid (show r.L = fun q => ∃ d : Dv, q = [d] ∧ fitD d r.op r.name = true by rw [r.L_eq, if_neg (by omega), if_neg (by omega), if_neg (by omega), if_neg (by omega), if_neg (by omega)])
  have HT := hid (fun (W : World) => RTable_any (w := W) (n := ps.length) (by omega))
  obtain ⟨ao, cap, rfl, -⟩ := hS.at
  obtain ⟨po, pc, rfl, hr⟩ := hP
  obtain ⟨n, hnn⟩ : ∃ n, n = ps.length := ⟨_, rfl⟩
  have HN := hid hnn
  have HR := hid hr
  obtain ⟨op, hopE⟩ : ∃ op, op = r.op := ⟨_, rfl⟩
  obtain ⟨nm, hnmE⟩ : ∃ nm, nm = r.name := ⟨_, rfl⟩
  obtain ⟨kn, hkn⟩ : ∃ kn, kn = r.kids.length := ⟨_, rfl⟩
  have HIS := hid (fun (W : World) (d : Dv) (vc : Value) (hT : Txs W vc d.2) (hl : d.2.length ≤ maxLen) => RIs_any (w := W) (op := op) (nm := nm) (ao := ao) (kn := kn) (cap := cap) (d := d) (by rw [hopE]; exact hop) hT hl)
  rw [← hnn] at hn HT ⊢
  rw [← hopE, ← hnmE] at HL ⊢
  rw [← hkn]
  obtain ⟨F, hF⟩ : ∃ F, F = leafF op nm ps := ⟨_, rfl⟩
  have HF := hid hF
  have HOPE := hid hopE
  have HNME := hid hnmE
  have B0 := hid (show boxed w (.mk op nm []) (.slice ao kn cap) (w.alloc (rxo op nm (.slice ao kn cap))) from boxed.start _ _ _)
  rw [← hopE] at hop
  clear hS hr hnn hopE hnmE hkn hF
  rcases hop with rfl | rfl | rfl
  · go_enter Tryz.func42, Tryz.ntmps42
    go_wp2_with fail
    refine (HT.out _).mono ?_
    rintro en w1 ⟨g, cap1, rws, rfl, T1, L1⟩
    have B1 := hid (B0.out.on L1.out)
    obtain ⟨c0, c1, c2⟩ := B1.out.cells
    dsimp only [Rx.op, Rx.name] at c0 c1
    go_wp2_with fail
    obtain ⟨Z0, hZ0⟩ : ∃ Z0 : Nat → Nat → Bool, Z0 = fun _ _ => false := ⟨_, rfl⟩
    have T0 := hid (show TabAt (w.heap.size + 1) w1 g (n + 1) rws (upTo 0 0 F Z0) by rw [upTo_zero, hZ0]; have := T1.out; rw [World.size_alloc] at this; exact this)
    have HZ := hid (show ∀ a c, Z0 a c = false by rw [hZ0]; exact fun _ _ => rfl)
    clear T1 L1 hZ0 c0 c1 c2
    go_loopw [7] (fun x wr => ∃ i : Nat, i ≤ n ∧ x = .int .i64 i ∧ Hid (TabAt (w.heap.size + 1) wr g (n + 1) rws (upTo i 0 F Z0)) ∧ Hid (boxed w (.mk 1 nm []) (.slice ao kn cap) wr)) (fun x _ => n - (intOf x).toNat)
    case atStart => exact ⟨0, Nat.zero_le _, rfl, T0, B1⟩
    case round =>
      obtain ⟨i, hi, rfl, TI, BI⟩ := hrel
      by_cases hlt : i < n
      · have hiI : (i : Int) < (n : Int) := by omega
        have hi0 : (0 : Int) ≤ (i : Int) := by omega
        have hiS : (i : Int) < (n : Int) + 1 := by omega
        have hiT : (i : Int) + 1 < (n : Int) + 1 := by omega
        have hiU : (0 : Int) ≤ (i : Int) + 1 := by omega
        have hiW : IntKind.i64.wrap ((i : Int) + 1) = (i : Int) + 1 := by rw [IntKind.wrap_i64]; omega
        have hiN : ((i : Int) + 1).toNat = i + 1 := by omega
        obtain ⟨d, hd⟩ : ∃ d, ps[i]? = some d := ⟨ps[i]'(by rw [← HN.out]; exact hlt), List.getElem?_eq_getElem _⟩
        obtain ⟨pg, po', rfl, hpg, hpc⟩ := HR.out.resolve_left (fun e => by rw [e] at hd; simp at hd)
        obtain ⟨hdl, vo, vn, vc, p0, p1, hdt⟩ := hpc i d hd
        have LW := hid BI.out.low
        have q0 := (LW.out.cell (p := ⟨pg, po' + i * 2, none⟩) (by exact hpg)).trans p0
        have q1 := (LW.out.cell (p := ⟨pg, po' + i * 2 + 1, none⟩) (by exact hpg)).trans p1
        obtain ⟨c0, c1, c2⟩ := BI.out.cells
        dsimp only [Rx.op, Rx.name] at c0 c1
        have o0 := TI.out.cell i (by omega)
        obtain ⟨x3, hx3⟩ : ∃ x3, x3 = rws i := ⟨_, rfl⟩
        have HC := hid (by
          refine (HIS.out wr.drew d _ (hdt.below LW.out.drew) hdl).mono ?_
          rintro e w2 ⟨rfl, l2⟩
          have l2' : Below wr.heap.size wr w2 := (Below.refl wr.heap.size wr).drew.trans l2
          have t2 := TI.out.on l2'
          have b2 := BI.out.on l2'
          have r2 := (t2.row i (by omega)).1
          have t3 := t2.put (i := i) (by omega) (i + 1) (fitD d 1 nm)
          rw [HF.out, leaf_put hd Z0 HZ.out, ← HF.out] at t3
          refine ⟨rfl, ⟨t2.cell i (by omega), t2.at (by omega) (by omega), t2.free (by omega) _⟩, t3, ?_⟩
          exact Below.setCell b2 r2 _ : Calls Tryz.prog 68 #[.agg #[.int .i64 1, .string (tx nm), .slice ao kn cap], .agg #[.string (tx d.1), .slice vo vn vc]] wr.drew fun e w2 => e = .returned (.bool (fitD d 1 nm)) ∧ (w2.cell? ⟨g, i, none⟩ = some (.slice (some ⟨rws i, 0, none⟩) (n + 1) (n + 1)) ∧ w2.cell? ⟨rws i, i + 1, none⟩ = some (.bool (upTo i 0 F Z0 i (i + 1))) ∧ w2.frozen? ⟨rws i, i + 1, none⟩ = false) ∧ Hid (TabAt (w.heap.size + 1) (w2.setCell ⟨rws i, i + 1, none⟩ (.bool (fitD d 1 nm))) g (n + 1) rws (upTo (i + 1) 0 F Z0)) ∧ Hid (boxed w (.mk 1 nm []) (.slice ao kn cap) (w2.setCell ⟨rws i, i + 1, none⟩ (.bool (fitD d 1 nm)))))
        rw [← hx3] at o0 HC
        obtain ⟨y, hy⟩ : ∃ y, y = fitD d 1 nm := ⟨_, rfl⟩
        obtain ⟨y0, hy0⟩ : ∃ y0, y0 = upTo i 0 F Z0 i (i + 1) := ⟨_, rfl⟩
        rw [← hy, ← hy0] at HC
        clear hx3 hy hy0 p0 p1 hpc hd hdt hdl
        obtain ⟨nd, cls⟩ := d
        dsimp only at q0 HC
        go_wp2_with fail
        go_region_law (go_simp; go_at_call 68; refine HC.out.mono ?_; rintro en w2 ⟨rfl, ⟨s0, s1, s2⟩, T2, B2⟩)
        all_goals (go_wp2; exact ⟨⟨i + 1, by omega, by go_num, T2, B2⟩, by simp [intOf]; omega⟩)
      · have hiI : ¬ (i : Int) < (n : Int) := by omega
        have TF := hid (show TabAt w.heap.size wr g (n + 1) rws F from (TI.out.congr fun a c ha hc => by
          by_cases h : a < i
          · unfold upTo; rw [if_pos (Or.inl h)]
          · unfold upTo
            rw [if_neg (by omega), HZ.out, HF.out]
            unfold leafF
            rw [show ps[a]? = none from List.getElem?_eq_none (by rw [← HN.out]; omega)]
            simp).mono (Nat.le_succ _))
        have HFIN := hid (show SpanPost w r ps (.returned (.slice (some ⟨g, 0, none⟩) (n + 1) cap1)) wr from ⟨F, by rw [HL.out, HF.out]; exact TabOf.leaf _ _ _, g, cap1, rws, by rw [← HN.out], by rw [← HN.out]; exact TF.out, BI.out.low⟩)
        go_wp2
        exact bodyPost_ret (v := .slice (some ⟨g, 0, none⟩) (n + 1) cap1) (by simp [results, Tryz.results42, go_sem]) rfl HFIN.out
  · go_enter Tryz.func42, Tryz.ntmps42
    go_wp2_with fail
    refine (HT.out _).mono ?_
    rintro en w1 ⟨g, cap1, rws, rfl, T1, L1⟩
    have B1 := hid (B0.out.on L1.out)
    obtain ⟨c0, c1, c2⟩ := B1.out.cells
    dsimp only [Rx.op, Rx.name] at c0 c1
    go_wp2_with fail
    obtain ⟨Z0, hZ0⟩ : ∃ Z0 : Nat → Nat → Bool, Z0 = fun _ _ => false := ⟨_, rfl⟩
    have T0 := hid (show TabAt (w.heap.size + 1) w1 g (n + 1) rws (upTo 0 0 F Z0) by rw [upTo_zero, hZ0]; have := T1.out; rw [World.size_alloc] at this; exact this)
    have HZ := hid (show ∀ a c, Z0 a c = false by rw [hZ0]; exact fun _ _ => rfl)
    clear T1 L1 hZ0 c0 c1 c2
    go_loopw [7] (fun x wr => ∃ i : Nat, i ≤ n ∧ x = .int .i64 i ∧ Hid (TabAt (w.heap.size + 1) wr g (n + 1) rws (upTo i 0 F Z0)) ∧ Hid (boxed w (.mk 2 nm []) (.slice ao kn cap) wr)) (fun x _ => n - (intOf x).toNat)
    case atStart => exact ⟨0, Nat.zero_le _, rfl, T0, B1⟩
    case round =>
      obtain ⟨i, hi, rfl, TI, BI⟩ := hrel
      by_cases hlt : i < n
      · have hiI : (i : Int) < (n : Int) := by omega
        have hi0 : (0 : Int) ≤ (i : Int) := by omega
        have hiS : (i : Int) < (n : Int) + 1 := by omega
        have hiT : (i : Int) + 1 < (n : Int) + 1 := by omega
        have hiU : (0 : Int) ≤ (i : Int) + 1 := by omega
        have hiW : IntKind.i64.wrap ((i : Int) + 1) = (i : Int) + 1 := by rw [IntKind.wrap_i64]; omega
        have hiN : ((i : Int) + 1).toNat = i + 1 := by omega
        obtain ⟨d, hd⟩ : ∃ d, ps[i]? = some d := ⟨ps[i]'(by rw [← HN.out]; exact hlt), List.getElem?_eq_getElem _⟩
        obtain ⟨pg, po', rfl, hpg, hpc⟩ := HR.out.resolve_left (fun e => by rw [e] at hd; simp at hd)
        obtain ⟨hdl, vo, vn, vc, p0, p1, hdt⟩ := hpc i d hd
        have LW := hid BI.out.low
        have q0 := (LW.out.cell (p := ⟨pg, po' + i * 2, none⟩) (by exact hpg)).trans p0
        have q1 := (LW.out.cell (p := ⟨pg, po' + i * 2 + 1, none⟩) (by exact hpg)).trans p1
        obtain ⟨c0, c1, c2⟩ := BI.out.cells
        dsimp only [Rx.op, Rx.name] at c0 c1
        have o0 := TI.out.cell i (by omega)
        obtain ⟨x3, hx3⟩ : ∃ x3, x3 = rws i := ⟨_, rfl⟩
        have HC := hid (by
          refine (HIS.out wr.drew d _ (hdt.below LW.out.drew) hdl).mono ?_
          rintro e w2 ⟨rfl, l2⟩
          have l2' : Below wr.heap.size wr w2 := (Below.refl wr.heap.size wr).drew.trans l2
          have t2 := TI.out.on l2'
          have b2 := BI.out.on l2'
          have r2 := (t2.row i (by omega)).1
          have t3 := t2.put (i := i) (by omega) (i + 1) (fitD d 2 nm)
          rw [HF.out, leaf_put hd Z0 HZ.out, ← HF.out] at t3
          refine ⟨rfl, ⟨t2.cell i (by omega), t2.at (by omega) (by omega), t2.free (by omega) _⟩, t3, ?_⟩
          exact Below.setCell b2 r2 _ : Calls Tryz.prog 68 #[.agg #[.int .i64 2, .string (tx nm), .slice ao kn cap], .agg #[.string (tx d.1), .slice vo vn vc]] wr.drew fun e w2 => e = .returned (.bool (fitD d 2 nm)) ∧ (w2.cell? ⟨g, i, none⟩ = some (.slice (some ⟨rws i, 0, none⟩) (n + 1) (n + 1)) ∧ w2.cell? ⟨rws i, i + 1, none⟩ = some (.bool (upTo i 0 F Z0 i (i + 1))) ∧ w2.frozen? ⟨rws i, i + 1, none⟩ = false) ∧ Hid (TabAt (w.heap.size + 1) (w2.setCell ⟨rws i, i + 1, none⟩ (.bool (fitD d 2 nm))) g (n + 1) rws (upTo (i + 1) 0 F Z0)) ∧ Hid (boxed w (.mk 2 nm []) (.slice ao kn cap) (w2.setCell ⟨rws i, i + 1, none⟩ (.bool (fitD d 2 nm)))))
        rw [← hx3] at o0 HC
        obtain ⟨y, hy⟩ : ∃ y, y = fitD d 2 nm := ⟨_, rfl⟩
        obtain ⟨y0, hy0⟩ : ∃ y0, y0 = upTo i 0 F Z0 i (i + 1) := ⟨_, rfl⟩
        rw [← hy, ← hy0] at HC
        clear hx3 hy hy0 p0 p1 hpc hd hdt hdl
        obtain ⟨nd, cls⟩ := d
        dsimp only at q0 HC
        go_wp2_with fail
        go_region_law (go_simp; go_at_call 68; refine HC.out.mono ?_; rintro en w2 ⟨rfl, ⟨s0, s1, s2⟩, T2, B2⟩)
        all_goals (go_wp2; exact ⟨⟨i + 1, by omega, by go_num, T2, B2⟩, by simp [intOf]; omega⟩)
      · have hiI : ¬ (i : Int) < (n : Int) := by omega
        have TF := hid (show TabAt w.heap.size wr g (n + 1) rws F from (TI.out.congr fun a c ha hc => by
          by_cases h : a < i
          · unfold upTo; rw [if_pos (Or.inl h)]
          · unfold upTo
            rw [if_neg (by omega), HZ.out, HF.out]
            unfold leafF
            rw [show ps[a]? = none from List.getElem?_eq_none (by rw [← HN.out]; omega)]
            simp).mono (Nat.le_succ _))
        have HFIN := hid (show SpanPost w r ps (.returned (.slice (some ⟨g, 0, none⟩) (n + 1) cap1)) wr from ⟨F, by rw [HL.out, HF.out]; exact TabOf.leaf _ _ _, g, cap1, rws, by rw [← HN.out], by rw [← HN.out]; exact TF.out, BI.out.low⟩)
        go_wp2
        exact bodyPost_ret (v := .slice (some ⟨g, 0, none⟩) (n + 1) cap1) (by simp [results, Tryz.results42, go_sem]) rfl HFIN.out
  · go_enter Tryz.func42, Tryz.ntmps42
    go_wp2_with fail
    refine (HT.out _).mono ?_
    rintro en w1 ⟨g, cap1, rws, rfl, T1, L1⟩
    have B1 := hid (B0.out.on L1.out)
    obtain ⟨c0, c1, c2⟩ := B1.out.cells
    dsimp only [Rx.op, Rx.name] at c0 c1
    go_wp2_with fail
    obtain ⟨Z0, hZ0⟩ : ∃ Z0 : Nat → Nat → Bool, Z0 = fun _ _ => false := ⟨_, rfl⟩
    have T0 := hid (show TabAt (w.heap.size + 1) w1 g (n + 1) rws (upTo 0 0 F Z0) by rw [upTo_zero, hZ0]; have := T1.out; rw [World.size_alloc] at this; exact this)
    have HZ := hid (show ∀ a c, Z0 a c = false by rw [hZ0]; exact fun _ _ => rfl)
    clear T1 L1 hZ0 c0 c1 c2
    go_loopw [7] (fun x wr => ∃ i : Nat, i ≤ n ∧ x = .int .i64 i ∧ Hid (TabAt (w.heap.size + 1) wr g (n + 1) rws (upTo i 0 F Z0)) ∧ Hid (boxed w (.mk 3 nm []) (.slice ao kn cap) wr)) (fun x _ => n - (intOf x).toNat)
    case atStart => exact ⟨0, Nat.zero_le _, rfl, T0, B1⟩
    case round =>
      obtain ⟨i, hi, rfl, TI, BI⟩ := hrel
      by_cases hlt : i < n
      · have hiI : (i : Int) < (n : Int) := by omega
        have hi0 : (0 : Int) ≤ (i : Int) := by omega
        have hiS : (i : Int) < (n : Int) + 1 := by omega
        have hiT : (i : Int) + 1 < (n : Int) + 1 := by omega
        have hiU : (0 : Int) ≤ (i : Int) + 1 := by omega
        have hiW : IntKind.i64.wrap ((i : Int) + 1) = (i : Int) + 1 := by rw [IntKind.wrap_i64]; omega
        have hiN : ((i : Int) + 1).toNat = i + 1 := by omega
        obtain ⟨d, hd⟩ : ∃ d, ps[i]? = some d := ⟨ps[i]'(by rw [← HN.out]; exact hlt), List.getElem?_eq_getElem _⟩
        obtain ⟨pg, po', rfl, hpg, hpc⟩ := HR.out.resolve_left (fun e => by rw [e] at hd; simp at hd)
        obtain ⟨hdl, vo, vn, vc, p0, p1, hdt⟩ := hpc i d hd
        have LW := hid BI.out.low
        have q0 := (LW.out.cell (p := ⟨pg, po' + i * 2, none⟩) (by exact hpg)).trans p0
        have q1 := (LW.out.cell (p := ⟨pg, po' + i * 2 + 1, none⟩) (by exact hpg)).trans p1
        obtain ⟨c0, c1, c2⟩ := BI.out.cells
        dsimp only [Rx.op, Rx.name] at c0 c1
        have o0 := TI.out.cell i (by omega)
        obtain ⟨x3, hx3⟩ : ∃ x3, x3 = rws i := ⟨_, rfl⟩
        have HC := hid (by
          refine (HIS.out wr.drew d _ (hdt.below LW.out.drew) hdl).mono ?_
          rintro e w2 ⟨rfl, l2⟩
          have l2' : Below wr.heap.size wr w2 := (Below.refl wr.heap.size wr).drew.trans l2
          have t2 := TI.out.on l2'
          have b2 := BI.out.on l2'
          have r2 := (t2.row i (by omega)).1
          have t3 := t2.put (i := i) (by omega) (i + 1) (fitD d 3 nm)
          rw [HF.out, leaf_put hd Z0 HZ.out, ← HF.out] at t3
          refine ⟨rfl, ⟨t2.cell i (by omega), t2.at (by omega) (by omega), t2.free (by omega) _⟩, t3, ?_⟩
          exact Below.setCell b2 r2 _ : Calls Tryz.prog 68 #[.agg #[.int .i64 3, .string (tx nm), .slice ao kn cap], .agg #[.string (tx d.1), .slice vo vn vc]] wr.drew fun e w2 => e = .returned (.bool (fitD d 3 nm)) ∧ (w2.cell? ⟨g, i, none⟩ = some (.slice (some ⟨rws i, 0, none⟩) (n + 1) (n + 1)) ∧ w2.cell? ⟨rws i, i + 1, none⟩ = some (.bool (upTo i 0 F Z0 i (i + 1))) ∧ w2.frozen? ⟨rws i, i + 1, none⟩ = false) ∧ Hid (TabAt (w.heap.size + 1) (w2.setCell ⟨rws i, i + 1, none⟩ (.bool (fitD d 3 nm))) g (n + 1) rws (upTo (i + 1) 0 F Z0)) ∧ Hid (boxed w (.mk 3 nm []) (.slice ao kn cap) (w2.setCell ⟨rws i, i + 1, none⟩ (.bool (fitD d 3 nm)))))
        rw [← hx3] at o0 HC
        obtain ⟨y, hy⟩ : ∃ y, y = fitD d 3 nm := ⟨_, rfl⟩
        obtain ⟨y0, hy0⟩ : ∃ y0, y0 = upTo i 0 F Z0 i (i + 1) := ⟨_, rfl⟩
        rw [← hy, ← hy0] at HC
        clear hx3 hy hy0 p0 p1 hpc hd hdt hdl
        obtain ⟨nd, cls⟩ := d
        dsimp only at q0 HC
        go_wp2_with fail
        go_region_law (go_simp; go_at_call 68; refine HC.out.mono ?_; rintro en w2 ⟨rfl, ⟨s0, s1, s2⟩, T2, B2⟩)
        all_goals (go_wp2; exact ⟨⟨i + 1, by omega, by go_num, T2, B2⟩, by simp [intOf]; omega⟩)
      · have hiI : ¬ (i : Int) < (n : Int) := by omega
        have TF := hid (show TabAt w.heap.size wr g (n + 1) rws F from (TI.out.congr fun a c ha hc => by
          by_cases h : a < i
          · unfold upTo; rw [if_pos (Or.inl h)]
          · unfold upTo
            rw [if_neg (by omega), HZ.out, HF.out]
            unfold leafF
            rw [show ps[a]? = none from List.getElem?_eq_none (by rw [← HN.out]; omega)]
            simp).mono (Nat.le_succ _))
        have HFIN := hid (show SpanPost w r ps (.returned (.slice (some ⟨g, 0, none⟩) (n + 1) cap1)) wr from ⟨F, by rw [HL.out, HF.out]; exact TabOf.leaf _ _ _, g, cap1, rws, by rw [← HN.out], by rw [← HN.out]; exact TF.out, BI.out.low⟩)
        go_wp2
        exact bodyPost_ret (v := .slice (some ⟨g, 0, none⟩) (n + 1) cap1) (by simp [results, Tryz.results42, go_sem]) rfl HFIN.out
end Go.Proofs.YtnmmfbhmfcabhaaGreatDoor
