/-
  The document's number: a number among others, rising, once.
  The program's copyOf and Who.
  The program's Peer, whose ports may be long.
  strings.Clone of any text, slices.Clone of texts (as in UCopy, for seats without package rules).
-/
import Derived.Test.YtebaopiedlioiaaGreatDoorCLay
import Derived.Test.YtebaopiedlioiaaGreatDoorUMathAnd
import Derived.Test.YtebaopiedlioiaaGreatDoorJInsAnd
import Derived.Test.YtebaopiedlioiaaGreatDoorWRefSAnd
import Derived.Deep.DeepCutAuto
import Derived.Test.YtebaopiedlioiaaGreatDoorJDocKAnd
import Derived.Test.YtebaopiedlioiaaGreatDoorJDocPAnd
import Derived.Test.YtebaopiedlioiaaGreatDoorJSrtIAnd
namespace Go.Proofs.YtebaopiedlioiaaGreatDoor
open Go.RowKit

theorem clone_wide (s : ByteArray) (w : World) (h0 : 0 < s.size) (hs : s.size ≤ 140737488355328) :
    Calls Tryz.prog 85 #[.string s] w fun e w' => e = .returned (.string s) ∧ Below w.heap.size w w' := by
  have hmk := run_make_row' (P := Tryz.prog) 87 5 (.int .u8 0) 1 Tryz.underlying87 Tryz.infoU8 rfl .i64 .i64 s.size (by omega) (by omega)
  have hblk : (w.alloc (.cells (madeCells #[.int .u8 0] s.size) 5)).heap[w.heap.size]? = some (.cells (madeCells #[.int .u8 0] s.size) 5 (0, 0)) := new_0 _ _
  have hsome : ∀ j, j < s.size → ((w.alloc (.cells (madeCells #[.int .u8 0] s.size) 5)).cell? ⟨w.heap.size, 0 + j, none⟩).isSome = true := fun j hj => by
      obtain ⟨v, hv⟩ := cells_some hblk (x := 0 + j) (by rw [size_madeCells]; omega)
      rw [hv]; rfl
  have hcp : ∀ ty, _ := fun ty => run_copy_string (P := Tryz.prog) (w.alloc (.cells (madeCells #[.int .u8 0] s.size) 5)) 87 9 ty 5 w.heap.size 0 s.size s.size s Tryz.underlying87 Tryz.sizeU8 (Nat.le_refl _) hsome (fun j _ => free_of hblk)
  have hb2 := block_setCells (cellsOf s) 0 _ _ hblk
  have hus : ∀ ty, _ := fun ty => Lib.run_unsafeString_row (P := Tryz.prog) ((w.alloc (.cells (madeCells #[.int .u8 0] s.size) 5)).setCells w.heap.size 0 (cellsOf s)) 168 3 ty 5 Tryz.underlying168 Tryz.cellsU8 w.heap.size s.size
    (by rw [shape_at hb2, setAll_size, size_madeCells]) s.data.toList (fun e => by rw [Lib.size_eq, e] at h0; exact absurd h0 (by simp)) (by rw [list_size]; exact Nat.le_refl _) (by rw [list_size]; omega) (fun j x hx => by
      have hj : j < s.data.toList.length := (List.getElem?_eq_some_iff.1 hx).1
      have := World.cell?_setCells_in w.heap.size (cellsOf s) 0 (w.alloc (.cells (madeCells #[.int .u8 0] s.size) 5)) (fun i hi => hsome i (by simpa [list_size] using hi)) j (by simpa using hj)
      have ea : (⟨w.heap.size, 0, none⟩ : Addr).add j = ⟨w.heap.size, 0 + j, none⟩ := by simp [Addr.add]; intro h; exact h.symm
      rw [ea, this]
      congr 1
      have e : s.data.toList[j] = x := (List.getElem?_eq_some_iff.1 hx).2
      simp only [List.getElem_map, e])
  rw [list_size] at hus
  have hnz : ((s.size : Int) == 0) = false := by rw [beq_eq_false_iff_ne]; omega
  have hI : (0 : Int) < (s.size : Int) := by omega
  clear hsome hblk
  go_enter Tryz.func85, Tryz.ntmps85
  go_wp2
  go_ret
  exact ⟨rfl, Lib.below_freeze (below_setCells (Nat.le_refl _) _ _ _ ((Below.refl _ _).alloc (Nat.le_refl _) _)) (p := ⟨w.heap.size, 0, none⟩) (Nat.le_refl _) _⟩
set_option maxHeartbeats 400000 in
theorem clone_empty (w : World) : Calls Tryz.prog 85 #[.string (tx [])] w fun e w' => e = .returned (.string (tx [])) ∧ Below w.heap.size w w' := by
  go_enter Tryz.func85, Tryz.ntmps85
  go_wp2
  go_ret
  exact ⟨rfl, Below.refl _ _⟩
set_option maxHeartbeats 400000 in
/-- strings.Clone, of any text. -/
theorem Clone_tx (l : List UInt8) (w : World) (hs : l.length ≤ 140737488355328) : Calls Tryz.prog 49 #[.string (tx l)] w fun e w' => e = .returned (.string (tx l)) ∧ Below w.heap.size w w' := by
  have HC := hid (show ∀ w', Calls Tryz.prog 85 #[.string (tx l)] w' fun e w'' => e = .returned (.string (tx l)) ∧ Below w'.heap.size w' w'' from fun w' => by
    cases l with
    | nil => exact clone_empty w'
    | cons a r => exact clone_wide _ w' (by rw [tx_size]; simp) (by rw [tx_size]; exact hs))
  go_enter Tryz.func49, Tryz.ntmps49
  go_wp2_with (go_at_call 85; refine (HC.out _).mono ?_; rintro e w' ⟨rfl, hb⟩)
  go_ret
  exact ⟨rfl, hb⟩
theorem Tryz.fClone : Tryz.laysClone_ren.f 16 = 86 := by kernel_rfl
theorem Tryz.tClone : Tryz.laysClone_ren.t 9 = 9 := by kernel_rfl

/-- Texts, alone in a block. -/
def Tbl (w : World) (g : Nat) (zs : List (List UInt8)) : Prop := ∃ cs, w.heap[g]? = some (.cells cs 9 (0, 0)) ∧ ∀ (i : Nat) (z : List UInt8), zs[i]? = some z → cs[i]? = some (.string (tx z))
theorem Tbl.cell {w : World} {g : Nat} {zs : List (List UInt8)} (h : Tbl w g zs) {i : Nat} {z : List UInt8} (hz : zs[i]? = some z) : w.cell? ⟨g, i, none⟩ = some (.string (tx z)) := by
  obtain ⟨cs, h1, h2⟩ := h
  rw [cell_at h1]
  exact h2 i z hz
theorem Tbl.lt {w : World} {g : Nat} {zs : List (List UInt8)} (h : Tbl w g zs) : g < w.heap.size := by
  obtain ⟨cs, h1, _⟩ := h
  rw [Array.getElem?_eq_some_iff] at h1
  exact h1.1
theorem Tbl.free {w : World} {g : Nat} {zs : List (List UInt8)} (h : Tbl w g zs) (k : Nat) : w.frozen? ⟨g, k, none⟩ = false := by
  obtain ⟨cs, h1, _⟩ := h
  exact free_of h1
theorem Tbl.below {w w' : World} {g B : Nat} {zs : List (List UInt8)} (h : Tbl w g zs) (hb : Below B w w') (hB : g < B) : Tbl w' g zs := by
  obtain ⟨cs, h1, h2⟩ := h
  exact ⟨cs, below_block hb h1 hB, h2⟩
/-- One of them, written again. -/
theorem Tbl.again {w : World} {g : Nat} {zs : List (List UInt8)} (h : Tbl w g zs) {i : Nat} {z : List UInt8} (hz : zs[i]? = some z) : Tbl (w.setCell ⟨g, i, none⟩ (.string (tx z))) g zs := by
  obtain ⟨cs, h1, h2⟩ := h
  refine ⟨_, block_set _ h1, fun j y hy => ?_⟩
  rw [Array.getElem?_setIfInBounds]
  split
  · rename_i e
    subst e
    have : y = z := Option.some.inj (hy.symm.trans hz)
    subst this
    have := h2 i y hy
    rw [if_pos (Array.getElem?_eq_some_iff.1 this).1]
  · exact h2 j y hy

/-- A slice of texts in a block of its own. -/
def Ported (w : World) (B : Nat) (v : Value) (zs : List (List UInt8)) : Prop := ∃ ao cap, v = .slice ao zs.length cap ∧ zs.length ≤ cap ∧ (zs = [] ∨ ∃ b, ao = some ⟨b, 0, none⟩ ∧ B ≤ b ∧ Tbl w b zs)
theorem Ported.txs {w : World} {B : Nat} {v : Value} {zs : List (List UInt8)} (h : Ported w B v zs) : Txs w v zs := by
  obtain ⟨ao, cap, e, _, q | ⟨b, ea, _, ht⟩⟩ := h
  · exact ⟨ao, cap, e, Or.inl q⟩
  · refine ⟨ao, cap, e, Or.inr ⟨b, 0, ea, ht.lt, fun i hi => ?_⟩⟩
    rw [Nat.zero_add]
    exact ht.cell (by rw [List.getD_eq_getElem?_getD, List.getElem?_eq_getElem hi]; rfl)

theorem Clone_texts {w : World} {v : Value} {zs : List (List UInt8)} (ht : Txs w v zs) (hn : zs.length * 16 ≤ 140737488355328) :
    Calls Tryz.prog 86 #[v] w fun e w' => ∃ v', e = .returned v' ∧ Ported w' w.heap.size v' zs ∧ Below w.heap.size w w' := by
  obtain ⟨ao, cap, rfl, hr⟩ := ht
  rw [← Tryz.fClone]
  cases ao with
  | none =>
    have h0 : zs = [] := by rcases hr with q | ⟨g, o, q, _⟩; exact q; cases q
    subst h0
    refine (Any.slices_Clone_string_nil Tryz.laysClone _ _ w).mono ?_
    rintro e w' ⟨rfl, rfl⟩
    exact ⟨_, rfl, ⟨none, 0, rfl, Nat.le_refl _, Or.inl rfl⟩, Below.refl _ _⟩
  | some ad =>
    by_cases h0 : zs = []
    · subst h0
      refine (Any.slices_Clone_string_zero Tryz.laysClone ad cap w).mono ?_
      rintro e w' ⟨v', rfl, ho, _, hb⟩
      refine ⟨v', rfl, ?_, hb⟩
      rcases ho.2 with ⟨h1, _⟩ | ⟨b, cp, cur, h1, _, _, hn, _, _, _⟩
      · exact ⟨_, _, h1, Nat.zero_le _, Or.inl rfl⟩
      · exact ⟨_, _, h1, Nat.zero_le _, Or.inl rfl⟩
    · obtain ⟨g, o, rfl, hg, hc⟩ : ∃ g o, ad = ⟨g, o, none⟩ ∧ g < w.heap.size ∧ ∀ i, i < zs.length → w.cell? ⟨g, o + i, none⟩ = some (.string (tx (zs.getD i []))) := by
        rcases hr with q | ⟨g, o, q, h1, h2⟩
        · exact absurd q h0
        · exact ⟨g, o, Option.some.inj q, h1, h2⟩
      have hk := Any.slices_Clone_string Tryz.laysClone g o zs.length cap (zs.map tx) w (by simp) hn (fun j hj => by
        rw [List.length_map] at hj
        rw [hc j hj]
        simp [List.getD_eq_getElem?_getD, List.getElem?_eq_getElem hj])
      refine hk.mono ?_
      rintro e w' ⟨v', rfl, ho, _, hb⟩
      refine ⟨v', rfl, ?_, hb⟩
      rw [Tryz.tClone] at ho
      rcases ho.2 with ⟨_, h1⟩ | ⟨b, cp, cur, rfl, hB, hh, hn2, _, _, htk⟩
      · have := List.length_pos_iff.2 h0; omega
      · refine ⟨_, _, rfl, hn2, Or.inr ⟨b, rfl, hB, cur, hh, fun i z hz => ?_⟩⟩
        have hi : i < zs.length := (List.getElem?_eq_some_iff.1 hz).1
        have : (cur.toList.take (zs.length * 1))[i]? = some (.string (tx z)) := by rw [htk]; simp [hi]; exact (List.getElem?_eq_some_iff.1 hz).2
        rw [List.getElem?_take, if_pos (by omega)] at this
        simpa using this

end Go.Proofs.YtebaopiedlioiaaGreatDoor
namespace Go.Proofs.YtebaopiedlioiaaGreatDoor
open Go.RowKit

set_option maxRecDepth 20000 in
set_option maxHeartbeats 1000000 in
theorem oPeerL_any {w : World} {x0 x1 v : Value} {ls : List LkZ} (hL : LkV w v ls) (d : Int) (m : List UInt8) (hsm : ∀ q ∈ ls, q.2.1.length ≤ 140737488355328 ∧ q.2.2.2.length ≤ 140737488355328) (hlen : ls.length ≤ 1000000) :
    Calls Tryz.prog 21 #[.agg #[x0, x1, v], .int .i64 d, .string (tx m)] w fun e w' => e = .returned (peerV (peerJ d m ls)) ∧ Below w.heap.size w w' := by
  obtain ⟨av, cap, rfl, hcell⟩ := hL.form
  obtain ⟨n, hn⟩ : ∃ n, ls.length = n := ⟨_, rfl⟩
  have HC := hid hcell
  have HN := hid hn
  rw [hn] at hlen ⊢
  clear hcell hn
  obtain ⟨W0, hW0⟩ : ∃ W0, W0 = (w.alloc (.cells #[x0, x1, .slice av n cap] 25)).alloc (eob d m) := ⟨_, rfl⟩
  have hb0 : Below w.heap.size w W0 := by rw [hW0]; exact ((Below.refl _ _).alloc (Nat.le_refl _) _).alloc (by simp) _
  have ho0 : W0.heap[w.heap.size + 1]? = some (eob d m) := by rw [hW0]; exact new_1 _ _ _
  have hs0 : w.heap.size + 2 ≤ W0.heap.size := by have := lt_of_block ho0; omega
  have HB0 := hid hb0
  have HO0 := hid ho0
  have HSM := hid hsm
  clear hb0 ho0 hsm hL
  have hEQ : ∀ (a : Int) (p : List UInt8) (w : World), (binOp .eql 95 (.agg #[.int .i64 d, .string (tx m)]) (.agg #[.int .i64 a, .string (tx p)])).run Tryz.prog w = .ok (.bool (decide (d = a ∧ m = p))) w := fun a p w => endEqJ d a m p w
  go_enter Tryz.func21, Tryz.ntmps21
  go_wp2_with fail
  rw [← hW0]
  clear hW0
  go_loopw [20] (fun i wr => ∃ k : Nat, k ≤ n ∧ i = .int .i64 k ∧ Hid (Below (w.heap.size + 2) W0 wr) ∧ Hid (peerJ d m ls = peerJ d m (ls.drop k))) (fun i _ => n - (intOf i).toNat)
  case atStart => exact ⟨0, Nat.zero_le _, rfl, hid (Below.refl _ _), hid rfl⟩
  case round =>
    obtain ⟨k, hk, rfl, hB, hR⟩ := hrel
    by_cases hkn : k < n
    · have hkl : k < ls.length := by rw [HN.out]; exact hkn
      obtain ⟨⟨a, p, b, q⟩, hq⟩ : ∃ q, ls[k]? = some q := ⟨_, List.getElem?_eq_getElem hkl⟩
      obtain ⟨G, o, rfl, hG, hcells⟩ : ∃ G o, av = some ⟨G, o, none⟩ ∧ G < w.heap.size ∧ ∀ (i : Nat) (q : LkZ), ls[i]? = some q → w.cell? ⟨G, o + i * 4, none⟩ = some (.int .i64 q.1) ∧ w.cell? ⟨G, o + i * 4 + 1, none⟩ = some (.string (tx q.2.1)) ∧ w.cell? ⟨G, o + i * 4 + 2, none⟩ = some (.int .i64 q.2.2.1) ∧ w.cell? ⟨G, o + i * 4 + 3, none⟩ = some (.string (tx q.2.2.2)) := by
        rcases HC.out with e | h
        · rw [e] at hkl; exact absurd hkl (Nat.not_lt_zero _)
        · exact h
      have hwr : ∀ i, i < w.heap.size → wr.heap[i]? = w.heap[i]? := fun i hi => (hB.out.block i (by omega)).trans (HB0.out.block i hi)
      obtain ⟨z0, z1, z2, z3⟩ := hcells k _ hq
      have y0 := (World.cell?_of_block (a := ⟨G, o + k * 4, none⟩) (hwr G hG)).trans z0
      have y1 := (World.cell?_of_block (a := ⟨G, o + k * 4 + 1, none⟩) (hwr G hG)).trans z1
      have y2 := (World.cell?_of_block (a := ⟨G, o + k * 4 + 2, none⟩) (hwr G hG)).trans z2
      have y3 := (World.cell?_of_block (a := ⟨G, o + k * 4 + 3, none⟩) (hwr G hG)).trans z3
      simp only at y0 y1 y2 y3
      have HDR := hid (show ls.drop k = (a, p, b, q) :: ls.drop (k + 1) from by
        rw [List.drop_eq_getElem_cons hkl]
        congr 1
        rw [List.getElem?_eq_getElem hkl] at hq
        exact Option.some.inj hq)
      have hsz := hB.out.size
      have HSQ := hid (HSM.out _ (List.mem_of_getElem? hq))
      have hkI : (k : Int) < (n : Int) := by omega
      have hk0 : (0 : Int) ≤ (k : Int) := by omega
      clear hcells z0 z1 z2 z3 hq hkl hwr
      go_wp2_with fail
      refine oendsOf_any.mono ?_
      rintro en w5 ⟨rfl, hb5⟩
      have HB5 := hid (show Below wr.heap.size wr w5 from by
        have h1 : Below wr.heap.size wr (wr.alloc (.cells #[.int .i64 a, .string (tx p), .int .i64 b, .string (tx q)] 83)) := (Below.refl _ _).alloc (Nat.le_refl _) _
        have h2 := hb5
        simp only [World.size_alloc] at h2
        exact ⟨h2.os.trans h1.os, h2.tape.trans h1.tape, h2.output.trans h1.output, Nat.le_trans h1.size h2.size, fun i hi => (h2.block i (by omega)).trans (h1.block i hi)⟩)
      clear hb5
      obtain ⟨A, hA⟩ : ∃ A, A = w5.heap.size := ⟨_, rfl⟩
      obtain ⟨W6, hW6⟩ : ∃ W6, W6 = (w5.alloc (eob a p)).alloc (eob b q) := ⟨_, rfl⟩
      have hA6 : W6.heap[A]? = some (eob a p) := by rw [hW6, hA]; exact new_old _ _ (new_0 _ _)
      have hB6 : W6.heap[A + 1]? = some (eob b q) := by rw [hW6, hA]; exact new_1 _ _ _
      have HB6 := hid (show Below wr.heap.size wr W6 from by rw [hW6]; exact (HB5.out.alloc HB5.out.size _).alloc (by have := HB5.out.size; simp only [World.size_alloc]; omega) _)
      have hO6 : W6.heap[w.heap.size + 1]? = some (eob d m) := (HB6.out.block _ (by omega)).trans ((hB.out.block _ (by omega)).trans HO0.out)
      obtain ⟨a0, a1⟩ := eob_cells hA6
      obtain ⟨b0, b1⟩ := eob_cells hB6
      obtain ⟨c0, c1⟩ := eob_cells hO6
      have HB7 := hid (show Below (w.heap.size + 2) W0 W6 from by
        have h1 := hB.out
        have h2 := HB6.out
        exact ⟨h2.os.trans h1.os, h2.tape.trans h1.tape, h2.output.trans h1.output, Nat.le_trans h1.size h2.size, fun i hi => (h2.block i (by omega)).trans (h1.block i hi)⟩)
      have HB8 := hid (show Below w.heap.size w W6 from ⟨HB7.out.os.trans HB0.out.os, HB7.out.tape.trans HB0.out.tape, HB7.out.output.trans HB0.out.output, Nat.le_trans HB0.out.size HB7.out.size, fun i hi => (HB7.out.block i (by omega)).trans (HB0.out.block i hi)⟩)
      clear hA6 hB6 hO6
      go_upto_region 6 with fail
      rw [← hA, ← hW6]
      clear hW6 hA
      by_cases hE1 : d = a ∧ m = p
      · have hd1 : decide (d = a ∧ m = p) = true := decide_eq_true hE1
        have HE := hid hE1
        clear hE1
        have HCL := hid (fun (W : World) => Clone_tx q W (HSQ.out.2))
        have HS9 := hid (fun (w9 : World) (hb : Below W6.heap.size W6 w9) => (by
          have hl := cell_ltP b0
          exact ⟨(World.cell?_of_block (hb.block _ hl)).trans b0, (World.cell?_of_block (hb.block _ hl)).trans b1⟩ : w9.cell? ⟨A + 1, 0, none⟩ = some (.int .i64 b) ∧ w9.cell? ⟨A + 1, 1, none⟩ = some (.string (tx q))))
        go_wp2_with fail
        go_region_held3 (fun W => W.cell? ⟨A + 1, 0, none⟩ = some (.int .i64 b) ∧ W.cell? ⟨A + 1, 1, none⟩ = some (.string (tx q))) (first | (go_keep; done) | exact S9) (first | (go_at_call 49; refine (HCL.out _).mono ?_; rintro en w9 ⟨rfl, hb9⟩; have HB9 := hid (show Below W6.heap.size W6 w9 from ⟨hb9.os, hb9.tape, hb9.output, hb9.size, hb9.block⟩); have S9 := HS9.out w9 HB9.out))
        go_wp2
        refine bodyPost_ret (v := .tuple #[.int .i64 b, .string (tx q), .bool true]) (by simp [results, Tryz.results21, go_sem]) rfl ⟨?_, ?_⟩
        · rw [hR.out, HDR.out, peerJ, if_pos HE.out]; rfl
        · exact ⟨HB9.out.os.trans HB8.out.os, HB9.out.tape.trans HB8.out.tape, HB9.out.output.trans HB8.out.output, Nat.le_trans HB8.out.size HB9.out.size, fun i hi => (HB9.out.block i (by have := HB8.out.size; omega)).trans (HB8.out.block i hi)⟩
      · have hd1 : decide (d = a ∧ m = p) = false := decide_eq_false hE1
        have HE1 := hid hE1
        clear hE1
        by_cases hE2 : d = b ∧ m = q
        · have hd2 : decide (d = b ∧ m = q) = true := decide_eq_true hE2
          have HE2 := hid hE2
          clear hE2
          have HCL := hid (fun (W : World) => Clone_tx p W (HSQ.out.1))
          have HS9 := hid (fun (w9 : World) (hb : Below W6.heap.size W6 w9) => (by
            have hl := cell_ltP a0
            exact ⟨(World.cell?_of_block (hb.block _ hl)).trans a0, (World.cell?_of_block (hb.block _ hl)).trans a1⟩ : w9.cell? ⟨A, 0, none⟩ = some (.int .i64 a) ∧ w9.cell? ⟨A, 1, none⟩ = some (.string (tx p))))
          go_wp2_with fail
          go_region_held3 (fun W => W.cell? ⟨A, 0, none⟩ = some (.int .i64 a) ∧ W.cell? ⟨A, 1, none⟩ = some (.string (tx p))) (first | (go_keep; done) | exact S9) (first | (go_at_call 49; refine (HCL.out _).mono ?_; rintro en w9 ⟨rfl, hb9⟩; have HB9 := hid (show Below W6.heap.size W6 w9 from ⟨hb9.os, hb9.tape, hb9.output, hb9.size, hb9.block⟩); have S9 := HS9.out w9 HB9.out))
          go_wp2
          refine bodyPost_ret (v := .tuple #[.int .i64 a, .string (tx p), .bool true]) (by simp [results, Tryz.results21, go_sem]) rfl ⟨?_, ?_⟩
          · rw [hR.out, HDR.out, peerJ, if_neg HE1.out, if_pos HE2.out]; rfl
          · exact ⟨HB9.out.os.trans HB8.out.os, HB9.out.tape.trans HB8.out.tape, HB9.out.output.trans HB8.out.output, Nat.le_trans HB8.out.size HB9.out.size, fun i hi => (HB9.out.block i (by have := HB8.out.size; omega)).trans (HB8.out.block i hi)⟩
        · have hd2 : decide (d = b ∧ m = q) = false := decide_eq_false hE2
          have HE2 := hid hE2
          clear hE2
          have HR9 := hid (show peerJ d m ls = peerJ d m (ls.drop (k + 1)) from by rw [hR.out, HDR.out, peerJ, if_neg HE1.out, if_neg HE2.out])
          have hk63 : (k : Int) + 1 ≤ 1000001 := by omega
          go_wp2
          exact ⟨⟨k + 1, by omega, by simp, HB7, HR9⟩, by simp [intOf]; omega⟩
    · have HE := hid (show peerJ d m ls = none from by
        rw [hR.out, List.drop_eq_nil_of_le (by rw [HN.out]; omega)]
        rfl)
      go_wp2
      refine bodyPost_ret (v := .tuple #[.int .i64 0, .string (tx []), .bool false]) (by simp [results, Tryz.results21, go_sem]) rfl ⟨by rw [HE.out]; rfl, ?_⟩
      exact ⟨hB.out.os.trans HB0.out.os, hB.out.tape.trans HB0.out.tape, hB.out.output.trans HB0.out.output, Nat.le_trans HB0.out.size hB.out.size, fun i hi => (hB.out.block i (by omega)).trans (HB0.out.block i hi)⟩
end Go.Proofs.YtebaopiedlioiaaGreatDoor
namespace Go.Proofs.YtebaopiedlioiaaGreatDoor
open Go.RowKit

set_option maxRecDepth 20000 in
set_option maxHeartbeats 2000000 in
theorem ocopyOf_any {w : World} {v : Value} {zs : List (List UInt8)} (h : Txs w v zs) (hn : zs.length * 16 ≤ 140737488355328) (hz : ∀ z ∈ zs, z.length ≤ 140737488355328) :
    Calls Tryz.prog 50 #[v] w fun e w' => ∃ v', e = .returned v' ∧ Ported w' w.heap.size v' zs ∧ Below w.heap.size w w' := by
  have HC := hid (Clone_texts h (by omega))
  have HZ := hid hz
  obtain ⟨ao0, cap0, rfl, -⟩ := h
  obtain ⟨n, hnn⟩ : ∃ n, n = zs.length := ⟨_, rfl⟩
  have HN := hid hnn
  rw [← hnn] at HC hn
  rw [← hnn]
  clear hz hnn
  go_enter Tryz.func50, Tryz.ntmps50
  go_wp2_with fail
  refine HC.out.mono ?_
  rintro en w1 ⟨v', rfl, ⟨ao, cap, rfl, hcap, hT⟩, hb1⟩
  rw [← HN.out] at hcap ⊢
  have HI := hid (show Below w.heap.size w w1 ∧ (zs = [] ∨ ∃ b, ao = some ⟨b, 0, none⟩ ∧ w.heap.size ≤ b ∧ Tbl w1 b zs) from ⟨hb1, hT⟩)
  clear hT hb1
  go_wp2_with fail
  go_loopw [4, 5, 10] (fun _ _ vi wr => ∃ j : Nat, j ≤ n ∧ vi = .int .i64 j ∧ Hid (Below w.heap.size w wr ∧ (zs = [] ∨ ∃ b, ao = some ⟨b, 0, none⟩ ∧ w.heap.size ≤ b ∧ Tbl wr b zs))) (fun _ _ vi _ => n - (intOf vi).toNat)
  case atStart => exact ⟨0, Nat.zero_le _, rfl, HI⟩
  case round =>
    obtain ⟨j, hj, rfl, HJ⟩ := hrel
    by_cases hlt : j < n
    · obtain ⟨z, hzj⟩ : ∃ z, zs[j]? = some z := ⟨_, List.getElem?_eq_getElem (by have := HN.out; omega)⟩
      obtain ⟨b, rfl, hb, hT⟩ := HJ.out.2.resolve_left (fun e => by rw [e] at hzj; simp at hzj)
      have k0 := hT.cell hzj
      have jI : (j : Int) < (n : Int) := by omega
      have j0 : (0 : Int) ≤ (j : Int) := by omega
      have HCL := hid (fun W => Clone_tx z W (HZ.out z (List.mem_of_getElem? hzj)))
      have HT := hid hT
      have HZJ := hid hzj
      clear hT hzj
      go_wp2_with fail
      refine (HCL.out _).mono ?_
      rintro en w2 ⟨rfl, hb2⟩
      have hT2 := HT.out.below hb2 HT.out.lt
      have k1 := hT2.cell HZJ.out
      have kf := hT2.free j
      have HN2 := hid (show Below w.heap.size w (w2.setCell ⟨b, j, none⟩ (.string (tx z))) ∧ (zs = [] ∨ ∃ b', some (⟨b, 0, none⟩ : Addr) = some ⟨b', 0, none⟩ ∧ w.heap.size ≤ b' ∧ Tbl (w2.setCell ⟨b, j, none⟩ (.string (tx z))) b' zs) from ⟨(HJ.out.1.trans (hb2.mono HJ.out.1.size)).setCell (by exact hb) _, .inr ⟨b, rfl, hb, hT2.again HZJ.out⟩⟩)
      clear hT2 hb2
      go_wp2
      go_roundw
      case rel => exact ⟨j + 1, by omega, by go_num, HN2⟩
      case measure => simp [intOf]; omega
    · have hI : ¬ (j : Int) < (n : Int) := by omega
      have hjn : j = n := by omega
      subst hjn
      have HPT := hid (show Ported wr w.heap.size (.slice ao j cap) zs from ⟨ao, cap, by rw [HN.out], by rw [← HN.out]; exact hcap, HJ.out.2⟩)
      go_wp2
      go_ret
      exact ⟨_, rfl, HPT.out, HJ.out.1⟩
/-- A device with its classes, as Who tells it. -/
abbrev whoO (n v : Value) : Obj := .cells #[n, v] 49
/-- What Who leaves. -/
def WhoQ (w : World) (d : Int) (ds : List (To.Dv × Value × Value)) (en : Ending) (w' : World) : Prop :=
  Below w.heap.size w w' ∧ ((d < 0 ∨ (ds.length : Int) ≤ d) ∧ en = .returned (.tuple #[.agg #[.string (tx []), .slice none 0 0], .bool false]) ∨ ∃ (k : Nat) (q : To.Dv × Value × Value) (v' : Value), d = k ∧ ds[k]? = some q ∧ en = .returned (.tuple #[.agg #[.string (tx q.1.name), v'], .bool true]) ∧ Ported w' w.heap.size v' q.1.cls)

set_option maxRecDepth 20000 in
set_option maxHeartbeats 2000000 in
theorem oWho_any {w : World} {wd : Value} {dv : Option Addr} {N dc : Nat} {vl : Value} {ds : List (To.Dv × Value × Value)} (hD : DvL w (.slice dv N dc) ds) (d : Int) (hn : ds.length ≤ maxLen) (hs : ∀ q ∈ ds, q.1.name.length ≤ 140737488355328 ∧ q.1.cls.length * 16 ≤ 140737488355328 ∧ ∀ z ∈ q.1.cls, z.length ≤ 140737488355328) (hl : ∃ a m c, vl = .slice a m c) (hw : ∃ i : Int, wd = .int .i64 i) :
    Calls Tryz.prog 23 #[.agg #[wd, .slice dv N dc, vl], .int .i64 d] w fun en w' => WhoQ w d ds en w' := by
  obtain ⟨la, lm, lc, rfl⟩ := hl
  obtain ⟨wi, rfl⟩ := hw
  obtain ⟨av, cap, e, hr⟩ := hD.form
  injection e with e1 e2 e3
  subst e1; subst e2; subst e3
  obtain ⟨n, hnn⟩ : ∃ n, n = ds.length := ⟨_, rfl⟩
  have HN := hid hnn
  have hn1 : n ≤ maxLen := by rw [hnn]; exact hn
  unfold maxLen at hn1
  have HR := hid hr
  have HD := hid hD
  have HSM := hid hs
  have HZB := hid (fun (x y : Obj) => (show Below w.heap.size w ((w.alloc x).alloc y) from ((Below.refl _ _).alloc (Nat.le_refl _) _).alloc (by simp) _))
  by_cases h0 : d < 0
  · have HQ := hid (fun (W : World) (hb : Below w.heap.size w W) => (show WhoQ w d ds (.returned (.tuple #[.agg #[.string (tx []), .slice none 0 0], .bool false])) W from ⟨hb, .inl ⟨.inl h0, rfl⟩⟩))
    clear hr hD hs hnn
    go_enter Tryz.func23, Tryz.ntmps23
    go_wp2
    refine bodyPost_ret (v := .tuple #[.agg #[.string (tx []), .slice none 0 0], .bool false]) (by simp [results, Tryz.results23, go_sem]) rfl ?_
    exact HQ.out _ (HZB.out _ _)
  · obtain ⟨k, rfl⟩ : ∃ k : Nat, d = k := ⟨d.toNat, by omega⟩
    by_cases h1 : k < n
    · obtain ⟨q, hq⟩ : ∃ q, ds[k]? = some q := ⟨_, List.getElem?_eq_getElem (by omega)⟩
      obtain ⟨G, o, rfl, hG, hc⟩ := hr.resolve_left (fun e => by rw [e] at hq; simp at hq)
      obtain ⟨a0, a1, a2⟩ := hc k q hq
      obtain ⟨hs1, hs2, hs3⟩ := hs q (List.mem_of_getElem? hq)
      obtain ⟨ht, hl⟩ := hD.cls q (List.mem_of_getElem? hq)
      obtain ⟨htp, hlp⟩ := hD.prt q (List.mem_of_getElem? hq)
      obtain ⟨ca, cc, hvc, -⟩ := id ht
      obtain ⟨pa, pc, hvp, -⟩ := htp
      have HCP := hid (fun (W : World) (hb : Below w.heap.size w W) => ocopyOf_any (ht.below hb) hs2 hs3)
      have HCL := hid (fun W => Clone_tx q.1.name W hs1)
      rw [hvc] at a1 HCP
      rw [hvp] at a2
      obtain ⟨nm, hnm⟩ : ∃ nm, nm = q.1.name := ⟨_, rfl⟩
      obtain ⟨cn, hcn⟩ : ∃ cn, cn = q.1.cls.length := ⟨_, rfl⟩
      obtain ⟨pn, hpn⟩ : ∃ pn, pn = q.1.prt.length := ⟨_, rfl⟩
      rw [← hnm] at a0 HCL
      rw [← hcn] at a1 HCP
      rw [← hpn] at a2
      have HNM := hid hnm
      have HQ := hid hq
      have kI : (k : Int) < (n : Int) := by omega
      have k0 : ¬ (k : Int) < 0 := by omega
      have k1 : ¬ (n : Int) ≤ (k : Int) := by omega
      have k2 : (0 : Int) ≤ (k : Int) := by omega
      rw [← hnn]
      obtain ⟨R, hR⟩ : ∃ R, R = w.heap.size + 1 := ⟨_, rfl⟩
      obtain ⟨X, hX⟩ : ∃ X, X = w.heap.size + 1 + 1 := ⟨_, rfl⟩
      have b0 := fun (x y : Obj) => (World.cell?_of_block (a := ⟨G, o + k * 3, none⟩) ((heap_old (w.alloc x) y (by simp; omega)).trans (heap_old w x hG))).trans a0
      have b1 := fun (x y : Obj) => (World.cell?_of_block (a := ⟨G, o + k * 3 + 1, none⟩) ((heap_old (w.alloc x) y (by simp; omega)).trans (heap_old w x hG))).trans a1
      have b2 := fun (x y : Obj) => (World.cell?_of_block (a := ⟨G, o + k * 3 + 2, none⟩) ((heap_old (w.alloc x) y (by simp; omega)).trans (heap_old w x hG))).trans a2
      obtain ⟨W3, hW3⟩ : ∃ W3, W3 = ((w.alloc (.cells #[.int .i64 wi, .slice (some ⟨G, o, none⟩) n dc, .slice la lm lc] 25)).alloc (.cells #[.string ⟨#[]⟩, .slice none 0 0] 49)).alloc (.cells #[.string (tx nm), .slice ca cn cc, .slice pa pn pc] 80) := ⟨_, rfl⟩
      have HBW := hid (show Below w.heap.size w W3 from by rw [hW3]; exact (((Below.refl _ _).alloc (Nat.le_refl _) _).alloc (by simp) _).alloc (by simp; omega) _)
      have hRb : W3.heap[R]? = some (.cells #[.string ⟨#[]⟩, .slice none 0 0] 49 (0, 0)) := by
        rw [hW3, hR, heap_old _ _ (by simp)]
        exact new_1 _ _ _
      have hXb : W3.heap[X]? = some (.cells #[.string (tx nm), .slice ca cn cc, .slice pa pn pc] 80 (0, 0)) := by
        rw [hW3, hX]
        have := new_0 ((w.alloc (.cells #[.int .i64 wi, .slice (some ⟨G, o, none⟩) n dc, .slice la lm lc] 25)).alloc (.cells #[.string ⟨#[]⟩, .slice none 0 0] 49)) (.cells #[.string (tx nm), .slice ca cn cc, .slice pa pn pc] 80)
        simpa using this
      have HK := hid (fun (W : World) (hb : Below W3.heap.size W3 W) => (by
        have x1 := (hb.block X (lt_of_block hXb)).trans hXb
        have x2 := (hb.block R (lt_of_block hRb)).trans hRb
        exact ⟨⟨by rw [cell_at x1]; rfl, by rw [cell_at x1]; rfl⟩, by rw [cell_at x2]; rfl, by rw [cell_at x2]; rfl, free_of x2, free_of x2⟩ : (W.cell? ⟨X, 0, none⟩ = some (.string (tx nm)) ∧ W.cell? ⟨X, 1, none⟩ = some (.slice ca cn cc)) ∧ W.cell? ⟨R, 0, none⟩ = some (.string ⟨#[]⟩) ∧ W.cell? ⟨R, 1, none⟩ = some (.slice none 0 0) ∧ W.frozen? ⟨R, 0, none⟩ = false ∧ W.frozen? ⟨R, 1, none⟩ = false))
      have hRw : w.heap.size ≤ R := by omega
      have HSK := hid (fun (W : World) (u v : Value) (h : W.cell? ⟨X, 0, none⟩ = some (.string (tx nm)) ∧ W.cell? ⟨X, 1, none⟩ = some (.slice ca cn cc)) => (by
        have e : ((W.setCell ⟨R, 0, none⟩ u).setCell ⟨R, 1, none⟩ v).heap[X]? = W.heap[X]? := by rw [Below.heap_setCell _ _ _ _ (by show X ≠ R; omega), Below.heap_setCell _ _ _ _ (by show X ≠ R; omega)]
        exact ⟨(World.cell?_of_block (by exact e)).trans h.1, (World.cell?_of_block (by exact e)).trans h.2⟩ : ((W.setCell ⟨R, 0, none⟩ u).setCell ⟨R, 1, none⟩ v).cell? ⟨X, 0, none⟩ = some (.string (tx nm)) ∧ ((W.setCell ⟨R, 0, none⟩ u).setCell ⟨R, 1, none⟩ v).cell? ⟨X, 1, none⟩ = some (.slice ca cn cc)))
      have hRW3 : R < W3.heap.size := lt_of_block hRb
      have HRB := hid (fun (W : World) (hb : Below W3.heap.size W3 W) => (hb.block R (lt_of_block hRb)).trans hRb)
      clear hXb hRb
      clear hr hD hs hq hc ht hvc hvp hnm hcn hpn hs1 hs2 hs3 hl hlp h0 h1 hnn
      go_enter Tryz.func23, Tryz.ntmps23
      go_upto_region 4 with fail
      rw [← hW3, ← hX, ← hR]
      clear hW3 hR hX b0 b1 b2
      have K0 := (HK.out _ (Below.refl _ _).drew).1
      go_wp2_with fail
      go_region_held3 (fun W => W.cell? ⟨X, 0, none⟩ = some (.string (tx nm)) ∧ W.cell? ⟨X, 1, none⟩ = some (.slice ca cn cc)) (first | exact K6 | exact K5 | exact K0 | exact HSK.out _ _ _ K6) (first | (go_at_call 50; refine (HCP.out _ HB5.out).mono ?_; rintro en w6 ⟨v', rfl, hP, hb6⟩; obtain ⟨ao, cp, hv, hP2⟩ := hP; subst hv; have HB6 := hid (HB5.out.trans (hb6.mono HB5.out.size)); have HB36 := hid (HB35.out.trans (hb6.mono HB35.out.size)); have HP6 := hid hP2; have HS6 := hid HB5.out.size; have HS35 := hid (show R < w5.heap.size from by have := HB35.out.size; omega); obtain ⟨K6, r0, r1, rf0, rf1⟩ := HK.out w6 HB36.out) | (go_at_call 49; refine (HCL.out _).mono ?_; rintro en w5 ⟨rfl, hb5⟩; have HB35 := hid (show Below W3.heap.size W3 w5 from ⟨hb5.os, hb5.tape, hb5.output, hb5.size, hb5.block⟩); have HB5 := hid (HBW.out.trans (HB35.out.mono HBW.out.size)); have K5 := (HK.out w5 HB35.out).1))
      have HFN := hid (show WhoQ w k ds (.returned (.tuple #[.agg #[.string (tx nm), .slice ao q.1.cls.length cp], .bool true])) ((w6.setCell ⟨R, 0, none⟩ (.string (tx nm))).setCell ⟨R, 1, none⟩ (.slice ao q.1.cls.length cp)) from by
        refine ⟨(HB6.out.setCell (by exact hRw) _).setCell (by exact hRw) _, .inr ⟨k, q, _, rfl, HQ.out, by rw [HNM.out], ao, cp, rfl, HP6.out.1, HP6.out.2.imp id fun ⟨b, e, hb, cs, hcs, hz⟩ => ⟨b, e, by have := HS6.out; omega, cs, ?_, hz⟩⟩⟩
        have hbR : b ≠ R := by have := HS35.out; omega
        rw [Below.heap_setCell _ _ _ _ (by exact hbR), Below.heap_setCell _ _ _ _ (by exact hbR)]
        exact hcs)
      obtain ⟨V, hV⟩ : ∃ V, V = (w6.setCell ⟨R, 0, none⟩ (.string (tx nm))).setCell ⟨R, 1, none⟩ (.slice ao q.1.cls.length cp) := ⟨_, rfl⟩
      have hvb : ∃ c0 c1, w6.heap[R]? = some (.cells #[c0, c1] 49 (0, 0)) := ⟨_, _, HRB.out w6 HB36.out⟩
      obtain ⟨c0, c1, hvb⟩ := hvb
      have hvv : V.heap[R]? = some (.cells #[.string (tx nm), .slice ao q.1.cls.length cp] 49 (0, 0)) := by rw [hV, block_set (o := 1) _ (block_set (o := 0) _ hvb)]; rfl
      have v0 : V.cell? ⟨R, 0, none⟩ = some (.string (tx nm)) := by rw [cell_at hvv]; rfl
      have v1 : V.cell? ⟨R, 1, none⟩ = some (.slice ao q.1.cls.length cp) := by rw [cell_at hvv]; rfl
      rw [hV] at v0 v1
      clear hvv hvb hV r0 r1 rf0 rf1
      go_wp2
      refine bodyPost_ret (v := .tuple #[.agg #[.string (tx nm), .slice ao q.1.cls.length cp], .bool true]) (by simp [results, Tryz.results23, go_sem, v0, v1]) rfl ?_
      exact HFN.out
    · have HQ := hid (fun (W : World) (hb : Below w.heap.size w W) => (show WhoQ w k ds (.returned (.tuple #[.agg #[.string (tx []), .slice none 0 0], .bool false])) W from ⟨hb, .inl ⟨.inr (by omega), rfl⟩⟩))
      have k1 : (n : Int) ≤ (k : Int) := by omega
      have k2 : ¬ (k : Int) < 0 := by omega
      have k3 : n ≤ k := by omega
      rw [← hnn]
      clear hr hD hs hnn h0 h1
      go_enter Tryz.func23, Tryz.ntmps23
      go_wp2
      refine bodyPost_ret (v := .tuple #[.agg #[.string (tx []), .slice none 0 0], .bool false]) (by simp [results, Tryz.results23, go_sem]) rfl ?_
      exact HQ.out _ (HZB.out _ _)
end Go.Proofs.YtebaopiedlioiaaGreatDoor
namespace Go.Proofs.YtebaopiedlioiaaGreatDoor
open Go.RowKit

/-- A number among others, once. -/
def numD (n : Int) : List Int → List Int
  | [] => [n]
  | a :: r => if a < n then a :: numD n r else if a = n then a :: r else n :: a :: r
theorem numD_is {n : Int} : ∀ {l : List Int} {i : Nat}, i ≤ l.length → (∀ (t : Nat) (x : Int), t < i → l[t]? = some x → x < n) → (∀ x, l[i]? = some x → ¬ x < n) → numD n l = if l[i]? = some n then l else l.take i ++ n :: l.drop i
  | [], i, h, _, _ => by simp at h; subst h; simp [numD]
  | a :: r, 0, _, _, k => by
    have := k a rfl
    by_cases e : a = n
    · subst e; simp [numD]
    · simp [numD, this, e]
  | a :: r, i + 1, h, h1, k => by
    have ha := h1 0 a (by omega) rfl
    rw [numD, if_pos ha, numD_is (l := r) (i := i) (by simpa using h) (fun t x ht hx => h1 (t + 1) x (by omega) (by simpa using hx)) (fun x hx => k x (by simpa using hx))]
    by_cases e : r[i]? = some n <;> simp [e]
theorem numD_mem {n x : Int} : ∀ {l : List Int}, x ∈ numD n l ↔ x = n ∨ x ∈ l
  | [] => by simp [numD]
  | a :: r => by
    unfold numD
    split
    · simp only [List.mem_cons, numD_mem (l := r)]
      constructor
      · rintro (h | h | h) <;> simp [h]
      · rintro (h | h | h) <;> simp [h]
    · split
      · rename_i h
        subst h
        simp
      · simp
theorem numD_rise {n : Int} : ∀ {l : List Int}, l.Pairwise (· < ·) → (numD n l).Pairwise (· < ·)
  | [], _ => by simp [numD]
  | a :: r, h => by
    obtain ⟨h1, h2⟩ := List.pairwise_cons.1 h
    unfold numD
    split
    · rename_i hl
      refine List.pairwise_cons.2 ⟨fun x hx => ?_, numD_rise h2⟩
      rcases numD_mem.1 hx with rfl | hx
      · exact hl
      · exact h1 x hx
    · split
      · exact h
      · rename_i hl hn
        refine List.pairwise_cons.2 ⟨fun x hx => ?_, h⟩
        rcases List.mem_cons.1 hx with rfl | hx
        · omega
        · have := h1 x hx; omega
theorem numD_len (n : Int) : ∀ (l : List Int), (numD n l).length ≤ l.length + 1
  | [] => by simp [numD]
  | a :: r => by
    unfold numD
    split
    · simpa using numD_len n r
    · split <;> simp
/-- Two rising rows that have the same numbers are one. -/
theorem rise_eq : ∀ {a b : List Int}, a.Pairwise (· < ·) → b.Pairwise (· < ·) → (∀ x, x ∈ a ↔ x ∈ b) → a = b
  | [], [], _, _, _ => rfl
  | [], y :: b, _, _, h => absurd ((h y).2 (List.mem_cons_self ..)) (by simp)
  | x :: a, [], _, _, h => absurd ((h x).1 (List.mem_cons_self ..)) (by simp)
  | x :: a, y :: b, ha, hb, h => by
    obtain ⟨a1, a2⟩ := List.pairwise_cons.1 ha
    obtain ⟨b1, b2⟩ := List.pairwise_cons.1 hb
    have hxy : x = y := by
      rcases List.mem_cons.1 ((h x).1 (List.mem_cons_self ..)) with e | e
      · exact e
      · rcases List.mem_cons.1 ((h y).2 (List.mem_cons_self ..)) with e2 | e2
        · exact e2.symm
        · have := b1 x e; have := a1 y e2; omega
    subst hxy
    rw [rise_eq a2 b2 fun z => ?_]
    constructor
    · intro hz
      rcases List.mem_cons.1 ((h z).1 (List.mem_cons_of_mem _ hz)) with e | e
      · have := a1 z hz; omega
      · exact e
    · intro hz
      rcases List.mem_cons.1 ((h z).2 (List.mem_cons_of_mem _ hz)) with e | e
      · have := b1 z hz; omega
      · exact e

/-- Numbers as they lie. -/
def numsD (zs : List Int) : List Value := zs.map (Value.int .i64)
theorem own_weakN {w : World} {B B' : Nat} {v : Value} {n : Nat} {xs : List Value} (h : w.ownsRow B' 3 1 v n xs) (hB : B ≤ B') : w.ownsRow B 3 1 v n xs :=
  ⟨h.1, h.2.imp id fun ⟨g, cap, cur, e, hb, r⟩ => ⟨g, cap, cur, e, Nat.le_trans hB hb, r⟩⟩
theorem own_madeN (w : World) : (w.alloc (.cells #[] 3)).ownsRow w.heap.size 3 1 (.slice (some ⟨w.heap.size, 0, none⟩) 0 0) 0 [] :=
  ⟨rfl, .inr ⟨w.heap.size, 0, #[], rfl, Nat.le_refl _, new_0 _ _, Nat.le_refl _, by decide, rfl, rfl⟩⟩
theorem numsD_one (l : List Int) : ∀ u ∈ numsD l, u.oneCell' = true := fun u hu => by
  unfold numsD at hu
  obtain ⟨a, -, rfl⟩ := List.mem_map.1 hu
  rfl
theorem grew_belowN {w a b : World} {W0 : Nat} {v : Value} {n : Nat} {xs : List Value} (hW : W0 ≤ w.heap.size) (hb : Below W0 w a) (ho : a.ownsRow W0 3 1 v n xs) (hg : a.grownBy b v.ownBlock) : Below W0 w b :=
  ⟨hg.os.trans hb.os, hg.tape.trans hb.tape, hg.output.trans hb.output, Nat.le_trans hb.size hg.size, fun i hi => by
    rw [hg.block i (by have := hb.size; omega) (fun r => by have := (ho.lt i r.symm).1; omega), hb.block i hi]⟩

set_option maxRecDepth 20000 in
set_option maxHeartbeats 4000000 in
theorem Rnumber_any {w : World} {B : Nat} {v : Value} {zs : List Int} {s : Int} (h : w.ownsRow B 3 1 v zs.length (numsD zs)) (hB : B ≤ w.heap.size) (hn : zs.length ≤ 1000000) :
    Calls Tryz.prog 53 #[v, .int .i64 s] w fun e w' => ∃ v', e = .returned v' ∧ w'.ownsRow B 3 1 v' (numD s zs).length (numsD (numD s zs)) ∧ Below w.heap.size w w' := by
  obtain ⟨i0, hi, hz0, hz1, hz2⟩ := info_parts Tryz.infoIntN
  have HI := hid hi
  have HZ0 := hid hz0
  have HZ1 := hid hz1
  have HZ2 := hid hz2
  clear hi hz0 hz1 hz2
  obtain ⟨n, hnn⟩ : ∃ n, n = zs.length := ⟨_, rfl⟩
  have HN := hid hnn
  have HOW := hid h
  obtain ⟨W0, hW0⟩ : ∃ W0, W0 = w.heap.size := ⟨_, rfl⟩
  have HW0 := hid hW0
  have HM0 := hid (own_madeN w)
  have HB0 := hid (show Below w.heap.size w (w.alloc (.cells #[] 3)) from (Below.refl _ _).alloc (Nat.le_refl _) _)
  rw [← hW0] at HM0 HB0
  have hWle : W0 ≤ w.heap.size := Nat.le_of_eq hW0
  have HWB := hid (show B ≤ W0 from by rw [hW0]; exact hB)
  have HFN := hid (fun (j : Nat) (hp : numD s zs = zs.take j ++ s :: zs.drop j) (v3 : Value) (w3 : World) (n3 : Nat) (h3 : w3.ownsRow W0 3 1 v3 n3 (numsD (zs.take j) ++ .int .i64 s :: numsD (zs.drop j))) => (show w3.ownsRow B 3 1 v3 (numD s zs).length (numsD (numD s zs)) from by
    have e : numsD (zs.take j) ++ .int .i64 s :: numsD (zs.drop j) = numsD (numD s zs) := by
      rw [hp]; unfold numsD; simp
    rw [e] at h3
    have hl : n3 = (numD s zs).length := by have := h3.1; unfold numsD at this; simp at this; omega
    rw [hl] at h3
    exact own_weakN h3 HWB.out))
  rcases h.2 with ⟨e, h0⟩ | ⟨g, cap, cur, e, hBg, hh, hnc, -, -, ht⟩
  · subst e
    have hz : zs = [] := List.length_eq_zero_iff.1 h0
    subst hz
    have hn0 : n = 0 := hnn
    subst hn0
    clear h hnn h0 hW0 hB
    go_enter Tryz.func53, Tryz.ntmps53
    go_wp2_with fail
    go_loopw [5] (fun i wr => ∃ j : Nat, j ≤ 0 ∧ i = .int .i64 j ∧ Hid (wr = w)) (fun i _ => 0 - (intOf i).toNat)
    case atStart => exact ⟨0, Nat.zero_le _, rfl, hid rfl⟩
    case round =>
      obtain ⟨j, hj, rfl, hW⟩ := hrel
      obtain rfl := hW.out
      have hj0 : j = 0 := by omega
      subst hj0
      have HFIN := hid (HFN.out 0 rfl)
      go_upto_region 6 with fail
      go_wp2_with (first | (at_builtin; refine wpList_append_srcJ _ rfl (.tmp 34) (.tmp 37) 52 rfl W0 3 i0 (.int .i64 0) 1 8 Tryz.underlying52 HI.out HZ0.out HZ1.out HZ2.out rfl (by decide) (.slice (some ⟨W0, 0, none⟩) 0 0) 0 [] (by rw [HW0.out]; rfl) HM0.out _ (0) (numsD (([] : List Int).take 0)) rfl (.inl ⟨rfl, rfl, rfl⟩) (numsD_one _) (by unfold maxLen; omega) (by omega) (by have := HB0.out.size; omega) ?_))
      intro v1 w1 hown1 hg1
      have HB1 := hid (grew_belowN hWle HB0.out HM0.out hg1)
      (try rw [Nat.zero_add] at hown1); (try rw [List.nil_append] at hown1)
      have HO1 := hid hown1
      clear hown1 hg1
      obtain ⟨a1, c1, rfl⟩ := own_formJ HO1.out
      have HO1a := hid (fun (ob : Obj) => (show (w1.alloc ob).ownsRow W0 3 1 (.slice a1 (0) c1) (0) (numsD (([] : List Int).take 0)) from own_sameJ HO1.out fun i r => by rw [Below.heap_alloc _ _ _ (HO1.out.lt i r).2]))
      have HB1a := hid (fun (ob : Obj) => (show Below W0 wr (w1.alloc ob) from HB1.out.alloc (by have := HB1.out.size; omega) _))
      go_wp2_with (first | (at_builtin; refine wpList_append_srcJ _ rfl (.tmp 38) (.tmp 40) 52 rfl W0 3 i0 (.int .i64 0) 1 8 Tryz.underlying52 HI.out HZ0.out HZ1.out HZ2.out rfl (by decide) (.slice a1 (0) c1) (0) (numsD (([] : List Int).take 0)) rfl (HO1a.out _) _ 1 [.int .i64 s] rfl (.inr ⟨⟨w1.heap.size, 0, none⟩, 1, rfl, rfl, World.news_of_block (new_0 w1 _)⟩) (by simp [Value.oneCell']) (by unfold maxLen; omega) (by omega) (by have := (HB1a.out (.cells #[.int .i64 s] 3)).size; omega) ?_))
      intro v2 w2 hown2 hg2
      have HB2 := hid (grew_belowN hWle (HB1a.out _) (HO1a.out _) hg2)
      have HO2 := hid hown2
      clear hown2 hg2
      obtain ⟨a2, c2, rfl⟩ := own_formJ HO2.out
      go_wp2_with (first | (at_builtin; refine wpList_append_srcJ _ rfl (.tmp 42) (.tmp 45) 52 rfl W0 3 i0 (.int .i64 0) 1 8 Tryz.underlying52 HI.out HZ0.out HZ1.out HZ2.out rfl (by decide) (.slice a2 (0 + 1) c2) (0 + 1) (numsD (([] : List Int).take 0) ++ [.int .i64 s]) rfl HO2.out _ (0) ([]) rfl (.inl ⟨rfl, rfl, rfl⟩) (by simp) (by unfold maxLen; omega) (by omega) (by have := HB2.out.size; omega) ?_))
      intro v3 w3 hown3 hg3
      have HB3 := hid (grew_belowN hWle HB2.out HO2.out hg3)
      have HO3 := hid hown3
      clear hown3 hg3
      go_wp2
      go_ret
      exact ⟨_, rfl, HFIN.out _ _ _ (by first | exact HO3.out | simpa using HO3.out), HW0.out ▸ HB3.out⟩
  · subst e
    have hcell : ∀ (i : Nat) (x : Int), zs[i]? = some x → w.cell? ⟨g, i, none⟩ = some (.int .i64 x) := fun i x hx => by
      have hi := (List.getElem?_eq_some_iff.1 hx).1
      rw [cell_at hh, ← Array.getElem?_toList]
      have : (cur.toList.take (zs.length * 1))[i]? = some (.int .i64 x) := by
        rw [ht]; unfold numsD; rw [List.getElem?_map, hx]; rfl
      rw [List.getElem?_take, if_pos (by omega)] at this
      exact this
    have hgl : g < W0 := by rw [hW0]; exact lt_of_block hh
    have HCE := hid hcell
    have HTL := hid (fun (j : Nat) (hj : j ≤ n) => (show (numsD (zs.take j)).length = j * 1 from by unfold numsD; rw [List.length_map, List.length_take]; omega))
    have HSR := hid (fun (W : World) (hb : Below W0 w W) (i : Nat) (x : Int) (hx : zs[i]? = some x) => (World.cell?_of_block (a := ⟨g, i, none⟩) (hb.block g hgl)).trans (hcell i x hx))
    have hncI : n ≤ cap := by rw [hnn]; exact hnc
    have hn2 : n ≤ 1000000 := by rw [hnn]; exact hn
    rw [← hnn]
    clear h hh hnc ht hnn hW0 hcell hB
    go_enter Tryz.func53, Tryz.ntmps53
    go_wp2_with fail
    go_loopw [5] (fun i wr => ∃ j : Nat, j ≤ n ∧ i = .int .i64 j ∧ Hid (∀ (t : Nat) (x : Int), t < j → zs[t]? = some x → x < s) ∧ Hid (wr = w)) (fun i _ => n - (intOf i).toNat)
    case atStart => exact ⟨0, Nat.zero_le _, rfl, hid fun t x h => absurd h (Nat.not_lt_zero _), hid rfl⟩
    case round =>
      obtain ⟨j, hj, rfl, hA, hW⟩ := hrel
      obtain rfl := hW.out
      have HS1 := hid (fun (i : Nat) (u : Value) (hu : (numsD (zs.take j))[i]? = some u) => (by
        unfold numsD at hu
        rw [List.getElem?_map, Option.map_eq_some_iff] at hu
        obtain ⟨x, hx, rfl⟩ := hu
        rw [List.getElem?_take] at hx
        split at hx
        · have := (World.cell?_of_block (a := ⟨g, i, none⟩) (HB0.out.block g hgl)).trans (HCE.out i x hx)
          rw [show (⟨g, 0, none⟩ : Addr).add i = ⟨g, i, none⟩ by unfold Addr.add; split <;> simp_all]
          exact this
        · exact absurd hx (by simp) : (wr.alloc (.cells #[] 3)).cell? ((⟨g, 0, none⟩ : Addr).add i) = some u))
      by_cases hlt : j < n
      · obtain ⟨x, hx⟩ : ∃ x, zs[j]? = some x := ⟨_, List.getElem?_eq_getElem (by have := HN.out; omega)⟩
        have y0 := HCE.out j x hx
        have jI : (j : Int) < (n : Int) := by omega
        have j0 : (0 : Int) ≤ (j : Int) := by omega
        have jc : (j : Int) ≤ (cap : Int) := by omega
        have jcn : j ≤ cap := by omega
        have HX := hid hx
        clear hx
        by_cases hl : x < s
        · have HA2 := hid (show ∀ (t : Nat) (y : Int), t < j + 1 → zs[t]? = some y → y < s from fun t y ht hy => by
            by_cases e : t = j
            · rw [e, HX.out] at hy
              injection hy with hy
              rw [← hy]; exact hl
            · exact hA.out t y (by omega) hy)
          clear HS1
          go_wp2
          go_roundw
          case rel => exact ⟨j + 1, by omega, by go_num, HA2, hid trivial⟩
          case measure => simp [intOf]; omega
        · have HIS := hid (numD_is (n := s) (l := zs) (i := j) (by have := HN.out; omega) hA.out (fun y hy => by rw [HX.out] at hy; injection hy with hy; rw [← hy]; exact hl))
          by_cases he : x = s
          · subst he
            have HE := hid (show wr.ownsRow B 3 1 (.slice (some ⟨g, 0, none⟩) n cap) (numD x zs).length (numsD (numD x zs)) from by
              rw [HIS.out, if_pos HX.out]; have := HOW.out; rw [← HN.out] at this ⊢; exact this)
            clear HS1
            go_wp2
            go_ret
            exact ⟨_, rfl, HE.out, Below.refl _ _⟩
          · have HFIN := hid (HFN.out j (by rw [HIS.out, if_neg (by rw [HX.out]; intro e; injection e with e; exact he e)]))
            have HNL := hid (show (numsD (zs.drop j)).length = (n - j) * 1 from by unfold numsD; rw [List.length_map, List.length_drop, ← HN.out]; omega)
            go_upto_region 6 with fail
            go_wp2_with (first | (at_builtin; refine wpList_append_srcJ _ rfl (.tmp 34) (.tmp 37) 52 rfl W0 3 i0 (.int .i64 0) 1 8 Tryz.underlying52 HI.out HZ0.out HZ1.out HZ2.out rfl (by decide) (.slice (some ⟨W0, 0, none⟩) 0 0) 0 [] (by rw [HW0.out]; rfl) HM0.out _ (j) (numsD (zs.take j)) rfl (.inr ⟨⟨g, 0, none⟩, _, rfl, HTL.out _ (by omega), HS1.out⟩) (numsD_one _) (by unfold maxLen; omega) (by omega) (by have := HB0.out.size; omega) ?_))
            intro v1 w1 hown1 hg1
            have HB1 := hid (grew_belowN hWle HB0.out HM0.out hg1)
            (try rw [Nat.zero_add] at hown1); (try rw [List.nil_append] at hown1)
            have HO1 := hid hown1
            clear hown1 hg1
            obtain ⟨a1, c1, rfl⟩ := own_formJ HO1.out
            have HO1a := hid (fun (ob : Obj) => (show (w1.alloc ob).ownsRow W0 3 1 (.slice a1 (j) c1) (j) (numsD (zs.take j)) from own_sameJ HO1.out fun i r => by rw [Below.heap_alloc _ _ _ (HO1.out.lt i r).2]))
            have HB1a := hid (fun (ob : Obj) => (show Below W0 wr (w1.alloc ob) from HB1.out.alloc (by have := HB1.out.size; omega) _))
            go_wp2_with (first | (at_builtin; refine wpList_append_srcJ _ rfl (.tmp 38) (.tmp 40) 52 rfl W0 3 i0 (.int .i64 0) 1 8 Tryz.underlying52 HI.out HZ0.out HZ1.out HZ2.out rfl (by decide) (.slice a1 (j) c1) (j) (numsD (zs.take j)) rfl (HO1a.out _) _ 1 [.int .i64 s] rfl (.inr ⟨⟨w1.heap.size, 0, none⟩, 1, rfl, rfl, World.news_of_block (new_0 w1 _)⟩) (by simp [Value.oneCell']) (by unfold maxLen; omega) (by omega) (by have := (HB1a.out (.cells #[.int .i64 s] 3)).size; omega) ?_))
            intro v2 w2 hown2 hg2
            have HB2 := hid (grew_belowN hWle (HB1a.out _) (HO1a.out _) hg2)
            have HO2 := hid hown2
            clear hown2 hg2
            obtain ⟨a2, c2, rfl⟩ := own_formJ HO2.out
            have HSD := hid (fun (i : Nat) (u : Value) (hu : (numsD (zs.drop j))[i]? = some u) => (by
              unfold numsD at hu
              rw [List.getElem?_map, Option.map_eq_some_iff] at hu
              obtain ⟨y, hy, rfl⟩ := hu
              rw [List.getElem?_drop] at hy
              have := HSR.out w2 HB2.out (j + i) y hy
              rw [show (⟨g, j, none⟩ : Addr).add i = ⟨g, j + i, none⟩ by unfold Addr.add; split <;> simp_all]
              exact this : w2.cell? ((⟨g, j, none⟩ : Addr).add i) = some u))
            go_wp2_with (first | (at_builtin; refine wpList_append_srcJ _ rfl (.tmp 42) (.tmp 45) 52 rfl W0 3 i0 (.int .i64 0) 1 8 Tryz.underlying52 HI.out HZ0.out HZ1.out HZ2.out rfl (by decide) (.slice a2 (j + 1) c2) (j + 1) (numsD (zs.take j) ++ [.int .i64 s]) rfl HO2.out _ (n - j) (numsD (zs.drop j)) rfl (.inr ⟨⟨g, j, none⟩, _, rfl, HNL.out, HSD.out⟩) (numsD_one _) (by unfold maxLen; omega) (by omega) (by have := HB2.out.size; omega) ?_))
            intro v3 w3 hown3 hg3
            have HB3 := hid (grew_belowN hWle HB2.out HO2.out hg3)
            have HO3 := hid hown3
            clear hown3 hg3
            go_wp2
            go_ret
            exact ⟨_, rfl, HFIN.out _ _ _ (by first | exact HO3.out | simpa using HO3.out), HW0.out ▸ HB3.out⟩
      · have hjn : j = n := by omega
        subst hjn
        have HIS := hid (numD_is (n := s) (l := zs) (i := j) (by have := HN.out; omega) hA.out (fun y hy => by have := (List.getElem?_eq_some_iff.1 hy).1; have := HN.out; omega))
        have HFIN0 := hid (HFN.out j (by rw [HIS.out, if_neg (by intro e; have := (List.getElem?_eq_some_iff.1 e).1; have := HN.out; omega)]))
        have HFIN := hid (show ∀ (v3 : Value) (w3 : World) (n3 : Nat), w3.ownsRow W0 3 1 v3 n3 (numsD (zs.take j) ++ [.int .i64 s]) → w3.ownsRow B 3 1 v3 (numD s zs).length (numsD (numD s zs)) from fun v3 w3 n3 h3 => HFIN0.out v3 w3 n3 (by rw [List.drop_eq_nil_of_le (by rw [← HN.out]; exact Nat.le_refl _)]; simpa [numsD] using h3))
        clear HFIN0
        have jI : ¬ (j : Int) < (j : Int) := by omega
        rcases Nat.lt_or_eq_of_le hncI with hcl | hcl
        · have jc : (j : Int) ≤ (cap : Int) := by omega
          go_upto_region 6 with fail
          go_wp2_with (first | (at_builtin; refine wpList_append_srcJ _ rfl (.tmp 34) (.tmp 37) 52 rfl W0 3 i0 (.int .i64 0) 1 8 Tryz.underlying52 HI.out HZ0.out HZ1.out HZ2.out rfl (by decide) (.slice (some ⟨W0, 0, none⟩) 0 0) 0 [] (by rw [HW0.out]; rfl) HM0.out _ (j) (numsD (zs.take j)) rfl (.inr ⟨⟨g, 0, none⟩, _, rfl, HTL.out _ (by omega), HS1.out⟩) (numsD_one _) (by unfold maxLen; omega) (by omega) (by have := HB0.out.size; omega) ?_))
          intro v1 w1 hown1 hg1
          have HB1 := hid (grew_belowN hWle HB0.out HM0.out hg1)
          (try rw [Nat.zero_add] at hown1); (try rw [List.nil_append] at hown1)
          have HO1 := hid hown1
          clear hown1 hg1
          obtain ⟨a1, c1, rfl⟩ := own_formJ HO1.out
          have HO1a := hid (fun (ob : Obj) => (show (w1.alloc ob).ownsRow W0 3 1 (.slice a1 (j) c1) (j) (numsD (zs.take j)) from own_sameJ HO1.out fun i r => by rw [Below.heap_alloc _ _ _ (HO1.out.lt i r).2]))
          have HB1a := hid (fun (ob : Obj) => (show Below W0 wr (w1.alloc ob) from HB1.out.alloc (by have := HB1.out.size; omega) _))
          go_wp2_with (first | (at_builtin; refine wpList_append_srcJ _ rfl (.tmp 38) (.tmp 40) 52 rfl W0 3 i0 (.int .i64 0) 1 8 Tryz.underlying52 HI.out HZ0.out HZ1.out HZ2.out rfl (by decide) (.slice a1 (j) c1) (j) (numsD (zs.take j)) rfl (HO1a.out _) _ 1 [.int .i64 s] rfl (.inr ⟨⟨w1.heap.size, 0, none⟩, 1, rfl, rfl, World.news_of_block (new_0 w1 _)⟩) (by simp [Value.oneCell']) (by unfold maxLen; omega) (by omega) (by have := (HB1a.out (.cells #[.int .i64 s] 3)).size; omega) ?_))
          intro v2 w2 hown2 hg2
          have HB2 := hid (grew_belowN hWle (HB1a.out _) (HO1a.out _) hg2)
          have HO2 := hid hown2
          clear hown2 hg2
          obtain ⟨a2, c2, rfl⟩ := own_formJ HO2.out
          go_wp2_with (first | (at_builtin; refine wpList_append_srcJ _ rfl (.tmp 42) (.tmp 45) 52 rfl W0 3 i0 (.int .i64 0) 1 8 Tryz.underlying52 HI.out HZ0.out HZ1.out HZ2.out rfl (by decide) (.slice a2 (j + 1) c2) (j + 1) (numsD (zs.take j) ++ [.int .i64 s]) rfl HO2.out _ 0 [] rfl (.inr ⟨_, _, rfl, rfl, fun i u hu => absurd hu (by simp)⟩) (by simp) (by unfold maxLen; omega) (by omega) (by have := HB2.out.size; omega) ?_))
          intro v3 w3 hown3 hg3
          have HB3 := hid (grew_belowN hWle HB2.out HO2.out hg3)
          have HO3 := hid hown3
          clear hown3 hg3
          go_wp2
          go_ret
          exact ⟨_, rfl, HFIN.out _ _ _ (by first | exact HO3.out | simpa using HO3.out), HW0.out ▸ HB3.out⟩
        · subst hcl
          have jc : (j : Int) ≤ (j : Int) := by omega
          go_upto_region 6 with fail
          go_wp2_with (first | (at_builtin; refine wpList_append_srcJ _ rfl (.tmp 34) (.tmp 37) 52 rfl W0 3 i0 (.int .i64 0) 1 8 Tryz.underlying52 HI.out HZ0.out HZ1.out HZ2.out rfl (by decide) (.slice (some ⟨W0, 0, none⟩) 0 0) 0 [] (by rw [HW0.out]; rfl) HM0.out _ (j) (numsD (zs.take j)) rfl (.inr ⟨⟨g, 0, none⟩, _, rfl, HTL.out _ (by omega), HS1.out⟩) (numsD_one _) (by unfold maxLen; omega) (by omega) (by have := HB0.out.size; omega) ?_))
          intro v1 w1 hown1 hg1
          have HB1 := hid (grew_belowN hWle HB0.out HM0.out hg1)
          (try rw [Nat.zero_add] at hown1); (try rw [List.nil_append] at hown1)
          have HO1 := hid hown1
          clear hown1 hg1
          obtain ⟨a1, c1, rfl⟩ := own_formJ HO1.out
          have HO1a := hid (fun (ob : Obj) => (show (w1.alloc ob).ownsRow W0 3 1 (.slice a1 (j) c1) (j) (numsD (zs.take j)) from own_sameJ HO1.out fun i r => by rw [Below.heap_alloc _ _ _ (HO1.out.lt i r).2]))
          have HB1a := hid (fun (ob : Obj) => (show Below W0 wr (w1.alloc ob) from HB1.out.alloc (by have := HB1.out.size; omega) _))
          go_wp2_with (first | (at_builtin; refine wpList_append_srcJ _ rfl (.tmp 38) (.tmp 40) 52 rfl W0 3 i0 (.int .i64 0) 1 8 Tryz.underlying52 HI.out HZ0.out HZ1.out HZ2.out rfl (by decide) (.slice a1 (j) c1) (j) (numsD (zs.take j)) rfl (HO1a.out _) _ 1 [.int .i64 s] rfl (.inr ⟨⟨w1.heap.size, 0, none⟩, 1, rfl, rfl, World.news_of_block (new_0 w1 _)⟩) (by simp [Value.oneCell']) (by unfold maxLen; omega) (by omega) (by have := (HB1a.out (.cells #[.int .i64 s] 3)).size; omega) ?_))
          intro v2 w2 hown2 hg2
          have HB2 := hid (grew_belowN hWle (HB1a.out _) (HO1a.out _) hg2)
          have HO2 := hid hown2
          clear hown2 hg2
          obtain ⟨a2, c2, rfl⟩ := own_formJ HO2.out
          go_wp2_with (first | (at_builtin; refine wpList_append_srcJ _ rfl (.tmp 42) (.tmp 45) 52 rfl W0 3 i0 (.int .i64 0) 1 8 Tryz.underlying52 HI.out HZ0.out HZ1.out HZ2.out rfl (by decide) (.slice a2 (j + 1) c2) (j + 1) (numsD (zs.take j) ++ [.int .i64 s]) rfl HO2.out _ 0 [] rfl (.inr ⟨_, _, rfl, rfl, fun i u hu => absurd hu (by simp)⟩) (by simp) (by unfold maxLen; omega) (by omega) (by have := HB2.out.size; omega) ?_))
          intro v3 w3 hown3 hg3
          have HB3 := hid (grew_belowN hWle HB2.out HO2.out hg3)
          have HO3 := hid hown3
          clear hown3 hg3
          go_wp2
          go_ret
          exact ⟨_, rfl, HFIN.out _ _ _ (by first | exact HO3.out | simpa using HO3.out), HW0.out ▸ HB3.out⟩
end Go.Proofs.YtebaopiedlioiaaGreatDoor
